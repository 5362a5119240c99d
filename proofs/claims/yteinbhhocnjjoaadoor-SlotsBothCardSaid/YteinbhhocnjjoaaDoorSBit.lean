/- What same.Bit, Equal, Any and Choose answer, at any number and texts (Choose's up to 2^48 bytes): the walks of their texts. -/
import Derived.Test.YteinbhhocnjjoaaDoorSClo
namespace Go.Proofs.YteinbhhocnjjoaaDoor.SBit
open Go.RowKit
open SamN
theorem ent_bit : ∀ (args : Array Value) (W : World), (callFunc 60 args).run Tryd.prog W = .ok (.enter 60 args) W := fun _ _ => rfl
theorem ent_any : ∀ (args : Array Value) (W : World), (callFunc 59 args).run Tryd.prog W = .ok (.enter 59 args) W := fun _ _ => rfl
theorem makes (fn : Fn) (first cap : Array Value) (w : World) : (Instr.makeFunc fn first cap).run Tryd.prog w = .ok (.func fn first cap) w := rfl
/-- Both texts' boxes, behind their laying. -/
theorem two_boxes (a b : List UInt8) (w : World) : ((w.alloc (.cells #[.string ⟨a.toArray⟩] 9)).alloc (.cells #[.string ⟨b.toArray⟩] 9)).cell? ⟨w.heap.size, 0, none⟩ = some (.string ⟨a.toArray⟩) ∧
    ((w.alloc (.cells #[.string ⟨a.toArray⟩] 9)).alloc (.cells #[.string ⟨b.toArray⟩] 9)).cell? ⟨w.heap.size + 1, 0, none⟩ = some (.string ⟨b.toArray⟩) :=
  ⟨blk_cell (heap_alloc2_old w _ _) rfl, blk_cell (heap_alloc2_new w _ _) rfl⟩
theorem Bit_len (a b : List UInt8) (w : World) (h : ¬ a.length = b.length) :
    Calls Tryd.prog 45 #[.string ⟨a.toArray⟩, .string ⟨b.toArray⟩] w fun e w' => e = .returned (.int .i64 (bit a b)) ∧ Below w.heap.size w w' := by
  rw [bit_len a b h]
  have hne : ((a.length : Int) == (b.length : Int)) = false := by rw [beq_eq_false_iff_ne]; omega
  have hne' : ((a.length : Int) != (b.length : Int)) = true := by rw [bne, hne]; rfl
  have HB := Lib.hid (((Below.refl w.heap.size w).alloc (Nat.le_refl _) (.cells #[.string ⟨a.toArray⟩] 9)).alloc (by simp) (.cells #[.string ⟨b.toArray⟩] 9))
  obtain ⟨c1, c2⟩ := two_boxes a b w
  go_enter Tryd.func45, Tryd.ntmps45
  go_wp2
  go_ret
  exact ⟨rfl, HB.out⟩
theorem Bit_good (a b : List UInt8) (w : World) (h : a.length = b.length) (hm : a.length ≤ maxLen) :
    Calls Tryd.prog 45 #[.string ⟨a.toArray⟩, .string ⟨b.toArray⟩] w fun e w' => e = .returned (.int .i64 (bit a b)) ∧ Below w.heap.size w w' := by
  have HE := Lib.hid (bit_some a b h)
  have hne : ((a.length : Int) == (b.length : Int)) = true := by rw [beq_iff_eq]; omega
  have hne' : ((a.length : Int) != (b.length : Int)) = false := by rw [bne, hne]; rfl
  have HB := Lib.hid (((Below.refl w.heap.size w).alloc (Nat.le_refl _) (.cells #[.string ⟨a.toArray⟩] 9)).alloc (by simp) (.cells #[.string ⟨b.toArray⟩] 9))
  obtain ⟨c1, c2⟩ := two_boxes a b w
  have HO := Lib.hid (SClo.some_over 60 #[.pointer (some ⟨w.heap.size, 0, none⟩), .pointer (some ⟨w.heap.size + 1, 0, none⟩)] a.length (fun i => a.getD i 0 ^^^ b.getD i 0)
    ((w.alloc (.cells #[.string ⟨a.toArray⟩] 9)).alloc (.cells #[.string ⟨b.toArray⟩] 9)) hm ent_bit
    (fun i W hi hb => SClo.bit_at w.heap.size (w.heap.size + 1) i a b W ((hb.cell (by simp; omega)).trans c1) ((hb.cell (by simp)).trans c2) hi (by omega)))
  have hmf := makes
  have hs := some1_01 (fun i => a.getD i 0 ^^^ b.getD i 0) a.length
  generalize some1 (fun i => a.getD i 0 ^^^ b.getD i 0) a.length = z at *
  clear h hm
  go_enter Tryd.func45, Tryd.ntmps45
  go_wp2_with fail
  refine HO.out.mono ?_
  rintro e w1 ⟨rfl, hb1⟩
  have HB1 := Lib.hid (HB.out.trans (hb1.mono HB.out.size))
  clear hb1
  go_wp2
  go_ret
  exact ⟨by rw [← HE.out]; rfl, HB1.out⟩
/-- THE CONTRACT of same.Bit. -/
theorem Bit (a b : List UInt8) (w : World) (hm : a.length ≤ maxLen) :
    Calls Tryd.prog 45 #[.string ⟨a.toArray⟩, .string ⟨b.toArray⟩] w fun e w' => e = .returned (.int .i64 (bit a b)) ∧ Below w.heap.size w w' := by
  by_cases h : a.length = b.length
  · exact Bit_good a b w h hm
  · exact Bit_len a b w h
theorem Equal_yes (a b : List UInt8) (w : World) (h : a = b) (hm : a.length ≤ maxLen) :
    Calls Tryd.prog 30 #[.string ⟨a.toArray⟩, .string ⟨b.toArray⟩] w fun e w' => e = .returned (.bool true) ∧ Below w.heap.size w w' := by
  have HB := Lib.hid (fun W => Bit a b W hm)
  rw [bit, if_pos h] at HB
  clear h hm
  go_enter Tryd.func30, Tryd.ntmps30
  go_wp2_with fail
  refine (HB.out _).mono ?_
  rintro e w1 ⟨rfl, hb1⟩
  go_wp2
  go_ret
  exact ⟨rfl, hb1⟩
theorem Equal_no (a b : List UInt8) (w : World) (h : ¬ a = b) (hm : a.length ≤ maxLen) :
    Calls Tryd.prog 30 #[.string ⟨a.toArray⟩, .string ⟨b.toArray⟩] w fun e w' => e = .returned (.bool false) ∧ Below w.heap.size w w' := by
  have HB := Lib.hid (fun W => Bit a b W hm)
  rw [bit, if_neg h] at HB
  clear h hm
  go_enter Tryd.func30, Tryd.ntmps30
  go_wp2_with fail
  refine (HB.out _).mono ?_
  rintro e w1 ⟨rfl, hb1⟩
  go_wp2
  go_ret
  exact ⟨rfl, hb1⟩
/-- THE CONTRACT of same.Any. -/
theorem Any (a : List UInt8) (w : World) (hm : a.length ≤ maxLen) :
    Calls Tryd.prog 44 #[.string ⟨a.toArray⟩] w fun e w' => e = .returned (.int .i64 (any a)) ∧ Below w.heap.size w w' := by
  have HE := Lib.hid (any_some a)
  have HB := Lib.hid ((Below.refl w.heap.size w).alloc (Nat.le_refl _) (.cells #[.string ⟨a.toArray⟩] 9))
  have c1 : (w.alloc (.cells #[.string ⟨a.toArray⟩] 9)).cell? ⟨w.heap.size, 0, none⟩ = some (.string ⟨a.toArray⟩) := blk_cell (heap_alloc_new w _) rfl
  have HO := Lib.hid (SClo.some_over 59 #[.pointer (some ⟨w.heap.size, 0, none⟩)] a.length (fun i => a.getD i 0)
    (w.alloc (.cells #[.string ⟨a.toArray⟩] 9)) hm ent_any
    (fun i W hi hb => SClo.any_at w.heap.size i a W ((hb.cell (by simp)).trans c1) hi))
  have hmf := makes
  generalize some1 (fun i => a.getD i 0) a.length = z at *
  clear hm
  go_enter Tryd.func44, Tryd.ntmps44
  go_wp2_with fail
  refine HO.out.mono ?_
  rintro e w1 ⟨rfl, hb1⟩
  have HB1 := Lib.hid (HB.out.trans (hb1.mono HB.out.size))
  clear hb1
  go_wp2
  go_ret
  exact ⟨by rw [← HE.out]; rfl, HB1.out⟩
end Go.Proofs.YteinbhhocnjjoaaDoor.SBit
