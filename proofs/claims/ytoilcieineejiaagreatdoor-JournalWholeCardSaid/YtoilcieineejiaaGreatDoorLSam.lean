/- SClo SBit SCho: one behind the other. -/
import Derived.Test.YtoilcieineejiaaGreatDoorSamN
import Derived.Test.YtoilcieineejiaaGreatDoorRows
import Derived.Test.YtoilcieineejiaaGreatDoorLMem
import Derived.Outline
import Derived.Deep.QuietTactic
import Derived.BigQuiet
/- The closures that same hands to some and filled, and both of these over each of them: the walks of their texts. -/
namespace Go.Proofs.YtoilcieineejiaaGreatDoor.SClo
open Go.RowKit
open SamN
set_option maxRecDepth 100000 in
theorem bit_at (S T i : Nat) (s t : List UInt8) (W : World) (hs : W.cell? ⟨S, 0, none⟩ = some (.string ⟨s.toArray⟩)) (ht : W.cell? ⟨T, 0, none⟩ = some (.string ⟨t.toArray⟩)) (h1 : i < s.length) (h2 : i < t.length) :
    Calls Tryz.prog 164 #[.int .i64 i, .pointer (some ⟨S, 0, none⟩), .pointer (some ⟨T, 0, none⟩)] W fun e w' => e = .returned (.int .u8 (s.getD i 0 ^^^ t.getD i 0).toNat) ∧ ∃ n, w' = W.drewN n := by
  have HX : Hid (∀ h g, bits .xor .u8 (((⟨s.toArray⟩ : ByteArray)[i]'h).toNat : Int) (((⟨t.toArray⟩ : ByteArray)[i]'g).toNat : Int) = ((s.getD i 0 ^^^ t.getD i 0).toNat : Int)) := by
    intro h g
    rw [at_list, at_list]
    exact x8 _ _
  have g1 : (i : Int) < (s.length : Int) := by omega
  have g2 : (i : Int) < (t.length : Int) := by omega
  have z1 : (0 : Int) ≤ (i : Int) := by omega
  go_enter Tryz.func164, Tryz.ntmps164
  go_wp2_with fail
  go_quiet (fail)
  go_wp2
  go_ret
  rw [HX.out]
  exact ⟨rfl, _, rfl⟩
set_option maxRecDepth 100000 in
theorem any_at (S i : Nat) (s : List UInt8) (W : World) (hs : W.cell? ⟨S, 0, none⟩ = some (.string ⟨s.toArray⟩)) (h1 : i < s.length) :
    Calls Tryz.prog 163 #[.int .i64 i, .pointer (some ⟨S, 0, none⟩)] W fun e w' => e = .returned (.int .u8 (s.getD i 0).toNat) ∧ ∃ n, w' = W.drewN n := by
  have HX : Hid (∀ h, (((⟨s.toArray⟩ : ByteArray)[i]'h).toNat : Int) = ((s.getD i 0).toNat : Int)) := by
    intro h
    rw [at_list]
  have g1 : (i : Int) < (s.length : Int) := by omega
  have z1 : (0 : Int) ≤ (i : Int) := by omega
  go_enter Tryz.func163, Tryz.ntmps163
  go_wp2_with fail
  go_ret
  rw [HX.out]
  exact ⟨rfl, 0, rfl⟩
/-- some, over any closure. -/
theorem some_over (K : Nat) (cap : Array Value) (n : Nat) (f : Nat → UInt8) (w : World) (hn : n ≤ maxLen) (hK : ∀ (args : Array Value) (W : World), (callFunc K args).run Tryz.prog W = .ok (.enter K args) W)
    (hc : ∀ (i : Nat) (W : World), i < n → Below w.heap.size w W → Calls Tryz.prog K (#[.int .i64 i] ++ cap) W fun e w' => e = .returned (.int .u8 (f i).toNat) ∧ ∃ m, w' = W.drewN m) :
    Calls Tryz.prog 162 #[.int .i64 n, .func (.func K) #[] cap] w fun e w' => e = .returned (.int .i64 (some1 f n)) ∧ Below w.heap.size w w' := by
  unfold maxLen at hn
  have HC := Lib.hid hc
  clear hc
  go_enter Tryz.func162, Tryz.ntmps162
  go_wp2_with fail
  go_loopw [5, 8] (fun a i wr => ∃ j : Nat, j ≤ n ∧ i = .int .i64 j ∧ a = .int .u8 (acc f j).toNat ∧ Below w.heap.size w wr) (fun _ i _ => n - (intOf i).toNat)
  case atStart => exact ⟨0, Nat.zero_le _, rfl, rfl, Below.refl _ _⟩
  case round =>
    obtain ⟨j, hj, rfl, rfl, hbel⟩ := hrel
    by_cases hlt : j < n
    · have HD := Lib.hid (HC.out j wr hlt hbel)
      have HX : Hid (bits .or .u8 ((acc f j).toNat : Int) ((f j).toNat : Int) = ((acc f (j + 1)).toNat : Int)) := o8 _ _
      generalize hA : acc f j = aj at *
      clear hA
      go_wp2_with fail
      refine HD.out.mono ?_
      rintro e w1 ⟨rfl, nd, rfl⟩
      go_wp2
      go_roundw
      case rel =>
        exact ⟨j + 1, by omega, by go_num, by rw [HX.out], hbel.trans (below_drewN wr nd)⟩
      case measure => simp [intOf]; omega
    · have hk : j = n := by omega
      subst hk
      have HE : Hid ((((acc f j).toNat : Int) + 255) / 256 = some1 f j) := some1_shift f j
      have hb := (acc f j).toNat_lt
      generalize acc f j = aj at *
      go_wp2
      go_ret
      exact ⟨by rw [← HE.out]; rfl, hbel⟩
theorem info5 : (Tryz.prog.info? 5).map (fun i => (i.zero, i.size, i.bytes)) = some (some (.int .u8 0), 1, 1) := by kernel_rfl
def fillN (f : Nat → UInt8) (n j : Nat) : List UInt8 := (List.range j).map f ++ List.replicate (n - j) 0
theorem fillN_len (f : Nat → UInt8) (n j : Nat) (h : j ≤ n) : (fillN f n j).length = n := by simp [fillN]; omega
theorem fillN_next (f : Nat → UInt8) (n j : Nat) (h : j < n) : (fillN f n j).set j (f j) = fillN f n (j + 1) := by
  unfold fillN
  rw [List.set_append_right _ _ (by simp), show n - j = (n - (j + 1)) + 1 from by omega, List.replicate_succ]
  simp only [List.length_map, List.length_range, Nat.sub_self, List.set_cons_zero]
  rw [List.range_succ, List.map_append, List.append_assoc]
  rfl
end Go.Proofs.YtoilcieineejiaaGreatDoor.SClo
/- What same.Bit, Equal, Any and Choose answer, at any number and texts (Choose's up to 2^48 bytes): the walks of their texts. -/
namespace Go.Proofs.YtoilcieineejiaaGreatDoor.SBit
open Go.RowKit
open SamN
set_option maxRecDepth 100000 in
theorem ent_bit : ∀ (args : Array Value) (W : World), (callFunc 164 args).run Tryz.prog W = .ok (.enter 164 args) W := fun _ _ => rfl
set_option maxRecDepth 100000 in
theorem ent_any : ∀ (args : Array Value) (W : World), (callFunc 163 args).run Tryz.prog W = .ok (.enter 163 args) W := fun _ _ => rfl
theorem makes (fn : Fn) (first cap : Array Value) (w : World) : (Instr.makeFunc fn first cap).run Tryz.prog w = .ok (.func fn first cap) w := rfl
/-- Both texts' boxes, behind their laying. -/
theorem two_boxes (a b : List UInt8) (w : World) : ((w.alloc (.cells #[.string ⟨a.toArray⟩] 9)).alloc (.cells #[.string ⟨b.toArray⟩] 9)).cell? ⟨w.heap.size, 0, none⟩ = some (.string ⟨a.toArray⟩) ∧
    ((w.alloc (.cells #[.string ⟨a.toArray⟩] 9)).alloc (.cells #[.string ⟨b.toArray⟩] 9)).cell? ⟨w.heap.size + 1, 0, none⟩ = some (.string ⟨b.toArray⟩) :=
  ⟨blk_cell (heap_alloc2_old w _ _) rfl, blk_cell (heap_alloc2_new w _ _) rfl⟩
theorem Bit_len (a b : List UInt8) (w : World) (h : ¬ a.length = b.length) :
    Calls Tryz.prog 156 #[.string ⟨a.toArray⟩, .string ⟨b.toArray⟩] w fun e w' => e = .returned (.int .i64 (bit a b)) ∧ Below w.heap.size w w' := by
  rw [bit_len a b h]
  have hne : ((a.length : Int) == (b.length : Int)) = false := by rw [beq_eq_false_iff_ne]; omega
  have hne' : ((a.length : Int) != (b.length : Int)) = true := by rw [bne, hne]; rfl
  have HB := Lib.hid (((Below.refl w.heap.size w).alloc (Nat.le_refl _) (.cells #[.string ⟨a.toArray⟩] 9)).alloc (by simp) (.cells #[.string ⟨b.toArray⟩] 9))
  obtain ⟨c1, c2⟩ := two_boxes a b w
  go_enter Tryz.func156, Tryz.ntmps156
  go_wp2
  go_ret
  exact ⟨rfl, HB.out⟩
theorem Bit_good (a b : List UInt8) (w : World) (h : a.length = b.length) (hm : a.length ≤ maxLen) :
    Calls Tryz.prog 156 #[.string ⟨a.toArray⟩, .string ⟨b.toArray⟩] w fun e w' => e = .returned (.int .i64 (bit a b)) ∧ Below w.heap.size w w' := by
  have HE := Lib.hid (bit_some a b h)
  have hne : ((a.length : Int) == (b.length : Int)) = true := by rw [beq_iff_eq]; omega
  have hne' : ((a.length : Int) != (b.length : Int)) = false := by rw [bne, hne]; rfl
  have HB := Lib.hid (((Below.refl w.heap.size w).alloc (Nat.le_refl _) (.cells #[.string ⟨a.toArray⟩] 9)).alloc (by simp) (.cells #[.string ⟨b.toArray⟩] 9))
  obtain ⟨c1, c2⟩ := two_boxes a b w
  have HO := Lib.hid (SClo.some_over 164 #[.pointer (some ⟨w.heap.size, 0, none⟩), .pointer (some ⟨w.heap.size + 1, 0, none⟩)] a.length (fun i => a.getD i 0 ^^^ b.getD i 0)
    ((w.alloc (.cells #[.string ⟨a.toArray⟩] 9)).alloc (.cells #[.string ⟨b.toArray⟩] 9)) hm ent_bit
    (fun i W hi hb => SClo.bit_at w.heap.size (w.heap.size + 1) i a b W ((hb.cell (by simp; omega)).trans c1) ((hb.cell (by simp)).trans c2) hi (by omega)))
  have hmf := makes
  have hs := some1_01 (fun i => a.getD i 0 ^^^ b.getD i 0) a.length
  generalize some1 (fun i => a.getD i 0 ^^^ b.getD i 0) a.length = z at *
  clear h hm
  go_enter Tryz.func156, Tryz.ntmps156
  go_wp2_with fail
  refine HO.out.mono ?_
  rintro e w1 ⟨rfl, hb1⟩
  have HB1 := Lib.hid (HB.out.trans (hb1.mono HB.out.size))
  clear hb1
  go_wp2
  go_ret
  exact ⟨by rw [← HE.out]; rfl, HB1.out⟩
/-- THE CONTRACT of same.Bit. -/
theorem Bit (a b : List UInt8) (w : World) (hm : a.length ≤ maxLen) :
    Calls Tryz.prog 156 #[.string ⟨a.toArray⟩, .string ⟨b.toArray⟩] w fun e w' => e = .returned (.int .i64 (bit a b)) ∧ Below w.heap.size w w' := by
  by_cases h : a.length = b.length
  · exact Bit_good a b w h hm
  · exact Bit_len a b w h
theorem Equal_yes (a b : List UInt8) (w : World) (h : a = b) (hm : a.length ≤ maxLen) :
    Calls Tryz.prog 146 #[.string ⟨a.toArray⟩, .string ⟨b.toArray⟩] w fun e w' => e = .returned (.bool true) ∧ Below w.heap.size w w' := by
  have HB := Lib.hid (fun W => Bit a b W hm)
  rw [bit, if_pos h] at HB
  clear h hm
  go_enter Tryz.func146, Tryz.ntmps146
  go_wp2_with fail
  refine (HB.out _).mono ?_
  rintro e w1 ⟨rfl, hb1⟩
  go_wp2
  go_ret
  exact ⟨rfl, hb1⟩
theorem Equal_no (a b : List UInt8) (w : World) (h : ¬ a = b) (hm : a.length ≤ maxLen) :
    Calls Tryz.prog 146 #[.string ⟨a.toArray⟩, .string ⟨b.toArray⟩] w fun e w' => e = .returned (.bool false) ∧ Below w.heap.size w w' := by
  have HB := Lib.hid (fun W => Bit a b W hm)
  rw [bit, if_neg h] at HB
  clear h hm
  go_enter Tryz.func146, Tryz.ntmps146
  go_wp2_with fail
  refine (HB.out _).mono ?_
  rintro e w1 ⟨rfl, hb1⟩
  go_wp2
  go_ret
  exact ⟨rfl, hb1⟩
/-- THE CONTRACT of same.Any. -/
theorem Any (a : List UInt8) (w : World) (hm : a.length ≤ maxLen) :
    Calls Tryz.prog 155 #[.string ⟨a.toArray⟩] w fun e w' => e = .returned (.int .i64 (any a)) ∧ Below w.heap.size w w' := by
  have HE := Lib.hid (any_some a)
  have HB := Lib.hid ((Below.refl w.heap.size w).alloc (Nat.le_refl _) (.cells #[.string ⟨a.toArray⟩] 9))
  have c1 : (w.alloc (.cells #[.string ⟨a.toArray⟩] 9)).cell? ⟨w.heap.size, 0, none⟩ = some (.string ⟨a.toArray⟩) := blk_cell (heap_alloc_new w _) rfl
  have HO := Lib.hid (SClo.some_over 163 #[.pointer (some ⟨w.heap.size, 0, none⟩)] a.length (fun i => a.getD i 0)
    (w.alloc (.cells #[.string ⟨a.toArray⟩] 9)) hm ent_any
    (fun i W hi hb => SClo.any_at w.heap.size i a W ((hb.cell (by simp)).trans c1) hi))
  have hmf := makes
  generalize some1 (fun i => a.getD i 0) a.length = z at *
  clear hm
  go_enter Tryz.func155, Tryz.ntmps155
  go_wp2_with fail
  refine HO.out.mono ?_
  rintro e w1 ⟨rfl, hb1⟩
  have HB1 := Lib.hid (HB.out.trans (hb1.mono HB.out.size))
  clear hb1
  go_wp2
  go_ret
  exact ⟨by rw [← HE.out]; rfl, HB1.out⟩
end Go.Proofs.YtoilcieineejiaaGreatDoor.SBit
/- What same.Choose answers, at any number and any texts of at most 2^48 bytes: the walk of its text. -/
namespace Go.Proofs.YtoilcieineejiaaGreatDoor.SCho
open Go.RowKit
open SamN SBit
/-- What Choose answers. -/
def chosen (n : Int) (a b : List UInt8) : List UInt8 := if a.length = b.length then (if n % 2 = 1 then a else b) else []
theorem and1 (n : Int) : bits .and .i64 n 1 = n % 2 := by
  show IntKind.i64.wrap (((BitVec.ofInt 64 n &&& BitVec.ofInt 64 1).toNat : Nat) : Int) = n % 2
  have e : (BitVec.ofInt 64 n &&& BitVec.ofInt 64 1).toNat = (n % 2).toNat := by
    rw [BitVec.toNat_and, show (BitVec.ofInt 64 1).toNat = 1 from rfl, nat_mask1, BitVec.toNat_ofInt]
    omega
  rw [e]
  have : 0 ≤ n % 2 ∧ n % 2 < 2 := by omega
  rw [IntWalk.i64_in _ (by omega)]
  omega
end Go.Proofs.YtoilcieineejiaaGreatDoor.SCho
