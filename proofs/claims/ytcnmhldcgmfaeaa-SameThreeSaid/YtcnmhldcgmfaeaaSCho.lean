/- What same.Choose answers, at any number and any texts of at most 2^48 bytes: the walk of its text. -/
import Derived.Test.YtcnmhldcgmfaeaaSBit
namespace Go.Proofs.Ytcnmhldcgmfaeaa.SCho
open Go.RowKit
open SamN SBit
/-- What Choose answers. -/
def chosen (n : Int) (a b : List UInt8) : List UInt8 := if a.length = b.length then (if n % 2 = 1 then a else b) else []
theorem and1 (n : Int) : bits .and .i64 n 1 = n % 2 := by
  show IntKind.i64.wrap (((BitVec.ofInt 64 n &&& BitVec.ofInt 64 1).toNat : Nat) : Int) = n % 2
  have e : (BitVec.ofInt 64 n &&& BitVec.ofInt 64 1).toNat = (n % 2).toNat := by
    rw [BitVec.toNat_and, show (BitVec.ofInt 64 1).toNat = 1 from rfl, nat_mask1, BitVec.toNat_ofInt]
    omega
  rw [e]
  have : 0 ≤ n % 2 ∧ n % 2 < 2 := by omega
  rw [IntWalk.i64_in _ (by omega)]
  omega
theorem Choose_len (n : Int) (a b : List UInt8) (w : World) (h : ¬ a.length = b.length) :
    Calls Try.prog 11 #[.int .i64 n, .string ⟨a.toArray⟩, .string ⟨b.toArray⟩] w fun e w' => e = .returned (.string ⟨#[]⟩) ∧ Below w.heap.size w w' := by
  have hne : ((a.length : Int) == (b.length : Int)) = false := by rw [beq_eq_false_iff_ne]; omega
  have hne' : ((a.length : Int) != (b.length : Int)) = true := by rw [bne, hne]; rfl
  have HB := Lib.hid (((Below.refl w.heap.size w).alloc (Nat.le_refl _) (.cells #[.string ⟨a.toArray⟩] 9)).alloc (by simp) (.cells #[.string ⟨b.toArray⟩] 9))
  obtain ⟨c1, c2⟩ := two_boxes a b w
  go_enter Try.func11, Try.ntmps11
  go_wp2
  go_ret
  exact ⟨rfl, HB.out⟩
theorem Choose_good (n : Int) (m : UInt8) (a b : List UInt8) (w : World) (h : a.length = b.length) (hm : a.length ≤ 281474976710656) (hn : n % 2 = 1 ∧ m = 255 ∨ n % 2 = 0 ∧ m = 0) :
    Calls Try.prog 11 #[.int .i64 n, .string ⟨a.toArray⟩, .string ⟨b.toArray⟩] w fun e w' => e = .returned (.string ⟨(pickL m a b).toArray⟩) ∧ Below w.heap.size w w' := by
  have hne : ((a.length : Int) == (b.length : Int)) = true := by rw [beq_iff_eq]; omega
  have hne' : ((a.length : Int) != (b.length : Int)) = false := by rw [bne, hne]; rfl
  have HB := Lib.hid ((((Below.refl w.heap.size w).alloc (Nat.le_refl _) (.cells #[.string ⟨a.toArray⟩] 9)).alloc (by simp) (.cells #[.string ⟨b.toArray⟩] 9)).alloc (by simp; omega) (.cells #[.int .u8 m.toNat] 5))
  obtain ⟨c1, c2⟩ := two_boxes a b w
  have d1 := alloc3_0 w (.cells #[.string ⟨a.toArray⟩] 9) (.cells #[.string ⟨b.toArray⟩] 9) (.cells #[.int .u8 m.toNat] 5)
  have d2 := alloc3_1 w (.cells #[.string ⟨a.toArray⟩] 9) (.cells #[.string ⟨b.toArray⟩] 9) (.cells #[.int .u8 m.toNat] 5)
  have d3 := alloc3_2 w (.cells #[.string ⟨a.toArray⟩] 9) (.cells #[.string ⟨b.toArray⟩] 9) (.cells #[.int .u8 m.toNat] 5)
  have e1 := blk_cell (i := 0) d1 rfl
  have e2 := blk_cell (i := 0) d2 rfl
  have e3 := blk_cell (i := 0) d3 rfl
  have HO := Lib.hid (SClo.fill_over 18 #[.pointer (some ⟨w.heap.size, 0, none⟩), .pointer (some ⟨w.heap.size + 1 + 1, 0, none⟩), .pointer (some ⟨w.heap.size + 1, 0, none⟩)] a.length (fun i => pick m (a.getD i 0) (b.getD i 0))
    (((w.alloc (.cells #[.string ⟨a.toArray⟩] 9)).alloc (.cells #[.string ⟨b.toArray⟩] 9)).alloc (.cells #[.int .u8 m.toNat] 5)) hm ent_choose
    (fun i W hi hb => SClo.choose_at w.heap.size (w.heap.size + 1 + 1) (w.heap.size + 1) i a b m W ((hb.cell (by simp; omega)).trans e1) ((hb.cell (by simp)).trans e3) ((hb.cell (by simp)).trans e2) hi (by omega)))
  have hmf := makes
  have hand := and1 n
  clear d1 d2 d3
  rcases hn with ⟨hn, rfl⟩ | ⟨hn, rfl⟩
  all_goals
    rw [hn] at hand
    have HN := Lib.hid hn
    clear hn h hm
    go_enter Try.func11, Try.ntmps11
    go_wp2_with fail
    refine HO.out.mono ?_
    rintro e w1 ⟨rfl, hb1⟩
    have HB1 := Lib.hid (HB.out.trans (hb1.mono HB.out.size))
    clear hb1
    go_wp2
    go_ret
    exact ⟨rfl, HB1.out⟩
/-- THE CONTRACT of same.Choose. -/
theorem Choose (n : Int) (a b : List UInt8) (w : World) (hm : a.length ≤ 281474976710656) :
    Calls Try.prog 11 #[.int .i64 n, .string ⟨a.toArray⟩, .string ⟨b.toArray⟩] w fun e w' => e = .returned (.string ⟨(chosen n a b).toArray⟩) ∧ Below w.heap.size w w' := by
  unfold chosen
  by_cases h : a.length = b.length
  · rw [if_pos h]
    by_cases hn : n % 2 = 1
    · have := Choose_good n 255 a b w h hm (.inl ⟨hn, rfl⟩)
      rw [pickL_all] at this
      rwa [if_pos hn]
    · have := Choose_good n 0 a b w h hm (.inr ⟨by omega, rfl⟩)
      rw [pickL_none a b h] at this
      rwa [if_neg hn]
  · rw [if_neg h]
    exact Choose_len n a b w h
end Go.Proofs.Ytcnmhldcgmfaeaa.SCho
