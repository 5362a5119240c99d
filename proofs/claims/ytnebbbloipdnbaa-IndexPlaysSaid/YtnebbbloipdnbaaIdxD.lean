/- within, mayBe, isNone, row, Add's closure, and count over any closure: the walks of their texts. No conditions but those that each lemma names. -/
import Derived.Test.YtnebbbloipdnbaaIdxL
import Derived.Test.YtnebbbloipdnbaaIdxS
namespace Go.Proofs.Ytnebbbloipdnbaa.IdxD
open Go.RowKit
open IdxN IdxC IdxL IdxS
def wi (n m : Int) : Bool := decide (0 ≤ n) && decide (n ≤ m)
theorem within (n m : Int) (w : World) : Calls Try.prog 37 #[.int .i64 n, .int .i64 m] w fun e w' => e = .returned (.bool (wi n m)) ∧ w = w' := by
  have HW := Lib.hid (show wi n m = (decide (0 ≤ n) && decide (n ≤ m)) from rfl)
  generalize wi n m = q at *
  by_cases h : 0 ≤ n
  · rw [decide_eq_true h] at HW
    go_enter Try.func37, Try.ntmps37
    go_wp2
    go_ret
    exact ⟨by rw [HW.out]; simp, rfl⟩
  · rw [decide_eq_false h] at HW
    go_enter Try.func37, Try.ntmps37
    go_wp2
    go_ret
    exact ⟨by rw [HW.out]; simp, rfl⟩
theorem may_wi (v : V) : may v = (wi v.1 4095 && (wi v.2.1 4294967295 && wi v.2.2 4294967295)) := by
  unfold may wi
  rw [← Bool.decide_and, ← Bool.decide_and, ← Bool.decide_and, ← Bool.decide_and, ← Bool.decide_and, decide_eq_decide]
  omega
/-- A version in a box of its own. -/
def Box (B : Nat) (v : V) (W : World) : Prop := W.cell? ⟨B, 0, none⟩ = some (.int .i64 v.1) ∧ W.cell? ⟨B, 1, none⟩ = some (.int .i64 v.2.1) ∧ W.cell? ⟨B, 2, none⟩ = some (.int .i64 v.2.2)
theorem box_new (w : World) (v : V) : Box w.heap.size v (w.alloc (.cells #[.int .i64 v.1, .int .i64 v.2.1, .int .i64 v.2.2] 27)) :=
  ⟨blk_cell (heap_alloc_new w _) rfl, blk_cell (heap_alloc_new w _) rfl, blk_cell (heap_alloc_new w _) rfl⟩
theorem Box.lt {B : Nat} {v : V} {W : World} (h : Box B v W) : B < W.heap.size := World.block_lt_of_cell? W _ h.1
theorem Box.step {B : Nat} {v : V} {W W' : World} (h : Box B v W) (hb : Below W.heap.size W W') : Box B v W' :=
  ⟨(hb.cell (p := ⟨B, 0, none⟩) h.lt).trans h.1, (hb.cell (p := ⟨B, 1, none⟩) h.lt).trans h.2.1, (hb.cell (p := ⟨B, 2, none⟩) h.lt).trans h.2.2⟩
theorem below_new (w : World) (o : Obj) : Below w.heap.size w (w.alloc o) := (Below.refl _ _).alloc (Nat.le_refl _) _
set_option maxRecDepth 100000 in
theorem mayBe (v : V) (w : World) : Calls Try.prog 26 #[.agg #[.int .i64 v.1, .int .i64 v.2.1, .int .i64 v.2.2]] w fun e w' => e = .returned (.bool (may v)) ∧ Below w.heap.size w w' := by
  have HM := Lib.hid (may_wi v)
  have HC := Lib.hid within
  have HX := Lib.hid (box_new w v)
  have HB := Lib.hid (below_new w (.cells #[.int .i64 v.1, .int .i64 v.2.1, .int .i64 v.2.2] 27))
  obtain ⟨a, b, c⟩ := v
  dsimp only at HM HX HB ⊢
  generalize may (a, b, c) = q at *
  go_enter Try.func26, Try.ntmps26
  go_upto_region 1 with (fail)
  generalize World.alloc w _ = W1 at *
  obtain ⟨k0, k1, k2⟩ := HX.out
  dsimp only at k0 k1 k2
  cases h0 : wi a 4095
  · rw [h0] at HM
    go_wp2_with (go_at_call 37; refine (HC.out _ _ _).mono ?_; rintro e _ ⟨rfl, rfl⟩)
    go_ret
    exact ⟨by rw [HM.out] <;> rfl, HB.out⟩
  · rw [h0] at HM
    cases h1 : wi b 4294967295
    · rw [h1] at HM
      go_wp2_with (go_at_call 37; refine (HC.out _ _ _).mono ?_; rintro e _ ⟨rfl, rfl⟩)
      go_ret
      exact ⟨by rw [HM.out] <;> rfl, HB.out⟩
    · rw [h1] at HM
      go_wp2_with (go_at_call 37; refine (HC.out _ _ _).mono ?_; rintro e _ ⟨rfl, rfl⟩)
      go_ret
      exact ⟨by rw [HM.out] <;> simp, HB.out⟩
set_option maxRecDepth 100000 in
/-- Add's closure: does a version stand ahead of the one in the box? -/
theorem asked (B : Nat) (v u : V) (w : World) (h : Box B v w) : Calls Try.prog 28 #[.agg #[.int .i64 u.1, .int .i64 u.2.1, .int .i64 u.2.2], .pointer (some ⟨B, 0, none⟩)] w fun e w' => e = .returned (.bool (before v u)) ∧ Below w.heap.size w w' := by
  have HC := Lib.hid (fun W => compare u v W)
  have HE := Lib.hid (show decide (cmpV u v < 0) = before v u from cmpV_lt u v)
  have HX := Lib.hid (box_new w u)
  have HB := Lib.hid (below_new w (.cells #[.int .i64 u.1, .int .i64 u.2.1, .int .i64 u.2.2] 27))
  have HV := Lib.hid (h.step HB.out)
  clear h
  generalize cmpV u v = c at *
  generalize before v u = q at *
  obtain ⟨a0, a1, a2⟩ := u
  obtain ⟨b0, b1, b2⟩ := v
  dsimp only at HC HX HB HV ⊢
  go_enter Try.func28, Try.ntmps28
  go_upto_region 1 with (fail)
  generalize World.alloc w _ = W1 at *
  obtain ⟨k0, k1, k2⟩ := HX.out
  obtain ⟨m0, m1, m2⟩ := HV.out
  dsimp only at k0 k1 k2 m0 m1 m2
  go_wp2_with (go_at_call 29; refine (HC.out _).mono ?_; rintro e w1 ⟨rfl, hb⟩; have B1 := Lib.hid (HB.out.trans (hb.mono HB.out.size)); clear hb)
  go_ret
  exact ⟨by rw [← HE.out] <;> rfl, B1.out⟩
end Go.Proofs.Ytnebbbloipdnbaa.IdxD
