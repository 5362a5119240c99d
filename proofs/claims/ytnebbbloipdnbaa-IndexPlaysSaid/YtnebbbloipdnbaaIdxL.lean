/- cmp.isNaN, cmp.Compare, cmp.Or at ints, index.compare, and sort.Search over any closure: the walks of their texts. No conditions but those that each lemma names. -/
import Derived.Test.YtnebbbloipdnbaaIdxC
import Derived.LoopN
import Derived.Deep.RegionHeld3
namespace Go.Proofs.Ytnebbbloipdnbaa.IdxL
open Go.RowKit
open IdxN IdxC
theorem isNaN (x : Int) (w : World) : Calls Try.prog 46 #[.int .i64 x] w fun e w' => e = .returned (.bool false) ∧ w = w' := by
  go_enter Try.func46, Try.ntmps46
  go_wp2
  go_ret
  exact ⟨rfl, rfl⟩
theorem Compare (x y : Int) (w : World) : Calls Try.prog 41 #[.int .i64 x, .int .i64 y] w fun e w' => e = .returned (.int .i64 (cmpI x y)) ∧ w = w' := by
  have HN := Lib.hid isNaN
  have HC := Lib.hid (show cmpI x y = if x < y then -1 else if y < x then 1 else 0 from rfl)
  generalize cmpI x y = c at *
  by_cases h1 : x < y
  · rw [if_pos h1] at HC
    go_enter Try.func41, Try.ntmps41
    go_wp2_with (go_at_call 46; refine (HN.out _ _).mono ?_; rintro e _ ⟨rfl, rfl⟩)
    go_ret
    exact ⟨by rw [HC.out] <;> rfl, rfl⟩
  · rw [if_neg h1] at HC
    by_cases h2 : y < x
    · rw [if_pos h2] at HC
      go_enter Try.func41, Try.ntmps41
      go_wp2_with (go_at_call 46; refine (HN.out _ _).mono ?_; rintro e _ ⟨rfl, rfl⟩)
      go_ret
      exact ⟨by rw [HC.out] <;> rfl, rfl⟩
    · rw [if_neg h2] at HC
      go_enter Try.func41, Try.ntmps41
      go_wp2_with (go_at_call 46; refine (HN.out _ _).mono ?_; rintro e _ ⟨rfl, rfl⟩)
      go_ret
      exact ⟨by rw [HC.out] <;> rfl, rfl⟩
def or3 (a b c : Int) : Int := if a ≠ 0 then a else if b ≠ 0 then b else c
theorem or3_cmp (a b : V) : or3 (cmpI a.1 b.1) (cmpI a.2.1 b.2.1) (cmpI a.2.2 b.2.2) = cmpV a b := rfl
set_option maxRecDepth 100000 in
theorem Or (a b c : Int) (g k : Nat) (w : World) (h0 : w.cell? ⟨g, 0, none⟩ = some (.int .i64 a)) (h1 : w.cell? ⟨g, 1, none⟩ = some (.int .i64 b)) (h2 : w.cell? ⟨g, 2, none⟩ = some (.int .i64 c)) :
    Calls Try.prog 40 #[.slice (some ⟨g, 0, none⟩) 3 k] w fun e w' => e = .returned (.int .i64 (or3 a b c)) ∧ w = w' := by
  by_cases ha : a = 0
  · subst ha
    by_cases hb : b = 0
    · subst hb
      have HO := Lib.hid (show or3 0 0 c = c from rfl)
      generalize or3 0 0 c = o at *
      by_cases hc : c = 0
      · subst hc
        go_enter Try.func40, Try.ntmps40
        go_wp2_with fail
        refine wp_loop_rounds 4 ?_
        iterate 4 (rw [rounds_succ]; go_wp2_with fail)
        go_ret
        exact ⟨by rw [HO.out] <;> rfl, rfl⟩
      · have hc' : (c == 0) = false := by rw [beq_eq_false_iff_ne]; exact hc
        clear hc
        go_enter Try.func40, Try.ntmps40
        go_wp2_with fail
        refine wp_loop_rounds 4 ?_
        iterate 3 (rw [rounds_succ]; go_wp2_with fail)
        go_ret
        exact ⟨by rw [HO.out] <;> rfl, rfl⟩
    · have HO := Lib.hid (show or3 0 b c = b from if_pos hb)
      generalize or3 0 b c = o at *
      have hb' : (b == 0) = false := by rw [beq_eq_false_iff_ne]; exact hb
      clear hb
      go_enter Try.func40, Try.ntmps40
      go_wp2_with fail
      refine wp_loop_rounds 4 ?_
      iterate 2 (rw [rounds_succ]; go_wp2_with fail)
      go_ret
      exact ⟨by rw [HO.out] <;> rfl, rfl⟩
  · have HO := Lib.hid (show or3 a b c = a from if_pos ha)
    generalize or3 a b c = o at *
    have ha' : (a == 0) = false := by rw [beq_eq_false_iff_ne]; exact ha
    clear ha
    go_enter Try.func40, Try.ntmps40
    go_wp2_with fail
    refine wp_loop_rounds 4 ?_
    rw [rounds_succ]; go_wp2_with fail
    go_ret
    exact ⟨by rw [HO.out] <;> rfl, rfl⟩
/-- Two versions in two boxes. -/
def Two (B : Nat) (a b : V) (W : World) : Prop :=
  W.cell? ⟨B, 0, none⟩ = some (.int .i64 a.1) ∧ W.cell? ⟨B, 1, none⟩ = some (.int .i64 a.2.1) ∧ W.cell? ⟨B, 2, none⟩ = some (.int .i64 a.2.2) ∧
  W.cell? ⟨B + 1, 0, none⟩ = some (.int .i64 b.1) ∧ W.cell? ⟨B + 1, 1, none⟩ = some (.int .i64 b.2.1) ∧ W.cell? ⟨B + 1, 2, none⟩ = some (.int .i64 b.2.2)
theorem two_new (w : World) (a b : V) : Two w.heap.size a b ((w.alloc (.cells #[.int .i64 a.1, .int .i64 a.2.1, .int .i64 a.2.2] 27)).alloc (.cells #[.int .i64 b.1, .int .i64 b.2.1, .int .i64 b.2.2] 27)) := by
  have f0 : _ = some (Obj.cells #[.int .i64 a.1, .int .i64 a.2.1, .int .i64 a.2.2] 27 (0, 0)) := heap_alloc2_old w (.cells #[.int .i64 a.1, .int .i64 a.2.1, .int .i64 a.2.2] 27) (.cells #[.int .i64 b.1, .int .i64 b.2.1, .int .i64 b.2.2] 27)
  have f1 : _ = some (Obj.cells #[.int .i64 b.1, .int .i64 b.2.1, .int .i64 b.2.2] 27 (0, 0)) := heap_alloc2_new w (.cells #[.int .i64 a.1, .int .i64 a.2.1, .int .i64 a.2.2] 27) (.cells #[.int .i64 b.1, .int .i64 b.2.1, .int .i64 b.2.2] 27)
  exact ⟨blk_cell f0 rfl, blk_cell f0 rfl, blk_cell f0 rfl, blk_cell f1 rfl, blk_cell f1 rfl, blk_cell f1 rfl⟩
theorem Two.step {B : Nat} {a b : V} {W W' : World} (h : Two B a b W) (hb : Below W.heap.size W W') : Two B a b W' := by
  obtain ⟨h0, h1, h2, h3, h4, h5⟩ := h
  have l0 := World.block_lt_of_cell? W _ h0
  have l1 := World.block_lt_of_cell? W _ h3
  exact ⟨(hb.cell (p := ⟨B, 0, none⟩) l0).trans h0, (hb.cell (p := ⟨B, 1, none⟩) l0).trans h1, (hb.cell (p := ⟨B, 2, none⟩) l0).trans h2, (hb.cell (p := ⟨B + 1, 0, none⟩) l1).trans h3, (hb.cell (p := ⟨B + 1, 1, none⟩) l1).trans h4, (hb.cell (p := ⟨B + 1, 2, none⟩) l1).trans h5⟩
theorem row3 (w : World) (a b c : Int) (t : TypeId) : (w.alloc (.cells #[.int .i64 a, .int .i64 b, .int .i64 c] t)).drew.cell? ⟨w.heap.size, 0, none⟩ = some (.int .i64 a) ∧ (w.alloc (.cells #[.int .i64 a, .int .i64 b, .int .i64 c] t)).drew.cell? ⟨w.heap.size, 1, none⟩ = some (.int .i64 b) ∧ (w.alloc (.cells #[.int .i64 a, .int .i64 b, .int .i64 c] t)).drew.cell? ⟨w.heap.size, 2, none⟩ = some (.int .i64 c) :=
  have h : (w.alloc (.cells #[.int .i64 a, .int .i64 b, .int .i64 c] t)).drew.heap[w.heap.size]? = some (.cells #[.int .i64 a, .int .i64 b, .int .i64 c] t (0, 0)) := heap_alloc_new w _
  ⟨blk_cell h rfl, blk_cell h rfl, blk_cell h rfl⟩
set_option maxRecDepth 100000 in
theorem compare (a b : V) (w : World) : Calls Try.prog 29 #[.agg #[.int .i64 a.1, .int .i64 a.2.1, .int .i64 a.2.2], .agg #[.int .i64 b.1, .int .i64 b.2.1, .int .i64 b.2.2]] w fun e w' => e = .returned (.int .i64 (cmpV a b)) ∧ Below w.heap.size w w' := by
  have HC := Lib.hid (fun x y W => Compare x y W)
  have HE := Lib.hid (or3_cmp a b)
  have HT := Lib.hid (two_new w a b)
  obtain ⟨a0, a1, a2⟩ := a
  obtain ⟨b0, b1, b2⟩ := b
  dsimp only at HE HT ⊢
  generalize cmpV (a0, a1, a2) (b0, b1, b2) = q at *
  go_enter Try.func29, Try.ntmps29
  go_upto_region 1 with (fail)
  generalize hW : World.alloc (World.alloc w _) _ = W0 at *
  have FB := Lib.hid (show Below w.heap.size w W0 by rw [← hW]; exact ((Below.refl _ _).alloc (Nat.le_refl _) _).alloc (by simp) _)
  clear hW
  have hS0 := HT.out
  unfold Two at hS0
  dsimp only at hS0
  have L0 := Lib.hid (Below.refl W0.heap.size W0)
  go_region_held3 (fun w' => w'.cell? ⟨w.heap.size, 0, none⟩ = some (.int .i64 a0) ∧ w'.cell? ⟨w.heap.size, 1, none⟩ = some (.int .i64 a1) ∧ w'.cell? ⟨w.heap.size, 2, none⟩ = some (.int .i64 a2) ∧ w'.cell? ⟨w.heap.size + 1, 0, none⟩ = some (.int .i64 b0) ∧ w'.cell? ⟨w.heap.size + 1, 1, none⟩ = some (.int .i64 b1) ∧ w'.cell? ⟨w.heap.size + 1, 2, none⟩ = some (.int .i64 b2))
    (first | exact hS | exact hS0 | exact HT.out.step ((Below.refl _ _).alloc (Nat.le_refl _) _).drew)
    (first
      | (go_at_call 41; refine (HC.out _ _ _).mono ?_; rintro e _ ⟨rfl, rfl⟩; have hS := hS0)
      | (go_at_call 40; refine (Or _ _ _ _ _ _ (row3 W0 _ _ _ _).1 (row3 W0 _ _ _ _).2.1 (row3 W0 _ _ _ _).2.2).mono ?_; rintro e _ ⟨rfl, rfl⟩; have hS := HT.out.step ((Below.refl W0.heap.size W0).alloc (Nat.le_refl _) (.cells #[.int .i64 (cmpI a0 b0), .int .i64 (cmpI a1 b1), .int .i64 (cmpI a2 b2)] 3)).drew))
  go_wp2
  go_ret
  exact ⟨by rw [HE.out] <;> rfl, ((FB.out.trans (((Below.refl _ _).alloc (Nat.le_refl _) _).mono FB.out.size))).drew⟩
end Go.Proofs.Ytnebbbloipdnbaa.IdxL
