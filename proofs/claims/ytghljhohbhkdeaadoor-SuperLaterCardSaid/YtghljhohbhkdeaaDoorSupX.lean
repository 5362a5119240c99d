/- keepsakeref10.Choose: the walk of its text. No conditions. -/
import Derived.Test.YtghljhohbhkdeaaDoorSupW
namespace Go.Proofs.YtghljhohbhkdeaaDoor.SupX
open Go.RowKit
open GeoN GeoC GeoS SupN SupC SupW
open SupE (results_cell_tmp_row)
set_option maxRecDepth 100000 in
theorem Choose_zero (a b : List UInt8) (g1 t1 e1 k1 b1 l1 f1 g2 t2 e2 k2 b2 l2 f2 c d : Int) (ia ib : Bool) (w : World) (ha : take a = (⟨g1, t1, e1, k1, b1, l1, f1⟩, c)) (hb : take b = (⟨g2, t2, e2, k2, b2, l2, f2⟩, d)) (hia : decide (good a) = ia) (hib : decide (good b) = ib) (hh : (ia = true ∧ ib = false) ∨ (ia = true ∧ ib = true ∧ g2 ≤ g1)) :
    Calls Tryd.prog 15 #[.string ⟨a.toArray⟩, .string ⟨b.toArray⟩] w fun r w' => r = .returned (.tuple #[.agg #[.int .i64 g1, .int .i64 t1, .int .i64 e1, .int .i64 k1, .int .i64 b1, .int .i64 l1, .int .i64 f1], .int .i64 (0)]) ∧ Below w.heap.size w w' := by
  obtain ⟨W1, hW1⟩ : ∃ W1, W1 = w.alloc (.cells #[.int .i64 0, .int .i64 0, .int .i64 0, .int .i64 0, .int .i64 0, .int .i64 0, .int .i64 0] 25) := ⟨_, rfl⟩
  have TT : Hid (Rk w W1) := Lib.hid (by rw [hW1]; exact rk_new w)
  have HA := Lib.hid (fun W => SupW.Take a W)
  have HB := Lib.hid (fun W => SupW.Take b W)
  rw [ha, hia] at HA
  rw [hb, hib] at HB
  clear ha hb hia hib
  go_enter Tryd.func15, Tryd.ntmps15
  go_upto_region 1 with (fail)
  rw [← hW1]
  clear hW1
  go_upto_region 2 with (first
    | (go_at_call 13; refine (HA.out _).mono ?_; rintro r w2 ⟨rfl, hb2⟩; replace TT := Lib.hid (TT.out.step hb2); clear hb2)
    | (refine wpList_store_row rfl 25 _ _ rfl w2.heap.size _ rfl rfl 25 _ (heap_alloc_new w2 _) infoS rfl (one7 g1 t1 e1 k1 b1 l1 f1) ?_))
  generalize hW3 : World.setRow (World.alloc w2 _) _ _ = W3
  replace TT : Hid (Rk w W3) := Lib.hid (by rw [← hW3]; exact TT.out.step (kept_new _ _ _ _))
  have KX : Hid (Bk W3 w2.heap.size g1 t1 e1 k1 b1 l1 f1) := Lib.hid (by rw [← hW3]; exact has_new _ _ _ _)
  clear hW3
  generalize w2.heap.size = X at *
  go_upto_region 3 with (first
    | (go_at_call 13; refine (HB.out _).mono ?_; rintro r w4 ⟨rfl, hb4⟩; replace TT := Lib.hid (TT.out.step hb4); replace KX := Lib.hid (KX.out.step hb4); clear hb4)
    | (refine wpList_store_row rfl 25 _ _ rfl w4.heap.size _ rfl rfl 25 _ (heap_alloc_new w4 _) infoS rfl (one7 g2 t2 e2 k2 b2 l2 f2) ?_))
  generalize hW5 : World.setRow (World.alloc w4 _) _ _ = W5
  replace TT : Hid (Rk w W5) := Lib.hid (by rw [← hW5]; exact TT.out.step (kept_new _ _ _ _))
  replace KX : Hid (Bk W5 X g1 t1 e1 k1 b1 l1 f1) := Lib.hid (by rw [← hW5]; exact KX.out.step (kept_new _ _ _ _))
  have KY : Hid (Bk W5 w4.heap.size g2 t2 e2 k2 b2 l2 f2) := Lib.hid (by rw [← hW5]; exact has_new _ _ _ _)
  clear hW5 HA HB
  generalize w4.heap.size = Y at *
  obtain ⟨x0, x1, x2, x3, x4, x5, x6⟩ := KX.out.cells
  obtain ⟨y0, y1, y2, y3, y4, y5, y6⟩ := KY.out.cells
  rcases hh with ⟨rfl, rfl⟩ | ⟨rfl, rfl, hl⟩
  all_goals
    go_wp2_with (refine wpList_store_row rfl 25 _ _ rfl w.heap.size _ rfl rfl 25 _ TT.out.k infoS rfl (one7 g1 t1 e1 k1 b1 l1 f1) ?_)
    refine bodyPost_ret (v := .tuple #[.agg #[.int .i64 g1, .int .i64 t1, .int .i64 e1, .int .i64 k1, .int .i64 b1, .int .i64 l1, .int .i64 f1], .int .i64 (0)])
      (results_cell_tmp_row Tryd.results15 _ _ w.heap.size 25 _ (0, 0) _ rfl (setRow_same TT.out.k) Tryd.underlying25 rfl infoS) rfl
      ⟨rfl, below_setRow TT.out.bel (Nat.le_refl _) _⟩
set_option maxRecDepth 100000 in
theorem Choose_one (a b : List UInt8) (g1 t1 e1 k1 b1 l1 f1 g2 t2 e2 k2 b2 l2 f2 c d : Int) (ia ib : Bool) (w : World) (ha : take a = (⟨g1, t1, e1, k1, b1, l1, f1⟩, c)) (hb : take b = (⟨g2, t2, e2, k2, b2, l2, f2⟩, d)) (hia : decide (good a) = ia) (hib : decide (good b) = ib) (hh : (ib = true ∧ ia = false) ∨ (ib = true ∧ ia = true ∧ g1 < g2)) :
    Calls Tryd.prog 15 #[.string ⟨a.toArray⟩, .string ⟨b.toArray⟩] w fun r w' => r = .returned (.tuple #[.agg #[.int .i64 g2, .int .i64 t2, .int .i64 e2, .int .i64 k2, .int .i64 b2, .int .i64 l2, .int .i64 f2], .int .i64 (1)]) ∧ Below w.heap.size w w' := by
  obtain ⟨W1, hW1⟩ : ∃ W1, W1 = w.alloc (.cells #[.int .i64 0, .int .i64 0, .int .i64 0, .int .i64 0, .int .i64 0, .int .i64 0, .int .i64 0] 25) := ⟨_, rfl⟩
  have TT : Hid (Rk w W1) := Lib.hid (by rw [hW1]; exact rk_new w)
  have HA := Lib.hid (fun W => SupW.Take a W)
  have HB := Lib.hid (fun W => SupW.Take b W)
  rw [ha, hia] at HA
  rw [hb, hib] at HB
  clear ha hb hia hib
  go_enter Tryd.func15, Tryd.ntmps15
  go_upto_region 1 with (fail)
  rw [← hW1]
  clear hW1
  go_upto_region 2 with (first
    | (go_at_call 13; refine (HA.out _).mono ?_; rintro r w2 ⟨rfl, hb2⟩; replace TT := Lib.hid (TT.out.step hb2); clear hb2)
    | (refine wpList_store_row rfl 25 _ _ rfl w2.heap.size _ rfl rfl 25 _ (heap_alloc_new w2 _) infoS rfl (one7 g1 t1 e1 k1 b1 l1 f1) ?_))
  generalize hW3 : World.setRow (World.alloc w2 _) _ _ = W3
  replace TT : Hid (Rk w W3) := Lib.hid (by rw [← hW3]; exact TT.out.step (kept_new _ _ _ _))
  have KX : Hid (Bk W3 w2.heap.size g1 t1 e1 k1 b1 l1 f1) := Lib.hid (by rw [← hW3]; exact has_new _ _ _ _)
  clear hW3
  generalize w2.heap.size = X at *
  go_upto_region 3 with (first
    | (go_at_call 13; refine (HB.out _).mono ?_; rintro r w4 ⟨rfl, hb4⟩; replace TT := Lib.hid (TT.out.step hb4); replace KX := Lib.hid (KX.out.step hb4); clear hb4)
    | (refine wpList_store_row rfl 25 _ _ rfl w4.heap.size _ rfl rfl 25 _ (heap_alloc_new w4 _) infoS rfl (one7 g2 t2 e2 k2 b2 l2 f2) ?_))
  generalize hW5 : World.setRow (World.alloc w4 _) _ _ = W5
  replace TT : Hid (Rk w W5) := Lib.hid (by rw [← hW5]; exact TT.out.step (kept_new _ _ _ _))
  replace KX : Hid (Bk W5 X g1 t1 e1 k1 b1 l1 f1) := Lib.hid (by rw [← hW5]; exact KX.out.step (kept_new _ _ _ _))
  have KY : Hid (Bk W5 w4.heap.size g2 t2 e2 k2 b2 l2 f2) := Lib.hid (by rw [← hW5]; exact has_new _ _ _ _)
  clear hW5 HA HB
  generalize w4.heap.size = Y at *
  obtain ⟨x0, x1, x2, x3, x4, x5, x6⟩ := KX.out.cells
  obtain ⟨y0, y1, y2, y3, y4, y5, y6⟩ := KY.out.cells
  rcases hh with ⟨rfl, rfl⟩ | ⟨rfl, rfl, hl⟩
  all_goals
    go_wp2_with (refine wpList_store_row rfl 25 _ _ rfl w.heap.size _ rfl rfl 25 _ TT.out.k infoS rfl (one7 g2 t2 e2 k2 b2 l2 f2) ?_)
    refine bodyPost_ret (v := .tuple #[.agg #[.int .i64 g2, .int .i64 t2, .int .i64 e2, .int .i64 k2, .int .i64 b2, .int .i64 l2, .int .i64 f2], .int .i64 (1)])
      (results_cell_tmp_row Tryd.results15 _ _ w.heap.size 25 _ (0, 0) _ rfl (setRow_same TT.out.k) Tryd.underlying25 rfl infoS) rfl
      ⟨rfl, below_setRow TT.out.bel (Nat.le_refl _) _⟩
set_option maxRecDepth 100000 in
theorem Choose_none (a b : List UInt8) (g1 t1 e1 k1 b1 l1 f1 g2 t2 e2 k2 b2 l2 f2 c d : Int) (ia ib : Bool) (w : World) (ha : take a = (⟨g1, t1, e1, k1, b1, l1, f1⟩, c)) (hb : take b = (⟨g2, t2, e2, k2, b2, l2, f2⟩, d)) (hia : decide (good a) = ia) (hib : decide (good b) = ib) (hh : ia = false ∧ ib = false) :
    Calls Tryd.prog 15 #[.string ⟨a.toArray⟩, .string ⟨b.toArray⟩] w fun r w' => r = .returned (.tuple #[.agg #[.int .i64 0, .int .i64 0, .int .i64 0, .int .i64 0, .int .i64 0, .int .i64 0, .int .i64 0], .int .i64 (-1)]) ∧ Below w.heap.size w w' := by
  obtain ⟨W1, hW1⟩ : ∃ W1, W1 = w.alloc (.cells #[.int .i64 0, .int .i64 0, .int .i64 0, .int .i64 0, .int .i64 0, .int .i64 0, .int .i64 0] 25) := ⟨_, rfl⟩
  have TT : Hid (Rk w W1) := Lib.hid (by rw [hW1]; exact rk_new w)
  have HA := Lib.hid (fun W => SupW.Take a W)
  have HB := Lib.hid (fun W => SupW.Take b W)
  rw [ha, hia] at HA
  rw [hb, hib] at HB
  clear ha hb hia hib
  go_enter Tryd.func15, Tryd.ntmps15
  go_upto_region 1 with (fail)
  rw [← hW1]
  clear hW1
  go_upto_region 2 with (first
    | (go_at_call 13; refine (HA.out _).mono ?_; rintro r w2 ⟨rfl, hb2⟩; replace TT := Lib.hid (TT.out.step hb2); clear hb2)
    | (refine wpList_store_row rfl 25 _ _ rfl w2.heap.size _ rfl rfl 25 _ (heap_alloc_new w2 _) infoS rfl (one7 g1 t1 e1 k1 b1 l1 f1) ?_))
  generalize hW3 : World.setRow (World.alloc w2 _) _ _ = W3
  replace TT : Hid (Rk w W3) := Lib.hid (by rw [← hW3]; exact TT.out.step (kept_new _ _ _ _))
  have KX : Hid (Bk W3 w2.heap.size g1 t1 e1 k1 b1 l1 f1) := Lib.hid (by rw [← hW3]; exact has_new _ _ _ _)
  clear hW3
  generalize w2.heap.size = X at *
  go_upto_region 3 with (first
    | (go_at_call 13; refine (HB.out _).mono ?_; rintro r w4 ⟨rfl, hb4⟩; replace TT := Lib.hid (TT.out.step hb4); replace KX := Lib.hid (KX.out.step hb4); clear hb4)
    | (refine wpList_store_row rfl 25 _ _ rfl w4.heap.size _ rfl rfl 25 _ (heap_alloc_new w4 _) infoS rfl (one7 g2 t2 e2 k2 b2 l2 f2) ?_))
  generalize hW5 : World.setRow (World.alloc w4 _) _ _ = W5
  replace TT : Hid (Rk w W5) := Lib.hid (by rw [← hW5]; exact TT.out.step (kept_new _ _ _ _))
  replace KX : Hid (Bk W5 X g1 t1 e1 k1 b1 l1 f1) := Lib.hid (by rw [← hW5]; exact KX.out.step (kept_new _ _ _ _))
  have KY : Hid (Bk W5 w4.heap.size g2 t2 e2 k2 b2 l2 f2) := Lib.hid (by rw [← hW5]; exact has_new _ _ _ _)
  clear hW5 HA HB
  generalize w4.heap.size = Y at *
  obtain ⟨x0, x1, x2, x3, x4, x5, x6⟩ := KX.out.cells
  obtain ⟨y0, y1, y2, y3, y4, y5, y6⟩ := KY.out.cells
  obtain ⟨rfl, rfl⟩ := hh
  all_goals
    go_wp2_with (refine wpList_store_row rfl 25 _ _ rfl w.heap.size _ rfl rfl 25 _ TT.out.k infoS rfl (one7 0 0 0 0 0 0 0) ?_)
    refine bodyPost_ret (v := .tuple #[.agg #[.int .i64 0, .int .i64 0, .int .i64 0, .int .i64 0, .int .i64 0, .int .i64 0, .int .i64 0], .int .i64 (-1)])
      (results_cell_tmp_row Tryd.results15 _ _ w.heap.size 25 _ (0, 0) _ rfl (setRow_same TT.out.k) Tryd.underlying25 rfl infoS) rfl
      ⟨rfl, below_setRow TT.out.bel (Nat.le_refl _) _⟩
/-- What the document's Choose answers. -/
theorem Choose (a b : List UInt8) (w : World) :
    Calls Tryd.prog 15 #[.string ⟨a.toArray⟩, .string ⟨b.toArray⟩] w fun r w' => r = .returned (.tuple #[.agg #[.int .i64 ((rchoose a b).1).g, .int .i64 ((rchoose a b).1).t, .int .i64 ((rchoose a b).1).e, .int .i64 ((rchoose a b).1).k, .int .i64 ((rchoose a b).1).b, .int .i64 ((rchoose a b).1).l, .int .i64 ((rchoose a b).1).f], .int .i64 (rchoose a b).2]) ∧ Below w.heap.size w w' := by
  by_cases ha : good a <;> by_cases hb : good b
  · by_cases hl : (take b).1.g ≤ (take a).1.g
    · rw [rchoose_0 ha (.inr hl)]
      exact Choose_zero a b _ _ _ _ _ _ _ _ _ _ _ _ _ _ _ _ _ _ w rfl rfl (decide_eq_true ha) (decide_eq_true hb) (.inr ⟨rfl, rfl, hl⟩)
    · rw [rchoose_1 (fun hh => hh.2.elim (fun q => q hb) hl) hb]
      exact Choose_one a b _ _ _ _ _ _ _ _ _ _ _ _ _ _ _ _ _ _ w rfl rfl (decide_eq_true ha) (decide_eq_true hb) (.inr ⟨rfl, rfl, Int.not_le.1 hl⟩)
  · rw [rchoose_0 ha (.inl hb)]
    exact Choose_zero a b _ _ _ _ _ _ _ _ _ _ _ _ _ _ _ _ _ _ w rfl rfl (decide_eq_true ha) (decide_eq_false hb) (.inl ⟨rfl, rfl⟩)
  · rw [rchoose_1 (fun hh => ha hh.1) hb]
    exact Choose_one a b _ _ _ _ _ _ _ _ _ _ _ _ _ _ _ _ _ _ w rfl rfl (decide_eq_false ha) (decide_eq_true hb) (.inl ⟨rfl, rfl⟩)
  · rw [rchoose_n ha hb]
    exact Choose_none a b _ _ _ _ _ _ _ _ _ _ _ _ _ _ _ _ _ _ w rfl rfl (decide_eq_false ha) (decide_eq_false hb) ⟨rfl, rfl⟩
end Go.Proofs.YtghljhohbhkdeaaDoor.SupX
