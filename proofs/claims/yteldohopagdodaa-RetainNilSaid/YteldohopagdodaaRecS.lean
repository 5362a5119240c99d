/- record.said: the walk of its text. No conditions. -/
import Derived.Test.YteldohopagdodaaRecP
import Derived.BigRegion
namespace Go.Proofs.Yteldohopagdodaa.RecS
open Go.RowKit
open RecN RecC RecM RecP
/-- What stands behind said's first lines: the record, the result's block, what is said so far. -/
structure Three (w : World) (r : Rec) (cs : Array Value) (W : World) : Prop where
  bel : Below w.heap.size w W
  k : Bk W w.heap.size r
  z : W.heap[w.heap.size + 1]? = some (.cells #[.int .i64 0, .int .i64 0, .int .i64 0, .int .i64 0, .int .i64 0, .int .i64 0, .string ⟨#[]⟩, .string ⟨#[]⟩] 30 (0, 0))
  s : W.heap[w.heap.size + 2]? = some (.cells cs 30 (0, 0))
theorem Three.new (w W1 W2 : World) (r : Rec) (cs : Array Value) (h1 : W1 = w.alloc (.cells #[.int .i64 r.k, .int .i64 r.ep, .int .i64 r.tm, .int .i64 r.ct, .int .i64 r.tg, .int .i64 r.un, .string ⟨r.rt.toArray⟩, .string ⟨r.nm.toArray⟩] 30)) (h2 : W2 = W1.alloc (.cells #[.int .i64 0, .int .i64 0, .int .i64 0, .int .i64 0, .int .i64 0, .int .i64 0, .string ⟨#[]⟩, .string ⟨#[]⟩] 30)) : Three w r cs (W2.alloc (.cells cs 30)) := by
  have hs1 : W1.heap.size = w.heap.size + 1 := by rw [h1]; simp
  have hs2 : W2.heap.size = w.heap.size + 2 := by rw [h2]; simp [hs1]
  have SS : Ws w r W2 := by rw [h2, h1]; exact (ws_new w r).step (below_new _ _)
  have NN : W2.heap[w.heap.size + 1]? = some (.cells #[.int .i64 0, .int .i64 0, .int .i64 0, .int .i64 0, .int .i64 0, .int .i64 0, .string ⟨#[]⟩, .string ⟨#[]⟩] 30 (0, 0)) := by rw [h2, ← hs1]; exact heap_alloc_new W1 _
  have TT := SS.step (below_new W2 (.cells cs 30))
  exact ⟨TT.bel, TT.k, ((below_new W2 _).block _ (lt_of_some NN)).trans NN, by rw [← hs2]; exact heap_alloc_new W2 _⟩
theorem Three.set {w W : World} {r : Rec} {cs : Array Value} (h : Three w r cs W) (i : Nat) (v : Value) : Three w r (cs.setIfInBounds i v) (W.setCell ⟨w.heap.size + 2, i, none⟩ v) :=
  ⟨h.bel.setCell (p := ⟨w.heap.size + 2, i, none⟩) (by simp) v, by
    show _ = _
    rw [heap_setCell_other _ _ _ _ (by simp)]
    exact h.k, by
    rw [heap_setCell_other _ _ _ _ (by simp)]
    exact h.z, blk_set h.s⟩
theorem Three.drew {w W : World} {r : Rec} {cs : Array Value} (h : Three w r cs W) : Three w r cs W.drew := ⟨h.bel.drew, h.k, h.z, h.s⟩
theorem Three.cells {w W : World} {r : Rec} {cs : Array Value} (h : Three w r cs W) : W.cell? ⟨w.heap.size, 0, none⟩ = some (.int .i64 r.k) ∧ W.cell? ⟨w.heap.size, 1, none⟩ = some (.int .i64 r.ep) ∧ W.cell? ⟨w.heap.size, 2, none⟩ = some (.int .i64 r.tm) ∧ W.cell? ⟨w.heap.size, 3, none⟩ = some (.int .i64 r.ct) ∧ W.cell? ⟨w.heap.size, 4, none⟩ = some (.int .i64 r.tg) ∧ W.cell? ⟨w.heap.size, 5, none⟩ = some (.int .i64 r.un) ∧ W.cell? ⟨w.heap.size, 6, none⟩ = some (.string ⟨r.rt.toArray⟩) ∧ W.cell? ⟨w.heap.size, 7, none⟩ = some (.string ⟨r.nm.toArray⟩) := h.k.cells
theorem Three.free {w W : World} {r : Rec} {cs : Array Value} (h : Three w r cs W) (i : Nat) : W.frozen? ⟨w.heap.size + 2, i, none⟩ = false := blk_free h.s
theorem cells8 {W : World} {X : Nat} {a b c d e f g h : Value} {t : TypeId} (hh : W.heap[X]? = some (.cells #[a, b, c, d, e, f, g, h] t (0, 0))) : W.cell? ⟨X, 0, none⟩ = some a ∧ W.cell? ⟨X, 1, none⟩ = some b ∧ W.cell? ⟨X, 2, none⟩ = some c ∧ W.cell? ⟨X, 3, none⟩ = some d ∧ W.cell? ⟨X, 4, none⟩ = some e ∧ W.cell? ⟨X, 5, none⟩ = some f ∧ W.cell? ⟨X, 6, none⟩ = some g ∧ W.cell? ⟨X, 7, none⟩ = some h :=
  ⟨blk_cell hh rfl, blk_cell hh rfl, blk_cell hh rfl, blk_cell hh rfl, blk_cell hh rfl, blk_cell hh rfl, blk_cell hh rfl, blk_cell hh rfl⟩
set_option maxRecDepth 100000 in
theorem said_0 (r : Rec) (hk : r.k ≠ 1 ∧ r.k ≠ 2 ∧ r.k ≠ 3 ∧ r.k ≠ 4 ∧ r.k ≠ 5) (w : World) :
    Calls Try.prog 45 #[.agg #[.int .i64 r.k, .int .i64 r.ep, .int .i64 r.tm, .int .i64 r.ct, .int .i64 r.tg, .int .i64 r.un, .string ⟨r.rt.toArray⟩, .string ⟨r.nm.toArray⟩]] w fun e w' => e = .returned (.agg #[.int .i64 r.k, .int .i64 r.ep, .int .i64 r.tm, .int .i64 0, .int .i64 0, .int .i64 0, .string ⟨#[]⟩, .string ⟨#[]⟩]) ∧ Below w.heap.size w w' := by
  obtain ⟨W1, hW1⟩ : ∃ W1, W1 = w.alloc (.cells #[.int .i64 r.k, .int .i64 r.ep, .int .i64 r.tm, .int .i64 r.ct, .int .i64 r.tg, .int .i64 r.un, .string ⟨r.rt.toArray⟩, .string ⟨r.nm.toArray⟩] 30) := ⟨_, rfl⟩
  obtain ⟨W2, hW2⟩ : ∃ W2, W2 = W1.alloc (.cells #[.int .i64 0, .int .i64 0, .int .i64 0, .int .i64 0, .int .i64 0, .int .i64 0, .string ⟨#[]⟩, .string ⟨#[]⟩] 30) := ⟨_, rfl⟩
  have hs1 : W1.heap.size = w.heap.size + 1 := by rw [hW1]; simp
  have hs2 : W2.heap.size = w.heap.size + 2 := by rw [hW2]; simp [hs1]
  have TT := Lib.hid (Three.new w W1 W2 r #[.int .i64 r.k, .int .i64 r.ep, .int .i64 r.tm, .int .i64 0, .int .i64 0, .int .i64 0, .string ⟨#[]⟩, .string ⟨#[]⟩] hW1 hW2)
  have SS : Hid (Ws w r W2) := Lib.hid (by rw [hW2, hW1]; exact (ws_new w r).step (below_new _ _))
  obtain ⟨k0, k1, k2, k3, k4, k5, k6, k7⟩ := SS.out.k.cells
  have t1 : (r.k == 1) = false := by rw [beq_eq_false_iff_ne]; omega
  have t2 : (r.k == 2) = false := by rw [beq_eq_false_iff_ne]; omega
  have t5 : (r.k == 5) = false := by rw [beq_eq_false_iff_ne]; omega
  have t3 : (r.k == 3) = false := by rw [beq_eq_false_iff_ne]; omega
  have t4 : (r.k == 4) = false := by rw [beq_eq_false_iff_ne]; omega
  clear hk
  go_enter Try.func45, Try.ntmps45
  go_upto_region 1 with (fail)
  rw [← hW1, ← hW2]
  clear hW1 hW2 hs1
  go_upto_region 2 with (fail)
  generalize World.alloc W2 _ = W3 at *
  clear SS k0 k1 k2 k3 k4 k5 k6 k7
  obtain ⟨k0, k1, k2, k3, k4, k5, k6, k7⟩ := TT.out.cells
  go_upto_region 12 with (fail)
  have g := TT.out.s
  obtain ⟨s0, s1, s2, s3, s4, s5, s6, s7⟩ := cells8 g
  go_wp2_with (refine wpList_store_row rfl 30 _ _ rfl (w.heap.size + 1) _ rfl rfl 30 _ TT.out.z infoR rfl (by simp [Value.oneCell']) ?_)
  refine bodyPost_ret (v := .agg #[.int .i64 r.k, .int .i64 r.ep, .int .i64 r.tm, .int .i64 0, .int .i64 0, .int .i64 0, .string ⟨#[]⟩, .string ⟨#[]⟩])
    (results_cell_row Try.results45 _ _ (w.heap.size + 1) 30 _ (0, 0) _ rfl (setRow_same TT.out.z) Try.underlying30 rfl infoR) rfl
    ⟨rfl, below_setRow TT.out.bel (by omega) _⟩
set_option maxRecDepth 100000 in
theorem said_4 (r : Rec) (hk : r.k = 4) (w : World) :
    Calls Try.prog 45 #[.agg #[.int .i64 r.k, .int .i64 r.ep, .int .i64 r.tm, .int .i64 r.ct, .int .i64 r.tg, .int .i64 r.un, .string ⟨r.rt.toArray⟩, .string ⟨r.nm.toArray⟩]] w fun e w' => e = .returned (.agg #[.int .i64 r.k, .int .i64 r.ep, .int .i64 r.tm, .int .i64 0, .int .i64 0, .int .i64 0, .string ⟨#[]⟩, .string ⟨r.nm.toArray⟩]) ∧ Below w.heap.size w w' := by
  obtain ⟨W1, hW1⟩ : ∃ W1, W1 = w.alloc (.cells #[.int .i64 r.k, .int .i64 r.ep, .int .i64 r.tm, .int .i64 r.ct, .int .i64 r.tg, .int .i64 r.un, .string ⟨r.rt.toArray⟩, .string ⟨r.nm.toArray⟩] 30) := ⟨_, rfl⟩
  obtain ⟨W2, hW2⟩ : ∃ W2, W2 = W1.alloc (.cells #[.int .i64 0, .int .i64 0, .int .i64 0, .int .i64 0, .int .i64 0, .int .i64 0, .string ⟨#[]⟩, .string ⟨#[]⟩] 30) := ⟨_, rfl⟩
  have hs1 : W1.heap.size = w.heap.size + 1 := by rw [hW1]; simp
  have hs2 : W2.heap.size = w.heap.size + 2 := by rw [hW2]; simp [hs1]
  have TT := Lib.hid (Three.new w W1 W2 r #[.int .i64 r.k, .int .i64 r.ep, .int .i64 r.tm, .int .i64 0, .int .i64 0, .int .i64 0, .string ⟨#[]⟩, .string ⟨#[]⟩] hW1 hW2)
  have SS : Hid (Ws w r W2) := Lib.hid (by rw [hW2, hW1]; exact (ws_new w r).step (below_new _ _))
  obtain ⟨k0, k1, k2, k3, k4, k5, k6, k7⟩ := SS.out.k.cells
  have t1 : (r.k == 1) = false := by rw [hk]; rfl
  have t2 : (r.k == 2) = false := by rw [hk]; rfl
  have t5 : (r.k == 5) = false := by rw [hk]; rfl
  have t3 : (r.k == 3) = false := by rw [hk]; rfl
  have t4 : (r.k == 4) = true := by rw [hk]; rfl
  clear hk
  go_enter Try.func45, Try.ntmps45
  go_upto_region 1 with (fail)
  rw [← hW1, ← hW2]
  clear hW1 hW2 hs1
  go_upto_region 2 with (fail)
  generalize World.alloc W2 _ = W3 at *
  clear SS k0 k1 k2 k3 k4 k5 k6 k7
  obtain ⟨k0, k1, k2, k3, k4, k5, k6, k7⟩ := TT.out.cells
  have f7 := TT.out.free 7
  have c7 := (cells8 TT.out.s).2.2.2.2.2.2.2
  go_upto_region 12 with (fail)
  have TU := Lib.hid (TT.out.set 7 (.string ⟨r.nm.toArray⟩))
  generalize World.setCell W3 _ _ = W4 at *
  clear TT k0 k1 k2 k3 k4 k5 k6 k7 f7 c7
  have TT := TU
  clear TU
  obtain ⟨s0, s1, s2, s3, s4, s5, s6, s7⟩ := cells8 TT.out.s
  go_wp2_with (refine wpList_store_row rfl 30 _ _ rfl (w.heap.size + 1) _ rfl rfl 30 _ TT.out.z infoR rfl (by simp [Value.oneCell']) ?_)
  refine bodyPost_ret (v := .agg #[.int .i64 r.k, .int .i64 r.ep, .int .i64 r.tm, .int .i64 0, .int .i64 0, .int .i64 0, .string ⟨#[]⟩, .string ⟨r.nm.toArray⟩])
    (results_cell_row Try.results45 _ _ (w.heap.size + 1) 30 _ (0, 0) _ rfl (setRow_same TT.out.z) Try.underlying30 rfl infoR) rfl
    ⟨rfl, below_setRow TT.out.bel (by omega) _⟩
set_option maxRecDepth 100000 in
theorem said_3 (r : Rec) (hk : r.k = 3) (w : World) :
    Calls Try.prog 45 #[.agg #[.int .i64 r.k, .int .i64 r.ep, .int .i64 r.tm, .int .i64 r.ct, .int .i64 r.tg, .int .i64 r.un, .string ⟨r.rt.toArray⟩, .string ⟨r.nm.toArray⟩]] w fun e w' => e = .returned (.agg #[.int .i64 r.k, .int .i64 r.ep, .int .i64 r.tm, .int .i64 0, .int .i64 r.tg, .int .i64 0, .string ⟨#[]⟩, .string ⟨r.nm.toArray⟩]) ∧ Below w.heap.size w w' := by
  obtain ⟨W1, hW1⟩ : ∃ W1, W1 = w.alloc (.cells #[.int .i64 r.k, .int .i64 r.ep, .int .i64 r.tm, .int .i64 r.ct, .int .i64 r.tg, .int .i64 r.un, .string ⟨r.rt.toArray⟩, .string ⟨r.nm.toArray⟩] 30) := ⟨_, rfl⟩
  obtain ⟨W2, hW2⟩ : ∃ W2, W2 = W1.alloc (.cells #[.int .i64 0, .int .i64 0, .int .i64 0, .int .i64 0, .int .i64 0, .int .i64 0, .string ⟨#[]⟩, .string ⟨#[]⟩] 30) := ⟨_, rfl⟩
  have hs1 : W1.heap.size = w.heap.size + 1 := by rw [hW1]; simp
  have hs2 : W2.heap.size = w.heap.size + 2 := by rw [hW2]; simp [hs1]
  have TT := Lib.hid (Three.new w W1 W2 r #[.int .i64 r.k, .int .i64 r.ep, .int .i64 r.tm, .int .i64 0, .int .i64 0, .int .i64 0, .string ⟨#[]⟩, .string ⟨#[]⟩] hW1 hW2)
  have SS : Hid (Ws w r W2) := Lib.hid (by rw [hW2, hW1]; exact (ws_new w r).step (below_new _ _))
  obtain ⟨k0, k1, k2, k3, k4, k5, k6, k7⟩ := SS.out.k.cells
  have t1 : (r.k == 1) = false := by rw [hk]; rfl
  have t2 : (r.k == 2) = false := by rw [hk]; rfl
  have t5 : (r.k == 5) = false := by rw [hk]; rfl
  have t3 : (r.k == 3) = true := by rw [hk]; rfl
  clear hk
  go_enter Try.func45, Try.ntmps45
  go_upto_region 1 with (fail)
  rw [← hW1, ← hW2]
  clear hW1 hW2 hs1
  go_upto_region 2 with (fail)
  generalize World.alloc W2 _ = W3 at *
  clear SS k0 k1 k2 k3 k4 k5 k6 k7
  obtain ⟨k0, k1, k2, k3, k4, k5, k6, k7⟩ := TT.out.cells
  have f4 := TT.out.free 4
  have c4 := (cells8 TT.out.s).2.2.2.2.1
  go_upto_region 11 with (fail)
  have TU := Lib.hid (TT.out.set 4 (.int .i64 r.tg))
  generalize World.setCell W3 _ _ = W4 at *
  clear TT k0 k1 k2 k3 k4 k5 k6 k7 f4 c4
  have TT := TU
  clear TU
  obtain ⟨k0, k1, k2, k3, k4, k5, k6, k7⟩ := TT.out.cells
  have f7 := TT.out.free 7
  have c7 := (cells8 TT.out.s).2.2.2.2.2.2.2
  go_upto_region 12 with (fail)
  have TU := Lib.hid (TT.out.set 7 (.string ⟨r.nm.toArray⟩))
  generalize World.setCell W4 _ _ = W5 at *
  clear TT k0 k1 k2 k3 k4 k5 k6 k7 f7 c7
  have TT := TU
  clear TU
  obtain ⟨s0, s1, s2, s3, s4, s5, s6, s7⟩ := cells8 TT.out.s
  go_wp2_with (refine wpList_store_row rfl 30 _ _ rfl (w.heap.size + 1) _ rfl rfl 30 _ TT.out.z infoR rfl (by simp [Value.oneCell']) ?_)
  refine bodyPost_ret (v := .agg #[.int .i64 r.k, .int .i64 r.ep, .int .i64 r.tm, .int .i64 0, .int .i64 r.tg, .int .i64 0, .string ⟨#[]⟩, .string ⟨r.nm.toArray⟩])
    (results_cell_row Try.results45 _ _ (w.heap.size + 1) 30 _ (0, 0) _ rfl (setRow_same TT.out.z) Try.underlying30 rfl infoR) rfl
    ⟨rfl, below_setRow TT.out.bel (by omega) _⟩
set_option maxRecDepth 100000 in
theorem said_1 (r : Rec) (hk : r.k = 1) (w : World) :
    Calls Try.prog 45 #[.agg #[.int .i64 r.k, .int .i64 r.ep, .int .i64 r.tm, .int .i64 r.ct, .int .i64 r.tg, .int .i64 r.un, .string ⟨r.rt.toArray⟩, .string ⟨r.nm.toArray⟩]] w fun e w' => e = .returned (.agg #[.int .i64 r.k, .int .i64 r.ep, .int .i64 r.tm, .int .i64 r.ct, .int .i64 0, .int .i64 0, .string ⟨r.rt.toArray⟩, .string ⟨#[]⟩]) ∧ Below w.heap.size w w' := by
  obtain ⟨W1, hW1⟩ : ∃ W1, W1 = w.alloc (.cells #[.int .i64 r.k, .int .i64 r.ep, .int .i64 r.tm, .int .i64 r.ct, .int .i64 r.tg, .int .i64 r.un, .string ⟨r.rt.toArray⟩, .string ⟨r.nm.toArray⟩] 30) := ⟨_, rfl⟩
  obtain ⟨W2, hW2⟩ : ∃ W2, W2 = W1.alloc (.cells #[.int .i64 0, .int .i64 0, .int .i64 0, .int .i64 0, .int .i64 0, .int .i64 0, .string ⟨#[]⟩, .string ⟨#[]⟩] 30) := ⟨_, rfl⟩
  have hs1 : W1.heap.size = w.heap.size + 1 := by rw [hW1]; simp
  have hs2 : W2.heap.size = w.heap.size + 2 := by rw [hW2]; simp [hs1]
  have TT := Lib.hid (Three.new w W1 W2 r #[.int .i64 r.k, .int .i64 r.ep, .int .i64 r.tm, .int .i64 0, .int .i64 0, .int .i64 0, .string ⟨#[]⟩, .string ⟨#[]⟩] hW1 hW2)
  have SS : Hid (Ws w r W2) := Lib.hid (by rw [hW2, hW1]; exact (ws_new w r).step (below_new _ _))
  obtain ⟨k0, k1, k2, k3, k4, k5, k6, k7⟩ := SS.out.k.cells
  have t1 : (r.k == 1) = true := by rw [hk]; rfl
  clear hk
  go_enter Try.func45, Try.ntmps45
  go_upto_region 1 with (fail)
  rw [← hW1, ← hW2]
  clear hW1 hW2 hs1
  go_upto_region 2 with (fail)
  generalize World.alloc W2 _ = W3 at *
  clear SS k0 k1 k2 k3 k4 k5 k6 k7
  obtain ⟨k0, k1, k2, k3, k4, k5, k6, k7⟩ := TT.out.cells
  have TU := Lib.hid (TT.out.set 3 (.int .i64 r.ct))
  have TV := Lib.hid (TT.out.set 6 (.string ⟨r.rt.toArray⟩))
  obtain ⟨s0, s1, s2, s3, s4, s5, s6, s7⟩ := cells8 TT.out.s
  obtain ⟨u0, u1, u2, u3, u4, u5, u6, u7⟩ := cells8 TU.out.s
  obtain ⟨v0, v1, v2, v3, v4, v5, v6, v7⟩ := cells8 TV.out.s
  have fa := TT.out.free 3
  have fb := TT.out.free 6
  have fu := TU.out.free 6
  have fv := TV.out.free 3
  obtain ⟨l0, l1, l2, l3, l4, l5, l6, l7⟩ := TU.out.cells
  go_upto_region 8 with (fail)
  go_region
  have TW := Lib.hid ((TU.out.set 6 (.string ⟨r.rt.toArray⟩)).drew)
  clear TT TU TV s0 s1 s2 s3 s4 s5 s6 s7 u0 u1 u2 u3 u4 u5 u6 u7 v0 v1 v2 v3 v4 v5 v6 v7 l0 l1 l2 l3 l4 l5 l6 l7 k0 k1 k2 k3 k4 k5 k6 k7 fa fb fu fv
  generalize World.drew _ = W4 at *
  have TT := TW
  clear TW
  go_upto_region 12 with (fail)
  obtain ⟨s0, s1, s2, s3, s4, s5, s6, s7⟩ := cells8 TT.out.s
  go_wp2_with (refine wpList_store_row rfl 30 _ _ rfl (w.heap.size + 1) _ rfl rfl 30 _ TT.out.z infoR rfl (by simp [Value.oneCell']) ?_)
  refine bodyPost_ret (v := .agg #[.int .i64 r.k, .int .i64 r.ep, .int .i64 r.tm, .int .i64 r.ct, .int .i64 0, .int .i64 0, .string ⟨r.rt.toArray⟩, .string ⟨#[]⟩])
    (results_cell_row Try.results45 _ _ (w.heap.size + 1) 30 _ (0, 0) _ rfl (setRow_same TT.out.z) Try.underlying30 rfl infoR) rfl
    ⟨rfl, below_setRow TT.out.bel (by omega) _⟩
set_option maxRecDepth 100000 in
theorem said_2 (r : Rec) (hk : r.k = 2) (w : World) :
    Calls Try.prog 45 #[.agg #[.int .i64 r.k, .int .i64 r.ep, .int .i64 r.tm, .int .i64 r.ct, .int .i64 r.tg, .int .i64 r.un, .string ⟨r.rt.toArray⟩, .string ⟨r.nm.toArray⟩]] w fun e w' => e = .returned (.agg #[.int .i64 r.k, .int .i64 r.ep, .int .i64 r.tm, .int .i64 0, .int .i64 r.tg, .int .i64 r.un, .string ⟨#[]⟩, .string ⟨#[]⟩]) ∧ Below w.heap.size w w' := by
  obtain ⟨W1, hW1⟩ : ∃ W1, W1 = w.alloc (.cells #[.int .i64 r.k, .int .i64 r.ep, .int .i64 r.tm, .int .i64 r.ct, .int .i64 r.tg, .int .i64 r.un, .string ⟨r.rt.toArray⟩, .string ⟨r.nm.toArray⟩] 30) := ⟨_, rfl⟩
  obtain ⟨W2, hW2⟩ : ∃ W2, W2 = W1.alloc (.cells #[.int .i64 0, .int .i64 0, .int .i64 0, .int .i64 0, .int .i64 0, .int .i64 0, .string ⟨#[]⟩, .string ⟨#[]⟩] 30) := ⟨_, rfl⟩
  have hs1 : W1.heap.size = w.heap.size + 1 := by rw [hW1]; simp
  have hs2 : W2.heap.size = w.heap.size + 2 := by rw [hW2]; simp [hs1]
  have TT := Lib.hid (Three.new w W1 W2 r #[.int .i64 r.k, .int .i64 r.ep, .int .i64 r.tm, .int .i64 0, .int .i64 0, .int .i64 0, .string ⟨#[]⟩, .string ⟨#[]⟩] hW1 hW2)
  have SS : Hid (Ws w r W2) := Lib.hid (by rw [hW2, hW1]; exact (ws_new w r).step (below_new _ _))
  obtain ⟨k0, k1, k2, k3, k4, k5, k6, k7⟩ := SS.out.k.cells
  have t1 : (r.k == 1) = false := by rw [hk]; rfl
  have t2 : (r.k == 2) = true := by rw [hk]; rfl
  clear hk
  go_enter Try.func45, Try.ntmps45
  go_upto_region 1 with (fail)
  rw [← hW1, ← hW2]
  clear hW1 hW2 hs1
  go_upto_region 2 with (fail)
  generalize World.alloc W2 _ = W3 at *
  clear SS k0 k1 k2 k3 k4 k5 k6 k7
  obtain ⟨k0, k1, k2, k3, k4, k5, k6, k7⟩ := TT.out.cells
  have TU := Lib.hid (TT.out.set 4 (.int .i64 r.tg))
  have TV := Lib.hid (TT.out.set 5 (.int .i64 r.un))
  obtain ⟨s0, s1, s2, s3, s4, s5, s6, s7⟩ := cells8 TT.out.s
  obtain ⟨u0, u1, u2, u3, u4, u5, u6, u7⟩ := cells8 TU.out.s
  obtain ⟨v0, v1, v2, v3, v4, v5, v6, v7⟩ := cells8 TV.out.s
  have fa := TT.out.free 4
  have fb := TT.out.free 5
  have fu := TU.out.free 5
  have fv := TV.out.free 4
  obtain ⟨l0, l1, l2, l3, l4, l5, l6, l7⟩ := TU.out.cells
  go_upto_region 9 with (fail)
  go_region
  have TW := Lib.hid ((TU.out.set 5 (.int .i64 r.un)).drew)
  clear TT TU TV s0 s1 s2 s3 s4 s5 s6 s7 u0 u1 u2 u3 u4 u5 u6 u7 v0 v1 v2 v3 v4 v5 v6 v7 l0 l1 l2 l3 l4 l5 l6 l7 k0 k1 k2 k3 k4 k5 k6 k7 fa fb fu fv
  generalize World.drew _ = W4 at *
  have TT := TW
  clear TW
  go_upto_region 12 with (fail)
  obtain ⟨s0, s1, s2, s3, s4, s5, s6, s7⟩ := cells8 TT.out.s
  go_wp2_with (refine wpList_store_row rfl 30 _ _ rfl (w.heap.size + 1) _ rfl rfl 30 _ TT.out.z infoR rfl (by simp [Value.oneCell']) ?_)
  refine bodyPost_ret (v := .agg #[.int .i64 r.k, .int .i64 r.ep, .int .i64 r.tm, .int .i64 0, .int .i64 r.tg, .int .i64 r.un, .string ⟨#[]⟩, .string ⟨#[]⟩])
    (results_cell_row Try.results45 _ _ (w.heap.size + 1) 30 _ (0, 0) _ rfl (setRow_same TT.out.z) Try.underlying30 rfl infoR) rfl
    ⟨rfl, below_setRow TT.out.bel (by omega) _⟩
set_option maxRecDepth 100000 in
theorem said_5 (r : Rec) (hk : r.k = 5) (w : World) :
    Calls Try.prog 45 #[.agg #[.int .i64 r.k, .int .i64 r.ep, .int .i64 r.tm, .int .i64 r.ct, .int .i64 r.tg, .int .i64 r.un, .string ⟨r.rt.toArray⟩, .string ⟨r.nm.toArray⟩]] w fun e w' => e = .returned (.agg #[.int .i64 r.k, .int .i64 r.ep, .int .i64 r.tm, .int .i64 0, .int .i64 r.tg, .int .i64 r.un, .string ⟨#[]⟩, .string ⟨#[]⟩]) ∧ Below w.heap.size w w' := by
  obtain ⟨W1, hW1⟩ : ∃ W1, W1 = w.alloc (.cells #[.int .i64 r.k, .int .i64 r.ep, .int .i64 r.tm, .int .i64 r.ct, .int .i64 r.tg, .int .i64 r.un, .string ⟨r.rt.toArray⟩, .string ⟨r.nm.toArray⟩] 30) := ⟨_, rfl⟩
  obtain ⟨W2, hW2⟩ : ∃ W2, W2 = W1.alloc (.cells #[.int .i64 0, .int .i64 0, .int .i64 0, .int .i64 0, .int .i64 0, .int .i64 0, .string ⟨#[]⟩, .string ⟨#[]⟩] 30) := ⟨_, rfl⟩
  have hs1 : W1.heap.size = w.heap.size + 1 := by rw [hW1]; simp
  have hs2 : W2.heap.size = w.heap.size + 2 := by rw [hW2]; simp [hs1]
  have TT := Lib.hid (Three.new w W1 W2 r #[.int .i64 r.k, .int .i64 r.ep, .int .i64 r.tm, .int .i64 0, .int .i64 0, .int .i64 0, .string ⟨#[]⟩, .string ⟨#[]⟩] hW1 hW2)
  have SS : Hid (Ws w r W2) := Lib.hid (by rw [hW2, hW1]; exact (ws_new w r).step (below_new _ _))
  obtain ⟨k0, k1, k2, k3, k4, k5, k6, k7⟩ := SS.out.k.cells
  have t1 : (r.k == 1) = false := by rw [hk]; rfl
  have t2 : (r.k == 2) = false := by rw [hk]; rfl
  have t5 : (r.k == 5) = true := by rw [hk]; rfl
  clear hk
  go_enter Try.func45, Try.ntmps45
  go_upto_region 1 with (fail)
  rw [← hW1, ← hW2]
  clear hW1 hW2 hs1
  go_upto_region 2 with (fail)
  generalize World.alloc W2 _ = W3 at *
  clear SS k0 k1 k2 k3 k4 k5 k6 k7
  obtain ⟨k0, k1, k2, k3, k4, k5, k6, k7⟩ := TT.out.cells
  have TU := Lib.hid (TT.out.set 4 (.int .i64 r.tg))
  have TV := Lib.hid (TT.out.set 5 (.int .i64 r.un))
  obtain ⟨s0, s1, s2, s3, s4, s5, s6, s7⟩ := cells8 TT.out.s
  obtain ⟨u0, u1, u2, u3, u4, u5, u6, u7⟩ := cells8 TU.out.s
  obtain ⟨v0, v1, v2, v3, v4, v5, v6, v7⟩ := cells8 TV.out.s
  have fa := TT.out.free 4
  have fb := TT.out.free 5
  have fu := TU.out.free 5
  have fv := TV.out.free 4
  obtain ⟨l0, l1, l2, l3, l4, l5, l6, l7⟩ := TU.out.cells
  go_upto_region 9 with (fail)
  go_region
  have TW := Lib.hid ((TU.out.set 5 (.int .i64 r.un)).drew)
  clear TT TU TV s0 s1 s2 s3 s4 s5 s6 s7 u0 u1 u2 u3 u4 u5 u6 u7 v0 v1 v2 v3 v4 v5 v6 v7 l0 l1 l2 l3 l4 l5 l6 l7 k0 k1 k2 k3 k4 k5 k6 k7 fa fb fu fv
  generalize World.drew _ = W4 at *
  have TT := TW
  clear TW
  go_upto_region 12 with (fail)
  obtain ⟨s0, s1, s2, s3, s4, s5, s6, s7⟩ := cells8 TT.out.s
  go_wp2_with (refine wpList_store_row rfl 30 _ _ rfl (w.heap.size + 1) _ rfl rfl 30 _ TT.out.z infoR rfl (by simp [Value.oneCell']) ?_)
  refine bodyPost_ret (v := .agg #[.int .i64 r.k, .int .i64 r.ep, .int .i64 r.tm, .int .i64 0, .int .i64 r.tg, .int .i64 r.un, .string ⟨#[]⟩, .string ⟨#[]⟩])
    (results_cell_row Try.results45 _ _ (w.heap.size + 1) 30 _ (0, 0) _ rfl (setRow_same TT.out.z) Try.underlying30 rfl infoR) rfl
    ⟨rfl, below_setRow TT.out.bel (by omega) _⟩
/-- What record.said answers. -/
theorem said (r : Rec) (w : World) :
    Calls Try.prog 45 #[.agg #[.int .i64 r.k, .int .i64 r.ep, .int .i64 r.tm, .int .i64 r.ct, .int .i64 r.tg, .int .i64 r.un, .string ⟨r.rt.toArray⟩, .string ⟨r.nm.toArray⟩]] w fun e w' => e = .returned (.agg #[.int .i64 (RecM.said r).k, .int .i64 (RecM.said r).ep, .int .i64 (RecM.said r).tm, .int .i64 (RecM.said r).ct, .int .i64 (RecM.said r).tg, .int .i64 (RecM.said r).un, .string ⟨(RecM.said r).rt.toArray⟩, .string ⟨(RecM.said r).nm.toArray⟩]) ∧ Below w.heap.size w w' := by
  by_cases h1 : r.k = 1
  · rw [said1 h1]; exact said_1 r h1 w
  by_cases h2 : r.k = 2
  · rw [said2 (.inl h2)]; exact said_2 r h2 w
  by_cases h5 : r.k = 5
  · rw [said2 (.inr h5)]; exact said_5 r h5 w
  by_cases h3 : r.k = 3
  · rw [said3 h3]; exact said_3 r h3 w
  by_cases h4 : r.k = 4
  · rw [said4 h4]; exact said_4 r h4 w
  have h0 : r.k ≠ 1 ∧ r.k ≠ 2 ∧ r.k ≠ 3 ∧ r.k ≠ 4 ∧ r.k ≠ 5 := ⟨h1, h2, h3, h4, h5⟩
  rw [said0 h0]; exact said_0 r h0 w
end Go.Proofs.Yteldohopagdodaa.RecS
