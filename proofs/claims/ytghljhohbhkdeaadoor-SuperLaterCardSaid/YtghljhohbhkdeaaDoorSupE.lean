/- super.Next: the walk of its text. The condition: that the least and the most numbers lie in the program's two variables. -/
import Derived.Test.YtghljhohbhkdeaaDoorSupD
import Derived.Laws.ResultCell
namespace Go.Proofs.YtghljhohbhkdeaaDoor.SupE
open Go.RowKit
open GeoN GeoC GeoS SupN SupC SupD
/-- Results of which the first is a struct in a cell. -/
theorem results_cell_tmp_row {P : Program} {fn : Func} {p u : Tmp} {ty : TypeId} (h : fn.results = #[.cell p ty, .tmp u]) (tmps : Array Value) (w : World) (g : Nat) (t : TypeId) (cs : Array Value) (fr : Nat × Nat) (d : TypeDesc)
    (hp : tmps.getD p undef = .pointer (some ⟨g, 0, none⟩)) (hg : w.heap[g]? = some (.cells cs t fr))
    (hu : P.underlying ty = some d) (hd : (match d with | .struct _ | .array _ _ => true | _ => false) = true) (hi : (P.info? ty).map (·.size) = some cs.size) :
    (results fn tmps).run P w = .ok (.tuple #[.agg cs, tmps.getD u undef]) w := by
  rw [results_cell_tmp h, hp]
  simp [asAddr, run_loadVar_row w g t ty cs fr d hg hu hd hi]
set_option maxRecDepth 100000 in
theorem Next_no (g t e k b l f : Int) (w : World) (hb : Bnd w) (hm : ¬ may ⟨g, t, e, k, b, l, f⟩) :
    Calls Tryd.prog 9 #[.agg #[.int .i64 g, .int .i64 t, .int .i64 e, .int .i64 k, .int .i64 b, .int .i64 l, .int .i64 f]] w fun r w' => r = .returned (.tuple #[.agg #[.int .i64 0, .int .i64 0, .int .i64 0, .int .i64 0, .int .i64 0, .int .i64 0, .int .i64 0], .int .i64 2]) ∧ Below w.heap.size w w' := by
  obtain ⟨W1, hW1⟩ : ∃ W1, W1 = w.alloc (.cells #[.int .i64 g, .int .i64 t, .int .i64 e, .int .i64 k, .int .i64 b, .int .i64 l, .int .i64 f] 25) := ⟨_, rfl⟩
  have SS : Hid (Ws w g t e k b l f W1) := Lib.hid (by rw [hW1]; exact st_new g t e k b l f hb)
  obtain ⟨W2, hW2⟩ : ∃ W2, W2 = W1.alloc (.cells #[.int .i64 0, .int .i64 0, .int .i64 0, .int .i64 0, .int .i64 0, .int .i64 0, .int .i64 0] 25) := ⟨_, rfl⟩
  have hs1 : W1.heap.size = w.heap.size + 1 := by rw [hW1]; simp
  have SB : Hid (Bk W2 (w.heap.size + 1) 0 0 0 0 0 0 0) := Lib.hid (by rw [hW2, ← hs1]; exact heap_alloc_new W1 _)
  replace SS : Hid (Ws w g t e k b l f W2) := Lib.hid (SS.out.step (by rw [hW2]; exact (Below.refl _ _).alloc (Nat.le_refl _) _))
  obtain ⟨k0, k1, k2, k3, k4, k5, k6⟩ := SS.out.k.cells
  have HC := Lib.hid (fun W h => Check g t e k b l f W h)
  rw [check_no hm] at HC
  clear hm
  go_enter Tryd.func9, Tryd.ntmps9
  go_upto_region 1 with (fail)
  rw [← hW1, ← hW2]
  clear hW1 hW2 hs1 hb
  go_wp2_with (first
    | (go_at_call 10; refine (HC.out _ SS.out.bn).mono ?_; rintro r w2 ⟨rfl, hb2⟩; replace SS := Lib.hid (SS.out.step hb2); replace SB := Lib.hid (SB.out.step hb2); clear hb2 k0 k1 k2 k3 k4 k5 k6; obtain ⟨k0, k1, k2, k3, k4, k5, k6⟩ := SS.out.k.cells)
    | (refine wpList_store_row rfl 25 _ _ rfl (w.heap.size + 1) _ rfl rfl 25 _ SB.out infoS rfl (one7 0 0 0 0 0 0 0) ?_))
  refine bodyPost_ret (v := .tuple #[.agg #[.int .i64 0, .int .i64 0, .int .i64 0, .int .i64 0, .int .i64 0, .int .i64 0, .int .i64 0], .int .i64 2])
    (results_cell_tmp_row Tryd.results9 _ _ (w.heap.size + 1) 25 _ (0, 0) _ rfl (setRow_same SB.out) Tryd.underlying25 rfl infoS) rfl
    ⟨rfl, below_setRow SS.out.bel (by omega) _⟩
set_option maxRecDepth 100000 in
theorem Next_last (g t e k b l f : Int) (w : World) (hb : Bnd w) (hm : may ⟨g, t, e, k, b, l, f⟩) (hl : g = 1152921504606846976) :
    Calls Tryd.prog 9 #[.agg #[.int .i64 g, .int .i64 t, .int .i64 e, .int .i64 k, .int .i64 b, .int .i64 l, .int .i64 f]] w fun r w' => r = .returned (.tuple #[.agg #[.int .i64 0, .int .i64 0, .int .i64 0, .int .i64 0, .int .i64 0, .int .i64 0, .int .i64 0], .int .i64 6]) ∧ Below w.heap.size w w' := by
  subst hl
  obtain ⟨W1, hW1⟩ : ∃ W1, W1 = w.alloc (.cells #[.int .i64 1152921504606846976, .int .i64 t, .int .i64 e, .int .i64 k, .int .i64 b, .int .i64 l, .int .i64 f] 25) := ⟨_, rfl⟩
  have SS : Hid (Ws w 1152921504606846976 t e k b l f W1) := Lib.hid (by rw [hW1]; exact st_new _ t e k b l f hb)
  obtain ⟨W2, hW2⟩ : ∃ W2, W2 = W1.alloc (.cells #[.int .i64 0, .int .i64 0, .int .i64 0, .int .i64 0, .int .i64 0, .int .i64 0, .int .i64 0] 25) := ⟨_, rfl⟩
  have hs1 : W1.heap.size = w.heap.size + 1 := by rw [hW1]; simp
  have SB : Hid (Bk W2 (w.heap.size + 1) 0 0 0 0 0 0 0) := Lib.hid (by rw [hW2, ← hs1]; exact heap_alloc_new W1 _)
  replace SS : Hid (Ws w 1152921504606846976 t e k b l f W2) := Lib.hid (SS.out.step (by rw [hW2]; exact (Below.refl _ _).alloc (Nat.le_refl _) _))
  obtain ⟨k0, k1, k2, k3, k4, k5, k6⟩ := SS.out.k.cells
  have HC := Lib.hid (fun W h => Check 1152921504606846976 t e k b l f W h)
  rw [check_yes hm] at HC
  clear hm
  go_enter Tryd.func9, Tryd.ntmps9
  go_upto_region 1 with (fail)
  rw [← hW1, ← hW2]
  clear hW1 hW2 hs1 hb
  go_wp2_with (first
    | (go_at_call 10; refine (HC.out _ SS.out.bn).mono ?_; rintro r w2 ⟨rfl, hb2⟩; replace SS := Lib.hid (SS.out.step hb2); replace SB := Lib.hid (SB.out.step hb2); clear hb2 k0 k1 k2 k3 k4 k5 k6; obtain ⟨k0, k1, k2, k3, k4, k5, k6⟩ := SS.out.k.cells)
    | (refine wpList_store_row rfl 25 _ _ rfl (w.heap.size + 1) _ rfl rfl 25 _ SB.out infoS rfl (one7 0 0 0 0 0 0 0) ?_))
  refine bodyPost_ret (v := .tuple #[.agg #[.int .i64 0, .int .i64 0, .int .i64 0, .int .i64 0, .int .i64 0, .int .i64 0, .int .i64 0], .int .i64 6])
    (results_cell_tmp_row Tryd.results9 _ _ (w.heap.size + 1) 25 _ (0, 0) _ rfl (setRow_same SB.out) Tryd.underlying25 rfl infoS) rfl
    ⟨rfl, below_setRow SS.out.bel (by omega) _⟩
set_option maxRecDepth 100000 in
theorem Next_yes (g t e k b l f : Int) (w : World) (hb : Bnd w) (hm : may ⟨g, t, e, k, b, l, f⟩) (hl : ¬ g = 1152921504606846976) :
    Calls Tryd.prog 9 #[.agg #[.int .i64 g, .int .i64 t, .int .i64 e, .int .i64 k, .int .i64 b, .int .i64 l, .int .i64 f]] w fun r w' => r = .returned (.tuple #[.agg #[.int .i64 (g + 1), .int .i64 t, .int .i64 e, .int .i64 k, .int .i64 b, .int .i64 l, .int .i64 f], .int .i64 0]) ∧ Below w.heap.size w w' := by
  obtain ⟨W1, hW1⟩ : ∃ W1, W1 = w.alloc (.cells #[.int .i64 g, .int .i64 t, .int .i64 e, .int .i64 k, .int .i64 b, .int .i64 l, .int .i64 f] 25) := ⟨_, rfl⟩
  have SS : Hid (Ws w g t e k b l f W1) := Lib.hid (by rw [hW1]; exact st_new g t e k b l f hb)
  obtain ⟨W2, hW2⟩ : ∃ W2, W2 = W1.alloc (.cells #[.int .i64 0, .int .i64 0, .int .i64 0, .int .i64 0, .int .i64 0, .int .i64 0, .int .i64 0] 25) := ⟨_, rfl⟩
  have hs1 : W1.heap.size = w.heap.size + 1 := by rw [hW1]; simp
  have SB : Hid (Bk W2 (w.heap.size + 1) 0 0 0 0 0 0 0) := Lib.hid (by rw [hW2, ← hs1]; exact heap_alloc_new W1 _)
  replace SS : Hid (Ws w g t e k b l f W2) := Lib.hid (SS.out.step (by rw [hW2]; exact (Below.refl _ _).alloc (Nat.le_refl _) _))
  obtain ⟨k0, k1, k2, k3, k4, k5, k6⟩ := SS.out.k.cells
  have HC := Lib.hid (fun W h => Check g t e k b l f W h)
  rw [check_yes hm] at HC
  have hg : 1 ≤ g ∧ g < 1152921504606846976 := by have := hm.2.1; dsimp only at this; omega
  clear hm
  go_enter Tryd.func9, Tryd.ntmps9
  go_upto_region 1 with (fail)
  rw [← hW1, ← hW2]
  clear hW1 hW2 hs1 hb
  go_upto_region 6 with (first
    | (go_at_call 10; refine (HC.out _ SS.out.bn).mono ?_; rintro r w2 ⟨rfl, hb2⟩; replace SS := Lib.hid (SS.out.step hb2); replace SB := Lib.hid (SB.out.step hb2); clear hb2 k0 k1 k2 k3 k4 k5 k6; obtain ⟨k0, k1, k2, k3, k4, k5, k6⟩ := SS.out.k.cells))
  have fz := blk_free (i := 0) SS.out.k
  go_upto_region 7 with (fail)
  generalize hW : World.setCell _ _ _ = W3
  have hb3 : Below w.heap.size w W3 := by rw [← hW]; exact SS.out.bel.setCell (Nat.le_refl _) _
  have hk3 : Bk W3 w.heap.size (g + 1) t e k b l f := by rw [← hW]; show _ = _; rw [blk_set SS.out.k]; rfl
  have hd3 : Bk W3 (w.heap.size + 1) 0 0 0 0 0 0 0 := by rw [← hW]; show _ = _; rw [Below.heap_setCell _ _ _ _ (by simp)]; exact SB.out
  have HB3 := Lib.hid hb3
  have HD3 := Lib.hid hd3
  clear hW k0 k1 k2 k3 k4 k5 k6 hb3 hd3 SS SB HC fz
  obtain ⟨k0, k1, k2, k3, k4, k5, k6⟩ := hk3.cells
  clear hk3
  go_wp2_with (refine wpList_store_row rfl 25 _ _ rfl (w.heap.size + 1) _ rfl rfl 25 _ HD3.out infoS rfl (one7 (g + 1) t e k b l f) ?_)
  refine bodyPost_ret (v := .tuple #[.agg #[.int .i64 (g + 1), .int .i64 t, .int .i64 e, .int .i64 k, .int .i64 b, .int .i64 l, .int .i64 f], .int .i64 0])
    (results_cell_tmp_row Tryd.results9 _ _ (w.heap.size + 1) 25 _ (0, 0) _ rfl (setRow_same HD3.out) Tryd.underlying25 rfl infoS) rfl
    ⟨rfl, below_setRow HB3.out (by omega) _⟩
/-- What super.Next answers. -/
theorem Next (g t e k b l f : Int) (w : World) (hb : Bnd w) :
    Calls Tryd.prog 9 #[.agg #[.int .i64 g, .int .i64 t, .int .i64 e, .int .i64 k, .int .i64 b, .int .i64 l, .int .i64 f]] w fun r w' => r = .returned (.tuple #[.agg #[.int .i64 ((next ⟨g, t, e, k, b, l, f⟩).1).g, .int .i64 ((next ⟨g, t, e, k, b, l, f⟩).1).t, .int .i64 ((next ⟨g, t, e, k, b, l, f⟩).1).e, .int .i64 ((next ⟨g, t, e, k, b, l, f⟩).1).k, .int .i64 ((next ⟨g, t, e, k, b, l, f⟩).1).b, .int .i64 ((next ⟨g, t, e, k, b, l, f⟩).1).l, .int .i64 ((next ⟨g, t, e, k, b, l, f⟩).1).f], .int .i64 (next ⟨g, t, e, k, b, l, f⟩).2]) ∧ Below w.heap.size w w' := by
  by_cases hm : may ⟨g, t, e, k, b, l, f⟩
  · by_cases hl : g = 1152921504606846976
    · rw [next_last hm hl]; exact Next_last g t e k b l f w hb hm hl
    · rw [next_yes hm hl]; exact Next_yes g t e k b l f w hb hm hl
  · rw [next_no hm]; exact Next_no g t e k b l f w hb hm
end Go.Proofs.YtghljhohbhkdeaaDoor.SupE
