/- super.Choose: the walk of its text. The condition: that the least and the most numbers, and the rounds' numbers, lie in the program's variables. -/
import Derived.Test.YtghljhohbhkdeaaDoorSupU
namespace Go.Proofs.YtghljhohbhkdeaaDoor.SupV
open Go.RowKit
open GeoN GeoC GeoS SupN SupC SupD SupP SupU
/-- Results of which the first is a struct in a cell, and two more. -/
theorem results_cell_two_row {P : Program} {fn : Func} {p u v : Tmp} {ty : TypeId} (h : fn.results = #[.cell p ty, .tmp u, .tmp v]) (tmps : Array Value) (w : World) (g : Nat) (t : TypeId) (cs : Array Value) (fr : Nat × Nat) (d : TypeDesc)
    (hp : tmps.getD p undef = .pointer (some ⟨g, 0, none⟩)) (hg : w.heap[g]? = some (.cells cs t fr))
    (hu : P.underlying ty = some d) (hd : (match d with | .struct _ | .array _ _ => true | _ => false) = true) (hi : (P.info? ty).map (·.size) = some cs.size) :
    (results fn tmps).run P w = .ok (.tuple #[.agg cs, tmps.getD u undef, tmps.getD v undef]) w := by
  have e : (results fn tmps).run P w =
      ((asAddr (tmps.getD p undef)).run P w).andThen fun a w₁ => ((loadVar ty a).run P w₁).andThen fun x w₂ => .ok (.tuple #[x, tmps.getD u undef, tmps.getD v undef]) w₂ := by
    simp only [results, h]
    simp [Sem.run_bind, Result.andThen]
  rw [e, hp]
  simp [asAddr, run_loadVar_row w g t ty cs fr d hg hu hd hi]
/-- What stands while Choose runs, both superblocks with it. -/
structure Two (w : World) (X Y : Nat) (g1 t1 e1 k1 b1 l1 f1 g2 t2 e2 k2 b2 l2 f2 : Int) (W : World) : Prop where
  tk : Tk w W
  kx : Bk W X g1 t1 e1 k1 b1 l1 f1
  ky : Bk W Y g2 t2 e2 k2 b2 l2 f2
set_option maxRecDepth 100000 in
theorem Choose_one (a b : List UInt8) (g1 t1 e1 k1 b1 l1 f1 g2 t2 e2 k2 b2 l2 f2 c d : Int) (w : World) (hg : Gl w) (ha : take a = (⟨g1, t1, e1, k1, b1, l1, f1⟩, c)) (hb : take b = (⟨g2, t2, e2, k2, b2, l2, f2⟩, d)) (hl : g1 < g2) :
    Calls Tryd.prog 14 #[.string ⟨a.toArray⟩, .string ⟨b.toArray⟩] w fun r w' => r = .returned (.tuple #[.agg #[.int .i64 g2, .int .i64 t2, .int .i64 e2, .int .i64 k2, .int .i64 b2, .int .i64 l2, .int .i64 f2], .int .i64 1, .int .i64 0]) ∧ Below w.heap.size w w' := by
  obtain ⟨W1, hW1⟩ : ∃ W1, W1 = w.alloc (.cells #[.int .i64 0, .int .i64 0, .int .i64 0, .int .i64 0, .int .i64 0, .int .i64 0, .int .i64 0] 25) := ⟨_, rfl⟩
  have TT : Hid (Tk w W1) := Lib.hid (by rw [hW1]; exact tk_new hg)
  have HA := Lib.hid (fun W h => SupU.Take a W h)
  have HB := Lib.hid (fun W h => SupU.Take b W h)
  rw [ha] at HA
  rw [hb] at HB
  clear ha hb
  go_enter Tryd.func14, Tryd.ntmps14
  go_upto_region 1 with (fail)
  rw [← hW1]
  clear hW1 hg
  go_upto_region 2 with (first
    | (go_at_call 12; refine (HA.out _ TT.out.gl).mono ?_; rintro r w2 ⟨rfl, hb2⟩; replace TT := Lib.hid (TT.out.step hb2); clear hb2)
    | (refine wpList_store_row rfl 25 _ _ rfl w2.heap.size _ rfl rfl 25 _ (heap_alloc_new w2 _) infoS rfl (one7 g1 t1 e1 k1 b1 l1 f1) ?_))
  generalize hW3 : World.setRow (World.alloc w2 _) _ _ = W3
  replace TT : Hid (Tk w W3) := Lib.hid (by rw [← hW3]; exact TT.out.step (kept_new _ _ _ _))
  have KX : Hid (Bk W3 w2.heap.size g1 t1 e1 k1 b1 l1 f1) := Lib.hid (by rw [← hW3]; exact has_new _ _ _ _)
  clear hW3
  generalize w2.heap.size = X at *
  go_upto_region 3 with (first
    | (go_at_call 12; refine (HB.out _ TT.out.gl).mono ?_; rintro r w4 ⟨rfl, hb4⟩; replace TT := Lib.hid (TT.out.step hb4); replace KX := Lib.hid (KX.out.step hb4); clear hb4)
    | (refine wpList_store_row rfl 25 _ _ rfl w4.heap.size _ rfl rfl 25 _ (heap_alloc_new w4 _) infoS rfl (one7 g2 t2 e2 k2 b2 l2 f2) ?_))
  generalize hW5 : World.setRow (World.alloc w4 _) _ _ = W5
  replace TT : Hid (Tk w W5) := Lib.hid (by rw [← hW5]; exact TT.out.step (kept_new _ _ _ _))
  replace KX : Hid (Bk W5 X g1 t1 e1 k1 b1 l1 f1) := Lib.hid (by rw [← hW5]; exact KX.out.step (kept_new _ _ _ _))
  have KY : Hid (Bk W5 w4.heap.size g2 t2 e2 k2 b2 l2 f2) := Lib.hid (by rw [← hW5]; exact has_new _ _ _ _)
  clear hW5 HA HB
  generalize w4.heap.size = Y at *
  obtain ⟨x0, x1, x2, x3, x4, x5, x6⟩ := KX.out.cells
  obtain ⟨y0, y1, y2, y3, y4, y5, y6⟩ := KY.out.cells
  go_wp2_with (refine wpList_store_row rfl 25 _ _ rfl w.heap.size _ rfl rfl 25 _ TT.out.k infoS rfl (one7 g2 t2 e2 k2 b2 l2 f2) ?_)
  refine bodyPost_ret (v := .tuple #[.agg #[.int .i64 g2, .int .i64 t2, .int .i64 e2, .int .i64 k2, .int .i64 b2, .int .i64 l2, .int .i64 f2], .int .i64 1, .int .i64 0])
    (results_cell_two_row Tryd.results14 _ _ w.heap.size 25 _ (0, 0) _ rfl (setRow_same TT.out.k) Tryd.underlying25 rfl infoS) rfl
    ⟨rfl, below_setRow TT.out.bel (Nat.le_refl _) _⟩
set_option maxRecDepth 100000 in
theorem Choose_none (a b : List UInt8) (g1 t1 e1 k1 b1 l1 f1 g2 t2 e2 k2 b2 l2 f2 c d : Int) (w : World) (hg : Gl w) (ha : take a = (⟨g1, t1, e1, k1, b1, l1, f1⟩, c)) (hb : take b = (⟨g2, t2, e2, k2, b2, l2, f2⟩, d)) (hl : ¬ g1 < g2) (hs : same g1 t1 e1 k1 b1 l1 f1 0 0 0 0 0 0 0 = true) :
    Calls Tryd.prog 14 #[.string ⟨a.toArray⟩, .string ⟨b.toArray⟩] w fun r w' => r = .returned (.tuple #[.agg #[.int .i64 0, .int .i64 0, .int .i64 0, .int .i64 0, .int .i64 0, .int .i64 0, .int .i64 0], .int .i64 0, .int .i64 7]) ∧ Below w.heap.size w w' := by
  obtain ⟨W1, hW1⟩ : ∃ W1, W1 = w.alloc (.cells #[.int .i64 0, .int .i64 0, .int .i64 0, .int .i64 0, .int .i64 0, .int .i64 0, .int .i64 0] 25) := ⟨_, rfl⟩
  have TT : Hid (Tk w W1) := Lib.hid (by rw [hW1]; exact tk_new hg)
  have HA := Lib.hid (fun W h => SupU.Take a W h)
  have HB := Lib.hid (fun W h => SupU.Take b W h)
  rw [ha] at HA
  rw [hb] at HB
  clear ha hb
  have heq := fun W => run_eql_sup W g1 t1 e1 k1 b1 l1 f1 0 0 0 0 0 0 0 true hs
  clear hs
  go_enter Tryd.func14, Tryd.ntmps14
  go_upto_region 1 with (fail)
  rw [← hW1]
  clear hW1 hg
  go_upto_region 2 with (first
    | (go_at_call 12; refine (HA.out _ TT.out.gl).mono ?_; rintro r w2 ⟨rfl, hb2⟩; replace TT := Lib.hid (TT.out.step hb2); clear hb2)
    | (refine wpList_store_row rfl 25 _ _ rfl w2.heap.size _ rfl rfl 25 _ (heap_alloc_new w2 _) infoS rfl (one7 g1 t1 e1 k1 b1 l1 f1) ?_))
  generalize hW3 : World.setRow (World.alloc w2 _) _ _ = W3
  replace TT : Hid (Tk w W3) := Lib.hid (by rw [← hW3]; exact TT.out.step (kept_new _ _ _ _))
  have KX : Hid (Bk W3 w2.heap.size g1 t1 e1 k1 b1 l1 f1) := Lib.hid (by rw [← hW3]; exact has_new _ _ _ _)
  clear hW3
  generalize w2.heap.size = X at *
  go_upto_region 3 with (first
    | (go_at_call 12; refine (HB.out _ TT.out.gl).mono ?_; rintro r w4 ⟨rfl, hb4⟩; replace TT := Lib.hid (TT.out.step hb4); replace KX := Lib.hid (KX.out.step hb4); clear hb4)
    | (refine wpList_store_row rfl 25 _ _ rfl w4.heap.size _ rfl rfl 25 _ (heap_alloc_new w4 _) infoS rfl (one7 g2 t2 e2 k2 b2 l2 f2) ?_))
  generalize hW5 : World.setRow (World.alloc w4 _) _ _ = W5
  replace TT : Hid (Tk w W5) := Lib.hid (by rw [← hW5]; exact TT.out.step (kept_new _ _ _ _))
  replace KX : Hid (Bk W5 X g1 t1 e1 k1 b1 l1 f1) := Lib.hid (by rw [← hW5]; exact KX.out.step (kept_new _ _ _ _))
  have KY : Hid (Bk W5 w4.heap.size g2 t2 e2 k2 b2 l2 f2) := Lib.hid (by rw [← hW5]; exact has_new _ _ _ _)
  clear hW5 HA HB
  generalize w4.heap.size = Y at *
  obtain ⟨x0, x1, x2, x3, x4, x5, x6⟩ := KX.out.cells
  obtain ⟨y0, y1, y2, y3, y4, y5, y6⟩ := KY.out.cells
  go_wp2_with (refine wpList_store_row rfl 25 _ _ rfl w.heap.size _ rfl rfl 25 _ TT.out.k infoS rfl (one7 0 0 0 0 0 0 0) ?_)
  refine bodyPost_ret (v := .tuple #[.agg #[.int .i64 0, .int .i64 0, .int .i64 0, .int .i64 0, .int .i64 0, .int .i64 0, .int .i64 0], .int .i64 0, .int .i64 7])
    (results_cell_two_row Tryd.results14 _ _ w.heap.size 25 _ (0, 0) _ rfl (setRow_same TT.out.k) Tryd.underlying25 rfl infoS) rfl
    ⟨rfl, below_setRow TT.out.bel (Nat.le_refl _) _⟩
set_option maxRecDepth 100000 in
theorem Choose_zero (a b : List UInt8) (g1 t1 e1 k1 b1 l1 f1 g2 t2 e2 k2 b2 l2 f2 c d : Int) (w : World) (hg : Gl w) (ha : take a = (⟨g1, t1, e1, k1, b1, l1, f1⟩, c)) (hb : take b = (⟨g2, t2, e2, k2, b2, l2, f2⟩, d)) (hl : ¬ g1 < g2) (hs : same g1 t1 e1 k1 b1 l1 f1 0 0 0 0 0 0 0 = false) :
    Calls Tryd.prog 14 #[.string ⟨a.toArray⟩, .string ⟨b.toArray⟩] w fun r w' => r = .returned (.tuple #[.agg #[.int .i64 g1, .int .i64 t1, .int .i64 e1, .int .i64 k1, .int .i64 b1, .int .i64 l1, .int .i64 f1], .int .i64 0, .int .i64 0]) ∧ Below w.heap.size w w' := by
  obtain ⟨W1, hW1⟩ : ∃ W1, W1 = w.alloc (.cells #[.int .i64 0, .int .i64 0, .int .i64 0, .int .i64 0, .int .i64 0, .int .i64 0, .int .i64 0] 25) := ⟨_, rfl⟩
  have TT : Hid (Tk w W1) := Lib.hid (by rw [hW1]; exact tk_new hg)
  have HA := Lib.hid (fun W h => SupU.Take a W h)
  have HB := Lib.hid (fun W h => SupU.Take b W h)
  rw [ha] at HA
  rw [hb] at HB
  clear ha hb
  have heq := fun W => run_eql_sup W g1 t1 e1 k1 b1 l1 f1 0 0 0 0 0 0 0 false hs
  clear hs
  go_enter Tryd.func14, Tryd.ntmps14
  go_upto_region 1 with (fail)
  rw [← hW1]
  clear hW1 hg
  go_upto_region 2 with (first
    | (go_at_call 12; refine (HA.out _ TT.out.gl).mono ?_; rintro r w2 ⟨rfl, hb2⟩; replace TT := Lib.hid (TT.out.step hb2); clear hb2)
    | (refine wpList_store_row rfl 25 _ _ rfl w2.heap.size _ rfl rfl 25 _ (heap_alloc_new w2 _) infoS rfl (one7 g1 t1 e1 k1 b1 l1 f1) ?_))
  generalize hW3 : World.setRow (World.alloc w2 _) _ _ = W3
  replace TT : Hid (Tk w W3) := Lib.hid (by rw [← hW3]; exact TT.out.step (kept_new _ _ _ _))
  have KX : Hid (Bk W3 w2.heap.size g1 t1 e1 k1 b1 l1 f1) := Lib.hid (by rw [← hW3]; exact has_new _ _ _ _)
  clear hW3
  generalize w2.heap.size = X at *
  go_upto_region 3 with (first
    | (go_at_call 12; refine (HB.out _ TT.out.gl).mono ?_; rintro r w4 ⟨rfl, hb4⟩; replace TT := Lib.hid (TT.out.step hb4); replace KX := Lib.hid (KX.out.step hb4); clear hb4)
    | (refine wpList_store_row rfl 25 _ _ rfl w4.heap.size _ rfl rfl 25 _ (heap_alloc_new w4 _) infoS rfl (one7 g2 t2 e2 k2 b2 l2 f2) ?_))
  generalize hW5 : World.setRow (World.alloc w4 _) _ _ = W5
  replace TT : Hid (Tk w W5) := Lib.hid (by rw [← hW5]; exact TT.out.step (kept_new _ _ _ _))
  replace KX : Hid (Bk W5 X g1 t1 e1 k1 b1 l1 f1) := Lib.hid (by rw [← hW5]; exact KX.out.step (kept_new _ _ _ _))
  have KY : Hid (Bk W5 w4.heap.size g2 t2 e2 k2 b2 l2 f2) := Lib.hid (by rw [← hW5]; exact has_new _ _ _ _)
  clear hW5 HA HB
  generalize w4.heap.size = Y at *
  obtain ⟨x0, x1, x2, x3, x4, x5, x6⟩ := KX.out.cells
  obtain ⟨y0, y1, y2, y3, y4, y5, y6⟩ := KY.out.cells
  go_wp2_with (refine wpList_store_row rfl 25 _ _ rfl w.heap.size _ rfl rfl 25 _ TT.out.k infoS rfl (one7 g1 t1 e1 k1 b1 l1 f1) ?_)
  refine bodyPost_ret (v := .tuple #[.agg #[.int .i64 g1, .int .i64 t1, .int .i64 e1, .int .i64 k1, .int .i64 b1, .int .i64 l1, .int .i64 f1], .int .i64 0, .int .i64 0])
    (results_cell_two_row Tryd.results14 _ _ w.heap.size 25 _ (0, 0) _ rfl (setRow_same TT.out.k) Tryd.underlying25 rfl infoS) rfl
    ⟨rfl, below_setRow TT.out.bel (Nat.le_refl _) _⟩
theorem same_nil : same 0 0 0 0 0 0 0 0 0 0 0 0 0 0 = true := by simp [same]
theorem same_good {a : List UInt8} (h : 1 ≤ (take a).1.g) : same (take a).1.g (take a).1.t (take a).1.e (take a).1.k (take a).1.b (take a).1.l (take a).1.f 0 0 0 0 0 0 0 = false := by
  have h0 : ¬ (take a).1.g = 0 := by omega
  simp [same, h0]
theorem same_bad {a : List UInt8} (h : ¬ good a) : same (take a).1.g (take a).1.t (take a).1.e (take a).1.k (take a).1.b (take a).1.l (take a).1.f 0 0 0 0 0 0 0 = true := by rw [take_no h]; exact same_nil
/-- What super.Choose answers. -/
theorem Choose (a b : List UInt8) (w : World) (hg : Gl w) :
    Calls Tryd.prog 14 #[.string ⟨a.toArray⟩, .string ⟨b.toArray⟩] w fun r w' => r = .returned (.tuple #[.agg #[.int .i64 ((SupN.choose a b).1).g, .int .i64 ((SupN.choose a b).1).t, .int .i64 ((SupN.choose a b).1).e, .int .i64 ((SupN.choose a b).1).k, .int .i64 ((SupN.choose a b).1).b, .int .i64 ((SupN.choose a b).1).l, .int .i64 ((SupN.choose a b).1).f], .int .i64 (SupN.choose a b).2.1, .int .i64 (SupN.choose a b).2.2]) ∧ Below w.heap.size w w' := by
  by_cases hl : (take a).1.g < (take b).1.g
  · rw [choose_1 hl]
    exact Choose_one a b _ _ _ _ _ _ _ _ _ _ _ _ _ _ _ _ w hg rfl rfl hl
  · rcases take_g (a := a) with ⟨ha, h1⟩ | ⟨ha, h1⟩
    · rw [choose_0 hl ha]
      exact Choose_zero a b _ _ _ _ _ _ _ _ _ _ _ _ _ _ _ _ w hg rfl rfl hl (same_good h1)
    · rw [choose_n hl ha]
      exact Choose_none a b _ _ _ _ _ _ _ _ _ _ _ _ _ _ _ _ w hg rfl rfl hl (same_bad ha)
end Go.Proofs.YtghljhohbhkdeaaDoor.SupV
