/- The program's package proof: bare: the walk of its text. No conditions. -/
import Derived.Test.YtdkcebaehdkphaaGreatDoorLPrgA
import Derived.Deep.DeepCutAuto
namespace Go.Proofs.YtdkcebaehdkphaaGreatDoor.PrgB
open Go.RowKit
open PrfL PrfN PrfM PrfB PrgN PrgC MerQ
/-- The proof without what is not said, as it lies in memory. -/
def bareR (n : Int) (x : Raw) : Raw := ⟨x.f, x.at_, if hereP n (pf x) = true then x.here else no, if aheadP (pf x) = true then x.ahead else no,
  if hereP n (pf x) = true then x.ua else none, if hereP n (pf x) = true then x.uc else 0, if hereP n (pf x) = true then x.up else [],
  if aheadP (pf x) = true then x.la else none, if aheadP (pf x) = true then x.lc else 0, if aheadP (pf x) = true then x.left else []⟩
theorem bare_pf (n : Int) (x : Raw) : pf (bareR n x) = bareP n (pf x) := rfl
/-- A proof that is turned, and what will be answered, in their boxes. -/
structure St (w : World) (x : Raw) (W : World) : Prop where
  d : Below w.heap.size w W
  p : W.heap[w.heap.size]? = some (.cells x.cells 48 (0, 0))
  r : ∃ z : Raw, W.heap[w.heap.size + 1]? = some (.cells z.cells 48 (0, 0))
theorem St.lt {w W : World} {x : Raw} (h : St w x W) : w.heap.size < W.heap.size := (Array.getElem?_eq_some_iff.1 h.p).1
theorem St.lt1 {w W : World} {x : Raw} (h : St w x W) : w.heap.size + 1 < W.heap.size := by
  obtain ⟨z, hz⟩ := h.r
  exact (Array.getElem?_eq_some_iff.1 hz).1
theorem St.step {w W W' : World} {x : Raw} (h : St w x W) (hb : Below W.heap.size W W') : St w x W' :=
  ⟨h.d.trans (hb.mono (Nat.le_of_lt h.lt)), (hb.block _ h.lt).trans h.p, by obtain ⟨z, hz⟩ := h.r; exact ⟨z, (hb.block _ h.lt1).trans hz⟩⟩
theorem far1 (w W : World) (i : Nat) (v : Value) : (W.setCell ⟨w.heap.size, i, none⟩ v).heap[w.heap.size + 1]? = W.heap[w.heap.size + 1]? := Below.heap_setCell W ⟨w.heap.size, i, none⟩ v _ (show w.heap.size + 1 ≠ w.heap.size by omega)
/-- A leaf and a path struck out. -/
theorem St.strike {w W : World} {x : Raw} (h : St w x W) (i j k : Nat) (y : Raw) (hy : y.cells = ((x.cells.setIfInBounds i (.int .i64 0)).setIfInBounds j (.string ⟨#[]⟩)).setIfInBounds k (.slice none 0 0)) :
    St w y (((W.setCell ⟨w.heap.size, i, none⟩ (.int .i64 0)).setCell ⟨w.heap.size, j, none⟩ (.string ⟨#[]⟩)).setCell ⟨w.heap.size, k, none⟩ (.slice none 0 0)) := by
  refine ⟨((h.d.setCell (Nat.le_refl _) _).setCell (Nat.le_refl _) _).setCell (Nat.le_refl _) _, ?_, ?_⟩
  · rw [hy]; exact blk_set (blk_set (blk_set h.p))
  · obtain ⟨z, hz⟩ := h.r
    exact ⟨z, (far1 w _ k _).trans ((far1 w _ j _).trans ((far1 w _ i _).trans hz))⟩
set_option maxRecDepth 100000 in
set_option maxHeartbeats 2000000 in
theorem wayha (n : Int) (x : Raw) (w : World) (hh : hereP n (pf x) = true) (ha : aheadP (pf x) = true) : Calls Tryz.prog 79 #[.int .i64 n, .agg x.cells] w fun e w' => e = .returned (.agg (bareR n x).cells) ∧ Below w.heap.size w w' := by
  obtain ⟨W1, hW1⟩ : ∃ W1, W1 = (w.alloc (.cells x.cells 48)).alloc (.cells #[.bool false, .int .i64 0, .int .i64 0, .string ⟨#[]⟩, .int .i64 0, .string ⟨#[]⟩, .slice none 0 0, .slice none 0 0] 48) := ⟨_, rfl⟩
  have ST := Lib.hid (show St w x W1 by rw [hW1]; exact ⟨(below_new w _).alloc (by simp) _, heap_alloc2_old w _ _, ⟨false, 0, no, no, none, 0, [], none, 0, []⟩, heap_alloc2_new w _ _⟩)
  have HN := Lib.hid (fun x W => namesHere n x W)
  have HA := Lib.hid (fun x W => namesAhead x W)
  have hbr : bareR n x = bareR n x := rfl
  obtain ⟨f, i, h, a, ua, uc, up, la, lc, left⟩ := x
  have HF : Hid (bareR n ⟨f, i, h, a, ua, uc, up, la, lc, left⟩ = ⟨f, i, h, a, ua, uc, up, la, lc, left⟩) := Lib.hid (by unfold bareR; rw [hh, ha]; rfl)
  rw [HF.out]
  have HA1 := Lib.hid (fun W => HA.out ⟨f, i, h, a, ua, uc, up, la, lc, left⟩ W)
  rw [show aheadP (pf ⟨f, i, h, a, ua, uc, up, la, lc, left⟩) = true from ha] at HA1
  have HN1 := Lib.hid (fun W => HN.out ⟨f, i, h, a, ua, uc, up, la, lc, left⟩ W)
  rw [hh] at HN1
  clear hh ha hbr HN HA HF
  have hW2 := hW1
  dsimp only [Raw.cells] at hW1
  go_enter Tryz.func79, Tryz.ntmps79
  go_upto_region 1 with (fail)
  rw [show _ = W1 from hW2.symm]
  clear hW1 hW2
  go_upto_region 3 with (first | (refine wpList_load_row rfl 48 _ rfl w.heap.size rfl 48 _ (0, 0) _ ST.out.p Tryz.underlying48 rfl infoP ?_) | (go_at_call 66; refine (HN1.out _).mono ?_; rintro e V0 ⟨rfl, hb⟩; replace ST := Lib.hid (ST.out.step hb); clear hb))
  go_upto_region 5 with (first | (refine wpList_load_row rfl 48 _ rfl w.heap.size rfl 48 _ (0, 0) _ ST.out.p Tryz.underlying48 rfl infoP ?_) | (go_at_call 67; refine (HA1.out _).mono ?_; rintro e V1 ⟨rfl, hb⟩; replace ST := Lib.hid (ST.out.step hb); clear hb))
  obtain ⟨z, hz⟩ := ST.out.r
  have HZ := Lib.hid hz
  clear hz
  go_wp2_with (first | (refine wpList_load_row rfl 48 _ rfl w.heap.size rfl 48 _ (0, 0) _ ST.out.p Tryz.underlying48 rfl infoP ?_) | (refine wpList_store_row rfl 48 _ _ rfl (w.heap.size + 1) (Raw.cells ⟨f, i, h, a, ua, uc, up, la, lc, left⟩) rfl rfl 48 _ HZ.out infoP rfl (oneP _) ?_))
  refine bodyPost_ret (v := .agg (Raw.cells ⟨f, i, h, a, ua, uc, up, la, lc, left⟩))
    (results_cell_row Tryz.results79 _ _ (w.heap.size + 1) 48 _ (0, 0) _ rfl (setRow_same HZ.out) Tryz.underlying48 rfl infoP) rfl
    ⟨rfl, below_setRow ST.out.d (Nat.le_succ _) _⟩
set_option maxRecDepth 100000 in
set_option maxHeartbeats 2000000 in
theorem wayh (n : Int) (x : Raw) (w : World) (hh : hereP n (pf x) = true) (ha : aheadP (pf x) = false) : Calls Tryz.prog 79 #[.int .i64 n, .agg x.cells] w fun e w' => e = .returned (.agg (bareR n x).cells) ∧ Below w.heap.size w w' := by
  obtain ⟨W1, hW1⟩ : ∃ W1, W1 = (w.alloc (.cells x.cells 48)).alloc (.cells #[.bool false, .int .i64 0, .int .i64 0, .string ⟨#[]⟩, .int .i64 0, .string ⟨#[]⟩, .slice none 0 0, .slice none 0 0] 48) := ⟨_, rfl⟩
  have ST := Lib.hid (show St w x W1 by rw [hW1]; exact ⟨(below_new w _).alloc (by simp) _, heap_alloc2_old w _ _, ⟨false, 0, no, no, none, 0, [], none, 0, []⟩, heap_alloc2_new w _ _⟩)
  have HN := Lib.hid (fun x W => namesHere n x W)
  have HA := Lib.hid (fun x W => namesAhead x W)
  have hbr : bareR n x = bareR n x := rfl
  obtain ⟨f, i, h, a, ua, uc, up, la, lc, left⟩ := x
  have HF : Hid (bareR n ⟨f, i, h, a, ua, uc, up, la, lc, left⟩ = ⟨f, i, h, no, ua, uc, up, none, 0, []⟩) := Lib.hid (by unfold bareR; rw [hh, ha]; rfl)
  rw [HF.out]
  have HA1 := Lib.hid (fun W => HA.out ⟨f, i, h, a, ua, uc, up, la, lc, left⟩ W)
  rw [show aheadP (pf ⟨f, i, h, a, ua, uc, up, la, lc, left⟩) = false from ha] at HA1
  have HN1 := Lib.hid (fun W => HN.out ⟨f, i, h, a, ua, uc, up, la, lc, left⟩ W)
  rw [hh] at HN1
  clear hh ha hbr HN HA HF
  have hW2 := hW1
  dsimp only [Raw.cells] at hW1
  go_enter Tryz.func79, Tryz.ntmps79
  go_upto_region 1 with (fail)
  rw [show _ = W1 from hW2.symm]
  clear hW1 hW2
  go_upto_region 3 with (first | (refine wpList_load_row rfl 48 _ rfl w.heap.size rfl 48 _ (0, 0) _ ST.out.p Tryz.underlying48 rfl infoP ?_) | (go_at_call 66; refine (HN1.out _).mono ?_; rintro e V0 ⟨rfl, hb⟩; replace ST := Lib.hid (ST.out.step hb); clear hb))
  go_upto_region 4 with (first | (refine wpList_load_row rfl 48 _ rfl w.heap.size rfl 48 _ (0, 0) _ ST.out.p Tryz.underlying48 rfl infoP ?_) | (go_at_call 67; refine (HA1.out _).mono ?_; rintro e V1 ⟨rfl, hb⟩; replace ST := Lib.hid (ST.out.step hb); clear hb))
  have k4 := blk_cell (i := 4) ST.out.p rfl
  have f4 := blk_free (i := 4) ST.out.p
  have k5 := blk_cell (i := 5) ST.out.p rfl
  have f5 := blk_free (i := 5) ST.out.p
  have k7 := blk_cell (i := 7) ST.out.p rfl
  have f7 := blk_free (i := 7) ST.out.p
  go_upto_region 5 with (fail)
  generalize hW : World.setCell (World.setCell (World.setCell _ _ _) _ _) _ _ = X1
  replace ST := Lib.hid (show St w ⟨f, i, h, no, ua, uc, up, none, 0, []⟩ X1 by rw [← hW]; exact ST.out.strike 4 5 7 _ rfl)
  clear hW k4 k5 k7 f4 f5 f7
  obtain ⟨z, hz⟩ := ST.out.r
  have HZ := Lib.hid hz
  clear hz
  go_wp2_with (first | (refine wpList_load_row rfl 48 _ rfl w.heap.size rfl 48 _ (0, 0) _ ST.out.p Tryz.underlying48 rfl infoP ?_) | (refine wpList_store_row rfl 48 _ _ rfl (w.heap.size + 1) (Raw.cells ⟨f, i, h, no, ua, uc, up, none, 0, []⟩) rfl rfl 48 _ HZ.out infoP rfl (oneP _) ?_))
  refine bodyPost_ret (v := .agg (Raw.cells ⟨f, i, h, no, ua, uc, up, none, 0, []⟩))
    (results_cell_row Tryz.results79 _ _ (w.heap.size + 1) 48 _ (0, 0) _ rfl (setRow_same HZ.out) Tryz.underlying48 rfl infoP) rfl
    ⟨rfl, below_setRow ST.out.d (Nat.le_succ _) _⟩
set_option maxRecDepth 100000 in
set_option maxHeartbeats 2000000 in
theorem waya (n : Int) (x : Raw) (w : World) (hh : hereP n (pf x) = false) (ha : aheadP (pf x) = true) : Calls Tryz.prog 79 #[.int .i64 n, .agg x.cells] w fun e w' => e = .returned (.agg (bareR n x).cells) ∧ Below w.heap.size w w' := by
  obtain ⟨W1, hW1⟩ : ∃ W1, W1 = (w.alloc (.cells x.cells 48)).alloc (.cells #[.bool false, .int .i64 0, .int .i64 0, .string ⟨#[]⟩, .int .i64 0, .string ⟨#[]⟩, .slice none 0 0, .slice none 0 0] 48) := ⟨_, rfl⟩
  have ST := Lib.hid (show St w x W1 by rw [hW1]; exact ⟨(below_new w _).alloc (by simp) _, heap_alloc2_old w _ _, ⟨false, 0, no, no, none, 0, [], none, 0, []⟩, heap_alloc2_new w _ _⟩)
  have HN := Lib.hid (fun x W => namesHere n x W)
  have HA := Lib.hid (fun x W => namesAhead x W)
  have hbr : bareR n x = bareR n x := rfl
  obtain ⟨f, i, h, a, ua, uc, up, la, lc, left⟩ := x
  have HF : Hid (bareR n ⟨f, i, h, a, ua, uc, up, la, lc, left⟩ = ⟨f, i, no, a, none, 0, [], la, lc, left⟩) := Lib.hid (by unfold bareR; rw [hh, ha]; rfl)
  rw [HF.out]
  have HA1 := Lib.hid (fun W => HA.out ⟨f, i, no, a, none, 0, [], la, lc, left⟩ W)
  rw [show aheadP (pf ⟨f, i, no, a, none, 0, [], la, lc, left⟩) = true from ha] at HA1
  have HN1 := Lib.hid (fun W => HN.out ⟨f, i, h, a, ua, uc, up, la, lc, left⟩ W)
  rw [hh] at HN1
  clear hh ha hbr HN HA HF
  have hW2 := hW1
  dsimp only [Raw.cells] at hW1
  go_enter Tryz.func79, Tryz.ntmps79
  go_upto_region 1 with (fail)
  rw [show _ = W1 from hW2.symm]
  clear hW1 hW2
  go_upto_region 2 with (first | (refine wpList_load_row rfl 48 _ rfl w.heap.size rfl 48 _ (0, 0) _ ST.out.p Tryz.underlying48 rfl infoP ?_) | (go_at_call 66; refine (HN1.out _).mono ?_; rintro e V0 ⟨rfl, hb⟩; replace ST := Lib.hid (ST.out.step hb); clear hb))
  have k2 := blk_cell (i := 2) ST.out.p rfl
  have f2 := blk_free (i := 2) ST.out.p
  have k3 := blk_cell (i := 3) ST.out.p rfl
  have f3 := blk_free (i := 3) ST.out.p
  have k6 := blk_cell (i := 6) ST.out.p rfl
  have f6 := blk_free (i := 6) ST.out.p
  go_upto_region 3 with (fail)
  generalize hW : World.setCell (World.setCell (World.setCell _ _ _) _ _) _ _ = X0
  replace ST := Lib.hid (show St w ⟨f, i, no, a, none, 0, [], la, lc, left⟩ X0 by rw [← hW]; exact ST.out.strike 2 3 6 _ rfl)
  clear hW k2 k3 k6 f2 f3 f6
  go_upto_region 5 with (first | (refine wpList_load_row rfl 48 _ rfl w.heap.size rfl 48 _ (0, 0) _ ST.out.p Tryz.underlying48 rfl infoP ?_) | (go_at_call 67; refine (HA1.out _).mono ?_; rintro e V1 ⟨rfl, hb⟩; replace ST := Lib.hid (ST.out.step hb); clear hb))
  obtain ⟨z, hz⟩ := ST.out.r
  have HZ := Lib.hid hz
  clear hz
  go_wp2_with (first | (refine wpList_load_row rfl 48 _ rfl w.heap.size rfl 48 _ (0, 0) _ ST.out.p Tryz.underlying48 rfl infoP ?_) | (refine wpList_store_row rfl 48 _ _ rfl (w.heap.size + 1) (Raw.cells ⟨f, i, no, a, none, 0, [], la, lc, left⟩) rfl rfl 48 _ HZ.out infoP rfl (oneP _) ?_))
  refine bodyPost_ret (v := .agg (Raw.cells ⟨f, i, no, a, none, 0, [], la, lc, left⟩))
    (results_cell_row Tryz.results79 _ _ (w.heap.size + 1) 48 _ (0, 0) _ rfl (setRow_same HZ.out) Tryz.underlying48 rfl infoP) rfl
    ⟨rfl, below_setRow ST.out.d (Nat.le_succ _) _⟩
set_option maxRecDepth 100000 in
set_option maxHeartbeats 2000000 in
theorem way (n : Int) (x : Raw) (w : World) (hh : hereP n (pf x) = false) (ha : aheadP (pf x) = false) : Calls Tryz.prog 79 #[.int .i64 n, .agg x.cells] w fun e w' => e = .returned (.agg (bareR n x).cells) ∧ Below w.heap.size w w' := by
  obtain ⟨W1, hW1⟩ : ∃ W1, W1 = (w.alloc (.cells x.cells 48)).alloc (.cells #[.bool false, .int .i64 0, .int .i64 0, .string ⟨#[]⟩, .int .i64 0, .string ⟨#[]⟩, .slice none 0 0, .slice none 0 0] 48) := ⟨_, rfl⟩
  have ST := Lib.hid (show St w x W1 by rw [hW1]; exact ⟨(below_new w _).alloc (by simp) _, heap_alloc2_old w _ _, ⟨false, 0, no, no, none, 0, [], none, 0, []⟩, heap_alloc2_new w _ _⟩)
  have HN := Lib.hid (fun x W => namesHere n x W)
  have HA := Lib.hid (fun x W => namesAhead x W)
  have hbr : bareR n x = bareR n x := rfl
  obtain ⟨f, i, h, a, ua, uc, up, la, lc, left⟩ := x
  have HF : Hid (bareR n ⟨f, i, h, a, ua, uc, up, la, lc, left⟩ = ⟨f, i, no, no, none, 0, [], none, 0, []⟩) := Lib.hid (by unfold bareR; rw [hh, ha]; rfl)
  rw [HF.out]
  have HA1 := Lib.hid (fun W => HA.out ⟨f, i, no, a, none, 0, [], la, lc, left⟩ W)
  rw [show aheadP (pf ⟨f, i, no, a, none, 0, [], la, lc, left⟩) = false from ha] at HA1
  have HN1 := Lib.hid (fun W => HN.out ⟨f, i, h, a, ua, uc, up, la, lc, left⟩ W)
  rw [hh] at HN1
  clear hh ha hbr HN HA HF
  have hW2 := hW1
  dsimp only [Raw.cells] at hW1
  go_enter Tryz.func79, Tryz.ntmps79
  go_upto_region 1 with (fail)
  rw [show _ = W1 from hW2.symm]
  clear hW1 hW2
  go_upto_region 2 with (first | (refine wpList_load_row rfl 48 _ rfl w.heap.size rfl 48 _ (0, 0) _ ST.out.p Tryz.underlying48 rfl infoP ?_) | (go_at_call 66; refine (HN1.out _).mono ?_; rintro e V0 ⟨rfl, hb⟩; replace ST := Lib.hid (ST.out.step hb); clear hb))
  have k2 := blk_cell (i := 2) ST.out.p rfl
  have f2 := blk_free (i := 2) ST.out.p
  have k3 := blk_cell (i := 3) ST.out.p rfl
  have f3 := blk_free (i := 3) ST.out.p
  have k6 := blk_cell (i := 6) ST.out.p rfl
  have f6 := blk_free (i := 6) ST.out.p
  go_upto_region 3 with (fail)
  generalize hW : World.setCell (World.setCell (World.setCell _ _ _) _ _) _ _ = X0
  replace ST := Lib.hid (show St w ⟨f, i, no, a, none, 0, [], la, lc, left⟩ X0 by rw [← hW]; exact ST.out.strike 2 3 6 _ rfl)
  clear hW k2 k3 k6 f2 f3 f6
  go_upto_region 4 with (first | (refine wpList_load_row rfl 48 _ rfl w.heap.size rfl 48 _ (0, 0) _ ST.out.p Tryz.underlying48 rfl infoP ?_) | (go_at_call 67; refine (HA1.out _).mono ?_; rintro e V1 ⟨rfl, hb⟩; replace ST := Lib.hid (ST.out.step hb); clear hb))
  have k4 := blk_cell (i := 4) ST.out.p rfl
  have f4 := blk_free (i := 4) ST.out.p
  have k5 := blk_cell (i := 5) ST.out.p rfl
  have f5 := blk_free (i := 5) ST.out.p
  have k7 := blk_cell (i := 7) ST.out.p rfl
  have f7 := blk_free (i := 7) ST.out.p
  go_upto_region 5 with (fail)
  generalize hW : World.setCell (World.setCell (World.setCell _ _ _) _ _) _ _ = X1
  replace ST := Lib.hid (show St w ⟨f, i, no, no, none, 0, [], none, 0, []⟩ X1 by rw [← hW]; exact ST.out.strike 4 5 7 _ rfl)
  clear hW k4 k5 k7 f4 f5 f7
  obtain ⟨z, hz⟩ := ST.out.r
  have HZ := Lib.hid hz
  clear hz
  go_wp2_with (first | (refine wpList_load_row rfl 48 _ rfl w.heap.size rfl 48 _ (0, 0) _ ST.out.p Tryz.underlying48 rfl infoP ?_) | (refine wpList_store_row rfl 48 _ _ rfl (w.heap.size + 1) (Raw.cells ⟨f, i, no, no, none, 0, [], none, 0, []⟩) rfl rfl 48 _ HZ.out infoP rfl (oneP _) ?_))
  refine bodyPost_ret (v := .agg (Raw.cells ⟨f, i, no, no, none, 0, [], none, 0, []⟩))
    (results_cell_row Tryz.results79 _ _ (w.heap.size + 1) 48 _ (0, 0) _ rfl (setRow_same HZ.out) Tryz.underlying48 rfl infoP) rfl
    ⟨rfl, below_setRow ST.out.d (Nat.le_succ _) _⟩
theorem bare (n : Int) (x : Raw) (w : World) : Calls Tryz.prog 79 #[.int .i64 n, .agg x.cells] w fun e w' => e = .returned (.agg (bareR n x).cells) ∧ Below w.heap.size w w' := by
  cases hh : hereP n (pf x) <;> cases ha : aheadP (pf x)
  · exact way n x w hh ha
  · exact waya n x w hh ha
  · exact wayh n x w hh ha
  · exact wayha n x w hh ha
end Go.Proofs.YtdkcebaehdkphaaGreatDoor.PrgB
