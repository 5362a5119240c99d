/- JouB JouD JouE: one behind the other. -/
import Derived.Test.YtoilcieineejiaaGreatDoorLJoy
/- The program's journal: the next superblock; commit: the walks of their texts. No conditions but those that each lemma names. -/
namespace Go.Proofs.YtoilcieineejiaaGreatDoor.JouB
set_option linter.unusedVariables false
open Go.RowKit
open DkN DkM JouN JouP JouQ JouR JouS JouC JouW JouX JouY JouZ
open SupP (Gl)
open SupC (infoS one7)
open SupE (results_cell_tmp_row)
set_option maxRecDepth 100000 in
theorem stp_co {w0 : World} {P S b : Nat} {bv cv0 : Value} {br : Bool} {s : SupN.Sb} (hg : ∀ W q, RJ w0 P S b bv cv0 br W q → Gl W) (hm : SupN.may s) {x y : Nat}
    (hx : Stay (RJ w0 P S b bv cv0 br) x (.cells #[.pointer (some ⟨P, 0, none⟩)] 62 (0, 0))) (hu : Stay (RJ w0 P S b bv cv0 br) y (.cells #[.int .i64 s.g, .int .i64 s.t, .int .i64 s.e, .int .i64 s.k, .int .i64 s.b, .int .i64 s.l, .int .i64 s.f] 53 (0, 0))) :
    Stp (RJ w0 P S b bv cv0 br) (comS s) (.func (.func 130) #[] #[.pointer (some ⟨x, 0, none⟩), .pointer (some ⟨y, 0, none⟩)]) := by
  refine ⟨_, _, _, rfl, fun _ _ => rfl, fun W q hR => ?_⟩
  obtain ⟨cv, hh, _⟩ := hR.dk
  refine Calls.mono (commits1 hh ⟨hR.po, hg W q hR⟩ hm ⟨hx W q hR, hu W q hR⟩) ?_
  rintro e W' ⟨rfl, hD⟩
  exact ⟨rfl, rj_trans hR hh hD⟩
/-- Steps of the disk, the step that commits, steps of the disk. -/
theorem runS_com (D : Dk) (s s' : SupN.Sb) (ls ks : List (List Ac)) :
    runS (D, s) (ls.map (Lens.fst SupN.Sb).act ++ (comS s' :: ks.map (Lens.fst SupN.Sb).act)) =
    ((run D ((ls.flatten ++ superL s') ++ ks.flatten)).1, (run D ((ls.flatten ++ superL s') ++ ks.flatten)).2, if (run D (ls.flatten ++ superL s')).1 = 0 then s' else s) := by
  rw [runS_app, runS_flat, run_app D (ls.flatten ++ superL s') ks.flatten, run_app D ls.flatten (superL s')]
  show (if (run D ls.flatten).1 = 0 then _ else _) = _
  by_cases h1 : (run D ls.flatten).1 = 0
  · rw [if_pos h1, if_pos h1]
    show (if (comS s' ((run D ls.flatten).2, s)).1 = 0 then runS (comS s' ((run D ls.flatten).2, s)).2 (ks.map (Lens.fst SupN.Sb).act) else comS s' ((run D ls.flatten).2, s)) = _
    by_cases h2 : (run (run D ls.flatten).2 (superL s')).1 = 0
    · rw [if_pos (show (comS s' ((run D ls.flatten).2, s)).1 = 0 from h2), if_pos h2, if_pos h2, runS_flat]
      show ((run (run (run D ls.flatten).2 (superL s')).2 ks.flatten).1, (run (run (run D ls.flatten).2 (superL s')).2 ks.flatten).2, if (run (run D ls.flatten).2 (superL s')).1 = 0 then s' else s) = _
      rw [if_pos h2]
    · rw [if_neg (show ¬ (comS s' ((run D ls.flatten).2, s)).1 = 0 from h2), if_neg h2, if_neg h2]
      show ((run (run D ls.flatten).2 (superL s')).1, (run (run D ls.flatten).2 (superL s')).2, if (run (run D ls.flatten).2 (superL s')).1 = 0 then s' else s) = _
      rw [if_neg h2]
  · rw [if_neg h1, if_neg h1, if_neg h1]
    show ((run D ls.flatten).1, ((run D ls.flatten).2, s)) = _
    rw [if_neg h1]
/-- What a call leaves, put together. -/
theorem went_rj {base J P S b : Nat} {bv cv : Value} {D D' : Dk} {j : Jo} {w w1 w' : World} {u : Nat} {s' : SupN.Sb} {br' : Bool} (h : Jm base J P S b bv cv D j w) (hk : Kept (fun k => k = S) w w1) (hs : SpaC.Sp w1 S j.last.b j.last.l j.last.f u)
    (hr : RJ w1 P S b bv cv br' w' (D', s')) (hm : SupN.may s') (hgeo : s'.b = j.last.b ∧ s'.l = j.last.l ∧ s'.f = j.last.f) (hu : (u : Int) ≤ s'.b - 4) : Went base J P S b bv cv D' ⟨s', u, br'⟩ w w' := by
  obtain ⟨cv', h1, n1⟩ := hr.dk
  have hSP : S ≠ P := fun e => by
    have e1 := h.sp
    unfold SpaC.Sp at e1
    rw [e, h.po] at e1
    simp at e1
  have hJP : J ≠ P := fun e => by
    have e1 := h.jo
    rw [e, h.po] at e1
    simp at e1
  have hJS : J ≠ S := fun e => by
    have e1 := h.jo
    have e2 := h.sp
    unfold SpaC.Sp at e2
    rw [e, e2] at e1
    simp at e1
  have f0 : ∀ k, Foot b bv cv k → k ≠ S := fun k hk e => not_foot h.dk h.sp (by decide) (by decide) (.inl (by decide)) (e ▸ hk)
  have hle := hk.size
  have h1w : Has false w1 b bv cv D := h.dk.kept fun k hk' => hk.block k (h.dk.foot_lt k hk') (f0 k hk')
  have hJ1 := (hk.block J (lt_of_some h.jo) hJS).trans h.jo
  have hJf : ¬ Foot b bv cv J := not_foot h1w hJ1 (by decide) (by decide) (.inl (by decide))
  have hSf : ¬ Foot b bv cv S := fun e => f0 S e rfl
  have all : Kept (JF P S b bv cv) w w' := (⟨hk.os, hk.tape, hk.output, hk.size, fun k hk' hn => hk.block k hk' (fun e => hn (.inr (.inl e)))⟩ : Kept (JF P S b bv cv) w w1).trans' hr.kept fun k hk' => .inl (hk'.elim .inl (fun e => .inr (.inr e)))
  refine ⟨cv', ⟨?_, hr.po, ?_, h1, ?_, ⟨h.low.1, h.low.2.1, h.low.2.2.1, fun k hk' => ?_⟩, hm, hu⟩, fun k hk' => ?_, all⟩
  · exact (hr.kept.block J (lt_of_some hJ1) (fun e => e.elim hJP hJf)).trans hJ1
  · show SpaC.Sp w' S s'.b s'.l s'.f u
    rw [hgeo.1, hgeo.2.1, hgeo.2.2]
    exact (hr.kept.block S hs.lt (fun e => e.elim hSP hSf)).trans hs
  · exact h.gd.kept all.size fun k hk' => all.block k (Nat.lt_of_lt_of_le hk' h.base_le) (fun e => by
      rcases e with e | e | e
      · have := h.low.2.1; omega
      · have := h.low.2.2.1; omega
      · have := h.low.2.2.2 k e; omega)
  · rcases hk' with e | e | e
    · exact h.low.2.2.2 k (.inl e)
    · exact h.low.2.2.2 k (.inr (.inl e))
    · rcases n1 k e with z | z
      · exact h.low.2.2.2 k (.inr (.inr z))
      · have := h.base_le; omega
  · rcases n1 k hk' with z | z
    · exact .inl z
    · exact .inr (by omega)
theorem Jm.pj {base J P S b : Nat} {bv cv : Value} {D : Dk} {j : Jo} {W : World} (h : Jm base J P S b bv cv D j W) : Pj P S b j.last j.broken W := ⟨h.po, h.gd.g⟩
/-- The next superblock, but for its Tail and Epoch. -/
def nx (s : SupN.Sb) (ck : Int) : SupN.Sb := ⟨s.g + 1, s.t, s.e, ck, s.b, s.l, s.f⟩
/-- What next leaves. -/
def NextR (s : SupN.Sb) (e : Nat) (w : World) (r : Ending) (w' : World) : Prop := r = .returned (.tuple #[.agg #[.int .i64 s.g, .int .i64 s.t, .int .i64 s.e, .int .i64 s.k, .int .i64 s.b, .int .i64 s.l, .int .i64 s.f], .int .i64 (e : Nat)]) ∧ Below w.heap.size w w'
def nil7 : SupN.Sb := ⟨0, 0, 0, 0, 0, 0, 0⟩
set_option maxRecDepth 100000 in
set_option maxHeartbeats 1000000 in
theorem next_ok {P S b : Nat} {s : SupN.Sb} {br : Bool} {w : World} (h : Pj P S b s br w) (hm : SupN.may s) (ck : Int) (h1 : s.k ≤ ck) (h2 : ck ≤ 1099511627776) (hg : ¬ s.g = 1152921504606846976) :
    Calls Tryz.prog 94 #[.pointer (some ⟨P, 0, none⟩), .int .i64 ck] w (NextR (nx s ck) 0 w) := by
  have HN := Lib.hid (fun W hW => SupE.Next_yes s.g s.t s.e s.k s.b s.l s.f W hW hm hg)
  obtain ⟨W1, hW1⟩ : ∃ W1, W1 = w.alloc (.cells #[.int .i64 0, .int .i64 0, .int .i64 0, .int .i64 0, .int .i64 0, .int .i64 0, .int .i64 0] 53) := ⟨_, rfl⟩
  have B1 : Hid (Below w.heap.size w W1) := Lib.hid (by rw [hW1]; exact below_new _ _)
  have X1 : Hid (W1.heap[w.heap.size]? = some (.cells #[.int .i64 0, .int .i64 0, .int .i64 0, .int .i64 0, .int .i64 0, .int .i64 0, .int .i64 0] 53 (0, 0))) := Lib.hid (by rw [hW1]; exact heap_alloc_new w _)
  have P1 := Lib.hid (h.step B1.out)
  have p2 := blk_cell (i := 2) (u := .int .i64 s.g) P1.out.po rfl
  have p3 := blk_cell (i := 3) (u := .int .i64 s.t) P1.out.po rfl
  have p4 := blk_cell (i := 4) (u := .int .i64 s.e) P1.out.po rfl
  have p5 := blk_cell (i := 5) (u := .int .i64 s.k) P1.out.po rfl
  have p6 := blk_cell (i := 6) (u := .int .i64 s.b) P1.out.po rfl
  have p7 := blk_cell (i := 7) (u := .int .i64 s.l) P1.out.po rfl
  have p8 := blk_cell (i := 8) (u := .int .i64 s.f) P1.out.po rfl
  clear h hm hg
  go_enter Tryz.func94, Tryz.ntmps94
  go_upto_region 1 with (fail)
  rw [← hW1]
  clear hW1
  go_upto_region 4 with (go_at_call 127; refine (HN.out _ P1.out.gl.bn).mono ?_; rintro e w2 ⟨rfl, hb2⟩; have B2 := Lib.hid hb2; clear hb2)
  have b3 := below_new w2 (.cells #[.int .i64 (s.g + 1), .int .i64 s.t, .int .i64 s.e, .int .i64 s.k, .int .i64 s.b, .int .i64 s.l, .int .i64 s.f] 53)
  have x3 := heap_alloc_new w2 (.cells #[.int .i64 (s.g + 1), .int .i64 s.t, .int .i64 s.e, .int .i64 s.k, .int .i64 s.b, .int .i64 s.l, .int .i64 s.f] 53)
  obtain ⟨W3, hW3⟩ : ∃ W3, W3 = w2.alloc (.cells #[.int .i64 (s.g + 1), .int .i64 s.t, .int .i64 s.e, .int .i64 s.k, .int .i64 s.b, .int .i64 s.l, .int .i64 s.f] 53) := ⟨_, rfl⟩
  rw [← hW3] at b3 x3 ⊢
  have hlt : W1.heap.size ≤ w2.heap.size := B2.out.size
  have B3 : Hid (Below w.heap.size w W3) := Lib.hid (B1.out.trans ((B2.out.trans (b3.mono hlt)).mono B1.out.size))
  have X3 : Hid (W3.heap[w.heap.size]? = some (.cells #[.int .i64 0, .int .i64 0, .int .i64 0, .int .i64 0, .int .i64 0, .int .i64 0, .int .i64 0] 53 (0, 0))) := Lib.hid ((b3.block _ (by have := lt_of_some X1.out; omega)).trans ((B2.out.block _ (lt_of_some X1.out)).trans X1.out))
  have Y3 := Lib.hid x3
  have NE : Hid (w.heap.size < w2.heap.size) := Lib.hid (by have := lt_of_some X1.out; omega)
  clear hW3 b3 x3 p2 p3 p4 p5 p6 p7 p8 P1 HN B1 X1 B2 hlt
  generalize w2.heap.size = X at *
  have y3 := blk_cell (i := 3) (u := .int .i64 s.k) Y3.out rfl
  have z3 := blk_free (i := 3) Y3.out
  go_upto_region 7 with (fail)
  generalize hW : World.setCell _ _ _ = W4
  have B4 : Hid (Below w.heap.size w W4) := Lib.hid (by rw [← hW]; exact B3.out.setCell (Nat.le_of_lt NE.out) _)
  have X4 : Hid (W4.heap[w.heap.size]? = some (.cells #[.int .i64 0, .int .i64 0, .int .i64 0, .int .i64 0, .int .i64 0, .int .i64 0, .int .i64 0] 53 (0, 0))) := Lib.hid (by rw [← hW, set_cell_block (Nat.ne_of_lt NE.out)]; exact X3.out)
  have Y4 : W4.heap[X]? = some (.cells #[.int .i64 (s.g + 1), .int .i64 s.t, .int .i64 s.e, .int .i64 ck, .int .i64 s.b, .int .i64 s.l, .int .i64 s.f] 53 (0, 0)) := by rw [← hW, blk_set Y3.out]; rfl
  clear hW y3 z3 B3 X3 Y3
  have y0 := blk_cell (i := 0) (u := .int .i64 (s.g + 1)) Y4 rfl
  have y1 := blk_cell (i := 1) (u := .int .i64 s.t) Y4 rfl
  have y2 := blk_cell (i := 2) (u := .int .i64 s.e) Y4 rfl
  have y3 := blk_cell (i := 3) (u := .int .i64 ck) Y4 rfl
  have y4 := blk_cell (i := 4) (u := .int .i64 s.b) Y4 rfl
  have y5 := blk_cell (i := 5) (u := .int .i64 s.l) Y4 rfl
  have y6 := blk_cell (i := 6) (u := .int .i64 s.f) Y4 rfl
  clear Y4
  go_wp2_with (refine wpList_store_row rfl 53 _ _ rfl (w.heap.size) _ rfl rfl 53 _ X4.out infoS rfl (one7 (s.g + 1) s.t s.e ck s.b s.l s.f) ?_)
  refine bodyPost_ret (v := .tuple #[.agg #[.int .i64 (s.g + 1), .int .i64 s.t, .int .i64 s.e, .int .i64 ck, .int .i64 s.b, .int .i64 s.l, .int .i64 s.f], .int .i64 0])
    (results_cell_tmp_row Tryz.results94 _ _ (w.heap.size) 53 _ (0, 0) _ rfl (setRow_same X4.out) Tryz.underlying53 rfl infoS) rfl
    ⟨rfl, below_setRow B4.out (Nat.le_refl _) _⟩
set_option maxRecDepth 100000 in
set_option maxHeartbeats 1000000 in
theorem next_arg {P S b : Nat} {s : SupN.Sb} {br : Bool} {w : World} (h : Pj P S b s br w) (ck : Int) (h1 : ck < s.k ∨ 1099511627776 < ck) :
    Calls Tryz.prog 94 #[.pointer (some ⟨P, 0, none⟩), .int .i64 ck] w (NextR nil7 2 w) := by
  obtain ⟨W1, hW1⟩ : ∃ W1, W1 = w.alloc (.cells #[.int .i64 0, .int .i64 0, .int .i64 0, .int .i64 0, .int .i64 0, .int .i64 0, .int .i64 0] 53) := ⟨_, rfl⟩
  have B1 : Hid (Below w.heap.size w W1) := Lib.hid (by rw [hW1]; exact below_new _ _)
  have X1 : Hid (W1.heap[w.heap.size]? = some (.cells #[.int .i64 0, .int .i64 0, .int .i64 0, .int .i64 0, .int .i64 0, .int .i64 0, .int .i64 0] 53 (0, 0))) := Lib.hid (by rw [hW1]; exact heap_alloc_new w _)
  have P1 := Lib.hid (h.step B1.out)
  have p5 := blk_cell (i := 5) (u := .int .i64 s.k) P1.out.po rfl
  clear h
  go_enter Tryz.func94, Tryz.ntmps94
  go_upto_region 1 with (fail)
  rw [← hW1]
  clear hW1
  by_cases h2 : ck < s.k
  all_goals
    first
    | (have h3 : ¬ ck < s.k := h2; replace h1 : 1099511627776 < ck := h1.resolve_left h3)
    | (clear h1)
    go_wp2_with (refine wpList_store_row rfl 53 _ _ rfl (w.heap.size) _ rfl rfl 53 _ X1.out infoS rfl (one7 0 0 0 0 0 0 0) ?_)
    refine bodyPost_ret (v := .tuple #[.agg #[.int .i64 0, .int .i64 0, .int .i64 0, .int .i64 0, .int .i64 0, .int .i64 0, .int .i64 0], .int .i64 2])
      (results_cell_tmp_row Tryz.results94 _ _ (w.heap.size) 53 _ (0, 0) _ rfl (setRow_same X1.out) Tryz.underlying53 rfl infoS) rfl
      ⟨rfl, below_setRow B1.out (Nat.le_refl _) _⟩
set_option maxRecDepth 100000 in
set_option maxHeartbeats 1000000 in
theorem next_last {P S b : Nat} {s : SupN.Sb} {br : Bool} {w : World} (h : Pj P S b s br w) (hm : SupN.may s) (ck : Int) (h1 : s.k ≤ ck) (h2 : ck ≤ 1099511627776) (hg : s.g = 1152921504606846976) :
    Calls Tryz.prog 94 #[.pointer (some ⟨P, 0, none⟩), .int .i64 ck] w (NextR nil7 6 w) := by
  have HN := Lib.hid (fun W hW => SupE.Next_last s.g s.t s.e s.k s.b s.l s.f W hW hm hg)
  obtain ⟨W1, hW1⟩ : ∃ W1, W1 = w.alloc (.cells #[.int .i64 0, .int .i64 0, .int .i64 0, .int .i64 0, .int .i64 0, .int .i64 0, .int .i64 0] 53) := ⟨_, rfl⟩
  have B1 : Hid (Below w.heap.size w W1) := Lib.hid (by rw [hW1]; exact below_new _ _)
  have X1 : Hid (W1.heap[w.heap.size]? = some (.cells #[.int .i64 0, .int .i64 0, .int .i64 0, .int .i64 0, .int .i64 0, .int .i64 0, .int .i64 0] 53 (0, 0))) := Lib.hid (by rw [hW1]; exact heap_alloc_new w _)
  have P1 := Lib.hid (h.step B1.out)
  have p2 := blk_cell (i := 2) (u := .int .i64 s.g) P1.out.po rfl
  have p3 := blk_cell (i := 3) (u := .int .i64 s.t) P1.out.po rfl
  have p4 := blk_cell (i := 4) (u := .int .i64 s.e) P1.out.po rfl
  have p5 := blk_cell (i := 5) (u := .int .i64 s.k) P1.out.po rfl
  have p6 := blk_cell (i := 6) (u := .int .i64 s.b) P1.out.po rfl
  have p7 := blk_cell (i := 7) (u := .int .i64 s.l) P1.out.po rfl
  have p8 := blk_cell (i := 8) (u := .int .i64 s.f) P1.out.po rfl
  clear h hm hg
  go_enter Tryz.func94, Tryz.ntmps94
  go_upto_region 1 with (fail)
  rw [← hW1]
  clear hW1
  go_upto_region 4 with (go_at_call 127; refine (HN.out _ P1.out.gl.bn).mono ?_; rintro e w2 ⟨rfl, hb2⟩; have B2 := Lib.hid hb2; clear hb2)
  clear p2 p3 p4 p5 p6 p7 p8 P1 HN
  have b3 := below_new w2 (.cells #[.int .i64 0, .int .i64 0, .int .i64 0, .int .i64 0, .int .i64 0, .int .i64 0, .int .i64 0] 53)
  obtain ⟨W3, hW3⟩ : ∃ W3, W3 = w2.alloc (.cells #[.int .i64 0, .int .i64 0, .int .i64 0, .int .i64 0, .int .i64 0, .int .i64 0, .int .i64 0] 53) := ⟨_, rfl⟩
  rw [← hW3] at b3 ⊢
  have hlt : W1.heap.size ≤ w2.heap.size := B2.out.size
  have B3 : Hid (Below w.heap.size w W3) := Lib.hid (B1.out.trans ((B2.out.trans (b3.mono hlt)).mono B1.out.size))
  have X3 : Hid (W3.heap[w.heap.size]? = some (.cells #[.int .i64 0, .int .i64 0, .int .i64 0, .int .i64 0, .int .i64 0, .int .i64 0, .int .i64 0] 53 (0, 0))) := Lib.hid ((b3.block _ (by have := lt_of_some X1.out; omega)).trans ((B2.out.block _ (lt_of_some X1.out)).trans X1.out))
  clear hW3 b3 B1 X1 B2 hlt
  go_wp2_with (refine wpList_store_row rfl 53 _ _ rfl (w.heap.size) _ rfl rfl 53 _ X3.out infoS rfl (one7 0 0 0 0 0 0 0) ?_)
  refine bodyPost_ret (v := .tuple #[.agg #[.int .i64 0, .int .i64 0, .int .i64 0, .int .i64 0, .int .i64 0, .int .i64 0, .int .i64 0], .int .i64 6])
    (results_cell_tmp_row Tryz.results94 _ _ (w.heap.size) 53 _ (0, 0) _ rfl (setRow_same X3.out) Tryz.underlying53 rfl infoS) rfl
    ⟨rfl, below_setRow B3.out (Nat.le_refl _) _⟩
end Go.Proofs.YtoilcieineejiaaGreatDoor.JouB
/- The program's journal: commit, append: the walks of their texts. No conditions but those that each lemma names. -/
namespace Go.Proofs.YtoilcieineejiaaGreatDoor.JouD
set_option linter.unusedVariables false
open Go.RowKit
open DkN DkM JouN JouP JouQ JouR JouS JouC JouW JouX JouY JouZ JouB
open SupP (Gl)
open SupC (infoS one7)
section
variable {base J P S b : Nat} {bv cv : Value} {D : Dk} {j : Jo} {w w1 : World}
/-- What is there where only the space may have been turned. -/
theorem Jm.after (h : Jm base J P S b bv cv D j w) (hk : Kept (fun k => k = S) w w1) : Has false w1 b bv cv D ∧ Pj P S b j.last j.broken w1 ∧ Gd base w1 := by
  have hSP : P ≠ S := fun e => by
    have e1 := h.sp
    unfold SpaC.Sp at e1
    rw [← e, h.po] at e1
    simp at e1
  have hg : Gd base w1 := h.gd.kept hk.size fun k hk' => hk.block k (Nat.lt_of_lt_of_le hk' h.base_le) (fun e => by have := h.low.2.2.1; omega)
  exact ⟨h.dk.kept fun k hk' => hk.block k (h.dk.foot_lt k hk') (fun e => not_foot h.dk h.sp (by decide) (by decide) (.inl (by decide)) (e ▸ hk')), ⟨(hk.block P (lt_of_some h.po) hSP).trans h.po, hg.g⟩, hg⟩
theorem gl_RJ (hg : Gd base w1) (hw : base ≤ w1.heap.size) (hP : base ≤ P) (hf : ∀ k, Foot b bv cv k → base ≤ k) {br : Bool} : ∀ W q, RJ w1 P S b bv cv br W q → Gl W := fun W q hR =>
  (hg.kept hR.kept.size fun k hk => hR.kept.block k (by omega) (fun e => e.elim (fun e => by omega) (fun e => by have := hf k e; omega))).g
theorem may_nx (hm : SupN.may j.last) {u : Nat} (hu : (u : Int) ≤ j.last.b - 4) {e ck : Int} (he : j.last.e ≤ e ∧ e ≤ 4294967295) (hn : noNext j ck = 0) : SupN.may (nxt j u e ck) ∧ j.last.k ≤ ck ∧ ck ≤ 1099511627776 ∧ ¬ j.last.g = 1152921504606846976 := by
  unfold noNext at hn
  split at hn
  · exact absurd hn (by decide)
  · split at hn
    · exact absurd hn (by decide)
    · rename_i h1 h2
      obtain ⟨m1, m2, m3, m4, m5⟩ := hm
      refine ⟨⟨m1, ?_, ?_, ?_, ?_⟩, by omega, by omega, h2⟩
      · show 1 ≤ j.last.g + 1 ∧ j.last.g + 1 ≤ 1152921504606846976; omega
      · show 0 ≤ (u : Int) ∧ (u : Int) ≤ j.last.b - 4; omega
      · show j.last.f ≤ e ∧ e ≤ 4294967295; omega
      · show 0 ≤ ck ∧ ck ≤ 1099511627776; omega
/-- Superblocks' blocks stay. -/
def KeepS (w w' : World) : Prop := ∀ (X : Nat) (cs : Array Value), w.heap[X]? = some (Obj.cells cs 53 (0, 0)) → w'.heap[X]? = some (Obj.cells cs 53 (0, 0))
theorem com_row (h : Jm base J P S b bv cv D j w) {ck : Int} (hn : noNext j ck = 0) (w4 : World) (x y : Nat) (hb : Below w.heap.size w w4) (hc : CoAt w4 P (nxt j j.used j.last.e ck) x y) :
    Calls Tryz.prog 63 #[.pointer (some ⟨P, 0, none⟩), .slice (some ⟨w4.heap.size, 0, none⟩) 2 2] (w4.alloc (.cells #[.func (.func 41) #[.pointer (some ⟨b, 0, none⟩)] #[], .func (.func 130) #[] #[.pointer (some ⟨x, 0, none⟩), .pointer (some ⟨y, 0, none⟩)]] 88))
      fun e w' => e = .returned (.int .i64 ((comR D j ck).e : Nat)) ∧ Went base J P S b bv cv (comR D j ck).D (comR D j ck).j w w' ∧ KeepS w4 w' := by
  have he := h.may.2.2.2.1
  obtain ⟨hm', _, _, hg⟩ := may_nx h.may h.few ⟨Int.le_refl _, he.2⟩ hn
  obtain ⟨o, ho⟩ : ∃ o, o = Obj.cells #[.func (.func 41) #[.pointer (some ⟨b, 0, none⟩)] #[], .func (.func 130) #[] #[.pointer (some ⟨x, 0, none⟩), .pointer (some ⟨y, 0, none⟩)]] 88 (0, 0) := ⟨_, rfl⟩
  have hb5 : Below w.heap.size w (w4.alloc o) := hb.alloc hb.size _
  have h5 := h.step hb5
  have c5 := hc.step (below_new w4 o)
  have r5 := heap_alloc_new w4 o
  rw [← ho]
  have hsp5 := h5.sp
  have hxP : x ≠ P := fun e => by
    have e1 := c5.j
    rw [e, h5.po] at e1
    simp at e1
  have hyP : y ≠ P := fun e => by
    have e1 := c5.u
    rw [e, h5.po] at e1
    simp at e1
  have hrP : w4.heap.size ≠ P := fun e => by
    have e1 := r5
    rw [e, h5.po, ho] at e1
    simp at e1
  have hr5 : (w4.alloc o).heap[w4.heap.size]? = some (.cells [Value.func (.func 41) #[.pointer (some ⟨b, 0, none⟩)] #[], Value.func (.func 130) #[] #[.pointer (some ⟨x, 0, none⟩), .pointer (some ⟨y, 0, none⟩)]].toArray 88 (0, 0)) := by rw [r5, ho]
  have fs : Stps (RJ (w4.alloc o) P S b bv cv j.broken) [Value.func (.func 41) #[.pointer (some ⟨b, 0, none⟩)] #[], Value.func (.func 130) #[] #[.pointer (some ⟨x, 0, none⟩), .pointer (some ⟨y, 0, none⟩)]]
      ([[Ac.fl]].map (Lens.fst SupN.Sb).act ++ (comS (nxt j j.used j.last.e ck) :: ([] : List (List Ac)).map (Lens.fst SupN.Sb).act)) :=
    .cons (stp_fl fr_RJ) (.cons (stp_co (gl_RJ h5.gd h5.base_le h.low.2.1 h.low.2.2.2) hm' (stay_RJ h5.dk c5.j hxP (by decide) (by decide) (.inl (by decide))) (stay_RJ h5.dk c5.u hyP (by decide) (by decide) (.inl (by decide)))) .nil)
  refine (do_ h5.dk h5.po _ 2 2 _ _ rfl (by omega) (stay_at (stay_RJ h5.dk hr5 hrP (by decide) (by decide) (.inl (by decide)))) fs).mono ?_
  rintro e w' ⟨rfl, hR⟩
  rw [runS_com] at hR ⊢
  refine ⟨rfl, went_rj h (.of_below (hb5)) hsp5 hR ?_ ?_ ?_, fun X cs hX => ?_⟩
  · split
    · exact hm'
    · exact h.may
  · split
    · exact ⟨rfl, rfl, rfl⟩
    · exact ⟨rfl, rfl, rfl⟩
  · split
    · exact h.few
    · exact h.few
  · have hX' := (heap_alloc_old w4 o (lt_of_some hX)).trans hX
    exact stay_RJ h5.dk hX' (fun e => by rw [e, h5.po] at hX'; simp at hX') (by decide) (by decide) (.inl (by decide)) w' _ hR
end
set_option maxRecDepth 100000 in
set_option maxHeartbeats 1000000 in
theorem commit_ok {base J P S b : Nat} {bv cv : Value} {D : Dk} {j : Jo} {w : World} (h : Jm base J P S b bv cv D j w) (ck : Int) (hn : noNext j ck = 0) :
    Calls Tryz.prog 62 #[.pointer (some ⟨P, 0, none⟩), .int .i64 ck] w fun e w' => e = .returned (.int .i64 ((comR D j ck).e : Nat)) ∧ Went base J P S b bv cv (comR D j ck).D (comR D j ck).j w w' := by
  have he := h.may.2.2.2.1
  obtain ⟨hm', h1, h2, hg⟩ := may_nx h.may h.few ⟨Int.le_refl _, he.2⟩ hn
  have HN := Lib.hid (next_ok (Jm.pj h) h.may ck h1 h2 hg)
  have HDO := Lib.hid (fun w4 x y hb hc => com_row h hn w4 x y hb hc)
  have HC := Lib.hid (fun W => commits P (nxt j j.used j.last.e ck) W)
  have hbz : (j.last.b == 0) = false := by rw [beq_eq_false_iff_ne]; have := h.may.1; unfold GeoN.right at this; omega
  have HU := Lib.hid (fun W hW => SpaE.Used S j.last.b j.last.l j.last.f j.used W hW hbz)
  have HH := Lib.hid h
  clear h he hm' h1 h2 hg hbz hn
  generalize comR D j ck = r at *
  unfold nxt at HC
  unfold nx at HN
  dsimp only at HC HN
  go_enter Tryz.func62, Tryz.ntmps62
  go_upto_region 2 with (go_at_call 94; refine HN.out.mono ?_; rintro e w2 ⟨rfl, hb2⟩; have B2 := Lib.hid hb2; clear hb2)
  obtain ⟨W3, hW3⟩ : ∃ W3, W3 = w2.alloc (.cells #[.int .i64 (j.last.g + 1), .int .i64 j.last.t, .int .i64 j.last.e, .int .i64 ck, .int .i64 j.last.b, .int .i64 j.last.l, .int .i64 j.last.f] 53) := ⟨_, rfl⟩
  rw [← hW3]
  have X3 : Hid (W3.heap[w2.heap.size]? = some (.cells #[.int .i64 (j.last.g + 1), .int .i64 j.last.t, .int .i64 j.last.e, .int .i64 ck, .int .i64 j.last.b, .int .i64 j.last.l, .int .i64 j.last.f] 53 (0, 0))) := Lib.hid (by rw [hW3]; exact heap_alloc_new w2 _)
  have B3 : Hid (Below w.heap.size w W3) := Lib.hid (by rw [hW3]; exact B2.out.alloc B2.out.size _)
  have L3 : Hid (w.heap.size ≤ w2.heap.size) := Lib.hid B2.out.size
  clear hW3 HN
  generalize w2.heap.size = X at *
  have H3 := Lib.hid (HH.out.step B3.out)
  have p0 := blk_cell (i := 0) (u := .pointer (some ⟨S, 0, none⟩)) H3.out.po rfl
  have x1 := blk_cell (i := 1) (u := .int .i64 j.last.t) X3.out rfl
  have f1 := blk_free (i := 1) X3.out
  go_upto_region 5 with (go_at_call 60; refine (HU.out _ H3.out.sp).mono ?_; rintro e _ ⟨rfl, rfl⟩)
  clear p0
  generalize hW : World.setCell _ _ _ = W4
  have B4 : Hid (Below w.heap.size w W4) := Lib.hid (by rw [← hW]; exact B3.out.setCell L3.out _)
  have X4 : Hid (W4.heap[X]? = some (.cells #[.int .i64 (j.last.g + 1), .int .i64 j.used, .int .i64 j.last.e, .int .i64 ck, .int .i64 j.last.b, .int .i64 j.last.l, .int .i64 j.last.f] 53 (0, 0))) := Lib.hid (by rw [← hW, blk_set X3.out]; rfl)
  clear hW x1 f1 X3 B3 H3 HU B2
  have HF : Hid (∀ W : World, W.cell? ⟨P, 1, none⟩ = some (.pointer (some ⟨b, 0, none⟩)) → W.heap[X]? = some (.cells #[.int .i64 (j.last.g + 1), .int .i64 j.used, .int .i64 j.last.e, .int .i64 ck, .int .i64 j.last.b, .int .i64 j.last.l, .int .i64 j.last.f] 53 (0, 0)) →
      W.cell? ⟨P, 1, none⟩ = some (.pointer (some ⟨b, 0, none⟩)) ∧ W.cell? ⟨X, 0, none⟩ = some (.int .i64 (j.last.g + 1)) ∧ W.cell? ⟨X, 1, none⟩ = some (.int .i64 j.used) ∧ W.cell? ⟨X, 2, none⟩ = some (.int .i64 j.last.e) ∧ W.cell? ⟨X, 3, none⟩ = some (.int .i64 ck) ∧ W.cell? ⟨X, 4, none⟩ = some (.int .i64 j.last.b) ∧ W.cell? ⟨X, 5, none⟩ = some (.int .i64 j.last.l) ∧ W.cell? ⟨X, 6, none⟩ = some (.int .i64 j.last.f)) := Lib.hid (fun W h1 h2 =>
    ⟨h1, blk_cell h2 rfl, blk_cell h2 rfl, blk_cell h2 rfl, blk_cell h2 rfl, blk_cell h2 rfl, blk_cell h2 rfl, blk_cell h2 rfl⟩)
  have HPB : Hid (∀ W : World, Below w.heap.size w W → W.cell? ⟨P, 1, none⟩ = some (.pointer (some ⟨b, 0, none⟩))) := Lib.hid (fun W h1 => blk_cell (HH.out.step h1).po rfl)
  have hS := HF.out _ (HPB.out _ B4.out.drew) X4.out
  have HX4 : Hid (W4.drew.heap[X]? = some (.cells #[.int .i64 (j.last.g + 1), .int .i64 j.used, .int .i64 j.last.e, .int .i64 ck, .int .i64 j.last.b, .int .i64 j.last.l, .int .i64 j.last.f] 53 (0, 0))) := X4
  go_region_held3 (fun W => W.cell? ⟨P, 1, none⟩ = some (.pointer (some ⟨b, 0, none⟩)) ∧ W.cell? ⟨X, 0, none⟩ = some (.int .i64 (j.last.g + 1)) ∧ W.cell? ⟨X, 1, none⟩ = some (.int .i64 j.used) ∧ W.cell? ⟨X, 2, none⟩ = some (.int .i64 j.last.e) ∧ W.cell? ⟨X, 3, none⟩ = some (.int .i64 ck) ∧ W.cell? ⟨X, 4, none⟩ = some (.int .i64 j.last.b) ∧ W.cell? ⟨X, 5, none⟩ = some (.int .i64 j.last.l) ∧ W.cell? ⟨X, 6, none⟩ = some (.int .i64 j.last.f))
    (first | exact hS | exact hS1 | exact HF.out _ (HPB.out _ (B5.out.alloc B5.out.size _)) ((heap_alloc_old _ _ (lt_of_some X5.out)).trans X5.out) | exact hS2)
    (first
      | (go_at_call 97; refine (HC.out _).mono ?_; rintro e w5 ⟨x2, y2, rfl, hc2, hb5⟩; have B5 := Lib.hid (B4.out.drew.trans (hb5.mono B4.out.drew.size)); have X5 := Lib.hid ((hb5.block _ (lt_of_some HX4.out)).trans HX4.out); have C5 := Lib.hid hc2; have hS1 := HF.out _ (HPB.out _ B5.out) X5.out; clear hb5 hc2)
      | (go_at_call 63; refine (HDO.out _ _ _ B5.out C5.out).mono ?_; rintro e w6 ⟨rfl, hd6, hk6⟩; have D6 := Lib.hid hd6; have hS2 := HF.out _ (by obtain ⟨c6, h6, _⟩ := hd6; exact blk_cell h6.po rfl) (hk6 _ _ X5.out); clear hd6 hk6))
  all_goals (go_wp2_with fail; go_ret; exact ⟨rfl, D6.out⟩)
end Go.Proofs.YtoilcieineejiaaGreatDoor.JouD
/- The program's journal: append, and what commit refuses: the walks of their texts. No conditions but those that each lemma names. -/
namespace Go.Proofs.YtoilcieineejiaaGreatDoor.JouE
set_option linter.unusedVariables false
open Go.RowKit
open DkN DkM JouN JouP JouQ JouR JouS JouC JouW JouX JouY JouZ JouB JouD
open SupP (Gl)
section
variable {base J P S b : Nat} {bv cv : Value} {D : Dk} {j : Jo} {w w1 : World}
theorem kept_but {S : Nat} {w w' : World} (h : SpaC.But S w w') : Kept (fun k => k = S) w w' := ⟨h.os, h.tape, h.output, h.size, fun k hk hn => h.block k hk hn⟩
theorem bne0 (h : Jm base J P S b bv cv D j w) : (j.last.b == 0) = false := by rw [beq_eq_false_iff_ne]; have := h.may.1; unfold GeoN.right at this; omega
theorem used_le (h : Jm base J P S b bv cv D j w) : (j.used : Int) ≤ 1020 := by have := h.may.1; have := h.few; unfold GeoN.right at *; omega
theorem ne_P {W : World} {x P S b : Nat} {s : SupN.Sb} {br : Bool} (hp : W.heap[P]? = some (.cells (jc S b s br) 100 (0, 0))) {cs : Array Value} {t : TypeId} {f : Nat × Nat} (hx : W.heap[x]? = some (.cells cs t f)) (ht : t ≠ 100) : x ≠ P := fun e => by
  rw [e, hp] at hx
  simp only [Option.some.injEq, Obj.cells.injEq] at hx
  exact ht hx.2.1.symm
theorem app_row (h : Jm base J P S b bv cv D j w) (s : ByteArray) (hr : ¬ GeoN.room j.last.b j.last.l j.last.f j.used = 0) (w3 : World) (x y z : Nat) (hk : Kept (fun k => k = S) w w3) (hs : SpaC.Sp w3 S j.last.b j.last.l j.last.f (j.used + 1 : Nat)) (hw : WrAt w3 b ((4 + j.used : Nat) : Int) s x y z) :
    Calls Tryz.prog 96 #[.pointer (some ⟨P, 0, none⟩), .int .i64 j.used, .slice (some ⟨w3.heap.size, 0, none⟩) 1 1] (w3.alloc (.cells #[.func (.func 82) #[] #[.pointer (some ⟨x, 0, none⟩), .pointer (some ⟨y, 0, none⟩), .pointer (some ⟨z, 0, none⟩)]] 88))
      fun e w' => e = .returned (.tuple #[.int .i64 ((appR D j s).n : Nat), .int .i64 ((appR D j s).e : Nat)]) ∧ Went base J P S b bv cv (appR D j s).D (appR D j s).j w w' := by
  have hu := used_le h
  have hroom : (j.used : Int) < j.last.b - 5 := by
    by_cases q : GeoN.right j.last.b j.last.l j.last.f ∧ 0 ≤ (j.used : Int) ∧ (j.used : Int) < j.last.b - 5
    · exact q.2.2
    · exact absurd (GeoN.room_no q) hr
  have hb4 := below_new w3 (.cells #[.func (.func 82) #[] #[.pointer (some ⟨x, 0, none⟩), .pointer (some ⟨y, 0, none⟩), .pointer (some ⟨z, 0, none⟩)]] 88)
  have r4 : _ = some (Obj.cells [Value.func (.func 82) #[] #[.pointer (some ⟨x, 0, none⟩), .pointer (some ⟨y, 0, none⟩), .pointer (some ⟨z, 0, none⟩)]].toArray 88 (0, 0)) := heap_alloc_new w3 (.cells #[.func (.func 82) #[] #[.pointer (some ⟨x, 0, none⟩), .pointer (some ⟨y, 0, none⟩), .pointer (some ⟨z, 0, none⟩)]] 88)
  generalize w3.alloc (.cells #[.func (.func 82) #[] #[.pointer (some ⟨x, 0, none⟩), .pointer (some ⟨y, 0, none⟩), .pointer (some ⟨z, 0, none⟩)]] 88) = w4 at *
  have hk4 := hk.step hb4
  obtain ⟨h4, p4, g4⟩ := Jm.after h hk4
  have hw4 := hw.step hb4
  have fs : Stps (RJ w4 P S b bv cv j.broken) [Value.func (.func 82) #[] #[.pointer (some ⟨x, 0, none⟩), .pointer (some ⟨y, 0, none⟩), .pointer (some ⟨z, 0, none⟩)]] ([[Ac.wr (4 + j.used) s]].map (Lens.fst SupN.Sb).act) :=
    .cons (stp_wr fr_RJ (stay_RJ h4 hw4.d (ne_P p4.po hw4.d (by decide)) (by decide) (by decide) (.inl (by decide))) (stay_RJ h4 hw4.i (ne_P p4.po hw4.i (by decide)) (by decide) (by decide) (.inl (by decide))) (stay_RJ h4 hw4.s (ne_P p4.po hw4.s (by decide)) (by decide) (by decide) (.inr (show 1 < 8 by decide)))) .nil
  refine (numbered h4 p4.po j.used _ 1 1 _ _ rfl (by omega) (stay_at (stay_RJ h4 r4 (ne_P p4.po r4 (by decide)) (by decide) (by decide) (.inl (by decide)))) fs).mono ?_
  rintro e w' ⟨rfl, hR⟩
  rw [runS_flat] at hR ⊢
  exact ⟨rfl, went_rj h hk4 (hs.step hb4) hR h.may ⟨rfl, rfl, rfl⟩ (by omega)⟩
end
set_option maxRecDepth 100000 in
set_option maxHeartbeats 1000000 in
theorem append_ok {base J P S b : Nat} {bv cv : Value} {D : Dk} {j : Jo} {w : World} (h : Jm base J P S b bv cv D j w) (s : ByteArray) (hs : s.size = 4096) (hr : ¬ GeoN.room j.last.b j.last.l j.last.f j.used = 0) :
    Calls Tryz.prog 59 #[.pointer (some ⟨P, 0, none⟩), .string s] w fun e w' => e = .returned (.tuple #[.int .i64 ((appR D j s).n : Nat), .int .i64 ((appR D j s).e : Nat)]) ∧ Went base J P S b bv cv (appR D j s).D (appR D j s).j w w' := by
  have hu := used_le h
  have HT := Lib.hid (SpaH.Take_yes S j.last.b j.last.l j.last.f j.used w h.sp (bne0 h) h.gd.g.bn (by omega) hu hr)
  have HL : Hid (∀ W, Pj P S b j.last j.broken W → _) := Lib.hid (fun W hW => lays hW h.may.1 (j.used : Int) (by omega) (by omega) s)
  rw [show (4 + (j.used : Int)) = ((4 + j.used : Nat) : Int) by omega] at HL
  rw [show ((j.used : Int) + 1) = ((j.used + 1 : Nat) : Int) by omega] at HT
  have HDO := Lib.hid (fun w3 x y z hk hs hw => app_row h s hr w3 x y z hk hs hw)
  have HA : Hid (∀ W : World, Kept (fun k => k = S) w W → Pj P S b j.last j.broken W) := Lib.hid (fun W hk => (Jm.after h hk).2.1)
  have p0 := blk_cell (i := 0) (u := .pointer (some ⟨S, 0, none⟩)) h.po rfl
  have hsz : ((s.size : Int) != 4096) = false := by rw [hs]; rfl
  clear h hr hu hs
  generalize appR D j s = r at *
  go_enter Tryz.func59, Tryz.ntmps59
  go_wp2_with (first
    | (go_at_call 98; refine HT.out.mono ?_; rintro e w2 ⟨rfl, hs2, hb2⟩; have K2 := Lib.hid (kept_but hb2); have S2 := Lib.hid hs2; clear hb2 hs2 p0)
    | (go_at_call 64; refine (HL.out _ (HA.out _ K2.out)).mono ?_; rintro e w3 ⟨x3, y3, z3, rfl, hw3, hb3⟩; have K3 := Lib.hid (K2.out.step hb3); have S3 := Lib.hid (S2.out.step hb3); have W3 := Lib.hid hw3; clear hb3 hw3)
    | (go_at_call 96; refine (HDO.out _ _ _ _ K3.out S3.out W3.out).mono ?_; rintro e w4 ⟨rfl, hd4⟩; have D4 := Lib.hid hd4; clear hd4))
  go_ret2
  exact ⟨rfl, D4.out⟩
theorem append_full {base J P S b : Nat} {bv cv : Value} {D : Dk} {j : Jo} {w : World} (h : Jm base J P S b bv cv D j w) (s : ByteArray) (hs : s.size = 4096) (hr : GeoN.room j.last.b j.last.l j.last.f j.used = 0) :
    Calls Tryz.prog 59 #[.pointer (some ⟨P, 0, none⟩), .string s] w fun e w' => e = .returned (.tuple #[.int .i64 0, .int .i64 5]) ∧ Below w.heap.size w w' := by
  have hu := used_le h
  have HT := Lib.hid (SpaH.Take_no S j.last.b j.last.l j.last.f j.used w h.sp (bne0 h) h.gd.g.bn (by omega) hr)
  have p0 := blk_cell (i := 0) (u := .pointer (some ⟨S, 0, none⟩)) h.po rfl
  have hsz : ((s.size : Int) != 4096) = false := by rw [hs]; rfl
  clear h hr hu hs
  go_enter Tryz.func59, Tryz.ntmps59
  go_wp2_with (go_at_call 98; refine HT.out.mono ?_; rintro e w2 ⟨rfl, hb2⟩; have B2 := Lib.hid hb2; clear hb2)
  go_ret2
  exact ⟨rfl, B2.out⟩
theorem append_arg (P : Nat) (w : World) (s : ByteArray) (hs : s.size ≠ 4096) :
    Calls Tryz.prog 59 #[.pointer (some ⟨P, 0, none⟩), .string s] w fun e w' => e = .returned (.tuple #[.int .i64 0, .int .i64 2]) ∧ w = w' := by
  have hsz : ((s.size : Int) != 4096) = true := by rw [bne_iff_ne]; omega
  clear hs
  go_enter Tryz.func59, Tryz.ntmps59
  go_wp2_with fail
  go_ret2
  exact ⟨rfl, rfl⟩
set_option maxRecDepth 100000 in
theorem commit_no {base J P S b : Nat} {bv cv : Value} {D : Dk} {j : Jo} {w : World} (h : Jm base J P S b bv cv D j w) (ck : Int) (hn : noNext j ck ≠ 0) :
    Calls Tryz.prog 62 #[.pointer (some ⟨P, 0, none⟩), .int .i64 ck] w fun e w' => e = .returned (.int .i64 (noNext j ck : Nat)) ∧ Below w.heap.size w w' := by
  have HN : Hid (Calls Tryz.prog 94 #[.pointer (some ⟨P, 0, none⟩), .int .i64 ck] w (NextR nil7 (noNext j ck) w)) := Lib.hid (by
    unfold noNext at *
    split
    · rename_i h1
      exact next_arg (Jm.pj h) ck h1
    · rename_i h1
      split
      · rename_i h2
        exact next_last (Jm.pj h) h.may ck (by omega) (by omega) h2
      · rename_i h2
        rw [if_neg h1, if_neg h2] at hn
        exact absurd rfl hn)
  have hq : (((noNext j ck : Nat) : Int) != 0) = true := by rw [bne_iff_ne]; omega
  clear h hn
  generalize noNext j ck = q at *
  unfold nil7 at HN
  go_enter Tryz.func62, Tryz.ntmps62
  go_wp2_with (go_at_call 94; refine HN.out.mono ?_; rintro e w2 ⟨rfl, hb2⟩; have B2 := Lib.hid hb2; clear hb2)
  go_ret
  exact ⟨rfl, B2.out.alloc B2.out.size _⟩
end Go.Proofs.YtoilcieineejiaaGreatDoor.JouE
