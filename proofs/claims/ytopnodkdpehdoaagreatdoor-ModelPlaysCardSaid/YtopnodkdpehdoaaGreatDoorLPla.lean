/- PlaS PlaB: one behind the other. -/
import Derived.Test.YtopnodkdpehdoaaGreatDoorPgF
import Derived.Test.YtopnodkdpehdoaaGreatDoorLMde
import Derived.Test.YtopnodkdpehdoaaGreatDoorLMdk
/- The law's own 'same': the program's model and the document's, of the same mathematics. No conditions but those that each lemma names. -/
namespace Go.Proofs.YtopnodkdpehdoaaGreatDoor.PlaS
set_option linter.unusedVariables false
open Go.RowKit
open RecN RecC RetN RetC RetR MdN MdC PgN PgC CalR
/-- Both models, of the same. -/
structure Tw (base X : Nat) (A : Pm) (m : Mo) (ar : Option Addr) (cr : Nat) (av : Option Addr) (cv : Nat) (w W : World) : Prop where
  p : Pg base A m W
  d : Dm base X m ar cr av cv W
  bel : Below w.heap.size w W
theorem Tw.step {base X : Nat} {A : Pm} {m : Mo} {ar av : Option Addr} {cr cv : Nat} {w W W' : World} (h : Tw base X A m ar cr av cv w W) (hb : Below W.heap.size W W') : Tw base X A m ar cr av cv w W' := ⟨h.p.step hb, h.d.step hb, h.bel.trans (hb.mono h.bel.size)⟩
theorem drewN_below (w : World) (n : Nat) : Below w.heap.size w (w.drewN n) := ⟨rfl, rfl, rfl, Nat.le_refl _, fun _ _ => rfl⟩
theorem nw_bst (o : Option V) : o.getD v0 = (PgW.nwR o).1 ∧ o.isSome = (PgW.nwR o).2 := by cases o <;> exact ⟨rfl, rfl⟩
set_option maxRecDepth 100000 in
set_option maxHeartbeats 16000000 in
theorem same {base X : Nat} {A : Pm} {m : Mo} {ar av : Option Addr} {cr cv : Nat} {w : World} (hp : Pg base A m w) (hd : Dm base X m ar cr av cv w) (ep lba : Int) (hw : Wf ep) :
    Calls Tryz.prog 14 #[.pointer (some ⟨A.x, 0, none⟩), .pointer (some ⟨X, 0, none⟩), .int .i64 ep, .int .i64 lba] w fun x w' => x = .returned (.bool true) ∧ Below w.heap.size w w' := by
  have TT : Hid (Tw base X A m ar cr av cv w w) := Lib.hid ⟨hp, hd, Below.refl _ _⟩
  have H1 := Lib.hid (fun W (h : Tw base X A m ar cr av cv w W) => PgL.Block h.p ep lba)
  have H2 := Lib.hid (fun W (h : Tw base X A m ar cr av cv w W) => MdE.Newest h.d lba ep ep)
  have H3 := Lib.hid (fun W (h : Tw base X A m ar cr av cv w W) => PgL.Gone h.p ep hw)
  have H4 := Lib.hid (fun W (h : Tw base X A m ar cr av cv w W) => MdD.Gone h.d ep)
  have H5 := Lib.hid (fun W (h : Tw base X A m ar cr av cv w W) => PgA.Epoch h.p)
  have H6 := Lib.hid (fun W (h : Tw base X A m ar cr av cv w W) => MdD.Epoch h.d)
  have H7 := Lib.hid (fun W (h : Tw base X A m ar cr av cv w W) => PgK.Records h.p)
  have hlen := hp.ok.lens
  have hn := nw_bst (bst m.vs lba ep ep)
  rw [hn.1, hn.2] at H2
  clear hn hp hd hw
  generalize PgW.nwR (bst m.vs lba ep ep) = y at *
  obtain ⟨v, q⟩ := y
  dsimp only at H1 H2
  obtain ⟨z, hz⟩ : ∃ z, z = m.s.gone ep := ⟨_, rfl⟩
  rw [← hz] at H3 H4
  clear hz
  obtain ⟨pe, hpe⟩ : ∃ pe, pe = m.s.ep := ⟨_, rfl⟩
  rw [← hpe] at H5 H6
  clear hpe
  go_enter Tryz.func14, Tryz.ntmps14
  go_upto_region 3 with (first
    | (go_at_call 19; refine (H1.out _ TT.out).mono ?_; rintro e w1 ⟨rfl, hb⟩; replace TT := Lib.hid (TT.out.step hb); clear hb H1)
    | (go_at_call 38; refine (H2.out _ TT.out).mono ?_; rintro e w2 ⟨rfl, hb⟩; replace TT := Lib.hid (TT.out.step hb); clear hb H2)
    | (refine wpList_store_row rfl 85 _ _ rfl w2.heap.size _ rfl rfl 85 _ (heap_alloc_new w2 _) infoV rfl (one3 v) ?_))
  generalize hW : World.setRow _ _ _ = W3
  replace TT := Lib.hid (TT.out.step (show Below w2.heap.size w2 W3 by rw [← hW]; exact kept_new w2 _ _ _))
  have HB : Hid (Bv W3 w2.heap.size v) := Lib.hid (by rw [← hW]; exact has_new w2 _ _ _)
  clear hW
  generalize w2.heap.size = Y at *
  replace TT := Lib.hid (TT.out.step (drewN_below W3 1))
  have hS : W3.drew.cell? ⟨Y, 2, none⟩ = some (.string ⟨v.da.toArray⟩) := blk_cell HB.out rfl
  have q1 : ((⟨v.da.toArray⟩ : ByteArray) != ⟨v.da.toArray⟩) = false := by show (!(v.da.toArray == v.da.toArray)) = false; simp
  have q2 : (q != q) = false := by simp
  have q3 : (z != z) = false := by simp
  have q4 : (pe != pe) = false := by simp
  have YL : Hid (Y < W3.heap.size) := Lib.hid HB.out.lt
  have HK : Hid (∀ W, Tw base X A m ar cr av cv w W → True) := Lib.hid (fun _ _ => trivial)
  go_region_held3 (fun W => W.cell? ⟨Y, 2, none⟩ = some (.string ⟨v.da.toArray⟩))
    (exact hS) (first
      | (go_at_call 20; refine (H3.out _ TT.out).mono ?_; rintro e w4 ⟨rfl, hb⟩; replace TT := Lib.hid (TT.out.step hb); replace hS := (hb.cell (p := ⟨Y, 2, none⟩) YL.out).trans hS; clear hb H3)
      | (go_at_call 39; refine (H4.out _ TT.out).mono ?_; rintro e _ ⟨rfl, rfl⟩; clear H4)
      | (go_at_call 18; refine (H5.out _ TT.out).mono ?_; rintro e _ ⟨rfl, rfl⟩; clear H5)
      | (go_at_call 30; refine (H6.out _ TT.out).mono ?_; rintro e _ ⟨rfl, rfl⟩; clear H6))
  go_upto_region 6 with (go_at_call 21; refine (H7.out _ TT.out).mono ?_; rintro e w5 ⟨a', c', rfl, ho, hb⟩; replace TT := Lib.hid (TT.out.step hb); have RL := Lib.hid (own_lies ho); clear hb ho H7)
  obtain ⟨_, _, _, _, _, _, c6, _⟩ := TT.out.d.cells
  have qn : ((m.l.length : Int) != (m.l.length : Int)) = false := by simp
  have qw : (m.l.length : Int) < 9223372036854775808 := by omega
  clear q1 q2 q3 q4 YL HK hS HB
  go_wp2_with fail
  go_loopw [72] (fun iv wr => ∃ k : Nat, k ≤ m.l.length ∧ iv = .int .i64 k ∧ Below w5.heap.size w5 wr) (fun iv _ => m.l.length - (intOf iv).toNat)
  case atStart => exact ⟨0, Nat.zero_le _, rfl, Below.refl _ _⟩
  case round =>
    obtain ⟨k, hk, rfl, hb⟩ := hrel
    by_cases hlt : k < m.l.length
    · obtain ⟨g, o, rfl, hg, hc⟩ := RL.out.at8 (by omega)
      obtain ⟨g2, o2, har, hg2, hc2⟩ := (own_lies TT.out.d.rows).at8 (by omega)
      obtain ⟨k0, k1, k2, k3, k4, k5, k6, k7⟩ := (hc k hlt).step hg hb
      obtain ⟨j0, j1, j2, j3, j4, j5, j6, j7⟩ := (hc2 k hlt).step hg2 hb
      have d6 : wr.cell? ⟨X, 6, none⟩ = some (.slice ar m.l.length cr) := (hb.cell (p := ⟨X, 6, none⟩) TT.out.d.lt).trans c6
      rw [har] at d6
      have p0 : (0 : Int) ≤ (k : Int) := by omega
      have p1 : (k : Int) < (m.l.length : Int) := by omega
      generalize m.l[k] = r at *
      have hne := fun W => run_neq_rec W r r true (by simp)
      clear c6 hc hc2 har
      go_upto_region 11 with fail
      go_quiet (fail)
      have B2 : Hid (Below w5.heap.size w5 (wr.drewN nq)) := Lib.hid (hb.trans (drewN_below wr nq |>.mono hb.size))
      clear k0 k1 k2 k3 k4 k5 k6 k7 j0 j1 j2 j3 j4 j5 j6 j7
      go_wp2
      go_roundw
      case rel => exact ⟨k + 1, by omega, by go_num, B2.out⟩
      case measure => simp [intOf]; omega
    · obtain rfl : k = m.l.length := by omega
      have qk : ¬ (m.l.length : Int) < (m.l.length : Int) := by omega
      go_wp2_with fail
      go_ret
      exact ⟨rfl, TT.out.bel.trans (hb.mono TT.out.bel.size)⟩
end Go.Proofs.YtopnodkdpehdoaaGreatDoor.PlaS
/- The program's model beside the document's, apart: what a call of either leaves. No conditions but those that each lemma names. -/
namespace Go.Proofs.YtopnodkdpehdoaaGreatDoor.PlaB
set_option linter.unusedVariables false
open Go.RowKit
open RecN RecC RetN RetC RetR DbN DbA MdN MdC MdG PgN PgC CalR AnsC
theorem dm_kept {base X : Nat} {m : Mo} {ar av : Option Addr} {cr cv : Nat} {W W' : World} (h : Dm base X m ar cr av cv W) (hs : W.heap.size ≤ W'.heap.size) (hk : ∀ k, Foot X m ar cr av cv k → W'.heap[k]? = W.heap[k]?) : Dm base X m ar cr av cv W' :=
  ⟨(hk _ (.inl rfl)).trans h.head, own_kept h.rows fun k e => hk k (.inr (.inl e)), own_kept h.vrow fun k e => hk k (.inr (.inr e)), h.ok⟩
/-- Both models, new to whom w0 was, apart, beside blocks K as they stood in w1. -/
def B2 (base x X : Nat) (m m' : Mo) (w0 : World) (K : Nat → Prop) (w1 w : World) : Prop :=
  ∃ A ar cr av cv, A.x = x ∧ Pg base A m w ∧ Dm base X m' ar cr av cv w ∧ (∀ k, A.foot k → w0.heap.size ≤ k) ∧ (∀ k, Foot X m' ar cr av cv k → w0.heap.size ≤ k) ∧ (∀ k, A.foot k → ¬ Foot X m' ar cr av cv k) ∧ (∀ k, K k → ¬ A.foot k ∧ ¬ Foot X m' ar cr av cv k ∧ k < w.heap.size ∧ w.heap[k]? = w1.heap[k]?) ∧ Below w0.heap.size w0 w
section
variable {base x X : Nat} {m m' : Mo} {w0 w1 w W : World} {K K' : Nat → Prop}
theorem B2.bel (h : B2 base x X m m' w0 K w1 w) : Below w0.heap.size w0 w := by obtain ⟨_, _, _, _, _, _, _, _, _, _, _, _, h⟩ := h; exact h
theorem B2.at_ (h : B2 base x X m m' w0 K w1 w) {k : Nat} (hk : K k) {ob : Obj} (hw : w1.heap[k]? = some ob) : w.heap[k]? = some ob := by obtain ⟨_, _, _, _, _, _, _, _, _, _, _, h, _⟩ := h; exact (h k hk).2.2.2.trans hw
theorem B2.step (h : B2 base x X m m' w0 K w1 w) (hb : Below w.heap.size w W) : B2 base x X m m' w0 K w1 W := by
  obtain ⟨A, ar, cr, av, cv, h0, h1, h2, h3, h4, h5, h6, h7⟩ := h
  exact ⟨A, ar, cr, av, cv, h0, h1.step hb, h2.step hb, h3, h4, h5,
    fun k hk => ⟨(h6 k hk).1, (h6 k hk).2.1, Nat.lt_of_lt_of_le (h6 k hk).2.2.1 hb.size, (hb.block k (h6 k hk).2.2.1).trans (h6 k hk).2.2.2⟩, h7.trans (hb.mono h7.size)⟩
/-- New blocks may be among those that stand. -/
theorem B2.more (h : B2 base x X m m' w0 K w1 w) (hb : Below w.heap.size w W) (hk : ∀ k, K' k → K k ∨ (w.heap.size ≤ k ∧ k < W.heap.size)) : B2 base x X m m' w0 K' W W := by
  obtain ⟨A, ar, cr, av, cv, h0, h1, h2, h3, h4, h5, h6, h7⟩ := h
  refine ⟨A, ar, cr, av, cv, h0, h1.step hb, h2.step hb, h3, h4, h5, fun k hk' => ?_, h7.trans (hb.mono h7.size)⟩
  rcases hk k hk' with q | ⟨q1, q2⟩
  · exact ⟨(h6 k q).1, (h6 k q).2.1, Nat.lt_of_lt_of_le (h6 k q).2.2.1 hb.size, rfl⟩
  · exact ⟨fun hf => by have := h1.lt hf; omega, fun hf => by have := h2.foot hf; omega, q2, rfl⟩
/-- Without blocks beside them. -/
theorem B2.bare {w2 : World} (h : B2 base x X m m' w0 K w1 w) : B2 base x X m m' w0 (fun _ => False) w2 w := by
  obtain ⟨A, ar, cr, av, cv, h0, h1, h2, h3, h4, h5, h6, h7⟩ := h
  exact ⟨A, ar, cr, av, cv, h0, h1, h2, h3, h4, h5, fun k hk => hk.elim, h7⟩
/-- The program's turn. -/
theorem B2.doesP (h : B2 base x X m m' w0 K w1 w) (hb : base ≤ w0.heap.size) (c : Cl) (pk : Option Addr) (nk ck : Nat) :
    Calls Tryz.prog 12 #[.pointer (some ⟨x, 0, none⟩), .agg #[.int .i64 c.k, .int .i64 c.lb, .int .i64 c.ep, .int .i64 c.tm, .string ⟨c.da.toArray⟩, .string ⟨c.nm.toArray⟩, .slice pk nk ck]] w fun v w' => v = .returned (.agg (anA (doA m c))) ∧ B2 base x X (doM m c) m' w0 K w1 w' := by
  obtain ⟨A, ar, cr, av, cv, h0, h1, h2, h3, h4, h5, h6, h7⟩ := h
  subst h0
  refine (PgD.Do h1 c pk nk ck).mono ?_
  rintro v w' ⟨rfl, ⟨A', q0, q1, q2⟩, e1, e2, e3, e4, e5⟩
  have hf := MdP.Frame.below (F := A.foot) (w0 := w0) ⟨e1, e2, e3, e4, e5⟩ h7 h3
  refine ⟨rfl, A', ar, cr, av, cv, q0, q1, dm_kept h2 e4 (fun k hk => e5 k (h2.foot hk) (fun q => h5 k q hk)), fun k hk => ?_, h4, fun k hk hf => ?_, fun k hk => ⟨fun hf => ?_, (h6 k hk).2.1, Nat.lt_of_lt_of_le (h6 k hk).2.2.1 e4, (e5 k (h6 k hk).2.2.1 (h6 k hk).1).trans (h6 k hk).2.2.2⟩, hf⟩
  · rcases q2 k hk with q | q
    · exact h3 k q
    · exact Nat.le_trans h7.size q
  · rcases q2 k hk with q | q
    · exact h5 k q hf
    · have := h2.foot hf; omega
  · rcases q2 k hf with q | q
    · exact (h6 k hk).1 q
    · have := (h6 k hk).2.2.1; omega
/-- The document's turn. -/
theorem B2.doesD (h : B2 base x X m m' w0 K w1 w) (hb : base ≤ w0.heap.size) (c : Cl) (pk : Option Addr) (nk ck : Nat) :
    Calls Tryz.prog 13 #[.pointer (some ⟨X, 0, none⟩), .agg #[.int .i64 c.k, .int .i64 c.lb, .int .i64 c.ep, .int .i64 c.tm, .string ⟨c.da.toArray⟩, .string ⟨c.nm.toArray⟩, .slice pk nk ck]] w fun v w' => v = .returned (.agg (anA (doA m' c))) ∧ B2 base x X m (doM m' c) w0 K w1 w' := by
  obtain ⟨A, ar, cr, av, cv, h0, h1, h2, h3, h4, h5, h6, h7⟩ := h
  refine (MdK.Do h2 (Nat.le_trans hb h7.size) c pk nk ck).mono ?_
  rintro v w' ⟨rfl, ar', cr', av', cv', q1, q2, e1, e2, e3, e4, e5⟩
  have hf := MdP.Frame.below (F := Foot X m' ar cr av cv) (w0 := w0) ⟨e1, e2, e3, e4, e5⟩ h7 h4
  refine ⟨rfl, A, ar', cr', av', cv', h0, h1.kept e4 (fun k hk => e5 k (h1.lt hk) (fun q => h5 k hk q)) (fun k hk => e5 k (Nat.lt_of_lt_of_le hk h1.size) (fun q => by have := h4 k q; omega)), q1, h3, fun k hk => ?_, fun k hk hf => ?_, fun k hk => ⟨(h6 k hk).1, fun hf => ?_, Nat.lt_of_lt_of_le (h6 k hk).2.2.1 e4, (e5 k (h6 k hk).2.2.1 (h6 k hk).2.1).trans (h6 k hk).2.2.2⟩, hf⟩
  · rcases q2 k hk with q | q
    · exact h4 k q
    · exact Nat.le_trans h7.size q
  · rcases q2 k hf with q | q
    · exact h5 k hk q
    · have := h1.lt hk; omega
  · rcases q2 k hf with q | q
    · exact (h6 k hk).2.1 q
    · have := (h6 k hk).2.2.1; omega
/-- The law's own look at both. -/
theorem B2.same (h : B2 base x X m m w0 K w1 w) (ep lba : Int) (hw : Wf ep) :
    Calls Tryz.prog 14 #[.pointer (some ⟨x, 0, none⟩), .pointer (some ⟨X, 0, none⟩), .int .i64 ep, .int .i64 lba] w fun v w' => v = .returned (.bool true) ∧ B2 base x X m m w0 K w1 w' := by
  have hm := h
  obtain ⟨A, ar, cr, av, cv, h0, h1, h2, _⟩ := h
  subst h0
  exact (PlaS.same h1 h2 ep lba hw).mono (fun v w' ⟨e, hb⟩ => ⟨e, hm.step hb⟩)
end
/-- Two new models. -/
theorem b2_new {base X : Nat} {A : Pm} {m : Mo} {w0 w1 w2 : World} (hp : Pg base A m w1) (hA : ∀ k, A.foot k → w0.heap.size ≤ k) (hX : w1.heap.size ≤ X) (hd : Dm base X m none 0 none 0 w2) (h1 : Below w0.heap.size w0 w1) (h2 : Below w1.heap.size w1 w2) : B2 base A.x X m m w0 (fun _ => False) w0 w2 := by
  have hf : ∀ k, Foot X m none 0 none 0 k → k = X := fun k hk => by
    rcases hk with h | h | h
    · exact h
    · cases h
    · cases h
  exact ⟨A, none, 0, none, 0, rfl, hp.step h2, hd, hA, fun k hk => by rw [hf k hk]; exact Nat.le_trans h1.size hX, fun k hk h => by have := hp.lt hk; have := hf k h; omega, fun k hk => hk.elim, h1.trans (h2.mono h1.size)⟩
end Go.Proofs.YtopnodkdpehdoaaGreatDoor.PlaB
