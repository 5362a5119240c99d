/- JouY JouZ: one behind the other. -/
import Derived.Test.YtoilcieineejiaaGreatDoorLJoc
import Derived.Deep.MidRow
/- The program's journal: a superblock's step is made; the steps of a call, and whether it broke: the walks of their texts. No conditions but those that each lemma names. -/
namespace Go.Proofs.YtoilcieineejiaaGreatDoor.JouY
set_option linter.unusedVariables false
open Go.RowKit
open DkN DkM JouN JouP JouQ JouR JouS JouC JouW JouX
open SupP (Gl)
open SupC (infoS one7)
/-- What writesSuper leaves. -/
def GaveSu (b : Nat) (s : SupN.Sb) (w : World) (e : Ending) (w' : World) : Prop :=
  ∃ x y z, e = .returned (.func (.func 86) #[] #[.pointer (some ⟨x, 0, none⟩), .pointer (some ⟨y, 0, none⟩), .pointer (some ⟨z, 0, none⟩)]) ∧ SuAt w' b s x y z ∧ Below w.heap.size w w'
set_option maxRecDepth 100000 in
theorem writesSuper (b : Nat) (s : SupN.Sb) (w : World) (hg : Gl w) (hm : SupN.may s) :
    Calls Tryz.prog 44 #[.pointer (some ⟨b, 0, none⟩), .agg #[.int .i64 s.g, .int .i64 s.t, .int .i64 s.e, .int .i64 s.k, .int .i64 s.b, .int .i64 s.l, .int .i64 s.f]] w (GaveSu b s w) := by
  have HP := Lib.hid (fun W h => SupP.Put s.g s.t s.e s.k s.b s.l s.f W h)
  rw [show SupN.put_ ⟨s.g, s.t, s.e, s.k, s.b, s.l, s.f⟩ = (SupN.blk s, 0) from SupN.put_yes hm] at HP
  obtain ⟨W1, hW1⟩ : ∃ W1, W1 = (w.alloc (.cells #[.pointer (some ⟨b, 0, none⟩)] 26)).alloc (.cells #[.int .i64 s.g, .int .i64 s.t, .int .i64 s.e, .int .i64 s.k, .int .i64 s.b, .int .i64 s.l, .int .i64 s.f] 53) := ⟨_, rfl⟩
  have B1 : Hid (Below w.heap.size w W1) := Lib.hid (by rw [hW1]; exact (below_new w _).alloc (by simp) _)
  have X1 : Hid (W1.heap[w.heap.size]? = some (.cells #[.pointer (some ⟨b, 0, none⟩)] 26 (0, 0))) := Lib.hid (by rw [hW1]; exact heap_alloc2_old w _ _)
  have Y1 : Hid (W1.heap[w.heap.size + 1]? = some (.cells #[.int .i64 s.g, .int .i64 s.t, .int .i64 s.e, .int .i64 s.k, .int .i64 s.b, .int .i64 s.l, .int .i64 s.f] 53 (0, 0))) := Lib.hid (by rw [hW1]; exact heap_alloc2_new w _ _)
  have G1 := Lib.hid (hg.step B1.out)
  have k0 := blk_cell (i := 0) Y1.out rfl
  have k1 := blk_cell (i := 1) Y1.out rfl
  have k2 := blk_cell (i := 2) Y1.out rfl
  have k3 := blk_cell (i := 3) Y1.out rfl
  have k4 := blk_cell (i := 4) Y1.out rfl
  have k5 := blk_cell (i := 5) Y1.out rfl
  have k6 := blk_cell (i := 6) Y1.out rfl
  have hmf := makes
  clear hg hm
  go_enter Tryz.func44, Tryz.ntmps44
  go_upto_region 1 with (fail)
  rw [← hW1]
  clear hW1
  go_upto_region 2 with (go_at_call 85; refine (HP.out _ G1.out).mono ?_; rintro e w2 ⟨rfl, hb2⟩; have B2 := Lib.hid hb2; clear hb2)
  clear k0 k1 k2 k3 k4 k5 k6
  go_wp2_with fail
  go_ret
  have b3 := below_new w2 (.cells #[.string ⟨(SupN.blk s).toArray⟩] 9)
  have b23 := B2.out.trans (b3.mono B2.out.size)
  exact ⟨_, _, _, rfl, ⟨(b23.block _ (lt_of_some X1.out)).trans X1.out, (b23.block _ (lt_of_some Y1.out)).trans Y1.out, heap_alloc_new w2 _⟩, B1.out.trans (b23.mono B1.out.size)⟩
/-- The journal's disk and superblock, and whether it broke. -/
theorem rj_brk {w0 : World} {P S b : Nat} {bv cv0 : Value} {br br' : Bool} {W : World} {x : Dk × SupN.Sb} (h : RJ w0 P S b bv cv0 br W x) : RJ w0 P S b bv cv0 br' (W.setCell ⟨P, 9, none⟩ (.bool br')) x := by
  obtain ⟨cv, h1, n1⟩ := h.dk
  have hP : ¬ Foot b bv cv P := not_foot h1 h.po (by decide) (by decide) (.inl (by decide))
  refine ⟨⟨cv, h1.kept fun k hk => set_cell_block (fun e => hP (e ▸ hk)), n1⟩, ?_, h.kept.set_ (.inl rfl) _ _⟩
  exact (blk_set h.po).trans rfl
set_option maxRecDepth 100000 in
theorem do_ {P S b : Nat} {bv cv : Value} {br : Bool} {D : Dk} {s : SupN.Sb} {w : World} (h : Has false w b bv cv D) (hp : w.heap[P]? = some (.cells (jc S b s br) 100 (0, 0)))
    (a : Option Addr) (n c : Nat) (vs : List Value) (fs : List (Dk × SupN.Sb → Nat × (Dk × SupN.Sb))) (hn : fs.length = n) (hmax : n ≤ 100000) (hl : Lies (RJ w P S b bv cv br) a vs) (hs : Stps (RJ w P S b bv cv br) vs fs) :
    Calls Tryz.prog 63 #[.pointer (some ⟨P, 0, none⟩), .slice a n c] w fun e w' => e = .returned (.int .i64 ((runS (D, s) fs).1 : Nat)) ∧ RJ w P S b bv cv (brk (runS (D, s) fs).1) w' (runS (D, s) fs).2 := by
  have HT := Lib.hid (inTurn (RJ w P S b bv cv br) a n c vs fs w (D, s) (rj_new h hp) hn hmax hl hs)
  clear h hp hn hmax hl hs
  generalize runS (D, s) fs = r at *
  obtain ⟨q, z⟩ := r
  dsimp only at HT ⊢
  have hq : ((q : Int) != 0) = brk q := by unfold brk; by_cases h : q = 0 <;> simp [h]
  generalize brk q = br' at *
  go_enter Tryz.func63, Tryz.ntmps63
  go_upto_region 2 with (go_at_call 38; refine HT.out.mono ?_; rintro e w2 ⟨rfl, hR2⟩; have R2 := Lib.hid hR2; clear hR2)
  have c9 : w2.cell? ⟨P, 9, none⟩ = some (.bool br) := blk_cell R2.out.po rfl
  have f9 : w2.frozen? ⟨P, 9, none⟩ = false := blk_free R2.out.po
  go_wp2_with fail
  go_ret
  exact ⟨rfl, rj_brk R2.out⟩
set_option maxRecDepth 100000 in
theorem numbered {P S b : Nat} {bv cv : Value} {br : Bool} {D : Dk} {s : SupN.Sb} {w : World} (h : Has false w b bv cv D) (hp : w.heap[P]? = some (.cells (jc S b s br) 100 (0, 0))) (i : Nat)
    (a : Option Addr) (n c : Nat) (vs : List Value) (fs : List (Dk × SupN.Sb → Nat × (Dk × SupN.Sb))) (hn : fs.length = n) (hmax : n ≤ 100000) (hl : Lies (RJ w P S b bv cv br) a vs) (hs : Stps (RJ w P S b bv cv br) vs fs) :
    Calls Tryz.prog 96 #[.pointer (some ⟨P, 0, none⟩), .int .i64 i, .slice a n c] w fun e w' => e = .returned (.tuple #[.int .i64 (tell (runS (D, s) fs).1 i : Nat), .int .i64 ((runS (D, s) fs).1 : Nat)]) ∧ RJ w P S b bv cv (brk (runS (D, s) fs).1) w' (runS (D, s) fs).2 := by
  have HT := Lib.hid (do_ h hp a n c vs fs hn hmax hl hs)
  clear h hp hn hmax hl hs
  generalize runS (D, s) fs = r at *
  obtain ⟨q, z⟩ := r
  dsimp only at HT ⊢
  by_cases h0 : q = 0
  · subst h0
    rw [tell_0]
    go_enter Tryz.func96, Tryz.ntmps96
    go_wp2_with (go_at_call 63; refine HT.out.mono ?_; rintro e w2 ⟨rfl, hR2⟩; have R2 := Lib.hid hR2; clear hR2)
    go_ret2
    exact ⟨rfl, R2.out⟩
  · have hq : ((q : Int) != 0) = true := by rw [bne_iff_ne]; omega
    rw [show tell q i = 0 from if_neg h0]
    go_enter Tryz.func96, Tryz.ntmps96
    go_wp2_with (go_at_call 63; refine HT.out.mono ?_; rintro e w2 ⟨rfl, hR2⟩; have R2 := Lib.hid hR2; clear hR2)
    go_ret2
    exact ⟨rfl, R2.out⟩
set_option maxRecDepth 100000 in
theorem stp_su {σ : Type} {L : Lens σ} {R : World → σ → Prop} {b : Nat} {bv : Value} (fr : Fr L b bv R) {s : SupN.Sb} (hm : SupN.may s) {x y z : Nat} (hd : Stay R x (.cells #[.pointer (some ⟨b, 0, none⟩)] 26 (0, 0))) (hu : Stay R y (.cells #[.int .i64 s.g, .int .i64 s.t, .int .i64 s.e, .int .i64 s.k, .int .i64 s.b, .int .i64 s.l, .int .i64 s.f] 53 (0, 0))) (ht : Stay R z (.cells #[.string ⟨(SupN.blk s).toArray⟩] 9 (0, 0))) :
    Stp R (L.act (superL s)) (.func (.func 86) #[] #[.pointer (some ⟨x, 0, none⟩), .pointer (some ⟨y, 0, none⟩), .pointer (some ⟨z, 0, none⟩)]) := by
  refine ⟨_, _, _, rfl, fun _ _ => rfl, fun W q hR => ?_⟩
  obtain ⟨cv, hh⟩ := fr.has W q hR
  refine Calls.mono (writesSuper1 hh hm ⟨hd W q hR, hu W q hR, ht W q hR⟩) ?_
  rintro e W' ⟨rfl, hD⟩
  exact ⟨rfl, fr.did W q cv _ W' hR hh hD⟩
/-- A step that commits: its two boxes. -/
structure CoAt (W : World) (P : Nat) (s : SupN.Sb) (x y : Nat) : Prop where
  j : W.heap[x]? = some (.cells #[.pointer (some ⟨P, 0, none⟩)] 62 (0, 0))
  u : W.heap[y]? = some (.cells #[.int .i64 s.g, .int .i64 s.t, .int .i64 s.e, .int .i64 s.k, .int .i64 s.b, .int .i64 s.l, .int .i64 s.f] 53 (0, 0))
theorem CoAt.step {W W' : World} {P : Nat} {s : SupN.Sb} {x y : Nat} (h : CoAt W P s x y) (hb : Below W.heap.size W W') : CoAt W' P s x y :=
  ⟨(hb.block _ (lt_of_some h.j)).trans h.j, (hb.block _ (lt_of_some h.u)).trans h.u⟩
/-- What commits leaves. -/
def GaveCo (P : Nat) (s : SupN.Sb) (w : World) (e : Ending) (w' : World) : Prop :=
  ∃ x y, e = .returned (.func (.func 130) #[] #[.pointer (some ⟨x, 0, none⟩), .pointer (some ⟨y, 0, none⟩)]) ∧ CoAt w' P s x y ∧ Below w.heap.size w w'
theorem commits (P : Nat) (s : SupN.Sb) (w : World) :
    Calls Tryz.prog 97 #[.pointer (some ⟨P, 0, none⟩), .agg #[.int .i64 s.g, .int .i64 s.t, .int .i64 s.e, .int .i64 s.k, .int .i64 s.b, .int .i64 s.l, .int .i64 s.f]] w (GaveCo P s w) := by
  have hmf := makes
  go_enter Tryz.func97, Tryz.ntmps97
  go_wp2_with fail
  go_ret
  exact ⟨_, _, rfl, ⟨heap_alloc2_old w _ _, heap_alloc2_new w _ _⟩, (below_new w _).alloc (by simp) _⟩
/-- Steps of a disk alone, called where a journal lies. -/
theorem su_row {w : World} {b : Nat} {bv cv : Value} {D : Dk} (h : Has false w b bv cv D) {s : SupN.Sb} (hm : SupN.may s) {x y z : Nat} (hs : SuAt w b s x y z) :
    Calls Tryz.prog 38 #[.slice (some ⟨w.heap.size, 0, none⟩) 1 1] (w.alloc (.cells #[.func (.func 86) #[] #[.pointer (some ⟨x, 0, none⟩), .pointer (some ⟨y, 0, none⟩), .pointer (some ⟨z, 0, none⟩)]] 88)) fun e w' => e = .returned (.int .i64 ((run D (superL s)).1 : Nat)) ∧ Did false w b bv cv (run D (superL s)).2 w' := by
  refine (turned h [.func (.func 86) #[] #[.pointer (some ⟨x, 0, none⟩), .pointer (some ⟨y, 0, none⟩), .pointer (some ⟨z, 0, none⟩)]] [superL s] (by show 1 ≤ 100000; omega) (.cons ?_ .nil) 1 rfl).mono ?_
  · have h3 := h.step (below_new w (.cells #[.func (.func 86) #[] #[.pointer (some ⟨x, 0, none⟩), .pointer (some ⟨y, 0, none⟩), .pointer (some ⟨z, 0, none⟩)]] 88))
    have hs3 := hs.step (below_new w (.cells #[.func (.func 86) #[] #[.pointer (some ⟨x, 0, none⟩), .pointer (some ⟨y, 0, none⟩), .pointer (some ⟨z, 0, none⟩)]] 88))
    exact stp_su fr_RD hm (stay_RD h3 hs3.d (by decide) (by decide) (.inl (by decide))) (stay_RD h3 hs3.u (by decide) (by decide) (.inl (by decide))) (stay_RD h3 hs3.t (by decide) (by decide) (.inr (show 1 < 8 by decide)))
  · rintro e w' ⟨rfl, hD⟩
    exact ⟨by rw [List.flatten_cons, List.flatten_nil, List.append_nil], by rw [List.flatten_cons, List.flatten_nil, List.append_nil] at hD; exact hD⟩
end Go.Proofs.YtoilcieineejiaaGreatDoor.JouY
/- The program's journal: the step that commits; the next superblock: the walks of their texts. No conditions but those that each lemma names. -/
namespace Go.Proofs.YtoilcieineejiaaGreatDoor.JouZ
set_option linter.unusedVariables false
open Go.RowKit
open DkN DkM JouN JouP JouQ JouR JouS JouC JouW JouX JouY
open SupP (Gl)
open SupC (infoS one7)
open SupE (results_cell_tmp_row)
open GeoS (kept_new has_new)
def putAt (cs : Array Value) : Nat → List Value → Array Value
  | _, [] => cs
  | o, v :: r => putAt (cs.setIfInBounds o v) (o + 1) r
theorem heap_setCells {P : Nat} {t : TypeId} {f : Nat × Nat} (vs : List Value) (o : Nat) (cs : Array Value) {W : World} (h : W.heap[P]? = some (.cells cs t f)) : (W.setCells P o vs).heap[P]? = some (.cells (putAt cs o vs) t f) := by
  induction vs generalizing o cs W with
  | nil => exact h
  | cons v r ih => exact ih (o + 1) _ (blk_set h)
theorem kept_setCells (P : Nat) (vs : List Value) (o : Nat) (W : World) : Kept (fun k => k = P) W (W.setCells P o vs) := by
  induction vs generalizing o W with
  | nil => exact .refl _ _
  | cons v r ih => exact ((Kept.refl (fun k => k = P) W).set_ (b := P) rfl o v).trans (ih (o + 1) _)
/-- A superblock stored into the journal's block. -/
theorem wpList_store_sup {ops : Array Oper} {rest : List Oper} {op : Oper} {a : Act} {W : World} {Q : Exit → Act → World → Prop} (hgd : op.guard = none) (x y : Operand) (ho : op.op = .store 53 x y)
    (P S b : Nat) (s0 s : SupN.Sb) (br : Bool) (hx : a.eval x = .pointer (some ⟨P, 2, none⟩)) (hy : a.eval y = .agg #[.int .i64 s.g, .int .i64 s.t, .int .i64 s.e, .int .i64 s.k, .int .i64 s.b, .int .i64 s.l, .int .i64 s.f]) (hp : W.heap[P]? = some (.cells (jc S b s0 br) 100 (0, 0)))
    (h : ∀ W', W'.heap[P]? = some (.cells (jc S b s br) 100 (0, 0)) → Kept (fun k => k = P) W W' → wpList Tryz.prog ops Q rest (a.put op.dst undef) W') : wpList Tryz.prog ops Q (op :: rest) a W := by
  have H1 : (W.setCells P 2 (#[.int .i64 s.g, .int .i64 s.t, .int .i64 s.e, .int .i64 s.k, .int .i64 s.b, .int .i64 s.l, .int .i64 s.f] : Array Value).toList).heap[P]? = some (.cells (jc S b s br) 100 (0, 0)) := by
    have e : putAt (jc S b s0 br) 2 [.int .i64 s.g, .int .i64 s.t, .int .i64 s.e, .int .i64 s.k, .int .i64 s.b, .int .i64 s.l, .int .i64 s.f] = jc S b s br := by simp [putAt, jc]
    have e2 := heap_setCells [.int .i64 s.g, .int .i64 s.t, .int .i64 s.e, .int .i64 s.k, .int .i64 s.b, .int .i64 s.l, .int .i64 s.f] 2 _ hp
    rw [e] at e2
    exact e2
  have H2 := kept_setCells P (#[.int .i64 s.g, .int .i64 s.t, .int .i64 s.e, .int .i64 s.k, .int .i64 s.b, .int .i64 s.l, .int .i64 s.f] : Array Value).toList 2 W
  refine wpList_store_mid hgd 53 x y ho P 2 #[.int .i64 s.g, .int .i64 s.t, .int .i64 s.e, .int .i64 s.k, .int .i64 s.b, .int .i64 s.l, .int .i64 s.f] hx hy ?_ infoS (one7 _ _ _ _ _ _ _) (h _ H1 H2)
  · intro j hj
    refine ⟨?_, blk_free hp⟩
    have hj' : j < 7 := hj
    match j, hj' with
    | 0, _ => rw [blk_cell (i := 2) hp rfl]; rfl
    | 1, _ => rw [blk_cell (i := 3) hp rfl]; rfl
    | 2, _ => rw [blk_cell (i := 4) hp rfl]; rfl
    | 3, _ => rw [blk_cell (i := 5) hp rfl]; rfl
    | 4, _ => rw [blk_cell (i := 6) hp rfl]; rfl
    | 5, _ => rw [blk_cell (i := 7) hp rfl]; rfl
    | 6, _ => rw [blk_cell (i := 8) hp rfl]; rfl
/-- What the step that commits does. -/
def comS (s : SupN.Sb) (q : Dk × SupN.Sb) : Nat × (Dk × SupN.Sb) := ((run q.1 (superL s)).1, (run q.1 (superL s)).2, if (run q.1 (superL s)).1 = 0 then s else q.2)
theorem rj_trans {w0 W W' : World} {P S b : Nat} {bv cv0 cv : Value} {br : Bool} {q q' : Dk × SupN.Sb} (h : RJ w0 P S b bv cv0 br W q) (hc : Has false W b bv cv q.1) (k : RJ W P S b bv cv br W' q') : RJ w0 P S b bv cv0 br W' q' := by
  obtain ⟨c, h1, n1⟩ := h.dk
  obtain rfl : cv = c := Option.some.inj (hc.c1.symm.trans h1.c1)
  obtain ⟨c2, h2, n2⟩ := k.dk
  have hle := h.kept.size
  refine ⟨⟨c2, h2, fun i hi => ?_⟩, k.po, h.kept.trans' k.kept fun i hi => ?_⟩
  · rcases n2 i hi with z | z
    · exact n1 i z
    · exact .inr (by omega)
  · rcases hi with z | z | z | z
    · exact .inl (.inl z)
    · exact .inl (.inr (.inl z))
    · exact .inl (.inr (.inr (.inl z)))
    · rcases n1 i z with u | u
      · exact .inl (.inr (.inr (.inr u)))
      · exact .inr u
set_option maxRecDepth 100000 in
set_option maxHeartbeats 1000000 in
theorem commits1 {P S b : Nat} {bv cv : Value} {br : Bool} {D : Dk} {s0 s : SupN.Sb} {w : World} (h : Has false w b bv cv D) (hp : Pj P S b s0 br w) (hm : SupN.may s) {x y : Nat} (hs : CoAt w P s x y) :
    Calls Tryz.prog 130 #[.pointer (some ⟨x, 0, none⟩), .pointer (some ⟨y, 0, none⟩)] w fun e w' => e = .returned (.int .i64 ((comS s (D, s0)).1 : Nat)) ∧ RJ w P S b bv cv br w' (comS s (D, s0)).2 := by
  have HW := Lib.hid (fun W hg => writesSuper b s W hg hm)
  have HT : Hid (∀ (w2 : World) (x2 y2 z2 : Nat), Below w.heap.size w.drew w2 → SuAt w2 b s x2 y2 z2 →
      Calls Tryz.prog 38 #[.slice (some ⟨w2.heap.size, 0, none⟩) 1 1] (w2.alloc (.cells #[.func (.func 86) #[] #[.pointer (some ⟨x2, 0, none⟩), .pointer (some ⟨y2, 0, none⟩), .pointer (some ⟨z2, 0, none⟩)]] 88)) fun e w' => e = .returned (.int .i64 ((run D (superL s)).1 : Nat)) ∧ Did false w b bv cv (run D (superL s)).2 w') := Lib.hid (by
    intro w2 x2 y2 z2 hb2 hw2
    have hb2' : Below w.heap.size w w2 := (Below.refl _ _).drew.trans hb2
    refine (su_row (h.step hb2') hm hw2).mono ?_
    rintro e w' ⟨rfl, hD⟩
    exact ⟨rfl, Did.then_ (h.step hb2') (fun _ => .inl) (.of_below hb2') hD⟩)
  have c0 : w.cell? ⟨x, 0, none⟩ = some (.pointer (some ⟨P, 0, none⟩)) := blk_cell hs.j rfl
  have c1 : w.cell? ⟨P, 1, none⟩ = some (.pointer (some ⟨b, 0, none⟩)) := blk_cell hp.po rfl
  have HC : Hid (∀ W : World, CoAt W P s x y → W.heap[P]? = some (.cells (jc S b s0 br) 100 (0, 0)) → W.cell? ⟨x, 0, none⟩ = some (.pointer (some ⟨P, 0, none⟩)) ∧ W.cell? ⟨P, 1, none⟩ = some (.pointer (some ⟨b, 0, none⟩)) ∧
      W.cell? ⟨y, 0, none⟩ = some (.int .i64 s.g) ∧ W.cell? ⟨y, 1, none⟩ = some (.int .i64 s.t) ∧ W.cell? ⟨y, 2, none⟩ = some (.int .i64 s.e) ∧ W.cell? ⟨y, 3, none⟩ = some (.int .i64 s.k) ∧ W.cell? ⟨y, 4, none⟩ = some (.int .i64 s.b) ∧ W.cell? ⟨y, 5, none⟩ = some (.int .i64 s.l) ∧ W.cell? ⟨y, 6, none⟩ = some (.int .i64 s.f)) := Lib.hid (fun W h1 h2 =>
    ⟨blk_cell h1.j rfl, blk_cell h2 rfl, blk_cell h1.u rfl, blk_cell h1.u rfl, blk_cell h1.u rfl, blk_cell h1.u rfl, blk_cell h1.u rfl, blk_cell h1.u rfl, blk_cell h1.u rfl⟩)
  have HD : Hid (∀ (D' : Dk) (W : World), Did false w b bv cv D' W → CoAt W P s x y ∧ W.heap[P]? = some (.cells (jc S b s0 br) 100 (0, 0))) := Lib.hid (fun D' W hd =>
    ⟨⟨did_other h hd hs.j (by decide) (by decide) (.inl (by decide)), did_other h hd hs.u (by decide) (by decide) (.inl (by decide))⟩, did_other h hd hp.po (by decide) (by decide) (.inl (by decide))⟩)
  have HD0 : Hid (∀ (D' : Dk) (W : World), Did false w b bv cv D' W → W.heap[x]? = some (.cells #[.pointer (some ⟨P, 0, none⟩)] 62 (0, 0)) ∧ W.heap[y]? = some (.cells #[.int .i64 s.g, .int .i64 s.t, .int .i64 s.e, .int .i64 s.k, .int .i64 s.b, .int .i64 s.l, .int .i64 s.f] 53 (0, 0)) ∧ W.heap[P]? = some (.cells (jc S b s0 br) 100 (0, 0))) := Lib.hid (fun D' W hd => ⟨(HD.out D' W hd).1.j, (HD.out D' W hd).1.u, (HD.out D' W hd).2⟩)
  have HR : Hid (∀ (D' : Dk) (W : World), Did false w b bv cv D' W → RJ w P S b bv cv br W (D', s0)) := Lib.hid (fun D' W hd => by
    have hk := did_other h hd hp.po (by decide) (by decide) (.inl (by decide))
    obtain ⟨c, h1, n1, k1⟩ := hd
    exact ⟨⟨c, h1, n1⟩, hk, ⟨k1.os, k1.tape, k1.output, k1.size, fun k hk hn => k1.block k hk (fun e => hn (.inr e))⟩⟩)
  have HP := Lib.hid hp
  have HS := Lib.hid hs
  have hS := HC.out _ (hs.step (Below.refl _ _).drew) hp.drew.po
  have HK : Hid (∀ (W : World) (o : Obj), (W.cell? ⟨x, 0, none⟩ = some (.pointer (some ⟨P, 0, none⟩)) ∧ W.cell? ⟨P, 1, none⟩ = some (.pointer (some ⟨b, 0, none⟩)) ∧
      W.cell? ⟨y, 0, none⟩ = some (.int .i64 s.g) ∧ W.cell? ⟨y, 1, none⟩ = some (.int .i64 s.t) ∧ W.cell? ⟨y, 2, none⟩ = some (.int .i64 s.e) ∧ W.cell? ⟨y, 3, none⟩ = some (.int .i64 s.k) ∧ W.cell? ⟨y, 4, none⟩ = some (.int .i64 s.b) ∧ W.cell? ⟨y, 5, none⟩ = some (.int .i64 s.l) ∧ W.cell? ⟨y, 6, none⟩ = some (.int .i64 s.f)) → ((fun W : World => W.cell? ⟨x, 0, none⟩ = some (.pointer (some ⟨P, 0, none⟩)) ∧ W.cell? ⟨P, 1, none⟩ = some (.pointer (some ⟨b, 0, none⟩)) ∧
      W.cell? ⟨y, 0, none⟩ = some (.int .i64 s.g) ∧ W.cell? ⟨y, 1, none⟩ = some (.int .i64 s.t) ∧ W.cell? ⟨y, 2, none⟩ = some (.int .i64 s.e) ∧ W.cell? ⟨y, 3, none⟩ = some (.int .i64 s.k) ∧ W.cell? ⟨y, 4, none⟩ = some (.int .i64 s.b) ∧ W.cell? ⟨y, 5, none⟩ = some (.int .i64 s.l) ∧ W.cell? ⟨y, 6, none⟩ = some (.int .i64 s.f)) (W.alloc o))) := Lib.hid (fun W o hh =>
    have st : ∀ {p : Addr} {v : Value}, W.cell? p = some v → (W.alloc o).cell? p = some v := fun hc => ((below_new W o).cell (World.block_lt_of_cell? W _ hc)).trans hc
    ⟨st hh.1, st hh.2.1, st hh.2.2.1, st hh.2.2.2.1, st hh.2.2.2.2.1, st hh.2.2.2.2.2.1, st hh.2.2.2.2.2.2.1, st hh.2.2.2.2.2.2.2.1, st hh.2.2.2.2.2.2.2.2⟩)
  clear h hp hm hs c0 c1
  unfold comS
  dsimp only
  generalize run D (superL s) = r at *
  obtain ⟨q, D'⟩ := r
  dsimp only at HT ⊢
  go_enter Tryz.func130, Tryz.ntmps130
  go_upto_region 1 with (fail)
  go_region_held3 (fun W => W.cell? ⟨x, 0, none⟩ = some (.pointer (some ⟨P, 0, none⟩)) ∧ W.cell? ⟨P, 1, none⟩ = some (.pointer (some ⟨b, 0, none⟩)) ∧
      W.cell? ⟨y, 0, none⟩ = some (.int .i64 s.g) ∧ W.cell? ⟨y, 1, none⟩ = some (.int .i64 s.t) ∧ W.cell? ⟨y, 2, none⟩ = some (.int .i64 s.e) ∧ W.cell? ⟨y, 3, none⟩ = some (.int .i64 s.k) ∧ W.cell? ⟨y, 4, none⟩ = some (.int .i64 s.b) ∧ W.cell? ⟨y, 5, none⟩ = some (.int .i64 s.l) ∧ W.cell? ⟨y, 6, none⟩ = some (.int .i64 s.f))
    (first | exact hS | exact hS1 | exact HK.out _ _ hS1 | exact hS2)
    (first
      | (go_at_call 44; refine (HW.out _ HP.out.drew.gl).mono ?_; rintro e w2 ⟨x2, y2, z2, rfl, hw2, hb2⟩; have hS1 := HC.out _ ((HS.out.step (Below.refl _ _).drew).step hb2) (HP.out.drew.step hb2).po; have B2 := Lib.hid hb2; have W2 := Lib.hid hw2; clear hb2 hw2)
      | (go_at_call 38; refine (HT.out _ _ _ _ B2.out W2.out).mono ?_; rintro e w3 ⟨rfl, hd3⟩; have D3 := Lib.hid hd3; have hS2 := HC.out _ (HD.out _ _ hd3).1 (HD.out _ _ hd3).2; clear hd3))
  clear hS hS1 HW HT HC HD HK
  go_upto_region 2 with (fail)
  have hj := (HD0.out _ _ D3.out).1
  have hu := (HD0.out _ _ D3.out).2.1
  have hp := (HD0.out _ _ D3.out).2.2
  have R3 := Lib.hid (HR.out _ _ D3.out)
  by_cases h0 : q = 0
  · subst h0
    have k0 := blk_cell (i := 0) (u := .pointer (some ⟨P, 0, none⟩)) hj rfl
    have y0 := blk_cell (i := 0) (u := .int .i64 s.g) hu rfl
    have y1 := blk_cell (i := 1) (u := .int .i64 s.t) hu rfl
    have y2 := blk_cell (i := 2) (u := .int .i64 s.e) hu rfl
    have y3 := blk_cell (i := 3) (u := .int .i64 s.k) hu rfl
    have y4 := blk_cell (i := 4) (u := .int .i64 s.b) hu rfl
    have y5 := blk_cell (i := 5) (u := .int .i64 s.l) hu rfl
    have y6 := blk_cell (i := 6) (u := .int .i64 s.f) hu rfl
    have HP3 := Lib.hid hp
    clear hS2 hj hu hp HP HS HR D3
    go_upto_region 4 with (refine wpList_store_sup rfl _ _ rfl P S b s0 s br rfl rfl HP3.out ?_; intro w4 hp4 hk4; have P4 := Lib.hid hp4; have K4 := Lib.hid hk4; clear hp4 hk4)
    clear k0 y0 y1 y2 y3 y4 y5 y6
    go_wp2_with fail
    go_ret
    obtain ⟨cv3, h3, n3⟩ := R3.out.dk
    have hP : ¬ Foot b bv cv3 P := not_foot h3 HP3.out (by decide) (by decide) (.inl (by decide))
    refine ⟨rfl, ⟨cv3, h3.kept fun k hk => K4.out.block k (h3.foot_lt k hk) (fun e => hP (e ▸ hk)), n3⟩, ?_, R3.out.kept.trans' K4.out fun k hk => .inl (.inl hk)⟩
    exact P4.out
  · have hq : ((q : Int) == 0) = false := by rw [beq_eq_false_iff_ne]; omega
    clear hS2 hj hu hp HP HS HR D3
    go_wp2_with fail
    go_ret
    exact ⟨rfl, R3.out⟩
end Go.Proofs.YtoilcieineejiaaGreatDoor.JouZ
