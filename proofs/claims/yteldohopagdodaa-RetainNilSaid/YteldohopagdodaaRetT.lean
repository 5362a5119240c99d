/- What a book is that takes a record: the walk of the inner book's take, at any record that is not refused. No conditions but those that each lemma names. -/
import Derived.Test.YteldohopagdodaaRetM
namespace Go.Proofs.Yteldohopagdodaa.RetT
set_option linter.unusedVariables false
open Go.RowKit Go.Maps
open RecN RecC RetN RetC RetP
/-- All but block M lies as it did: so do the parts of a book that lie elsewhere. -/
theorem In.u_ {A : Pl} {s : St} {W W' : World} (h : In A s W) (hg : W.grownBy W' (some A.u)) {f : Int → Int} (hm : Mi W' A.u f) : In A { s with un := f } W' := by
  have hk := h.ck
  obtain ⟨cs, t, kb, kk⟩ := hk
  have n1 := ne_of h.body (mi_is h.u)
  have n2 := ne_of kb (mi_is h.u)
  have e : ∀ i, i < W.heap.size → i ≠ A.u → W'.heap[i]? = W.heap[i]? := fun i hi hn => hg.block i hi (fun e => hn (Option.some.inj e))
  exact ⟨(e _ h.lt n1).trans h.body, ⟨cs, t, (e _ h.ck.lt n2).trans kb, kk⟩, hm, h.h.block (e _ h.h.lt (Ne.symm h.ne.2.1)), h.g.block (e _ h.g.lt (Ne.symm h.ne.2.2.1)), h.ne⟩
theorem In.h_ {A : Pl} {s : St} {W W' : World} (h : In A s W) (hg : W.grownBy W' (some A.h)) {hs : List (L × Int)} (hm : Mh W' A.h hs) : In A { s with hs := hs } W' := by
  have hk := h.ck
  obtain ⟨cs, t, kb, kk⟩ := hk
  have n1 := ne_of h.body (mh_is h.h)
  have n2 := ne_of kb (mh_is h.h)
  have e : ∀ i, i < W.heap.size → i ≠ A.h → W'.heap[i]? = W.heap[i]? := fun i hi hn => hg.block i hi (fun e => hn (Option.some.inj e))
  exact ⟨(e _ h.lt n1).trans h.body, ⟨cs, t, (e _ h.ck.lt n2).trans kb, kk⟩, h.u.block (e _ h.u.lt h.ne.2.1), hm, h.g.block (e _ h.g.lt (Ne.symm h.ne.2.2.2)), h.ne⟩
theorem In.g_ {A : Pl} {s : St} {W W' : World} (h : In A s W) (hg : W.grownBy W' (some A.g)) {f : Int → Bool} (hm : Mu W' A.g f) : In A { s with gone := f } W' := by
  have hk := h.ck
  obtain ⟨cs, t, kb, kk⟩ := hk
  have n1 := ne_of h.body (mu_is h.g)
  have n2 := ne_of kb (mu_is h.g)
  have e : ∀ i, i < W.heap.size → i ≠ A.g → W'.heap[i]? = W.heap[i]? := fun i hi hn => hg.block i hi (fun e => hn (Option.some.inj e))
  exact ⟨(e _ h.lt n1).trans h.body, ⟨cs, t, (e _ h.ck.lt n2).trans kb, kk⟩, h.u.block (e _ h.u.lt h.ne.2.2.1), h.h.block (e _ h.h.lt h.ne.2.2.2), hm, h.ne⟩
theorem In.now_ {A : Pl} {s : St} {W W' : World} (h : In A s W) {v : Int} (hs : CloC.Set W A.k 0 v W') : In A { s with now := v } W' := by
  have hk := h.ck
  obtain ⟨cs, t, kb, kk⟩ := hk
  have e : ∀ i, i < W.heap.size → i ≠ A.k → W'.heap[i]? = W.heap[i]? := hs.but.block
  exact ⟨(e _ h.lt h.ne.1).trans h.body, hs.ck h.ck, h.u.block (e _ h.u.lt (Ne.symm (ne_of kb (mi_is h.u)))), h.h.block (e _ h.h.lt (Ne.symm (ne_of kb (mh_is h.h)))), h.g.block (e _ h.g.lt (Ne.symm (ne_of kb (mu_is h.g)))), h.ne⟩
theorem In.ep_ {A : Pl} {s : St} {W : World} (h : In A s W) (v : Int) : In A { s with ep := v } (W.setCell ⟨A.c, 2, none⟩ (.int .i64 v)) := by
  have hk := h.ck
  obtain ⟨cs, t, kb, kk⟩ := hk
  have e : ∀ i, i ≠ A.c → (W.setCell ⟨A.c, 2, none⟩ (.int .i64 v)).heap[i]? = W.heap[i]? := fun i hn => Below.heap_setCell _ _ _ _ hn
  exact ⟨blk_set h.body, ⟨cs, t, (e _ (Ne.symm h.ne.1)).trans kb, kk⟩, h.u.block (e _ (Ne.symm (ne_of h.body (mi_is h.u)))), h.h.block (e _ (Ne.symm (ne_of h.body (mh_is h.h)))), h.g.block (e _ (Ne.symm (ne_of h.body (mu_is h.g)))), h.ne⟩
/-- What stands while a book takes a record. -/
structure Wt (A : Pl) (s : St) (r : Rec) (w W : World) : Prop where
  tu : Tu A w W
  k : Bk W w.heap.size r
  i : In A s W
  lt : A.c < w.heap.size ∧ A.k < w.heap.size ∧ A.u < w.heap.size ∧ A.h < w.heap.size ∧ A.g < w.heap.size
theorem wt_new {A : Pl} {s : St} {w : World} (h : In A s w) (r : Rec) : Wt A s r w (w.alloc (.cells #[.int .i64 r.k, .int .i64 r.ep, .int .i64 r.tm, .int .i64 r.ct, .int .i64 r.tg, .int .i64 r.un, .string ⟨r.rt.toArray⟩, .string ⟨r.nm.toArray⟩] 30)) :=
  ⟨Tu.of_below (ws_new w r).bel, (ws_new w r).k, h.step (ws_new w r).bel, h.lt, h.ck.lt, h.u.lt, h.h.lt, h.g.lt⟩
theorem Wt.drew {A : Pl} {s : St} {r : Rec} {w W : World} (h : Wt A s r w W) : Wt A s r w W.drew := ⟨h.tu.trans (Tu.of_below ((Below.refl _ _).drew)), h.k, In.drew h.i, h.lt⟩
theorem Wt.now_ {A : Pl} {s : St} {r : Rec} {w W W' : World} (h : Wt A s r w W) {v : Int} (hs : CloC.Set W A.k 0 v W') : Wt A { s with now := v } r w W' :=
  ⟨h.tu.trans (Tu.of_but hs.but (.inr (.inr (.inl rfl)))), (hs.but.block _ h.k.lt (by have := h.lt; omega)).trans h.k, In.now_ h.i hs, h.lt⟩
theorem kept_box {A : Pl} {s : St} {r : Rec} {w W W' : World} (h : Wt A s r w W) {M : Nat} (hM : M < w.heap.size) (hg : W.grownBy W' (some M)) : Bk W' w.heap.size r :=
  (hg.block _ h.k.lt (fun e => by injection e with e; omega)).trans h.k
theorem Wt.u_ {A : Pl} {s : St} {r : Rec} {w W W' : World} (h : Wt A s r w W) (hg : W.grownBy W' (some A.u)) {f : Int → Int} (hm : Mi W' A.u f) : Wt A { s with un := f } r w W' :=
  ⟨h.tu.trans (Tu.of_grown hg (.inr (.inr (.inr (.inl rfl))))), kept_box h h.lt.2.2.1 hg, In.u_ h.i hg hm, h.lt⟩
theorem Wt.h_ {A : Pl} {s : St} {r : Rec} {w W W' : World} (h : Wt A s r w W) (hg : W.grownBy W' (some A.h)) {hs : List (L × Int)} (hm : Mh W' A.h hs) : Wt A { s with hs := hs } r w W' :=
  ⟨h.tu.trans (Tu.of_grown hg (.inr (.inr (.inr (.inr (.inl rfl)))))), kept_box h h.lt.2.2.2.1 hg, In.h_ h.i hg hm, h.lt⟩
theorem Wt.g_ {A : Pl} {s : St} {r : Rec} {w W W' : World} (h : Wt A s r w W) (hg : W.grownBy W' (some A.g)) {f : Int → Bool} (hm : Mu W' A.g f) : Wt A { s with gone := f } r w W' :=
  ⟨h.tu.trans (Tu.of_grown hg (.inr (.inr (.inr (.inr (.inr rfl)))))), kept_box h h.lt.2.2.2.2 hg, In.g_ h.i hg hm, h.lt⟩
theorem set_but (W : World) (c i : Nat) (v : Value) : CloC.But c W (W.setCell ⟨c, i, none⟩ v) := (CloC.But.of_below (Below.refl _ _)).set_ i v
theorem Wt.ep_ {A : Pl} {s : St} {r : Rec} {w W : World} (h : Wt A s r w W) (v : Int) : Wt A { s with ep := v } r w (W.setCell ⟨A.c, 2, none⟩ (.int .i64 v)) :=
  ⟨h.tu.trans (Tu.of_but (set_but _ _ _ _) (.inr (.inl rfl))), (Below.heap_setCell _ _ _ _ (show w.heap.size ≠ A.c by have := h.lt; omega)).trans h.k, In.ep_ h.i v, h.lt⟩
/-- The cells that the walk reads. -/
def Cs (A : Pl) (s : St) (r : Rec) (w W : World) : Prop := W.cell? ⟨A.c, 0, none⟩ = some (.pointer (some ⟨A.k, 0, none⟩)) ∧ W.cell? ⟨A.c, 1, none⟩ = some (.int .i64 s.first) ∧ W.cell? ⟨A.c, 2, none⟩ = some (.int .i64 s.ep) ∧ W.cell? ⟨A.c, 3, none⟩ = some (.map (some A.u)) ∧ W.cell? ⟨A.c, 4, none⟩ = some (.map (some A.h)) ∧ W.cell? ⟨A.c, 5, none⟩ = some (.map (some A.g)) ∧ W.cell? ⟨w.heap.size, 0, none⟩ = some (.int .i64 r.k) ∧ W.cell? ⟨w.heap.size, 1, none⟩ = some (.int .i64 r.ep) ∧ W.cell? ⟨w.heap.size, 2, none⟩ = some (.int .i64 r.tm) ∧ W.cell? ⟨w.heap.size, 3, none⟩ = some (.int .i64 r.ct) ∧ W.cell? ⟨w.heap.size, 4, none⟩ = some (.int .i64 r.tg) ∧ W.cell? ⟨w.heap.size, 5, none⟩ = some (.int .i64 r.un) ∧ W.cell? ⟨w.heap.size, 6, none⟩ = some (.string ⟨r.rt.toArray⟩) ∧ W.cell? ⟨w.heap.size, 7, none⟩ = some (.string ⟨r.nm.toArray⟩)
theorem Wt.cs {A : Pl} {s : St} {r : Rec} {w W : World} (h : Wt A s r w W) : Cs A s r w W := by
  obtain ⟨a, b, c, d, e, f⟩ := h.i.cells
  obtain ⟨k0, k1, k2, k3, k4, k5, k6, k7⟩ := h.k.cells
  exact ⟨a, b, c, d, e, f, k0, k1, k2, k3, k4, k5, k6, k7⟩
set_option maxRecDepth 100000 in
set_option maxHeartbeats 4000000 in
theorem take_1 (A : Pl) (s : St) (r : Rec) (w : World) (h : In A s w) (hm : may s r = 0) (hk : r.k = 1) : Calls Try.prog 23 #[.pointer (some ⟨A.c, 0, none⟩), .agg #[.int .i64 r.k, .int .i64 r.ep, .int .i64 r.tm, .int .i64 r.ct, .int .i64 r.tg, .int .i64 r.un, .string ⟨r.rt.toArray⟩, .string ⟨r.nm.toArray⟩]] w fun x w' => x = .returned (.tuple #[]) ∧ In A { s with ep := s.ep + 1, now := r.tm } w' ∧ Tu A w w' := by
  obtain ⟨W1, hW1⟩ : ∃ W1, W1 = w.alloc (.cells #[.int .i64 r.k, .int .i64 r.ep, .int .i64 r.tm, .int .i64 r.ct, .int .i64 r.tg, .int .i64 r.un, .string ⟨r.rt.toArray⟩, .string ⟨r.nm.toArray⟩] 30) := ⟨_, rfl⟩
  have SS : Hid (Wt A s r w W1) := Lib.hid (by rw [hW1]; exact wt_new h r)
  have hb := bounds (may_ok hm).1
  have he := (may_ok hm).2.1
  have HT := Lib.hid (fun W h => CloM.Tick_ok A.k 0 s.now r.tm W h hb.2.2.1.1 hb.2.2.1.2 (may_ok hm).2.2.1)
  have g0 : 0 ≤ r.tg := hb.2.2.2.2.1.1
  have g1 : r.tg ≤ 4294967295 := hb.2.2.2.2.1.2
  have gu : Wf r.un := wf_of (by have := hb.2.2.2.2.2.1; omega)
  have gt : Wf r.tg := wf_of (by omega)
  have gn : r.nm.length ≤ maxLen := by have := hb.2.2.2.2.2.2.2; unfold maxLen; omega
  have p0 : 0 ≤ s.ep := by omega
  have p1 : s.ep ≤ 4294967295 := by omega
  have t1 : (r.k == 1) = true := by rw [hk]; rfl
  obtain ⟨c0, c1, c2, c3, c4, c5, k0, k1, k2, k3, k4, k5, k6, k7⟩ := SS.out.cs
  clear h hm hk hb he
  go_enter Try.func23, Try.ntmps23
  go_upto_region 1 with (fail)
  rw [← hW1]
  clear hW1
  replace SS := Lib.hid SS.out.drew
  have hS := SS.out.cs
  unfold Cs at hS
  go_region_held3 (fun W => W.cell? ⟨A.c, 0, none⟩ = some (.pointer (some ⟨A.k, 0, none⟩)) ∧ W.cell? ⟨A.c, 1, none⟩ = some (.int .i64 s.first) ∧ W.cell? ⟨A.c, 2, none⟩ = some (.int .i64 s.ep) ∧ W.cell? ⟨A.c, 3, none⟩ = some (.map (some A.u)) ∧ W.cell? ⟨A.c, 4, none⟩ = some (.map (some A.h)) ∧ W.cell? ⟨A.c, 5, none⟩ = some (.map (some A.g)) ∧ W.cell? ⟨w.heap.size, 0, none⟩ = some (.int .i64 r.k) ∧ W.cell? ⟨w.heap.size, 1, none⟩ = some (.int .i64 r.ep) ∧ W.cell? ⟨w.heap.size, 2, none⟩ = some (.int .i64 r.tm) ∧ W.cell? ⟨w.heap.size, 3, none⟩ = some (.int .i64 r.ct) ∧ W.cell? ⟨w.heap.size, 4, none⟩ = some (.int .i64 r.tg) ∧ W.cell? ⟨w.heap.size, 5, none⟩ = some (.int .i64 r.un) ∧ W.cell? ⟨w.heap.size, 6, none⟩ = some (.string ⟨r.rt.toArray⟩) ∧ W.cell? ⟨w.heap.size, 7, none⟩ = some (.string ⟨r.nm.toArray⟩))
    (exact hS) (first | (go_at_call 29; refine (HT.out _ SS.out.i.ck).mono ?_; rintro e w2 ⟨rfl, hb⟩; replace SS := Lib.hid (SS.out.now_ hb); replace hS := SS.out.cs; unfold Cs at hS; clear hb))
  clear k0 k1 k2 k3 k4 k5 k6 k7 c0 c1 c2 c3 c4 c5
  obtain ⟨c0, c1, c2, c3, c4, c5, k0, k1, k2, k3, k4, k5, k6, k7⟩ := hS
  have f2 : w2.frozen? ⟨A.c, 2, none⟩ = false := blk_free SS.out.i.body
  have S3 := Lib.hid (SS.out.ep_ (s.ep + 1))
  go_wp2
  go_end0
  exact ⟨rfl, S3.out.i, S3.out.tu⟩
set_option maxRecDepth 100000 in
set_option maxHeartbeats 4000000 in
theorem take_2 (A : Pl) (s : St) (r : Rec) (w : World) (h : In A s w) (hm : may s r = 0) (hk : r.k = 2) : Calls Try.prog 23 #[.pointer (some ⟨A.c, 0, none⟩), .agg #[.int .i64 r.k, .int .i64 r.ep, .int .i64 r.tm, .int .i64 r.ct, .int .i64 r.tg, .int .i64 r.un, .string ⟨r.rt.toArray⟩, .string ⟨r.nm.toArray⟩]] w fun x w' => x = .returned (.tuple #[]) ∧ In A { s with un := upd s.un r.tg r.un, now := r.tm } w' ∧ Tu A w w' := by
  obtain ⟨W1, hW1⟩ : ∃ W1, W1 = w.alloc (.cells #[.int .i64 r.k, .int .i64 r.ep, .int .i64 r.tm, .int .i64 r.ct, .int .i64 r.tg, .int .i64 r.un, .string ⟨r.rt.toArray⟩, .string ⟨r.nm.toArray⟩] 30) := ⟨_, rfl⟩
  have SS : Hid (Wt A s r w W1) := Lib.hid (by rw [hW1]; exact wt_new h r)
  have hb := bounds (may_ok hm).1
  have he := (may_ok hm).2.1
  have HT := Lib.hid (fun W h => CloM.Tick_ok A.k 0 s.now r.tm W h hb.2.2.1.1 hb.2.2.1.2 (may_ok hm).2.2.1)
  have g0 : 0 ≤ r.tg := hb.2.2.2.2.1.1
  have g1 : r.tg ≤ 4294967295 := hb.2.2.2.2.1.2
  have gu : Wf r.un := wf_of (by have := hb.2.2.2.2.2.1; omega)
  have gt : Wf r.tg := wf_of (by omega)
  have gn : r.nm.length ≤ maxLen := by have := hb.2.2.2.2.2.2.2; unfold maxLen; omega
  have p0 : 0 ≤ s.ep := by omega
  have p1 : s.ep ≤ 4294967295 := by omega
  have t1 : (r.k == 1) = false := by rw [hk]; rfl
  have t2 : (r.k == 2) = true := by rw [hk]; rfl
  obtain ⟨c0, c1, c2, c3, c4, c5, k0, k1, k2, k3, k4, k5, k6, k7⟩ := SS.out.cs
  clear h hm hk hb he
  go_enter Try.func23, Try.ntmps23
  go_upto_region 1 with (fail)
  rw [← hW1]
  clear hW1
  replace SS := Lib.hid SS.out.drew
  have hS := SS.out.cs
  unfold Cs at hS
  go_region_held3 (fun W => W.cell? ⟨A.c, 0, none⟩ = some (.pointer (some ⟨A.k, 0, none⟩)) ∧ W.cell? ⟨A.c, 1, none⟩ = some (.int .i64 s.first) ∧ W.cell? ⟨A.c, 2, none⟩ = some (.int .i64 s.ep) ∧ W.cell? ⟨A.c, 3, none⟩ = some (.map (some A.u)) ∧ W.cell? ⟨A.c, 4, none⟩ = some (.map (some A.h)) ∧ W.cell? ⟨A.c, 5, none⟩ = some (.map (some A.g)) ∧ W.cell? ⟨w.heap.size, 0, none⟩ = some (.int .i64 r.k) ∧ W.cell? ⟨w.heap.size, 1, none⟩ = some (.int .i64 r.ep) ∧ W.cell? ⟨w.heap.size, 2, none⟩ = some (.int .i64 r.tm) ∧ W.cell? ⟨w.heap.size, 3, none⟩ = some (.int .i64 r.ct) ∧ W.cell? ⟨w.heap.size, 4, none⟩ = some (.int .i64 r.tg) ∧ W.cell? ⟨w.heap.size, 5, none⟩ = some (.int .i64 r.un) ∧ W.cell? ⟨w.heap.size, 6, none⟩ = some (.string ⟨r.rt.toArray⟩) ∧ W.cell? ⟨w.heap.size, 7, none⟩ = some (.string ⟨r.nm.toArray⟩))
    (exact hS) (first | (go_at_call 29; refine (HT.out _ SS.out.i.ck).mono ?_; rintro e w2 ⟨rfl, hb⟩; replace SS := Lib.hid (SS.out.now_ hb); replace hS := SS.out.cs; unfold Cs at hS; clear hb))
  clear k0 k1 k2 k3 k4 k5 k6 k7 c0 c1 c2 c3 c4 c5
  obtain ⟨c0, c1, c2, c3, c4, c5, k0, k1, k2, k3, k4, k5, k6, k7⟩ := hS
  go_upto_region 6 with (fail)
  replace SS := Lib.hid SS.out.drew
  have hS := SS.out.cs
  unfold Cs at hS
  obtain ⟨W3, hr, hmm, hgg⟩ := SS.out.i.u.put g0 g1 gu
  have S3 := Lib.hid (SS.out.u_ hgg hmm)
  have hS3 := S3.out.cs
  unfold Cs at hS3
  go_region_held3 (fun W => W.cell? ⟨A.c, 0, none⟩ = some (.pointer (some ⟨A.k, 0, none⟩)) ∧ W.cell? ⟨A.c, 1, none⟩ = some (.int .i64 s.first) ∧ W.cell? ⟨A.c, 2, none⟩ = some (.int .i64 s.ep) ∧ W.cell? ⟨A.c, 3, none⟩ = some (.map (some A.u)) ∧ W.cell? ⟨A.c, 4, none⟩ = some (.map (some A.h)) ∧ W.cell? ⟨A.c, 5, none⟩ = some (.map (some A.g)) ∧ W.cell? ⟨w.heap.size, 0, none⟩ = some (.int .i64 r.k) ∧ W.cell? ⟨w.heap.size, 1, none⟩ = some (.int .i64 r.ep) ∧ W.cell? ⟨w.heap.size, 2, none⟩ = some (.int .i64 r.tm) ∧ W.cell? ⟨w.heap.size, 3, none⟩ = some (.int .i64 r.ct) ∧ W.cell? ⟨w.heap.size, 4, none⟩ = some (.int .i64 r.tg) ∧ W.cell? ⟨w.heap.size, 5, none⟩ = some (.int .i64 r.un) ∧ W.cell? ⟨w.heap.size, 6, none⟩ = some (.string ⟨r.rt.toArray⟩) ∧ W.cell? ⟨w.heap.size, 7, none⟩ = some (.string ⟨r.nm.toArray⟩))
    (first | exact hS | exact hS3) (fail)
  go_wp2
  go_end0
  exact ⟨rfl, S3.out.i, S3.out.tu⟩
set_option maxRecDepth 100000 in
set_option maxHeartbeats 4000000 in
theorem take_3 (A : Pl) (s : St) (r : Rec) (w : World) (h : In A s w) (hm : may s r = 0) (hk : r.k = 3) : Calls Try.prog 23 #[.pointer (some ⟨A.c, 0, none⟩), .agg #[.int .i64 r.k, .int .i64 r.ep, .int .i64 r.tm, .int .i64 r.ct, .int .i64 r.tg, .int .i64 r.un, .string ⟨r.rt.toArray⟩, .string ⟨r.nm.toArray⟩]] w fun x w' => x = .returned (.tuple #[]) ∧ In A { s with hs := s.hs ++ [(r.nm, r.tg)], now := r.tm } w' ∧ Tu A w w' := by
  obtain ⟨W1, hW1⟩ : ∃ W1, W1 = w.alloc (.cells #[.int .i64 r.k, .int .i64 r.ep, .int .i64 r.tm, .int .i64 r.ct, .int .i64 r.tg, .int .i64 r.un, .string ⟨r.rt.toArray⟩, .string ⟨r.nm.toArray⟩] 30) := ⟨_, rfl⟩
  have SS : Hid (Wt A s r w W1) := Lib.hid (by rw [hW1]; exact wt_new h r)
  have hb := bounds (may_ok hm).1
  have he := (may_ok hm).2.1
  have HT := Lib.hid (fun W h => CloM.Tick_ok A.k 0 s.now r.tm W h hb.2.2.1.1 hb.2.2.1.2 (may_ok hm).2.2.1)
  have g0 : 0 ≤ r.tg := hb.2.2.2.2.1.1
  have g1 : r.tg ≤ 4294967295 := hb.2.2.2.2.1.2
  have gu : Wf r.un := wf_of (by have := hb.2.2.2.2.2.1; omega)
  have gt : Wf r.tg := wf_of (by omega)
  have gn : r.nm.length ≤ maxLen := by have := hb.2.2.2.2.2.2.2; unfold maxLen; omega
  have p0 : 0 ≤ s.ep := by omega
  have p1 : s.ep ≤ 4294967295 := by omega
  obtain ⟨m1, m2, m3⟩ := may3 hm hk
  have t1 : (r.k == 1) = false := by rw [hk]; rfl
  have t2 : (r.k == 2) = false := by rw [hk]; rfl
  have t3 : (r.k == 3) = true := by rw [hk]; rfl
  obtain ⟨c0, c1, c2, c3, c4, c5, k0, k1, k2, k3, k4, k5, k6, k7⟩ := SS.out.cs
  clear h hm hk hb he
  go_enter Try.func23, Try.ntmps23
  go_upto_region 1 with (fail)
  rw [← hW1]
  clear hW1
  replace SS := Lib.hid SS.out.drew
  have hS := SS.out.cs
  unfold Cs at hS
  go_region_held3 (fun W => W.cell? ⟨A.c, 0, none⟩ = some (.pointer (some ⟨A.k, 0, none⟩)) ∧ W.cell? ⟨A.c, 1, none⟩ = some (.int .i64 s.first) ∧ W.cell? ⟨A.c, 2, none⟩ = some (.int .i64 s.ep) ∧ W.cell? ⟨A.c, 3, none⟩ = some (.map (some A.u)) ∧ W.cell? ⟨A.c, 4, none⟩ = some (.map (some A.h)) ∧ W.cell? ⟨A.c, 5, none⟩ = some (.map (some A.g)) ∧ W.cell? ⟨w.heap.size, 0, none⟩ = some (.int .i64 r.k) ∧ W.cell? ⟨w.heap.size, 1, none⟩ = some (.int .i64 r.ep) ∧ W.cell? ⟨w.heap.size, 2, none⟩ = some (.int .i64 r.tm) ∧ W.cell? ⟨w.heap.size, 3, none⟩ = some (.int .i64 r.ct) ∧ W.cell? ⟨w.heap.size, 4, none⟩ = some (.int .i64 r.tg) ∧ W.cell? ⟨w.heap.size, 5, none⟩ = some (.int .i64 r.un) ∧ W.cell? ⟨w.heap.size, 6, none⟩ = some (.string ⟨r.rt.toArray⟩) ∧ W.cell? ⟨w.heap.size, 7, none⟩ = some (.string ⟨r.nm.toArray⟩))
    (exact hS) (first | (go_at_call 29; refine (HT.out _ SS.out.i.ck).mono ?_; rintro e w2 ⟨rfl, hb⟩; replace SS := Lib.hid (SS.out.now_ hb); replace hS := SS.out.cs; unfold Cs at hS; clear hb))
  clear k0 k1 k2 k3 k4 k5 k6 k7 c0 c1 c2 c3 c4 c5
  obtain ⟨c0, c1, c2, c3, c4, c5, k0, k1, k2, k3, k4, k5, k6, k7⟩ := hS
  go_upto_region 8 with (fail)
  replace SS := Lib.hid SS.out.drew
  have hS := SS.out.cs
  unfold Cs at hS
  obtain ⟨W3, hr, hmm, hgg⟩ := SS.out.i.h.put m2 m3 gn gt
  have S3 := Lib.hid (SS.out.h_ hgg hmm)
  have hS3 := S3.out.cs
  unfold Cs at hS3
  go_region_held3 (fun W => W.cell? ⟨A.c, 0, none⟩ = some (.pointer (some ⟨A.k, 0, none⟩)) ∧ W.cell? ⟨A.c, 1, none⟩ = some (.int .i64 s.first) ∧ W.cell? ⟨A.c, 2, none⟩ = some (.int .i64 s.ep) ∧ W.cell? ⟨A.c, 3, none⟩ = some (.map (some A.u)) ∧ W.cell? ⟨A.c, 4, none⟩ = some (.map (some A.h)) ∧ W.cell? ⟨A.c, 5, none⟩ = some (.map (some A.g)) ∧ W.cell? ⟨w.heap.size, 0, none⟩ = some (.int .i64 r.k) ∧ W.cell? ⟨w.heap.size, 1, none⟩ = some (.int .i64 r.ep) ∧ W.cell? ⟨w.heap.size, 2, none⟩ = some (.int .i64 r.tm) ∧ W.cell? ⟨w.heap.size, 3, none⟩ = some (.int .i64 r.ct) ∧ W.cell? ⟨w.heap.size, 4, none⟩ = some (.int .i64 r.tg) ∧ W.cell? ⟨w.heap.size, 5, none⟩ = some (.int .i64 r.un) ∧ W.cell? ⟨w.heap.size, 6, none⟩ = some (.string ⟨r.rt.toArray⟩) ∧ W.cell? ⟨w.heap.size, 7, none⟩ = some (.string ⟨r.nm.toArray⟩))
    (first | exact hS | exact hS3) (fail)
  go_wp2
  go_end0
  exact ⟨rfl, S3.out.i, S3.out.tu⟩
set_option maxRecDepth 100000 in
set_option maxHeartbeats 4000000 in
theorem take_4 (A : Pl) (s : St) (r : Rec) (w : World) (h : In A s w) (hm : may s r = 0) (hk : r.k = 4) : Calls Try.prog 23 #[.pointer (some ⟨A.c, 0, none⟩), .agg #[.int .i64 r.k, .int .i64 r.ep, .int .i64 r.tm, .int .i64 r.ct, .int .i64 r.tg, .int .i64 r.un, .string ⟨r.rt.toArray⟩, .string ⟨r.nm.toArray⟩]] w fun x w' => x = .returned (.tuple #[]) ∧ In A { s with hs := del s.hs r.nm, now := r.tm } w' ∧ Tu A w w' := by
  obtain ⟨W1, hW1⟩ : ∃ W1, W1 = w.alloc (.cells #[.int .i64 r.k, .int .i64 r.ep, .int .i64 r.tm, .int .i64 r.ct, .int .i64 r.tg, .int .i64 r.un, .string ⟨r.rt.toArray⟩, .string ⟨r.nm.toArray⟩] 30) := ⟨_, rfl⟩
  have SS : Hid (Wt A s r w W1) := Lib.hid (by rw [hW1]; exact wt_new h r)
  have hb := bounds (may_ok hm).1
  have he := (may_ok hm).2.1
  have HT := Lib.hid (fun W h => CloM.Tick_ok A.k 0 s.now r.tm W h hb.2.2.1.1 hb.2.2.1.2 (may_ok hm).2.2.1)
  have g0 : 0 ≤ r.tg := hb.2.2.2.2.1.1
  have g1 : r.tg ≤ 4294967295 := hb.2.2.2.2.1.2
  have gu : Wf r.un := wf_of (by have := hb.2.2.2.2.2.1; omega)
  have gt : Wf r.tg := wf_of (by omega)
  have gn : r.nm.length ≤ maxLen := by have := hb.2.2.2.2.2.2.2; unfold maxLen; omega
  have p0 : 0 ≤ s.ep := by omega
  have p1 : s.ep ≤ 4294967295 := by omega
  have t1 : (r.k == 1) = false := by rw [hk]; rfl
  have t2 : (r.k == 2) = false := by rw [hk]; rfl
  have t3 : (r.k == 3) = false := by rw [hk]; rfl
  have t4 : (r.k == 4) = true := by rw [hk]; rfl
  obtain ⟨c0, c1, c2, c3, c4, c5, k0, k1, k2, k3, k4, k5, k6, k7⟩ := SS.out.cs
  clear h hm hk hb he
  go_enter Try.func23, Try.ntmps23
  go_upto_region 1 with (fail)
  rw [← hW1]
  clear hW1
  replace SS := Lib.hid SS.out.drew
  have hS := SS.out.cs
  unfold Cs at hS
  go_region_held3 (fun W => W.cell? ⟨A.c, 0, none⟩ = some (.pointer (some ⟨A.k, 0, none⟩)) ∧ W.cell? ⟨A.c, 1, none⟩ = some (.int .i64 s.first) ∧ W.cell? ⟨A.c, 2, none⟩ = some (.int .i64 s.ep) ∧ W.cell? ⟨A.c, 3, none⟩ = some (.map (some A.u)) ∧ W.cell? ⟨A.c, 4, none⟩ = some (.map (some A.h)) ∧ W.cell? ⟨A.c, 5, none⟩ = some (.map (some A.g)) ∧ W.cell? ⟨w.heap.size, 0, none⟩ = some (.int .i64 r.k) ∧ W.cell? ⟨w.heap.size, 1, none⟩ = some (.int .i64 r.ep) ∧ W.cell? ⟨w.heap.size, 2, none⟩ = some (.int .i64 r.tm) ∧ W.cell? ⟨w.heap.size, 3, none⟩ = some (.int .i64 r.ct) ∧ W.cell? ⟨w.heap.size, 4, none⟩ = some (.int .i64 r.tg) ∧ W.cell? ⟨w.heap.size, 5, none⟩ = some (.int .i64 r.un) ∧ W.cell? ⟨w.heap.size, 6, none⟩ = some (.string ⟨r.rt.toArray⟩) ∧ W.cell? ⟨w.heap.size, 7, none⟩ = some (.string ⟨r.nm.toArray⟩))
    (exact hS) (first | (go_at_call 29; refine (HT.out _ SS.out.i.ck).mono ?_; rintro e w2 ⟨rfl, hb⟩; replace SS := Lib.hid (SS.out.now_ hb); replace hS := SS.out.cs; unfold Cs at hS; clear hb))
  clear k0 k1 k2 k3 k4 k5 k6 k7 c0 c1 c2 c3 c4 c5
  obtain ⟨c0, c1, c2, c3, c4, c5, k0, k1, k2, k3, k4, k5, k6, k7⟩ := hS
  go_upto_region 10 with (fail)
  replace SS := Lib.hid SS.out.drew
  have hS := SS.out.cs
  unfold Cs at hS
  obtain ⟨W3, hr, hmm, hgg⟩ := SS.out.i.h.del_ (s := r.nm) gn
  have S3 := Lib.hid (SS.out.h_ hgg hmm)
  have hS3 := S3.out.cs
  unfold Cs at hS3
  go_region_held3 (fun W => W.cell? ⟨A.c, 0, none⟩ = some (.pointer (some ⟨A.k, 0, none⟩)) ∧ W.cell? ⟨A.c, 1, none⟩ = some (.int .i64 s.first) ∧ W.cell? ⟨A.c, 2, none⟩ = some (.int .i64 s.ep) ∧ W.cell? ⟨A.c, 3, none⟩ = some (.map (some A.u)) ∧ W.cell? ⟨A.c, 4, none⟩ = some (.map (some A.h)) ∧ W.cell? ⟨A.c, 5, none⟩ = some (.map (some A.g)) ∧ W.cell? ⟨w.heap.size, 0, none⟩ = some (.int .i64 r.k) ∧ W.cell? ⟨w.heap.size, 1, none⟩ = some (.int .i64 r.ep) ∧ W.cell? ⟨w.heap.size, 2, none⟩ = some (.int .i64 r.tm) ∧ W.cell? ⟨w.heap.size, 3, none⟩ = some (.int .i64 r.ct) ∧ W.cell? ⟨w.heap.size, 4, none⟩ = some (.int .i64 r.tg) ∧ W.cell? ⟨w.heap.size, 5, none⟩ = some (.int .i64 r.un) ∧ W.cell? ⟨w.heap.size, 6, none⟩ = some (.string ⟨r.rt.toArray⟩) ∧ W.cell? ⟨w.heap.size, 7, none⟩ = some (.string ⟨r.nm.toArray⟩))
    (first | exact hS | exact hS3) (fail)
  go_wp2
  go_end0
  exact ⟨rfl, S3.out.i, S3.out.tu⟩
set_option maxRecDepth 100000 in
set_option maxHeartbeats 4000000 in
theorem take_5 (A : Pl) (s : St) (r : Rec) (w : World) (h : In A s w) (hm : may s r = 0) (hk : r.k = 5) : Calls Try.prog 23 #[.pointer (some ⟨A.c, 0, none⟩), .agg #[.int .i64 r.k, .int .i64 r.ep, .int .i64 r.tm, .int .i64 r.ct, .int .i64 r.tg, .int .i64 r.un, .string ⟨r.rt.toArray⟩, .string ⟨r.nm.toArray⟩]] w fun x w' => x = .returned (.tuple #[]) ∧ In A { s with gone := upd s.gone r.tg true, now := r.tm } w' ∧ Tu A w w' := by
  obtain ⟨W1, hW1⟩ : ∃ W1, W1 = w.alloc (.cells #[.int .i64 r.k, .int .i64 r.ep, .int .i64 r.tm, .int .i64 r.ct, .int .i64 r.tg, .int .i64 r.un, .string ⟨r.rt.toArray⟩, .string ⟨r.nm.toArray⟩] 30) := ⟨_, rfl⟩
  have SS : Hid (Wt A s r w W1) := Lib.hid (by rw [hW1]; exact wt_new h r)
  have hb := bounds (may_ok hm).1
  have he := (may_ok hm).2.1
  have HT := Lib.hid (fun W h => CloM.Tick_ok A.k 0 s.now r.tm W h hb.2.2.1.1 hb.2.2.1.2 (may_ok hm).2.2.1)
  have g0 : 0 ≤ r.tg := hb.2.2.2.2.1.1
  have g1 : r.tg ≤ 4294967295 := hb.2.2.2.2.1.2
  have gu : Wf r.un := wf_of (by have := hb.2.2.2.2.2.1; omega)
  have gt : Wf r.tg := wf_of (by omega)
  have gn : r.nm.length ≤ maxLen := by have := hb.2.2.2.2.2.2.2; unfold maxLen; omega
  have p0 : 0 ≤ s.ep := by omega
  have p1 : s.ep ≤ 4294967295 := by omega
  have t1 : (r.k == 1) = false := by rw [hk]; rfl
  have t2 : (r.k == 2) = false := by rw [hk]; rfl
  have t3 : (r.k == 3) = false := by rw [hk]; rfl
  have t4 : (r.k == 4) = false := by rw [hk]; rfl
  have t5 : (r.k == 5) = true := by rw [hk]; rfl
  obtain ⟨c0, c1, c2, c3, c4, c5, k0, k1, k2, k3, k4, k5, k6, k7⟩ := SS.out.cs
  clear h hm hk hb he
  go_enter Try.func23, Try.ntmps23
  go_upto_region 1 with (fail)
  rw [← hW1]
  clear hW1
  replace SS := Lib.hid SS.out.drew
  have hS := SS.out.cs
  unfold Cs at hS
  go_region_held3 (fun W => W.cell? ⟨A.c, 0, none⟩ = some (.pointer (some ⟨A.k, 0, none⟩)) ∧ W.cell? ⟨A.c, 1, none⟩ = some (.int .i64 s.first) ∧ W.cell? ⟨A.c, 2, none⟩ = some (.int .i64 s.ep) ∧ W.cell? ⟨A.c, 3, none⟩ = some (.map (some A.u)) ∧ W.cell? ⟨A.c, 4, none⟩ = some (.map (some A.h)) ∧ W.cell? ⟨A.c, 5, none⟩ = some (.map (some A.g)) ∧ W.cell? ⟨w.heap.size, 0, none⟩ = some (.int .i64 r.k) ∧ W.cell? ⟨w.heap.size, 1, none⟩ = some (.int .i64 r.ep) ∧ W.cell? ⟨w.heap.size, 2, none⟩ = some (.int .i64 r.tm) ∧ W.cell? ⟨w.heap.size, 3, none⟩ = some (.int .i64 r.ct) ∧ W.cell? ⟨w.heap.size, 4, none⟩ = some (.int .i64 r.tg) ∧ W.cell? ⟨w.heap.size, 5, none⟩ = some (.int .i64 r.un) ∧ W.cell? ⟨w.heap.size, 6, none⟩ = some (.string ⟨r.rt.toArray⟩) ∧ W.cell? ⟨w.heap.size, 7, none⟩ = some (.string ⟨r.nm.toArray⟩))
    (exact hS) (first | (go_at_call 29; refine (HT.out _ SS.out.i.ck).mono ?_; rintro e w2 ⟨rfl, hb⟩; replace SS := Lib.hid (SS.out.now_ hb); replace hS := SS.out.cs; unfold Cs at hS; clear hb))
  clear k0 k1 k2 k3 k4 k5 k6 k7 c0 c1 c2 c3 c4 c5
  obtain ⟨c0, c1, c2, c3, c4, c5, k0, k1, k2, k3, k4, k5, k6, k7⟩ := hS
  go_upto_region 12 with (fail)
  replace SS := Lib.hid SS.out.drew
  have hS := SS.out.cs
  unfold Cs at hS
  obtain ⟨W3, hr, hmm, hgg⟩ := SS.out.i.g.put g0 g1
  have S3 := Lib.hid (SS.out.g_ hgg hmm)
  have hS3 := S3.out.cs
  unfold Cs at hS3
  go_region_held3 (fun W => W.cell? ⟨A.c, 0, none⟩ = some (.pointer (some ⟨A.k, 0, none⟩)) ∧ W.cell? ⟨A.c, 1, none⟩ = some (.int .i64 s.first) ∧ W.cell? ⟨A.c, 2, none⟩ = some (.int .i64 s.ep) ∧ W.cell? ⟨A.c, 3, none⟩ = some (.map (some A.u)) ∧ W.cell? ⟨A.c, 4, none⟩ = some (.map (some A.h)) ∧ W.cell? ⟨A.c, 5, none⟩ = some (.map (some A.g)) ∧ W.cell? ⟨w.heap.size, 0, none⟩ = some (.int .i64 r.k) ∧ W.cell? ⟨w.heap.size, 1, none⟩ = some (.int .i64 r.ep) ∧ W.cell? ⟨w.heap.size, 2, none⟩ = some (.int .i64 r.tm) ∧ W.cell? ⟨w.heap.size, 3, none⟩ = some (.int .i64 r.ct) ∧ W.cell? ⟨w.heap.size, 4, none⟩ = some (.int .i64 r.tg) ∧ W.cell? ⟨w.heap.size, 5, none⟩ = some (.int .i64 r.un) ∧ W.cell? ⟨w.heap.size, 6, none⟩ = some (.string ⟨r.rt.toArray⟩) ∧ W.cell? ⟨w.heap.size, 7, none⟩ = some (.string ⟨r.nm.toArray⟩))
    (first | exact hS | exact hS3) (fail)
  go_wp2
  go_end0
  exact ⟨rfl, S3.out.i, S3.out.tu⟩
/-- What a book is that takes a record that is not refused. -/
theorem take (A : Pl) (s : St) (r : Rec) (w : World) (h : In A s w) (hm : may s r = 0) : Calls Try.prog 23 #[.pointer (some ⟨A.c, 0, none⟩), .agg #[.int .i64 r.k, .int .i64 r.ep, .int .i64 r.tm, .int .i64 r.ct, .int .i64 r.tg, .int .i64 r.un, .string ⟨r.rt.toArray⟩, .string ⟨r.nm.toArray⟩]] w fun x w' => x = .returned (.tuple #[]) ∧ In A (RetN.take s r) w' ∧ Tu A w w' := by
  have hb := (bounds (may_ok hm).1).1
  unfold RetN.take
  by_cases h1 : r.k = 1
  · rw [if_pos h1]; exact take_1 A s r w h hm h1
  rw [if_neg h1]
  by_cases h2 : r.k = 2
  · rw [if_pos h2]; exact take_2 A s r w h hm h2
  rw [if_neg h2]
  by_cases h3 : r.k = 3
  · rw [if_pos h3]; exact take_3 A s r w h hm h3
  rw [if_neg h3]
  by_cases h4 : r.k = 4
  · rw [if_pos h4]; exact take_4 A s r w h hm h4
  rw [if_neg h4]
  by_cases h5 : r.k = 5
  · rw [if_pos h5]; exact take_5 A s r w h hm h5
  exact absurd hb (by omega)
end Go.Proofs.Yteldohopagdodaa.RetT
