/- The calls of a book, and of none: the walks of their texts. No conditions but those that each lemma names. -/
import Derived.Test.YteldohopagdodaaRetT
namespace Go.Proofs.Yteldohopagdodaa.RetB
set_option linter.unusedVariables false
open Go.RowKit Go.Maps
open RecN RecC RetN RetC RetH RetP
theorem isNone_book {A : Pl} {s : St} {w : World} (h : Book A s w) : Calls Try.prog 20 #[.pointer (some ⟨A.b, 0, none⟩)] w fun e w' => e = .returned (.bool false) ∧ w = w' := by
  have k0 := h.cell
  clear h
  go_enter Try.func20, Try.ntmps20
  go_wp2
  go_ret
  exact ⟨rfl, rfl⟩
theorem isNone_none {p : Option Addr} {w : World} (h : Non w p) : Calls Try.prog 20 #[.pointer p] w fun e w' => e = .returned (.bool true) ∧ w = w' := by
  rcases h with rfl | ⟨B, rfl, h⟩
  · go_enter Try.func20, Try.ntmps20
    go_wp2
    go_ret
    exact ⟨rfl, rfl⟩
  · have k0 : w.cell? ⟨B, 0, none⟩ = some (.pointer none) := blk_cell h rfl
    clear h
    go_enter Try.func20, Try.ntmps20
    go_wp2
    go_ret
    exact ⟨rfl, rfl⟩
set_option maxRecDepth 100000 in
theorem Epoch {A : Pl} {s : St} {w : World} (h : Book A s w) : Calls Try.prog 13 #[.pointer (some ⟨A.b, 0, none⟩)] w fun e w' => e = .returned (.int .i64 s.ep) ∧ w = w' := by
  have HN := Lib.hid (isNone_book h)
  have k0 := h.cell
  obtain ⟨_, _, c2, _⟩ := h.in_.cells
  clear h
  go_enter Try.func13, Try.ntmps13
  go_wp2_with (go_at_call 20; refine HN.out.mono ?_; rintro e _ ⟨rfl, rfl⟩)
  go_ret
  exact ⟨rfl, rfl⟩
set_option maxRecDepth 100000 in
theorem Now {A : Pl} {s : St} {w : World} (h : Book A s w) : Calls Try.prog 14 #[.pointer (some ⟨A.b, 0, none⟩)] w fun e w' => e = .returned (.int .i64 s.now) ∧ Below w.heap.size w w' := by
  have HN := Lib.hid (isNone_book h)
  have HC := Lib.hid (CloM.Now A.k 0 s.now w h.in_.ck)
  have k0 := h.cell
  obtain ⟨c0, _⟩ := h.in_.cells
  clear h
  go_enter Try.func14, Try.ntmps14
  go_wp2_with (first
    | (go_at_call 20; refine HN.out.mono ?_; rintro e _ ⟨rfl, rfl⟩)
    | (go_at_call 25; refine HC.out.mono ?_; rintro e w2 ⟨rfl, hb⟩; have BB := Lib.hid hb; clear hb))
  go_ret
  exact ⟨rfl, BB.out⟩
set_option maxRecDepth 100000 in
theorem Until {A : Pl} {s : St} {w : World} (h : Book A s w) (t : Int) (hw : Wf t) : Calls Try.prog 8 #[.pointer (some ⟨A.b, 0, none⟩), .int .i64 t] w fun e w' => e = .returned (.int .i64 (s.un t)) ∧ w = w' := by
  have HN := Lib.hid (isNone_book h)
  have k0 := h.cell
  have hr := h.in_.u.at_ hw
  obtain ⟨_, _, _, c3, _⟩ := h.in_.cells
  generalize s.un t = q at *
  clear h
  go_enter Try.func8, Try.ntmps8
  go_wp2_with (go_at_call 20; refine HN.out.mono ?_; rintro e _ ⟨rfl, rfl⟩)
  go_ret
  exact ⟨rfl, rfl⟩
set_option maxRecDepth 100000 in
theorem Gone {A : Pl} {s : St} {w : World} (h : Book A s w) (t : Int) (hw : Wf t) : Calls Try.prog 9 #[.pointer (some ⟨A.b, 0, none⟩), .int .i64 t] w fun e w' => e = .returned (.bool (s.gone t)) ∧ Below w.heap.size w w' := by
  have HN := Lib.hid (isNone_book h)
  have HP := Lib.hid (isPurged A s t w h.in_ hw)
  have k0 := h.cell
  generalize s.gone t = q at *
  clear h
  go_enter Try.func9, Try.ntmps9
  go_wp2_with (first
    | (go_at_call 20; refine HN.out.mono ?_; rintro e _ ⟨rfl, rfl⟩)
    | (go_at_call 21; refine HP.out.mono ?_; rintro e w2 ⟨rfl, hb⟩; have BB := Lib.hid hb; clear hb))
  go_ret
  exact ⟨rfl, BB.out⟩
set_option maxRecDepth 100000 in
theorem Held {A : Pl} {s : St} {w : World} (h : Book A s w) (t : Int) : Calls Try.prog 10 #[.pointer (some ⟨A.b, 0, none⟩), .int .i64 t] w fun e w' => Names w.heap.size (heldL s.hs t) e w' ∧ Below w.heap.size w w' := by
  have HN := Lib.hid (isNone_book h)
  have HP := Lib.hid (held A s t w h.in_)
  have k0 := h.cell
  generalize heldL s.hs t = l at *
  clear h
  go_enter Try.func10, Try.ntmps10
  go_wp2_with (first
    | (go_at_call 20; refine HN.out.mono ?_; rintro e _ ⟨rfl, rfl⟩)
    | (go_at_call 22; refine HP.out.mono ?_; rintro e w2 ⟨⟨ga, gc, rfl, ho⟩, hb⟩; have OO := Lib.hid ho; have BB := Lib.hid hb; clear hb ho))
  go_ret
  exact ⟨⟨ga, gc, rfl, OO.out⟩, BB.out⟩
set_option maxRecDepth 100000 in
theorem Holds {A : Pl} {s : St} {w : World} (h : Book A s w) : Calls Try.prog 15 #[.pointer (some ⟨A.b, 0, none⟩)] w fun e w' => e = .returned (.int .i64 (s.hs.length : Nat)) ∧ w = w' := by
  have HN := Lib.hid (isNone_book h)
  have k0 := h.cell
  have hn := h.in_.h.len_
  obtain ⟨_, _, _, _, c4, _⟩ := h.in_.cells
  generalize s.hs.length = q at *
  clear h
  go_enter Try.func15, Try.ntmps15
  go_wp2_with (go_at_call 20; refine HN.out.mono ?_; rintro e _ ⟨rfl, rfl⟩)
  go_ret
  exact ⟨rfl, rfl⟩
/-- What stands while a call runs that was given a book and a record. -/
structure Wb (A : Pl) (s : St) (r : Rec) (w W : World) : Prop where
  ws : Ws w r W
  b : Book A s W
theorem wb_new {A : Pl} {s : St} {w : World} (h : Book A s w) (r : Rec) : Wb A s r w (w.alloc (.cells #[.int .i64 r.k, .int .i64 r.ep, .int .i64 r.tm, .int .i64 r.ct, .int .i64 r.tg, .int .i64 r.un, .string ⟨r.rt.toArray⟩, .string ⟨r.nm.toArray⟩] 30)) := ⟨ws_new w r, h.step (ws_new w r).bel⟩
theorem Wb.step {A : Pl} {s : St} {r : Rec} {w W W' : World} (h : Wb A s r w W) (hb : Below W.heap.size W W') : Wb A s r w W' := ⟨h.ws.step hb, h.b.step hb⟩
theorem Book.drew {A : Pl} {s : St} {W : World} (h : Book A s W) : Book A s W.drew := ⟨h.top, In.drew h.in_, h.nb⟩
theorem Wb.drew {A : Pl} {s : St} {r : Rec} {w W : World} (h : Wb A s r w W) : Wb A s r w W.drew := ⟨h.ws.drew, Book.drew h.b⟩
def Cs (A : Pl) (r : Rec) (w W : World) : Prop := W.cell? ⟨A.b, 0, none⟩ = some (.pointer (some ⟨A.c, 0, none⟩)) ∧ W.cell? ⟨w.heap.size, 0, none⟩ = some (.int .i64 r.k) ∧ W.cell? ⟨w.heap.size, 1, none⟩ = some (.int .i64 r.ep) ∧ W.cell? ⟨w.heap.size, 2, none⟩ = some (.int .i64 r.tm) ∧ W.cell? ⟨w.heap.size, 3, none⟩ = some (.int .i64 r.ct) ∧ W.cell? ⟨w.heap.size, 4, none⟩ = some (.int .i64 r.tg) ∧ W.cell? ⟨w.heap.size, 5, none⟩ = some (.int .i64 r.un) ∧ W.cell? ⟨w.heap.size, 6, none⟩ = some (.string ⟨r.rt.toArray⟩) ∧ W.cell? ⟨w.heap.size, 7, none⟩ = some (.string ⟨r.nm.toArray⟩)
theorem Wb.cs {A : Pl} {s : St} {r : Rec} {w W : World} (h : Wb A s r w W) : Cs A r w W := ⟨h.b.cell, h.ws.k.cells⟩
set_option maxRecDepth 100000 in
set_option maxHeartbeats 4000000 in
theorem May {A : Pl} {s : St} {w : World} (h : Book A s w) (r : Rec) (hw : Wf r.tg) : Calls Try.prog 12 #[.pointer (some ⟨A.b, 0, none⟩), .agg #[.int .i64 r.k, .int .i64 r.ep, .int .i64 r.tm, .int .i64 r.ct, .int .i64 r.tg, .int .i64 r.un, .string ⟨r.rt.toArray⟩, .string ⟨r.nm.toArray⟩]] w fun e w' => e = .returned (.int .i64 (may s r)) ∧ Below w.heap.size w w' := by
  obtain ⟨W1, hW1⟩ : ∃ W1, W1 = w.alloc (.cells #[.int .i64 r.k, .int .i64 r.ep, .int .i64 r.tm, .int .i64 r.ct, .int .i64 r.tg, .int .i64 r.un, .string ⟨r.rt.toArray⟩, .string ⟨r.nm.toArray⟩] 30) := ⟨_, rfl⟩
  have SS : Hid (Wb A s r w W1) := Lib.hid (by rw [hW1]; exact wb_new h r)
  have HN := Lib.hid (fun W (h : Book A s W) => isNone_book h)
  have HM := Lib.hid (fun W h => RetM.may A s r W h hw)
  generalize may s r = q at *
  clear h hw
  go_enter Try.func12, Try.ntmps12
  go_upto_region 1 with (fail)
  rw [← hW1]
  clear hW1
  go_upto_region 3 with (go_at_call 20; refine (HN.out _ SS.out.b).mono ?_; rintro e _ ⟨rfl, rfl⟩)
  replace SS := Lib.hid SS.out.drew
  have hS := SS.out.cs
  unfold Cs at hS
  go_region_held3 (fun W => W.cell? ⟨A.b, 0, none⟩ = some (.pointer (some ⟨A.c, 0, none⟩)) ∧ W.cell? ⟨w.heap.size, 0, none⟩ = some (.int .i64 r.k) ∧ W.cell? ⟨w.heap.size, 1, none⟩ = some (.int .i64 r.ep) ∧ W.cell? ⟨w.heap.size, 2, none⟩ = some (.int .i64 r.tm) ∧ W.cell? ⟨w.heap.size, 3, none⟩ = some (.int .i64 r.ct) ∧ W.cell? ⟨w.heap.size, 4, none⟩ = some (.int .i64 r.tg) ∧ W.cell? ⟨w.heap.size, 5, none⟩ = some (.int .i64 r.un) ∧ W.cell? ⟨w.heap.size, 6, none⟩ = some (.string ⟨r.rt.toArray⟩) ∧ W.cell? ⟨w.heap.size, 7, none⟩ = some (.string ⟨r.nm.toArray⟩))
    (exact hS) (first | (go_at_call 24; refine (HM.out _ SS.out.b.in_).mono ?_; rintro e w2 ⟨rfl, hb⟩; replace SS := Lib.hid (SS.out.step hb); replace hS := SS.out.cs; unfold Cs at hS; clear hb))
  go_wp2
  go_ret
  exact ⟨rfl, SS.out.ws.bel⟩
/-- A book's inner part was turned alone. -/
theorem Book.turn {A : Pl} {s s' : St} {W W' : World} (h : Book A s W) (hi : In A s' W') (ht : Tu { A with b := A.c } W W') : Book A s' W' ∧ Tu A W W' := by
  have hn : ¬ ({ A with b := A.c } : Pl).has A.b := by
    rintro (e | e | e | e | e | e)
    · exact h.nb.1 e
    · exact h.nb.1 e
    · exact h.nb.2 e
    · exact ne_of h.top (mi_is h.in_.u) e
    · exact ne_of h.top (mh_is h.in_.h) e
    · exact ne_of h.top (mu_is h.in_.g) e
  refine ⟨⟨(ht.block _ h.lt hn).trans h.top, hi, h.nb⟩, ht.os, ht.tape, ht.output, ht.size, fun k hk hA => ht.block k hk (fun e => hA ?_)⟩
  rcases e with e | e | e | e | e | e
  · exact .inr (.inl e)
  · exact .inr (.inl e)
  · exact .inr (.inr (.inl e))
  · exact .inr (.inr (.inr (.inl e)))
  · exact .inr (.inr (.inr (.inr (.inl e))))
  · exact .inr (.inr (.inr (.inr (.inr e))))
set_option maxRecDepth 100000 in
set_option maxHeartbeats 4000000 in
theorem Apply_no {A : Pl} {s : St} {w : World} (h : Book A s w) (r : Rec) (hw : Wf r.tg) (hm : may s r ≠ 0) : Calls Try.prog 11 #[.pointer (some ⟨A.b, 0, none⟩), .agg #[.int .i64 r.k, .int .i64 r.ep, .int .i64 r.tm, .int .i64 r.ct, .int .i64 r.tg, .int .i64 r.un, .string ⟨r.rt.toArray⟩, .string ⟨r.nm.toArray⟩]] w fun e w' => e = .returned (.int .i64 (may s r)) ∧ Below w.heap.size w w' := by
  obtain ⟨W1, hW1⟩ : ∃ W1, W1 = w.alloc (.cells #[.int .i64 r.k, .int .i64 r.ep, .int .i64 r.tm, .int .i64 r.ct, .int .i64 r.tg, .int .i64 r.un, .string ⟨r.rt.toArray⟩, .string ⟨r.nm.toArray⟩] 30) := ⟨_, rfl⟩
  have SS : Hid (Wb A s r w W1) := Lib.hid (by rw [hW1]; exact wb_new h r)
  have HM := Lib.hid (fun W (h : Book A s W) => May h r hw)
  obtain ⟨k0, k1, k2, k3, k4, k5, k6, k7⟩ := SS.out.ws.k.cells
  generalize may s r = q at *
  have hq : (q != 0) = true := by simpa using hm
  clear h hw hm
  go_enter Try.func11, Try.ntmps11
  go_upto_region 1 with (fail)
  rw [← hW1]
  clear hW1
  go_wp2_with (go_at_call 12; refine (HM.out _ SS.out.b).mono ?_; rintro e w2 ⟨rfl, hb⟩; replace SS := Lib.hid (SS.out.step hb); clear hb)
  go_ret
  exact ⟨rfl, SS.out.ws.bel⟩
theorem in_to {A : Pl} {s : St} {W : World} (h : In A s W) : In { A with b := A.c } s W := ⟨h.body, h.ck, h.u, h.h, h.g, h.ne⟩
theorem after_ (A : Pl) (s s' : St) (r : Rec) (w W W' : World) (h : Wb A s r w W) (hA : ¬ ({ A with b := A.c } : Pl).has w.heap.size) (hi : In { A with b := A.c } s' W') (ht : Tu { A with b := A.c } W W') : (Book A s' W' ∧ Tu A W W') ∧ Cs A r w W' := by
  have h1 := Book.turn (s' := s') h.b ⟨hi.body, hi.ck, hi.u, hi.h, hi.g, hi.ne⟩ ht
  have h2 : Bk W' w.heap.size r := (ht.block _ h.ws.k.lt hA).trans h.ws.k
  exact ⟨h1, h1.1.cell, h2.cells⟩
set_option maxRecDepth 100000 in
set_option maxHeartbeats 4000000 in
theorem Apply_yes {A : Pl} {s : St} {w : World} (h : Book A s w) (r : Rec) (hw : Wf r.tg) (hm : may s r = 0) : Calls Try.prog 11 #[.pointer (some ⟨A.b, 0, none⟩), .agg #[.int .i64 r.k, .int .i64 r.ep, .int .i64 r.tm, .int .i64 r.ct, .int .i64 r.tg, .int .i64 r.un, .string ⟨r.rt.toArray⟩, .string ⟨r.nm.toArray⟩]] w fun e w' => e = .returned (.int .i64 0) ∧ Book A (take s r) w' ∧ Tu A w w' := by
  obtain ⟨W1, hW1⟩ : ∃ W1, W1 = w.alloc (.cells #[.int .i64 r.k, .int .i64 r.ep, .int .i64 r.tm, .int .i64 r.ct, .int .i64 r.tg, .int .i64 r.un, .string ⟨r.rt.toArray⟩, .string ⟨r.nm.toArray⟩] 30) := ⟨_, rfl⟩
  have SS : Hid (Wb A s r w W1) := Lib.hid (by rw [hW1]; exact wb_new h r)
  have HM := Lib.hid (fun W (h : Book A s W) => May h r hw)
  rw [hm] at HM
  have HT := Lib.hid (fun W h => RetT.take { A with b := A.c } s r W h hm)
  obtain ⟨k0, k1, k2, k3, k4, k5, k6, k7⟩ := SS.out.ws.k.cells
  have hA : ¬ ({ A with b := A.c } : Pl).has w.heap.size := by
    have h1 := h.in_.lt
    have h2 := h.in_.ck.lt
    have h3 := h.in_.u.lt
    have h4 := h.in_.h.lt
    have h5 := h.in_.g.lt
    rintro (e | e | e | e | e | e) <;> (dsimp only at e; omega)
  have HA := Lib.hid hA
  clear hA
  generalize take s r = s' at *
  clear h hw hm
  go_enter Try.func11, Try.ntmps11
  go_upto_region 1 with (fail)
  rw [← hW1]
  clear hW1
  go_upto_region 4 with (go_at_call 12; refine (HM.out _ SS.out.b).mono ?_; rintro e w2 ⟨rfl, hb⟩; replace SS := Lib.hid (SS.out.step hb); clear hb)
  clear k0 k1 k2 k3 k4 k5 k6 k7
  replace SS := Lib.hid SS.out.drew
  have hS := SS.out.cs
  unfold Cs at hS
  go_region_held3 (fun W => W.cell? ⟨A.b, 0, none⟩ = some (.pointer (some ⟨A.c, 0, none⟩)) ∧ W.cell? ⟨w.heap.size, 0, none⟩ = some (.int .i64 r.k) ∧ W.cell? ⟨w.heap.size, 1, none⟩ = some (.int .i64 r.ep) ∧ W.cell? ⟨w.heap.size, 2, none⟩ = some (.int .i64 r.tm) ∧ W.cell? ⟨w.heap.size, 3, none⟩ = some (.int .i64 r.ct) ∧ W.cell? ⟨w.heap.size, 4, none⟩ = some (.int .i64 r.tg) ∧ W.cell? ⟨w.heap.size, 5, none⟩ = some (.int .i64 r.un) ∧ W.cell? ⟨w.heap.size, 6, none⟩ = some (.string ⟨r.rt.toArray⟩) ∧ W.cell? ⟨w.heap.size, 7, none⟩ = some (.string ⟨r.nm.toArray⟩))
    (first | exact hS | exact hS3) (first | (go_at_call 23; refine (HT.out _ (in_to SS.out.b.in_)).mono ?_; rintro e w3 ⟨rfl, hi, ht⟩; have BT := Lib.hid (after_ A s s' r w _ w3 SS.out HA.out hi ht); have hS3 := BT.out.2; unfold Cs at hS3; clear hi ht))
  go_wp2
  go_ret
  exact ⟨rfl, BT.out.1.1, (Tu.of_below SS.out.ws.bel).trans BT.out.1.2⟩
theorem Apply {A : Pl} {s : St} {w : World} (h : Book A s w) (r : Rec) (hw : Wf r.tg) : Calls Try.prog 11 #[.pointer (some ⟨A.b, 0, none⟩), .agg #[.int .i64 r.k, .int .i64 r.ep, .int .i64 r.tm, .int .i64 r.ct, .int .i64 r.tg, .int .i64 r.un, .string ⟨r.rt.toArray⟩, .string ⟨r.nm.toArray⟩]] w fun e w' => e = .returned (.int .i64 (may s r)) ∧ Book A (apply s r) w' ∧ Tu A w w' := by
  unfold apply
  by_cases hm : may s r = 0
  · rw [if_pos hm, hm]
    exact Apply_yes h r hw hm
  · rw [if_neg hm]
    exact (Apply_no h r hw hm).mono fun e w' ⟨h1, h2⟩ => ⟨h1, h.step h2, Tu.of_below h2⟩
end Go.Proofs.Yteldohopagdodaa.RetB
