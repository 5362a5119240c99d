/- PgK PgY: one behind the other. -/
import Derived.Test.YtopnodkdpehdoaaGreatDoorPgL
import Derived.Test.YtopnodkdpehdoaaGreatDoorPgE
/- The program's Copy, of a book and of a model, and Records: the walks of their texts. No conditions but those that each lemma names. -/
namespace Go.Proofs.YtopnodkdpehdoaaGreatDoor.PgK
set_option linter.unusedVariables false
open Go.RowKit
open RecN RecC RetN RetC RetR DbN DbA MdN MdO MdC MdG AnsC PgN PgC PgI PgW PgX PgA PgR PgS PgM PgT PgD PgE PgL
open CloC (Ck)
/-- What a copied book leaves: the same in blocks of the call's own. -/
def Cpd (w : World) (s : St) (A : Pl) (w' : World) : Prop := A.from_ w.heap.size ∧ In A s w' ∧ Below w.heap.size w w'
theorem clock_new (n : Int) (h0 : 0 ≤ n) (h1 : n ≤ 1099511627776) (w : World) : Calls Tryz.prog 23 #[.int .i64 n] w (CloM.Made w n) := CloM.New_yes n w h0 h1
set_option maxRecDepth 100000 in
set_option maxHeartbeats 16000000 in
theorem bcopied {A : Pl} {s : St} {w : World} (h : In A s w) (h0 : 0 ≤ s.now) (h1 : s.now ≤ 1099511627776) :
    Calls Tryz.prog 86 #[.pointer (some ⟨A.c, 0, none⟩)] w fun e w' => ∃ A', e = .returned (.pointer (some ⟨A'.c, 0, none⟩)) ∧ Cpd w s A' w' := by
  have II := Lib.hid h
  have BB := Lib.hid (Below.refl w.heap.size w)
  have HNo := Lib.hid (CloM.Now A.k 0 s.now w h.ck)
  have HCl := Lib.hid (clock_new s.now h0 h1)
  obtain ⟨c0, c1, c2, c3, c4, c5⟩ := h.cells
  have CC : Hid (∀ W, In A s W → W.cell? ⟨A.c, 1, none⟩ = some (.int .i64 s.first) ∧ W.cell? ⟨A.c, 2, none⟩ = some (.int .i64 s.ep) ∧ W.cell? ⟨A.c, 3, none⟩ = some (.map (some A.u)) ∧ W.cell? ⟨A.c, 4, none⟩ = some (.map (some A.h)) ∧ W.cell? ⟨A.c, 5, none⟩ = some (.map (some A.g))) := Lib.hid (fun W h => h.cells.2)
  have HI := Lib.hid (fun W (h : Mi W A.u s.un) => clone_i h)
  have HH := Lib.hid (fun W (h : Mh W A.h s.hs) => clone_h h)
  have HU := Lib.hid (fun W (h : Mu W A.g s.gone) => clone_u h)
  clear h h0 h1
  obtain ⟨nw, hnw⟩ : ∃ nw, s.now = nw := ⟨_, rfl⟩
  rw [hnw] at HNo HCl
  have HNW := Lib.hid hnw
  clear hnw
  go_enter Tryz.func86, Tryz.ntmps86
  go_upto_region 2 with (first
    | (go_at_call 58; refine HNo.out.mono ?_; rintro e w2 ⟨rfl, hb⟩; replace BB := Lib.hid hb; replace II := Lib.hid (II.out.step hb); clear hb HNo c0 c1 c2 c3 c4 c5)
    | (go_at_call 23; refine (HCl.out _).mono ?_; rintro e w3 ⟨Kb, hK, rfl, hk, hb⟩; have KK := Lib.hid hk; have KL := Lib.hid (Nat.le_trans BB.out.size hK); replace BB := Lib.hid (BB.out.trans (hb.mono BB.out.size)); replace II := Lib.hid (II.out.step hb); clear hb hk hK HCl))
  have hdr : Below w3.heap.size w3 w3.drew := (Below.refl _ _).drew
  replace BB := Lib.hid (BB.out.trans (hdr.mono BB.out.size))
  replace II := Lib.hid (II.out.step hdr)
  replace KK := Lib.hid (KK.out.step hdr)
  have hS := CC.out _ II.out
  clear hdr
  have KL3 : Hid (Kb < w3.heap.size) := Lib.hid KK.out.lt
  refine wp_region_held_drew (S := fun W => W.cell? ⟨A.c, 1, none⟩ = some (.int .i64 s.first) ∧ W.cell? ⟨A.c, 2, none⟩ = some (.int .i64 s.ep) ∧ W.cell? ⟨A.c, 3, none⟩ = some (.map (some A.u)) ∧ W.cell? ⟨A.c, 4, none⟩ = some (.map (some A.h)) ∧ W.cell? ⟨A.c, 5, none⟩ = some (.map (some A.g))) (by kernel_rfl) hS (fun _ => ?_)
  change wpAnyH _ _ _ _ _ _ #[false, false, false, false, false, false, false, false, false, false, false, false, false, false, false, false, false, false, false, false, false, false, false, false, false, false, false] _ _
  refine wpAnyH_take (i := 0) (v := ?v1) (by rw [List.getElem?_toArray]; rfl) (by kernel_rfl) (by kernel_rfl) (by kernel_rfl) (by intro _ _ _ h; exact h) (Or.inl ⟨by rfl, ?hy1⟩) (by assumption) ?rest1
  case hy1 => (intro W hSW; (try dsimp only at hSW); go_simp; try with_reducible rfl)
  try simp only [Act.put, List.setIfInBounds_toArray, List.set_cons_zero, List.set_cons_succ]
  refine wpAnyH_take (i := 1) (v := ?v2) (by rw [List.getElem?_toArray]; rfl) (by kernel_rfl) (by kernel_rfl) (by kernel_rfl) (by intro _ _ _ h; exact h) (Or.inl ⟨by rfl, ?hy2⟩) (by assumption) ?rest2
  case hy2 => (intro W hSW; (try dsimp only at hSW); go_simp; try with_reducible rfl)
  try simp only [Act.put, List.setIfInBounds_toArray, List.set_cons_zero, List.set_cons_succ]
  refine wpAnyH_take (i := 2) (v := ?v3) (by rw [List.getElem?_toArray]; rfl) (by kernel_rfl) (by kernel_rfl) (by kernel_rfl) (by intro _ _ _ h; exact h) (Or.inl ⟨by rfl, ?hy3⟩) (by assumption) ?rest3
  case hy3 => (intro W hSW; (try dsimp only at hSW); go_simp; try with_reducible rfl)
  try simp only [Act.put, List.setIfInBounds_toArray, List.set_cons_zero, List.set_cons_succ]
  refine wpAnyH_take (i := 3) (v := ?v4) (by rw [List.getElem?_toArray]; rfl) (by kernel_rfl) (by kernel_rfl) (by kernel_rfl) (by intro _ _ _ h; exact h) (Or.inl ⟨by rfl, ?hy4⟩) (by assumption) ?rest4
  case hy4 => (intro W hSW; (try dsimp only at hSW); go_simp; try with_reducible rfl)
  try simp only [Act.put, List.setIfInBounds_toArray, List.set_cons_zero, List.set_cons_succ]
  refine wpAnyH_take (i := 4) (v := ?v5) (by rw [List.getElem?_toArray]; rfl) (by kernel_rfl) (by kernel_rfl) (by kernel_rfl) (by intro _ _ _ h; exact h) (Or.inl ⟨by rfl, ?hy5⟩) (by assumption) ?rest5
  case hy5 => (intro W hSW; (try dsimp only at hSW); go_simp; try with_reducible rfl)
  try simp only [Act.put, List.setIfInBounds_toArray, List.set_cons_zero, List.set_cons_succ]
  refine wpAnyH_take (i := 5) (v := ?v6) (by rw [List.getElem?_toArray]; rfl) (by kernel_rfl) (by kernel_rfl) (by kernel_rfl) (by intro _ _ _ h; exact h) (Or.inl ⟨by rfl, ?hy6⟩) (by assumption) ?rest6
  case hy6 => (intro W hSW; (try dsimp only at hSW); go_simp; try with_reducible rfl)
  try simp only [Act.put, List.setIfInBounds_toArray, List.set_cons_zero, List.set_cons_succ]
  refine wpAnyH_take (i := 6) (v := ?v7) (by rw [List.getElem?_toArray]; rfl) (by kernel_rfl) (by kernel_rfl) (by kernel_rfl) (by intro _ _ _ h; exact h) (Or.inl ⟨by rfl, ?hy7⟩) (by assumption) ?rest7
  case hy7 => (intro W hSW; (try dsimp only at hSW); go_simp; try with_reducible rfl)
  try simp only [Act.put, List.setIfInBounds_toArray, List.set_cons_zero, List.set_cons_succ]
  refine wpAnyH_take (i := 7) (v := ?v8) (by rw [List.getElem?_toArray]; rfl) (by kernel_rfl) (by kernel_rfl) (by kernel_rfl) (by intro _ _ _ h; exact h) (Or.inl ⟨by rfl, ?hy8⟩) (by assumption) ?rest8
  case hy8 => (intro W hSW; (try dsimp only at hSW); go_simp; try with_reducible rfl)
  try simp only [Act.put, List.setIfInBounds_toArray, List.set_cons_zero, List.set_cons_succ]
  refine wpAnyH_take (i := 8) (v := ?v9) (by rw [List.getElem?_toArray]; rfl) (by kernel_rfl) (by kernel_rfl) (by kernel_rfl) (by intro _ _ _ h; exact h) (Or.inl ⟨by rfl, ?hy9⟩) (by assumption) ?rest9
  case hy9 => (intro W hSW; (try dsimp only at hSW); go_simp; try with_reducible rfl)
  try simp only [Act.put, List.setIfInBounds_toArray, List.set_cons_zero, List.set_cons_succ]
  refine wpAnyH_take (i := 9) (v := ?v10) (by rw [List.getElem?_toArray]; rfl) (by kernel_rfl) (by kernel_rfl) (by kernel_rfl) (by intro _ _ _ h; exact h) (Or.inl ⟨by rfl, ?hy10⟩) (by assumption) ?rest10
  case hy10 => (intro W hSW; (try dsimp only at hSW); go_simp; try with_reducible rfl)
  try simp only [Act.put, List.setIfInBounds_toArray, List.set_cons_zero, List.set_cons_succ]
  refine wpAnyH_take (i := 10) (v := ?v11) (by rw [List.getElem?_toArray]; rfl) (by kernel_rfl) (by kernel_rfl) (by kernel_rfl) (by intro _ _ _ h; exact h) (Or.inl ⟨by rfl, ?hy11⟩) (by assumption) ?rest11
  case hy11 => (intro W hSW; (try dsimp only at hSW); go_simp; try with_reducible rfl)
  try simp only [Act.put, List.setIfInBounds_toArray, List.set_cons_zero, List.set_cons_succ]
  refine wpAnyH_take (i := 11) (v := ?v12) (by rw [List.getElem?_toArray]; rfl) (by kernel_rfl) (by kernel_rfl) (by kernel_rfl) (by intro _ _ _ h; exact h) (Or.inl ⟨by rfl, ?hy12⟩) (by assumption) ?rest12
  case hy12 => (intro W hSW; (try dsimp only at hSW); go_simp; try with_reducible rfl)
  try simp only [Act.put, List.setIfInBounds_toArray, List.set_cons_zero, List.set_cons_succ]
  refine wpAnyH_take (i := 12) (v := ?v13) (by rw [List.getElem?_toArray]; rfl) (by kernel_rfl) (by kernel_rfl) (by kernel_rfl) (by intro _ _ _ h; exact h) (Or.inl ⟨by rfl, ?hy13⟩) (by assumption) ?rest13
  case hy13 => (intro W hSW; (try dsimp only at hSW); go_simp; try with_reducible rfl)
  try simp only [Act.put, List.setIfInBounds_toArray, List.set_cons_zero, List.set_cons_succ]
  refine wpAnyH_take (i := 14) (v := ?v14) (by rw [List.getElem?_toArray]; rfl) (by kernel_rfl) (by kernel_rfl) (by kernel_rfl) (by intro _ _ _ h; exact h) (Or.inl ⟨by rfl, ?hy14⟩) (by assumption) ?rest14
  case hy14 => (intro W hSW; (try dsimp only at hSW); go_simp; try with_reducible rfl)
  try simp only [Act.put, List.setIfInBounds_toArray, List.set_cons_zero, List.set_cons_succ]
  refine wpAnyH_take (i := 15) (v := ?v15) (by rw [List.getElem?_toArray]; rfl) (by kernel_rfl) (by kernel_rfl) (by kernel_rfl) (by intro _ _ _ h; exact h) (Or.inl ⟨by rfl, ?hy15⟩) (by assumption) ?rest15
  case hy15 => (intro W hSW; (try dsimp only at hSW); go_simp; try with_reducible rfl)
  try simp only [Act.put, List.setIfInBounds_toArray, List.set_cons_zero, List.set_cons_succ]
  refine wpAnyH_take (i := 16) (v := ?v16) (by rw [List.getElem?_toArray]; rfl) (by kernel_rfl) (by kernel_rfl) (by kernel_rfl) (by intro _ _ _ h; exact h) (Or.inl ⟨by rfl, ?hy16⟩) (by assumption) ?rest16
  case hy16 => (intro W hSW; (try dsimp only at hSW); go_simp; try with_reducible rfl)
  try simp only [Act.put, List.setIfInBounds_toArray, List.set_cons_zero, List.set_cons_succ]
  refine wpAnyH_take (i := 17) (v := ?v17) (by rw [List.getElem?_toArray]; rfl) (by kernel_rfl) (by kernel_rfl) (by kernel_rfl) (by intro _ _ _ h; exact h) (Or.inl ⟨by rfl, ?hy17⟩) (by assumption) ?rest17
  case hy17 => (intro W hSW; (try dsimp only at hSW); go_simp; try with_reducible rfl)
  try simp only [Act.put, List.setIfInBounds_toArray, List.set_cons_zero, List.set_cons_succ]
  refine wpAnyH_take (i := 19) (v := ?v18) (by rw [List.getElem?_toArray]; rfl) (by kernel_rfl) (by kernel_rfl) (by kernel_rfl) (by intro _ _ _ h; exact h) (Or.inl ⟨by rfl, ?hy18⟩) (by assumption) ?rest18
  case hy18 => (intro W hSW; (try dsimp only at hSW); go_simp; try with_reducible rfl)
  try simp only [Act.put, List.setIfInBounds_toArray, List.set_cons_zero, List.set_cons_succ]
  refine wpAnyH_take (i := 20) (v := ?v19) (by rw [List.getElem?_toArray]; rfl) (by kernel_rfl) (by kernel_rfl) (by kernel_rfl) (by intro _ _ _ h; exact h) (Or.inl ⟨by rfl, ?hy19⟩) (by assumption) ?rest19
  case hy19 => (intro W hSW; (try dsimp only at hSW); go_simp; try with_reducible rfl)
  try simp only [Act.put, List.setIfInBounds_toArray, List.set_cons_zero, List.set_cons_succ]
  refine wpAnyH_take (i := 21) (v := ?v20) (by rw [List.getElem?_toArray]; rfl) (by kernel_rfl) (by kernel_rfl) (by kernel_rfl) (by intro _ _ _ h; exact h) (Or.inl ⟨by rfl, ?hy20⟩) (by assumption) ?rest20
  case hy20 => (intro W hSW; (try dsimp only at hSW); go_simp; try with_reducible rfl)
  try simp only [Act.put, List.setIfInBounds_toArray, List.set_cons_zero, List.set_cons_succ]
  refine wpAnyH_take (i := 22) (v := ?v21) (by rw [List.getElem?_toArray]; rfl) (by kernel_rfl) (by kernel_rfl) (by kernel_rfl) (by intro _ _ _ h; exact h) (Or.inl ⟨by rfl, ?hy21⟩) (by assumption) ?rest21
  case hy21 => (intro W hSW; (try dsimp only at hSW); go_simp; try with_reducible rfl)
  try simp only [Act.put, List.setIfInBounds_toArray, List.set_cons_zero, List.set_cons_succ]
  refine wpAnyH_ready (rs := [13]) (by kernel_rfl) (by simp) (AllReadyH.cons (by rw [List.getElem?_toArray]; rfl) (fun K hK => ?_) AllReadyH.nil)
  go_simp
  refine (HI.out _ II.out.u).mono ?_
  rintro e w4 ⟨rfl, hm, hz, hb⟩
  have NU := Lib.hid hm
  have Z4 : Hid (w4.heap.size = w3.heap.size + 1) := Lib.hid hz
  clear hm hz
  replace BB := Lib.hid (BB.out.trans (hb.mono BB.out.size))
  replace II := Lib.hid (II.out.step hb)
  replace KK := Lib.hid (KK.out.step hb)
  replace hS := CC.out _ II.out
  clear hb
  refine hK.out _ _ hS (fun _ => ?_)
  clear hK K
  try simp only [List.setIfInBounds_toArray, List.set_cons_zero, List.set_cons_succ]
  refine wpAnyH_ready (rs := [18]) (by kernel_rfl) (by simp) (AllReadyH.cons (by rw [List.getElem?_toArray]; rfl) (fun K hK => ?_) AllReadyH.nil)
  go_simp
  refine (HH.out _ II.out.h).mono ?_
  rintro e w5 ⟨rfl, hm, hz, hb⟩
  have NH := Lib.hid hm
  have Z5 := Lib.hid hz
  clear hm hz
  replace BB := Lib.hid (BB.out.trans (hb.mono BB.out.size))
  replace II := Lib.hid (II.out.step hb)
  replace KK := Lib.hid (KK.out.step hb)
  replace NU := Lib.hid (NU.out.block (hb.block _ NU.out.lt))
  replace hS := CC.out _ II.out
  clear hb
  refine hK.out _ _ hS (fun _ => ?_)
  clear hK K
  try simp only [List.setIfInBounds_toArray, List.set_cons_zero, List.set_cons_succ]
  refine wpAnyH_ready (rs := [23]) (by kernel_rfl) (by simp) (AllReadyH.cons (by rw [List.getElem?_toArray]; rfl) (fun K hK => ?_) AllReadyH.nil)
  go_simp
  refine (HU.out _ II.out.g).mono ?_
  rintro e w6 ⟨rfl, hm, hz, hb⟩
  have NG := Lib.hid hm
  have Z6 := Lib.hid hz
  clear hm hz
  replace BB := Lib.hid (BB.out.trans (hb.mono BB.out.size))
  replace II := Lib.hid (II.out.step hb)
  replace KK := Lib.hid (KK.out.step hb)
  replace NU := Lib.hid (NU.out.block (hb.block _ NU.out.lt))
  replace NH := Lib.hid (NH.out.block (hb.block _ NH.out.lt))
  replace hS := CC.out _ II.out
  clear hb
  have b7 := below_new w6 (.cells #[.pointer (some ⟨Kb, 0, none⟩), .int .i64 s.first, .int .i64 s.ep, .map (some w3.heap.size), .map (some w4.heap.size), .map (some w5.heap.size)] 104)
  have hS3 := CC.out _ (II.out.step b7)
  refine hK.out _ _ hS (fun _ => ?_)
  clear hK K
  try simp only [List.setIfInBounds_toArray, List.set_cons_zero, List.set_cons_succ]
  refine wpAnyH_take (i := 24) (v := ?v22) (by rw [List.getElem?_toArray]; rfl) (by kernel_rfl) (by kernel_rfl) (by kernel_rfl) (by intro _ _ _ h; exact h) (Or.inl ⟨by rfl, ?hy22⟩) (by assumption) ?rest22
  case hy22 => (intro W hSW; (try dsimp only at hSW); go_simp; try with_reducible rfl)
  try simp only [Act.put, List.setIfInBounds_toArray, List.set_cons_zero, List.set_cons_succ]
  refine wpAnyH_ready (rs := [25]) (by kernel_rfl) (by simp) (AllReadyH.cons (by rw [List.getElem?_toArray]; rfl) (fun K hK => ?_) AllReadyH.nil)
  go_simp
  refine hK.out _ _ hS3 (fun _ => ?_)
  clear hK K
  try simp only [List.setIfInBounds_toArray, List.set_cons_zero, List.set_cons_succ]
  refine wpAnyH_take (i := 26) (v := ?v23) (by rw [List.getElem?_toArray]; rfl) (by kernel_rfl) (by kernel_rfl) (by kernel_rfl) (by intro _ _ _ h; exact h) (Or.inl ⟨by rfl, ?hy23⟩) (by assumption) ?rest23
  case hy23 => (intro W hSW; (try dsimp only at hSW); go_simp; try with_reducible rfl)
  try simp only [Act.put, List.setIfInBounds_toArray, List.set_cons_zero, List.set_cons_succ]
  refine wpAnyH_done (by kernel_rfl) ?_ _
  go_wp2
  go_ret
  have h7 := heap_alloc_new w6 (.cells #[.pointer (some ⟨Kb, 0, none⟩), .int .i64 s.first, .int .i64 s.ep, .map (some w3.heap.size), .map (some w4.heap.size), .map (some w5.heap.size)] 104)
  have q1 := KL.out
  have q2 := KK.out.lt
  have q3 := BB.out.size
  have q4 := Z4.out
  have q5 := Z5.out
  have q6 := Z6.out
  have q7 := NU.out.lt
  have q8 : Kb < w3.heap.size := KL3.out
  refine ⟨⟨w6.heap.size, w6.heap.size, Kb, w3.heap.size, w4.heap.size, w5.heap.size⟩, rfl, ?_, ⟨h7, (by rw [HNW.out]; exact KK.out.step b7), NU.out.block (b7.block _ NU.out.lt), NH.out.block (b7.block _ NH.out.lt), NG.out.block (b7.block _ NG.out.lt), ?_⟩, BB.out.trans (b7.mono BB.out.size)⟩
  · unfold Pl.from_
    dsimp only
    omega
  · dsimp only
    omega
set_option maxRecDepth 100000 in
set_option maxHeartbeats 4000000 in
/-- THE CONTRACT of a book's Copy. -/
theorem bCopy {A : Pl} {s : St} {w : World} (h : Book A s w) (h0 : 0 ≤ s.now) (h1 : s.now ≤ 1099511627776) :
    Calls Tryz.prog 59 #[.pointer (some ⟨A.b, 0, none⟩)] w fun e w' => ∃ A', e = .returned (.pointer (some ⟨A'.b, 0, none⟩)) ∧ RetW.Made w s A' w' := by
  have HN := Lib.hid (RetB.isNone_book h)
  have HC := Lib.hid (bcopied h.in_ h0 h1)
  have k0 := h.cell
  clear h h0 h1
  go_enter Tryz.func59, Tryz.ntmps59
  go_wp2_with (first
    | (go_at_call 63; refine HN.out.mono ?_; rintro e _ ⟨rfl, rfl⟩)
    | (go_at_call 86; refine HC.out.mono ?_; rintro e w2 ⟨A', rfl, hf, hi, hb⟩; have FF := Lib.hid hf; have II := Lib.hid hi; have BB := Lib.hid hb; clear hf hi hb))
  go_ret
  have b3 := below_new w2 (.cells #[.pointer (some ⟨A'.c, 0, none⟩)] 106)
  have hl := II.out.lt
  have hk := II.out.ck.lt
  have hs := BB.out.size
  have hi := II.out.step b3
  refine ⟨{ A' with b := w2.heap.size }, rfl, ?_, ⟨heap_alloc_new w2 _, ⟨hi.body, hi.ck, hi.u, hi.h, hi.g, hi.ne⟩, ?_⟩, BB.out.trans (b3.mono hs)⟩
  · obtain ⟨_, f2, f3, f4, f5, f6⟩ := FF.out
    exact ⟨hs, f2, f3, f4, f5, f6⟩
  · dsimp only; omega
theorem own_less {W : World} {base base' : Nat} {e : TypeId} {size n : Nat} {v : Value} {xs : List Value} (h : W.ownsRow base' e size v n xs) (hb : base ≤ base') : W.ownsRow base e size v n xs := by
  refine ⟨h.1, ?_⟩
  rcases h.2 with h2 | ⟨g, cap, cur, h2, h3, h4⟩
  · exact .inl h2
  · exact .inr ⟨g, cap, cur, h2, Nat.le_trans hb h3, h4⟩
variable {base : Nat} {A : Pm} {m : Mo} {w : World}
/-- A model in parts: the clock, the book, the rows, each behind the one ahead. -/
structure Pt (base : Nat) (m : Mo) (lo Kb : Nat) (a : Pl) (ar : Option Addr) (cr : Nat) (av : Option Addr) (cv : Nat) (W : World) : Prop where
  ck : Ck W Kb 0 true m.ck
  bk : Book a m.s W
  rows : W.ownsRow base 82 8 (.slice ar m.l.length cr) m.l.length (rr m.l)
  vrow : W.ownsRow base 91 3 (.slice av m.vs.length cv) m.vs.length (vv m.vs)
  k0 : lo ≤ Kb
  ak : ∀ i, a.has i → Kb < i
  ra : ∀ i j, blk ar = some j → (i = Kb ∨ a.has i) → i < j
  va : ∀ i j, blk av = some j → (i = Kb ∨ a.has i) → i < j
theorem pt_pg {lo Kb : Nat} {a : Pl} {ar av : Option Addr} {cr cv : Nat} {W : World} (hp : Pt base m lo Kb a ar cr av cv W) (hlo : base ≤ lo) (hok : Ok m) (hep : m.s.ep ≤ 4294967295) (hL : Lo m) (hg : Gd base W) (hrl : ∀ j, blk ar = some j → lo ≤ j) (hvl : ∀ j, blk av = some j → lo ≤ j) (hW : lo ≤ W.heap.size) :
    ∃ W', W' = (W.alloc (.cells #[.int .i64 m.b, .int .i64 m.lb, .int .i64 m.f, .pointer (some ⟨Kb, 0, none⟩), .pointer (some ⟨a.b, 0, none⟩), .slice ar m.l.length cr, .slice av m.vs.length cv] 68)).alloc (.cells #[.pointer (some ⟨W.heap.size, 0, none⟩)] 52) ∧
      Pg base ⟨W.heap.size + 1, W.heap.size, Kb, a, ar, cr, av, cv⟩ m W' ∧ (∀ k, (⟨W.heap.size + 1, W.heap.size, Kb, a, ar, cr, av, cv⟩ : Pm).foot k → lo ≤ k) ∧ Below W.heap.size W W' := by
  have hKl := hp.ck.lt
  have hal : ∀ i, a.has i → i < W.heap.size := fun i hi => book_lt hp.bk hi
  have hrl2 : ∀ j, blk ar = some j → j < W.heap.size := fun j hj => (own_lt hp.rows hj).2
  have hvl2 : ∀ j, blk av = some j → j < W.heap.size := fun j hj => (own_lt hp.vrow hj).2
  obtain ⟨W4, e4⟩ : ∃ W4, W4 = W.alloc (.cells #[.int .i64 m.b, .int .i64 m.lb, .int .i64 m.f, .pointer (some ⟨Kb, 0, none⟩), .pointer (some ⟨a.b, 0, none⟩), .slice ar m.l.length cr, .slice av m.vs.length cv] 68) := ⟨_, rfl⟩
  obtain ⟨W5, e5⟩ : ∃ W5, W5 = W4.alloc (.cells #[.pointer (some ⟨W.heap.size, 0, none⟩)] 52) := ⟨_, rfl⟩
  rw [← e4, ← e5]
  have s4 : W4.heap.size = W.heap.size + 1 := by rw [e4]; simp
  have b4 : Below W.heap.size W W4 := by rw [e4]; exact below_new _ _
  have b5 : Below W4.heap.size W4 W5 := by rw [e5]; exact below_new _ _
  have bb : Below W.heap.size W W5 := b4.trans (b5.mono (by omega))
  have h4 : W4.heap[W.heap.size]? = some (.cells #[.int .i64 m.b, .int .i64 m.lb, .int .i64 m.f, .pointer (some ⟨Kb, 0, none⟩), .pointer (some ⟨a.b, 0, none⟩), .slice ar m.l.length cr, .slice av m.vs.length cv] 68 (0, 0)) := by rw [e4]; exact heap_alloc_new W _
  have h5 : W5.heap[W.heap.size + 1]? = some (.cells #[.pointer (some ⟨W.heap.size, 0, none⟩)] 52 (0, 0)) := by rw [e5, ← s4]; exact heap_alloc_new W4 _
  have h45 := (b5.block W.heap.size (by omega)).trans h4
  have hf : ∀ k, (⟨W.heap.size + 1, W.heap.size, Kb, a, ar, cr, av, cv⟩ : Pm).foot k → lo ≤ k := by
    have := hp.k0
    rintro k ((e | e | e | e | e) | e)
    · dsimp only at e; omega
    · dsimp only at e; omega
    · dsimp only at e; omega
    · exact hrl k e
    · exact hvl k e
    · have := hp.ak k e; omega
  refine ⟨W5, rfl, ⟨h5, h45, hp.ck.step bb, hp.bk.step bb, DbE.own_step hp.rows bb, DbE.own_step hp.vrow bb, ?_, ⟨by dsimp only; omega, by dsimp only; omega⟩, ⟨fun e => ?_, fun e => ?_⟩, fun i hi => Nat.le_trans hlo (hf i hi), hok, hep, hL, hg.below bb (by omega)⟩, hf, bb⟩
  · rintro i hi (e | e | e | e | e)
    · have := hal i hi; dsimp only at e; omega
    · have := hal i hi; dsimp only at e; omega
    · have := hp.ak i hi; dsimp only at e; omega
    · have := hp.ra i i e (.inr hi); omega
    · have := hp.va i i e (.inr hi); omega
  · have := hp.ra Kb Kb e (.inl rfl); omega
  · have := hp.va Kb Kb e (.inl rfl); omega
/-- What copied leaves: an inner model of the call's own. -/
def Icp (base : Nat) (m : Mo) (w : World) (e : Ending) (w' : World) : Prop :=
  ∃ (W : World) (Kb : Nat) (a : Pl) (ar : Option Addr) (cr : Nat) (av : Option Addr) (cv : Nat), e = .returned (.pointer (some ⟨W.heap.size, 0, none⟩)) ∧ w' = W.alloc (.cells #[.int .i64 m.b, .int .i64 m.lb, .int .i64 m.f, .pointer (some ⟨Kb, 0, none⟩), .pointer (some ⟨a.b, 0, none⟩), .slice ar m.l.length cr, .slice av m.vs.length cv] 68) ∧ Pt base m w.heap.size Kb a ar cr av cv W ∧ (∀ j, blk ar = some j → w.heap.size ≤ j) ∧ (∀ j, blk av = some j → w.heap.size ≤ j) ∧ Below w.heap.size w W
set_option maxRecDepth 100000 in
set_option maxHeartbeats 16000000 in
theorem copied (h : Pg base A m w) : Calls Tryz.prog 40 #[.pointer (some ⟨A.y, 0, none⟩)] w (Icp base m w) := by
  have PP := Lib.hid (mn_new h)
  have HNo := Lib.hid (PgS.Now h)
  have HCl := Lib.hid (clock_new m.ck h.ok.ck0 h.ok.ck1)
  have h0 := h.lo.now
  have h1 : m.s.now ≤ 1099511627776 := by have := h.ok.now; have := h.ok.ck1; omega
  have HBk := Lib.hid (fun W (h : Book A.a m.s W) => bCopy h h0 h1)
  have hlen := h.ok.lens
  have HRc := Lib.hid (fun W (h : Pg base A m W) => Clone_rec A.ar m.l.length A.cr m.l W h.rl rfl (by omega))
  have HVr := Lib.hid (fun W (h : Pg base A m W) => Clone_ver A.av m.vs.length A.cv m.vs W h.vl rfl (by omega))
  have CC : Hid (∀ W, Mn base A m w W → W.cell? ⟨A.y, 0, none⟩ = some (.int .i64 m.b) ∧ W.cell? ⟨A.y, 1, none⟩ = some (.int .i64 m.lb) ∧ W.cell? ⟨A.y, 2, none⟩ = some (.int .i64 m.f) ∧ W.cell? ⟨A.y, 4, none⟩ = some (.pointer (some ⟨A.a.b, 0, none⟩)) ∧ W.cell? ⟨A.y, 5, none⟩ = some (.slice A.ar m.l.length A.cr) ∧ W.cell? ⟨A.y, 6, none⟩ = some (.slice A.av m.vs.length A.cv)) := Lib.hid (fun W h => ⟨h.p.cells.1, h.p.cells.2.1, h.p.cells.2.2.1, h.p.cells.2.2.2.2.1, h.p.cells.2.2.2.2.2.1, h.p.cells.2.2.2.2.2.2⟩)
  have HBs := Lib.hid h.size
  obtain ⟨_, _, _, c3, _, _, _⟩ := h.cells
  clear h h0 h1 hlen
  obtain ⟨cl, hcl⟩ : ∃ cl, m.ck = cl := ⟨_, rfl⟩
  rw [hcl] at HNo HCl
  have HCK := Lib.hid hcl
  clear hcl
  go_enter Tryz.func40, Tryz.ntmps40
  go_upto_region 2 with (first
    | (go_at_call 58; refine HNo.out.mono ?_; rintro e w2 ⟨rfl, hb⟩; replace PP := Lib.hid (PP.out.step hb); clear hb HNo c3)
    | (go_at_call 23; refine (HCl.out _).mono ?_; rintro e w3 ⟨Kb, hK, rfl, hk, hb⟩; have KL := Lib.hid (Nat.le_trans PP.out.bel.size hK); have KK := Lib.hid hk; replace PP := Lib.hid (PP.out.step hb); clear hb hk hK HCl))
  have KL3 : Hid (Kb < w3.heap.size) := Lib.hid KK.out.lt
  replace PP := Lib.hid PP.out.drew
  replace KK := Lib.hid (KK.out.step ((Below.refl _ _).drew))
  have hS := CC.out _ PP.out
  refine wp_region_held_drew (S := fun W => W.cell? ⟨A.y, 0, none⟩ = some (.int .i64 m.b) ∧ W.cell? ⟨A.y, 1, none⟩ = some (.int .i64 m.lb) ∧ W.cell? ⟨A.y, 2, none⟩ = some (.int .i64 m.f) ∧ W.cell? ⟨A.y, 4, none⟩ = some (.pointer (some ⟨A.a.b, 0, none⟩)) ∧ W.cell? ⟨A.y, 5, none⟩ = some (.slice A.ar m.l.length A.cr) ∧ W.cell? ⟨A.y, 6, none⟩ = some (.slice A.av m.vs.length A.cv)) (by kernel_rfl) hS (fun _ => ?_)
  change wpAnyH _ _ _ _ _ _ #[false, false, false, false, false, false, false, false, false, false, false, false, false, false, false, false, false, false, false, false, false, false, false] _ _
  refine wpAnyH_take (i := 0) (v := ?v1) (by rw [List.getElem?_toArray]; rfl) (by kernel_rfl) (by kernel_rfl) (by kernel_rfl) (by intro _ _ _ h; exact h) (Or.inl ⟨by rfl, ?hy1⟩) (by assumption) ?rest1
  case hy1 => (intro W hSW; (try dsimp only at hSW); go_simp; try with_reducible rfl)
  try simp only [Act.put, List.setIfInBounds_toArray, List.set_cons_zero, List.set_cons_succ]
  refine wpAnyH_take (i := 1) (v := ?v2) (by rw [List.getElem?_toArray]; rfl) (by kernel_rfl) (by kernel_rfl) (by kernel_rfl) (by intro _ _ _ h; exact h) (Or.inl ⟨by rfl, ?hy2⟩) (by assumption) ?rest2
  case hy2 => (intro W hSW; (try dsimp only at hSW); go_simp; try with_reducible rfl)
  try simp only [Act.put, List.setIfInBounds_toArray, List.set_cons_zero, List.set_cons_succ]
  refine wpAnyH_take (i := 2) (v := ?v3) (by rw [List.getElem?_toArray]; rfl) (by kernel_rfl) (by kernel_rfl) (by kernel_rfl) (by intro _ _ _ h; exact h) (Or.inl ⟨by rfl, ?hy3⟩) (by assumption) ?rest3
  case hy3 => (intro W hSW; (try dsimp only at hSW); go_simp; try with_reducible rfl)
  try simp only [Act.put, List.setIfInBounds_toArray, List.set_cons_zero, List.set_cons_succ]
  refine wpAnyH_take (i := 3) (v := ?v4) (by rw [List.getElem?_toArray]; rfl) (by kernel_rfl) (by kernel_rfl) (by kernel_rfl) (by intro _ _ _ h; exact h) (Or.inl ⟨by rfl, ?hy4⟩) (by assumption) ?rest4
  case hy4 => (intro W hSW; (try dsimp only at hSW); go_simp; try with_reducible rfl)
  try simp only [Act.put, List.setIfInBounds_toArray, List.set_cons_zero, List.set_cons_succ]
  refine wpAnyH_take (i := 4) (v := ?v5) (by rw [List.getElem?_toArray]; rfl) (by kernel_rfl) (by kernel_rfl) (by kernel_rfl) (by intro _ _ _ h; exact h) (Or.inl ⟨by rfl, ?hy5⟩) (by assumption) ?rest5
  case hy5 => (intro W hSW; (try dsimp only at hSW); go_simp; try with_reducible rfl)
  try simp only [Act.put, List.setIfInBounds_toArray, List.set_cons_zero, List.set_cons_succ]
  refine wpAnyH_take (i := 5) (v := ?v6) (by rw [List.getElem?_toArray]; rfl) (by kernel_rfl) (by kernel_rfl) (by kernel_rfl) (by intro _ _ _ h; exact h) (Or.inl ⟨by rfl, ?hy6⟩) (by assumption) ?rest6
  case hy6 => (intro W hSW; (try dsimp only at hSW); go_simp; try with_reducible rfl)
  try simp only [Act.put, List.setIfInBounds_toArray, List.set_cons_zero, List.set_cons_succ]
  refine wpAnyH_take (i := 6) (v := ?v7) (by rw [List.getElem?_toArray]; rfl) (by kernel_rfl) (by kernel_rfl) (by kernel_rfl) (by intro _ _ _ h; exact h) (Or.inl ⟨by rfl, ?hy7⟩) (by assumption) ?rest7
  case hy7 => (intro W hSW; (try dsimp only at hSW); go_simp; try with_reducible rfl)
  try simp only [Act.put, List.setIfInBounds_toArray, List.set_cons_zero, List.set_cons_succ]
  refine wpAnyH_take (i := 7) (v := ?v8) (by rw [List.getElem?_toArray]; rfl) (by kernel_rfl) (by kernel_rfl) (by kernel_rfl) (by intro _ _ _ h; exact h) (Or.inl ⟨by rfl, ?hy8⟩) (by assumption) ?rest8
  case hy8 => (intro W hSW; (try dsimp only at hSW); go_simp; try with_reducible rfl)
  try simp only [Act.put, List.setIfInBounds_toArray, List.set_cons_zero, List.set_cons_succ]
  refine wpAnyH_take (i := 8) (v := ?v9) (by rw [List.getElem?_toArray]; rfl) (by kernel_rfl) (by kernel_rfl) (by kernel_rfl) (by intro _ _ _ h; exact h) (Or.inl ⟨by rfl, ?hy9⟩) (by assumption) ?rest9
  case hy9 => (intro W hSW; (try dsimp only at hSW); go_simp; try with_reducible rfl)
  try simp only [Act.put, List.setIfInBounds_toArray, List.set_cons_zero, List.set_cons_succ]
  refine wpAnyH_take (i := 10) (v := ?v10) (by rw [List.getElem?_toArray]; rfl) (by kernel_rfl) (by kernel_rfl) (by kernel_rfl) (by intro _ _ _ h; exact h) (Or.inl ⟨by rfl, ?hy10⟩) (by assumption) ?rest10
  case hy10 => (intro W hSW; (try dsimp only at hSW); go_simp; try with_reducible rfl)
  try simp only [Act.put, List.setIfInBounds_toArray, List.set_cons_zero, List.set_cons_succ]
  refine wpAnyH_take (i := 11) (v := ?v11) (by rw [List.getElem?_toArray]; rfl) (by kernel_rfl) (by kernel_rfl) (by kernel_rfl) (by intro _ _ _ h; exact h) (Or.inl ⟨by rfl, ?hy11⟩) (by assumption) ?rest11
  case hy11 => (intro W hSW; (try dsimp only at hSW); go_simp; try with_reducible rfl)
  try simp only [Act.put, List.setIfInBounds_toArray, List.set_cons_zero, List.set_cons_succ]
  refine wpAnyH_take (i := 12) (v := ?v12) (by rw [List.getElem?_toArray]; rfl) (by kernel_rfl) (by kernel_rfl) (by kernel_rfl) (by intro _ _ _ h; exact h) (Or.inl ⟨by rfl, ?hy12⟩) (by assumption) ?rest12
  case hy12 => (intro W hSW; (try dsimp only at hSW); go_simp; try with_reducible rfl)
  try simp only [Act.put, List.setIfInBounds_toArray, List.set_cons_zero, List.set_cons_succ]
  refine wpAnyH_take (i := 13) (v := ?v13) (by rw [List.getElem?_toArray]; rfl) (by kernel_rfl) (by kernel_rfl) (by kernel_rfl) (by intro _ _ _ h; exact h) (Or.inl ⟨by rfl, ?hy13⟩) (by assumption) ?rest13
  case hy13 => (intro W hSW; (try dsimp only at hSW); go_simp; try with_reducible rfl)
  try simp only [Act.put, List.setIfInBounds_toArray, List.set_cons_zero, List.set_cons_succ]
  refine wpAnyH_take (i := 15) (v := ?v14) (by rw [List.getElem?_toArray]; rfl) (by kernel_rfl) (by kernel_rfl) (by kernel_rfl) (by intro _ _ _ h; exact h) (Or.inl ⟨by rfl, ?hy14⟩) (by assumption) ?rest14
  case hy14 => (intro W hSW; (try dsimp only at hSW); go_simp; try with_reducible rfl)
  try simp only [Act.put, List.setIfInBounds_toArray, List.set_cons_zero, List.set_cons_succ]
  refine wpAnyH_take (i := 16) (v := ?v15) (by rw [List.getElem?_toArray]; rfl) (by kernel_rfl) (by kernel_rfl) (by kernel_rfl) (by intro _ _ _ h; exact h) (Or.inl ⟨by rfl, ?hy15⟩) (by assumption) ?rest15
  case hy15 => (intro W hSW; (try dsimp only at hSW); go_simp; try with_reducible rfl)
  try simp only [Act.put, List.setIfInBounds_toArray, List.set_cons_zero, List.set_cons_succ]
  refine wpAnyH_take (i := 17) (v := ?v16) (by rw [List.getElem?_toArray]; rfl) (by kernel_rfl) (by kernel_rfl) (by kernel_rfl) (by intro _ _ _ h; exact h) (Or.inl ⟨by rfl, ?hy16⟩) (by assumption) ?rest16
  case hy16 => (intro W hSW; (try dsimp only at hSW); go_simp; try with_reducible rfl)
  try simp only [Act.put, List.setIfInBounds_toArray, List.set_cons_zero, List.set_cons_succ]
  refine wpAnyH_take (i := 18) (v := ?v17) (by rw [List.getElem?_toArray]; rfl) (by kernel_rfl) (by kernel_rfl) (by kernel_rfl) (by intro _ _ _ h; exact h) (Or.inl ⟨by rfl, ?hy17⟩) (by assumption) ?rest17
  case hy17 => (intro W hSW; (try dsimp only at hSW); go_simp; try with_reducible rfl)
  try simp only [Act.put, List.setIfInBounds_toArray, List.set_cons_zero, List.set_cons_succ]
  refine wpAnyH_ready (rs := [9]) (by kernel_rfl) (by simp) (AllReadyH.cons (by rw [List.getElem?_toArray]; rfl) (fun K hK => ?_) AllReadyH.nil)
  go_simp
  refine (HBk.out _ PP.out.p.bk).mono ?_
  rintro e w4 ⟨a, rfl, hf, hbk, hb⟩
  have FA : Hid (a.from_ w3.heap.size) := Lib.hid hf
  have BK := Lib.hid hbk
  have Z43 : Hid (w3.heap.size ≤ w4.heap.size) := Lib.hid hb.size
  have AL := Lib.hid (fun i (hi : a.has i) => book_lt hbk hi)
  replace PP := Lib.hid (PP.out.step hb)
  replace KK := Lib.hid (KK.out.step hb)
  replace hS := CC.out _ PP.out
  clear hf hbk hb
  refine hK.out _ _ hS (fun _ => ?_)
  clear hK K
  try simp only [List.setIfInBounds_toArray, List.set_cons_zero, List.set_cons_succ]
  refine wpAnyH_ready (rs := [14]) (by kernel_rfl) (by simp) (AllReadyH.cons (by rw [List.getElem?_toArray]; rfl) (fun K hK => ?_) AllReadyH.nil)
  go_simp
  refine (HRc.out _ PP.out.p).mono ?_
  rintro e w5 ⟨ar, cr, rfl, hr, hb⟩
  have RR := Lib.hid hr
  replace PP := Lib.hid (PP.out.step hb)
  replace KK := Lib.hid (KK.out.step hb)
  replace BK := Lib.hid (BK.out.step hb)
  replace hS := CC.out _ PP.out
  have Z5 : Hid (w4.heap.size ≤ w5.heap.size) := Lib.hid hb.size
  clear hr hb
  refine hK.out _ _ hS (fun _ => ?_)
  clear hK K
  try simp only [List.setIfInBounds_toArray, List.set_cons_zero, List.set_cons_succ]
  refine wpAnyH_ready (rs := [19]) (by kernel_rfl) (by simp) (AllReadyH.cons (by rw [List.getElem?_toArray]; rfl) (fun K hK => ?_) AllReadyH.nil)
  go_simp
  refine (HVr.out _ PP.out.p).mono ?_
  rintro e w6 ⟨av, cv, rfl, hr, hb⟩
  have VR := Lib.hid hr
  replace PP := Lib.hid (PP.out.step hb)
  replace KK := Lib.hid (KK.out.step hb)
  replace BK := Lib.hid (BK.out.step hb)
  replace RR := Lib.hid (DbE.own_step RR.out hb)
  replace hS := CC.out _ PP.out
  have b7 := below_new w6 (.cells #[.int .i64 m.b, .int .i64 m.lb, .int .i64 m.f, .pointer (some ⟨Kb, 0, none⟩), .pointer (some ⟨a.b, 0, none⟩), .slice ar m.l.length cr, .slice av m.vs.length cv] 68)
  have hS3 := CC.out _ (PP.out.step b7)
  clear hr hb
  refine hK.out _ _ hS (fun _ => ?_)
  clear hK K
  try simp only [List.setIfInBounds_toArray, List.set_cons_zero, List.set_cons_succ]
  refine wpAnyH_take (i := 20) (v := ?v18) (by rw [List.getElem?_toArray]; rfl) (by kernel_rfl) (by kernel_rfl) (by kernel_rfl) (by intro _ _ _ h; exact h) (Or.inl ⟨by rfl, ?hy18⟩) (by assumption) ?rest18
  case hy18 => (intro W hSW; (try dsimp only at hSW); go_simp; try with_reducible rfl)
  try simp only [Act.put, List.setIfInBounds_toArray, List.set_cons_zero, List.set_cons_succ]
  refine wpAnyH_ready (rs := [21]) (by kernel_rfl) (by simp) (AllReadyH.cons (by rw [List.getElem?_toArray]; rfl) (fun K hK => ?_) AllReadyH.nil)
  go_simp
  refine hK.out _ _ hS3 (fun _ => ?_)
  clear hK K
  try simp only [List.setIfInBounds_toArray, List.set_cons_zero, List.set_cons_succ]
  refine wpAnyH_take (i := 22) (v := ?v19) (by rw [List.getElem?_toArray]; rfl) (by kernel_rfl) (by kernel_rfl) (by kernel_rfl) (by intro _ _ _ h; exact h) (Or.inl ⟨by rfl, ?hy19⟩) (by assumption) ?rest19
  case hy19 => (intro W hSW; (try dsimp only at hSW); go_simp; try with_reducible rfl)
  try simp only [Act.put, List.setIfInBounds_toArray, List.set_cons_zero, List.set_cons_succ]
  refine wpAnyH_done (by kernel_rfl) ?_ _
  go_wp2
  go_ret
  have q1 := KL.out
  have q3 := KL3.out
  have q4 := HBs.out
  have q5 := Z5.out
  have q6 := Z43.out
  have fa : ∀ i, a.has i → w3.heap.size ≤ i ∧ i < w4.heap.size := fun i hi => ⟨FA.out.le hi, AL.out i hi⟩
  have fr : ∀ j, blk ar = some j → w4.heap.size ≤ j := fun j hj => (own_lt RR.out hj).1
  have fv : ∀ j, blk av = some j → w5.heap.size ≤ j := fun j hj => (own_lt VR.out hj).1
  refine ⟨w6, Kb, a, ar, cr, av, cv, rfl, rfl, ⟨by rw [HCK.out]; exact KK.out, BK.out, own_less RR.out (by omega), own_less VR.out (by omega), by omega, fun i hi => by have := (fa i hi).1; omega, fun i j hj hi => ?_, fun i j hj hi => ?_⟩, fun j hj => by have := fr j hj; omega, fun j hj => by have := fv j hj; omega, PP.out.bel⟩
  · have := fr j hj
    rcases hi with rfl | hi
    · omega
    · have := (fa i hi).2; omega
  · have := fv j hj
    rcases hi with rfl | hi
    · omega
    · have := (fa i hi).2; omega
set_option maxRecDepth 100000 in
set_option maxHeartbeats 4000000 in
/-- THE CONTRACT of Copy. -/
theorem Copy (h : Pg base A m w) : Calls Tryz.prog 16 #[.pointer (some ⟨A.x, 0, none⟩)] w fun x w' => ∃ A' : Pm, x = .returned (.pointer (some ⟨A'.x, 0, none⟩)) ∧ Pg base A' m w' ∧ (∀ k, A'.foot k → w.heap.size ≤ k) ∧ Below w.heap.size w w' := by
  have HH := Lib.hid h
  have HN := Lib.hid (isNone_no h)
  have HC := Lib.hid (copied h)
  have k0 := h.xcell
  clear h
  go_enter Tryz.func16, Tryz.ntmps16
  go_wp2_with (first
    | (go_at_call 26; refine HN.out.mono ?_; rintro e _ ⟨rfl, rfl⟩)
    | (go_at_call 40; refine HC.out.mono ?_; rintro e w2 ⟨W, Kb, a, ar, cr, av, cv, rfl, rfl, hp, hr, hv, hb⟩; have PP := Lib.hid hp; have RR := Lib.hid hr; have VV := Lib.hid hv; have BB := Lib.hid hb; clear hp hr hv hb))
  go_ret
  have hs := BB.out.size
  obtain ⟨W', e, q1, q2, q3⟩ := pt_pg PP.out HH.out.size HH.out.ok HH.out.ep HH.out.lo (HH.out.gd.below BB.out HH.out.size) RR.out VV.out hs
  have hz : (W.alloc (.cells #[.int .i64 m.b, .int .i64 m.lb, .int .i64 m.f, .pointer (some ⟨Kb, 0, none⟩), .pointer (some ⟨a.b, 0, none⟩), .slice ar m.l.length cr, .slice av m.vs.length cv] 68)).heap.size = W.heap.size + 1 := by simp
  rw [e] at q1 q3
  exact ⟨⟨W.heap.size + 1, W.heap.size, Kb, a, ar, cr, av, cv⟩, by simp, q1, q2, BB.out.trans (q3.mono hs)⟩
set_option maxRecDepth 100000 in
set_option maxHeartbeats 4000000 in
theorem Records (h : Pg base A m w) : Calls Tryz.prog 21 #[.pointer (some ⟨A.x, 0, none⟩)] w fun x w' => ∃ a' c', x = .returned (.slice a' m.l.length c') ∧ w'.ownsRow w.heap.size 82 8 (.slice a' m.l.length c') m.l.length (rr m.l) ∧ Below w.heap.size w w' := by
  have HN := Lib.hid (isNone_no h)
  have HC := Lib.hid (Clone_rec A.ar m.l.length A.cr m.l w h.rl rfl (by have := h.ok.lens; omega))
  have k0 := h.xcell
  obtain ⟨_, _, _, _, _, c5, _⟩ := h.cells
  clear h
  go_enter Tryz.func21, Tryz.ntmps21
  go_wp2_with (first
    | (go_at_call 26; refine HN.out.mono ?_; rintro e _ ⟨rfl, rfl⟩)
    | (go_at_call 45; refine HC.out.mono ?_; rintro e w2 ⟨a', c', rfl, ho, hb⟩; have OO := Lib.hid ho; have BB := Lib.hid hb; clear ho hb))
  go_ret
  exact ⟨a', c', rfl, OO.out, BB.out⟩
end Go.Proofs.YtopnodkdpehdoaaGreatDoor.PgK
/- The program's Same, of two models that are the same: the walks of its texts. No conditions but those that each lemma names. -/
namespace Go.Proofs.YtopnodkdpehdoaaGreatDoor.PgY
set_option linter.unusedVariables false
open Go.RowKit
open RecN RecC RetN RetC RetR DbN DbA MdN MdO MdC MdG AnsC PgN PgC PgI PgW PgX PgA PgR PgS PgM PgT PgD PgE PgL PgK
/-- Two models of the same. -/
structure Bo (base : Nat) (A B : Pm) (m : Mo) (w W : World) : Prop where
  a : Pg base A m W
  b : Pg base B m W
  bel : Below w.heap.size w W
variable {base : Nat} {A B : Pm} {m : Mo} {w : World}
theorem Bo.step {W W' : World} (h : Bo base A B m w W) (hb : Below W.heap.size W W') : Bo base A B m w W' := ⟨h.a.step hb, h.b.step hb, h.bel.trans (hb.mono h.bel.size)⟩
/-- What of both is read. -/
def Cs (A B : Pm) (m : Mo) (W : World) : Prop := (W.cell? ⟨A.y, 0, none⟩ = some (.int .i64 m.b) ∧ W.cell? ⟨A.y, 1, none⟩ = some (.int .i64 m.lb) ∧ W.cell? ⟨A.y, 2, none⟩ = some (.int .i64 m.f) ∧ W.cell? ⟨A.y, 3, none⟩ = some (.pointer (some ⟨A.k, 0, none⟩)) ∧ W.cell? ⟨A.y, 5, none⟩ = some (.slice A.ar m.l.length A.cr) ∧ W.cell? ⟨A.y, 6, none⟩ = some (.slice A.av m.vs.length A.cv)) ∧ W.cell? ⟨B.y, 0, none⟩ = some (.int .i64 m.b) ∧ W.cell? ⟨B.y, 1, none⟩ = some (.int .i64 m.lb) ∧ W.cell? ⟨B.y, 2, none⟩ = some (.int .i64 m.f) ∧ W.cell? ⟨B.y, 3, none⟩ = some (.pointer (some ⟨B.k, 0, none⟩)) ∧ W.cell? ⟨B.y, 5, none⟩ = some (.slice B.ar m.l.length B.cr) ∧ W.cell? ⟨B.y, 6, none⟩ = some (.slice B.av m.vs.length B.cv)
theorem Bo.cs {W : World} (h : Bo base A B m w W) : Cs A B m W := by
  obtain ⟨a0, a1, a2, a3, _, a5, a6⟩ := h.a.cells
  obtain ⟨b0, b1, b2, b3, _, b5, b6⟩ := h.b.cells
  exact ⟨⟨a0, a1, a2, a3, a5, a6⟩, b0, b1, b2, b3, b5, b6⟩
theorem drewN_below (w : World) (n : Nat) : Below w.heap.size w (w.drewN n) := ⟨rfl, rfl, rfl, Nat.le_refl _, fun _ _ => rfl⟩
set_option maxRecDepth 100000 in
set_option maxHeartbeats 16000000 in
theorem same (ha : Pg base A m w) (hb : Pg base B m w) : Calls Tryz.prog 41 #[.pointer (some ⟨A.y, 0, none⟩), .pointer (some ⟨B.y, 0, none⟩)] w fun x w' => x = .returned (.bool true) ∧ Below w.heap.size w w' := by
  have BO : Hid (Bo base A B m w w.drew) := Lib.hid ⟨ha.drew, hb.drew, (Below.refl _ _).drew⟩
  have HA := Lib.hid (fun W (h : Bo base A B m w W) => PgS.Now h.a)
  have HB := Lib.hid (fun W (h : Bo base A B m w W) => PgS.Now h.b)
  have hlen := ha.ok.lens
  have HR := Lib.hid (fun W (h : Bo base A B m w W) => Equal_rec A.ar B.ar m.l.length A.cr B.cr m.l W h.a.rl h.b.rl rfl (by omega))
  have HV := Lib.hid (fun W (h : Bo base A B m w W) => Equal_ver A.av B.av m.vs.length A.cv B.cv m.vs W h.a.vl h.b.vl rfl (by omega))
  have hq := fun W => GeoC.run_eql_geo W m.b m.lb m.f m.b m.lb m.f true (by simp)
  have q1 : (m.ck == m.ck) = true := by simp
  have FL : Hid True := Lib.hid trivial
  have hS := BO.out.cs
  unfold Cs at hS
  clear ha hb hlen
  go_enter Tryz.func41, Tryz.ntmps41
  go_upto_region 1 with (fail)
  go_region_held3 (fun W => (W.cell? ⟨A.y, 0, none⟩ = some (.int .i64 m.b) ∧ W.cell? ⟨A.y, 1, none⟩ = some (.int .i64 m.lb) ∧ W.cell? ⟨A.y, 2, none⟩ = some (.int .i64 m.f) ∧ W.cell? ⟨A.y, 3, none⟩ = some (.pointer (some ⟨A.k, 0, none⟩)) ∧ W.cell? ⟨A.y, 5, none⟩ = some (.slice A.ar m.l.length A.cr) ∧ W.cell? ⟨A.y, 6, none⟩ = some (.slice A.av m.vs.length A.cv)) ∧ W.cell? ⟨B.y, 0, none⟩ = some (.int .i64 m.b) ∧ W.cell? ⟨B.y, 1, none⟩ = some (.int .i64 m.lb) ∧ W.cell? ⟨B.y, 2, none⟩ = some (.int .i64 m.f) ∧ W.cell? ⟨B.y, 3, none⟩ = some (.pointer (some ⟨B.k, 0, none⟩)) ∧ W.cell? ⟨B.y, 5, none⟩ = some (.slice B.ar m.l.length B.cr) ∧ W.cell? ⟨B.y, 6, none⟩ = some (.slice B.av m.vs.length B.cv))
    (exact hS) (first
      | (go_at_call 58; first | (clear FL; refine (HA.out _ BO.out).mono ?_; rintro e w2 ⟨rfl, hb⟩; replace BO := Lib.hid (BO.out.step hb); replace hS := BO.out.cs; unfold Cs at hS; clear hb; clear HA) | (refine (HB.out _ BO.out).mono ?_; rintro e w3 ⟨rfl, hb⟩; replace BO := Lib.hid (BO.out.step hb); replace hS := BO.out.cs; unfold Cs at hS; clear hb; clear HB))
      | (go_at_call 61; refine (HR.out _ BO.out).mono ?_; rintro e w4 ⟨rfl, k4, hw⟩; have hb := drewN_below w3 k4; rw [← hw] at hb; clear hw; replace BO := Lib.hid (BO.out.step hb); replace hS := BO.out.cs; unfold Cs at hS; clear hb)
      | (go_at_call 62; refine (HV.out _ BO.out).mono ?_; rintro e w5 ⟨rfl, k5, hw⟩; have hb := drewN_below w4 k5; rw [← hw] at hb; clear hw; replace BO := Lib.hid (BO.out.step hb); replace hS := BO.out.cs; unfold Cs at hS; clear hb))
  go_wp2
  go_ret
  exact ⟨rfl, BO.out.bel⟩
set_option maxRecDepth 100000 in
set_option maxHeartbeats 8000000 in
/-- THE CONTRACT of Same, of two that are the same. -/
theorem Same (ha : Pg base A m w) (hb : Pg base B m w) : Calls Tryz.prog 17 #[.pointer (some ⟨A.x, 0, none⟩), .pointer (some ⟨B.x, 0, none⟩)] w fun x w' => x = .returned (.bool true) ∧ Below w.heap.size w w' := by
  have BO : Hid (Bo base A B m w w.drew) := Lib.hid ⟨ha.drew, hb.drew, (Below.refl _ _).drew⟩
  have HA := Lib.hid (fun W (h : Bo base A B m w W) => isNone_no h.a)
  have HB := Lib.hid (fun W (h : Bo base A B m w W) => isNone_no h.b)
  have HS := Lib.hid (fun W (h : Bo base A B m w W) => same h.a h.b)
  have FL : Hid True := Lib.hid trivial
  have CS : Hid (∀ W, Bo base A B m w W → W.cell? ⟨A.x, 0, none⟩ = some (.pointer (some ⟨A.y, 0, none⟩)) ∧ W.cell? ⟨B.x, 0, none⟩ = some (.pointer (some ⟨B.y, 0, none⟩))) := Lib.hid (fun W h => ⟨h.a.xcell, h.b.xcell⟩)
  have hS := CS.out _ BO.out
  clear ha hb
  go_enter Tryz.func17, Tryz.ntmps17
  go_upto_region 1 with (fail)
  go_region_held3 (fun W => W.cell? ⟨A.x, 0, none⟩ = some (.pointer (some ⟨A.y, 0, none⟩)) ∧ W.cell? ⟨B.x, 0, none⟩ = some (.pointer (some ⟨B.y, 0, none⟩)))
    (exact hS) (first
      | (go_at_call 26; first | (clear FL; refine (HA.out _ BO.out).mono ?_; rintro e _ ⟨rfl, rfl⟩; clear HA) | (refine (HB.out _ BO.out).mono ?_; rintro e _ ⟨rfl, rfl⟩; clear HB))
      | (go_at_call 41; refine (HS.out _ BO.out).mono ?_; rintro e w2 ⟨rfl, hb⟩; replace BO := Lib.hid (BO.out.step hb); replace hS := CS.out _ BO.out; clear hb))
  go_wp2
  go_ret
  exact ⟨rfl, BO.out.bel⟩
end Go.Proofs.YtopnodkdpehdoaaGreatDoor.PgY
