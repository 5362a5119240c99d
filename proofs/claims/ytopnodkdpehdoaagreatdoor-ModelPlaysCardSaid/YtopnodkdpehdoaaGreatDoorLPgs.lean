/- PgS PgT: one behind the other. -/
import Derived.Test.YtopnodkdpehdoaaGreatDoorLPgw
import Derived.Test.YtopnodkdpehdoaaGreatDoorLMdi
import Derived.Test.YtopnodkdpehdoaaGreatDoorLPgc
/- The program's stat and blank: the walks of their texts. No conditions but those that each lemma names. -/
namespace Go.Proofs.YtopnodkdpehdoaaGreatDoor.PgS
set_option linter.unusedVariables false
open Go.RowKit
open RecN RecC RetN RetC RetR DbN DbA MdN MdO MdC MdG MdJ PgN PgC PgI PgW PgX PgA PgR
variable {base : Nat} {A : Pm} {m : Mo} {w : World}
theorem Now {W : World} (h : Pg base A m W) : Calls Tryz.prog 58 #[.pointer (some ⟨A.k, 0, none⟩)] W fun e w' => e = .returned (.int .i64 m.ck) ∧ Below W.heap.size W w' := CloM.Now A.k 0 m.ck W h.ck
set_option maxRecDepth 100000 in
set_option maxHeartbeats 16000000 in
theorem stat (h : Pg base A m w) : Calls Tryz.prog 49 #[.pointer (some ⟨A.y, 0, none⟩)] w fun x w' => x = .returned (.agg (stA (sta m))) ∧ Below w.heap.size w w' := by
  obtain ⟨W1, hW1⟩ : ∃ W1, W1 = w.alloc (.cells #[.int .i64 0, .int .i64 0, .int .i64 0, .int .i64 0, .int .i64 0, .int .i64 0] 37) := ⟨_, rfl⟩
  have BR : Hid (Below w.heap.size w W1.drew ∧ W1.drew.heap[w.heap.size]? = some (.cells #[.int .i64 0, .int .i64 0, .int .i64 0, .int .i64 0, .int .i64 0, .int .i64 0] 37 (0, 0))) := Lib.hid (by rw [hW1]; exact ⟨(below_new w _).drew, heap_alloc_new w _⟩)
  have HD := Lib.hid h
  have DD := Lib.hid (h.step BR.out.1)
  have HE := Lib.hid (fun W (h : Pg base A m W) => RetB.Epoch h.bk)
  have HNo := Lib.hid (fun W (h : Pg base A m W) => Now h)
  have HR := Lib.hid (fun W (h : Pg base A m W) => room h)
  have HP := Lib.hid (fun W (h : Pg base A m W) => places h m.f)
  have HH := Lib.hid (fun W (h : Pg base A m W) => RetB.Holds h.bk)
  have CC : Hid (∀ W, Pg base A m W → W.cell? ⟨A.y, 2, none⟩ = some (.int .i64 m.f) ∧ W.cell? ⟨A.y, 3, none⟩ = some (.pointer (some ⟨A.k, 0, none⟩)) ∧ W.cell? ⟨A.y, 4, none⟩ = some (.pointer (some ⟨A.a.b, 0, none⟩)) ∧ W.cell? ⟨A.y, 5, none⟩ = some (.slice A.ar m.l.length A.cr)) := Lib.hid (fun W h => ⟨h.cells.2.2.1, h.cells.2.2.2.1, h.cells.2.2.2.2.1, h.cells.2.2.2.2.2.1⟩)
  have hS := CC.out _ DD.out
  have e0 : sta m = ⟨m.s.ep, m.ck, rm m, m.l.length, plc m.vs m.f m.lb.toNat, m.s.hs.length⟩ := rfl
  rw [e0]
  clear h e0
  generalize m.s.ep = ep at *
  generalize rm m = q at *
  generalize plc m.vs m.f m.lb.toNat = pc at *
  generalize m.ck = ck at *
  generalize m.s.hs.length = hc at *
  go_enter Tryz.func49, Tryz.ntmps49
  go_upto_region 1 with (fail)
  rw [← hW1]
  clear hW1
  refine wp_region_held_drew (S := fun W => W.cell? ⟨A.y, 2, none⟩ = some (.int .i64 m.f) ∧ W.cell? ⟨A.y, 3, none⟩ = some (.pointer (some ⟨A.k, 0, none⟩)) ∧ W.cell? ⟨A.y, 4, none⟩ = some (.pointer (some ⟨A.a.b, 0, none⟩)) ∧ W.cell? ⟨A.y, 5, none⟩ = some (.slice A.ar m.l.length A.cr)) (by kernel_rfl) hS (fun _ => ?_)
  change wpAnyH _ _ _ _ _ _ #[false, false, false, false, false, false, false, false, false, false, false, false, false, false, false, false, false, false, false, false, false, false, false, false, false, false, false, false, false, false, false] _ _
  refine wpAnyH_take (i := 0) (v := ?v1) (by rw [List.getElem?_toArray]; rfl) (by kernel_rfl) (by kernel_rfl) (by kernel_rfl) (by intro _ _ _ h; exact h) (Or.inl ⟨by rfl, ?hy1⟩) (by assumption) ?rest1
  case hy1 => (intro W hSW; (try dsimp only at hSW); go_simp; try with_reducible rfl)
  try simp only [Act.put, List.setIfInBounds_toArray, List.set_cons_zero, List.set_cons_succ]
  refine wpAnyH_take (i := 1) (v := ?v2) (by rw [List.getElem?_toArray]; rfl) (by kernel_rfl) (by kernel_rfl) (by kernel_rfl) (by intro _ _ _ h; exact h) (Or.inl ⟨by rfl, ?hy2⟩) (by assumption) ?rest2
  case hy2 => (intro W hSW; (try dsimp only at hSW); go_simp; try with_reducible rfl)
  try simp only [Act.put, List.setIfInBounds_toArray, List.set_cons_zero, List.set_cons_succ]
  refine wpAnyH_take (i := 2) (v := ?v3) (by rw [List.getElem?_toArray]; rfl) (by kernel_rfl) (by kernel_rfl) (by kernel_rfl) (by intro _ _ _ h; exact h) (Or.inl ⟨by rfl, ?hy3⟩) (by assumption) ?rest3
  case hy3 => (intro W hSW; (try dsimp only at hSW); go_simp; try with_reducible rfl)
  try simp only [Act.put, List.setIfInBounds_toArray, List.set_cons_zero, List.set_cons_succ]
  refine wpAnyH_take (i := 3) (v := ?v4) (by rw [List.getElem?_toArray]; rfl) (by kernel_rfl) (by kernel_rfl) (by kernel_rfl) (by intro _ _ _ h; exact h) (Or.inl ⟨by rfl, ?hy4⟩) (by assumption) ?rest4
  case hy4 => (intro W hSW; (try dsimp only at hSW); go_simp; try with_reducible rfl)
  try simp only [Act.put, List.setIfInBounds_toArray, List.set_cons_zero, List.set_cons_succ]
  refine wpAnyH_take (i := 5) (v := ?v5) (by rw [List.getElem?_toArray]; rfl) (by kernel_rfl) (by kernel_rfl) (by kernel_rfl) (by intro _ _ _ h; exact h) (Or.inl ⟨by rfl, ?hy5⟩) (by assumption) ?rest5
  case hy5 => (intro W hSW; (try dsimp only at hSW); go_simp; try with_reducible rfl)
  try simp only [Act.put, List.setIfInBounds_toArray, List.set_cons_zero, List.set_cons_succ]
  refine wpAnyH_take (i := 6) (v := ?v6) (by rw [List.getElem?_toArray]; rfl) (by kernel_rfl) (by kernel_rfl) (by kernel_rfl) (by intro _ _ _ h; exact h) (Or.inl ⟨by rfl, ?hy6⟩) (by assumption) ?rest6
  case hy6 => (intro W hSW; (try dsimp only at hSW); go_simp; try with_reducible rfl)
  try simp only [Act.put, List.setIfInBounds_toArray, List.set_cons_zero, List.set_cons_succ]
  refine wpAnyH_take (i := 7) (v := ?v7) (by rw [List.getElem?_toArray]; rfl) (by kernel_rfl) (by kernel_rfl) (by kernel_rfl) (by intro _ _ _ h; exact h) (Or.inl ⟨by rfl, ?hy7⟩) (by assumption) ?rest7
  case hy7 => (intro W hSW; (try dsimp only at hSW); go_simp; try with_reducible rfl)
  try simp only [Act.put, List.setIfInBounds_toArray, List.set_cons_zero, List.set_cons_succ]
  refine wpAnyH_take (i := 8) (v := ?v8) (by rw [List.getElem?_toArray]; rfl) (by kernel_rfl) (by kernel_rfl) (by kernel_rfl) (by intro _ _ _ h; exact h) (Or.inl ⟨by rfl, ?hy8⟩) (by assumption) ?rest8
  case hy8 => (intro W hSW; (try dsimp only at hSW); go_simp; try with_reducible rfl)
  try simp only [Act.put, List.setIfInBounds_toArray, List.set_cons_zero, List.set_cons_succ]
  refine wpAnyH_take (i := 10) (v := ?v9) (by rw [List.getElem?_toArray]; rfl) (by kernel_rfl) (by kernel_rfl) (by kernel_rfl) (by intro _ _ _ h; exact h) (Or.inl ⟨by rfl, ?hy9⟩) (by assumption) ?rest9
  case hy9 => (intro W hSW; (try dsimp only at hSW); go_simp; try with_reducible rfl)
  try simp only [Act.put, List.setIfInBounds_toArray, List.set_cons_zero, List.set_cons_succ]
  refine wpAnyH_take (i := 12) (v := ?v10) (by rw [List.getElem?_toArray]; rfl) (by kernel_rfl) (by kernel_rfl) (by kernel_rfl) (by intro _ _ _ h; exact h) (Or.inl ⟨by rfl, ?hy10⟩) (by assumption) ?rest10
  case hy10 => (intro W hSW; (try dsimp only at hSW); go_simp; try with_reducible rfl)
  try simp only [Act.put, List.setIfInBounds_toArray, List.set_cons_zero, List.set_cons_succ]
  refine wpAnyH_take (i := 13) (v := ?v11) (by rw [List.getElem?_toArray]; rfl) (by kernel_rfl) (by kernel_rfl) (by kernel_rfl) (by intro _ _ _ h; exact h) (Or.inl ⟨by rfl, ?hy11⟩) (by assumption) ?rest11
  case hy11 => (intro W hSW; (try dsimp only at hSW); go_simp; try with_reducible rfl)
  try simp only [Act.put, List.setIfInBounds_toArray, List.set_cons_zero, List.set_cons_succ]
  refine wpAnyH_take (i := 14) (v := ?v12) (by rw [List.getElem?_toArray]; rfl) (by kernel_rfl) (by kernel_rfl) (by kernel_rfl) (by intro _ _ _ h; exact h) (Or.inl ⟨by rfl, ?hy12⟩) (by assumption) ?rest12
  case hy12 => (intro W hSW; (try dsimp only at hSW); go_simp; try with_reducible rfl)
  try simp only [Act.put, List.setIfInBounds_toArray, List.set_cons_zero, List.set_cons_succ]
  refine wpAnyH_take (i := 15) (v := ?v13) (by rw [List.getElem?_toArray]; rfl) (by kernel_rfl) (by kernel_rfl) (by kernel_rfl) (by intro _ _ _ h; exact h) (Or.inl ⟨by rfl, ?hy13⟩) (by assumption) ?rest13
  case hy13 => (intro W hSW; (try dsimp only at hSW); go_simp; try with_reducible rfl)
  try simp only [Act.put, List.setIfInBounds_toArray, List.set_cons_zero, List.set_cons_succ]
  refine wpAnyH_take (i := 16) (v := ?v14) (by rw [List.getElem?_toArray]; rfl) (by kernel_rfl) (by kernel_rfl) (by kernel_rfl) (by intro _ _ _ h; exact h) (Or.inl ⟨by rfl, ?hy14⟩) (by assumption) ?rest14
  case hy14 => (intro W hSW; (try dsimp only at hSW); go_simp; try with_reducible rfl)
  try simp only [Act.put, List.setIfInBounds_toArray, List.set_cons_zero, List.set_cons_succ]
  refine wpAnyH_take (i := 17) (v := ?v15) (by rw [List.getElem?_toArray]; rfl) (by kernel_rfl) (by kernel_rfl) (by kernel_rfl) (by intro _ _ _ h; exact h) (Or.inl ⟨by rfl, ?hy15⟩) (by assumption) ?rest15
  case hy15 => (intro W hSW; (try dsimp only at hSW); go_simp; try with_reducible rfl)
  try simp only [Act.put, List.setIfInBounds_toArray, List.set_cons_zero, List.set_cons_succ]
  refine wpAnyH_take (i := 18) (v := ?v16) (by rw [List.getElem?_toArray]; rfl) (by kernel_rfl) (by kernel_rfl) (by kernel_rfl) (by intro _ _ _ h; exact h) (Or.inl ⟨by rfl, ?hy16⟩) (by assumption) ?rest16
  case hy16 => (intro W hSW; (try dsimp only at hSW); go_simp; try with_reducible rfl)
  try simp only [Act.put, List.setIfInBounds_toArray, List.set_cons_zero, List.set_cons_succ]
  refine wpAnyH_take (i := 19) (v := ?v17) (by rw [List.getElem?_toArray]; rfl) (by kernel_rfl) (by kernel_rfl) (by kernel_rfl) (by intro _ _ _ h; exact h) (Or.inl ⟨by rfl, ?hy17⟩) (by assumption) ?rest17
  case hy17 => (intro W hSW; (try dsimp only at hSW); go_simp; try with_reducible rfl)
  try simp only [Act.put, List.setIfInBounds_toArray, List.set_cons_zero, List.set_cons_succ]
  refine wpAnyH_take (i := 20) (v := ?v18) (by rw [List.getElem?_toArray]; rfl) (by kernel_rfl) (by kernel_rfl) (by kernel_rfl) (by intro _ _ _ h; exact h) (Or.inl ⟨by rfl, ?hy18⟩) (by assumption) ?rest18
  case hy18 => (intro W hSW; (try dsimp only at hSW); go_simp; try with_reducible rfl)
  try simp only [Act.put, List.setIfInBounds_toArray, List.set_cons_zero, List.set_cons_succ]
  refine wpAnyH_take (i := 21) (v := ?v19) (by rw [List.getElem?_toArray]; rfl) (by kernel_rfl) (by kernel_rfl) (by kernel_rfl) (by intro _ _ _ h; exact h) (Or.inl ⟨by rfl, ?hy19⟩) (by assumption) ?rest19
  case hy19 => (intro W hSW; (try dsimp only at hSW); go_simp; try with_reducible rfl)
  try simp only [Act.put, List.setIfInBounds_toArray, List.set_cons_zero, List.set_cons_succ]
  refine wpAnyH_take (i := 22) (v := ?v20) (by rw [List.getElem?_toArray]; rfl) (by kernel_rfl) (by kernel_rfl) (by kernel_rfl) (by intro _ _ _ h; exact h) (Or.inl ⟨by rfl, ?hy20⟩) (by assumption) ?rest20
  case hy20 => (intro W hSW; (try dsimp only at hSW); go_simp; try with_reducible rfl)
  try simp only [Act.put, List.setIfInBounds_toArray, List.set_cons_zero, List.set_cons_succ]
  refine wpAnyH_take (i := 24) (v := ?v21) (by rw [List.getElem?_toArray]; rfl) (by kernel_rfl) (by kernel_rfl) (by kernel_rfl) (by intro _ _ _ h; exact h) (Or.inl ⟨by rfl, ?hy21⟩) (by assumption) ?rest21
  case hy21 => (intro W hSW; (try dsimp only at hSW); go_simp; try with_reducible rfl)
  try simp only [Act.put, List.setIfInBounds_toArray, List.set_cons_zero, List.set_cons_succ]
  refine wpAnyH_take (i := 25) (v := ?v22) (by rw [List.getElem?_toArray]; rfl) (by kernel_rfl) (by kernel_rfl) (by kernel_rfl) (by intro _ _ _ h; exact h) (Or.inl ⟨by rfl, ?hy22⟩) (by assumption) ?rest22
  case hy22 => (intro W hSW; (try dsimp only at hSW); go_simp; try with_reducible rfl)
  try simp only [Act.put, List.setIfInBounds_toArray, List.set_cons_zero, List.set_cons_succ]
  refine wpAnyH_take (i := 26) (v := ?v23) (by rw [List.getElem?_toArray]; rfl) (by kernel_rfl) (by kernel_rfl) (by kernel_rfl) (by intro _ _ _ h; exact h) (Or.inl ⟨by rfl, ?hy23⟩) (by assumption) ?rest23
  case hy23 => (intro W hSW; (try dsimp only at hSW); go_simp; try with_reducible rfl)
  try simp only [Act.put, List.setIfInBounds_toArray, List.set_cons_zero, List.set_cons_succ]
  refine wpAnyH_take (i := 27) (v := ?v24) (by rw [List.getElem?_toArray]; rfl) (by kernel_rfl) (by kernel_rfl) (by kernel_rfl) (by intro _ _ _ h; exact h) (Or.inl ⟨by rfl, ?hy24⟩) (by assumption) ?rest24
  case hy24 => (intro W hSW; (try dsimp only at hSW); go_simp; try with_reducible rfl)
  try simp only [Act.put, List.setIfInBounds_toArray, List.set_cons_zero, List.set_cons_succ]
  refine wpAnyH_ready (rs := [4]) (by kernel_rfl) (by simp) (AllReadyH.cons (by rw [List.getElem?_toArray]; rfl) (fun K hK => ?_) AllReadyH.nil)
  go_simp
  refine (HE.out _ DD.out).mono ?_
  rintro e _ ⟨rfl, rfl⟩
  refine hK.out _ _ hS (fun _ => ?_)
  clear hK K
  try simp only [List.setIfInBounds_toArray, List.set_cons_zero, List.set_cons_succ]
  refine wpAnyH_ready (rs := [9]) (by kernel_rfl) (by simp) (AllReadyH.cons (by rw [List.getElem?_toArray]; rfl) (fun K hK => ?_) AllReadyH.nil)
  go_simp
  refine (HNo.out _ DD.out).mono ?_
  rintro e wn ⟨rfl, hb⟩
  replace BR := Lib.hid (And.intro (BR.out.1.trans (hb.mono BR.out.1.size)) ((hb.block _ (RecC.lt_of_some BR.out.2)).trans BR.out.2))
  replace DD := Lib.hid (DD.out.step hb)
  replace hS := CC.out _ DD.out
  clear hb
  refine hK.out _ _ hS (fun _ => ?_)
  clear hK K
  try simp only [List.setIfInBounds_toArray, List.set_cons_zero, List.set_cons_succ]
  refine wpAnyH_ready (rs := [11]) (by kernel_rfl) (by simp) (AllReadyH.cons (by rw [List.getElem?_toArray]; rfl) (fun K hK => ?_) AllReadyH.nil)
  go_simp
  refine (HR.out _ DD.out).mono ?_
  rintro e wn ⟨rfl, hb⟩
  replace BR := Lib.hid (And.intro (BR.out.1.trans (hb.mono BR.out.1.size)) ((hb.block _ (RecC.lt_of_some BR.out.2)).trans BR.out.2))
  replace DD := Lib.hid (DD.out.step hb)
  replace hS := CC.out _ DD.out
  clear hb
  refine hK.out _ _ hS (fun _ => ?_)
  clear hK K
  try simp only [List.setIfInBounds_toArray, List.set_cons_zero, List.set_cons_succ]
  refine wpAnyH_ready (rs := [23]) (by kernel_rfl) (by simp) (AllReadyH.cons (by rw [List.getElem?_toArray]; rfl) (fun K hK => ?_) AllReadyH.nil)
  go_simp
  refine (HP.out _ DD.out).mono ?_
  rintro e wn ⟨rfl, hb⟩
  replace BR := Lib.hid (And.intro (BR.out.1.trans (hb.mono BR.out.1.size)) ((hb.block _ (RecC.lt_of_some BR.out.2)).trans BR.out.2))
  replace DD := Lib.hid (DD.out.step hb)
  replace hS := CC.out _ DD.out
  clear hb
  refine hK.out _ _ hS (fun _ => ?_)
  clear hK K
  try simp only [List.setIfInBounds_toArray, List.set_cons_zero, List.set_cons_succ]
  refine wpAnyH_ready (rs := [28]) (by kernel_rfl) (by simp) (AllReadyH.cons (by rw [List.getElem?_toArray]; rfl) (fun K hK => ?_) AllReadyH.nil)
  go_simp
  refine (HH.out _ DD.out).mono ?_
  rintro e _ ⟨rfl, rfl⟩
  refine hK.out _ _ hS (fun _ => ?_)
  clear hK K
  try simp only [List.setIfInBounds_toArray, List.set_cons_zero, List.set_cons_succ]
  refine wpAnyH_take (i := 29) (v := ?v25) (by rw [List.getElem?_toArray]; rfl) (by kernel_rfl) (by kernel_rfl) (by kernel_rfl) (by intro _ _ _ h; exact h) (Or.inl ⟨by rfl, ?hy25⟩) (by assumption) ?rest25
  case hy25 => (intro W hSW; (try dsimp only at hSW); go_simp; try with_reducible rfl)
  try simp only [Act.put, List.setIfInBounds_toArray, List.set_cons_zero, List.set_cons_succ]
  refine wpAnyH_ready (rs := [30]) (by kernel_rfl) (by simp) (AllReadyH.cons (by rw [List.getElem?_toArray]; rfl) (fun K hK => ?_) AllReadyH.nil)
  rw [if_pos (by rfl)]
  refine wp_store_row 37 _ _ rfl w.heap.size #[.int .i64 ep, .int .i64 ck, .int .i64 q, .int .i64 m.l.length, .int .i64 (pc : Nat), .int .i64 (hc : Nat)] rfl rfl 37 #[.int .i64 0, .int .i64 0, .int .i64 0, .int .i64 0, .int .i64 0, .int .i64 0] BR.out.2 infoS rfl (one6 _ _ _ _ _ _) ?_
  have bs := below_setRow BR.out.1 (Nat.le_refl _) #[.int .i64 ep, .int .i64 ck, .int .i64 q, .int .i64 m.l.length, .int .i64 (pc : Nat), .int .i64 (hc : Nat)]
  have cs := setRow_same (cs := #[.int .i64 ep, .int .i64 ck, .int .i64 q, .int .i64 m.l.length, .int .i64 (pc : Nat), .int .i64 (hc : Nat)]) BR.out.2
  have D9 := HD.out.step bs
  replace hS := CC.out _ D9
  refine hK.out _ _ hS (fun _ => ?_)
  clear hK K
  try simp only [List.setIfInBounds_toArray, List.set_cons_zero, List.set_cons_succ]
  refine wpAnyH_done (by kernel_rfl) ?_ _
  go_wp2
  exact bodyPost_ret (v := .agg #[.int .i64 ep, .int .i64 ck, .int .i64 q, .int .i64 m.l.length, .int .i64 (pc : Nat), .int .i64 (hc : Nat)])
    (results_cell_row Tryz.results49 _ _ w.heap.size 37 _ (0, 0) _ rfl cs Tryz.underlying37 rfl infoS) rfl ⟨rfl, bs⟩
/-- A record that is sealed now, and tells nothing more yet. -/
def blankR (m : Mo) : Rec := ⟨0, m.s.ep, m.ck, 0, 0, 0, [], []⟩
set_option maxRecDepth 100000 in
set_option maxHeartbeats 8000000 in
theorem blank (h : Pg base A m w) : Calls Tryz.prog 90 #[.pointer (some ⟨A.y, 0, none⟩)] w fun x w' => x = .returned (.agg #[.int .i64 0, .int .i64 m.s.ep, .int .i64 m.ck, .int .i64 0, .int .i64 0, .int .i64 0, .string ⟨#[]⟩, .string ⟨#[]⟩]) ∧ Below w.heap.size w w' := by
  obtain ⟨W1, hW1⟩ : ∃ W1, W1 = w.alloc (.cells #[.int .i64 0, .int .i64 0, .int .i64 0, .int .i64 0, .int .i64 0, .int .i64 0, .string ⟨#[]⟩, .string ⟨#[]⟩] 82) := ⟨_, rfl⟩
  have BR : Hid (Below w.heap.size w W1.drew ∧ W1.drew.heap[w.heap.size]? = some (.cells #[.int .i64 0, .int .i64 0, .int .i64 0, .int .i64 0, .int .i64 0, .int .i64 0, .string ⟨#[]⟩, .string ⟨#[]⟩] 82 (0, 0))) := Lib.hid (by rw [hW1]; exact ⟨(below_new w _).drew, heap_alloc_new w _⟩)
  have HD := Lib.hid h
  have DD := Lib.hid (h.step BR.out.1)
  have HE := Lib.hid (fun W (h : Pg base A m W) => RetB.Epoch h.bk)
  have HNo := Lib.hid (fun W (h : Pg base A m W) => Now h)
  have CC : Hid (∀ W, Pg base A m W → W.cell? ⟨A.y, 3, none⟩ = some (.pointer (some ⟨A.k, 0, none⟩)) ∧ W.cell? ⟨A.y, 4, none⟩ = some (.pointer (some ⟨A.a.b, 0, none⟩))) := Lib.hid (fun W h => ⟨h.cells.2.2.2.1, h.cells.2.2.2.2.1⟩)
  have hS := CC.out _ DD.out
  clear h
  generalize m.s.ep = ep at *
  generalize m.ck = ck at *
  go_enter Tryz.func90, Tryz.ntmps90
  go_upto_region 1 with (fail)
  rw [← hW1]
  clear hW1
  refine wp_region_held_drew (S := fun W => W.cell? ⟨A.y, 3, none⟩ = some (.pointer (some ⟨A.k, 0, none⟩)) ∧ W.cell? ⟨A.y, 4, none⟩ = some (.pointer (some ⟨A.a.b, 0, none⟩))) (by kernel_rfl) hS (fun _ => ?_)
  change wpAnyH _ _ _ _ _ _ #[false, false, false, false, false, false, false, false, false, false, false, false] _ _
  refine wpAnyH_take (i := 0) (v := ?v1) (by rw [List.getElem?_toArray]; rfl) (by kernel_rfl) (by kernel_rfl) (by kernel_rfl) (by intro _ _ _ h; exact h) (Or.inl ⟨by rfl, ?hy1⟩) (by assumption) ?rest1
  case hy1 => (intro W hSW; (try dsimp only at hSW); go_simp; try with_reducible rfl)
  try simp only [Act.put, List.setIfInBounds_toArray, List.set_cons_zero, List.set_cons_succ]
  refine wpAnyH_take (i := 1) (v := ?v2) (by rw [List.getElem?_toArray]; rfl) (by kernel_rfl) (by kernel_rfl) (by kernel_rfl) (by intro _ _ _ h; exact h) (Or.inl ⟨by rfl, ?hy2⟩) (by assumption) ?rest2
  case hy2 => (intro W hSW; (try dsimp only at hSW); go_simp; try with_reducible rfl)
  try simp only [Act.put, List.setIfInBounds_toArray, List.set_cons_zero, List.set_cons_succ]
  refine wpAnyH_take (i := 2) (v := ?v3) (by rw [List.getElem?_toArray]; rfl) (by kernel_rfl) (by kernel_rfl) (by kernel_rfl) (by intro _ _ _ h; exact h) (Or.inl ⟨by rfl, ?hy3⟩) (by assumption) ?rest3
  case hy3 => (intro W hSW; (try dsimp only at hSW); go_simp; try with_reducible rfl)
  try simp only [Act.put, List.setIfInBounds_toArray, List.set_cons_zero, List.set_cons_succ]
  refine wpAnyH_take (i := 3) (v := ?v4) (by rw [List.getElem?_toArray]; rfl) (by kernel_rfl) (by kernel_rfl) (by kernel_rfl) (by intro _ _ _ h; exact h) (Or.inl ⟨by rfl, ?hy4⟩) (by assumption) ?rest4
  case hy4 => (intro W hSW; (try dsimp only at hSW); go_simp; try with_reducible rfl)
  try simp only [Act.put, List.setIfInBounds_toArray, List.set_cons_zero, List.set_cons_succ]
  refine wpAnyH_take (i := 5) (v := ?v5) (by rw [List.getElem?_toArray]; rfl) (by kernel_rfl) (by kernel_rfl) (by kernel_rfl) (by intro _ _ _ h; exact h) (Or.inl ⟨by rfl, ?hy5⟩) (by assumption) ?rest5
  case hy5 => (intro W hSW; (try dsimp only at hSW); go_simp; try with_reducible rfl)
  try simp only [Act.put, List.setIfInBounds_toArray, List.set_cons_zero, List.set_cons_succ]
  refine wpAnyH_take (i := 6) (v := ?v6) (by rw [List.getElem?_toArray]; rfl) (by kernel_rfl) (by kernel_rfl) (by kernel_rfl) (by intro _ _ _ h; exact h) (Or.inl ⟨by rfl, ?hy6⟩) (by assumption) ?rest6
  case hy6 => (intro W hSW; (try dsimp only at hSW); go_simp; try with_reducible rfl)
  try simp only [Act.put, List.setIfInBounds_toArray, List.set_cons_zero, List.set_cons_succ]
  refine wpAnyH_take (i := 7) (v := ?v7) (by rw [List.getElem?_toArray]; rfl) (by kernel_rfl) (by kernel_rfl) (by kernel_rfl) (by intro _ _ _ h; exact h) (Or.inl ⟨by rfl, ?hy7⟩) (by assumption) ?rest7
  case hy7 => (intro W hSW; (try dsimp only at hSW); go_simp; try with_reducible rfl)
  try simp only [Act.put, List.setIfInBounds_toArray, List.set_cons_zero, List.set_cons_succ]
  refine wpAnyH_take (i := 8) (v := ?v8) (by rw [List.getElem?_toArray]; rfl) (by kernel_rfl) (by kernel_rfl) (by kernel_rfl) (by intro _ _ _ h; exact h) (Or.inl ⟨by rfl, ?hy8⟩) (by assumption) ?rest8
  case hy8 => (intro W hSW; (try dsimp only at hSW); go_simp; try with_reducible rfl)
  try simp only [Act.put, List.setIfInBounds_toArray, List.set_cons_zero, List.set_cons_succ]
  refine wpAnyH_ready (rs := [4]) (by kernel_rfl) (by simp) (AllReadyH.cons (by rw [List.getElem?_toArray]; rfl) (fun K hK => ?_) AllReadyH.nil)
  go_simp
  refine (HE.out _ DD.out).mono ?_
  rintro e _ ⟨rfl, rfl⟩
  refine hK.out _ _ hS (fun _ => ?_)
  clear hK K
  try simp only [List.setIfInBounds_toArray, List.set_cons_zero, List.set_cons_succ]
  refine wpAnyH_ready (rs := [9]) (by kernel_rfl) (by simp) (AllReadyH.cons (by rw [List.getElem?_toArray]; rfl) (fun K hK => ?_) AllReadyH.nil)
  go_simp
  refine (HNo.out _ DD.out).mono ?_
  rintro e wn ⟨rfl, hb⟩
  replace BR := Lib.hid (And.intro (BR.out.1.trans (hb.mono BR.out.1.size)) ((hb.block _ (RecC.lt_of_some BR.out.2)).trans BR.out.2))
  replace DD := Lib.hid (DD.out.step hb)
  replace hS := CC.out _ DD.out
  clear hb
  refine hK.out _ _ hS (fun _ => ?_)
  clear hK K
  try simp only [List.setIfInBounds_toArray, List.set_cons_zero, List.set_cons_succ]
  refine wpAnyH_take (i := 10) (v := ?v9) (by rw [List.getElem?_toArray]; rfl) (by kernel_rfl) (by kernel_rfl) (by kernel_rfl) (by intro _ _ _ h; exact h) (Or.inl ⟨by rfl, ?hy9⟩) (by assumption) ?rest9
  case hy9 => (intro W hSW; (try dsimp only at hSW); go_simp; try with_reducible rfl)
  try simp only [Act.put, List.setIfInBounds_toArray, List.set_cons_zero, List.set_cons_succ]
  refine wpAnyH_ready (rs := [11]) (by kernel_rfl) (by simp) (AllReadyH.cons (by rw [List.getElem?_toArray]; rfl) (fun K hK => ?_) AllReadyH.nil)
  rw [if_pos (by rfl)]
  refine wp_store_row 82 _ _ rfl w.heap.size #[.int .i64 0, .int .i64 ep, .int .i64 ck, .int .i64 0, .int .i64 0, .int .i64 0, .string ⟨#[]⟩, .string ⟨#[]⟩] rfl rfl 82 #[.int .i64 0, .int .i64 0, .int .i64 0, .int .i64 0, .int .i64 0, .int .i64 0, .string ⟨#[]⟩, .string ⟨#[]⟩] BR.out.2 infoR rfl (one8 ⟨0, ep, ck, 0, 0, 0, [], []⟩) ?_
  have bs := below_setRow BR.out.1 (Nat.le_refl _) #[.int .i64 0, .int .i64 ep, .int .i64 ck, .int .i64 0, .int .i64 0, .int .i64 0, .string ⟨#[]⟩, .string ⟨#[]⟩]
  have cs := setRow_same (cs := #[.int .i64 0, .int .i64 ep, .int .i64 ck, .int .i64 0, .int .i64 0, .int .i64 0, .string ⟨#[]⟩, .string ⟨#[]⟩]) BR.out.2
  have D9 := HD.out.step bs
  replace hS := CC.out _ D9
  refine hK.out _ _ hS (fun _ => ?_)
  clear hK K
  try simp only [List.setIfInBounds_toArray, List.set_cons_zero, List.set_cons_succ]
  refine wpAnyH_done (by kernel_rfl) ?_ _
  go_wp2
  exact bodyPost_ret (v := .agg #[.int .i64 0, .int .i64 ep, .int .i64 ck, .int .i64 0, .int .i64 0, .int .i64 0, .string ⟨#[]⟩, .string ⟨#[]⟩])
    (results_cell_row Tryz.results90 _ _ w.heap.size 82 _ (0, 0) _ rfl cs Tryz.underlying82 rfl infoR) rfl ⟨rfl, bs⟩
end Go.Proofs.YtopnodkdpehdoaaGreatDoor.PgS
/- The program's write and take: the walks of their texts. No conditions but those that each lemma names. -/
namespace Go.Proofs.YtopnodkdpehdoaaGreatDoor.PgT
set_option linter.unusedVariables false
open Go.RowKit
open RecN RecC RetN RetC RetR DbN DbA MdN MdO MdC MdG PgN PgC PgI PgW PgX PgA PgR PgS PgM
theorem rm_pos (m : Mo) : 0 ≤ rm m := by
  unfold rm
  rcases Classical.em (GeoN.right m.b m.lb m.f ∧ 0 ≤ m.used ∧ m.used < m.b - 5) with hc | hc
  · rw [GeoN.room_yes hc.1 hc.2.1 hc.2.2]; omega
  · rw [GeoN.room_no hc]; exact Int.le_refl 0
variable {base : Nat} {A : Pm} {m : Mo} {w : World}
set_option maxRecDepth 100000 in
set_option maxHeartbeats 4000000 in
theorem write_no (h : Pg base A m w) (c : Cl) (he : wrE m c ≠ 0) :
    Calls Tryz.prog 73 #[.pointer (some ⟨A.y, 0, none⟩), .int .i64 c.lb, .string ⟨c.da.toArray⟩] w fun x w' => x = .returned (.int .i64 (wrE m c)) ∧ Below w.heap.size w w' := by
  have HP := Lib.hid (isPlace h c.lb)
  have HR := Lib.hid (room h)
  have hr0 := rm_pos m
  have z : (⟨c.da.toArray⟩ : ByteArray).size = c.da.length := size_mk _
  unfold wrE at he ⊢
  generalize rm m = r at *
  clear h
  by_cases h1 : c.lb < 0 ∨ m.lb ≤ c.lb
  · rw [if_pos h1]
    have e : isP m c.lb = false := df (by omega)
    rw [e] at HP
    clear he h1 e hr0
    go_enter Tryz.func73, Tryz.ntmps73
    go_wp2_with (go_at_call 68; refine HP.out.mono ?_; rintro e _ ⟨rfl, rfl⟩)
    go_ret
    exact ⟨rfl, Below.refl _ _⟩
  have e : isP m c.lb = true := dt (by omega)
  rw [e] at HP
  rw [if_neg h1] at he ⊢
  by_cases h3 : 4000 < c.da.length
  · rw [if_pos h3]
    have h3a : (4000 : Int) < (c.da.length : Int) := by omega
    clear he h1 e h3 hr0
    go_enter Tryz.func73, Tryz.ntmps73
    go_wp2_with (go_at_call 68; refine HP.out.mono ?_; rintro e _ ⟨rfl, rfl⟩)
    go_ret
    exact ⟨rfl, Below.refl _ _⟩
  rw [if_neg h3] at he ⊢
  have h3a : ¬ (4000 : Int) < (c.da.length : Int) := by omega
  by_cases h4 : r < 1
  · rw [if_pos h4]
    obtain rfl : r = 0 := by omega
    clear he h1 e h3 hr0 h4
    go_enter Tryz.func73, Tryz.ntmps73
    go_wp2_with (first
      | (go_at_call 68; refine HP.out.mono ?_; rintro e _ ⟨rfl, rfl⟩)
      | (go_at_call 70; refine HR.out.mono ?_; rintro e w2 ⟨rfl, hb⟩; have BB := Lib.hid hb; clear hb HR))
    go_ret
    exact ⟨rfl, BB.out⟩
  · rw [if_neg h4] at he
    exact absurd rfl he
set_option maxRecDepth 100000 in
set_option maxHeartbeats 8000000 in
theorem write_yes (h : Pg base A m w) (c : Cl) (he : wrE m c = 0) :
    Calls Tryz.prog 73 #[.pointer (some ⟨A.y, 0, none⟩), .int .i64 c.lb, .string ⟨c.da.toArray⟩] w fun x w' => x = .returned (.int .i64 0) ∧ Trn base A (wrM m c) w w' := by
  have HP := Lib.hid (isPlace h c.lb)
  have HR := Lib.hid (room h)
  have HH := Lib.hid h
  have OK := Lib.hid (ok_write h.ok he)
  have LO : Hid (Lo (wrM m c)) := Lib.hid (lo_write h.lo he)
  have hlen := h.ok.lens
  unfold wrE at he
  have h1 : ¬ (c.lb < 0 ∨ m.lb ≤ c.lb) := fun hh => by rw [if_pos hh] at he; omega
  rw [if_neg h1] at he
  have h3 : ¬ 4000 < c.da.length := fun hh => by rw [if_pos hh] at he; omega
  rw [if_neg h3] at he
  have h4 : ¬ rm m < 1 := fun hh => by rw [if_pos hh] at he; omega
  have e : isP m c.lb = true := dt (by omega)
  rw [e] at HP
  have z : (⟨c.da.toArray⟩ : ByteArray).size = c.da.length := size_mk _
  have h3a : ¬ (4000 : Int) < (c.da.length : Int) := by omega
  have h4a : (rm m == 0) = false := by rw [beq_eq_false_iff_ne]; omega
  generalize rm m = r at *
  clear h he h3 h1 h4 e
  go_enter Tryz.func73, Tryz.ntmps73
  go_upto_region 7 with (first
    | (go_at_call 68; refine HP.out.mono ?_; rintro e _ ⟨rfl, rfl⟩)
    | (go_at_call 70; refine HR.out.mono ?_; rintro e w2 ⟨rfl, hb⟩; have BB := Lib.hid hb; clear hb HR))
  have HU := (raw (HH.out.step BB.out)).step ((Below.refl _ _).drew)
  have HE := Lib.hid (RetB.Epoch HU.bk)
  obtain ⟨a', c', W4, happ, hown4, ha4⟩ := PgM.app_ver base A.av m.vs.length A.cv m.vs ⟨c.lb, m.s.ep, c.da⟩ w2.drew (by omega) HU.size HU.vrow
  dsimp only at happ
  have B3 : Below w2.drew.heap.size w2.drew (w2.drew.alloc (.cells #[.int .i64 c.lb, .int .i64 m.s.ep, .string ⟨c.da.toArray⟩] 91)) := below_new _ _
  have R3 := HU.step B3
  have hF := HU.vers ha4 hown4
  have hy4 : W4.heap[A.y]? = _ := (ha4.block _ HU.ly HU.vy).trans HU.body
  have hS := HU.cell.2.1
  have hS3 := R3.cell.2.1
  have hS4 : W4.cell? ⟨A.y, 4, none⟩ = some (.pointer (some ⟨A.a.b, 0, none⟩)) := blk_cell hy4 rfl
  have hS5 := hF.1.cell.2.1
  dsimp only at hS5
  have c2 : w2.drew.cell? ⟨A.y, 6, none⟩ = some (.slice A.av m.vs.length A.cv) := HU.cell.2.2.2
  have c3 : (w2.drew.alloc (.cells #[.int .i64 c.lb, .int .i64 m.s.ep, .string ⟨c.da.toArray⟩] 91)).cell? ⟨A.y, 6, none⟩ = some (.slice A.av m.vs.length A.cv) := R3.cell.2.2.2
  have c3a : (w2.alloc (.cells #[.int .i64 c.lb, .int .i64 m.s.ep, .string ⟨c.da.toArray⟩] 91)).drew.cell? ⟨A.y, 6, none⟩ = some (.slice A.av m.vs.length A.cv) := c3
  have c3b : (w2.alloc (.cells #[.int .i64 c.lb, .int .i64 m.s.ep, .string ⟨c.da.toArray⟩] 91)).cell? ⟨A.y, 6, none⟩ = some (.slice A.av m.vs.length A.cv) := c3
  have f4 : W4.frozen? ⟨A.y, 6, none⟩ = false := blk_free hy4
  have g4 : W4.cell? ⟨A.y, 6, none⟩ = some (.slice A.av m.vs.length A.cv) := blk_cell hy4 rfl
  have POST : Hid (Trn base A (wrM m c) w (W4.setCell ⟨A.y, 6, none⟩ (.slice a' (m.vs.length + 1) c'))) := Lib.hid (by
    have hp : Pr base { A with av := a', cv := c' } (wrM m c) (W4.setCell ⟨A.y, 6, none⟩ (.slice a' (m.vs.length + 1) c')) := ⟨hF.1.top, hF.1.body, hF.1.ck, hF.1.bk, hF.1.rows, hF.1.vrow, hF.1.ap, hF.1.kx, hF.1.kr, hF.1.low, hF.1.gd⟩
    have bd : Below w.heap.size w w2.drew := BB.out.drew
    exact Trn.after bd (trn_of (A' := { A with av := a', cv := c' }) rfl (hp.pg OK.out HH.out.ep LO.out) hF.2.2 hF.2.1))
  clear hown4 ha4 R3 hF hy4 HU B3 BB HH OK LO hlen z h3a
  refine wp_region_held_drew (S := fun W => W.cell? ⟨A.y, 4, none⟩ = some (.pointer (some ⟨A.a.b, 0, none⟩))) (by kernel_rfl) hS (fun _ => ?_)
  change wpAnyH _ _ _ _ _ _ #[false, false, false, false, false, false, false, false, false, false, false, false, false, false, false, false, false, false] _ _
  refine wpAnyH_take (i := 0) (v := ?v1) (by rw [List.getElem?_toArray]; rfl) (by kernel_rfl) (by kernel_rfl) (by kernel_rfl) (by intro _ _ _ h; exact h) (Or.inl ⟨by rfl, ?hy1⟩) (by assumption) ?rest1
  case hy1 => (intro W hSW; (try dsimp only at hSW); go_simp; try with_reducible rfl)
  try simp only [Act.put, List.setIfInBounds_toArray, List.set_cons_zero, List.set_cons_succ]
  refine wpAnyH_take (i := 1) (v := ?v2) (by rw [List.getElem?_toArray]; rfl) (by kernel_rfl) (by kernel_rfl) (by kernel_rfl) (by intro _ _ _ h; exact h) (Or.inl ⟨by rfl, ?hy2⟩) (by assumption) ?rest2
  case hy2 => (intro W hSW; (try dsimp only at hSW); go_simp; try with_reducible rfl)
  try simp only [Act.put, List.setIfInBounds_toArray, List.set_cons_zero, List.set_cons_succ]
  refine wpAnyH_take (i := 2) (v := ?v3) (by rw [List.getElem?_toArray]; rfl) (by kernel_rfl) (by kernel_rfl) (by kernel_rfl) (by intro _ _ _ h; exact h) (Or.inl ⟨by rfl, ?hy3⟩) (by assumption) ?rest3
  case hy3 => (intro W hSW; (try dsimp only at hSW); go_simp; try with_reducible rfl)
  try simp only [Act.put, List.setIfInBounds_toArray, List.set_cons_zero, List.set_cons_succ]
  refine wpAnyH_take (i := 3) (v := ?v4) (by rw [List.getElem?_toArray]; rfl) (by kernel_rfl) (by kernel_rfl) (by kernel_rfl) (by intro _ _ _ h; exact h) (Or.inl ⟨by rfl, ?hy4⟩) (by assumption) ?rest4
  case hy4 => (intro W hSW; (try dsimp only at hSW); go_simp; try with_reducible rfl)
  try simp only [Act.put, List.setIfInBounds_toArray, List.set_cons_zero, List.set_cons_succ]
  refine wpAnyH_take (i := 5) (v := ?v5) (by rw [List.getElem?_toArray]; rfl) (by kernel_rfl) (by kernel_rfl) (by kernel_rfl) (by intro _ _ _ h; exact h) (Or.inl ⟨by rfl, ?hy5⟩) (by assumption) ?rest5
  case hy5 => (intro W hSW; (try dsimp only at hSW); go_simp; try with_reducible rfl)
  try simp only [Act.put, List.setIfInBounds_toArray, List.set_cons_zero, List.set_cons_succ]
  refine wpAnyH_take (i := 6) (v := ?v6) (by rw [List.getElem?_toArray]; rfl) (by kernel_rfl) (by kernel_rfl) (by kernel_rfl) (by intro _ _ _ h; exact h) (Or.inl ⟨by rfl, ?hy6⟩) (by assumption) ?rest6
  case hy6 => (intro W hSW; (try dsimp only at hSW); go_simp; try with_reducible rfl)
  try simp only [Act.put, List.setIfInBounds_toArray, List.set_cons_zero, List.set_cons_succ]
  refine wpAnyH_take (i := 7) (v := ?v7) (by rw [List.getElem?_toArray]; rfl) (by kernel_rfl) (by kernel_rfl) (by kernel_rfl) (by intro _ _ _ h; exact h) (Or.inl ⟨by rfl, ?hy7⟩) (by assumption) ?rest7
  case hy7 => (intro W hSW; (try dsimp only at hSW); go_simp; try with_reducible rfl)
  try simp only [Act.put, List.setIfInBounds_toArray, List.set_cons_zero, List.set_cons_succ]
  refine wpAnyH_take (i := 8) (v := ?v8) (by rw [List.getElem?_toArray]; rfl) (by kernel_rfl) (by kernel_rfl) (by kernel_rfl) (by intro _ _ _ h; exact h) (Or.inl ⟨by rfl, ?hy8⟩) (by assumption) ?rest8
  case hy8 => (intro W hSW; (try dsimp only at hSW); go_simp; try with_reducible rfl)
  try simp only [Act.put, List.setIfInBounds_toArray, List.set_cons_zero, List.set_cons_succ]
  refine wpAnyH_take (i := 9) (v := ?v9) (by rw [List.getElem?_toArray]; rfl) (by kernel_rfl) (by kernel_rfl) (by kernel_rfl) (by intro _ _ _ h; exact h) (Or.inl ⟨by rfl, ?hy9⟩) (by assumption) ?rest9
  case hy9 => (intro W hSW; (try dsimp only at hSW); go_simp; try with_reducible rfl)
  try simp only [Act.put, List.setIfInBounds_toArray, List.set_cons_zero, List.set_cons_succ]
  refine wpAnyH_take (i := 11) (v := ?v10) (by rw [List.getElem?_toArray]; rfl) (by kernel_rfl) (by kernel_rfl) (by kernel_rfl) (by intro _ _ _ h; exact h) (Or.inl ⟨by rfl, ?hy10⟩) (by assumption) ?rest10
  case hy10 => (intro W hSW; (try dsimp only at hSW); go_simp; try with_reducible rfl)
  try simp only [Act.put, List.setIfInBounds_toArray, List.set_cons_zero, List.set_cons_succ]
  refine wpAnyH_ready (rs := [4, 10]) (by kernel_rfl) (by simp) (AllReadyH.cons (by rw [List.getElem?_toArray]; rfl) (fun K hK => ?_) (AllReadyH.cons (by rw [List.getElem?_toArray]; rfl) (fun K hK => ?_) AllReadyH.nil))
  · go_simp
    refine hK.out _ _ hS (fun _ => ?_)
    clear hK K
    try simp only [List.setIfInBounds_toArray, List.set_cons_zero, List.set_cons_succ]
    refine wpAnyH_ready (rs := [10]) (by kernel_rfl) (by simp) (AllReadyH.cons (by rw [List.getElem?_toArray]; rfl) (fun K hK => ?_) AllReadyH.nil)
    go_simp
    refine HE.out.mono ?_
    rintro e _ ⟨rfl, rfl⟩
    refine hK.out _ _ hS (fun _ => ?_)
    clear hK K
    try simp only [List.setIfInBounds_toArray, List.set_cons_zero, List.set_cons_succ]
    refine wpAnyH_take (i := 12) (v := ?v11) (by rw [List.getElem?_toArray]; rfl) (by kernel_rfl) (by kernel_rfl) (by kernel_rfl) (by intro _ _ _ h; exact h) (Or.inl ⟨by rfl, ?hy11⟩) (by assumption) ?rest11
    case hy11 => (intro W hSW; (try dsimp only at hSW); go_simp; try with_reducible rfl)
    try simp only [Act.put, List.setIfInBounds_toArray, List.set_cons_zero, List.set_cons_succ]
    refine wpAnyH_ready (rs := [13]) (by kernel_rfl) (by simp) (AllReadyH.cons (by rw [List.getElem?_toArray]; rfl) (fun K hK => ?_) AllReadyH.nil)
    go_simp
    refine hK.out _ _ hS3 (fun _ => ?_)
    clear hK K
    try simp only [List.setIfInBounds_toArray, List.set_cons_zero, List.set_cons_succ]
    refine wpAnyH_ready (rs := [14]) (by kernel_rfl) (by simp) (AllReadyH.cons (by rw [List.getElem?_toArray]; rfl) (fun K hK => ?_) AllReadyH.nil)
    refine step_run (by rfl) _ _ _ (by rfl) _ W4 (by exact happ) ?_
    refine hK.out _ _ hS4 (fun _ => ?_)
    clear hK K
    try simp only [List.setIfInBounds_toArray, List.set_cons_zero, List.set_cons_succ]
    refine wpAnyH_take (i := 15) (v := ?v12) (by rw [List.getElem?_toArray]; rfl) (by kernel_rfl) (by kernel_rfl) (by kernel_rfl) (by intro _ _ _ h; exact h) (Or.inl ⟨by rfl, ?hy12⟩) (by assumption) ?rest12
    case hy12 => (intro W hSW; (try dsimp only at hSW); go_simp; try with_reducible rfl)
    try simp only [Act.put, List.setIfInBounds_toArray, List.set_cons_zero, List.set_cons_succ]
    refine wpAnyH_take (i := 16) (v := ?v13) (by rw [List.getElem?_toArray]; rfl) (by kernel_rfl) (by kernel_rfl) (by kernel_rfl) (by intro _ _ _ h; exact h) (Or.inl ⟨by rfl, ?hy13⟩) (by assumption) ?rest13
    case hy13 => (intro W hSW; (try dsimp only at hSW); go_simp; try with_reducible rfl)
    try simp only [Act.put, List.setIfInBounds_toArray, List.set_cons_zero, List.set_cons_succ]
    refine wpAnyH_ready (rs := [17]) (by kernel_rfl) (by simp) (AllReadyH.cons (by rw [List.getElem?_toArray]; rfl) (fun K hK => ?_) AllReadyH.nil)
    go_simp
    refine hK.out _ _ hS5 (fun _ => ?_)
    clear hK K
    try simp only [List.setIfInBounds_toArray, List.set_cons_zero, List.set_cons_succ]
    refine wpAnyH_done (by kernel_rfl) ?_ _
    go_wp2
    go_ret
    exact ⟨rfl, POST.out⟩
  · go_simp
    refine HE.out.mono ?_
    rintro e _ ⟨rfl, rfl⟩
    refine hK.out _ _ hS (fun _ => ?_)
    clear hK K
    try simp only [List.setIfInBounds_toArray, List.set_cons_zero, List.set_cons_succ]
    refine wpAnyH_take (i := 12) (v := ?v14) (by rw [List.getElem?_toArray]; rfl) (by kernel_rfl) (by kernel_rfl) (by kernel_rfl) (by intro _ _ _ h; exact h) (Or.inl ⟨by rfl, ?hy14⟩) (by assumption) ?rest14
    case hy14 => (intro W hSW; (try dsimp only at hSW); go_simp; try with_reducible rfl)
    try simp only [Act.put, List.setIfInBounds_toArray, List.set_cons_zero, List.set_cons_succ]
    refine wpAnyH_ready (rs := [4, 13]) (by kernel_rfl) (by simp) (AllReadyH.cons (by rw [List.getElem?_toArray]; rfl) (fun K hK => ?_) (AllReadyH.cons (by rw [List.getElem?_toArray]; rfl) (fun K hK => ?_) AllReadyH.nil))
    · go_simp
      refine hK.out _ _ hS (fun _ => ?_)
      clear hK K
      try simp only [List.setIfInBounds_toArray, List.set_cons_zero, List.set_cons_succ]
      refine wpAnyH_ready (rs := [13]) (by kernel_rfl) (by simp) (AllReadyH.cons (by rw [List.getElem?_toArray]; rfl) (fun K hK => ?_) AllReadyH.nil)
      go_simp
      refine hK.out _ _ hS3 (fun _ => ?_)
      clear hK K
      try simp only [List.setIfInBounds_toArray, List.set_cons_zero, List.set_cons_succ]
      refine wpAnyH_ready (rs := [14]) (by kernel_rfl) (by simp) (AllReadyH.cons (by rw [List.getElem?_toArray]; rfl) (fun K hK => ?_) AllReadyH.nil)
      refine step_run (by rfl) _ _ _ (by rfl) _ W4 (by exact happ) ?_
      refine hK.out _ _ hS4 (fun _ => ?_)
      clear hK K
      try simp only [List.setIfInBounds_toArray, List.set_cons_zero, List.set_cons_succ]
      refine wpAnyH_take (i := 15) (v := ?v15) (by rw [List.getElem?_toArray]; rfl) (by kernel_rfl) (by kernel_rfl) (by kernel_rfl) (by intro _ _ _ h; exact h) (Or.inl ⟨by rfl, ?hy15⟩) (by assumption) ?rest15
      case hy15 => (intro W hSW; (try dsimp only at hSW); go_simp; try with_reducible rfl)
      try simp only [Act.put, List.setIfInBounds_toArray, List.set_cons_zero, List.set_cons_succ]
      refine wpAnyH_take (i := 16) (v := ?v16) (by rw [List.getElem?_toArray]; rfl) (by kernel_rfl) (by kernel_rfl) (by kernel_rfl) (by intro _ _ _ h; exact h) (Or.inl ⟨by rfl, ?hy16⟩) (by assumption) ?rest16
      case hy16 => (intro W hSW; (try dsimp only at hSW); go_simp; try with_reducible rfl)
      try simp only [Act.put, List.setIfInBounds_toArray, List.set_cons_zero, List.set_cons_succ]
      refine wpAnyH_ready (rs := [17]) (by kernel_rfl) (by simp) (AllReadyH.cons (by rw [List.getElem?_toArray]; rfl) (fun K hK => ?_) AllReadyH.nil)
      go_simp
      refine hK.out _ _ hS5 (fun _ => ?_)
      clear hK K
      try simp only [List.setIfInBounds_toArray, List.set_cons_zero, List.set_cons_succ]
      refine wpAnyH_done (by kernel_rfl) ?_ _
      go_wp2
      go_ret
      exact ⟨rfl, POST.out⟩
    · go_simp
      refine hK.out _ _ hS3 (fun _ => ?_)
      clear hK K
      try simp only [List.setIfInBounds_toArray, List.set_cons_zero, List.set_cons_succ]
      refine wpAnyH_ready (rs := [4]) (by kernel_rfl) (by simp) (AllReadyH.cons (by rw [List.getElem?_toArray]; rfl) (fun K hK => ?_) AllReadyH.nil)
      go_simp
      refine hK.out _ _ hS3 (fun _ => ?_)
      clear hK K
      try simp only [List.setIfInBounds_toArray, List.set_cons_zero, List.set_cons_succ]
      refine wpAnyH_ready (rs := [14]) (by kernel_rfl) (by simp) (AllReadyH.cons (by rw [List.getElem?_toArray]; rfl) (fun K hK => ?_) AllReadyH.nil)
      refine step_run (by rfl) _ _ _ (by rfl) _ W4 (by exact happ) ?_
      refine hK.out _ _ hS4 (fun _ => ?_)
      clear hK K
      try simp only [List.setIfInBounds_toArray, List.set_cons_zero, List.set_cons_succ]
      refine wpAnyH_take (i := 15) (v := ?v17) (by rw [List.getElem?_toArray]; rfl) (by kernel_rfl) (by kernel_rfl) (by kernel_rfl) (by intro _ _ _ h; exact h) (Or.inl ⟨by rfl, ?hy17⟩) (by assumption) ?rest17
      case hy17 => (intro W hSW; (try dsimp only at hSW); go_simp; try with_reducible rfl)
      try simp only [Act.put, List.setIfInBounds_toArray, List.set_cons_zero, List.set_cons_succ]
      refine wpAnyH_take (i := 16) (v := ?v18) (by rw [List.getElem?_toArray]; rfl) (by kernel_rfl) (by kernel_rfl) (by kernel_rfl) (by intro _ _ _ h; exact h) (Or.inl ⟨by rfl, ?hy18⟩) (by assumption) ?rest18
      case hy18 => (intro W hSW; (try dsimp only at hSW); go_simp; try with_reducible rfl)
      try simp only [Act.put, List.setIfInBounds_toArray, List.set_cons_zero, List.set_cons_succ]
      refine wpAnyH_ready (rs := [17]) (by kernel_rfl) (by simp) (AllReadyH.cons (by rw [List.getElem?_toArray]; rfl) (fun K hK => ?_) AllReadyH.nil)
      go_simp
      refine hK.out _ _ hS5 (fun _ => ?_)
      clear hK K
      try simp only [List.setIfInBounds_toArray, List.set_cons_zero, List.set_cons_succ]
      refine wpAnyH_done (by kernel_rfl) ?_ _
      go_wp2
      go_ret
      exact ⟨rfl, POST.out⟩
/-- A record that the book does not refuse. -/
def tkM (m : Mo) (r : Rec) : Mo := { m with s := RetN.take m.s r, l := m.l ++ [r] }
/-- What take leaves. -/
def Tkn (base : Nat) (A : Pm) (m : Mo) (r : Rec) (w w' : World) : Prop := ∃ A', A'.x = A.x ∧ Pr base A' (tkM m r) w' ∧ (∀ k, A'.foot k → A.foot k ∨ w.heap.size ≤ k) ∧ Fr A w w'
set_option maxRecDepth 100000 in
set_option maxHeartbeats 8000000 in
theorem take (h : Pg base A m w) (r : Rec) (hw : Wf r.tg) (hm : may m.s r = 0) :
    Calls Tryz.prog 92 #[.pointer (some ⟨A.y, 0, none⟩), .agg #[.int .i64 r.k, .int .i64 r.ep, .int .i64 r.tm, .int .i64 r.ct, .int .i64 r.tg, .int .i64 r.un, .string ⟨r.rt.toArray⟩, .string ⟨r.nm.toArray⟩]] w fun x w' => x = .returned (.tuple #[]) ∧ Tkn base A m r w w' := by
  obtain ⟨W1, hW1⟩ : ∃ W1, W1 = w.alloc (.cells #[.int .i64 r.k, .int .i64 r.ep, .int .i64 r.tm, .int .i64 r.ct, .int .i64 r.tg, .int .i64 r.un, .string ⟨r.rt.toArray⟩, .string ⟨r.nm.toArray⟩] 82) := ⟨_, rfl⟩
  have BB : Hid (Below w.heap.size w W1.drew) := Lib.hid (by rw [hW1]; exact (below_new w _).drew)
  have K1 : Hid (Bk W1.drew w.heap.size r) := Lib.hid (by rw [hW1]; exact heap_alloc_new w _)
  have HH := Lib.hid h
  have PP := Lib.hid (raw (h.step BB.out))
  have HA := Lib.hid (fun W (h : Book A.a m.s W) => RetB.Apply_yes h r hw hm)
  have hlen := h.ok.lens
  have hlt := Lib.hid (fun i (hi : A.foot i) => h.lt hi)
  have CB : Hid (∀ W s, Pr base A { m with s := s } W → W.cell? ⟨A.y, 4, none⟩ = some (.pointer (some ⟨A.a.b, 0, none⟩))) := Lib.hid (fun W s h => h.cell.2.1)
  have e0 : ({ m with s := m.s } : Mo) = m := rfl
  have hS := And.intro (CB.out _ m.s PP.out) K1.out.cells
  clear h hw hm
  go_enter Tryz.func92, Tryz.ntmps92
  go_upto_region 1 with (fail)
  rw [← hW1]
  clear hW1
  go_region_held3 (fun W => W.cell? ⟨A.y, 4, none⟩ = some (.pointer (some ⟨A.a.b, 0, none⟩)) ∧ W.cell? ⟨w.heap.size, 0, none⟩ = some (.int .i64 r.k) ∧ W.cell? ⟨w.heap.size, 1, none⟩ = some (.int .i64 r.ep) ∧ W.cell? ⟨w.heap.size, 2, none⟩ = some (.int .i64 r.tm) ∧ W.cell? ⟨w.heap.size, 3, none⟩ = some (.int .i64 r.ct) ∧ W.cell? ⟨w.heap.size, 4, none⟩ = some (.int .i64 r.tg) ∧ W.cell? ⟨w.heap.size, 5, none⟩ = some (.int .i64 r.un) ∧ W.cell? ⟨w.heap.size, 6, none⟩ = some (.string ⟨r.rt.toArray⟩) ∧ W.cell? ⟨w.heap.size, 7, none⟩ = some (.string ⟨r.nm.toArray⟩))
    (exact hS) (first | (go_at_call 107; refine (HA.out _ PP.out.bk).mono ?_; rintro e w2 ⟨rfl, hb2, ht2⟩; have P2 := Lib.hid (PP.out.book hb2 ht2); have F2 := Lib.hid (fr_book (A := A) ht2); have K2 : Hid (Bk w2 w.heap.size r) := Lib.hid ((F2.out.block _ K1.out.lt (fun e => Nat.lt_irrefl _ (hlt.out _ e))).trans K1.out); replace hS := And.intro (CB.out _ _ P2.out) K2.out.cells; clear hb2 ht2))
  clear hS PP K1 HA
  go_upto_region 2 with (fail)
  have HU := P2.out.step ((Below.refl _ _).drew)
  have KU : Bk w2.drew w.heap.size r := K2.out.step ((Below.refl _ _).drew)
  obtain ⟨a', c', W4, happ, hown4, ha4⟩ := PgM.app_rec base A.ar m.l.length A.cr m.l r w2.drew (by omega) HU.size HU.rows
  have B3 : Below w2.drew.heap.size w2.drew (w2.drew.alloc (.cells #[.int .i64 r.k, .int .i64 r.ep, .int .i64 r.tm, .int .i64 r.ct, .int .i64 r.tg, .int .i64 r.un, .string ⟨r.rt.toArray⟩, .string ⟨r.nm.toArray⟩] 82)) := below_new _ _
  have R3 := HU.step B3
  have hF := HU.recs ha4 hown4
  have hy4 : W4.heap[A.y]? = _ := (ha4.block _ HU.ly HU.ry).trans HU.body
  have hnf : ∀ i, A.foot i → i ≠ w.heap.size := fun i hi e => by have := hlt.out i hi; omega
  have K4 : Bk W4 w.heap.size r := (ha4.block _ KU.lt (fun e => hnf _ (.inl (.inr (.inr (.inr (.inl e))))) rfl)).trans KU
  have K5 : Bk (W4.setCell ⟨A.y, 5, none⟩ (.slice a' (m.l.length + 1) c')) w.heap.size r := (Below.heap_setCell W4 ⟨A.y, 5, none⟩ _ _ (fun e => hnf A.y (.inl (.inr (.inl rfl))) e.symm)).trans K4
  have hS := KU.cells
  have hS3 := (KU.step B3).cells
  have hS4 := K4.cells
  have hS5 := K5.cells
  have c2 : w2.drew.cell? ⟨A.y, 5, none⟩ = some (.slice A.ar m.l.length A.cr) := HU.cell.2.2.1
  have c3 : (w2.drew.alloc (.cells #[.int .i64 r.k, .int .i64 r.ep, .int .i64 r.tm, .int .i64 r.ct, .int .i64 r.tg, .int .i64 r.un, .string ⟨r.rt.toArray⟩, .string ⟨r.nm.toArray⟩] 82)).cell? ⟨A.y, 5, none⟩ = some (.slice A.ar m.l.length A.cr) := R3.cell.2.2.1
  have c3a : (w2.alloc (.cells #[.int .i64 r.k, .int .i64 r.ep, .int .i64 r.tm, .int .i64 r.ct, .int .i64 r.tg, .int .i64 r.un, .string ⟨r.rt.toArray⟩, .string ⟨r.nm.toArray⟩] 82)).drew.cell? ⟨A.y, 5, none⟩ = some (.slice A.ar m.l.length A.cr) := c3
  have c3b : (w2.alloc (.cells #[.int .i64 r.k, .int .i64 r.ep, .int .i64 r.tm, .int .i64 r.ct, .int .i64 r.tg, .int .i64 r.un, .string ⟨r.rt.toArray⟩, .string ⟨r.nm.toArray⟩] 82)).cell? ⟨A.y, 5, none⟩ = some (.slice A.ar m.l.length A.cr) := c3
  have f4 : W4.frozen? ⟨A.y, 5, none⟩ = false := blk_free hy4
  have g4 : W4.cell? ⟨A.y, 5, none⟩ = some (.slice A.ar m.l.length A.cr) := blk_cell hy4 rfl
  have POST : Hid (Tkn base A m r w (W4.setCell ⟨A.y, 5, none⟩ (.slice a' (m.l.length + 1) c'))) := Lib.hid (by
    refine ⟨{ A with ar := a', cr := c' }, rfl, hF.1, fun k hk => (hF.2.2 k hk).imp id (fun q => ?_), (Fr.of BB.out).trans (F2.out.trans ((Fr.of ((Below.refl _ w2).drew)).trans hF.2.1))⟩
    exact Nat.le_trans BB.out.size (Nat.le_trans F2.out.size q))
  clear hown4 ha4 R3 hF hy4 HU B3 BB HH hlen P2 F2 K2 KU K4 K5 hnf hlt CB
  refine wp_region_held_drew (S := fun W => W.cell? ⟨w.heap.size, 0, none⟩ = some (.int .i64 r.k) ∧ W.cell? ⟨w.heap.size, 1, none⟩ = some (.int .i64 r.ep) ∧ W.cell? ⟨w.heap.size, 2, none⟩ = some (.int .i64 r.tm) ∧ W.cell? ⟨w.heap.size, 3, none⟩ = some (.int .i64 r.ct) ∧ W.cell? ⟨w.heap.size, 4, none⟩ = some (.int .i64 r.tg) ∧ W.cell? ⟨w.heap.size, 5, none⟩ = some (.int .i64 r.un) ∧ W.cell? ⟨w.heap.size, 6, none⟩ = some (.string ⟨r.rt.toArray⟩) ∧ W.cell? ⟨w.heap.size, 7, none⟩ = some (.string ⟨r.nm.toArray⟩)) (by kernel_rfl) hS (fun _ => ?_)
  change wpAnyH _ _ _ _ _ _ #[false, false, false, false, false, false, false, false, false, false, false] _ _
  refine wpAnyH_take (i := 0) (v := ?v41) (by rw [List.getElem?_toArray]; rfl) (by kernel_rfl) (by kernel_rfl) (by kernel_rfl) (by intro _ _ _ h; exact h) (Or.inl ⟨by rfl, ?hy41⟩) (by assumption) ?rest41
  case hy41 => (intro W hSW; (try dsimp only at hSW); go_simp; try with_reducible rfl)
  try simp only [Act.put, List.setIfInBounds_toArray, List.set_cons_zero, List.set_cons_succ]
  refine wpAnyH_take (i := 1) (v := ?v42) (by rw [List.getElem?_toArray]; rfl) (by kernel_rfl) (by kernel_rfl) (by kernel_rfl) (by intro _ _ _ h; exact h) (Or.inl ⟨by rfl, ?hy42⟩) (by assumption) ?rest42
  case hy42 => (intro W hSW; (try dsimp only at hSW); go_simp; try with_reducible rfl)
  try simp only [Act.put, List.setIfInBounds_toArray, List.set_cons_zero, List.set_cons_succ]
  refine wpAnyH_take (i := 2) (v := ?v43) (by rw [List.getElem?_toArray]; rfl) (by kernel_rfl) (by kernel_rfl) (by kernel_rfl) (by intro _ _ _ h; exact h) (Or.inl ⟨by rfl, ?hy43⟩) (by assumption) ?rest43
  case hy43 => (intro W hSW; (try dsimp only at hSW); go_simp; try with_reducible rfl)
  try simp only [Act.put, List.setIfInBounds_toArray, List.set_cons_zero, List.set_cons_succ]
  refine wpAnyH_take (i := 3) (v := ?v44) (by rw [List.getElem?_toArray]; rfl) (by kernel_rfl) (by kernel_rfl) (by kernel_rfl) (by intro _ _ _ h; exact h) (Or.inl ⟨by rfl, ?hy44⟩) (by assumption) ?rest44
  case hy44 => (intro W hSW; (try dsimp only at hSW); go_simp; try with_reducible rfl)
  try simp only [Act.put, List.setIfInBounds_toArray, List.set_cons_zero, List.set_cons_succ]
  refine wpAnyH_take (i := 5) (v := ?v45) (by rw [List.getElem?_toArray]; rfl) (by kernel_rfl) (by kernel_rfl) (by kernel_rfl) (by intro _ _ _ h; exact h) (Or.inl ⟨by rfl, ?hy45⟩) (by assumption) ?rest45
  case hy45 => (intro W hSW; (try dsimp only at hSW); go_simp; try with_reducible rfl)
  try simp only [Act.put, List.setIfInBounds_toArray, List.set_cons_zero, List.set_cons_succ]
  refine wpAnyH_ready (rs := [4, 6]) (by kernel_rfl) (by simp) (AllReadyH.cons (by rw [List.getElem?_toArray]; rfl) (fun K hK => ?_) (AllReadyH.cons (by rw [List.getElem?_toArray]; rfl) (fun K hK => ?_) AllReadyH.nil))
  · go_simp
    refine hK.out _ _ hS (fun _ => ?_)
    clear hK K
    try simp only [List.setIfInBounds_toArray, List.set_cons_zero, List.set_cons_succ]
    refine wpAnyH_ready (rs := [6]) (by kernel_rfl) (by simp) (AllReadyH.cons (by rw [List.getElem?_toArray]; rfl) (fun K hK => ?_) AllReadyH.nil)
    go_simp
    refine hK.out _ _ hS3 (fun _ => ?_)
    clear hK K
    try simp only [List.setIfInBounds_toArray, List.set_cons_zero, List.set_cons_succ]
    refine wpAnyH_ready (rs := [7]) (by kernel_rfl) (by simp) (AllReadyH.cons (by rw [List.getElem?_toArray]; rfl) (fun K hK => ?_) AllReadyH.nil)
    refine step_run (by rfl) _ _ _ (by rfl) _ W4 (by exact happ) ?_
    refine hK.out _ _ hS4 (fun _ => ?_)
    clear hK K
    try simp only [List.setIfInBounds_toArray, List.set_cons_zero, List.set_cons_succ]
    refine wpAnyH_take (i := 8) (v := ?v46) (by rw [List.getElem?_toArray]; rfl) (by kernel_rfl) (by kernel_rfl) (by kernel_rfl) (by intro _ _ _ h; exact h) (Or.inl ⟨by rfl, ?hy46⟩) (by assumption) ?rest46
    case hy46 => (intro W hSW; (try dsimp only at hSW); go_simp; try with_reducible rfl)
    try simp only [Act.put, List.setIfInBounds_toArray, List.set_cons_zero, List.set_cons_succ]
    refine wpAnyH_take (i := 9) (v := ?v47) (by rw [List.getElem?_toArray]; rfl) (by kernel_rfl) (by kernel_rfl) (by kernel_rfl) (by intro _ _ _ h; exact h) (Or.inl ⟨by rfl, ?hy47⟩) (by assumption) ?rest47
    case hy47 => (intro W hSW; (try dsimp only at hSW); go_simp; try with_reducible rfl)
    try simp only [Act.put, List.setIfInBounds_toArray, List.set_cons_zero, List.set_cons_succ]
    refine wpAnyH_ready (rs := [10]) (by kernel_rfl) (by simp) (AllReadyH.cons (by rw [List.getElem?_toArray]; rfl) (fun K hK => ?_) AllReadyH.nil)
    go_simp
    refine hK.out _ _ hS5 (fun _ => ?_)
    clear hK K
    try simp only [List.setIfInBounds_toArray, List.set_cons_zero, List.set_cons_succ]
    refine wpAnyH_done (by kernel_rfl) ?_ _
    go_wp2
    go_end0
    exact ⟨rfl, POST.out⟩
  · go_simp
    refine hK.out _ _ hS3 (fun _ => ?_)
    clear hK K
    try simp only [List.setIfInBounds_toArray, List.set_cons_zero, List.set_cons_succ]
    refine wpAnyH_ready (rs := [4]) (by kernel_rfl) (by simp) (AllReadyH.cons (by rw [List.getElem?_toArray]; rfl) (fun K hK => ?_) AllReadyH.nil)
    go_simp
    refine hK.out _ _ hS3 (fun _ => ?_)
    clear hK K
    try simp only [List.setIfInBounds_toArray, List.set_cons_zero, List.set_cons_succ]
    refine wpAnyH_ready (rs := [7]) (by kernel_rfl) (by simp) (AllReadyH.cons (by rw [List.getElem?_toArray]; rfl) (fun K hK => ?_) AllReadyH.nil)
    refine step_run (by rfl) _ _ _ (by rfl) _ W4 (by exact happ) ?_
    refine hK.out _ _ hS4 (fun _ => ?_)
    clear hK K
    try simp only [List.setIfInBounds_toArray, List.set_cons_zero, List.set_cons_succ]
    refine wpAnyH_take (i := 8) (v := ?v48) (by rw [List.getElem?_toArray]; rfl) (by kernel_rfl) (by kernel_rfl) (by kernel_rfl) (by intro _ _ _ h; exact h) (Or.inl ⟨by rfl, ?hy48⟩) (by assumption) ?rest48
    case hy48 => (intro W hSW; (try dsimp only at hSW); go_simp; try with_reducible rfl)
    try simp only [Act.put, List.setIfInBounds_toArray, List.set_cons_zero, List.set_cons_succ]
    refine wpAnyH_take (i := 9) (v := ?v49) (by rw [List.getElem?_toArray]; rfl) (by kernel_rfl) (by kernel_rfl) (by kernel_rfl) (by intro _ _ _ h; exact h) (Or.inl ⟨by rfl, ?hy49⟩) (by assumption) ?rest49
    case hy49 => (intro W hSW; (try dsimp only at hSW); go_simp; try with_reducible rfl)
    try simp only [Act.put, List.setIfInBounds_toArray, List.set_cons_zero, List.set_cons_succ]
    refine wpAnyH_ready (rs := [10]) (by kernel_rfl) (by simp) (AllReadyH.cons (by rw [List.getElem?_toArray]; rfl) (fun K hK => ?_) AllReadyH.nil)
    go_simp
    refine hK.out _ _ hS5 (fun _ => ?_)
    clear hK K
    try simp only [List.setIfInBounds_toArray, List.set_cons_zero, List.set_cons_succ]
    refine wpAnyH_done (by kernel_rfl) ?_ _
    go_wp2
    go_end0
    exact ⟨rfl, POST.out⟩
end Go.Proofs.YtopnodkdpehdoaaGreatDoor.PgT
