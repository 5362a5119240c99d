/- The chapter's example. The condition: the rounds' numbers lie in the program's variable. -/
import Derived.Test.YtcadfpaihfaabaaGreatDoorPrgQ
namespace Go.Proofs.YtcadfpaihfaabaaGreatDoor.PrgAl
set_option linter.unusedVariables false
open Go.RowKit STurn SSum
open PrfL PrfN PrfM PrfB PrgN PrgC PrgK PrgH PrgF PrgO PrgP PrgQ MerQ MerM MerC MerA MerJ MerR
theorem two_lies (w : World) (H : L) : Lies (w.alloc (.cells #[.int .i64 3, st H, .int .i64 7, st H] 25)) (some ⟨w.heap.size, 0, none⟩) [(3, H), (7, H)] := fun _ =>
  ⟨_, _, rfl, by simp, fun i hi => by
    match i, hi with
    | 0, _ => exact ⟨blk_cell (heap_alloc_new w _) rfl, blk_cell (heap_alloc_new w _) rfl⟩
    | 1, _ => exact ⟨blk_cell (heap_alloc_new w _) rfl, blk_cell (heap_alloc_new w _) rfl⟩⟩
theorem two_prove (H : L) : (prove [(3, H), (7, H)] 5).found = false ∧ (prove [(3, H), (7, H)] 5).at_ = 1 ∧ (prove [(3, H), (7, H)] 5).here = (7, H) ∧ (prove [(3, H), (7, H)] 5).ahead = (3, H) := by
  have e : plc [(3, H), (7, H)] 5 = 1 := rfl
  refine ⟨?_, ?_, ?_, ?_⟩ <;> unfold prove <;> rw [e] <;> rfl
set_option maxRecDepth 100000 in
set_option maxHeartbeats 2000000 in
theorem alive (w : World) (hr : Rds w) : Calls Tryz.prog 5 #[] w fun e w' => e = .returned (.bool true) ∧ Below w.heap.size w w' := by
  have HS := Lib.hid (summed_one [104] (by simp) w hr)
  obtain ⟨H, hH⟩ : ∃ H, sum [104] = H := ⟨_, rfl⟩
  have lH : H.length = 32 := hH ▸ sum_length _
  rw [hH] at HS
  have HP := Lib.hid (fun W (hb : Below w.heap.size w W) => Prove_ok (some ⟨W.heap.size, 0, none⟩) 2 2 [(3, H), (7, H)] 5 (W.alloc (.cells #[.int .i64 3, st H, .int .i64 7, st H] 25)) ⟨rfl, by decide, (fun x hx => by
    simp only [List.mem_cons, List.not_mem_nil, or_false] at hx
    unfold Fit maxLen
    rcases hx with rfl | rfl <;> (dsimp only; omega)), two_lies W H⟩ (by omega) (hr.step (hb.alloc hb.size _)) (by unfold canB right okL inB; simp [lH]; rfl))
  have HQ := Lib.hid (two_prove H)
  clear hr hH lH
  generalize prove [(3, H), (7, H)] 5 = pr at *
  go_enter Tryz.func5, Tryz.ntmps5
  go_upto_region 3 with (first
    | (go_at_call 19; refine HS.out.mono ?_; rintro e w1 ⟨rfl, hb⟩; have B1 := Lib.hid hb; clear hb)
    | (go_at_call 9; refine (HP.out _ B1.out).mono ?_; rintro e w2 ⟨x, rfl, hx, _, _, hb⟩; have HX := Lib.hid hx; have B2 := Lib.hid ((B1.out.alloc B1.out.size _).trans (hb.mono (Nat.le_trans B1.out.size (by simp)))); clear hb hx)
    | (refine wpList_store_row rfl 29 _ _ rfl w2.heap.size x.cells rfl rfl 29 _ (heap_alloc_new w2 _) infoP rfl (oneP _) ?_))
  generalize hW : World.setRow _ _ _ = W3
  have B3 := Lib.hid (B2.out.trans ((show Below w2.heap.size w2 W3 by rw [← hW]; exact kept_new w2 _ _ _).mono B2.out.size))
  have g3 : PrgC.BoxP w2.heap.size x W3 := by rw [← hW]; exact has_new w2 _ _ _
  clear hW
  obtain ⟨c0, c1, c2, c3, c4, c5, c6, c7⟩ := g3.cells
  obtain ⟨h1, h2, h3, h4⟩ := HQ.out
  rw [← HX.out] at h1 h2 h3 h4
  rw [show x.f = false from h1] at c0
  rw [show x.at_ = 1 from h2] at c1
  rw [show x.here = (7, H) from h3] at c2
  rw [show x.ahead = (3, H) from h4] at c4
  clear h1 h2 h3 h4 g3 HX HQ
  go_wp2
  go_ret
  exact ⟨rfl, B3.out⟩
end Go.Proofs.YtcadfpaihfaabaaGreatDoor.PrgAl
