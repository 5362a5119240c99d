/- The document's Said of a leaf: the walk of its text. No conditions but those that each lemma names. -/
import Derived.Test.YtcadfpaihfaabaaGreatDoorLPrfA
import Derived.Test.YtcadfpaihfaabaaGreatDoorLRef
namespace Go.Proofs.YtcadfpaihfaabaaGreatDoor.PrfS
open Go.RowKit
open PrfL PrfM PrfB MerQ
set_option maxRecDepth 100000 in
theorem Said (x : Lf) (w : World) (hf : Fit x) : Calls Tryz.prog 11 #[.agg #[.int .i64 x.1, st x.2]] w fun e w' => e = .returned (st (said x)) ∧ Below w.heap.size w w' := by
  have HX := Lib.hid (box_new w x)
  have HB := Lib.hid (below_new w (.cells #[.int .i64 x.1, st x.2] 25))
  unfold Fit maxLen at hf
  by_cases hok : okL x = true
  · have HS := Lib.hid (said_yes hok)
    obtain ⟨h0, h1, h2⟩ := okL_spec hok
    have HP := Lib.hid (fun W => RPut.any x.1 4 W (by omega))
    rw [put4 ⟨h0, h1⟩] at HP
    obtain ⟨n, s⟩ := x
    dsimp only at HX HB HP HS h0 h1 h2 ⊢
    have hl : (be 4 n.toNat).length = 4 := be_length _ _
    generalize be 4 n.toNat = b at *
    rw [HS.out]
    have q0 : ¬ n < 0 := by omega
    have q1 : ¬ (4095 : Int) < n := by omega
    have q2 : ((s.length : Int) == 32) = true := by rw [h2]; rfl
    clear hok HS hf h0 h1
    go_enter Tryz.func11, Tryz.ntmps11
    go_upto_region 1 with (fail)
    generalize World.alloc w _ = W1 at *
    obtain ⟨k0, k1⟩ := HX.out
    clear HX
    dsimp only at k0 k1
    go_wp2_with (go_at_call 21; refine (HP.out _).mono ?_; rintro e w' ⟨rfl, hb⟩; have k1' := (hb.cell (p := ⟨w.heap.size, 1, none⟩) (World.block_lt_of_cell? _ _ k1)).trans k1; have HB2 := Lib.hid (HB.out.trans (hb.mono HB.out.size)); clear hb)
    go_ret
    exact ⟨by simp [ByteArray.mk_append_mk], HB2.out⟩
  · have HS := Lib.hid (said_no (by simpa using hok))
    obtain ⟨n, s⟩ := x
    dsimp only at HX HB HS ⊢
    rw [HS.out]
    have hno : ¬ (0 ≤ n ∧ n ≤ 4095 ∧ s.length = 32) := fun h => hok (by unfold okL; rw [decide_eq_true ⟨h.1, h.2.1⟩, decide_eq_true h.2.2]; rfl)
    by_cases h0 : n < 0
    · clear hok HS hno hf
      go_enter Tryz.func11, Tryz.ntmps11
      go_upto_region 1 with (fail)
      generalize World.alloc w _ = W1 at *
      obtain ⟨k0, k1⟩ := HX.out
      clear HX
      dsimp only at k0 k1
      go_wp2
      go_ret
      exact ⟨rfl, HB.out⟩
    · by_cases h1 : (4095 : Int) < n
      · clear hok HS hno hf
        go_enter Tryz.func11, Tryz.ntmps11
        go_upto_region 1 with (fail)
        generalize World.alloc w _ = W1 at *
        obtain ⟨k0, k1⟩ := HX.out
        clear HX
        dsimp only at k0 k1
        go_wp2
        go_ret
        exact ⟨rfl, HB.out⟩
      · have q2 : ((s.length : Int) == 32) = false := by rw [beq_eq_false_iff_ne]; omega
        clear hok HS hno
        go_enter Tryz.func11, Tryz.ntmps11
        go_upto_region 1 with (fail)
        generalize World.alloc w _ = W1 at *
        obtain ⟨k0, k1⟩ := HX.out
        clear HX
        dsimp only at k0 k1
        go_wp2
        go_ret
        exact ⟨rfl, HB.out⟩
end Go.Proofs.YtcadfpaihfaabaaGreatDoor.PrfS
