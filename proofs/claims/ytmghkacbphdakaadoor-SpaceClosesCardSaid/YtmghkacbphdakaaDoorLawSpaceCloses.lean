/- SpaceCloses: at any shape and any row of calls of at most 2,000 (longer ones: only the chapter's example): an epoch that is open can be closed, numbers are given out one behind the other, as many as there are blocks for data. The condition: the least and the most numbers lie in the program's two variables (the card ties them to the program's text). -/
import Derived.Test.YtmghkacbphdakaaDoorSpaO
import Derived.Test.YtmghkacbphdakaaDoorGeoR
import Derived.Test.YtmghkacbphdakaaDoorRows
import Derived.Test.YtmghkacbphdakaaDoorTie
import Derived.Test.YtmghkacbphdakaaDoorCards
import Derived.Test.YtmghkacbphdakaaDoorGeoL
import Derived.WalkKit
import Derived.ProofKit
import Derived.OpenShut
import Derived.ShutString
import Derived.ChangeOld
import Derived.Below
import Derived.LaidMore
import Derived.SevenTiedAt
import Derived.Stop.Joined
namespace Go.Proofs.YtmghkacbphdakaaDoor.spaceCloses
open Go.ChangeShapes Go.WideShapes Go.ChangeAt Go.RowKit
open Go.ChangeMaps (open_string shut_string)
set_option linter.unusedVariables false
open GeoN GeoC GeoS SpaN SpaC SpaO
set_option maxRecDepth 100000 in
theorem none_ (b l f : Int) (a : Option Addr) (n c : Nat) (w : World) (hn : n ≤ maxLen) (hb : Bnd w) (h : ¬ good b l f 0) :
    Calls Tryd.prog 4 #[.agg #[.int .i64 b, .int .i64 l, .int .i64 f], .slice a n c] w fun e w' => e = .returned (.bool true) ∧ Below w.heap.size w w' := by
  unfold maxLen at hn
  obtain ⟨W1, hW1⟩ : ∃ W1, W1 = w.alloc (.cells #[.int .i64 b, .int .i64 l, .int .i64 f] 23) := ⟨_, rfl⟩
  have S1 : Hid (St w b l f W1) := Lib.hid (by rw [hW1]; exact st_new b l f hb)
  have H1 := Lib.hid (SpaI.New_no b l f 0 W1 S1.out.bn h)
  obtain ⟨k0, k1, k2⟩ := S1.out.cells
  clear hb h
  go_enter Tryd.func4, Tryd.ntmps4
  go_upto_region 1 with (fail)
  rw [← hW1]
  clear hW1
  go_wp2_with (first
    | (go_at_call 7; refine H1.out.mono ?_; rintro e w2 ⟨rfl, k⟩; replace S1 := Lib.hid (S1.out.step k); clear k)
    | (go_at_call 6; refine (SpaY.alive _ S1.out.bn).mono ?_; rintro e w3 ⟨rfl, k⟩; replace S1 := Lib.hid (S1.out.step k); clear k))
  go_ret
  exact ⟨rfl, S1.out.bel⟩
set_option maxRecDepth 100000 in
theorem many (b l f : Int) (a : Option Addr) (n c : Nat) (w : World) (hn : n ≤ maxLen) (h2 : 2000 < n) (hb : Bnd w) (h : good b l f 0) :
    Calls Tryd.prog 4 #[.agg #[.int .i64 b, .int .i64 l, .int .i64 f], .slice a n c] w fun e w' => e = .returned (.bool true) ∧ Below w.heap.size w w' := by
  unfold maxLen at hn
  obtain ⟨W1, hW1⟩ : ∃ W1, W1 = w.alloc (.cells #[.int .i64 b, .int .i64 l, .int .i64 f] 23) := ⟨_, rfl⟩
  have S1 : Hid (St w b l f W1) := Lib.hid (by rw [hW1]; exact st_new b l f hb)
  have H1 := Lib.hid (SpaI.New_yes b l f 0 W1 S1.out.bn h)
  obtain ⟨k0, k1, k2⟩ := S1.out.cells
  clear hb h
  go_enter Tryd.func4, Tryd.ntmps4
  go_upto_region 1 with (fail)
  rw [← hW1]
  clear hW1
  go_wp2_with (first
    | (go_at_call 7; refine H1.out.mono ?_; rintro e w2 ⟨B, hB, rfl, hs, k⟩; replace S1 := Lib.hid (S1.out.step k); clear k hB hs)
    | (go_at_call 6; refine (SpaY.alive _ S1.out.bn).mono ?_; rintro e w3 ⟨rfl, k⟩; replace S1 := Lib.hid (S1.out.step k); clear k))
  go_ret
  exact ⟨rfl, S1.out.bel⟩
set_option maxRecDepth 100000 in
set_option maxHeartbeats 2000000 in
theorem some_ (b l f : Int) (a : Option Addr) (n c : Nat) (z : Nat → Bool) (w : World) (hz : Bools w a n z) (h2 : n ≤ 2000) (hb : Bnd w) (h : good b l f 0) :
    Calls Tryd.prog 4 #[.agg #[.int .i64 b, .int .i64 l, .int .i64 f], .slice a n c] w fun e w' => e = .returned (.bool true) ∧ Below w.heap.size w w' := by
  obtain ⟨W1, hW1⟩ : ∃ W1, W1 = w.alloc (.cells #[.int .i64 b, .int .i64 l, .int .i64 f] 23) := ⟨_, rfl⟩
  have S1 : Hid (St w b l f W1) := Lib.hid (by rw [hW1]; exact st_new b l f hb)
  have H1 := Lib.hid (SpaI.New_yes b l f 0 W1 S1.out.bn h)
  have HZ := Lib.hid hz.2
  have HB := Lib.hid hb
  have HG := Lib.hid h
  have HE := Lib.hid (ne0 h)
  have HR := Lib.hid h.1
  obtain ⟨k0, k1, k2⟩ := S1.out.cells
  clear hb h hz
  go_enter Tryd.func4, Tryd.ntmps4
  go_upto_region 1 with (fail)
  rw [← hW1]
  clear hW1
  go_wp2_with (first
    | (go_at_call 7; refine H1.out.mono ?_; rintro e w2 ⟨B, hB, rfl, hs, k⟩; have NN := Lib.hid (Now.of S1.out HB.out hB hs k); clear k hB hs H1 S1 k0 k1 k2))
  go_loopw [7, 34] (fun x i wr => ∃ j : Nat, j ≤ n ∧ i = .int .i64 j ∧ ∃ u, x = .int .i64 u ∧ good b l f u ∧ Now w B b l f u wr) (fun _ i _ => n - (intOf i).toNat)
  case atStart => exact ⟨0, Nat.zero_le _, rfl, 0, rfl, HG.out, NN.out⟩
  case round =>
    obtain ⟨j, hj, rfl, u, rfl, hg, hnow⟩ := hrel
    replace NN := Lib.hid hnow
    replace HG := Lib.hid hg
    obtain ⟨hu0, hu1⟩ := hg.u
    have HO := Lib.hid (fun W (h : Now w B b l f u W) => SpaF.Open B b l f u W h.s HE.out h.bn)
    by_cases hlt : j < n
    · obtain ⟨g, o, rfl, hgl, hc⟩ := HZ.out (by omega)
      have q0 : wr.cell? ⟨g, o + j, none⟩ = some (.bool (z j)) := (hnow.bel.cell (p := ⟨g, o + j, none⟩) hgl).trans (hc j hlt)
      clear hc hg hnow HZ
      generalize z j = t at *
      cases t
      · by_cases ho : room b l f u = 0
        · clear HO
          have HO := Lib.hid (fun W (h : Now w B b l f u W) => SpaF.Open B b l f u W h.s HE.out h.bn)
          have HC := Lib.hid (fun W (h : Now w B b l f u W) => SpaH.Take_no B b l f u W h.s HE.out h.bn (by omega) ho)
          clear ho
          go_wp2_with (first
            | (go_at_call 16; refine (HO.out _ NN.out).mono ?_; rintro e w3 ⟨rfl, k⟩; replace NN := Lib.hid (NN.out.step k); clear k)
            | (go_at_call 10; refine (HC.out _ NN.out).mono ?_; rintro e w4 ⟨rfl, k⟩; replace NN := Lib.hid (NN.out.step k); clear k))
          go_roundw
          case rel => exact ⟨j + 1, by omega, by go_num, u, rfl, HG.out, NN.out⟩
          case measure => simp [intOf]; omega
        · have HD := Lib.hid (HG.out.next (HG.out.room ho))
          clear HO
          have HO := Lib.hid (fun W (h : Now w B b l f u W) => SpaF.Open B b l f u W h.s HE.out h.bn)
          have HC := Lib.hid (fun W (h : Now w B b l f u W) => SpaH.Take_yes B b l f u W h.s HE.out h.bn hu0 hu1 ho)
          clear ho
          go_wp2_with (first
            | (go_at_call 16; refine (HO.out _ NN.out).mono ?_; rintro e w3 ⟨rfl, k⟩; replace NN := Lib.hid (NN.out.step k); clear k)
            | (go_at_call 10; refine (HC.out _ NN.out).mono ?_; rintro e w4 ⟨rfl, k⟩; replace NN := Lib.hid (NN.out.turn k); clear k))
          go_roundw
          case rel => exact ⟨j + 1, by omega, by go_num, u + 1, rfl, HD.out, NN.out⟩
          case measure => simp [intOf]; omega
      · by_cases ho : u < data b l f
        · have HD := Lib.hid (HG.out.next ho)
          clear HO
          have HO := Lib.hid (fun W (h : Now w B b l f u W) => SpaF.Open B b l f u W h.s HE.out h.bn)
          rw [opened_yes ho] at HO
          have HC := Lib.hid (fun W (h : Now w B b l f u W) => SpaH.Close_yes B b l f u W h.s HE.out h.bn hu0 hu1 ho)
          clear ho
          go_wp2_with (first
            | (go_at_call 16; refine (HO.out _ NN.out).mono ?_; rintro e w3 ⟨rfl, k⟩; replace NN := Lib.hid (NN.out.step k); clear k)
            | (go_at_call 12; refine (HC.out _ NN.out).mono ?_; rintro e w4 ⟨rfl, k⟩; replace NN := Lib.hid (NN.out.turn k); clear k))
          go_roundw
          case rel => exact ⟨j + 1, by omega, by go_num, u + 1, rfl, HD.out, NN.out⟩
          case measure => simp [intOf]; omega
        · clear HO
          have HO := Lib.hid (fun W (h : Now w B b l f u W) => SpaF.Open B b l f u W h.s HE.out h.bn)
          rw [opened_no ho] at HO
          have HC := Lib.hid (fun W (h : Now w B b l f u W) => SpaH.Close_no B b l f u W h.s HE.out h.bn ho)
          clear ho
          go_wp2_with (first
            | (go_at_call 16; refine (HO.out _ NN.out).mono ?_; rintro e w3 ⟨rfl, k⟩; replace NN := Lib.hid (NN.out.step k); clear k)
            | (go_at_call 12; refine (HC.out _ NN.out).mono ?_; rintro e w4 ⟨rfl, k⟩; replace NN := Lib.hid (NN.out.step k); clear k))
          go_roundw
          case rel => exact ⟨j + 1, by omega, by go_num, u, rfl, HG.out, NN.out⟩
          case measure => simp [intOf]; omega
    · obtain rfl : j = n := by omega
      clear HZ HO hg hnow hu0 hu1 hj hlt
      go_wp2_with fail
      go_loopw [7] (fun x wr => ∃ u, x = .int .i64 u ∧ good b l f u ∧ Now w B b l f u wr) (fun x _ => (b - 4 - intOf x).toNat)
      case atStart => exact ⟨u, rfl, HG.out, NN.out⟩
      case round =>
        clear NN HG
        obtain ⟨v, rfl, hg, hnow⟩ := hrel
        have NN := Lib.hid hnow
        have HG := Lib.hid hg
        obtain ⟨hu0, hu1⟩ := hg.u
        have HD := Lib.hid (fun W => GeoR.Data b l f W)
        rw [data_yes HR.out] at HD
        have HO := Lib.hid (fun W (h : Now w B b l f v W) => SpaF.Open B b l f v W h.s HE.out h.bn)
        have hbb := HG.out.b
        have hub := HG.out.2.2
        by_cases ho : v < data b l f
        · have HX := Lib.hid (HG.out.next ho)
          have HC := Lib.hid (fun W (h : Now w B b l f v W) => SpaH.Close_yes B b l f v W h.s HE.out h.bn hu0 hu1 ho)
          rw [opened_yes ho] at HO
          rw [data_yes HR.out] at ho
          clear hg hnow
          go_wp2_with (first
            | (go_at_call 16; refine (HO.out _ NN.out).mono ?_; rintro e w3 ⟨rfl, k⟩; replace NN := Lib.hid (NN.out.step k); clear k)
            | (go_at_call 12; refine (HC.out _ NN.out).mono ?_; rintro e w4 ⟨rfl, k⟩; replace NN := Lib.hid (NN.out.turn k); obtain ⟨k0, k1, k2⟩ := NN.out.cells; clear k)
            | (go_at_call 9; refine (HD.out _).mono ?_; rintro e w5 ⟨rfl, k⟩; replace NN := Lib.hid (NN.out.step k); clear k k0 k1 k2))
          go_roundw
          case rel => exact ⟨v + 1, rfl, HX.out, NN.out⟩
          case measure => simp [intOf]; omega
        · have HC := Lib.hid (fun W (h : Now w B b l f v W) => SpaH.Close_no B b l f v W h.s HE.out h.bn ho)
          rw [opened_no ho] at HO
          rw [data_yes HR.out] at ho
          obtain rfl : v = b - 4 := by omega
          have HT := Lib.hid (fun W (h : Now w B b l f (b - 4) W) => SpaH.Take_no B b l f (b - 4) W h.s HE.out h.bn (by omega) (room_no (fun hh => by omega)))
          have HU := Lib.hid (fun W (h : Now w B b l f (b - 4) W) => SpaE.Used B b l f (b - 4) W h.s HE.out)
          clear hg hnow ho
          go_wp2_with (first
            | (go_at_call 16; refine (HO.out _ NN.out).mono ?_; rintro e w3 ⟨rfl, k⟩; replace NN := Lib.hid (NN.out.step k); clear k)
            | (go_at_call 12; refine (HC.out _ NN.out).mono ?_; rintro e w4 ⟨rfl, k⟩; replace NN := Lib.hid (NN.out.step k); clear k)
            | (go_at_call 10; refine (HT.out _ NN.out).mono ?_; rintro e w5 ⟨rfl, k⟩; replace NN := Lib.hid (NN.out.step k); obtain ⟨k0, k1, k2⟩ := NN.out.cells; clear k)
            | (go_at_call 9; refine (HD.out _).mono ?_; rintro e w6 ⟨rfl, k⟩; replace NN := Lib.hid (NN.out.step k); clear k k0 k1 k2)
            | (go_at_call 14; refine (HU.out _ NN.out).mono ?_; rintro e _ ⟨rfl, rfl⟩)
            | (go_at_call 6; refine (SpaY.alive _ NN.out.bn).mono ?_; rintro e w7 ⟨rfl, k⟩; replace NN := Lib.hid (NN.out.step k); clear k))
          go_ret
          exact ⟨rfl, NN.out.bel⟩
theorem walk (b l f : Int) (a : Option Addr) (n c : Nat) (z : Nat → Bool) (w : World) (wb : (Lit.int .i64 b).wf = true) (wl : (Lit.int .i64 l).wf = true) (wf : (Lit.int .i64 f).wf = true) (wz : Bools w a n z) (hr : Bnd w) :
    Calls Tryd.prog 4 #[.agg #[.int .i64 b, .int .i64 l, .int .i64 f], .slice a n c] w fun e w' => e = .returned (.bool true) ∧ Below w.heap.size w w' := by
  have hn := wz.1
  by_cases h : good b l f 0
  · by_cases h2 : 2000 < n
    · exact many b l f a n c w hn h2 hr h
    · exact some_ b l f a n c z w wz (by omega) hr h
  · exact none_ b l f a n c w hn hr h
theorem own : ownKnob Tryd.prog.godebug = none := by kernel_rfl
theorem laidOut : laidOutB Tryd.prog = true := by kernel_rfl
set_option maxRecDepth 100000 in
theorem lifted (os : Os) (started : os.Started) (H : Type) (enc : TypeId × Value → H) :
    ReturnsInHanded {} Tryd.checked os 4 .any (fun w args => (Rows.spaceClosesSpec.pre enc Tryd.prog Tryd.f4 Rows.spaceClosesRow.domain false w args ∧ laidMetH Tryd.prog Rows.spaceClosesRow.laid w) ∧ sizedMet enc Tryd.prog Tryd.f4 (OpenSpec.ofChange Rows.spaceClosesSpec) false w args) (Rows.spaceClosesSpec.post enc Tryd.prog Tryd.f4 false true false false) := by
  refine returnsInHanded_of_change_and (C := Tryd.checked) (X := fun w _ => laidMetH Tryd.prog Rows.spaceClosesRow.laid w) (fun _ _ _ hh h => h.of_heap hh) own started (by kernel_rfl) Tryd.func4
    (ChangeSpec.witness_shaped (enc := enc) (C := Tryd.checked) (os := os) (X := fun w _ => laidMetH Tryd.prog Rows.spaceClosesRow.laid w) false (World.doorLaid Tryd.prog 400 os) #[.agg #[.int .i64 0, .int .i64 0, .int .i64 0], .slice none 0 0] 8 rfl (World.shaped_of_RefB (by kernel_rfl) (by kernel_rfl)) (by kernel_rfl) (by kernel_rfl) (by kernel_rfl) (GeoL.door_met os _)) ?_
  intro W base args ds gs before hval0 hW _ _ hL _
  have hr := GeoL.of_laid hL
  have hval : ∀ (j : Nat) t v, Tryd.f4.params[j]? = some t → args[j]? = some v → Value.okWide Tryd.prog W .any base t v := hval0
  have hW' := hW
  obtain ⟨p, q, hA0, hV, rfl, hfz, hnd⟩ := hW
  have hA : DataW.TrodAll enc Tryd.prog W 0 (fun _ => true) true Tryd.f4.params.toList args.toList ds p := hA0
  rw [Tryd.params4] at hA hval
  obtain ⟨v0, vs0, d0, ds0, p0, q0, hargs, rfl, rfl, h0, r0⟩ := trodAll_cons hA
  obtain ⟨v1, vs1, d1, ds1, p1, q1, rfl, rfl, rfl, h1, r1⟩ := trodAll_cons r0
  obtain ⟨rfl, rfl, rfl⟩ := trodAll_nil r1
  obtain rfl : args = #[v0, v1] := by cases args; simp_all
  obtain ⟨rfl, rfl⟩ := trodVars_none hV
  have k0 := h0
  have lt0 : ∀ x ∈ p0, x.block < W.heap.size := by obtain ⟨m, hm⟩ := k0; exact DataW.trod_lt m _ _ _ hm
  obtain ⟨a0, b0, c0, rfl, wa0, wb0, wc0⟩ := GeoL.open_geo (hval 0 23 v0 rfl rfl) h0
  have k1 := h1
  have lt1 : ∀ x ∈ p1, x.block < W.heap.size := by obtain ⟨m, hm⟩ := k1; exact DataW.trod_lt m _ _ _ hm
  obtain ⟨b1, len1, ca1, rfl⟩ := okWide_slice Tryd.underlying40 (hval 1 40 v1 rfl rfl)
  obtain ⟨a1, n1, cap1, z1, he1, w1⟩ := SpaO.open_bools h1
  simp only [Value.cells, List.cons.injEq, Value.slice.injEq, and_true] at he1
  obtain ⟨rfl, rfl, rfl⟩ := he1
  clear hA0 hval0
  refine (walk a0 b0 c0 b1 len1 ca1 z1 W wa0 wb0 wc0 w1 hr).mono fun e W' ⟨he, bel⟩ => ?_
  subst he
  exact ⟨_, rfl, _, _, _, [], _, [], hW', trodAll_mk1 (shut_bool Tryd.underlying4 _), (trodAll_cons_mk (Below.trod laidOut (by kernel_rfl) (of_decide_eq_true (by kernel_rfl)) k0 bel lt0) (trodAll_cons_mk (Below.trod laidOut (by kernel_rfl) (of_decide_eq_true (by kernel_rfl)) k1 bel lt1) trodAll_mk0)), rfl, bel.frame _, fun h => by cases h⟩
theorem over : Rows.spaceClosesRow.holds Tryd.pinned (OpenSpec.ofChange Rows.spaceClosesSpec) :=
  OpenClaim.holds_of_wide 4 Tryd.f4 rfl rfl rfl rfl rfl rfl rfl ⟨rfl, rfl, rfl, rfl, rfl⟩ rfl rfl rfl rfl rfl (by kernel_rfl) Tryd.func4 (by kernel_rfl)
    (of_decide_eq_true (by kernel_rfl)) (by unfold Func.isWrapper; first | (rw [if_pos (by decide +kernel)]; kernel_rfl) | (rw [if_neg (by decide +kernel)]; exact ⟨rfl, rfl⟩))
    (fun os started H enc _ => lifted os started H enc)
/-- THE STATEMENT, proved. -/
theorem proved : Rows.SpaceClosesCardSaid :=
  Claim7.holds_tied_plain_at .later [] _ true _ false
    over (fun _ h => by cases h) (by kernel_rfl) (fun _ h => by cases h) spaceCloses_row_tie rfl ⟨rfl, rfl⟩ (by kernel_rfl) rfl
    (fun f fn hf hfn => by
      obtain rfl : f = 4 := Option.some.inj ((show Tryd.prog.funcNamed "keepsake/keepsakelaw13.SpaceCloses" = some 4 by kernel_rfl).symm.trans hf) |>.symm
      obtain rfl : fn = Tryd.f4 := (Option.some.inj (Tryd.func4.symm.trans hfn)).symm
      exact ⟨by kernel_rfl, fun j t ht => by
        rw [Tryd.params4] at ht
        have hm : t ∈ [23, 40] := by simpa using Array.mem_of_getElem? ht
        have hall : ([23, 40].all fun u => !Tryd.prog.wantsStandIn u) = true := by kernel_rfl
        exact (show Tryd.prog.wantsStandIn t = false by simpa using List.all_eq_true.1 hall t hm)⟩)
    (by kernel_rfl)
#print axioms proved
end Go.Proofs.YtmghkacbphdakaaDoor.spaceCloses
