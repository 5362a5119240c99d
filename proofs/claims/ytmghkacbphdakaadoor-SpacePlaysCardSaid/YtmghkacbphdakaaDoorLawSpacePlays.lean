/- SpacePlays: at any shape, any number that are taken, and any row of at most 200 acts (longer ones: only the chapter's example): all is answered as the document says, call by call. The condition: the least and the most numbers lie in the program's two variables (the card ties them to the program's text). -/
import Derived.Test.YtmghkacbphdakaaDoorSpaP
import Derived.Test.YtmghkacbphdakaaDoorGeoR
import Derived.Test.YtmghkacbphdakaaDoorRows
import Derived.Test.YtmghkacbphdakaaDoorTie
import Derived.Test.YtmghkacbphdakaaDoorCards
import Derived.Test.YtmghkacbphdakaaDoorGeoL
import Derived.WalkKit
import Derived.ProofKit
import Derived.OpenShut
import Derived.ShutString
import Derived.ChangeOld
import Derived.Below
import Derived.LaidMore
import Derived.SevenTiedAt
import Derived.Stop.Joined
namespace Go.Proofs.YtmghkacbphdakaaDoor.spacePlays
open Go.ChangeShapes Go.WideShapes Go.ChangeAt Go.RowKit
open Go.ChangeMaps (open_string shut_string)
set_option linter.unusedVariables false
open GeoN GeoC GeoS SpaN SpaC SpaO SpaP
set_option maxRecDepth 100000 in
theorem many (b l f u : Int) (a : Option Addr) (n c : Nat) (w : World) (hn : n ≤ maxLen) (h2 : 200 < n) (hb : Bnd w) :
    Calls Tryd.prog 3 #[.agg #[.int .i64 b, .int .i64 l, .int .i64 f], .int .i64 u, .slice a n c] w fun e w' => e = .returned (.bool true) ∧ Below w.heap.size w w' := by
  unfold maxLen at hn
  obtain ⟨W1, hW1⟩ : ∃ W1, W1 = w.alloc (.cells #[.int .i64 b, .int .i64 l, .int .i64 f] 23) := ⟨_, rfl⟩
  have S1 : Hid (St w b l f W1) := Lib.hid (by rw [hW1]; exact st_new b l f hb)
  clear hb
  go_enter Tryd.func3, Tryd.ntmps3
  go_upto_region 1 with (fail)
  rw [← hW1]
  clear hW1
  go_wp2_with (first
    | (go_at_call 6; refine (SpaY.alive _ S1.out.bn).mono ?_; rintro e w3 ⟨rfl, k⟩; replace S1 := Lib.hid (S1.out.step k); clear k))
  go_ret
  exact ⟨rfl, S1.out.bel⟩
set_option maxRecDepth 100000 in
theorem none_ (b l f u : Int) (a : Option Addr) (n c : Nat) (w : World) (h2 : n ≤ 200) (hb : Bnd w) (h : ¬ good b l f u) :
    Calls Tryd.prog 3 #[.agg #[.int .i64 b, .int .i64 l, .int .i64 f], .int .i64 u, .slice a n c] w fun e w' => e = .returned (.bool true) ∧ Below w.heap.size w w' := by
  obtain ⟨W1, hW1⟩ : ∃ W1, W1 = w.alloc (.cells #[.int .i64 b, .int .i64 l, .int .i64 f] 23) := ⟨_, rfl⟩
  have S1 : Hid (St w b l f W1) := Lib.hid (by rw [hW1]; exact st_new b l f hb)
  have H1 := Lib.hid (SpaI.New_no b l f u W1 S1.out.bn h)
  have HR := Lib.hid (fun W => GeoR.Right b l f W)
  have HD := Lib.hid (fun W => GeoR.Data b l f W)
  obtain ⟨k0, k1, k2⟩ := S1.out.cells
  have h3 : right b l f → ¬ u < 0 → b - 4 < u := fun h4 h5 => by
    by_cases hh : b - 4 < u
    · exact hh
    · exact absurd ⟨h4, by omega, by omega⟩ h
  by_cases hr : right b l f
  · have h4 := h3 hr
    have hb0 := hr.1
    have hb1 := hr.2.1
    rw [decide_eq_true hr] at HR
    rw [data_yes hr] at HD
    clear hb h h3 hr
    by_cases h5 : u < 0
    · clear h4
      go_enter Tryd.func3, Tryd.ntmps3
      go_upto_region 1 with (fail)
      rw [← hW1]
      clear hW1
      go_wp2_with (first
        | (go_at_call 7; refine H1.out.mono ?_; rintro e w2 ⟨rfl, k⟩; clear k0 k1 k2; replace S1 := Lib.hid (S1.out.step k); obtain ⟨k0, k1, k2⟩ := S1.out.cells; clear k)
        | (go_at_call 8; refine (HR.out _).mono ?_; rintro e w3 ⟨rfl, k⟩; clear k0 k1 k2; replace S1 := Lib.hid (S1.out.step k); obtain ⟨k0, k1, k2⟩ := S1.out.cells; clear k)
        | (go_at_call 6; refine (SpaY.alive _ S1.out.bn).mono ?_; rintro e w5 ⟨rfl, k⟩; replace S1 := Lib.hid (S1.out.step k); clear k))
      go_ret
      exact ⟨rfl, S1.out.bel⟩
    · have h6 := h4 h5
      clear h4
      go_enter Tryd.func3, Tryd.ntmps3
      go_upto_region 1 with (fail)
      rw [← hW1]
      clear hW1
      go_wp2_with (first
        | (go_at_call 7; refine H1.out.mono ?_; rintro e w2 ⟨rfl, k⟩; clear k0 k1 k2; replace S1 := Lib.hid (S1.out.step k); obtain ⟨k0, k1, k2⟩ := S1.out.cells; clear k)
        | (go_at_call 8; refine (HR.out _).mono ?_; rintro e w3 ⟨rfl, k⟩; clear k0 k1 k2; replace S1 := Lib.hid (S1.out.step k); obtain ⟨k0, k1, k2⟩ := S1.out.cells; clear k)
        | (go_at_call 9; refine (HD.out _).mono ?_; rintro e w4 ⟨rfl, k⟩; clear k0 k1 k2; replace S1 := Lib.hid (S1.out.step k); clear k)
        | (go_at_call 6; refine (SpaY.alive _ S1.out.bn).mono ?_; rintro e w5 ⟨rfl, k⟩; replace S1 := Lib.hid (S1.out.step k); clear k))
      go_ret
      exact ⟨rfl, S1.out.bel⟩
  · rw [decide_eq_false hr] at HR
    clear hb h h3 hr
    go_enter Tryd.func3, Tryd.ntmps3
    go_upto_region 1 with (fail)
    rw [← hW1]
    clear hW1
    go_wp2_with (first
      | (go_at_call 7; refine H1.out.mono ?_; rintro e w2 ⟨rfl, k⟩; clear k0 k1 k2; replace S1 := Lib.hid (S1.out.step k); obtain ⟨k0, k1, k2⟩ := S1.out.cells; clear k)
      | (go_at_call 8; refine (HR.out _).mono ?_; rintro e w3 ⟨rfl, k⟩; clear k0 k1 k2; replace S1 := Lib.hid (S1.out.step k); clear k)
      | (go_at_call 6; refine (SpaY.alive _ S1.out.bn).mono ?_; rintro e w5 ⟨rfl, k⟩; replace S1 := Lib.hid (S1.out.step k); clear k))
    go_ret
    exact ⟨rfl, S1.out.bel⟩
set_option maxRecDepth 100000 in
set_option maxHeartbeats 4000000 in
theorem some_ (b l f u : Int) (a : Option Addr) (n c : Nat) (z : Nat → Int × Int) (w : World) (hz : Acts w a n z) (h2 : n ≤ 200) (hb : Bnd w) (h : good b l f u) :
    Calls Tryd.prog 3 #[.agg #[.int .i64 b, .int .i64 l, .int .i64 f], .int .i64 u, .slice a n c] w fun e w' => e = .returned (.bool true) ∧ Below w.heap.size w w' := by
  obtain ⟨W1, hW1⟩ : ∃ W1, W1 = w.alloc (.cells #[.int .i64 b, .int .i64 l, .int .i64 f] 23) := ⟨_, rfl⟩
  have S1 : Hid (St w b l f W1) := Lib.hid (by rw [hW1]; exact st_new b l f hb)
  have H1 := Lib.hid (SpaI.New_yes b l f u W1 S1.out.bn h)
  have HZ := Lib.hid hz.2.2
  have HM := Lib.hid hz.2.1
  have HB := Lib.hid hb
  have HG := Lib.hid h
  have HE := Lib.hid (ne0 h)
  have HR := Lib.hid h.1
  have HRi := Lib.hid (fun W => GeoR.Right b l f W)
  have HD := Lib.hid (fun W => GeoR.Data b l f W)
  rw [decide_eq_true h.1] at HRi
  rw [data_yes h.1] at HD
  obtain ⟨k0, k1, k2⟩ := S1.out.cells
  have h3 := h.2.1
  have h4 := h.2.2
  obtain ⟨h5, h6⟩ := h.b
  clear hb h hz
  go_enter Tryd.func3, Tryd.ntmps3
  go_upto_region 1 with (fail)
  rw [← hW1]
  clear hW1
  go_wp2_with (first
    | (go_at_call 7; refine H1.out.mono ?_; rintro e w2 ⟨B, hB, rfl, hs, k⟩; have NN := Lib.hid (Now.of S1.out HB.out hB hs k); clear k hB hs H1 S1 k0 k1 k2; obtain ⟨k0, k1, k2⟩ := NN.out.cells)
    | (go_at_call 8; refine (HRi.out _).mono ?_; rintro e w3 ⟨rfl, k⟩; clear k0 k1 k2; replace NN := Lib.hid (NN.out.step k); obtain ⟨k0, k1, k2⟩ := NN.out.cells; clear k)
    | (go_at_call 9; refine (HD.out _).mono ?_; rintro e w4 ⟨rfl, k⟩; clear k0 k1 k2; replace NN := Lib.hid (NN.out.step k); clear k))
  clear h3 h4 HRi HD
  go_loopw [1, 54] (fun x i wr => ∃ j : Nat, j ≤ n ∧ i = .int .i64 j ∧ ∃ u, x = .int .i64 u ∧ good b l f u ∧ Now w B b l f u wr) (fun _ i _ => n - (intOf i).toNat)
  case atStart => exact ⟨0, Nat.zero_le _, rfl, u, rfl, HG.out, NN.out⟩
  case round =>
    clear NN HG
    obtain ⟨j, hj, rfl, v, rfl, hg, hnow⟩ := hrel
    have NN := Lib.hid hnow
    have HG := Lib.hid hg
    obtain ⟨hv0, hv1⟩ := hg.u
    by_cases hlt : j < n
    · obtain ⟨g, o, rfl, hgl, hc⟩ := HZ.out (by omega)
      have hm := HM.out j hlt
      have q0 : wr.cell? ⟨g, o + j * 2, none⟩ = some (.int .i64 (z j).1) := (hnow.bel.cell (p := ⟨g, o + j * 2, none⟩) hgl).trans (hc j hlt).1
      have q1 : wr.cell? ⟨g, o + j * 2 + 1, none⟩ = some (.int .i64 (z j).2) := (hnow.bel.cell (p := ⟨g, o + j * 2 + 1, none⟩) hgl).trans (hc j hlt).2
      clear hc hg hnow HZ HM
      generalize (z j).1 = kd at *
      generalize (z j).2 = m at *
      go_upto_region 11 with (refine wpList_store_row rfl 33 _ _ rfl wr.heap.size _ rfl rfl 33 _ (heap_alloc_new wr _) infoA rfl (SpaP.one2 kd m) ?_)
      generalize hW : World.setRow _ _ _ = W2
      have RR := Lib.hid (show Rnd w B b l f v wr.heap.size kd m W2 by rw [← hW]; exact Rnd.new NN.out kd m _)
      clear hW q0 q1 NN
      generalize wr.heap.size = X at *
      obtain ⟨a0, a1⟩ := RR.out.cells
      obtain ⟨k0, k1, k2⟩ := RR.out.now.cells
      by_cases hk1 : kd = 1
      · subst hk1
        by_cases ho : room b l f v = 0
        · have HC := Lib.hid (fun W (h : Now w B b l f v W) => SpaH.Take_no B b l f v W h.s HE.out h.bn (by omega) ho)
          have HU := Lib.hid (fun W (h : Now w B b l f (v) W) => SpaE.Used B b l f (v) W h.s HE.out)
          have HRo := Lib.hid (fun W (h : Now w B b l f (v) W) => SpaE.Room B b l f (v) W h.s HE.out h.bn (by omega))
          have HRr := Lib.hid (fun W => GeoR.Room b l f (v) W (by omega))
          have HO := Lib.hid (fun W (h : Now w B b l f (v) W) => SpaF.Open B b l f (v) W h.s HE.out h.bn)
          unfold opened at HO
          have HD := Lib.hid (fun W => GeoR.Data b l f W)
          have HRr' := Lib.hid (fun W => GeoR.Room b l f v W (by omega))
          rw [ho] at HRr'
          clear ho
          go_upto_region 29 with (first
            | (go_at_call 10; refine (HC.out _ RR.out.now).mono ?_; rintro e w3 ⟨rfl, k⟩; replace RR := Lib.hid (RR.out.step k); clear k a0 a1 k0 k1 k2; obtain ⟨a0, a1⟩ := RR.out.cells; obtain ⟨k0, k1, k2⟩ := RR.out.now.cells)
            | (go_at_call 11; refine (HRr'.out _).mono ?_; rintro e w4 ⟨rfl, k⟩; replace RR := Lib.hid (RR.out.step k); clear k a0 a1 k0 k1 k2; obtain ⟨a0, a1⟩ := RR.out.cells; obtain ⟨k0, k1, k2⟩ := RR.out.now.cells))
          generalize room b l f (v) = ro at *
          generalize data b l f = da at *
          go_region_held3 (fun w' => w'.cell? ⟨w.heap.size, 0, none⟩ = some (.int .i64 b) ∧ w'.cell? ⟨w.heap.size, 1, none⟩ = some (.int .i64 l) ∧ w'.cell? ⟨w.heap.size, 2, none⟩ = some (.int .i64 f))
            (first | exact hS | exact ⟨k0, k1, k2⟩)
            (first
              | (go_at_call 14; refine (HU.out _ (RR.out.now.step (Below.refl _ _).drew)).mono ?_; rintro e _ ⟨rfl, rfl⟩; replace RR := Lib.hid (RR.out.step (Below.refl _ _).drew); have hS := RR.out.now.cells)
              | (go_at_call 15; refine (HRo.out _ RR.out.now).mono ?_; rintro e w6 ⟨rfl, k⟩; replace RR := Lib.hid (RR.out.step k); have hS := RR.out.now.cells; clear k)
              | (go_at_call 11; refine (HRr.out _).mono ?_; rintro e w7 ⟨rfl, k⟩; replace RR := Lib.hid (RR.out.step k); have hS := RR.out.now.cells; clear k)
              | (go_at_call 16; refine (HO.out _ RR.out.now).mono ?_; rintro e w8 ⟨rfl, k⟩; replace RR := Lib.hid (RR.out.step k); have hS := RR.out.now.cells; clear k)
              | (go_at_call 9; refine (HD.out _).mono ?_; rintro e w9 ⟨rfl, k⟩; replace RR := Lib.hid (RR.out.step k); have hS := RR.out.now.cells; clear k))
          clear hS a0 a1 k0 k1 k2
          go_wp2
          go_roundw
          case rel => exact ⟨j + 1, by omega, by go_num, v, rfl, HG.out, RR.out.now⟩
          case measure => simp [intOf]; omega
        · have HC := Lib.hid (fun W (h : Now w B b l f v W) => SpaH.Take_yes B b l f v W h.s HE.out h.bn hv0 hv1 ho)
          have HU := Lib.hid (fun W (h : Now w B b l f (v + 1) W) => SpaE.Used B b l f (v + 1) W h.s HE.out)
          have HRo := Lib.hid (fun W (h : Now w B b l f (v + 1) W) => SpaE.Room B b l f (v + 1) W h.s HE.out h.bn (by omega))
          have HRr := Lib.hid (fun W => GeoR.Room b l f (v + 1) W (by omega))
          have HO := Lib.hid (fun W (h : Now w B b l f (v + 1) W) => SpaF.Open B b l f (v + 1) W h.s HE.out h.bn)
          unfold opened at HO
          have HD := Lib.hid (fun W => GeoR.Data b l f W)
          have HG1 := Lib.hid (HG.out.next (HG.out.room ho))
          have HRr' := Lib.hid (fun W => GeoR.Room b l f v W (by omega))
          have hz0 : (room b l f v == 0) = false := by rw [beq_eq_false_iff_ne]; exact ho
          clear ho
          generalize room b l f v = r0 at *
          go_upto_region 29 with (first
            | (go_at_call 10; refine (HC.out _ RR.out.now).mono ?_; rintro e w3 ⟨rfl, k⟩; replace RR := Lib.hid (RR.out.turn k); clear k a0 a1 k0 k1 k2; obtain ⟨a0, a1⟩ := RR.out.cells; obtain ⟨k0, k1, k2⟩ := RR.out.now.cells)
            | (go_at_call 11; refine (HRr'.out _).mono ?_; rintro e w4 ⟨rfl, k⟩; replace RR := Lib.hid (RR.out.step k); clear k a0 a1 k0 k1 k2; obtain ⟨a0, a1⟩ := RR.out.cells; obtain ⟨k0, k1, k2⟩ := RR.out.now.cells))
          generalize room b l f (v + 1) = ro at *
          generalize data b l f = da at *
          go_region_held3 (fun w' => w'.cell? ⟨w.heap.size, 0, none⟩ = some (.int .i64 b) ∧ w'.cell? ⟨w.heap.size, 1, none⟩ = some (.int .i64 l) ∧ w'.cell? ⟨w.heap.size, 2, none⟩ = some (.int .i64 f))
            (first | exact hS | exact ⟨k0, k1, k2⟩)
            (first
              | (go_at_call 14; refine (HU.out _ (RR.out.now.step (Below.refl _ _).drew)).mono ?_; rintro e _ ⟨rfl, rfl⟩; replace RR := Lib.hid (RR.out.step (Below.refl _ _).drew); have hS := RR.out.now.cells)
              | (go_at_call 15; refine (HRo.out _ RR.out.now).mono ?_; rintro e w6 ⟨rfl, k⟩; replace RR := Lib.hid (RR.out.step k); have hS := RR.out.now.cells; clear k)
              | (go_at_call 11; refine (HRr.out _).mono ?_; rintro e w7 ⟨rfl, k⟩; replace RR := Lib.hid (RR.out.step k); have hS := RR.out.now.cells; clear k)
              | (go_at_call 16; refine (HO.out _ RR.out.now).mono ?_; rintro e w8 ⟨rfl, k⟩; replace RR := Lib.hid (RR.out.step k); have hS := RR.out.now.cells; clear k)
              | (go_at_call 9; refine (HD.out _).mono ?_; rintro e w9 ⟨rfl, k⟩; replace RR := Lib.hid (RR.out.step k); have hS := RR.out.now.cells; clear k))
          clear hS a0 a1 k0 k1 k2
          go_wp2
          go_roundw
          case rel => exact ⟨j + 1, by omega, by go_num, v + 1, rfl, HG1.out, RR.out.now⟩
          case measure => simp [intOf]; omega
      · have e1 : (kd == 1) = false := by rw [beq_eq_false_iff_ne]; exact hk1
        by_cases hk2 : kd = 2
        · subst hk2
          by_cases ho : v < data b l f
          · have HC := Lib.hid (fun W (h : Now w B b l f v W) => SpaH.Close_yes B b l f v W h.s HE.out h.bn hv0 hv1 ho)
            have HU := Lib.hid (fun W (h : Now w B b l f (v + 1) W) => SpaE.Used B b l f (v + 1) W h.s HE.out)
            have HRo := Lib.hid (fun W (h : Now w B b l f (v + 1) W) => SpaE.Room B b l f (v + 1) W h.s HE.out h.bn (by omega))
            have HRr := Lib.hid (fun W => GeoR.Room b l f (v + 1) W (by omega))
            have HO := Lib.hid (fun W (h : Now w B b l f (v + 1) W) => SpaF.Open B b l f (v + 1) W h.s HE.out h.bn)
            unfold opened at HO
            have HD := Lib.hid (fun W => GeoR.Data b l f W)
            have HG1 := Lib.hid (HG.out.next ho)
            have HD' := Lib.hid (fun W => GeoR.Data b l f W)
            have hz0 : (v == data b l f) = false := by rw [beq_eq_false_iff_ne]; omega
            clear ho
            generalize data b l f = da at *
            go_upto_region 29 with (first
              | (go_at_call 12; refine (HC.out _ RR.out.now).mono ?_; rintro e w3 ⟨rfl, k⟩; replace RR := Lib.hid (RR.out.turn k); clear k a0 a1 k0 k1 k2; obtain ⟨a0, a1⟩ := RR.out.cells; obtain ⟨k0, k1, k2⟩ := RR.out.now.cells)
              | (go_at_call 9; refine (HD'.out _).mono ?_; rintro e w4 ⟨rfl, k⟩; replace RR := Lib.hid (RR.out.step k); clear k a0 a1 k0 k1 k2; obtain ⟨a0, a1⟩ := RR.out.cells; obtain ⟨k0, k1, k2⟩ := RR.out.now.cells))
            generalize room b l f (v + 1) = ro at *
            go_region_held3 (fun w' => w'.cell? ⟨w.heap.size, 0, none⟩ = some (.int .i64 b) ∧ w'.cell? ⟨w.heap.size, 1, none⟩ = some (.int .i64 l) ∧ w'.cell? ⟨w.heap.size, 2, none⟩ = some (.int .i64 f))
              (first | exact hS | exact ⟨k0, k1, k2⟩)
              (first
                | (go_at_call 14; refine (HU.out _ (RR.out.now.step (Below.refl _ _).drew)).mono ?_; rintro e _ ⟨rfl, rfl⟩; replace RR := Lib.hid (RR.out.step (Below.refl _ _).drew); have hS := RR.out.now.cells)
                | (go_at_call 15; refine (HRo.out _ RR.out.now).mono ?_; rintro e w6 ⟨rfl, k⟩; replace RR := Lib.hid (RR.out.step k); have hS := RR.out.now.cells; clear k)
                | (go_at_call 11; refine (HRr.out _).mono ?_; rintro e w7 ⟨rfl, k⟩; replace RR := Lib.hid (RR.out.step k); have hS := RR.out.now.cells; clear k)
                | (go_at_call 16; refine (HO.out _ RR.out.now).mono ?_; rintro e w8 ⟨rfl, k⟩; replace RR := Lib.hid (RR.out.step k); have hS := RR.out.now.cells; clear k)
                | (go_at_call 9; refine (HD.out _).mono ?_; rintro e w9 ⟨rfl, k⟩; replace RR := Lib.hid (RR.out.step k); have hS := RR.out.now.cells; clear k))
            clear hS a0 a1 k0 k1 k2
            go_wp2
            go_roundw
            case rel => exact ⟨j + 1, by omega, by go_num, v + 1, rfl, HG1.out, RR.out.now⟩
            case measure => simp [intOf]; omega
          · have HC := Lib.hid (fun W (h : Now w B b l f v W) => SpaH.Close_no B b l f v W h.s HE.out h.bn ho)
            have HU := Lib.hid (fun W (h : Now w B b l f (v) W) => SpaE.Used B b l f (v) W h.s HE.out)
            have HRo := Lib.hid (fun W (h : Now w B b l f (v) W) => SpaE.Room B b l f (v) W h.s HE.out h.bn (by omega))
            have HRr := Lib.hid (fun W => GeoR.Room b l f (v) W (by omega))
            have HO := Lib.hid (fun W (h : Now w B b l f (v) W) => SpaF.Open B b l f (v) W h.s HE.out h.bn)
            unfold opened at HO
            have HD := Lib.hid (fun W => GeoR.Data b l f W)
            have HD' := Lib.hid (fun W => GeoR.Data b l f W)
            have hz0 : (v == data b l f) = true := by rw [beq_iff_eq]; have := HG.out.2.2; have := data_yes HR.out; omega
            clear ho
            generalize data b l f = da at *
            go_upto_region 29 with (first
              | (go_at_call 12; refine (HC.out _ RR.out.now).mono ?_; rintro e w3 ⟨rfl, k⟩; replace RR := Lib.hid (RR.out.step k); clear k a0 a1 k0 k1 k2; obtain ⟨a0, a1⟩ := RR.out.cells; obtain ⟨k0, k1, k2⟩ := RR.out.now.cells)
              | (go_at_call 9; refine (HD'.out _).mono ?_; rintro e w4 ⟨rfl, k⟩; replace RR := Lib.hid (RR.out.step k); clear k a0 a1 k0 k1 k2; obtain ⟨a0, a1⟩ := RR.out.cells; obtain ⟨k0, k1, k2⟩ := RR.out.now.cells))
            generalize room b l f (v) = ro at *
            go_region_held3 (fun w' => w'.cell? ⟨w.heap.size, 0, none⟩ = some (.int .i64 b) ∧ w'.cell? ⟨w.heap.size, 1, none⟩ = some (.int .i64 l) ∧ w'.cell? ⟨w.heap.size, 2, none⟩ = some (.int .i64 f))
              (first | exact hS | exact ⟨k0, k1, k2⟩)
              (first
                | (go_at_call 14; refine (HU.out _ (RR.out.now.step (Below.refl _ _).drew)).mono ?_; rintro e _ ⟨rfl, rfl⟩; replace RR := Lib.hid (RR.out.step (Below.refl _ _).drew); have hS := RR.out.now.cells)
                | (go_at_call 15; refine (HRo.out _ RR.out.now).mono ?_; rintro e w6 ⟨rfl, k⟩; replace RR := Lib.hid (RR.out.step k); have hS := RR.out.now.cells; clear k)
                | (go_at_call 11; refine (HRr.out _).mono ?_; rintro e w7 ⟨rfl, k⟩; replace RR := Lib.hid (RR.out.step k); have hS := RR.out.now.cells; clear k)
                | (go_at_call 16; refine (HO.out _ RR.out.now).mono ?_; rintro e w8 ⟨rfl, k⟩; replace RR := Lib.hid (RR.out.step k); have hS := RR.out.now.cells; clear k)
                | (go_at_call 9; refine (HD.out _).mono ?_; rintro e w9 ⟨rfl, k⟩; replace RR := Lib.hid (RR.out.step k); have hS := RR.out.now.cells; clear k))
            clear hS a0 a1 k0 k1 k2
            go_wp2
            go_roundw
            case rel => exact ⟨j + 1, by omega, by go_num, v, rfl, HG.out, RR.out.now⟩
            case measure => simp [intOf]; omega
        · have e2 : (kd == 2) = false := by rw [beq_eq_false_iff_ne]; exact hk2
          clear hk1 hk2
          by_cases h7 : m < 0
          · have HC := Lib.hid (fun W (h : Now w B b l f v W) => SpaH.Back_no B b l f v m W h.s HE.out (.inl h7))
            have HU := Lib.hid (fun W (h : Now w B b l f (v) W) => SpaE.Used B b l f (v) W h.s HE.out)
            have HRo := Lib.hid (fun W (h : Now w B b l f (v) W) => SpaE.Room B b l f (v) W h.s HE.out h.bn (by omega))
            have HRr := Lib.hid (fun W => GeoR.Room b l f (v) W (by omega))
            have HO := Lib.hid (fun W (h : Now w B b l f (v) W) => SpaF.Open B b l f (v) W h.s HE.out h.bn)
            unfold opened at HO
            have HD := Lib.hid (fun W => GeoR.Data b l f W)
            go_upto_region 29 with (first
              | (go_at_call 13; refine (HC.out _ RR.out.now).mono ?_; rintro e w3 ⟨rfl, k⟩; replace RR := Lib.hid (RR.out.step k); clear k a0 a1 k0 k1 k2; obtain ⟨a0, a1⟩ := RR.out.cells; obtain ⟨k0, k1, k2⟩ := RR.out.now.cells))
            generalize room b l f (v) = ro at *
            generalize data b l f = da at *
            go_region_held3 (fun w' => w'.cell? ⟨w.heap.size, 0, none⟩ = some (.int .i64 b) ∧ w'.cell? ⟨w.heap.size, 1, none⟩ = some (.int .i64 l) ∧ w'.cell? ⟨w.heap.size, 2, none⟩ = some (.int .i64 f))
              (first | exact hS | exact ⟨k0, k1, k2⟩)
              (first
                | (go_at_call 14; refine (HU.out _ (RR.out.now.step (Below.refl _ _).drew)).mono ?_; rintro e _ ⟨rfl, rfl⟩; replace RR := Lib.hid (RR.out.step (Below.refl _ _).drew); have hS := RR.out.now.cells)
                | (go_at_call 15; refine (HRo.out _ RR.out.now).mono ?_; rintro e w6 ⟨rfl, k⟩; replace RR := Lib.hid (RR.out.step k); have hS := RR.out.now.cells; clear k)
                | (go_at_call 11; refine (HRr.out _).mono ?_; rintro e w7 ⟨rfl, k⟩; replace RR := Lib.hid (RR.out.step k); have hS := RR.out.now.cells; clear k)
                | (go_at_call 16; refine (HO.out _ RR.out.now).mono ?_; rintro e w8 ⟨rfl, k⟩; replace RR := Lib.hid (RR.out.step k); have hS := RR.out.now.cells; clear k)
                | (go_at_call 9; refine (HD.out _).mono ?_; rintro e w9 ⟨rfl, k⟩; replace RR := Lib.hid (RR.out.step k); have hS := RR.out.now.cells; clear k))
            clear hS a0 a1 k0 k1 k2
            go_wp2
            go_roundw
            case rel => exact ⟨j + 1, by omega, by go_num, v, rfl, HG.out, RR.out.now⟩
            case measure => simp [intOf]; omega
          · by_cases h8 : v < m
            · have HC := Lib.hid (fun W (h : Now w B b l f v W) => SpaH.Back_no B b l f v m W h.s HE.out (.inr h8))
              have HU := Lib.hid (fun W (h : Now w B b l f (v) W) => SpaE.Used B b l f (v) W h.s HE.out)
              have HRo := Lib.hid (fun W (h : Now w B b l f (v) W) => SpaE.Room B b l f (v) W h.s HE.out h.bn (by omega))
              have HRr := Lib.hid (fun W => GeoR.Room b l f (v) W (by omega))
              have HO := Lib.hid (fun W (h : Now w B b l f (v) W) => SpaF.Open B b l f (v) W h.s HE.out h.bn)
              unfold opened at HO
              have HD := Lib.hid (fun W => GeoR.Data b l f W)
              go_upto_region 29 with (first
                | (go_at_call 13; refine (HC.out _ RR.out.now).mono ?_; rintro e w3 ⟨rfl, k⟩; replace RR := Lib.hid (RR.out.step k); clear k a0 a1 k0 k1 k2; obtain ⟨a0, a1⟩ := RR.out.cells; obtain ⟨k0, k1, k2⟩ := RR.out.now.cells))
              generalize room b l f (v) = ro at *
              generalize data b l f = da at *
              go_region_held3 (fun w' => w'.cell? ⟨w.heap.size, 0, none⟩ = some (.int .i64 b) ∧ w'.cell? ⟨w.heap.size, 1, none⟩ = some (.int .i64 l) ∧ w'.cell? ⟨w.heap.size, 2, none⟩ = some (.int .i64 f))
                (first | exact hS | exact ⟨k0, k1, k2⟩)
                (first
                  | (go_at_call 14; refine (HU.out _ (RR.out.now.step (Below.refl _ _).drew)).mono ?_; rintro e _ ⟨rfl, rfl⟩; replace RR := Lib.hid (RR.out.step (Below.refl _ _).drew); have hS := RR.out.now.cells)
                  | (go_at_call 15; refine (HRo.out _ RR.out.now).mono ?_; rintro e w6 ⟨rfl, k⟩; replace RR := Lib.hid (RR.out.step k); have hS := RR.out.now.cells; clear k)
                  | (go_at_call 11; refine (HRr.out _).mono ?_; rintro e w7 ⟨rfl, k⟩; replace RR := Lib.hid (RR.out.step k); have hS := RR.out.now.cells; clear k)
                  | (go_at_call 16; refine (HO.out _ RR.out.now).mono ?_; rintro e w8 ⟨rfl, k⟩; replace RR := Lib.hid (RR.out.step k); have hS := RR.out.now.cells; clear k)
                  | (go_at_call 9; refine (HD.out _).mono ?_; rintro e w9 ⟨rfl, k⟩; replace RR := Lib.hid (RR.out.step k); have hS := RR.out.now.cells; clear k))
              clear hS a0 a1 k0 k1 k2
              go_wp2
              go_roundw
              case rel => exact ⟨j + 1, by omega, by go_num, v, rfl, HG.out, RR.out.now⟩
              case measure => simp [intOf]; omega
            · have HC := Lib.hid (fun W (h : Now w B b l f v W) => SpaH.Back_yes B b l f v m W h.s HE.out h7 h8)
              have HU := Lib.hid (fun W (h : Now w B b l f (m) W) => SpaE.Used B b l f (m) W h.s HE.out)
              have HRo := Lib.hid (fun W (h : Now w B b l f (m) W) => SpaE.Room B b l f (m) W h.s HE.out h.bn (by omega))
              have HRr := Lib.hid (fun W => GeoR.Room b l f (m) W (by omega))
              have HO := Lib.hid (fun W (h : Now w B b l f (m) W) => SpaF.Open B b l f (m) W h.s HE.out h.bn)
              unfold opened at HO
              have HD := Lib.hid (fun W => GeoR.Data b l f W)
              have HG1 := Lib.hid (HG.out.back h7 h8)
              go_upto_region 29 with (first
                | (go_at_call 13; refine (HC.out _ RR.out.now).mono ?_; rintro e w3 ⟨rfl, k⟩; replace RR := Lib.hid (RR.out.turn k); clear k a0 a1 k0 k1 k2; obtain ⟨a0, a1⟩ := RR.out.cells; obtain ⟨k0, k1, k2⟩ := RR.out.now.cells))
              generalize room b l f (m) = ro at *
              generalize data b l f = da at *
              go_region_held3 (fun w' => w'.cell? ⟨w.heap.size, 0, none⟩ = some (.int .i64 b) ∧ w'.cell? ⟨w.heap.size, 1, none⟩ = some (.int .i64 l) ∧ w'.cell? ⟨w.heap.size, 2, none⟩ = some (.int .i64 f))
                (first | exact hS | exact ⟨k0, k1, k2⟩)
                (first
                  | (go_at_call 14; refine (HU.out _ (RR.out.now.step (Below.refl _ _).drew)).mono ?_; rintro e _ ⟨rfl, rfl⟩; replace RR := Lib.hid (RR.out.step (Below.refl _ _).drew); have hS := RR.out.now.cells)
                  | (go_at_call 15; refine (HRo.out _ RR.out.now).mono ?_; rintro e w6 ⟨rfl, k⟩; replace RR := Lib.hid (RR.out.step k); have hS := RR.out.now.cells; clear k)
                  | (go_at_call 11; refine (HRr.out _).mono ?_; rintro e w7 ⟨rfl, k⟩; replace RR := Lib.hid (RR.out.step k); have hS := RR.out.now.cells; clear k)
                  | (go_at_call 16; refine (HO.out _ RR.out.now).mono ?_; rintro e w8 ⟨rfl, k⟩; replace RR := Lib.hid (RR.out.step k); have hS := RR.out.now.cells; clear k)
                  | (go_at_call 9; refine (HD.out _).mono ?_; rintro e w9 ⟨rfl, k⟩; replace RR := Lib.hid (RR.out.step k); have hS := RR.out.now.cells; clear k))
              clear hS a0 a1 k0 k1 k2
              go_wp2
              go_roundw
              case rel => exact ⟨j + 1, by omega, by go_num, m, rfl, HG1.out, RR.out.now⟩
              case measure => simp [intOf]; omega
    · obtain rfl : j = n := by omega
      clear hg hnow HZ HM
      go_wp2_with (go_at_call 6; refine (SpaY.alive _ NN.out.bn).mono ?_; rintro e w7 ⟨rfl, k⟩; replace NN := Lib.hid (NN.out.step k); clear k)
      go_ret
      exact ⟨rfl, NN.out.bel⟩
theorem walk (b l f u : Int) (a : Option Addr) (n c : Nat) (z : Nat → Int × Int) (w : World) (wb : (Lit.int .i64 b).wf = true) (wl : (Lit.int .i64 l).wf = true) (wf : (Lit.int .i64 f).wf = true) (wu : (Lit.int .i64 u).wf = true) (wz : Acts w a n z) (hr : Bnd w) :
    Calls Tryd.prog 3 #[.agg #[.int .i64 b, .int .i64 l, .int .i64 f], .int .i64 u, .slice a n c] w fun e w' => e = .returned (.bool true) ∧ Below w.heap.size w w' := by
  have hn := wz.1
  by_cases h2 : 200 < n
  · exact many b l f u a n c w hn h2 hr
  · by_cases h : good b l f u
    · exact some_ b l f u a n c z w wz (by omega) hr h
    · exact none_ b l f u a n c w (by omega) hr h
theorem own : ownKnob Tryd.prog.godebug = none := by kernel_rfl
theorem laidOut : laidOutB Tryd.prog = true := by kernel_rfl
set_option maxRecDepth 100000 in
theorem lifted (os : Os) (started : os.Started) (H : Type) (enc : TypeId × Value → H) :
    ReturnsInHanded {} Tryd.checked os 3 .any (fun w args => (Rows.spacePlaysSpec.pre enc Tryd.prog Tryd.f3 Rows.spacePlaysRow.domain false w args ∧ laidMetH Tryd.prog Rows.spacePlaysRow.laid w) ∧ sizedMet enc Tryd.prog Tryd.f3 (OpenSpec.ofChange Rows.spacePlaysSpec) false w args) (Rows.spacePlaysSpec.post enc Tryd.prog Tryd.f3 false true false false) := by
  refine returnsInHanded_of_change_and (C := Tryd.checked) (X := fun w _ => laidMetH Tryd.prog Rows.spacePlaysRow.laid w) (fun _ _ _ hh h => h.of_heap hh) own started (by kernel_rfl) Tryd.func3
    (ChangeSpec.witness_shaped (enc := enc) (C := Tryd.checked) (os := os) (X := fun w _ => laidMetH Tryd.prog Rows.spacePlaysRow.laid w) false (World.doorLaid Tryd.prog 400 os) #[.agg #[.int .i64 0, .int .i64 0, .int .i64 0], .int .i64 0, .slice none 0 0] 8 rfl (World.shaped_of_RefB (by kernel_rfl) (by kernel_rfl)) (by kernel_rfl) (by kernel_rfl) (by kernel_rfl) (GeoL.door_met os _)) ?_
  intro W base args ds gs before hval0 hW _ _ hL _
  have hr := GeoL.of_laid hL
  have hval : ∀ (j : Nat) t v, Tryd.f3.params[j]? = some t → args[j]? = some v → Value.okWide Tryd.prog W .any base t v := hval0
  have hW' := hW
  obtain ⟨p, q, hA0, hV, rfl, hfz, hnd⟩ := hW
  have hA : DataW.TrodAll enc Tryd.prog W 0 (fun _ => true) true Tryd.f3.params.toList args.toList ds p := hA0
  rw [Tryd.params3] at hA hval
  obtain ⟨v0, vs0, d0, ds0, p0, q0, hargs, rfl, rfl, h0, r0⟩ := trodAll_cons hA
  obtain ⟨v1, vs1, d1, ds1, p1, q1, rfl, rfl, rfl, h1, r1⟩ := trodAll_cons r0
  obtain ⟨v2, vs2, d2, ds2, p2, q2, rfl, rfl, rfl, h2, r2⟩ := trodAll_cons r1
  obtain ⟨rfl, rfl, rfl⟩ := trodAll_nil r2
  obtain rfl : args = #[v0, v1, v2] := by cases args; simp_all
  obtain ⟨rfl, rfl⟩ := trodVars_none hV
  have k0 := h0
  have lt0 : ∀ x ∈ p0, x.block < W.heap.size := by obtain ⟨m, hm⟩ := k0; exact DataW.trod_lt m _ _ _ hm
  obtain ⟨a0, b0, c0, rfl, wa0, wb0, wc0⟩ := GeoL.open_geo (hval 0 23 v0 rfl rfl) h0
  obtain ⟨a1, rfl, rfl, rfl, w1⟩ := open_int Tryd.underlying3 (hval 1 3 v1 rfl rfl) h1
  have k2 := h2
  have lt2 : ∀ x ∈ p2, x.block < W.heap.size := by obtain ⟨m, hm⟩ := k2; exact DataW.trod_lt m _ _ _ hm
  obtain ⟨b2, len2, ca2, rfl⟩ := okWide_slice Tryd.underlying24 (hval 2 24 v2 rfl rfl)
  obtain ⟨a2, n2, cap2, z2, he2, w2⟩ := SpaO.open_acts h2
  simp only [Value.cells, List.cons.injEq, Value.slice.injEq, and_true] at he2
  obtain ⟨rfl, rfl, rfl⟩ := he2
  clear hA0 hval0
  refine (walk a0 b0 c0 a1 b2 len2 ca2 z2 W wa0 wb0 wc0 w1 w2 hr).mono fun e W' ⟨he, bel⟩ => ?_
  subst he
  exact ⟨_, rfl, _, _, _, [], _, [], hW', trodAll_mk1 (shut_bool Tryd.underlying4 _), (trodAll_cons_mk (Below.trod laidOut (by kernel_rfl) (of_decide_eq_true (by kernel_rfl)) k0 bel lt0) (trodAll_cons_mk (shut_int Tryd.underlying3 w1) (trodAll_cons_mk (Below.trod laidOut (by kernel_rfl) (of_decide_eq_true (by kernel_rfl)) k2 bel lt2) trodAll_mk0))), rfl, bel.frame _, fun h => by cases h⟩
theorem over : Rows.spacePlaysRow.holds Tryd.pinned (OpenSpec.ofChange Rows.spacePlaysSpec) :=
  OpenClaim.holds_of_wide 3 Tryd.f3 rfl rfl rfl rfl rfl rfl rfl ⟨rfl, rfl, rfl, rfl, rfl⟩ rfl rfl rfl rfl rfl (by kernel_rfl) Tryd.func3 (by kernel_rfl)
    (of_decide_eq_true (by kernel_rfl)) (by unfold Func.isWrapper; first | (rw [if_pos (by decide +kernel)]; kernel_rfl) | (rw [if_neg (by decide +kernel)]; exact ⟨rfl, rfl⟩))
    (fun os started H enc _ => lifted os started H enc)
/-- THE STATEMENT, proved. -/
theorem proved : Rows.SpacePlaysCardSaid :=
  Claim7.holds_tied_plain_at .later [] _ true _ false
    over (fun _ h => by cases h) (by kernel_rfl) (fun _ h => by cases h) spacePlays_row_tie rfl ⟨rfl, rfl⟩ (by kernel_rfl) rfl
    (fun f fn hf hfn => by
      obtain rfl : f = 3 := Option.some.inj ((show Tryd.prog.funcNamed "keepsake/keepsakelaw13.SpacePlays" = some 3 by kernel_rfl).symm.trans hf) |>.symm
      obtain rfl : fn = Tryd.f3 := (Option.some.inj (Tryd.func3.symm.trans hfn)).symm
      exact ⟨by kernel_rfl, fun j t ht => by
        rw [Tryd.params3] at ht
        have hm : t ∈ [23, 3, 24] := by simpa using Array.mem_of_getElem? ht
        have hall : ([23, 3, 24].all fun u => !Tryd.prog.wantsStandIn u) = true := by kernel_rfl
        exact (show Tryd.prog.wantsStandIn t = false by simpa using List.all_eq_true.1 hall t hm)⟩)
    (by kernel_rfl)
#print axioms proved
end Go.Proofs.YtmghkacbphdakaaDoor.spacePlays
