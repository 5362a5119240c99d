/- keepsakeref08.May: the walk of its text. No conditions but those that each lemma names. -/
import Derived.Test.YtofpflkkbkodaaaDkY
import Derived.Deep.QuietTactic
namespace Go.Proofs.Ytofpflkkbkodaaa.DkZ
open Go.RowKit
open DkN DkM DkQ DkC DkV
theorem noB_zero {n : Nat} {i : Int} {k : Nat} (h : noB n i k = 0) : k = 4096 ∧ 0 ≤ i ∧ i < (n : Int) := by
  unfold noB hasB at h
  by_cases hi : 0 ≤ i ∧ i < (n : Int)
  · by_cases hs : k = 4096
    · exact ⟨hs, hi⟩
    · simp [hi, hs] at h
  · simp [hi] at h
theorem zero_noB {n : Nat} {i : Int} {k : Nat} (h : k = 4096) (h0 : 0 ≤ i) (h1 : i < (n : Int)) : noB n i k = 0 := by
  unfold noB hasB
  simp [h, h0, h1]
set_option maxRecDepth 100000 in
theorem May_size (c c' n m : Nat) (a a' : Option Addr) (w : World) (h : (n : Int) < 8 ∨ 1024 < (n : Int) ∨ 4096 < (m : Int)) :
    Calls Try.prog 44 #[.agg #[.slice a n c, .slice a' m c']] w fun e w' => e = .returned (.bool false) ∧ Below w.heap.size w w' := by
  have HB := Lib.hid ((Below.refl w.heap.size w).alloc (Nat.le_refl _) (.cells #[.slice a n c, .slice a' m c'] 39))
  by_cases h8 : (n : Int) < 8
  · clear h
    go_enter Try.func44, Try.ntmps44
    go_wp2
    go_ret
    exact ⟨rfl, HB.out⟩
  · by_cases h10 : 1024 < (n : Int)
    · clear h
      go_enter Try.func44, Try.ntmps44
      go_wp2
      go_ret
      exact ⟨rfl, HB.out⟩
    · have hm : 4096 < (m : Int) := by omega
      clear h
      go_enter Try.func44, Try.ntmps44
      go_wp2
      go_ret
      exact ⟨rfl, HB.out⟩
set_option maxRecDepth 100000 in
set_option maxHeartbeats 2000000 in
theorem May_in (c c' : Nat) (a a' : Option Addr) (bl : List ByteArray) (ca : List (Int × ByteArray)) (w : World) (hs : StrRow w a bl) (hp : RRow w a' ca) (hin : 8 ≤ bl.length ∧ bl.length ≤ 1024 ∧ ca.length ≤ 4096) :
    Calls Try.prog 44 #[.agg #[.slice a bl.length c, .slice a' ca.length c']] w fun e w' => e = .returned (.bool (mayB bl ca)) ∧ Below w.heap.size w w' := by
  have HIN := Lib.hid hin
  have hb1 : Below w.heap.size w (w.alloc (.cells #[.slice a bl.length c, .slice a' ca.length c'] 39)) := (Below.refl _ _).alloc (Nat.le_refl _) _
  have HX := Lib.hid (heap_alloc_new w (.cells #[.slice a bl.length c, .slice a' ca.length c'] 39))
  have HS := Lib.hid (StrRow.below hs hb1)
  have HP := Lib.hid (hp.below hb1)
  have HB1 := Lib.hid hb1
  obtain ⟨n, hn⟩ : ∃ n, bl.length = n := ⟨_, rfl⟩
  obtain ⟨m, hm⟩ : ∃ m, ca.length = m := ⟨_, rfl⟩
  rw [hn, hm] at HX HS HP HB1 hin ⊢
  have HN := Lib.hid hn
  have HM := Lib.hid hm
  clear hs hp hb1 hn hm
  have h8 : ¬ (n : Int) < 8 := by omega
  have h10 : ¬ 1024 < (n : Int) := by omega
  have h40 : ¬ 4096 < (m : Int) := by omega
  clear hin
  go_enter Try.func44, Try.ntmps44
  go_wp2_with fail
  generalize hw1 : w.alloc (.cells #[.slice a n c, .slice a' m c'] 39) = w1 at *
  have k0 : w1.cell? ⟨w.heap.size, 0, none⟩ = some (.slice a n c) := blk_cell HX.out rfl
  have k1 : w1.cell? ⟨w.heap.size, 1, none⟩ = some (.slice a' m c') := blk_cell HX.out rfl
  have hlt1 : w.heap.size < w1.heap.size := World.block_lt_of_cell? w1 _ k0
  have HK0 := Lib.hid k0
  have HK1 := Lib.hid k1
  have HLT := Lib.hid hlt1
  clear hw1 HX hlt1
  go_loopw [3] (fun i wr => ∃ j : Nat, j ≤ n ∧ i = .int .i64 j ∧ (bl.take j).all blkB = true ∧ w1 = wr) (fun i _ => n - (intOf i).toNat)
  case atStart => exact ⟨0, Nat.zero_le _, rfl, rfl, rfl⟩
  case round =>
    obtain ⟨j, hj, rfl, hall, rfl⟩ := hrel
    have HA := Lib.hid hall
    clear hall
    by_cases hlt : j < n
    · have hjl : j < bl.length := by rw [HN.out]; exact hlt
      obtain ⟨g, o, rfl, hg, hcs⟩ := HS.out (by omega)
      have q0 : w1.cell? ⟨g, o + j, none⟩ = some (.string bl[j]) := hcs j hjl
      have HX := Lib.hid (all_next blkB bl j hjl HA.out)
      have HY := Lib.hid (all_bad blkB bl j hjl)
      unfold blkB at HX HY
      clear hcs
      generalize bl[j] = s at *
      clear hjl
      have hjn : (j : Int) < (n : Int) := by omega
      have hj0 : (0 : Int) ≤ (j : Int) := by omega
      by_cases hs : s.size = 4096
      · have hs0 : ((s.size : Int) != 4096) = false := by rw [hs]; rfl
        have HX' := Lib.hid (HX.out (decide_eq_true hs))
        clear hs HX HY
        go_wp2
        go_roundw
        case rel => exact ⟨j + 1, by omega, by go_num, HX'.out, trivial⟩
        case measure => simp [intOf]; omega
      · have hs0 : ((s.size : Int) != 4096) = true := by rw [bne_iff_ne]; omega
        have HY' := Lib.hid (mayB_bl (ca := ca) (HY.out (decide_eq_false hs)))
        clear hs HX HY
        go_wp2
        go_ret
        exact ⟨ret_bool HY'.out.symm, HB1.out⟩
    · have HBl : Hid (bl.all blkB = true) := Lib.hid (by have := HA.out; rwa [List.take_of_length_le (by rw [HN.out]; omega)] at this)
      clear HA HS
      go_wp2_with fail
      clear k0 k1
      go_loopw [4] (fun i wr => ∃ j : Nat, j ≤ m ∧ i = .int .i64 j ∧ (ca.take j).all (putB n) = true ∧ Below w1.heap.size w1 wr) (fun i _ => m - (intOf i).toNat)
      case atStart => exact ⟨0, Nat.zero_le _, rfl, rfl, Below.refl _ _⟩
      case round =>
        obtain ⟨k, hk, rfl, hall, hbel⟩ := hrel
        have HA := Lib.hid hall
        have HB := Lib.hid hbel
        have k0 : wr.cell? ⟨w.heap.size, 0, none⟩ = some (.slice a n c) := (hbel.cell (p := ⟨w.heap.size, 0, none⟩) HLT.out).trans HK0.out
        have k1 : wr.cell? ⟨w.heap.size, 1, none⟩ = some (.slice a' m c') := (hbel.cell (p := ⟨w.heap.size, 1, none⟩) HLT.out).trans HK1.out
        clear hall hbel
        by_cases hlk : k < m
        · have hkl : k < ca.length := by rw [HM.out]; exact hlk
          obtain ⟨g, o, rfl, hg, hcs⟩ := HP.out (by omega)
          have q0 : wr.cell? ⟨g, o + k * 2, none⟩ = some (.int .i64 ca[k].1) := (HB.out.cell (p := ⟨g, o + k * 2, none⟩) hg).trans (hcs k hkl).1
          have q1 : wr.cell? ⟨g, o + k * 2 + 1, none⟩ = some (.string ca[k].2) := (HB.out.cell (p := ⟨g, o + k * 2 + 1, none⟩) hg).trans (hcs k hkl).2
          have HX := Lib.hid (all_next (putB n) ca k hkl HA.out)
          have HY := Lib.hid (all_bad (putB n) ca k hkl)
          unfold putB at HX HY
          clear hcs
          generalize ca[k] = x at *
          obtain ⟨i, s⟩ := x
          simp only at q0 q1 HX HY
          clear hkl
          have hkn : (k : Int) < (m : Int) := by omega
          have hk0 : (0 : Int) ≤ (k : Int) := by omega
          have HBW : Hid (∀ W : World, W.os = wr.os → W.tape = wr.tape → W.output = wr.output → W.heap = wr.heap → Below w1.heap.size w1 W) := Lib.hid fun W e1 e2 e3 e4 => ⟨e1.trans HB.out.os, e2.trans HB.out.tape, e3.trans HB.out.output, by rw [e4]; exact HB.out.size, fun k hk => by rw [e4]; exact HB.out.block k hk⟩
          by_cases hz : noB n i s.size = 0
          · obtain ⟨e1, e2, e3⟩ := noB_zero hz
            have d1 : ((s.size : Int) != 4096) = false := by rw [e1]; rfl
            have d2 : decide (i < 0) = false := decide_eq_false (by omega)
            have d3 : decide ((n : Int) ≤ i) = false := decide_eq_false (by omega)
            have HX' := Lib.hid (HX.out (decide_eq_true hz))
            clear hz HX HY e1 e2 e3
            go_wp2_with fail
            go_quiet (fail)
            go_wp2
            go_roundw
            case rel => exact ⟨k + 1, by omega, by go_num, HX'.out, HBW.out _ rfl rfl rfl rfl⟩
            case measure => simp [intOf]; omega
          · have HY' : Hid (mayB bl ca = false) := Lib.hid (mayB_ca (by rw [HN.out]; exact HY.out (decide_eq_false hz)))
            clear HX HY
            by_cases e1 : s.size = 4096
            · have d1 : ((s.size : Int) != 4096) = false := by rw [e1]; rfl
              by_cases e2 : i < 0
              · have d2 : decide (i < 0) = true := decide_eq_true e2
                clear hz e1 e2
                go_wp2_with fail
                go_quiet (fail)
                go_wp2
                go_ret
                exact ⟨ret_bool HY'.out.symm, HB1.out.trans ((HBW.out (wr.drewN _) rfl rfl rfl rfl).mono HB1.out.size)⟩
              · have d2 : decide (i < 0) = false := decide_eq_false e2
                have d3 : decide ((n : Int) ≤ i) = true := decide_eq_true (by
                  rcases Int.lt_or_le i (n : Int) with h | h
                  · exact absurd (zero_noB e1 (by omega) h) hz
                  · exact h)
                clear hz e1 e2
                go_wp2_with fail
                go_quiet (fail)
                go_wp2
                go_ret
                exact ⟨ret_bool HY'.out.symm, HB1.out.trans ((HBW.out (wr.drewN _) rfl rfl rfl rfl).mono HB1.out.size)⟩
            · have d1 : ((s.size : Int) != 4096) = true := by rw [bne_iff_ne]; omega
              clear hz e1
              go_wp2_with fail
              go_quiet (fail)
              go_wp2
              go_ret
              exact ⟨ret_bool HY'.out.symm, HB1.out.trans ((HBW.out (wr.drewN _) rfl rfl rfl rfl).mono HB1.out.size)⟩
        · have HV : Hid (mayB bl ca = true) := Lib.hid (mayB_yes HIN.out HBl.out (by have := HA.out; rw [List.take_of_length_le (by rw [HM.out]; omega)] at this; rw [HN.out]; exact this))
          clear HA
          go_wp2
          go_ret
          exact ⟨ret_bool HV.out.symm, HB1.out.trans (HB.out.mono HB1.out.size)⟩
/-- THE CONTRACT of May. -/
theorem May (c c' : Nat) (a a' : Option Addr) (bl : List ByteArray) (ca : List (Int × ByteArray)) (w : World) (hs : StrRow w a bl) (hp : RRow w a' ca) :
    Calls Try.prog 44 #[.agg #[.slice a bl.length c, .slice a' ca.length c']] w fun e w' => e = .returned (.bool (mayB bl ca)) ∧ Below w.heap.size w w' := by
  by_cases hin : 8 ≤ bl.length ∧ bl.length ≤ 1024 ∧ ca.length ≤ 4096
  · exact May_in c c' a a' bl ca w hs hp hin
  · rw [mayB_size hin]
    exact May_size c c' bl.length ca.length a a' w (by omega)
end Go.Proofs.Ytofpflkkbkodaaa.DkZ
