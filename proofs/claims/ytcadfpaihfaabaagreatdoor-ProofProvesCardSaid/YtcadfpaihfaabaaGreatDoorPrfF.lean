/- The document's Few: the walk of its text. No conditions but those that each lemma names. -/
import Derived.Test.YtcadfpaihfaabaaGreatDoorLPrgA
import Derived.Test.YtcadfpaihfaabaaGreatDoorSStrs
import Derived.Test.YtcadfpaihfaabaaGreatDoorLPrfA
import Derived.Deep.RegionHeld3
namespace Go.Proofs.YtcadfpaihfaabaaGreatDoor.PrfF
set_option linter.unusedVariables false
open Go.RowKit SSum
open PrfL PrfN PrfM PrfB PrgN PrgC MerQ
/-- The hashes' lengths' sum, none counted above 10,000. -/
def hsum (l : List Lf) : Nat := (l.map fun x => min x.2.length 10000).sum
theorem hsum_next (l : List Lf) (j : Nat) (h : j < l.length) : hsum (l.take (j + 1)) = hsum (l.take j) + min (l.getD j no).2.length 10000 := by
  unfold hsum
  rw [List.take_succ_eq_append_getElem h, List.map_append, List.sum_append]
  simp [List.getD, h]
theorem hsum_le (l : List Lf) : hsum l ≤ 10000 * l.length := by
  unfold hsum
  induction l with
  | nil => simp
  | cons x l ih =>
    rw [List.map_cons, List.sum_cons, List.length_cons]
    omega
/-- Are leaves, and a proof, gone through? -/
def bytesB (l : List Lf) (x : Raw) : Bool := decide (((hsum (l.take 100) : Nat) : Int) + ((min x.here.2.length 10000 : Nat) : Int) + ((min x.ahead.2.length 10000 : Nat) : Int) + ((bsum x.up : Nat) : Int) + ((bsum x.left : Nat) : Int) ≤ 8000)
def fewB (l : List Lf) (x : Raw) : Bool := decide (l.length ≤ 60) && decide (x.up.length ≤ 30) && decide (x.left.length ≤ 30) && bytesB l x
theorem few_in {l : List Lf} {x : Raw} (h : fewB l x = true) : l.length ≤ 60 ∧ x.up.length ≤ 30 ∧ x.left.length ≤ 30 := by
  unfold fewB at h
  rw [Bool.and_eq_true, Bool.and_eq_true, Bool.and_eq_true, decide_eq_true_eq, decide_eq_true_eq, decide_eq_true_eq] at h
  exact ⟨h.1.1.1, h.1.1.2, h.1.2⟩
theorem min_it (k : Nat) (W : World) (ts : Array TypeId) (t : TypeId) : (Builtin.min_ ts t #[.int .i64 (k : Int), .int .i64 10000]).run Tryz.prog W = .ok (.int .i64 ((min k 10000 : Nat) : Int)) W := by
  rw [run_min_int2]
  congr 2
  by_cases h : (10000 : Int) < (k : Int)
  · rw [if_pos h]; omega
  · rw [if_neg h]; omega
set_option maxRecDepth 100000 in
set_option maxHeartbeats 4000000 in
theorem Few (a : Option Addr) (n c : Nat) (l : List Lf) (x : Raw) (w : World) (h : Lvs w a n l) (hu : Strs w w.heap.size x.ua x.up.length x.up) (hl : Strs w w.heap.size x.la x.left.length x.left) (hul : x.up.length ≤ maxLen) (hll : x.left.length ≤ maxLen) (hfh : Fit x.here) (hfa : Fit x.ahead) :
    Calls Tryz.prog 4 #[.slice a n c, .agg x.cells] w fun e w' => e = .returned (.bool (fewB l x)) ∧ Below w.heap.size w w' := by
  obtain ⟨hln, hn, hfit, hli⟩ := h
  obtain ⟨W1, hW1⟩ : ∃ W1, W1 = w.alloc (.cells x.cells 29) := ⟨_, rfl⟩
  have b1 : Below w.heap.size w W1 := by rw [hW1]; exact below_new w _
  have BX := Lib.hid (show BoxP w.heap.size x W1 by rw [hW1]; exact boxp_new w x)
  have B1 := Lib.hid b1
  have HL := Lib.hid (hli.step b1)
  have HU := Lib.hid (fun W (hb : Below w.heap.size w W) (h : x.up.length ≤ 30) => bytes_any x.ua x.up.length x.uc x.up W ((hu.below hb).more hb.size) (by omega))
  have HV := Lib.hid (fun W (hb : Below w.heap.size w W) (h : x.left.length ≤ 30) => bytes_any x.la x.left.length x.lc x.left W ((hl.below hb).more hb.size) (by omega))
  have HF := Lib.hid hfit
  unfold maxLen at hn hul hll
  unfold Fit maxLen at hfh hfa
  obtain ⟨r, hr⟩ : ∃ r, fewB l x = r := ⟨_, rfl⟩
  rw [hr]
  have HR := Lib.hid hr
  clear hr hu hl hli hfit b1
  go_enter Tryz.func4, Tryz.ntmps4
  go_upto_region 1 with (fail)
  rw [← hW1]
  clear hW1
  go_wp2_with fail
  go_loopw [5, 6] (fun sv kv wr => ∃ k : Nat, k ≤ n ∧ k ≤ 100 ∧ kv = .int .i64 k ∧ sv = .int .i64 (hsum (l.take k) : Nat) ∧ wr = W1) (fun _ kv _ => n - (intOf kv).toNat)
  case atStart => exact ⟨0, Nat.zero_le _, Nat.zero_le _, rfl, rfl, rfl⟩
  case round =>
    obtain ⟨k, hk, hk100, rfl, rfl, rfl⟩ := hrel
    have hsb := hsum_le (l.take k)
    have hlk : (l.take k).length ≤ 100 := by rw [List.length_take]; omega
    have hbb : hsum (l.take k) ≤ 1000000 := by omega
    clear hsb hlk
    by_cases hlt : k < n ∧ k < 100
    · obtain ⟨h1, h2⟩ := hlt
      obtain ⟨g, o, rfl, hg, hc⟩ := HL.out (by omega)
      obtain ⟨_, c1⟩ := hc k (by omega)
      have hfk := HF.out (l.getD k no) (by rw [at_d _ (by omega)]; exact List.getElem_mem _)
      unfold Fit maxLen at hfk
      have HN := Lib.hid (hsum_next l k (by omega))
      have hm := min_it (l.getD k no).2.length
      have hmb : min (l.getD k no).2.length 10000 ≤ 10000 := by omega
      generalize hsum (l.take k) = s at *
      generalize l.getD k no = y at *
      obtain ⟨y0, y1⟩ := y
      dsimp only at c1 hm hmb HN hfk
      generalize min y1.length 10000 = mm at *
      have q0 : (0 : Int) ≤ (k : Int) := by omega
      have q1 : (k : Int) < (n : Int) := by omega
      have q2 : (k : Int) < 100 := by omega
      clear hc
      go_wp2_with fail
      go_roundw
      case rel => exact ⟨k + 1, by omega, by omega, by go_num, by rw [HN.out]; exact STurn.vint (by omega), by trivial⟩
      case measure => simp [intOf]; omega
    · have hk' : k = min n 100 := by omega
      have ht : l.take k = l.take 100 := by
        rw [hk']
        by_cases h1 : n ≤ 100
        · rw [Nat.min_eq_left h1, List.take_of_length_le (by omega), List.take_of_length_le (by omega)]
        · rw [Nat.min_eq_right (by omega)]
      rw [ht] at hbb ⊢
      obtain ⟨k3, k5, k6, k7⟩ : wr.cell? ⟨w.heap.size, 3, none⟩ = some (st x.here.2) ∧ wr.cell? ⟨w.heap.size, 5, none⟩ = some (st x.ahead.2) ∧ wr.cell? ⟨w.heap.size, 6, none⟩ = some (.slice x.ua x.up.length x.uc) ∧ wr.cell? ⟨w.heap.size, 7, none⟩ = some (.slice x.la x.left.length x.lc) := by
        obtain ⟨_, _, _, k3, _, k5, k6, k7⟩ := BX.out.cells
        exact ⟨k3, k5, k6, k7⟩
      have hb1 := bsum_le x.up
      have hb2 := bsum_le x.left
      have hm1 := min_it x.here.2.length
      have hm2 := min_it x.ahead.2.length
      have hmb1 : min x.here.2.length 10000 ≤ 10000 := by omega
      have hmb2 : min x.ahead.2.length 10000 ≤ 10000 := by omega
      have HFe : Hid (r = (decide (l.length ≤ 60) && decide (x.up.length ≤ 30) && decide (x.left.length ≤ 30) && decide (((hsum (l.take 100) : Nat) : Int) + ((min x.here.2.length 10000 : Nat) : Int) + ((min x.ahead.2.length 10000 : Nat) : Int) + ((bsum x.up : Nat) : Int) + ((bsum x.left : Nat) : Int) ≤ 8000))) := Lib.hid HR.out.symm
      rw [hln] at HFe
      have qn : ¬ ((k : Int) < (n : Int) ∧ (k : Int) < 100) := by omega
      generalize hsum (l.take 100) = s at *
      obtain ⟨f, i, ⟨h0, h1⟩, ⟨a0, a1⟩, ua, uc, up, la, lc, left⟩ := x
      dsimp only at hb1 hb2 hm1 hm2 hmb1 hmb2 HFe k3 k5 k6 k7 hul hll hfh hfa HU HV
      generalize min h1.length 10000 = m1 at *
      generalize min a1.length 10000 = m2 at *
      generalize bsum up = u1 at *
      generalize bsum left = u2 at *
      have BB := Lib.hid (PrfG.drawn B1.out)
      by_cases g1 : n ≤ 60
      · have d1 : decide ((n : Int) ≤ 60) = true := decide_eq_true (by omega)
        have e1 : ¬ (k : Int) < (n : Int) := by omega
        by_cases g2 : up.length ≤ 30
        · have d2 : decide ((up.length : Int) ≤ 30) = true := decide_eq_true (by omega)
          by_cases g3 : left.length ≤ 30
          · have d3 : decide ((left.length : Int) ≤ 30) = true := decide_eq_true (by omega)
            obtain ⟨q, hq⟩ : ∃ q, decide ((s : Int) + (m1 : Int) + (m2 : Int) + (u1 : Int) + (u2 : Int) ≤ 8000) = q := ⟨_, rfl⟩
            have hrq : r = q := by rw [HFe.out, decide_eq_true g1, decide_eq_true g2, decide_eq_true g3, hq]; rfl
            have HRQ := Lib.hid hrq
            have HQ := Lib.hid hq.symm
            have HWr : Hid (IntKind.i64.wrap (IntKind.i64.wrap (IntKind.i64.wrap (IntKind.i64.wrap ((s : Int) + (m1 : Int)) + (m2 : Int)) + (u1 : Int)) + (u2 : Int)) = (s : Int) + (m1 : Int) + (m2 : Int) + (u1 : Int) + (u2 : Int)) := Lib.hid (by
              rw [IntWalk.i64_in ((s : Int) + (m1 : Int)) (by omega), IntWalk.i64_in ((s : Int) + (m1 : Int) + (m2 : Int)) (by omega), IntWalk.i64_in ((s : Int) + (m1 : Int) + (m2 : Int) + (u1 : Int)) (by omega), IntWalk.i64_in _ (by omega)])
            clear hq
            have HU1 := Lib.hid (fun W hb => HU.out W hb g2)
            have HV1 := Lib.hid (fun W hb => HV.out W hb g3)
            clear HFe hrq HR ht hk' HU HV
            have HU3 := Lib.hid (HU1.out wr.drew B1.out.drew)
            have HV3 := Lib.hid (HV1.out wr.drew B1.out.drew)
            have hS0 : wr.drew.cell? ⟨w.heap.size, 3, none⟩ = some (st h1) ∧ wr.drew.cell? ⟨w.heap.size, 5, none⟩ = some (st a1) ∧ wr.drew.cell? ⟨w.heap.size, 6, none⟩ = some (.slice ua up.length uc) ∧ wr.drew.cell? ⟨w.heap.size, 7, none⟩ = some (.slice la left.length lc) := ⟨k3, k5, k6, k7⟩
            have F1 : Hid True := Lib.hid trivial
            clear HU1 HV1 k3 k5 k6 k7
            go_wp2_with fail
            go_region_held3 (fun W => W.cell? ⟨w.heap.size, 3, none⟩ = some (st h1) ∧ W.cell? ⟨w.heap.size, 5, none⟩ = some (st a1) ∧ W.cell? ⟨w.heap.size, 6, none⟩ = some (.slice ua up.length uc) ∧ W.cell? ⟨w.heap.size, 7, none⟩ = some (.slice la left.length lc))
              (first | exact hS0)
              (first
                | (clear F1; go_at_call 18; refine HU3.out.mono ?_; rintro e _ ⟨rfl, rfl⟩)
                | (go_at_call 18; refine HV3.out.mono ?_; rintro e _ ⟨rfl, rfl⟩))
            all_goals (go_wp2; go_ret; exact ⟨by rw [HRQ.out, HQ.out, ← HWr.out]; rfl, B1.out.drew⟩)
          · have d3 : decide ((left.length : Int) ≤ 30) = false := decide_eq_false (by omega)
            have HRQ : Hid (r = false) := Lib.hid (by rw [HFe.out, decide_eq_false g3]; simp)
            clear HFe HR ht hk' HU HV
            go_wp2_with fail
            go_quiet (fail)
            go_wp2
            go_ret
            exact ⟨by rw [HRQ.out]; rfl, BB.out _⟩
        · have d2 : decide ((up.length : Int) ≤ 30) = false := decide_eq_false (by omega)
          have HRQ : Hid (r = false) := Lib.hid (by rw [HFe.out, decide_eq_false g2]; simp)
          clear HFe HR ht hk' HU HV
          go_wp2_with fail
          go_quiet (fail)
          go_wp2
          go_ret
          exact ⟨by rw [HRQ.out]; rfl, BB.out _⟩
      · have d1 : decide ((n : Int) ≤ 60) = false := decide_eq_false (by omega)
        have HRQ : Hid (r = false) := Lib.hid (by rw [HFe.out, decide_eq_false g1]; simp)
        clear HFe HR ht HU HV
        by_cases e1 : (k : Int) < (n : Int)
        · have e2 : ¬ (k : Int) < 100 := by omega
          go_wp2_with fail
          go_quiet (fail)
          go_wp2
          go_ret
          exact ⟨by rw [HRQ.out]; rfl, BB.out _⟩
        · go_wp2_with fail
          go_quiet (fail)
          go_wp2
          go_ret
          exact ⟨by rw [HRQ.out]; rfl, BB.out _⟩
end Go.Proofs.YtcadfpaihfaabaaGreatDoor.PrfF
