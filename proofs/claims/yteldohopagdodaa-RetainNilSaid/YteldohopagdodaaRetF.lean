/- The statements' Few: the walk of its text. No conditions but those that each lemma names. -/
import Derived.Test.YteldohopagdodaaRetR
import Derived.BigQuiet
import Derived.BigRegion
namespace Go.Proofs.Yteldohopagdodaa.RetF
set_option linter.unusedVariables false
open Go.RowKit
open RecN RecC RetR
/-- A record's texts' lengths' sum, none counted above 10,000. -/
def one (x : Rec) : Nat := min x.rt.length 10000 + min x.nm.length 10000
def ssum (l : List Rec) : Nat := (l.map one).sum
theorem ssum_next (l : List Rec) (j : Nat) (h : j < l.length) : ssum (l.take (j + 1)) = ssum (l.take j) + one l[j] := by
  unfold ssum
  rw [List.take_succ_eq_append_getElem h, List.map_append, List.sum_append]
  simp
theorem one_le (x : Rec) : one x ≤ 20000 := by unfold one; omega
theorem ssum_le (l : List Rec) : ssum l ≤ 20000 * l.length := by
  unfold ssum
  induction l with
  | nil => simp
  | cons x l ih =>
    have := one_le x
    rw [List.map_cons, List.sum_cons, List.length_cons]
    omega
theorem ssum_mem {l : List Rec} {x : Rec} (h : x ∈ l) : one x ≤ ssum l := by
  unfold ssum
  induction l with
  | nil => simp at h
  | cons y l ih =>
    rw [List.map_cons, List.sum_cons]
    rcases List.mem_cons.1 h with rfl | h
    · omega
    · have := ih h
      omega
/-- Are records gone through? -/
def fewB (l : List Rec) : Bool := decide (l.length ≤ 100) && decide (((ssum (l.take 200) : Nat) : Int) ≤ 20000)
theorem min_it (k : Nat) (W : World) (ts : Array TypeId) (t : TypeId) : (Builtin.min_ ts t #[.int .i64 (k : Int), .int .i64 10000]).run Try.prog W = .ok (.int .i64 ((min k 10000 : Nat) : Int)) W := by
  rw [run_min_int2]
  congr 2
  by_cases h : (10000 : Int) < (k : Int)
  · rw [if_pos h]; omega
  · rw [if_neg h]; omega
set_option maxRecDepth 100000 in
set_option maxHeartbeats 4000000 in
theorem Few (a : Option Addr) (n c : Nat) (l : List Rec) (w : World) (h : Lies w a (rr l)) (hln : l.length = n) (hn : n ≤ maxLen) :
    Calls Try.prog 6 #[.slice a n c] w fun e w' => e = .returned (.bool (fewB l)) ∧ Below w.heap.size w w' := by
  have HL := Lib.hid h
  unfold maxLen at hn
  obtain ⟨r, hr⟩ : ∃ r, fewB l = r := ⟨_, rfl⟩
  rw [hr]
  have HR := Lib.hid hr
  clear hr h
  go_enter Try.func6, Try.ntmps6
  go_wp2_with fail
  go_loopw [3, 4] (fun sv kv wr => ∃ k : Nat, k ≤ n ∧ k ≤ 200 ∧ kv = .int .i64 k ∧ sv = .int .i64 (ssum (l.take k) : Nat) ∧ Below w.heap.size w wr) (fun _ kv _ => n - (intOf kv).toNat)
  case atStart => exact ⟨0, Nat.zero_le _, Nat.zero_le _, rfl, rfl, Below.refl _ _⟩
  case round =>
    obtain ⟨k, hk, hk100, rfl, rfl, hb⟩ := hrel
    have HB := Lib.hid hb
    clear hb
    have hsb := ssum_le (l.take k)
    have hlk : (l.take k).length ≤ 200 := by rw [List.length_take]; omega
    have hbb : ssum (l.take k) ≤ 4000000 := by omega
    clear hsb hlk
    by_cases hlt : k < n ∧ k < 200
    · obtain ⟨h1, h2⟩ := hlt
      obtain ⟨g, o, rfl, hg, hc⟩ := HL.out.at8 (by omega)
      have h8 := (hc k (by omega)).step hg HB.out
      have HN := Lib.hid (ssum_next l k (by omega))
      generalize l[k] = y at *
      obtain ⟨_, _, _, _, _, _, c6, c7⟩ := h8
      unfold one at HN
      have hm2 := min_it y.rt.length
      have hm3 := min_it y.nm.length
      have hb2 : min y.rt.length 10000 ≤ 10000 := by omega
      have hb3 : min y.nm.length 10000 ≤ 10000 := by omega
      generalize ssum (l.take k) = s at *
      generalize min y.rt.length 10000 = m2 at *
      generalize min y.nm.length 10000 = m3 at *
      have q0 : (0 : Int) ≤ (k : Int) := by omega
      have q1 : (k : Int) < (n : Int) := by omega
      have q2 : (k : Int) < 200 := by omega
      clear hc
      go_upto_region 5 with (fail)
      go_quiet (fail)
      go_wp2
      go_roundw
      case rel => exact ⟨k + 1, by omega, by omega, by go_num, by rw [HN.out]; exact congrArg (Value.int .i64) (by omega), HB.out.trans (below_drewN _ _)⟩
      case measure => simp [intOf]; omega
    · have hk' : k = min n 200 := by omega
      have ht : l.take k = l.take 200 := by
        rw [hk']
        by_cases h1 : n ≤ 200
        · rw [Nat.min_eq_left h1, List.take_of_length_le (by omega), List.take_of_length_le (by omega)]
        · rw [Nat.min_eq_right (by omega)]
      rw [ht] at hbb ⊢
      have HFe : Hid (r = (decide (l.length ≤ 100) && decide (((ssum (l.take 200) : Nat) : Int) ≤ 20000))) := Lib.hid HR.out.symm
      rw [hln] at HFe
      generalize ssum (l.take 200) = s at *
      by_cases h1 : (n : Int) ≤ 100
      · have qn : ¬ (k : Int) < (n : Int) := by omega
        have HE := Lib.hid (show r = decide ((s : Int) ≤ 20000) by rw [HFe.out, decide_eq_true (by omega)]; rfl)
        go_wp2_with fail
        go_ret
        rw [HE.out]
        exact ⟨rfl, HB.out⟩
      · have HE := Lib.hid (show r = false by rw [HFe.out, decide_eq_false (by omega)]; rfl)
        have qm : (¬ (k : Int) < (n : Int)) ∨ ((k : Int) < (n : Int) ∧ ¬ (k : Int) < 200) := by omega
        rcases qm with qm | ⟨qm, qk⟩
        · go_wp2_with fail
          go_ret
          rw [HE.out]
          exact ⟨rfl, HB.out⟩
        · go_wp2_with fail
          go_ret
          rw [HE.out]
          exact ⟨rfl, HB.out⟩
end Go.Proofs.Yteldohopagdodaa.RetF
