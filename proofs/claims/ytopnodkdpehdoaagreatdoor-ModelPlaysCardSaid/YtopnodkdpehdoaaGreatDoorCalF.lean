/- The statements' Few, of calls: the walk of its text. No conditions but those that each lemma names. -/
import Derived.Test.YtopnodkdpehdoaaGreatDoorLCa
import Derived.BigQuiet
import Derived.BigRegion
namespace Go.Proofs.YtopnodkdpehdoaaGreatDoor.CalF
set_option linter.unusedVariables false
open Go.RowKit
open RecN RecC RetR MdN CalR
/-- A call's texts' and its slice's lengths' sum, none counted above 10,000. -/
def one (x : Ca) : Nat := min x.c.da.length 10000 + min x.c.nm.length 10000 + min x.n 10000
def ssum (l : List Ca) : Nat := (l.map one).sum
theorem ssum_next (l : List Ca) (j : Nat) (h : j < l.length) : ssum (l.take (j + 1)) = ssum (l.take j) + one l[j] := by
  unfold ssum
  rw [List.take_succ_eq_append_getElem h, List.map_append, List.sum_append]
  simp
theorem one_le (x : Ca) : one x ≤ 30000 := by unfold one; omega
theorem ssum_le (l : List Ca) : ssum l ≤ 30000 * l.length := by
  unfold ssum
  induction l with
  | nil => simp
  | cons x l ih =>
    have := one_le x
    rw [List.map_cons, List.sum_cons, List.length_cons]
    omega
theorem ssum_mem {l : List Ca} {x : Ca} (h : x ∈ l) : one x ≤ ssum l := by
  unfold ssum
  induction l with
  | nil => simp at h
  | cons y l ih =>
    rw [List.map_cons, List.sum_cons]
    rcases List.mem_cons.1 h with rfl | h
    · omega
    · have := ih h
      omega
/-- Are calls gone through? -/
def fewB (l : List Ca) : Bool := decide (l.length ≤ 60) && decide (((ssum (l.take 61) : Nat) : Int) ≤ 12000)
theorem min_it (k : Nat) (W : World) (ts : Array TypeId) (t : TypeId) : (Builtin.min_ ts t #[.int .i64 (k : Int), .int .i64 10000]).run Tryz.prog W = .ok (.int .i64 ((min k 10000 : Nat) : Int)) W := by
  rw [run_min_int2]
  congr 2
  by_cases h : (10000 : Int) < (k : Int)
  · rw [if_pos h]; omega
  · rw [if_neg h]; omega
set_option maxRecDepth 100000 in
set_option maxHeartbeats 4000000 in
theorem Few (a : Option Addr) (n c : Nat) (l : List Ca) (w : World) (h : Lies w a (cc l)) (hln : l.length = n) (hn : n ≤ maxLen) :
    Calls Tryz.prog 8 #[.slice a n c] w fun e w' => e = .returned (.bool (fewB l)) ∧ Below w.heap.size w w' := by
  have HL := Lib.hid h
  unfold maxLen at hn
  obtain ⟨r, hr⟩ : ∃ r, fewB l = r := ⟨_, rfl⟩
  rw [hr]
  have HR := Lib.hid hr
  clear hr h
  go_enter Tryz.func8, Tryz.ntmps8
  go_wp2_with fail
  go_loopw [3, 4] (fun sv kv wr => ∃ k : Nat, k ≤ n ∧ k ≤ 61 ∧ kv = .int .i64 k ∧ sv = .int .i64 (ssum (l.take k) : Nat) ∧ Below w.heap.size w wr) (fun _ kv _ => n - (intOf kv).toNat)
  case atStart => exact ⟨0, Nat.zero_le _, Nat.zero_le _, rfl, rfl, Below.refl _ _⟩
  case round =>
    obtain ⟨k, hk, hk100, rfl, rfl, hb⟩ := hrel
    have HB := Lib.hid hb
    clear hb
    have hsb := ssum_le (l.take k)
    have hlk : (l.take k).length ≤ 61 := by rw [List.length_take]; omega
    have hbb : ssum (l.take k) ≤ 4000000 := by omega
    clear hsb hlk
    by_cases hlt : k < n ∧ k ≤ 60
    · obtain ⟨h1, h2⟩ := hlt
      obtain ⟨g, o, rfl, hg, hc⟩ := at7 HL.out (by omega)
      have h8 := (hc k (by omega)).step hg HB.out
      have HN := Lib.hid (ssum_next l k (by omega))
      generalize l[k] = y at *
      obtain ⟨_, _, _, _, c4, c5, c6⟩ := h8
      unfold one at HN
      have hm2 := min_it y.c.da.length
      have hm3 := min_it y.c.nm.length
      have hm4 := min_it y.n
      have hb2 : min y.c.da.length 10000 ≤ 10000 := by omega
      have hb3 : min y.c.nm.length 10000 ≤ 10000 := by omega
      have hb4 : min y.n 10000 ≤ 10000 := by omega
      generalize ssum (l.take k) = s at *
      generalize min y.c.da.length 10000 = m2 at *
      generalize min y.c.nm.length 10000 = m3 at *
      generalize min y.n 10000 = m4 at *
      have q0 : (0 : Int) ≤ (k : Int) := by omega
      have q1 : (k : Int) < (n : Int) := by omega
      have q2 : (k : Int) ≤ 60 := by omega
      clear hc
      go_upto_region 5 with (fail)
      go_quiet (fail)
      go_wp2
      go_roundw
      case rel => exact ⟨k + 1, by omega, by omega, by go_num, by rw [HN.out]; exact congrArg (Value.int .i64) (by omega), HB.out.trans (below_drewN _ _)⟩
      case measure => simp [intOf]; omega
    · have hk' : k = min n 61 := by omega
      have ht : l.take k = l.take 61 := by
        rw [hk']
        by_cases h1 : n ≤ 61
        · rw [Nat.min_eq_left h1, List.take_of_length_le (by omega), List.take_of_length_le (by omega)]
        · rw [Nat.min_eq_right (by omega)]
      rw [ht] at hbb ⊢
      have HFe : Hid (r = (decide (l.length ≤ 60) && decide (((ssum (l.take 61) : Nat) : Int) ≤ 12000))) := Lib.hid HR.out.symm
      rw [hln] at HFe
      generalize ssum (l.take 61) = s at *
      by_cases h1 : (n : Int) ≤ 60
      · have qn : ¬ (k : Int) < (n : Int) := by omega
        have HE := Lib.hid (show r = decide ((s : Int) ≤ 12000) by rw [HFe.out, decide_eq_true (by omega)]; rfl)
        go_wp2_with fail
        go_ret
        rw [HE.out]
        exact ⟨rfl, HB.out⟩
      · have HE := Lib.hid (show r = false by rw [HFe.out, decide_eq_false (by omega)]; rfl)
        have qm : (¬ (k : Int) < (n : Int)) ∨ ((k : Int) < (n : Int) ∧ ¬ (k : Int) ≤ 60) := by omega
        rcases qm with qm | ⟨qm, qk⟩
        · go_wp2_with fail
          go_ret
          rw [HE.out]
          exact ⟨rfl, HB.out⟩
        · go_wp2_with fail
          go_ret
          rw [HE.out]
          exact ⟨rfl, HB.out⟩
end Go.Proofs.YtopnodkdpehdoaaGreatDoor.CalF
