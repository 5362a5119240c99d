/- keepsakelaw08.Few: the walk of its text. No conditions but those that each lemma names. -/
import Derived.Test.YtofpflkkbkodaaaDkU
import Derived.Deep.QuietTactic
import Derived.BigQuiet
import Derived.IntWalk
namespace Go.Proofs.Ytofpflkkbkodaaa.DkL
open Go.RowKit
open DkN DkM DkU
/-- A row of acts, wherever it lies. -/
def ActRow (w : World) (a : Option Addr) (l : List RawAct) : Prop :=
  0 < l.length → ∃ g o, a = some ⟨g, o, none⟩ ∧ g < w.heap.size ∧ ∀ k (_ : k < l.length) j v, l[k].cells[j]? = some v → w.cell? ⟨g, o + k * 6 + j, none⟩ = some v
theorem ActRow.below {w w' : World} {a : Option Addr} {l : List RawAct} (h : ActRow w a l) (hb : Below w.heap.size w w') : ActRow w' a l := by
  intro hl
  obtain ⟨g, o, e, hg, hc⟩ := h hl
  exact ⟨g, o, e, Nat.lt_of_lt_of_le hg hb.size, fun k hk j v hv => (hb.cell (p := ⟨g, o + k * 6 + j, none⟩) hg).trans (hc k hk j v hv)⟩
theorem ret_bool {a b : Bool} (h : a = b) : Ending.returned (.bool a) = .returned (.bool b) := by rw [h]
theorem vint {a b : Int} (h : a = b) : Value.int .i64 a = Value.int .i64 b := by rw [h]
/-- How much an act counts. -/
def wt (a : RawAct) : Nat := min a.text.size 10000 + min a.kn 10000
def wsum (l : List RawAct) : Nat := (l.map wt).sum
theorem wsum_next (l : List RawAct) (k : Nat) (h : k < l.length) : wsum (l.take (k + 1)) = wsum (l.take k) + wt l[k] := by
  unfold wsum
  rw [List.take_succ_eq_append_getElem h, List.map_append, List.sum_append]
  simp
theorem wsum_le (l : List RawAct) : wsum l ≤ 20000 * l.length := by
  unfold wsum
  induction l with
  | nil => simp
  | cons x l ih =>
    rw [List.map_cons, List.sum_cons, List.length_cons]
    have : wt x ≤ 20000 := by unfold wt; omega
    omega
/-- Are acts gone through? -/
def fewB (l : List RawAct) : Bool := decide (l.length ≤ 60 ∧ wsum (l.take 61) ≤ 20000)
set_option maxRecDepth 100000 in
set_option maxHeartbeats 1000000 in
theorem Few (a : Option Addr) (c : Nat) (l : List RawAct) (w : World) (h : ActRow w a l) (hl : l.length ≤ maxLen) (ht : ∀ x ∈ l, x.text.size ≤ maxLen ∧ x.kn ≤ maxLen) :
    Calls Try.prog 8 #[.slice a l.length c] w fun e w' => e = .returned (.bool (fewB l)) ∧ Below w.heap.size w w' := by
  have HH := Lib.hid h
  have HT := Lib.hid ht
  obtain ⟨n, hn⟩ : ∃ n, l.length = n := ⟨_, rfl⟩
  rw [hn] at hl ⊢
  have HN := Lib.hid hn
  unfold maxLen at hl
  clear h ht hn
  go_enter Try.func8, Try.ntmps8
  go_wp2_with fail
  go_loopw [3, 4] (fun s i wr => ∃ j : Nat, j ≤ n ∧ j ≤ 61 ∧ i = .int .i64 j ∧ s = .int .i64 (wsum (l.take j)) ∧ Below w.heap.size w wr) (fun _ i _ => 61 - (intOf i).toNat)
  case atStart => exact ⟨0, Nat.zero_le _, Nat.zero_le _, rfl, rfl, Below.refl _ _⟩
  case round =>
    obtain ⟨j, hj, hj61, rfl, rfl, hbel⟩ := hrel
    have hws := wsum_le (l.take j)
    have hlj : (l.take j).length ≤ 61 := by rw [List.length_take]; omega
    have hwb : wsum (l.take j) ≤ 1220000 := by omega
    clear hws hlj
    have HB := Lib.hid hbel
    clear hbel
    by_cases hlt : j < n ∧ j ≤ 60
    · have hjl : j < l.length := by rw [HN.out]; exact hlt.1
      obtain ⟨g, o, rfl, hg, hcs⟩ := HH.out (by omega)
      have q3 : wr.cell? ⟨g, o + j * 6 + 3, none⟩ = some (.string l[j].text) := (HB.out.cell (p := ⟨g, o + j * 6 + 3, none⟩) hg).trans (hcs j hjl 3 _ rfl)
      have q5 : wr.cell? ⟨g, o + j * 6 + 5, none⟩ = some (.slice l[j].ka l[j].kn l[j].kc) := (HB.out.cell (p := ⟨g, o + j * 6 + 5, none⟩) hg).trans (hcs j hjl 5 _ rfl)
      have HX := Lib.hid (wsum_next l j hjl)
      obtain ⟨t1, t2⟩ := HT.out _ (List.getElem_mem hjl)
      unfold wt at HX
      unfold maxLen at t1 t2
      clear hcs
      generalize l[j] = x at *
      clear hjl
      obtain ⟨kind, at_, nn, s, raw, ka, kn, kc⟩ := x
      simp only at q3 q5 HX t1 t2
      obtain ⟨h1, h2⟩ := hlt
      have hjn : (j : Int) < (n : Int) := by omega
      have hj0 : (0 : Int) ≤ (j : Int) := by omega
      have hj60 : (j : Int) ≤ 60 := by omega
      generalize wsum (l.take j) = S at *
      go_wp2_with fail
      go_quiet (fail)
      go_wp2
      go_roundw
      case rel =>
        refine ⟨j + 1, by omega, by omega, by go_num, ?_, ⟨HB.out.os, HB.out.tape, HB.out.output, HB.out.size, HB.out.block⟩⟩
        rw [HX.out]
        exact vint (by omega)
      case measure => simp [intOf]; omega
    · by_cases h60 : n ≤ 60
      · have hjn : j = n := by omega
        subst hjn
        have ht : l.take j = l := List.take_of_length_le (by rw [HN.out]; exact Nat.le_refl _)
        have ht' : l.take 61 = l := List.take_of_length_le (by rw [HN.out]; omega)
        rw [ht] at hwb ⊢
        have hnn : (j : Int) ≤ 60 := by omega
        by_cases hS : wsum l ≤ 20000
        · have hf : fewB l = true := decide_eq_true ⟨by rw [HN.out]; exact h60, by rw [ht']; exact hS⟩
          have HF := Lib.hid hf
          have hS' : (wsum l : Int) ≤ 20000 := by omega
          clear hf ht ht' hlt
          generalize wsum l = S at *
          go_wp2
          go_ret
          exact ⟨ret_bool HF.out.symm, HB.out⟩
        · have hf : fewB l = false := decide_eq_false fun q => hS (by rw [ht'] at q; exact q.2)
          have HF := Lib.hid hf
          have hS' : ¬ (wsum l : Int) ≤ 20000 := by omega
          clear hf ht ht' hlt
          generalize wsum l = S at *
          go_wp2
          go_ret
          exact ⟨ret_bool HF.out.symm, HB.out⟩
      · have hf : fewB l = false := decide_eq_false fun q => h60 (by rw [← HN.out]; exact q.1)
        have HF := Lib.hid hf
        have hnn : ¬ (n : Int) ≤ 60 := by omega
        clear hf
        generalize wsum (l.take j) = S at *
        by_cases hjn : (j : Int) < (n : Int)
        · have hj60 : ¬ (j : Int) ≤ 60 := by omega
          clear hlt
          go_wp2
          go_ret
          exact ⟨ret_bool HF.out.symm, HB.out⟩
        · clear hlt
          go_wp2
          go_ret
          exact ⟨ret_bool HF.out.symm, HB.out⟩
end Go.Proofs.Ytofpflkkbkodaaa.DkL
