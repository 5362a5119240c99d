/- When a proof tells something else of a place than the leaves do. No conditions but those that each lemma names. -/
import Derived.Test.YtcadfpaihfaabaaDoorPrgM
import Derived.Test.YtcadfpaihfaabaaDoorPrgZ
import Derived.Test.YtcadfpaihfaabaaDoorPrfF
namespace Go.Proofs.YtcadfpaihfaabaaDoor.PrgMs
set_option linter.unusedVariables false
open Go.RowKit STurn SSum
open PrfL PrfN PrfM PrfB PrfF PrgN PrgC PrgK PrgP PrgQ PrgV PrgW PrgM PrgY PrgZ MerQ MerM MerN MerC MerA MerJ MerR MerW
theorem own_len {l : List Lf} {b : Int} (hr : right l = true) : ((own l b).2 = true ∧ (own l b).1.length = 32) ∨ own l b = ([], false) := by
  unfold own
  by_cases h : plc l b < l.length ∧ (l.getD (plc l b) no).1 = b
  · rw [if_pos h]
    exact .inl ⟨rfl, (okL_spec (right_at hr h.1)).2.2⟩
  · rw [if_neg h]
    exact .inr rfl
theorem told_len {r : L} {n b : Int} {p : Pf} (h : provesB r n b p = true) (hf : p.found = true) : (toldP p).length = 32 := by
  rw [found_iff r n b p hf] at h
  unfold foundB at h
  rw [Bool.and_eq_true] at h
  unfold toldP
  rw [if_pos hf]
  exact (okL_spec (leads_in h.2).1).2.2
/-- Something else is told just where the answer is another one. -/
theorem else_told {l : List Lf} {b : Int} {x : Raw} (hr : right l = true) :
    (elseB l b (pf x) = true → (tellsR (rt l) (l.length : Int) b x).2.2 = 0 ∧ (tellsR (rt l) (l.length : Int) b x).1 ≠ (own l b).1) ∧
    (elseB l b (pf x) = false → (tellsR (rt l) (l.length : Int) b x).2.2 = 0 → (tellsR (rt l) (l.length : Int) b x).1 = (own l b).1 ∧ (tellsR (rt l) (l.length : Int) b x).2.1 = (own l b).2) := by
  have hfew := right_few hr
  by_cases hb : 0 ≤ b ∧ b ≤ 4095
  · have e1 : tellsR (rt l) (l.length : Int) b x = if provesB (rt l) (l.length : Int) b (pf x) = true then (toldP (pf x), x.f, 0) else ([], false, 17) := proves_tells (by omega) hb
    have ec : canB l b = true := by unfold canB; rw [hr, in_yes hb]; rfl
    unfold elseB
    rw [e1, ec, told_own]
    cases hp : provesB (rt l) (l.length : Int) b (pf x) with
    | false =>
      refine ⟨fun h => by simp at h, fun _ h => ?_⟩
      simp at h
    | true =>
      simp only [if_true, Bool.true_and, Bool.and_true, Bool.not_eq_true', decide_eq_false_iff_not, Bool.not_eq_false', decide_eq_true_eq]
      refine ⟨fun h => ⟨trivial, h⟩, fun h _ => ⟨h, ?_⟩⟩
      cases hf : x.f with
      | true =>
        have h32 := told_len hp (show (pf x).found = true from hf)
        rcases own_len (b := b) hr with ⟨h1, _⟩ | h1
        · exact h1.symm
        · rw [h, h1] at h32; simp at h32
      | false =>
        have h0 : toldP (pf x) = [] := by unfold toldP; rw [show (pf x).found = x.f from rfl, hf]; rfl
        rcases own_len (b := b) hr with ⟨_, h2⟩ | h1
        · rw [← h, h0] at h2; simp at h2
        · rw [h1]
  · have e1 : tellsR (rt l) (l.length : Int) b x = ([], false, 2) := by unfold tellsR tells; rw [if_neg (by omega)]
    have ec : canB l b = false := by unfold canB; rw [in_no hb, Bool.and_false]
    unfold elseB
    rw [e1, ec]
    exact ⟨fun h => by simp at h, fun _ h => by simp at h⟩
/-- A proof that came in is one that is gone through. -/
theorem raw_okay {W : World} {l : List Lf} {x : Raw} (h : RawOk W x) (hf : fewB l x = true) : Okay W x := by
  obtain ⟨h1, h2, ⟨h3, h4, h5⟩, ⟨h6, h7, h8⟩, _, h9⟩ := h
  obtain ⟨_, f1, f2⟩ := few_in hf
  unfold maxLen at h4 h7
  exact ⟨h1, h2, h3, h6, by omega, by omega, h4, h7, h9⟩
end Go.Proofs.YtcadfpaihfaabaaDoor.PrgMs
