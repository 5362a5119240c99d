/- What the statements go through: the last leaf of a place, an own proof. No conditions but those that each lemma names. -/
import Derived.Test.YtcadfpaihfaabaaDoorPrgW
import Derived.Test.YtcadfpaihfaabaaDoorPrgQ
namespace Go.Proofs.YtcadfpaihfaabaaDoor.PrgM
set_option linter.unusedVariables false
open Go.RowKit STurn SSum
open PrfL PrfN PrfM PrfB PrgN PrgC PrgK PrgH PrgF PrgO PrgP PrgQ PrgV PrgW MerQ MerM MerN MerC MerA MerJ MerR MerW
theorem last_next {l : List Lf} {k : Nat} (b : Int) (hk : k < l.length) : lastOf (l.take (k + 1)) b = if (l.getD k no).1 = b then ((l.getD k no).2, true) else lastOf (l.take k) b := by
  unfold lastOf
  rw [List.take_succ_eq_append_getElem hk, List.foldl_append, at_d _ hk]
  rfl
theorem fit_no : Fit no := by unfold Fit maxLen; simp
/-- An own proof is one that is gone through. -/
theorem prove_okay {B : Nat} {W : World} {l : List Lf} {b : Int} {x : Raw} (hf : ∀ y ∈ l, Fit y) (hn : l.length ≤ 100000) (hx : pf x = prove l b)
    (h1 : W.ownsRow B 9 1 (.slice x.ua x.up.length x.uc) x.up.length (x.up.map str)) (h2 : W.ownsRow B 9 1 (.slice x.la x.left.length x.lc) x.left.length (x.left.map str)) : Okay W x := by
  have hle := plc_le l b
  have eh : x.here = (prove l b).here := by rw [← hx]; rfl
  have ea : x.ahead = (prove l b).ahead := by rw [← hx]; rfl
  have eu : x.up = (prove l b).up := by rw [← hx]; rfl
  have el : x.left = (prove l b).left := by rw [← hx]; rfl
  have ei : x.at_ = (prove l b).at_ := by rw [← hx]; rfl
  have hpl : ∀ i, i < l.length → (pathN nd (hs l) i).length ≤ 1000000 ∧ ∀ y ∈ pathN nd (hs l) i, y.length ≤ 9223372036854775807 := fun i hi => by
    refine ⟨?_, fun y hy => by rw [path_32 (hs_32 l) y hy]; omega⟩
    rw [pathN_length nd (by rw [hs_length]; exact hi)]
    exact Nat.le_trans (long_le _ _ _) (by rw [hs_length]; omega)
  have hle2 : ∀ i, i < l.length → Fit (l.getD i no) := fun i hi => hf _ (by rw [at_d _ hi]; exact List.getElem_mem hi)
  refine ⟨?_, ?_, own_strs h1, own_strs h2, ?_, ?_, ?_, ?_, ?_⟩
  · rw [eh]; unfold prove; dsimp only
    split
    · rename_i h; exact hle2 _ h
    · exact fit_no
  · rw [ea]; unfold prove; dsimp only
    split
    · rename_i h; exact hle2 _ (by omega)
    · exact fit_no
  · rw [eu]; unfold prove; dsimp only
    split
    · rename_i h; exact (hpl _ h).1
    · simp
  · rw [el]; unfold prove; dsimp only
    split
    · rename_i h; exact (hpl _ (by omega)).1
    · simp
  · rw [eu]; unfold prove; dsimp only
    split
    · rename_i h; exact (hpl _ h).2
    · intro y hy; simp at hy
  · rw [el]; unfold prove; dsimp only
    split
    · rename_i h; exact (hpl _ (by omega)).2
    · intro y hy; simp at hy
  · rw [ei]; unfold prove; dsimp only
    omega
end Go.Proofs.YtcadfpaihfaabaaDoor.PrgM
