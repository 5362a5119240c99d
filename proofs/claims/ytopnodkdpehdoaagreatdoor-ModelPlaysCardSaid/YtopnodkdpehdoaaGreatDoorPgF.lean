/- The landed model meets the letters that the statements' walks ask for. No conditions. -/
import Derived.Test.YtopnodkdpehdoaaGreatDoorMdT
import Derived.Test.YtopnodkdpehdoaaGreatDoorPgL
import Derived.Test.YtopnodkdpehdoaaGreatDoorPgD
import Derived.Test.YtopnodkdpehdoaaGreatDoorLPgk
namespace Go.Proofs.YtopnodkdpehdoaaGreatDoor.PgF
set_option linter.unusedVariables false
open Go.RowKit
open RecN RecC RetR MdN MdO MdP MdT CalR AnsC PgC PgN
/-- The landed model, at X, its blocks F. -/
def Pp : PT := fun b X F m W => ∃ A : Pm, A.x = X ∧ F = A.foot ∧ Pg b A m W
theorem api : Api Gd Pp where
  gd := fun b W W' h hs hk => h.kept hs hk
  up := fun b b' W h hb => h.up hb
  sz := fun b X F m W ⟨A, _, _, h⟩ => h.size
  lt := fun b X F m W ⟨A, _, e, h⟩ k hk => by subst e; exact ⟨h.low k hk, h.lt hk⟩
  step := fun b X F m W W' ⟨A, e1, e, h⟩ hs hk hl => by subst e; exact ⟨A, e1, rfl, h.kept hs hk hl⟩
  ok := fun b X F m W ⟨A, _, _, h⟩ => ⟨h.ok, h.ep⟩
  new_no := fun base b lb f w hb hg hr => PgL.New_no b lb f w hg.b hr
  new_yes := fun base b lb f w hb hg hr => (PgL.New_yes base b lb f w hb hg hr).mono (by
    rintro x w' ⟨A, rfl, h1, h2, h3⟩
    exact ⟨⟨A.x, A.foot, rfl, ⟨A, rfl, rfl, h1⟩, h2⟩, h3⟩)
  does := fun b X F m w c pk nk ck ⟨A, e1, e, h⟩ hb => by
    subst e1 e
    refine (PgD.Do h c pk nk ck).mono ?_
    rintro x w' ⟨rfl, ⟨A', q1, q2, q3⟩, f1, f2, f3, f4, f5⟩
    exact ⟨rfl, ⟨A'.foot, ⟨A', q1, rfl, q2⟩, q3⟩, f1, f2, f3, f4, f5⟩
  epoch := fun b X F m w ⟨A, e1, e, h⟩ => by
    subst e1
    refine (PgA.Epoch h).mono ?_
    rintro x w' ⟨rfl, rfl⟩
    exact ⟨rfl, Below.refl _ _⟩
theorem apiB : ApiB Pp where
  copy := fun b X F m w ⟨A, e1, e, h⟩ hb => by
    subst e1
    refine (PgK.Copy h).mono ?_
    rintro x w' ⟨A', rfl, q1, q2, q3⟩
    exact ⟨⟨A'.x, A'.foot, rfl, ⟨A', rfl, rfl, q1⟩, q2⟩, q3⟩
  same := fun b X F X' F' m w ⟨A, e1, _, h⟩ ⟨A', e1', _, h'⟩ => by
    subst e1 e1'
    exact PgY.Same h h'
/-- The two variables lie below what comes. -/
theorem gd_of {w : World} (h : GeoC.Bnd w) : Gd w.heap.size w := ⟨h, h.lt.1, h.lt.2⟩
end Go.Proofs.YtopnodkdpehdoaaGreatDoor.PgF
