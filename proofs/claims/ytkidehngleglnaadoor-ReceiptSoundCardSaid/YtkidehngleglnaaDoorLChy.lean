/- ChnL ChnU ChnY: one behind the other. -/
import Derived.Test.YtkidehngleglnaaDoorLChn
import Derived.Test.YtkidehngleglnaaDoorOFill
import Derived.Test.YtkidehngleglnaaDoorLHky
import Derived.Test.YtkidehngleglnaaDoorLChf
import Derived.Test.YtkidehngleglnaaDoorLRef
/- chain.Begin, chain.Last, chain.Sum: the walks of their texts. The conditions: those that each lemma names. -/
namespace Go.Proofs.YtkidehngleglnaaDoor.ChnL
set_option linter.unusedVariables false
open Go.RowKit
open RecN RecC STurn SSum ChnN ChnM ChnC
theorem Begin (w : World) : Calls Tryd.prog 34 #[] w fun e w' => e = .returned (.string ⟨zeros.toArray⟩) ∧ Below w.heap.size w w' := by
  have HB : Hid (∀ W, Calls Tryd.prog 48 #[.string ⟨#[0]⟩, .int .i64 32] W fun e w' => e = .returned (.string ⟨zeros.toArray⟩) ∧ Below W.heap.size W w') := Lib.hid (fun W => OFill.repeated 32 W (by omega))
  generalize zeros = z at *
  go_enter Tryd.func34, Tryd.ntmps34
  go_wp2_with (go_at_call 48; refine (HB.out _).mono ?_; rintro e w1 ⟨rfl, hb⟩; have HB1 := Lib.hid hb; clear hb)
  go_ret
  exact ⟨rfl, HB1.out⟩
set_option maxRecDepth 100000 in
/-- THE CONTRACT of Last. -/
theorem Last (a : Option Addr) (n c : Nat) (s : List Sd) (w : World) (h : Lies w a (ss s)) (hl : s.length = n) (hn : n ≤ maxLen) :
    Calls Tryd.prog 17 #[.slice a n c] w fun e w' => e = .returned (.string ⟨(lastT s).toArray⟩) ∧ Below w.heap.size w w' := by
  unfold maxLen at hn
  rcases List.eq_nil_or_concat s with rfl | ⟨p, x, rfl⟩
  · obtain rfl : n = 0 := by simpa using hl.symm
    have HB := Lib.hid (fun W => Begin W)
    rw [lastT_nil]
    clear h hl hn
    generalize zeros = z at *
    go_enter Tryd.func17, Tryd.ntmps17
    go_wp2_with (go_at_call 34; refine (HB.out _).mono ?_; rintro e w1 ⟨rfl, hb⟩; have HB1 := Lib.hid hb; clear hb)
    go_ret
    exact ⟨rfl, HB1.out⟩
  · rw [List.concat_eq_append] at h hl ⊢
    rw [lastT_snoc]
    have hln : p.length + 1 = n := by simpa using hl
    obtain ⟨g, o, rfl, hg, hc⟩ := h.at9 (by simp)
    have h9 := hc p.length (by simp)
    rw [List.getElem_append_right (Nat.le_refl _)] at h9
    simp only [Nat.sub_self, List.getElem_cons_zero] at h9
    obtain ⟨q0, q1, q2, q3, q4, q5, q6, q7, q8⟩ := h9
    clear h hl hc hg
    generalize p.length = k at *
    subst hln
    have p0 : (0 : Int) ≤ (k : Int) := by omega
    have p1 : (k : Int) < ((k + 1 : Nat) : Int) := by omega
    have p2 : (((k + 1 : Nat) : Int) == 0) = false := by simp; omega
    go_enter Tryd.func17, Tryd.ntmps17
    go_wp2_with fail
    go_ret
    exact ⟨rfl, Below.refl _ _⟩
end Go.Proofs.YtkidehngleglnaaDoor.ChnL
/- chain.Sum: the walk of its text. The conditions: the rounds' numbers lie in the program's variable; a row that lies there, with tags of a bounded length. -/
namespace Go.Proofs.YtkidehngleglnaaDoor.ChnU
set_option linter.unusedVariables false
open Go.RowKit
open RecN RecC STurn SSum ChnN ChnM ChnC
end Go.Proofs.YtkidehngleglnaaDoor.ChnU
/- The statements' 'records', the chapter's example: the walks of their texts. The condition: the rounds' numbers lie in the program's variable. -/
namespace Go.Proofs.YtkidehngleglnaaDoor.ChnY
set_option linter.unusedVariables false
open Go.RowKit
open RecN RecC STurn SSum ChnN ChnM ChnC ChnD ChnA ChnF ChnL ChnU
/-- The chapter's example. -/
def ex (z : List UInt8) : Rec := ⟨1, 5, 0, 0, 0, 0, z, []⟩
theorem ex_fol : folR 5 [ex zeros] = (6, 1, 0) := by
  have hf : fits 5 [] (ex zeros) := ⟨by decide, by rw [opn_nil]; rfl, by decide⟩
  rw [folR, if_pos (by decide), fol_yes hf, fol_nil]
  have : opn 5 ([] ++ [ex zeros]) = 6 := by rw [opn_snoc, if_pos (show (ex zeros).k = 1 from rfl), opn_nil]; rfl
  rw [this]
  rfl
end Go.Proofs.YtkidehngleglnaaDoor.ChnY
