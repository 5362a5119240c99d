/- The main walk of the statement of what was sealed. The condition: the rounds' numbers lie in the program's variable. -/
import Derived.Test.YtjcfgedldpnpjaaDoorLChy
import Derived.Test.YtjcfgedldpnpjaaDoorChnE
import Derived.Test.YtjcfgedldpnpjaaDoorLChs
namespace Go.Proofs.YtjcfgedldpnpjaaDoor.ChnZ
set_option linter.unusedVariables false
open Go.RowKit
open RecN RecC STurn SSum ChnN ChnM ChnC ChnD ChnF ChnG ChnS ChnK ChnE
/-- A tag that is turned, in the row's cells. -/
theorem ss_set : ∀ (S : List Sd) (i : Nat) (h : i < S.length) (t : List UInt8), (ss S).set (i * 9 + 8) (.string ⟨t.toArray⟩) = ss (S.set i (S[i].1, t))
  | [], i, h, _ => absurd h (by simp)
  | x :: S, 0, _, t => by
    show (scL x ++ ss S).set 8 _ = scL (x.1, t) ++ ss S
    rw [List.set_append_left _ _ (by rw [sc_len]; omega)]
    rfl
  | x :: S, i + 1, h, t => by
    have h' : i < S.length := by simpa using h
    show (scL x ++ ss S).set ((i + 1) * 9 + 8) _ = scL x ++ ss (S.set i (S[i].1, t))
    rw [List.set_append_right _ _ (by rw [sc_len]; omega), sc_len, show (i + 1) * 9 + 8 - 9 = i * 9 + 8 by omega, ss_set S i h' t]
theorem own_turn {W : World} {base : Nat} {p : Option Addr} {n c : Nat} {S : List Sd} (h : W.ownsRow base 44 9 (.slice p n c) n (ss S)) {i : Nat} (hi : i < S.length) (t : List UInt8) :
    ∃ g, p = some ⟨g, 0, none⟩ ∧ base ≤ g ∧ W.frozen? ⟨g, i * 9 + 8, none⟩ = false ∧ W.cell? ⟨g, i * 9 + 8, none⟩ = some (.string ⟨S[i].2.toArray⟩) ∧ Lies (W.setCell ⟨g, i * 9 + 8, none⟩ (.string ⟨t.toArray⟩)) p (ss (S.set i (S[i].1, t))) := by
  have hl := h.1
  rw [ss_len] at hl
  rcases h.2 with ⟨_, hn⟩ | ⟨g, cap, cur, hv, hb, hg, _, _, hcs, htk⟩
  · omega
  · injection hv with hv
    subst hv
    have hlt : i * 9 + 8 < (ss S).length := by rw [ss_len]; omega
    have hold : (ss S)[i * 9 + 8]? = some (.string ⟨S[i].2.toArray⟩) := fm_at sc_len S i hi 8 (by omega)
    have hin : ∀ j, j < (ss S).length → cur[j]? = (ss S)[j]? := fun j hj => by
      rw [← htk, List.getElem?_take, if_pos (by rw [ss_len] at hj; omega), Array.getElem?_toList]
    refine ⟨g, rfl, hb, blk_free hg, blk_cell hg ((hin _ hlt).trans hold), fun _ => ?_⟩
    have hg2 := blk_set (i := i * 9 + 8) (u := .string ⟨t.toArray⟩) hg
    refine ⟨g, 0, rfl, lt_of_some hg2, fun j u hj => ?_⟩
    rw [Nat.zero_add]
    refine blk_cell hg2 ?_
    have hjl : j < (ss S).length := by
      have := (List.getElem?_eq_some_iff.1 hj).1
      rw [ss_len, List.length_set] at this
      rw [ss_len]
      exact this
    rw [← ss_set S i hi t, List.getElem?_set] at hj
    rw [Array.getElem?_setIfInBounds]
    by_cases he : i * 9 + 8 = j
    · subst he
      rw [if_pos rfl, if_pos hlt] at hj
      have : i * 9 + 8 < cur.size := by rw [hcs]; rw [ss_len] at hlt; omega
      rw [if_pos rfl, if_pos this]
      exact hj
    · rw [if_neg he] at hj
      rw [if_neg he, hin j hjl]
      exact hj
theorem recs_seal (root : List UInt8) (f : Int) (l : List Rec) : recs (sealR root f [] l) = l := by
  unfold recs
  rw [seal_recs]
  rfl
end Go.Proofs.YtjcfgedldpnpjaaDoor.ChnZ
