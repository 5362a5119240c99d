/- The document's Right, Few, Last: the walks of their texts. No conditions but those that each lemma names. -/
import Derived.Test.YtkidehngleglnaaDoorLRcn
import Derived.Test.YtkidehngleglnaaDoorLRez
import Derived.Test.YtkidehngleglnaaDoorLRef
namespace Go.Proofs.YtkidehngleglnaaDoor.RcpD
set_option linter.unusedVariables false
open Go.RowKit
open RecN RecC ChnN ChnM ChnC RcpN RcpC
theorem rok_cases2 (x : Rcp) : ¬ right x.r ∨ (right x.r ∧ ¬ x.r.k = 1) ∨ (x.r.k = 1 ∧ right x.r ∧ ¬ 0 ≤ x.q) ∨ (x.r.k = 1 ∧ right x.r ∧ 0 ≤ x.q ∧ ¬ x.q ≤ 4294967295) ∨ (x.r.k = 1 ∧ right x.r ∧ 0 ≤ x.q ∧ x.q ≤ 4294967295 ∧ ¬ x.was.length = 32) ∨ (x.r.k = 1 ∧ right x.r ∧ 0 ≤ x.q ∧ x.q ≤ 4294967295 ∧ x.was.length = 32) := by
  by_cases h2 : right x.r
  · by_cases h1 : x.r.k = 1
    · by_cases h3 : 0 ≤ x.q
      · by_cases h4 : x.q ≤ 4294967295
        · by_cases h5 : x.was.length = 32
          · exact .inr (.inr (.inr (.inr (.inr ⟨h1, h2, h3, h4, h5⟩))))
          · exact .inr (.inr (.inr (.inr (.inl ⟨h1, h2, h3, h4, h5⟩))))
        · exact .inr (.inr (.inr (.inl ⟨h1, h2, h3, h4⟩)))
      · exact .inr (.inr (.inl ⟨h1, h2, h3⟩))
    · exact .inr (.inl ⟨h2, h1⟩)
  · exact .inl h2
theorem eq32 {l : List UInt8} {q : Bool} (h : decide (l.length = 32) = q) : ((l.length : Int) == 32) = q := by
  rw [← h]
  by_cases h : l.length = 32
  · rw [decide_eq_true h]; simp [h]
  · rw [decide_eq_false h]; simp; omega
def fewR (x : Rcp) : Bool := RecR.fewB x.r && (decide (x.was.length ≤ 1000) && decide (x.tag.length ≤ 1000))
theorem fewR_in {x : Rcp} (h : fewR x = true) : x.r.rt.length ≤ 5000 ∧ x.r.nm.length ≤ 5000 ∧ x.was.length ≤ 1000 ∧ x.tag.length ≤ 1000 := by
  simp only [fewR, RecR.fewB, Bool.and_eq_true, decide_eq_true_eq] at h
  exact ⟨h.1.1, h.1.2, h.2.1, h.2.2⟩
set_option maxRecDepth 100000 in
set_option maxHeartbeats 4000000 in
/-- What the document's Few answers. -/
theorem Few (x : Rcp) (w : World) : Calls Tryd.prog 11 #[.agg #[.int .i64 x.q, .int .i64 x.r.k, .int .i64 x.r.ep, .int .i64 x.r.tm, .int .i64 x.r.ct, .int .i64 x.r.tg, .int .i64 x.r.un, .string ⟨x.r.rt.toArray⟩, .string ⟨x.r.nm.toArray⟩, .string ⟨x.was.toArray⟩, .string ⟨x.tag.toArray⟩]] w fun e w' => e = .returned (.bool (fewR x)) ∧ Below w.heap.size w w' := by
  obtain ⟨W1, hW1⟩ : ∃ W1, W1 = w.alloc (.cells #[.int .i64 x.q, .int .i64 x.r.k, .int .i64 x.r.ep, .int .i64 x.r.tm, .int .i64 x.r.ct, .int .i64 x.r.tg, .int .i64 x.r.un, .string ⟨x.r.rt.toArray⟩, .string ⟨x.r.nm.toArray⟩, .string ⟨x.was.toArray⟩, .string ⟨x.tag.toArray⟩] 33) := ⟨_, rfl⟩
  have SS : Hid (Rs w x W1) := Lib.hid (by rw [hW1]; exact rs_new w x)
  obtain ⟨k0, k1, k2, k3, k4, k5, k6, k7, k8, k9, k10⟩ := SS.out.k.cells
  have HC := Lib.hid (fun W => RecR.Few x.r W)
  obtain ⟨r, hr⟩ : ∃ r, fewR x = r := ⟨_, rfl⟩
  rw [hr]
  unfold fewR at hr
  generalize RecR.fewB x.r = b at *
  have hz := size_mk x.was
  have hy := size_mk x.tag
  go_enter Tryd.func11, Tryd.ntmps11
  go_upto_region 1 with (fail)
  rw [← hW1]
  clear hW1
  cases b with
  | false =>
    obtain rfl : r = false := by rw [← hr]; rfl
    clear hr
    go_wp2_with (go_at_call 26; refine (HC.out _).mono ?_; rintro e w2 ⟨rfl, hb⟩; replace SS := Lib.hid (SS.out.step hb); clear hb HC k0 k1 k2 k3 k4 k5 k6 k7 k8 k9 k10)
    go_ret
    exact ⟨rfl, SS.out.bel⟩
  | true =>
    rw [Bool.true_and] at hr
    by_cases h1 : (x.was.length : Int) ≤ 1000
    · obtain rfl : r = decide ((x.tag.length : Int) ≤ 1000) := by
        rw [← hr, dt (by omega), Bool.true_and]
        exact decide_eq_decide.2 (by omega)
      clear hr
      go_wp2_with (go_at_call 26; refine (HC.out _).mono ?_; rintro e w2 ⟨rfl, hb⟩; replace SS := Lib.hid (SS.out.step hb); clear hb HC k0 k1 k2 k3 k4 k5 k6 k7 k8 k9 k10; obtain ⟨k0, k1, k2, k3, k4, k5, k6, k7, k8, k9, k10⟩ := SS.out.k.cells)
      go_ret
      exact ⟨rfl, SS.out.bel⟩
    · obtain rfl : r = false := by rw [← hr, df (by omega), Bool.false_and]
      clear hr
      go_wp2_with (go_at_call 26; refine (HC.out _).mono ?_; rintro e w2 ⟨rfl, hb⟩; replace SS := Lib.hid (SS.out.step hb); clear hb HC k0 k1 k2 k3 k4 k5 k6 k7 k8 k9 k10; obtain ⟨k0, k1, k2, k3, k4, k5, k6, k7, k8, k9, k10⟩ := SS.out.k.cells)
      go_ret
      exact ⟨rfl, SS.out.bel⟩
theorem nou32 (W : World) : Calls Tryd.prog 19 #[.int .i64 32] W fun e w' => e = .returned (.string ⟨zeros.toArray⟩) ∧ Below W.heap.size W w' := (RNou.noughts 32 W (by omega)).mono fun e w' h => ⟨h.1, h.2⟩
end Go.Proofs.YtkidehngleglnaaDoor.RcpD
