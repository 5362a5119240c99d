/- The document's Right, Few, Last: the walks of their texts. No conditions but those that each lemma names. -/
import Derived.Test.YtkidehngleglnaaGreatDoorLRcn
import Derived.Test.YtkidehngleglnaaGreatDoorLRez
import Derived.Test.YtkidehngleglnaaGreatDoorLRef
namespace Go.Proofs.YtkidehngleglnaaGreatDoor.RcpD
set_option linter.unusedVariables false
open Go.RowKit
open RecN RecC ChnN ChnM ChnC RcpN RcpC
theorem rok_cases2 (x : Rcp) : ¬ right x.r ∨ (right x.r ∧ ¬ x.r.k = 1) ∨ (x.r.k = 1 ∧ right x.r ∧ ¬ 0 ≤ x.q) ∨ (x.r.k = 1 ∧ right x.r ∧ 0 ≤ x.q ∧ ¬ x.q ≤ 4294967295) ∨ (x.r.k = 1 ∧ right x.r ∧ 0 ≤ x.q ∧ x.q ≤ 4294967295 ∧ ¬ x.was.length = 32) ∨ (x.r.k = 1 ∧ right x.r ∧ 0 ≤ x.q ∧ x.q ≤ 4294967295 ∧ x.was.length = 32) := by
  by_cases h2 : right x.r
  · by_cases h1 : x.r.k = 1
    · by_cases h3 : 0 ≤ x.q
      · by_cases h4 : x.q ≤ 4294967295
        · by_cases h5 : x.was.length = 32
          · exact .inr (.inr (.inr (.inr (.inr ⟨h1, h2, h3, h4, h5⟩))))
          · exact .inr (.inr (.inr (.inr (.inl ⟨h1, h2, h3, h4, h5⟩))))
        · exact .inr (.inr (.inr (.inl ⟨h1, h2, h3, h4⟩)))
      · exact .inr (.inr (.inl ⟨h1, h2, h3⟩))
    · exact .inr (.inl ⟨h2, h1⟩)
  · exact .inl h2
theorem eq32 {l : List UInt8} {q : Bool} (h : decide (l.length = 32) = q) : ((l.length : Int) == 32) = q := by
  rw [← h]
  by_cases h : l.length = 32
  · rw [decide_eq_true h]; simp [h]
  · rw [decide_eq_false h]; simp; omega
set_option maxRecDepth 100000 in
set_option maxHeartbeats 4000000 in
/-- What the document's Right answers. -/
theorem Right (x : Rcp) (w : World) : Calls Tryz.prog 18 #[.agg #[.int .i64 x.q, .int .i64 x.r.k, .int .i64 x.r.ep, .int .i64 x.r.tm, .int .i64 x.r.ct, .int .i64 x.r.tg, .int .i64 x.r.un, .string ⟨x.r.rt.toArray⟩, .string ⟨x.r.nm.toArray⟩, .string ⟨x.was.toArray⟩, .string ⟨x.tag.toArray⟩]] w fun e w' => e = .returned (.bool (decide (rok x))) ∧ Below w.heap.size w w' := by
  obtain ⟨W1, hW1⟩ : ∃ W1, W1 = w.alloc (.cells #[.int .i64 x.q, .int .i64 x.r.k, .int .i64 x.r.ep, .int .i64 x.r.tm, .int .i64 x.r.ct, .int .i64 x.r.tg, .int .i64 x.r.un, .string ⟨x.r.rt.toArray⟩, .string ⟨x.r.nm.toArray⟩, .string ⟨x.was.toArray⟩, .string ⟨x.tag.toArray⟩] 25) := ⟨_, rfl⟩
  have SS : Hid (Rs w x W1) := Lib.hid (by rw [hW1]; exact rs_new w x)
  obtain ⟨k0, k1, k2, k3, k4, k5, k6, k7, k8, k9, k10⟩ := SS.out.k.cells
  have HC := Lib.hid (fun W => RecZ.Right x.r W)
  go_enter Tryz.func18, Tryz.ntmps18
  go_upto_region 1 with (fail)
  rw [← hW1]
  clear hW1
  rcases rok_cases2 x with h2 | ⟨h2, h1⟩ | ⟨h1, h2, h3⟩ | ⟨h1, h2, h3, h4⟩ | ⟨h1, h2, h3, h4, h5⟩ | ⟨h1, h2, h3, h4, h5⟩
  · have hr : Hid (decide (rok x) = false) := Lib.hid (df (fun h => h2 h.1))
    rw [df h2] at HC
    clear h2
    go_wp2_with (go_at_call 37; refine (HC.out _).mono ?_; rintro e w2 ⟨rfl, hb⟩; replace SS := Lib.hid (SS.out.step hb); clear hb HC k0 k1 k2 k3 k4 k5 k6 k7 k8 k9 k10)
    go_ret
    rw [hr.out]
    exact ⟨rfl, SS.out.bel⟩
  · have hr : Hid (decide (rok x) = false) := Lib.hid (df (fun h => h1 h.2.1))
    have hq : (x.r.k == 1) = false := by simpa using h1
    rw [dt h2] at HC
    clear h1 h2
    go_wp2_with (go_at_call 37; refine (HC.out _).mono ?_; rintro e w2 ⟨rfl, hb⟩; replace SS := Lib.hid (SS.out.step hb); clear hb HC k0 k1 k2 k3 k4 k5 k6 k7 k8 k9 k10; obtain ⟨k0, k1, k2, k3, k4, k5, k6, k7, k8, k9, k10⟩ := SS.out.k.cells)
    go_ret
    rw [hr.out]
    exact ⟨rfl, SS.out.bel⟩
  · have hr : Hid (decide (rok x) = false) := Lib.hid (df (fun h => h3 h.2.2.1.1))
    have hq : (x.r.k == 1) = true := by simpa using h1
    rw [dt h2] at HC
    clear h1 h2
    go_wp2_with (go_at_call 37; refine (HC.out _).mono ?_; rintro e w2 ⟨rfl, hb⟩; replace SS := Lib.hid (SS.out.step hb); clear hb HC k0 k1 k2 k3 k4 k5 k6 k7 k8 k9 k10; obtain ⟨k0, k1, k2, k3, k4, k5, k6, k7, k8, k9, k10⟩ := SS.out.k.cells)
    go_ret
    rw [hr.out]
    exact ⟨rfl, SS.out.bel⟩
  · have hr : Hid (decide (rok x) = false) := Lib.hid (df (fun h => h4 h.2.2.1.2))
    have hq : (x.r.k == 1) = true := by simpa using h1
    rw [dt h2] at HC
    clear h1 h2
    go_wp2_with (go_at_call 37; refine (HC.out _).mono ?_; rintro e w2 ⟨rfl, hb⟩; replace SS := Lib.hid (SS.out.step hb); clear hb HC k0 k1 k2 k3 k4 k5 k6 k7 k8 k9 k10; obtain ⟨k0, k1, k2, k3, k4, k5, k6, k7, k8, k9, k10⟩ := SS.out.k.cells)
    go_ret
    rw [hr.out]
    exact ⟨rfl, SS.out.bel⟩
  · have hr : Hid (decide (rok x) = false) := Lib.hid (df (fun h => h5 h.2.2.2.1))
    have hq : (x.r.k == 1) = true := by simpa using h1
    have hw := eq32 (df h5)
    rw [dt h2] at HC
    clear h1 h2 h5
    go_wp2_with (go_at_call 37; refine (HC.out _).mono ?_; rintro e w2 ⟨rfl, hb⟩; replace SS := Lib.hid (SS.out.step hb); clear hb HC k0 k1 k2 k3 k4 k5 k6 k7 k8 k9 k10; obtain ⟨k0, k1, k2, k3, k4, k5, k6, k7, k8, k9, k10⟩ := SS.out.k.cells)
    go_ret
    rw [hr.out]
    exact ⟨rfl, SS.out.bel⟩
  · obtain ⟨q, hq6⟩ : ∃ q, decide (x.tag.length = 32) = q := ⟨_, rfl⟩
    have hr : Hid (decide (rok x) = q) := Lib.hid (by
      rw [← hq6]
      by_cases h6 : x.tag.length = 32
      · rw [dt h6]; exact dt ⟨h2, h1, ⟨h3, h4⟩, h5, h6⟩
      · rw [df h6]; exact df (fun h => h6 h.2.2.2.2))
    have hq : (x.r.k == 1) = true := by simpa using h1
    have hw := eq32 (dt h5)
    have ht := eq32 hq6
    rw [dt h2] at HC
    clear h1 h2 h5 hq6
    go_wp2_with (go_at_call 37; refine (HC.out _).mono ?_; rintro e w2 ⟨rfl, hb⟩; replace SS := Lib.hid (SS.out.step hb); clear hb HC k0 k1 k2 k3 k4 k5 k6 k7 k8 k9 k10; obtain ⟨k0, k1, k2, k3, k4, k5, k6, k7, k8, k9, k10⟩ := SS.out.k.cells)
    go_ret
    rw [hr.out]
    exact ⟨rfl, SS.out.bel⟩
def fewR (x : Rcp) : Bool := RecR.fewB x.r && (decide (x.was.length ≤ 1000) && decide (x.tag.length ≤ 1000))
theorem fewR_in {x : Rcp} (h : fewR x = true) : x.r.rt.length ≤ 5000 ∧ x.r.nm.length ≤ 5000 ∧ x.was.length ≤ 1000 ∧ x.tag.length ≤ 1000 := by
  simp only [fewR, RecR.fewB, Bool.and_eq_true, decide_eq_true_eq] at h
  exact ⟨h.1.1, h.1.2, h.2.1, h.2.2⟩
set_option maxRecDepth 100000 in
set_option maxHeartbeats 4000000 in
/-- What the document's Few answers. -/
theorem Few (x : Rcp) (w : World) : Calls Tryz.prog 4 #[.agg #[.int .i64 x.q, .int .i64 x.r.k, .int .i64 x.r.ep, .int .i64 x.r.tm, .int .i64 x.r.ct, .int .i64 x.r.tg, .int .i64 x.r.un, .string ⟨x.r.rt.toArray⟩, .string ⟨x.r.nm.toArray⟩, .string ⟨x.was.toArray⟩, .string ⟨x.tag.toArray⟩]] w fun e w' => e = .returned (.bool (fewR x)) ∧ Below w.heap.size w w' := by
  obtain ⟨W1, hW1⟩ : ∃ W1, W1 = w.alloc (.cells #[.int .i64 x.q, .int .i64 x.r.k, .int .i64 x.r.ep, .int .i64 x.r.tm, .int .i64 x.r.ct, .int .i64 x.r.tg, .int .i64 x.r.un, .string ⟨x.r.rt.toArray⟩, .string ⟨x.r.nm.toArray⟩, .string ⟨x.was.toArray⟩, .string ⟨x.tag.toArray⟩] 25) := ⟨_, rfl⟩
  have SS : Hid (Rs w x W1) := Lib.hid (by rw [hW1]; exact rs_new w x)
  obtain ⟨k0, k1, k2, k3, k4, k5, k6, k7, k8, k9, k10⟩ := SS.out.k.cells
  have HC := Lib.hid (fun W => RecR.Few x.r W)
  obtain ⟨r, hr⟩ : ∃ r, fewR x = r := ⟨_, rfl⟩
  rw [hr]
  unfold fewR at hr
  generalize RecR.fewB x.r = b at *
  have hz := size_mk x.was
  have hy := size_mk x.tag
  go_enter Tryz.func4, Tryz.ntmps4
  go_upto_region 1 with (fail)
  rw [← hW1]
  clear hW1
  cases b with
  | false =>
    obtain rfl : r = false := by rw [← hr]; rfl
    clear hr
    go_wp2_with (go_at_call 12; refine (HC.out _).mono ?_; rintro e w2 ⟨rfl, hb⟩; replace SS := Lib.hid (SS.out.step hb); clear hb HC k0 k1 k2 k3 k4 k5 k6 k7 k8 k9 k10)
    go_ret
    exact ⟨rfl, SS.out.bel⟩
  | true =>
    rw [Bool.true_and] at hr
    by_cases h1 : (x.was.length : Int) ≤ 1000
    · obtain rfl : r = decide ((x.tag.length : Int) ≤ 1000) := by
        rw [← hr, dt (by omega), Bool.true_and]
        exact decide_eq_decide.2 (by omega)
      clear hr
      go_wp2_with (go_at_call 12; refine (HC.out _).mono ?_; rintro e w2 ⟨rfl, hb⟩; replace SS := Lib.hid (SS.out.step hb); clear hb HC k0 k1 k2 k3 k4 k5 k6 k7 k8 k9 k10; obtain ⟨k0, k1, k2, k3, k4, k5, k6, k7, k8, k9, k10⟩ := SS.out.k.cells)
      go_ret
      exact ⟨rfl, SS.out.bel⟩
    · obtain rfl : r = false := by rw [← hr, df (by omega), Bool.false_and]
      clear hr
      go_wp2_with (go_at_call 12; refine (HC.out _).mono ?_; rintro e w2 ⟨rfl, hb⟩; replace SS := Lib.hid (SS.out.step hb); clear hb HC k0 k1 k2 k3 k4 k5 k6 k7 k8 k9 k10; obtain ⟨k0, k1, k2, k3, k4, k5, k6, k7, k8, k9, k10⟩ := SS.out.k.cells)
      go_ret
      exact ⟨rfl, SS.out.bel⟩
theorem nou32 (W : World) : Calls Tryz.prog 14 #[.int .i64 32] W fun e w' => e = .returned (.string ⟨zeros.toArray⟩) ∧ Below W.heap.size W w' := (RNou.noughts 32 W (by omega)).mono fun e w' h => ⟨h.1, h.2⟩
end Go.Proofs.YtkidehngleglnaaGreatDoor.RcpD
