/- RecR RecZ: one behind the other. -/
import Derived.Test.YtkidehngleglnaaDoorLRec
import Derived.Deep.DeepCutAuto
/- The document's Name, Right, Few: the walks of their texts. No conditions. -/
namespace Go.Proofs.YtkidehngleglnaaDoor.RecR
open Go.RowKit
open RecN RecC RecM RecP
set_option maxRecDepth 100000 in
theorem Few_any (r : Rec) (q : Bool) (hq : decide (r.rt.length ≤ 5000 ∧ r.nm.length ≤ 5000) = q) (w : World) :
    Calls Tryd.prog 26 #[.agg #[.int .i64 r.k, .int .i64 r.ep, .int .i64 r.tm, .int .i64 r.ct, .int .i64 r.tg, .int .i64 r.un, .string ⟨r.rt.toArray⟩, .string ⟨r.nm.toArray⟩]] w fun e w' => e = .returned (.bool q) ∧ Below w.heap.size w w' := by
  obtain ⟨W1, hW1⟩ : ∃ W1, W1 = w.alloc (.cells #[.int .i64 r.k, .int .i64 r.ep, .int .i64 r.tm, .int .i64 r.ct, .int .i64 r.tg, .int .i64 r.un, .string ⟨r.rt.toArray⟩, .string ⟨r.nm.toArray⟩] 31) := ⟨_, rfl⟩
  have SS : Hid (Ws w r W1) := Lib.hid (by rw [hW1]; exact ws_new w r)
  obtain ⟨k0, k1, k2, k3, k4, k5, k6, k7⟩ := SS.out.k.cells
  have hz := size_mk r.rt
  have hy := size_mk r.nm
  go_enter Tryd.func26, Tryd.ntmps26
  go_upto_region 1 with (fail)
  rw [← hW1]
  clear hW1
  by_cases h1 : (r.rt.length : Int) ≤ 5000
  · by_cases h2 : (r.nm.length : Int) ≤ 5000
    · obtain rfl : q = true := by rw [← hq]; exact dt ⟨by omega, by omega⟩
      go_wp2
      go_ret
      exact ⟨rfl, SS.out.bel⟩
    · obtain rfl : q = false := by rw [← hq]; exact df (by omega)
      go_wp2
      go_ret
      exact ⟨rfl, SS.out.bel⟩
  · obtain rfl : q = false := by rw [← hq]; exact df (by omega)
    go_wp2
    go_ret
    exact ⟨rfl, SS.out.bel⟩
def fewB (r : Rec) : Bool := decide (r.rt.length ≤ 5000 ∧ r.nm.length ≤ 5000)
/-- What the document's Few answers. -/
theorem Few (r : Rec) (w : World) :
    Calls Tryd.prog 26 #[.agg #[.int .i64 r.k, .int .i64 r.ep, .int .i64 r.tm, .int .i64 r.ct, .int .i64 r.tg, .int .i64 r.un, .string ⟨r.rt.toArray⟩, .string ⟨r.nm.toArray⟩]] w fun e w' => e = .returned (.bool (fewB r)) ∧ Below w.heap.size w w' := Few_any r _ rfl w
end Go.Proofs.YtkidehngleglnaaDoor.RecR
/- The document's Right: the walk of its text. No conditions. -/
namespace Go.Proofs.YtkidehngleglnaaDoor.RecZ
open Go.RowKit
open RecN RecC RecM RecP RecR
theorem fit_1 {r : Rec} (hk : r.k = 1) : fit r ↔ fit1 r := by
  unfold fit
  refine ⟨fun h => ?_, fun h => .inl ⟨hk, h⟩⟩
  rcases h with h | h | h | h | h
  all_goals first | exact h.2 | (exfalso; have := h.1; omega)
theorem fit_2 {r : Rec} (hk : r.k = 2) : fit r ↔ fit2 r := by
  unfold fit
  refine ⟨fun h => ?_, fun h => .inr (.inl ⟨hk, h⟩)⟩
  rcases h with h | h | h | h | h
  all_goals first | exact h.2 | (exfalso; have := h.1; omega)
theorem fit_3 {r : Rec} (hk : r.k = 3) : fit r ↔ fit3 r := by
  unfold fit
  refine ⟨fun h => ?_, fun h => .inr (.inr (.inl ⟨hk, h⟩))⟩
  rcases h with h | h | h | h | h
  all_goals first | exact h.2 | (exfalso; have := h.1; omega)
theorem fit_4 {r : Rec} (hk : r.k = 4) : fit r ↔ fit4 r := by
  unfold fit
  refine ⟨fun h => ?_, fun h => .inr (.inr (.inr (.inl ⟨hk, h⟩)))⟩
  rcases h with h | h | h | h | h
  all_goals first | exact h.2 | (exfalso; have := h.1; omega)
theorem fit_5 {r : Rec} (hk : r.k = 5) : fit r ↔ fit2 r := by
  unfold fit
  refine ⟨fun h => ?_, fun h => .inr (.inr (.inr (.inr ⟨hk, h⟩)))⟩
  rcases h with h | h | h | h | h
  all_goals first | exact h.2 | (exfalso; have := h.1; omega)
theorem fit_0 {r : Rec} (hk : r.k ≠ 1 ∧ r.k ≠ 2 ∧ r.k ≠ 3 ∧ r.k ≠ 4 ∧ r.k ≠ 5) : ¬ fit r := by
  intro h
  rcases h with h | h | h | h | h
  all_goals (have := h.1; omega)
theorem right_1 {r : Rec} (hl : low r) (hk : r.k = 1) : decide (right r) = (decide (0 ≤ r.ct) && decide (r.ct ≤ 4096) && ((r.rt.length : Int) == 32) && (r.tg == 0) && (r.un == 0) && (r.nm == [])) := by
  rw [Bool.eq_iff_iff, decide_eq_true_eq]
  unfold right
  rw [fit_1 hk]
  unfold fit1
  simp only [Bool.and_eq_true, decide_eq_true_eq, beq_iff_eq]
  constructor
  · rintro ⟨_, h⟩
    obtain ⟨h1, h2, h3, h4, h5, h6⟩ := h; exact ⟨⟨⟨⟨⟨h1, h2⟩, by omega⟩, h4⟩, h5⟩, h6⟩
  · intro h
    obtain ⟨⟨⟨⟨⟨h1, h2⟩, h3⟩, h4⟩, h5⟩, h6⟩ := h; exact ⟨hl, h1, h2, by omega, h4, h5, h6⟩
theorem right_2 {r : Rec} (hl : low r) (hk : r.k = 2) : decide (right r) = (decide (aim r) && decide (RecN.due r) && (r.ct == 0) && (r.rt == []) && (r.nm == [])) := by
  rw [Bool.eq_iff_iff, decide_eq_true_eq]
  unfold right
  rw [fit_2 hk]
  unfold fit2
  simp only [Bool.and_eq_true, decide_eq_true_eq, beq_iff_eq]
  constructor
  · rintro ⟨_, h⟩
    obtain ⟨h1, h2, h3, h4, h5⟩ := h; exact ⟨⟨⟨⟨h1, h2⟩, h3⟩, h4⟩, h5⟩
  · intro h
    obtain ⟨⟨⟨⟨h1, h2⟩, h3⟩, h4⟩, h5⟩ := h; exact ⟨hl, h1, h2, h3, h4, h5⟩
theorem right_3 {r : Rec} (hl : low r) (hk : r.k = 3) : decide (right r) = (decide (aim r) && isName r.nm && (r.un == 0) && (r.ct == 0) && (r.rt == [])) := by
  rw [Bool.eq_iff_iff, decide_eq_true_eq]
  unfold right
  rw [fit_3 hk]
  unfold fit3
  simp only [Bool.and_eq_true, decide_eq_true_eq, beq_iff_eq]
  constructor
  · rintro ⟨_, h⟩
    obtain ⟨h1, h2, h3, h4, h5⟩ := h; exact ⟨⟨⟨⟨h1, h2⟩, h3⟩, h4⟩, h5⟩
  · intro h
    obtain ⟨⟨⟨⟨h1, h2⟩, h3⟩, h4⟩, h5⟩ := h; exact ⟨hl, h1, h2, h3, h4, h5⟩
theorem right_4 {r : Rec} (hl : low r) (hk : r.k = 4) : decide (right r) = (isName r.nm && (r.tg == 0) && (r.un == 0) && (r.ct == 0) && (r.rt == [])) := by
  rw [Bool.eq_iff_iff, decide_eq_true_eq]
  unfold right
  rw [fit_4 hk]
  unfold fit4
  simp only [Bool.and_eq_true, beq_iff_eq]
  constructor
  · rintro ⟨_, h⟩
    obtain ⟨h1, h2, h3, h4, h5⟩ := h; exact ⟨⟨⟨⟨h1, h2⟩, h3⟩, h4⟩, h5⟩
  · intro h
    obtain ⟨⟨⟨⟨h1, h2⟩, h3⟩, h4⟩, h5⟩ := h; exact ⟨hl, h1, h2, h3, h4, h5⟩
theorem right_5 {r : Rec} (hl : low r) (hk : r.k = 5) : decide (right r) = (decide (aim r) && decide (RecN.due r) && (r.ct == 0) && (r.rt == []) && (r.nm == [])) := by
  rw [Bool.eq_iff_iff, decide_eq_true_eq]
  unfold right
  rw [fit_5 hk]
  unfold fit2
  simp only [Bool.and_eq_true, decide_eq_true_eq, beq_iff_eq]
  constructor
  · rintro ⟨_, h⟩
    obtain ⟨h1, h2, h3, h4, h5⟩ := h; exact ⟨⟨⟨⟨h1, h2⟩, h3⟩, h4⟩, h5⟩
  · intro h
    obtain ⟨⟨⟨⟨h1, h2⟩, h3⟩, h4⟩, h5⟩ := h; exact ⟨hl, h1, h2, h3, h4, h5⟩
end Go.Proofs.YtkidehngleglnaaDoor.RecZ
