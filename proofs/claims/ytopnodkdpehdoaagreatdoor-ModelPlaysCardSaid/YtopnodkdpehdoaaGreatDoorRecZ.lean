/- The document's Right: the walk of its text. No conditions. -/
import Derived.Test.YtopnodkdpehdoaaGreatDoorRecR
import Derived.Deep.DeepCutAuto
namespace Go.Proofs.YtopnodkdpehdoaaGreatDoor.RecZ
open Go.RowKit
open RecN RecC RecM RecP RecR
theorem fit_1 {r : Rec} (hk : r.k = 1) : fit r ↔ fit1 r := by
  unfold fit
  refine ⟨fun h => ?_, fun h => .inl ⟨hk, h⟩⟩
  rcases h with h | h | h | h | h
  all_goals first | exact h.2 | (exfalso; have := h.1; omega)
theorem fit_2 {r : Rec} (hk : r.k = 2) : fit r ↔ fit2 r := by
  unfold fit
  refine ⟨fun h => ?_, fun h => .inr (.inl ⟨hk, h⟩)⟩
  rcases h with h | h | h | h | h
  all_goals first | exact h.2 | (exfalso; have := h.1; omega)
theorem fit_3 {r : Rec} (hk : r.k = 3) : fit r ↔ fit3 r := by
  unfold fit
  refine ⟨fun h => ?_, fun h => .inr (.inr (.inl ⟨hk, h⟩))⟩
  rcases h with h | h | h | h | h
  all_goals first | exact h.2 | (exfalso; have := h.1; omega)
theorem fit_4 {r : Rec} (hk : r.k = 4) : fit r ↔ fit4 r := by
  unfold fit
  refine ⟨fun h => ?_, fun h => .inr (.inr (.inr (.inl ⟨hk, h⟩)))⟩
  rcases h with h | h | h | h | h
  all_goals first | exact h.2 | (exfalso; have := h.1; omega)
theorem fit_5 {r : Rec} (hk : r.k = 5) : fit r ↔ fit2 r := by
  unfold fit
  refine ⟨fun h => ?_, fun h => .inr (.inr (.inr (.inr ⟨hk, h⟩)))⟩
  rcases h with h | h | h | h | h
  all_goals first | exact h.2 | (exfalso; have := h.1; omega)
theorem fit_0 {r : Rec} (hk : r.k ≠ 1 ∧ r.k ≠ 2 ∧ r.k ≠ 3 ∧ r.k ≠ 4 ∧ r.k ≠ 5) : ¬ fit r := by
  intro h
  rcases h with h | h | h | h | h
  all_goals (have := h.1; omega)
theorem right_1 {r : Rec} (hl : low r) (hk : r.k = 1) : decide (right r) = (decide (0 ≤ r.ct) && decide (r.ct ≤ 4096) && ((r.rt.length : Int) == 32) && (r.tg == 0) && (r.un == 0) && (r.nm == [])) := by
  rw [Bool.eq_iff_iff, decide_eq_true_eq]
  unfold right
  rw [fit_1 hk]
  unfold fit1
  simp only [Bool.and_eq_true, decide_eq_true_eq, beq_iff_eq]
  constructor
  · rintro ⟨_, h⟩
    obtain ⟨h1, h2, h3, h4, h5, h6⟩ := h; exact ⟨⟨⟨⟨⟨h1, h2⟩, by omega⟩, h4⟩, h5⟩, h6⟩
  · intro h
    obtain ⟨⟨⟨⟨⟨h1, h2⟩, h3⟩, h4⟩, h5⟩, h6⟩ := h; exact ⟨hl, h1, h2, by omega, h4, h5, h6⟩
theorem right_2 {r : Rec} (hl : low r) (hk : r.k = 2) : decide (right r) = (decide (aim r) && decide (RecN.due r) && (r.ct == 0) && (r.rt == []) && (r.nm == [])) := by
  rw [Bool.eq_iff_iff, decide_eq_true_eq]
  unfold right
  rw [fit_2 hk]
  unfold fit2
  simp only [Bool.and_eq_true, decide_eq_true_eq, beq_iff_eq]
  constructor
  · rintro ⟨_, h⟩
    obtain ⟨h1, h2, h3, h4, h5⟩ := h; exact ⟨⟨⟨⟨h1, h2⟩, h3⟩, h4⟩, h5⟩
  · intro h
    obtain ⟨⟨⟨⟨h1, h2⟩, h3⟩, h4⟩, h5⟩ := h; exact ⟨hl, h1, h2, h3, h4, h5⟩
theorem right_3 {r : Rec} (hl : low r) (hk : r.k = 3) : decide (right r) = (decide (aim r) && isName r.nm && (r.un == 0) && (r.ct == 0) && (r.rt == [])) := by
  rw [Bool.eq_iff_iff, decide_eq_true_eq]
  unfold right
  rw [fit_3 hk]
  unfold fit3
  simp only [Bool.and_eq_true, decide_eq_true_eq, beq_iff_eq]
  constructor
  · rintro ⟨_, h⟩
    obtain ⟨h1, h2, h3, h4, h5⟩ := h; exact ⟨⟨⟨⟨h1, h2⟩, h3⟩, h4⟩, h5⟩
  · intro h
    obtain ⟨⟨⟨⟨h1, h2⟩, h3⟩, h4⟩, h5⟩ := h; exact ⟨hl, h1, h2, h3, h4, h5⟩
theorem right_4 {r : Rec} (hl : low r) (hk : r.k = 4) : decide (right r) = (isName r.nm && (r.tg == 0) && (r.un == 0) && (r.ct == 0) && (r.rt == [])) := by
  rw [Bool.eq_iff_iff, decide_eq_true_eq]
  unfold right
  rw [fit_4 hk]
  unfold fit4
  simp only [Bool.and_eq_true, beq_iff_eq]
  constructor
  · rintro ⟨_, h⟩
    obtain ⟨h1, h2, h3, h4, h5⟩ := h; exact ⟨⟨⟨⟨h1, h2⟩, h3⟩, h4⟩, h5⟩
  · intro h
    obtain ⟨⟨⟨⟨h1, h2⟩, h3⟩, h4⟩, h5⟩ := h; exact ⟨hl, h1, h2, h3, h4, h5⟩
theorem right_5 {r : Rec} (hl : low r) (hk : r.k = 5) : decide (right r) = (decide (aim r) && decide (RecN.due r) && (r.ct == 0) && (r.rt == []) && (r.nm == [])) := by
  rw [Bool.eq_iff_iff, decide_eq_true_eq]
  unfold right
  rw [fit_5 hk]
  unfold fit2
  simp only [Bool.and_eq_true, decide_eq_true_eq, beq_iff_eq]
  constructor
  · rintro ⟨_, h⟩
    obtain ⟨h1, h2, h3, h4, h5⟩ := h; exact ⟨⟨⟨⟨h1, h2⟩, h3⟩, h4⟩, h5⟩
  · intro h
    obtain ⟨⟨⟨⟨h1, h2⟩, h3⟩, h4⟩, h5⟩ := h; exact ⟨hl, h1, h2, h3, h4, h5⟩
set_option maxRecDepth 100000 in
set_option maxHeartbeats 8000000 in
theorem Right_1 (r : Rec) (hl : low r) (hk : r.k = 1) (q : Bool) (hq : (decide (0 ≤ r.ct) && decide (r.ct ≤ 4096) && ((r.rt.length : Int) == 32) && (r.tg == 0) && (r.un == 0) && (r.nm == [])) = q) (w : World) :
    Calls Tryz.prog 78 #[.agg #[.int .i64 r.k, .int .i64 r.ep, .int .i64 r.tm, .int .i64 r.ct, .int .i64 r.tg, .int .i64 r.un, .string ⟨r.rt.toArray⟩, .string ⟨r.nm.toArray⟩]] w fun e w' => e = .returned (.bool q) ∧ Below w.heap.size w w' := by
  obtain ⟨W1, hW1⟩ : ∃ W1, W1 = w.alloc (.cells #[.int .i64 r.k, .int .i64 r.ep, .int .i64 r.tm, .int .i64 r.ct, .int .i64 r.tg, .int .i64 r.un, .string ⟨r.rt.toArray⟩, .string ⟨r.nm.toArray⟩] 82) := ⟨_, rfl⟩
  have SS : Hid (Ws w r W1) := Lib.hid (by rw [hW1]; exact ws_new w r)
  obtain ⟨k0, k1, k2, k3, k4, k5, k6, k7⟩ := SS.out.k.cells
  have hz := size_mk r.rt
  have HN := Lib.hid (fun W => RecR.Name r.nm W)
  have l1 : ¬ r.ep < 0 := by have := hl.1; omega
  have l2 : ¬ (4294967295 : Int) < r.ep := by have := hl.2.1; omega
  have l3 : ¬ r.tm < 0 := by have := hl.2.2.1; omega
  have l4 : ¬ (1099511627776 : Int) < r.tm := by have := hl.2.2.2; omega
  have t1 : (r.k == 1) = true := by rw [hk]; rfl
  clear hl hk
  go_enter Tryz.func78, Tryz.ntmps78
  go_upto_region 1 with (fail)
  rw [← hW1]
  clear hW1
  go_upto_region 3 with (fail)
  clear l1 l2 l3 l4
  go_cut [3] (fun x wx => x = .bool (decide (aim r)) ∧ W1 = wx)
  case first =>
    by_cases a1 : (0 : Int) ≤ r.tg
    · by_cases a2 : r.tg < r.ep
      · have HA : Hid (decide (aim r) = true) := Lib.hid (dt (show aim r from ⟨a1, a2⟩))
        go_wp2_with fail
        go_meet
        exact ⟨by rw [HA.out], rfl⟩
      · have HA : Hid (decide (aim r) = false) := Lib.hid (df (show ¬ aim r from fun h => a2 h.2))
        go_wp2_with fail
        go_meet
        exact ⟨by rw [HA.out], rfl⟩
    · have HA : Hid (decide (aim r) = false) := Lib.hid (df (show ¬ aim r from fun h => a1 h.1))
      go_wp2_with fail
      go_meet
      exact ⟨by rw [HA.out], rfl⟩
  case rest =>
  obtain ⟨rfl, rfl⟩ := hcut
  go_upto_region 4 with (fail)
  go_cut [4] (fun x wx => x = .bool (decide (RecN.due r)) ∧ W1 = wx)
  case first =>
    by_cases a1 : (0 : Int) ≤ r.un
    · by_cases a2 : r.un ≤ 1099511627776
      · have HA : Hid (decide (RecN.due r) = true) := Lib.hid (dt (show RecN.due r from ⟨a1, a2⟩))
        go_wp2_with fail
        go_meet
        exact ⟨by rw [HA.out], rfl⟩
      · have HA : Hid (decide (RecN.due r) = false) := Lib.hid (df (show ¬ RecN.due r from fun h => a2 h.2))
        go_wp2_with fail
        go_meet
        exact ⟨by rw [HA.out], rfl⟩
    · have HA : Hid (decide (RecN.due r) = false) := Lib.hid (df (show ¬ RecN.due r from fun h => a1 h.1))
      go_wp2_with fail
      go_meet
      exact ⟨by rw [HA.out], rfl⟩
  case rest =>
  obtain ⟨rfl, rfl⟩ := hcut
  generalize decide (aim r) = qA at *
  generalize decide (RecN.due r) = qD at *
  generalize g0 : decide (0 ≤ r.ct) = b0 at *
  generalize g1 : decide (r.ct ≤ 4096) = b1 at *
  generalize g2 : ((r.rt.length : Int) == 32) = b2 at *
  generalize g3 : (r.tg == 0) = b3 at *
  generalize g4 : (r.un == 0) = b4 at *
  generalize g5 : (r.nm == []) = b5 at *
  clear HN
  cases b0
  · obtain rfl : q = false := by rw [← hq]; rfl
    rw [decide_eq_false_iff_not] at g0
    go_wp2_with fail
    go_ret
    exact ⟨rfl, SS.out.bel⟩
  · rw [decide_eq_true_eq] at g0
    cases b1
    · obtain rfl : q = false := by rw [← hq]; rfl
      rw [decide_eq_false_iff_not] at g1
      go_wp2_with fail
      go_ret
      exact ⟨rfl, SS.out.bel⟩
    · rw [decide_eq_true_eq] at g1
      cases b2
      · obtain rfl : q = false := by rw [← hq]; rfl
        go_wp2_with fail
        go_ret
        exact ⟨rfl, SS.out.bel⟩
      · cases b3
        · obtain rfl : q = false := by rw [← hq]; rfl
          go_wp2_with fail
          go_ret
          exact ⟨rfl, SS.out.bel⟩
        · cases b4
          · obtain rfl : q = false := by rw [← hq]; rfl
            go_wp2_with fail
            go_ret
            exact ⟨rfl, SS.out.bel⟩
          · cases b5
            · obtain rfl : q = false := by rw [← hq]; rfl
              go_wp2_with fail
              go_ret
              exact ⟨rfl, SS.out.bel⟩
            · obtain rfl : q = true := by rw [← hq]; rfl
              go_wp2_with fail
              go_ret
              exact ⟨rfl, SS.out.bel⟩
set_option maxRecDepth 100000 in
set_option maxHeartbeats 8000000 in
theorem Right_2 (r : Rec) (hl : low r) (hk : r.k = 2) (q : Bool) (hq : (decide (aim r) && decide (RecN.due r) && (r.ct == 0) && (r.rt == []) && (r.nm == [])) = q) (w : World) :
    Calls Tryz.prog 78 #[.agg #[.int .i64 r.k, .int .i64 r.ep, .int .i64 r.tm, .int .i64 r.ct, .int .i64 r.tg, .int .i64 r.un, .string ⟨r.rt.toArray⟩, .string ⟨r.nm.toArray⟩]] w fun e w' => e = .returned (.bool q) ∧ Below w.heap.size w w' := by
  obtain ⟨W1, hW1⟩ : ∃ W1, W1 = w.alloc (.cells #[.int .i64 r.k, .int .i64 r.ep, .int .i64 r.tm, .int .i64 r.ct, .int .i64 r.tg, .int .i64 r.un, .string ⟨r.rt.toArray⟩, .string ⟨r.nm.toArray⟩] 82) := ⟨_, rfl⟩
  have SS : Hid (Ws w r W1) := Lib.hid (by rw [hW1]; exact ws_new w r)
  obtain ⟨k0, k1, k2, k3, k4, k5, k6, k7⟩ := SS.out.k.cells
  have hz := size_mk r.rt
  have HN := Lib.hid (fun W => RecR.Name r.nm W)
  have l1 : ¬ r.ep < 0 := by have := hl.1; omega
  have l2 : ¬ (4294967295 : Int) < r.ep := by have := hl.2.1; omega
  have l3 : ¬ r.tm < 0 := by have := hl.2.2.1; omega
  have l4 : ¬ (1099511627776 : Int) < r.tm := by have := hl.2.2.2; omega
  have t1 : (r.k == 1) = false := by rw [hk]; rfl
  have t2 : (r.k == 2) = true := by rw [hk]; rfl
  clear hl hk
  go_enter Tryz.func78, Tryz.ntmps78
  go_upto_region 1 with (fail)
  rw [← hW1]
  clear hW1
  go_upto_region 3 with (fail)
  clear l1 l2 l3 l4
  go_cut [3] (fun x wx => x = .bool (decide (aim r)) ∧ W1 = wx)
  case first =>
    by_cases a1 : (0 : Int) ≤ r.tg
    · by_cases a2 : r.tg < r.ep
      · have HA : Hid (decide (aim r) = true) := Lib.hid (dt (show aim r from ⟨a1, a2⟩))
        go_wp2_with fail
        go_meet
        exact ⟨by rw [HA.out], rfl⟩
      · have HA : Hid (decide (aim r) = false) := Lib.hid (df (show ¬ aim r from fun h => a2 h.2))
        go_wp2_with fail
        go_meet
        exact ⟨by rw [HA.out], rfl⟩
    · have HA : Hid (decide (aim r) = false) := Lib.hid (df (show ¬ aim r from fun h => a1 h.1))
      go_wp2_with fail
      go_meet
      exact ⟨by rw [HA.out], rfl⟩
  case rest =>
  obtain ⟨rfl, rfl⟩ := hcut
  go_upto_region 4 with (fail)
  go_cut [4] (fun x wx => x = .bool (decide (RecN.due r)) ∧ W1 = wx)
  case first =>
    by_cases a1 : (0 : Int) ≤ r.un
    · by_cases a2 : r.un ≤ 1099511627776
      · have HA : Hid (decide (RecN.due r) = true) := Lib.hid (dt (show RecN.due r from ⟨a1, a2⟩))
        go_wp2_with fail
        go_meet
        exact ⟨by rw [HA.out], rfl⟩
      · have HA : Hid (decide (RecN.due r) = false) := Lib.hid (df (show ¬ RecN.due r from fun h => a2 h.2))
        go_wp2_with fail
        go_meet
        exact ⟨by rw [HA.out], rfl⟩
    · have HA : Hid (decide (RecN.due r) = false) := Lib.hid (df (show ¬ RecN.due r from fun h => a1 h.1))
      go_wp2_with fail
      go_meet
      exact ⟨by rw [HA.out], rfl⟩
  case rest =>
  obtain ⟨rfl, rfl⟩ := hcut
  generalize decide (aim r) = qA at *
  generalize decide (RecN.due r) = qD at *
  generalize g2 : (r.ct == 0) = b2 at *
  generalize g3 : (r.rt == []) = b3 at *
  generalize g4 : (r.nm == []) = b4 at *
  clear HN
  cases qA
  · obtain rfl : q = false := by rw [← hq]; rfl
    go_wp2_with fail
    go_ret
    exact ⟨rfl, SS.out.bel⟩
  · cases qD
    · obtain rfl : q = false := by rw [← hq]; rfl
      go_wp2_with fail
      go_ret
      exact ⟨rfl, SS.out.bel⟩
    · cases b2
      · obtain rfl : q = false := by rw [← hq]; rfl
        go_wp2_with fail
        go_ret
        exact ⟨rfl, SS.out.bel⟩
      · cases b3
        · obtain rfl : q = false := by rw [← hq]; rfl
          go_wp2_with fail
          go_ret
          exact ⟨rfl, SS.out.bel⟩
        · cases b4
          · obtain rfl : q = false := by rw [← hq]; rfl
            go_wp2_with fail
            go_ret
            exact ⟨rfl, SS.out.bel⟩
          · obtain rfl : q = true := by rw [← hq]; rfl
            go_wp2_with fail
            go_ret
            exact ⟨rfl, SS.out.bel⟩
set_option maxRecDepth 100000 in
set_option maxHeartbeats 8000000 in
theorem Right_5 (r : Rec) (hl : low r) (hk : r.k = 5) (q : Bool) (hq : (decide (aim r) && decide (RecN.due r) && (r.ct == 0) && (r.rt == []) && (r.nm == [])) = q) (w : World) :
    Calls Tryz.prog 78 #[.agg #[.int .i64 r.k, .int .i64 r.ep, .int .i64 r.tm, .int .i64 r.ct, .int .i64 r.tg, .int .i64 r.un, .string ⟨r.rt.toArray⟩, .string ⟨r.nm.toArray⟩]] w fun e w' => e = .returned (.bool q) ∧ Below w.heap.size w w' := by
  obtain ⟨W1, hW1⟩ : ∃ W1, W1 = w.alloc (.cells #[.int .i64 r.k, .int .i64 r.ep, .int .i64 r.tm, .int .i64 r.ct, .int .i64 r.tg, .int .i64 r.un, .string ⟨r.rt.toArray⟩, .string ⟨r.nm.toArray⟩] 82) := ⟨_, rfl⟩
  have SS : Hid (Ws w r W1) := Lib.hid (by rw [hW1]; exact ws_new w r)
  obtain ⟨k0, k1, k2, k3, k4, k5, k6, k7⟩ := SS.out.k.cells
  have hz := size_mk r.rt
  have HN := Lib.hid (fun W => RecR.Name r.nm W)
  have l1 : ¬ r.ep < 0 := by have := hl.1; omega
  have l2 : ¬ (4294967295 : Int) < r.ep := by have := hl.2.1; omega
  have l3 : ¬ r.tm < 0 := by have := hl.2.2.1; omega
  have l4 : ¬ (1099511627776 : Int) < r.tm := by have := hl.2.2.2; omega
  have t1 : (r.k == 1) = false := by rw [hk]; rfl
  have t2 : (r.k == 2) = false := by rw [hk]; rfl
  have t5 : (r.k == 5) = true := by rw [hk]; rfl
  clear hl hk
  go_enter Tryz.func78, Tryz.ntmps78
  go_upto_region 1 with (fail)
  rw [← hW1]
  clear hW1
  go_upto_region 3 with (fail)
  clear l1 l2 l3 l4
  go_cut [3] (fun x wx => x = .bool (decide (aim r)) ∧ W1 = wx)
  case first =>
    by_cases a1 : (0 : Int) ≤ r.tg
    · by_cases a2 : r.tg < r.ep
      · have HA : Hid (decide (aim r) = true) := Lib.hid (dt (show aim r from ⟨a1, a2⟩))
        go_wp2_with fail
        go_meet
        exact ⟨by rw [HA.out], rfl⟩
      · have HA : Hid (decide (aim r) = false) := Lib.hid (df (show ¬ aim r from fun h => a2 h.2))
        go_wp2_with fail
        go_meet
        exact ⟨by rw [HA.out], rfl⟩
    · have HA : Hid (decide (aim r) = false) := Lib.hid (df (show ¬ aim r from fun h => a1 h.1))
      go_wp2_with fail
      go_meet
      exact ⟨by rw [HA.out], rfl⟩
  case rest =>
  obtain ⟨rfl, rfl⟩ := hcut
  go_upto_region 4 with (fail)
  go_cut [4] (fun x wx => x = .bool (decide (RecN.due r)) ∧ W1 = wx)
  case first =>
    by_cases a1 : (0 : Int) ≤ r.un
    · by_cases a2 : r.un ≤ 1099511627776
      · have HA : Hid (decide (RecN.due r) = true) := Lib.hid (dt (show RecN.due r from ⟨a1, a2⟩))
        go_wp2_with fail
        go_meet
        exact ⟨by rw [HA.out], rfl⟩
      · have HA : Hid (decide (RecN.due r) = false) := Lib.hid (df (show ¬ RecN.due r from fun h => a2 h.2))
        go_wp2_with fail
        go_meet
        exact ⟨by rw [HA.out], rfl⟩
    · have HA : Hid (decide (RecN.due r) = false) := Lib.hid (df (show ¬ RecN.due r from fun h => a1 h.1))
      go_wp2_with fail
      go_meet
      exact ⟨by rw [HA.out], rfl⟩
  case rest =>
  obtain ⟨rfl, rfl⟩ := hcut
  generalize decide (aim r) = qA at *
  generalize decide (RecN.due r) = qD at *
  generalize g2 : (r.ct == 0) = b2 at *
  generalize g3 : (r.rt == []) = b3 at *
  generalize g4 : (r.nm == []) = b4 at *
  clear HN
  cases qA
  · obtain rfl : q = false := by rw [← hq]; rfl
    go_wp2_with fail
    go_ret
    exact ⟨rfl, SS.out.bel⟩
  · cases qD
    · obtain rfl : q = false := by rw [← hq]; rfl
      go_wp2_with fail
      go_ret
      exact ⟨rfl, SS.out.bel⟩
    · cases b2
      · obtain rfl : q = false := by rw [← hq]; rfl
        go_wp2_with fail
        go_ret
        exact ⟨rfl, SS.out.bel⟩
      · cases b3
        · obtain rfl : q = false := by rw [← hq]; rfl
          go_wp2_with fail
          go_ret
          exact ⟨rfl, SS.out.bel⟩
        · cases b4
          · obtain rfl : q = false := by rw [← hq]; rfl
            go_wp2_with fail
            go_ret
            exact ⟨rfl, SS.out.bel⟩
          · obtain rfl : q = true := by rw [← hq]; rfl
            go_wp2_with fail
            go_ret
            exact ⟨rfl, SS.out.bel⟩
set_option maxRecDepth 100000 in
set_option maxHeartbeats 8000000 in
theorem Right_3 (r : Rec) (hl : low r) (hk : r.k = 3) (q : Bool) (hq : (decide (aim r) && isName r.nm && (r.un == 0) && (r.ct == 0) && (r.rt == [])) = q) (w : World) :
    Calls Tryz.prog 78 #[.agg #[.int .i64 r.k, .int .i64 r.ep, .int .i64 r.tm, .int .i64 r.ct, .int .i64 r.tg, .int .i64 r.un, .string ⟨r.rt.toArray⟩, .string ⟨r.nm.toArray⟩]] w fun e w' => e = .returned (.bool q) ∧ Below w.heap.size w w' := by
  obtain ⟨W1, hW1⟩ : ∃ W1, W1 = w.alloc (.cells #[.int .i64 r.k, .int .i64 r.ep, .int .i64 r.tm, .int .i64 r.ct, .int .i64 r.tg, .int .i64 r.un, .string ⟨r.rt.toArray⟩, .string ⟨r.nm.toArray⟩] 82) := ⟨_, rfl⟩
  have SS : Hid (Ws w r W1) := Lib.hid (by rw [hW1]; exact ws_new w r)
  obtain ⟨k0, k1, k2, k3, k4, k5, k6, k7⟩ := SS.out.k.cells
  have hz := size_mk r.rt
  have HN := Lib.hid (fun W => RecR.Name r.nm W)
  have l1 : ¬ r.ep < 0 := by have := hl.1; omega
  have l2 : ¬ (4294967295 : Int) < r.ep := by have := hl.2.1; omega
  have l3 : ¬ r.tm < 0 := by have := hl.2.2.1; omega
  have l4 : ¬ (1099511627776 : Int) < r.tm := by have := hl.2.2.2; omega
  have t1 : (r.k == 1) = false := by rw [hk]; rfl
  have t2 : (r.k == 2) = false := by rw [hk]; rfl
  have t5 : (r.k == 5) = false := by rw [hk]; rfl
  have t3 : (r.k == 3) = true := by rw [hk]; rfl
  clear hl hk
  go_enter Tryz.func78, Tryz.ntmps78
  go_upto_region 1 with (fail)
  rw [← hW1]
  clear hW1
  go_upto_region 3 with (fail)
  clear l1 l2 l3 l4
  go_cut [3] (fun x wx => x = .bool (decide (aim r)) ∧ W1 = wx)
  case first =>
    by_cases a1 : (0 : Int) ≤ r.tg
    · by_cases a2 : r.tg < r.ep
      · have HA : Hid (decide (aim r) = true) := Lib.hid (dt (show aim r from ⟨a1, a2⟩))
        go_wp2_with fail
        go_meet
        exact ⟨by rw [HA.out], rfl⟩
      · have HA : Hid (decide (aim r) = false) := Lib.hid (df (show ¬ aim r from fun h => a2 h.2))
        go_wp2_with fail
        go_meet
        exact ⟨by rw [HA.out], rfl⟩
    · have HA : Hid (decide (aim r) = false) := Lib.hid (df (show ¬ aim r from fun h => a1 h.1))
      go_wp2_with fail
      go_meet
      exact ⟨by rw [HA.out], rfl⟩
  case rest =>
  obtain ⟨rfl, rfl⟩ := hcut
  go_upto_region 4 with (fail)
  go_cut [4] (fun x wx => x = .bool (decide (RecN.due r)) ∧ W1 = wx)
  case first =>
    by_cases a1 : (0 : Int) ≤ r.un
    · by_cases a2 : r.un ≤ 1099511627776
      · have HA : Hid (decide (RecN.due r) = true) := Lib.hid (dt (show RecN.due r from ⟨a1, a2⟩))
        go_wp2_with fail
        go_meet
        exact ⟨by rw [HA.out], rfl⟩
      · have HA : Hid (decide (RecN.due r) = false) := Lib.hid (df (show ¬ RecN.due r from fun h => a2 h.2))
        go_wp2_with fail
        go_meet
        exact ⟨by rw [HA.out], rfl⟩
    · have HA : Hid (decide (RecN.due r) = false) := Lib.hid (df (show ¬ RecN.due r from fun h => a1 h.1))
      go_wp2_with fail
      go_meet
      exact ⟨by rw [HA.out], rfl⟩
  case rest =>
  obtain ⟨rfl, rfl⟩ := hcut
  generalize decide (aim r) = qA at *
  generalize decide (RecN.due r) = qD at *
  generalize isName r.nm = qN at *
  generalize g2 : (r.un == 0) = b2 at *
  generalize g3 : (r.ct == 0) = b3 at *
  generalize g4 : (r.rt == []) = b4 at *
  cases qA
  · obtain rfl : q = false := by rw [← hq]; rfl
    go_wp2_with ((go_at_call 55; refine (HN.out _).mono ?_; rintro e _ ⟨rfl, rfl⟩; clear HN))
    go_ret
    exact ⟨rfl, SS.out.bel⟩
  · cases qN
    · obtain rfl : q = false := by rw [← hq]; rfl
      go_wp2_with ((go_at_call 55; refine (HN.out _).mono ?_; rintro e _ ⟨rfl, rfl⟩; clear HN))
      go_ret
      exact ⟨rfl, SS.out.bel⟩
    · cases b2
      · obtain rfl : q = false := by rw [← hq]; rfl
        go_wp2_with ((go_at_call 55; refine (HN.out _).mono ?_; rintro e _ ⟨rfl, rfl⟩; clear HN))
        go_ret
        exact ⟨rfl, SS.out.bel⟩
      · cases b3
        · obtain rfl : q = false := by rw [← hq]; rfl
          go_wp2_with ((go_at_call 55; refine (HN.out _).mono ?_; rintro e _ ⟨rfl, rfl⟩; clear HN))
          go_ret
          exact ⟨rfl, SS.out.bel⟩
        · cases b4
          · obtain rfl : q = false := by rw [← hq]; rfl
            go_wp2_with ((go_at_call 55; refine (HN.out _).mono ?_; rintro e _ ⟨rfl, rfl⟩; clear HN))
            go_ret
            exact ⟨rfl, SS.out.bel⟩
          · obtain rfl : q = true := by rw [← hq]; rfl
            go_wp2_with ((go_at_call 55; refine (HN.out _).mono ?_; rintro e _ ⟨rfl, rfl⟩; clear HN))
            go_ret
            exact ⟨rfl, SS.out.bel⟩
set_option maxRecDepth 100000 in
set_option maxHeartbeats 8000000 in
theorem Right_4 (r : Rec) (hl : low r) (hk : r.k = 4) (q : Bool) (hq : (isName r.nm && (r.tg == 0) && (r.un == 0) && (r.ct == 0) && (r.rt == [])) = q) (w : World) :
    Calls Tryz.prog 78 #[.agg #[.int .i64 r.k, .int .i64 r.ep, .int .i64 r.tm, .int .i64 r.ct, .int .i64 r.tg, .int .i64 r.un, .string ⟨r.rt.toArray⟩, .string ⟨r.nm.toArray⟩]] w fun e w' => e = .returned (.bool q) ∧ Below w.heap.size w w' := by
  obtain ⟨W1, hW1⟩ : ∃ W1, W1 = w.alloc (.cells #[.int .i64 r.k, .int .i64 r.ep, .int .i64 r.tm, .int .i64 r.ct, .int .i64 r.tg, .int .i64 r.un, .string ⟨r.rt.toArray⟩, .string ⟨r.nm.toArray⟩] 82) := ⟨_, rfl⟩
  have SS : Hid (Ws w r W1) := Lib.hid (by rw [hW1]; exact ws_new w r)
  obtain ⟨k0, k1, k2, k3, k4, k5, k6, k7⟩ := SS.out.k.cells
  have hz := size_mk r.rt
  have HN := Lib.hid (fun W => RecR.Name r.nm W)
  have l1 : ¬ r.ep < 0 := by have := hl.1; omega
  have l2 : ¬ (4294967295 : Int) < r.ep := by have := hl.2.1; omega
  have l3 : ¬ r.tm < 0 := by have := hl.2.2.1; omega
  have l4 : ¬ (1099511627776 : Int) < r.tm := by have := hl.2.2.2; omega
  have t1 : (r.k == 1) = false := by rw [hk]; rfl
  have t2 : (r.k == 2) = false := by rw [hk]; rfl
  have t5 : (r.k == 5) = false := by rw [hk]; rfl
  have t3 : (r.k == 3) = false := by rw [hk]; rfl
  have t4 : (r.k == 4) = true := by rw [hk]; rfl
  clear hl hk
  go_enter Tryz.func78, Tryz.ntmps78
  go_upto_region 1 with (fail)
  rw [← hW1]
  clear hW1
  go_upto_region 3 with (fail)
  clear l1 l2 l3 l4
  go_cut [3] (fun x wx => x = .bool (decide (aim r)) ∧ W1 = wx)
  case first =>
    by_cases a1 : (0 : Int) ≤ r.tg
    · by_cases a2 : r.tg < r.ep
      · have HA : Hid (decide (aim r) = true) := Lib.hid (dt (show aim r from ⟨a1, a2⟩))
        go_wp2_with fail
        go_meet
        exact ⟨by rw [HA.out], rfl⟩
      · have HA : Hid (decide (aim r) = false) := Lib.hid (df (show ¬ aim r from fun h => a2 h.2))
        go_wp2_with fail
        go_meet
        exact ⟨by rw [HA.out], rfl⟩
    · have HA : Hid (decide (aim r) = false) := Lib.hid (df (show ¬ aim r from fun h => a1 h.1))
      go_wp2_with fail
      go_meet
      exact ⟨by rw [HA.out], rfl⟩
  case rest =>
  obtain ⟨rfl, rfl⟩ := hcut
  go_upto_region 4 with (fail)
  go_cut [4] (fun x wx => x = .bool (decide (RecN.due r)) ∧ W1 = wx)
  case first =>
    by_cases a1 : (0 : Int) ≤ r.un
    · by_cases a2 : r.un ≤ 1099511627776
      · have HA : Hid (decide (RecN.due r) = true) := Lib.hid (dt (show RecN.due r from ⟨a1, a2⟩))
        go_wp2_with fail
        go_meet
        exact ⟨by rw [HA.out], rfl⟩
      · have HA : Hid (decide (RecN.due r) = false) := Lib.hid (df (show ¬ RecN.due r from fun h => a2 h.2))
        go_wp2_with fail
        go_meet
        exact ⟨by rw [HA.out], rfl⟩
    · have HA : Hid (decide (RecN.due r) = false) := Lib.hid (df (show ¬ RecN.due r from fun h => a1 h.1))
      go_wp2_with fail
      go_meet
      exact ⟨by rw [HA.out], rfl⟩
  case rest =>
  obtain ⟨rfl, rfl⟩ := hcut
  generalize decide (aim r) = qA at *
  generalize decide (RecN.due r) = qD at *
  generalize isName r.nm = qN at *
  generalize g1 : (r.tg == 0) = b1 at *
  generalize g2 : (r.un == 0) = b2 at *
  generalize g3 : (r.ct == 0) = b3 at *
  generalize g4 : (r.rt == []) = b4 at *
  cases qN
  · obtain rfl : q = false := by rw [← hq]; rfl
    go_wp2_with ((go_at_call 55; refine (HN.out _).mono ?_; rintro e _ ⟨rfl, rfl⟩; clear HN))
    go_ret
    exact ⟨rfl, SS.out.bel⟩
  · cases b1
    · obtain rfl : q = false := by rw [← hq]; rfl
      go_wp2_with ((go_at_call 55; refine (HN.out _).mono ?_; rintro e _ ⟨rfl, rfl⟩; clear HN))
      go_ret
      exact ⟨rfl, SS.out.bel⟩
    · cases b2
      · obtain rfl : q = false := by rw [← hq]; rfl
        go_wp2_with ((go_at_call 55; refine (HN.out _).mono ?_; rintro e _ ⟨rfl, rfl⟩; clear HN))
        go_ret
        exact ⟨rfl, SS.out.bel⟩
      · cases b3
        · obtain rfl : q = false := by rw [← hq]; rfl
          go_wp2_with ((go_at_call 55; refine (HN.out _).mono ?_; rintro e _ ⟨rfl, rfl⟩; clear HN))
          go_ret
          exact ⟨rfl, SS.out.bel⟩
        · cases b4
          · obtain rfl : q = false := by rw [← hq]; rfl
            go_wp2_with ((go_at_call 55; refine (HN.out _).mono ?_; rintro e _ ⟨rfl, rfl⟩; clear HN))
            go_ret
            exact ⟨rfl, SS.out.bel⟩
          · obtain rfl : q = true := by rw [← hq]; rfl
            go_wp2_with ((go_at_call 55; refine (HN.out _).mono ?_; rintro e _ ⟨rfl, rfl⟩; clear HN))
            go_ret
            exact ⟨rfl, SS.out.bel⟩
set_option maxRecDepth 100000 in
set_option maxHeartbeats 8000000 in
theorem Right_0 (r : Rec) (hl : low r) (hk : r.k ≠ 1 ∧ r.k ≠ 2 ∧ r.k ≠ 3 ∧ r.k ≠ 4 ∧ r.k ≠ 5) (w : World) :
    Calls Tryz.prog 78 #[.agg #[.int .i64 r.k, .int .i64 r.ep, .int .i64 r.tm, .int .i64 r.ct, .int .i64 r.tg, .int .i64 r.un, .string ⟨r.rt.toArray⟩, .string ⟨r.nm.toArray⟩]] w fun e w' => e = .returned (.bool false) ∧ Below w.heap.size w w' := by
  obtain ⟨W1, hW1⟩ : ∃ W1, W1 = w.alloc (.cells #[.int .i64 r.k, .int .i64 r.ep, .int .i64 r.tm, .int .i64 r.ct, .int .i64 r.tg, .int .i64 r.un, .string ⟨r.rt.toArray⟩, .string ⟨r.nm.toArray⟩] 82) := ⟨_, rfl⟩
  have SS : Hid (Ws w r W1) := Lib.hid (by rw [hW1]; exact ws_new w r)
  obtain ⟨k0, k1, k2, k3, k4, k5, k6, k7⟩ := SS.out.k.cells
  have hz := size_mk r.rt
  have HN := Lib.hid (fun W => RecR.Name r.nm W)
  have l1 : ¬ r.ep < 0 := by have := hl.1; omega
  have l2 : ¬ (4294967295 : Int) < r.ep := by have := hl.2.1; omega
  have l3 : ¬ r.tm < 0 := by have := hl.2.2.1; omega
  have l4 : ¬ (1099511627776 : Int) < r.tm := by have := hl.2.2.2; omega
  have t1 : (r.k == 1) = false := by rw [beq_eq_false_iff_ne]; omega
  have t2 : (r.k == 2) = false := by rw [beq_eq_false_iff_ne]; omega
  have t5 : (r.k == 5) = false := by rw [beq_eq_false_iff_ne]; omega
  have t3 : (r.k == 3) = false := by rw [beq_eq_false_iff_ne]; omega
  have t4 : (r.k == 4) = false := by rw [beq_eq_false_iff_ne]; omega
  clear hl  hk
  go_enter Tryz.func78, Tryz.ntmps78
  go_upto_region 1 with (fail)
  rw [← hW1]
  clear hW1
  go_upto_region 3 with (fail)
  clear l1 l2 l3 l4
  go_cut [3] (fun x wx => x = .bool (decide (aim r)) ∧ W1 = wx)
  case first =>
    by_cases a1 : (0 : Int) ≤ r.tg
    · by_cases a2 : r.tg < r.ep
      · have HA : Hid (decide (aim r) = true) := Lib.hid (dt (show aim r from ⟨a1, a2⟩))
        go_wp2_with fail
        go_meet
        exact ⟨by rw [HA.out], rfl⟩
      · have HA : Hid (decide (aim r) = false) := Lib.hid (df (show ¬ aim r from fun h => a2 h.2))
        go_wp2_with fail
        go_meet
        exact ⟨by rw [HA.out], rfl⟩
    · have HA : Hid (decide (aim r) = false) := Lib.hid (df (show ¬ aim r from fun h => a1 h.1))
      go_wp2_with fail
      go_meet
      exact ⟨by rw [HA.out], rfl⟩
  case rest =>
  obtain ⟨rfl, rfl⟩ := hcut
  go_upto_region 4 with (fail)
  go_cut [4] (fun x wx => x = .bool (decide (RecN.due r)) ∧ W1 = wx)
  case first =>
    by_cases a1 : (0 : Int) ≤ r.un
    · by_cases a2 : r.un ≤ 1099511627776
      · have HA : Hid (decide (RecN.due r) = true) := Lib.hid (dt (show RecN.due r from ⟨a1, a2⟩))
        go_wp2_with fail
        go_meet
        exact ⟨by rw [HA.out], rfl⟩
      · have HA : Hid (decide (RecN.due r) = false) := Lib.hid (df (show ¬ RecN.due r from fun h => a2 h.2))
        go_wp2_with fail
        go_meet
        exact ⟨by rw [HA.out], rfl⟩
    · have HA : Hid (decide (RecN.due r) = false) := Lib.hid (df (show ¬ RecN.due r from fun h => a1 h.1))
      go_wp2_with fail
      go_meet
      exact ⟨by rw [HA.out], rfl⟩
  case rest =>
  obtain ⟨rfl, rfl⟩ := hcut
  generalize decide (aim r) = qA at *
  generalize decide (RecN.due r) = qD at *
  clear HN
  go_wp2_with fail
  go_ret
  exact ⟨rfl, SS.out.bel⟩
set_option maxRecDepth 100000 in
theorem Right_low (r : Rec) (hl : ¬ low r) (w : World) :
    Calls Tryz.prog 78 #[.agg #[.int .i64 r.k, .int .i64 r.ep, .int .i64 r.tm, .int .i64 r.ct, .int .i64 r.tg, .int .i64 r.un, .string ⟨r.rt.toArray⟩, .string ⟨r.nm.toArray⟩]] w fun e w' => e = .returned (.bool false) ∧ Below w.heap.size w w' := by
  obtain ⟨W1, hW1⟩ : ∃ W1, W1 = w.alloc (.cells #[.int .i64 r.k, .int .i64 r.ep, .int .i64 r.tm, .int .i64 r.ct, .int .i64 r.tg, .int .i64 r.un, .string ⟨r.rt.toArray⟩, .string ⟨r.nm.toArray⟩] 82) := ⟨_, rfl⟩
  have SS : Hid (Ws w r W1) := Lib.hid (by rw [hW1]; exact ws_new w r)
  obtain ⟨k0, k1, k2, k3, k4, k5, k6, k7⟩ := SS.out.k.cells
  go_enter Tryz.func78, Tryz.ntmps78
  go_upto_region 1 with (fail)
  rw [← hW1]
  clear hW1
  by_cases l1 : r.ep < 0
  · clear hl
    go_wp2_with fail
    go_ret
    exact ⟨rfl, SS.out.bel⟩
  by_cases l2 : (4294967295 : Int) < r.ep
  · clear hl
    go_wp2_with fail
    go_ret
    exact ⟨rfl, SS.out.bel⟩
  by_cases l3 : r.tm < 0
  · clear hl
    go_wp2_with fail
    go_ret
    exact ⟨rfl, SS.out.bel⟩
  have l4 : (1099511627776 : Int) < r.tm := by
    refine Int.not_le.1 (fun hh => hl ⟨?_, ?_, ?_, hh⟩) <;> omega
  clear hl
  go_wp2_with fail
  go_ret
  exact ⟨rfl, SS.out.bel⟩
/-- What the document's Right answers. -/
theorem Right (r : Rec) (w : World) :
    Calls Tryz.prog 78 #[.agg #[.int .i64 r.k, .int .i64 r.ep, .int .i64 r.tm, .int .i64 r.ct, .int .i64 r.tg, .int .i64 r.un, .string ⟨r.rt.toArray⟩, .string ⟨r.nm.toArray⟩]] w fun e w' => e = .returned (.bool (decide (right r))) ∧ Below w.heap.size w w' := by
  by_cases hl : low r
  · by_cases h1 : r.k = 1
    · exact Right_1 r hl h1 _ (right_1 hl h1).symm w
    by_cases h2 : r.k = 2
    · exact Right_2 r hl h2 _ (right_2 hl h2).symm w
    by_cases h5 : r.k = 5
    · exact Right_5 r hl h5 _ (right_5 hl h5).symm w
    by_cases h3 : r.k = 3
    · exact Right_3 r hl h3 _ (right_3 hl h3).symm w
    by_cases h4 : r.k = 4
    · exact Right_4 r hl h4 _ (right_4 hl h4).symm w
    have h0 : r.k ≠ 1 ∧ r.k ≠ 2 ∧ r.k ≠ 3 ∧ r.k ≠ 4 ∧ r.k ≠ 5 := ⟨h1, h2, h3, h4, h5⟩
    rw [df (fun h : right r => fit_0 h0 h.2)]
    exact Right_0 r hl h0 w
  · rw [df (fun h : right r => hl h.1)]
    exact Right_low r hl w
end Go.Proofs.YtopnodkdpehdoaaGreatDoor.RecZ
