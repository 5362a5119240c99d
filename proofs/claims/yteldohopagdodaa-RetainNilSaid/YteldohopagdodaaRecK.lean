/- record.may, record.Check: the walks of their texts. No conditions. -/
import Derived.Test.YteldohopagdodaaRecS
import Derived.Deep.RegionHeld3
namespace Go.Proofs.Yteldohopagdodaa.RecK
open Go.RowKit
open RecN RecC RecM RecP RecS
set_option maxRecDepth 100000 in
theorem may_low (r : Rec) (hl : ¬ low r) (w : World) :
    Calls Try.prog 46 #[.agg #[.int .i64 r.k, .int .i64 r.ep, .int .i64 r.tm, .int .i64 r.ct, .int .i64 r.tg, .int .i64 r.un, .string ⟨r.rt.toArray⟩, .string ⟨r.nm.toArray⟩]] w fun e w' => e = .returned (.bool false) ∧ Below w.heap.size w w' := by
  obtain ⟨W1, hW1⟩ : ∃ W1, W1 = w.alloc (.cells #[.int .i64 r.k, .int .i64 r.ep, .int .i64 r.tm, .int .i64 r.ct, .int .i64 r.tg, .int .i64 r.un, .string ⟨r.rt.toArray⟩, .string ⟨r.nm.toArray⟩] 30) := ⟨_, rfl⟩
  have SS : Hid (Ws w r W1) := Lib.hid (by rw [hW1]; exact ws_new w r)
  obtain ⟨k0, k1, k2, k3, k4, k5, k6, k7⟩ := SS.out.k.cells
  have HE := Lib.hid (fun W => within r.ep 4294967295 W)
  have HM := Lib.hid (fun W => within r.tm 1099511627776 W)
  have hq : ins r.ep 4294967295 = false ∨ (ins r.ep 4294967295 = true ∧ ins r.tm 1099511627776 = false) := by
    cases he : ins r.ep 4294967295
    · exact .inl rfl
    · refine .inr ⟨rfl, ?_⟩
      rw [Bool.eq_false_iff]
      intro hm
      have h1 := of_decide_eq_true he
      have h2 := of_decide_eq_true hm
      exact hl ⟨h1.1, h1.2, h2.1, h2.2⟩
  clear hl
  go_enter Try.func46, Try.ntmps46
  go_upto_region 1 with (fail)
  rw [← hW1]
  clear hW1
  rcases hq with hq | ⟨hq, hm⟩
  · rw [hq] at HE
    clear hq
    go_wp2_with (first
      | (go_at_call 61; refine (HE.out _).mono ?_; rintro e _ ⟨rfl, rfl⟩; clear HE)
      | (go_at_call 61; refine (HM.out _).mono ?_; rintro e _ ⟨rfl, rfl⟩; clear HM))
    go_ret
    exact ⟨rfl, SS.out.bel⟩
  · rw [hq] at HE
    rw [hm] at HM
    clear hq hm
    go_wp2_with (first
      | (go_at_call 61; refine (HE.out _).mono ?_; rintro e _ ⟨rfl, rfl⟩; clear HE)
      | (go_at_call 61; refine (HM.out _).mono ?_; rintro e _ ⟨rfl, rfl⟩; clear HM))
    go_ret
    exact ⟨rfl, SS.out.bel⟩
set_option maxRecDepth 100000 in
theorem may_0 (r : Rec) (hl : low r) (hk : r.k ≠ 1 ∧ r.k ≠ 2 ∧ r.k ≠ 3 ∧ r.k ≠ 4 ∧ r.k ≠ 5) (w : World) :
    Calls Try.prog 46 #[.agg #[.int .i64 r.k, .int .i64 r.ep, .int .i64 r.tm, .int .i64 r.ct, .int .i64 r.tg, .int .i64 r.un, .string ⟨r.rt.toArray⟩, .string ⟨r.nm.toArray⟩]] w fun e w' => e = .returned (.bool false) ∧ Below w.heap.size w w' := by
  obtain ⟨W1, hW1⟩ : ∃ W1, W1 = w.alloc (.cells #[.int .i64 r.k, .int .i64 r.ep, .int .i64 r.tm, .int .i64 r.ct, .int .i64 r.tg, .int .i64 r.un, .string ⟨r.rt.toArray⟩, .string ⟨r.nm.toArray⟩] 30) := ⟨_, rfl⟩
  have SS : Hid (Ws w r W1) := Lib.hid (by rw [hW1]; exact ws_new w r)
  have hz := size_mk r.rt
  obtain ⟨k0, k1, k2, k3, k4, k5, k6, k7⟩ := SS.out.k.cells
  have HE := Lib.hid (fun W => within r.ep 4294967295 W)
  have HM := Lib.hid (fun W => within r.tm 1099511627776 W)
  rw [ins_yes hl.1 hl.2.1] at HE
  rw [ins_yes hl.2.2.1 hl.2.2.2] at HM
  have t1 : (r.k == 1) = false := by rw [beq_eq_false_iff_ne]; omega
  have t2 : (r.k == 2) = false := by rw [beq_eq_false_iff_ne]; omega
  have t5 : (r.k == 5) = false := by rw [beq_eq_false_iff_ne]; omega
  have t3 : (r.k == 3) = false := by rw [beq_eq_false_iff_ne]; omega
  have t4 : (r.k == 4) = false := by rw [beq_eq_false_iff_ne]; omega
  clear hl hk
  go_enter Try.func46, Try.ntmps46
  go_upto_region 1 with (fail)
  rw [← hW1]
  clear hW1
  go_wp2_with (first
      | (go_at_call 61; refine (HE.out _).mono ?_; rintro e _ ⟨rfl, rfl⟩; clear HE)
      | (go_at_call 61; refine (HM.out _).mono ?_; rintro e _ ⟨rfl, rfl⟩; clear HM))
  go_ret
  exact ⟨rfl, SS.out.bel⟩
set_option maxRecDepth 100000 in
theorem may_1 (r : Rec) (hl : low r) (hk : r.k = 1) (w : World) :
    Calls Try.prog 46 #[.agg #[.int .i64 r.k, .int .i64 r.ep, .int .i64 r.tm, .int .i64 r.ct, .int .i64 r.tg, .int .i64 r.un, .string ⟨r.rt.toArray⟩, .string ⟨r.nm.toArray⟩]] w fun e w' => e = .returned (.bool (ins r.ct 4096 && decide (r.rt.length = 32))) ∧ Below w.heap.size w w' := by
  obtain ⟨W1, hW1⟩ : ∃ W1, W1 = w.alloc (.cells #[.int .i64 r.k, .int .i64 r.ep, .int .i64 r.tm, .int .i64 r.ct, .int .i64 r.tg, .int .i64 r.un, .string ⟨r.rt.toArray⟩, .string ⟨r.nm.toArray⟩] 30) := ⟨_, rfl⟩
  have SS : Hid (Ws w r W1) := Lib.hid (by rw [hW1]; exact ws_new w r)
  have hz := size_mk r.rt
  obtain ⟨k0, k1, k2, k3, k4, k5, k6, k7⟩ := SS.out.k.cells
  have HE := Lib.hid (fun W => within r.ep 4294967295 W)
  have HM := Lib.hid (fun W => within r.tm 1099511627776 W)
  rw [ins_yes hl.1 hl.2.1] at HE
  rw [ins_yes hl.2.2.1 hl.2.2.2] at HM
  have t1 : (r.k == 1) = true := by rw [hk]; rfl
  have HC := Lib.hid (fun W => within r.ct 4096 W)
  have t0 : ((r.rt.length : Int) == 32) = decide (r.rt.length = 32) := by
    rw [Bool.eq_iff_iff, beq_iff_eq, decide_eq_true_eq]
    omega
  generalize ins r.ct 4096 = q1 at *
  generalize decide (r.rt.length = 32) = q2 at *
  clear hl hk
  go_enter Try.func46, Try.ntmps46
  go_upto_region 1 with (fail)
  rw [← hW1]
  clear hW1
  cases q1 <;> cases q2
  all_goals
    go_wp2_with (first
      | (go_at_call 61; refine (HE.out _).mono ?_; rintro e _ ⟨rfl, rfl⟩; clear HE)
      | (go_at_call 61; refine (HM.out _).mono ?_; rintro e _ ⟨rfl, rfl⟩; clear HM)
      | (go_at_call 61; refine (HC.out _).mono ?_; rintro e _ ⟨rfl, rfl⟩; clear HC))
    go_ret
    exact ⟨rfl, SS.out.bel⟩
set_option maxRecDepth 100000 in
theorem may_2 (r : Rec) (hl : low r) (hk : r.k = 2) (w : World) :
    Calls Try.prog 46 #[.agg #[.int .i64 r.k, .int .i64 r.ep, .int .i64 r.tm, .int .i64 r.ct, .int .i64 r.tg, .int .i64 r.un, .string ⟨r.rt.toArray⟩, .string ⟨r.nm.toArray⟩]] w fun e w' => e = .returned (.bool (decide (aim r) && ins r.un 1099511627776)) ∧ Below w.heap.size w w' := by
  obtain ⟨W1, hW1⟩ : ∃ W1, W1 = w.alloc (.cells #[.int .i64 r.k, .int .i64 r.ep, .int .i64 r.tm, .int .i64 r.ct, .int .i64 r.tg, .int .i64 r.un, .string ⟨r.rt.toArray⟩, .string ⟨r.nm.toArray⟩] 30) := ⟨_, rfl⟩
  have SS : Hid (Ws w r W1) := Lib.hid (by rw [hW1]; exact ws_new w r)
  have hz := size_mk r.rt
  obtain ⟨k0, k1, k2, k3, k4, k5, k6, k7⟩ := SS.out.k.cells
  have HE := Lib.hid (fun W => within r.ep 4294967295 W)
  have HM := Lib.hid (fun W => within r.tm 1099511627776 W)
  rw [ins_yes hl.1 hl.2.1] at HE
  rw [ins_yes hl.2.2.1 hl.2.2.2] at HM
  have t1 : (r.k == 1) = false := by rw [hk]; rfl
  have t2 : (r.k == 2) = true := by rw [hk]; rfl
  have HT := Lib.hid (fun W => isTarget r hl.1 hl.2.1 W)
  have HU := Lib.hid (fun W => within r.un 1099511627776 W)
  generalize decide (aim r) = q1 at *
  generalize ins r.un 1099511627776 = q2 at *
  clear hl hk
  go_enter Try.func46, Try.ntmps46
  go_upto_region 1 with (fail)
  rw [← hW1]
  clear hW1
  cases q1 <;> cases q2
  all_goals
    go_wp2_with (first
      | (go_at_call 61; refine (HE.out _).mono ?_; rintro e _ ⟨rfl, rfl⟩; clear HE)
      | (go_at_call 61; refine (HM.out _).mono ?_; rintro e _ ⟨rfl, rfl⟩; clear HM)
      | (go_at_call 62; refine (HT.out _).mono ?_; rintro e w2 ⟨rfl, hb⟩; replace SS := Lib.hid (SS.out.step hb); obtain ⟨k0, k1, k2, k3, k4, k5, k6, k7⟩ := SS.out.k.cells; clear hb HT)
      | (go_at_call 61; refine (HU.out _).mono ?_; rintro e _ ⟨rfl, rfl⟩; clear HU))
    go_ret
    exact ⟨rfl, SS.out.bel⟩
set_option maxRecDepth 100000 in
theorem may_5 (r : Rec) (hl : low r) (hk : r.k = 5) (w : World) :
    Calls Try.prog 46 #[.agg #[.int .i64 r.k, .int .i64 r.ep, .int .i64 r.tm, .int .i64 r.ct, .int .i64 r.tg, .int .i64 r.un, .string ⟨r.rt.toArray⟩, .string ⟨r.nm.toArray⟩]] w fun e w' => e = .returned (.bool (decide (aim r) && ins r.un 1099511627776)) ∧ Below w.heap.size w w' := by
  obtain ⟨W1, hW1⟩ : ∃ W1, W1 = w.alloc (.cells #[.int .i64 r.k, .int .i64 r.ep, .int .i64 r.tm, .int .i64 r.ct, .int .i64 r.tg, .int .i64 r.un, .string ⟨r.rt.toArray⟩, .string ⟨r.nm.toArray⟩] 30) := ⟨_, rfl⟩
  have SS : Hid (Ws w r W1) := Lib.hid (by rw [hW1]; exact ws_new w r)
  have hz := size_mk r.rt
  obtain ⟨k0, k1, k2, k3, k4, k5, k6, k7⟩ := SS.out.k.cells
  have HE := Lib.hid (fun W => within r.ep 4294967295 W)
  have HM := Lib.hid (fun W => within r.tm 1099511627776 W)
  rw [ins_yes hl.1 hl.2.1] at HE
  rw [ins_yes hl.2.2.1 hl.2.2.2] at HM
  have t1 : (r.k == 1) = false := by rw [hk]; rfl
  have t2 : (r.k == 2) = false := by rw [hk]; rfl
  have t5 : (r.k == 5) = true := by rw [hk]; rfl
  have HT := Lib.hid (fun W => isTarget r hl.1 hl.2.1 W)
  have HU := Lib.hid (fun W => within r.un 1099511627776 W)
  generalize decide (aim r) = q1 at *
  generalize ins r.un 1099511627776 = q2 at *
  clear hl hk
  go_enter Try.func46, Try.ntmps46
  go_upto_region 1 with (fail)
  rw [← hW1]
  clear hW1
  cases q1 <;> cases q2
  all_goals
    go_wp2_with (first
      | (go_at_call 61; refine (HE.out _).mono ?_; rintro e _ ⟨rfl, rfl⟩; clear HE)
      | (go_at_call 61; refine (HM.out _).mono ?_; rintro e _ ⟨rfl, rfl⟩; clear HM)
      | (go_at_call 62; refine (HT.out _).mono ?_; rintro e w2 ⟨rfl, hb⟩; replace SS := Lib.hid (SS.out.step hb); obtain ⟨k0, k1, k2, k3, k4, k5, k6, k7⟩ := SS.out.k.cells; clear hb HT)
      | (go_at_call 61; refine (HU.out _).mono ?_; rintro e _ ⟨rfl, rfl⟩; clear HU))
    go_ret
    exact ⟨rfl, SS.out.bel⟩
set_option maxRecDepth 100000 in
theorem may_3 (r : Rec) (hl : low r) (hk : r.k = 3) (w : World) :
    Calls Try.prog 46 #[.agg #[.int .i64 r.k, .int .i64 r.ep, .int .i64 r.tm, .int .i64 r.ct, .int .i64 r.tg, .int .i64 r.un, .string ⟨r.rt.toArray⟩, .string ⟨r.nm.toArray⟩]] w fun e w' => e = .returned (.bool (decide (aim r) && isName r.nm)) ∧ Below w.heap.size w w' := by
  obtain ⟨W1, hW1⟩ : ∃ W1, W1 = w.alloc (.cells #[.int .i64 r.k, .int .i64 r.ep, .int .i64 r.tm, .int .i64 r.ct, .int .i64 r.tg, .int .i64 r.un, .string ⟨r.rt.toArray⟩, .string ⟨r.nm.toArray⟩] 30) := ⟨_, rfl⟩
  have SS : Hid (Ws w r W1) := Lib.hid (by rw [hW1]; exact ws_new w r)
  have hz := size_mk r.rt
  obtain ⟨k0, k1, k2, k3, k4, k5, k6, k7⟩ := SS.out.k.cells
  have HE := Lib.hid (fun W => within r.ep 4294967295 W)
  have HM := Lib.hid (fun W => within r.tm 1099511627776 W)
  rw [ins_yes hl.1 hl.2.1] at HE
  rw [ins_yes hl.2.2.1 hl.2.2.2] at HM
  have t1 : (r.k == 1) = false := by rw [hk]; rfl
  have t2 : (r.k == 2) = false := by rw [hk]; rfl
  have t5 : (r.k == 5) = false := by rw [hk]; rfl
  have t3 : (r.k == 3) = true := by rw [hk]; rfl
  have HT := Lib.hid (fun W => isTarget r hl.1 hl.2.1 W)
  have HN := Lib.hid (fun W => Name r.nm W)
  generalize decide (aim r) = q1 at *
  generalize isName r.nm = q2 at *
  clear hl hk
  go_enter Try.func46, Try.ntmps46
  go_upto_region 1 with (fail)
  rw [← hW1]
  clear hW1
  cases q1 <;> cases q2
  all_goals
    go_wp2_with (first
      | (go_at_call 61; refine (HE.out _).mono ?_; rintro e _ ⟨rfl, rfl⟩; clear HE)
      | (go_at_call 61; refine (HM.out _).mono ?_; rintro e _ ⟨rfl, rfl⟩; clear HM)
      | (go_at_call 62; refine (HT.out _).mono ?_; rintro e w2 ⟨rfl, hb⟩; replace SS := Lib.hid (SS.out.step hb); obtain ⟨k0, k1, k2, k3, k4, k5, k6, k7⟩ := SS.out.k.cells; clear hb HT)
      | (go_at_call 63; refine (HN.out _).mono ?_; rintro e _ ⟨rfl, rfl⟩; clear HN))
    go_ret
    exact ⟨rfl, SS.out.bel⟩
set_option maxRecDepth 100000 in
theorem may_4 (r : Rec) (hl : low r) (hk : r.k = 4) (w : World) :
    Calls Try.prog 46 #[.agg #[.int .i64 r.k, .int .i64 r.ep, .int .i64 r.tm, .int .i64 r.ct, .int .i64 r.tg, .int .i64 r.un, .string ⟨r.rt.toArray⟩, .string ⟨r.nm.toArray⟩]] w fun e w' => e = .returned (.bool (isName r.nm)) ∧ Below w.heap.size w w' := by
  obtain ⟨W1, hW1⟩ : ∃ W1, W1 = w.alloc (.cells #[.int .i64 r.k, .int .i64 r.ep, .int .i64 r.tm, .int .i64 r.ct, .int .i64 r.tg, .int .i64 r.un, .string ⟨r.rt.toArray⟩, .string ⟨r.nm.toArray⟩] 30) := ⟨_, rfl⟩
  have SS : Hid (Ws w r W1) := Lib.hid (by rw [hW1]; exact ws_new w r)
  have hz := size_mk r.rt
  obtain ⟨k0, k1, k2, k3, k4, k5, k6, k7⟩ := SS.out.k.cells
  have HE := Lib.hid (fun W => within r.ep 4294967295 W)
  have HM := Lib.hid (fun W => within r.tm 1099511627776 W)
  rw [ins_yes hl.1 hl.2.1] at HE
  rw [ins_yes hl.2.2.1 hl.2.2.2] at HM
  have t1 : (r.k == 1) = false := by rw [hk]; rfl
  have t2 : (r.k == 2) = false := by rw [hk]; rfl
  have t5 : (r.k == 5) = false := by rw [hk]; rfl
  have t3 : (r.k == 3) = false := by rw [hk]; rfl
  have t4 : (r.k == 4) = true := by rw [hk]; rfl
  have HN := Lib.hid (fun W => Name r.nm W)
  generalize isName r.nm = q2 at *
  clear hl hk
  go_enter Try.func46, Try.ntmps46
  go_upto_region 1 with (fail)
  rw [← hW1]
  clear hW1
  cases q2
  all_goals
    go_wp2_with (first
      | (go_at_call 61; refine (HE.out _).mono ?_; rintro e _ ⟨rfl, rfl⟩; clear HE)
      | (go_at_call 61; refine (HM.out _).mono ?_; rintro e _ ⟨rfl, rfl⟩; clear HM)
      | (go_at_call 63; refine (HN.out _).mono ?_; rintro e _ ⟨rfl, rfl⟩; clear HN))
    go_ret
    exact ⟨rfl, SS.out.bel⟩
theorem asks_1 {r : Rec} (hk : r.k = 1) : asks r ↔ ((0 ≤ r.ct ∧ r.ct ≤ 4096) ∧ r.rt.length = 32) := by
  unfold asks
  refine ⟨fun h => ?_, fun h => .inl ⟨hk, h.1.1, h.1.2, h.2⟩⟩
  rcases h with h | h | h | h | h
  · exact ⟨⟨h.2.1, h.2.2.1⟩, h.2.2.2⟩
  all_goals (exfalso; have := h.1; omega)
theorem asks_2 {r : Rec} (hk : r.k = 2) : asks r ↔ (aim r ∧ (0 ≤ r.un ∧ r.un ≤ 1099511627776)) := by
  unfold asks
  refine ⟨fun h => ?_, fun h => .inr (.inl ⟨hk, h.1, h.2⟩)⟩
  rcases h with h | h | h | h | h
  all_goals first | exact h.2 | (exfalso; have := h.1; omega)
theorem asks_5 {r : Rec} (hk : r.k = 5) : asks r ↔ (aim r ∧ (0 ≤ r.un ∧ r.un ≤ 1099511627776)) := by
  unfold asks
  refine ⟨fun h => ?_, fun h => .inr (.inr (.inr (.inr ⟨hk, h.1, h.2⟩)))⟩
  rcases h with h | h | h | h | h
  all_goals first | exact h.2 | (exfalso; have := h.1; omega)
theorem asks_3 {r : Rec} (hk : r.k = 3) : asks r ↔ (aim r ∧ isName r.nm = true) := by
  unfold asks
  refine ⟨fun h => ?_, fun h => .inr (.inr (.inl ⟨hk, h.1, h.2⟩))⟩
  rcases h with h | h | h | h | h
  all_goals first | exact h.2 | (exfalso; have := h.1; omega)
theorem asks_4 {r : Rec} (hk : r.k = 4) : asks r ↔ (isName r.nm = true) := by
  unfold asks
  refine ⟨fun h => ?_, fun h => .inr (.inr (.inr (.inl ⟨hk, h⟩)))⟩
  rcases h with h | h | h | h | h
  all_goals first | exact h.2 | (exfalso; have := h.1; omega)
theorem asks_0 {r : Rec} (hk : r.k ≠ 1 ∧ r.k ≠ 2 ∧ r.k ≠ 3 ∧ r.k ≠ 4 ∧ r.k ≠ 5) : asks r ↔ False := by
  unfold asks
  refine ⟨fun h => ?_, False.elim⟩
  rcases h with h | h | h | h | h
  all_goals (have := h.1; omega)
theorem dec_may (r : Rec) (p : Prop) [Decidable p] (hl : low r) (h : asks r ↔ p) : decide (RecM.may r) = decide p := by
  rw [decide_eq_decide]
  unfold RecM.may
  rw [h]
  exact ⟨fun hh => hh.2, fun hh => ⟨hl, hh⟩⟩
/-- What record.may answers. -/
theorem may (r : Rec) (w : World) :
    Calls Try.prog 46 #[.agg #[.int .i64 r.k, .int .i64 r.ep, .int .i64 r.tm, .int .i64 r.ct, .int .i64 r.tg, .int .i64 r.un, .string ⟨r.rt.toArray⟩, .string ⟨r.nm.toArray⟩]] w fun e w' => e = .returned (.bool (decide (RecM.may r))) ∧ Below w.heap.size w w' := by
  by_cases hl : low r
  · by_cases h1 : r.k = 1
    · rw [dec_may r ((0 ≤ r.ct ∧ r.ct ≤ 4096) ∧ r.rt.length = 32) hl (asks_1 h1), Bool.decide_and]
      exact may_1 r hl h1 w
    by_cases h2 : r.k = 2
    · rw [dec_may r (aim r ∧ (0 ≤ r.un ∧ r.un ≤ 1099511627776)) hl (asks_2 h2), Bool.decide_and]
      exact may_2 r hl h2 w
    by_cases h5 : r.k = 5
    · rw [dec_may r (aim r ∧ (0 ≤ r.un ∧ r.un ≤ 1099511627776)) hl (asks_5 h5), Bool.decide_and]
      exact may_5 r hl h5 w
    by_cases h3 : r.k = 3
    · rw [dec_may r (aim r ∧ isName r.nm = true) hl (asks_3 h3), Bool.decide_and, Bool.decide_eq_true]
      exact may_3 r hl h3 w
    by_cases h4 : r.k = 4
    · rw [dec_may r (isName r.nm = true) hl (asks_4 h4), Bool.decide_eq_true]
      exact may_4 r hl h4 w
    have h0 : r.k ≠ 1 ∧ r.k ≠ 2 ∧ r.k ≠ 3 ∧ r.k ≠ 4 ∧ r.k ≠ 5 := ⟨h1, h2, h3, h4, h5⟩
    rw [dec_may r False hl (asks_0 h0)]
    exact may_0 r hl h0 w
  · rw [df (fun h : RecM.may r => hl h.1)]
    exact may_low r hl w
set_option maxRecDepth 100000 in
set_option maxHeartbeats 4000000 in
theorem Check_same (r : Rec) (q : Bool) (hs : RecM.said r = r) (hq : decide (RecM.may r) = q) (w : World) :
    Calls Try.prog 30 #[.agg #[.int .i64 r.k, .int .i64 r.ep, .int .i64 r.tm, .int .i64 r.ct, .int .i64 r.tg, .int .i64 r.un, .string ⟨r.rt.toArray⟩, .string ⟨r.nm.toArray⟩]] w fun e w' => e = .returned (.int .i64 (if q then 0 else 2)) ∧ Below w.heap.size w w' := by
  obtain ⟨W1, hW1⟩ : ∃ W1, W1 = w.alloc (.cells #[.int .i64 r.k, .int .i64 r.ep, .int .i64 r.tm, .int .i64 r.ct, .int .i64 r.tg, .int .i64 r.un, .string ⟨r.rt.toArray⟩, .string ⟨r.nm.toArray⟩] 30) := ⟨_, rfl⟩
  have SS : Hid (Ws w r W1) := Lib.hid (by rw [hW1]; exact ws_new w r)
  have HS := Lib.hid (fun W => RecS.said r W)
  rw [hs] at HS
  have HY := Lib.hid (fun W => may r W)
  rw [hq] at HY
  have hne := fun W => run_neq_rec W r r true (dt rfl)
  clear hs hq
  go_enter Try.func30, Try.ntmps30
  go_upto_region 1 with (fail)
  rw [← hW1]
  clear hW1
  replace SS := Lib.hid SS.out.drew
  have hS := SS.out.k.cells
  cases q
  all_goals
    go_region_held3 (fun W => W.cell? ⟨w.heap.size, 0, none⟩ = some (.int .i64 r.k) ∧ W.cell? ⟨w.heap.size, 1, none⟩ = some (.int .i64 r.ep) ∧ W.cell? ⟨w.heap.size, 2, none⟩ = some (.int .i64 r.tm) ∧ W.cell? ⟨w.heap.size, 3, none⟩ = some (.int .i64 r.ct) ∧ W.cell? ⟨w.heap.size, 4, none⟩ = some (.int .i64 r.tg) ∧ W.cell? ⟨w.heap.size, 5, none⟩ = some (.int .i64 r.un) ∧ W.cell? ⟨w.heap.size, 6, none⟩ = some (.string ⟨r.rt.toArray⟩) ∧ W.cell? ⟨w.heap.size, 7, none⟩ = some (.string ⟨r.nm.toArray⟩))
      (exact hS)
      (first
        | (go_at_call 45; refine (HS.out _).mono ?_; rintro e w2 ⟨rfl, hb⟩; replace SS := Lib.hid (SS.out.step hb); replace hS := SS.out.k.cells; clear hb)
        | (go_at_call 46; refine (HY.out _).mono ?_; rintro e w3 ⟨rfl, hb⟩; replace SS := Lib.hid (SS.out.step hb); replace hS := SS.out.k.cells; clear hb))
    go_wp2
    go_ret
    exact ⟨rfl, SS.out.bel⟩
set_option maxRecDepth 100000 in
set_option maxHeartbeats 4000000 in
theorem Check_other (r : Rec) (hs : ¬ r = RecM.said r) (w : World) :
    Calls Try.prog 30 #[.agg #[.int .i64 r.k, .int .i64 r.ep, .int .i64 r.tm, .int .i64 r.ct, .int .i64 r.tg, .int .i64 r.un, .string ⟨r.rt.toArray⟩, .string ⟨r.nm.toArray⟩]] w fun e w' => e = .returned (.int .i64 2) ∧ Below w.heap.size w w' := by
  obtain ⟨W1, hW1⟩ : ∃ W1, W1 = w.alloc (.cells #[.int .i64 r.k, .int .i64 r.ep, .int .i64 r.tm, .int .i64 r.ct, .int .i64 r.tg, .int .i64 r.un, .string ⟨r.rt.toArray⟩, .string ⟨r.nm.toArray⟩] 30) := ⟨_, rfl⟩
  have SS : Hid (Ws w r W1) := Lib.hid (by rw [hW1]; exact ws_new w r)
  have HS := Lib.hid (fun W => RecS.said r W)
  generalize RecM.said r = s at *
  have hne := fun W => run_neq_rec W r s false (df hs)
  clear hs
  go_enter Try.func30, Try.ntmps30
  go_upto_region 1 with (fail)
  rw [← hW1]
  clear hW1
  replace SS := Lib.hid SS.out.drew
  have hS := SS.out.k.cells
  refine wp_region_held_drew (S := fun W => W.cell? ⟨w.heap.size, 0, none⟩ = some (.int .i64 r.k) ∧ W.cell? ⟨w.heap.size, 1, none⟩ = some (.int .i64 r.ep) ∧ W.cell? ⟨w.heap.size, 2, none⟩ = some (.int .i64 r.tm) ∧ W.cell? ⟨w.heap.size, 3, none⟩ = some (.int .i64 r.ct) ∧ W.cell? ⟨w.heap.size, 4, none⟩ = some (.int .i64 r.tg) ∧ W.cell? ⟨w.heap.size, 5, none⟩ = some (.int .i64 r.un) ∧ W.cell? ⟨w.heap.size, 6, none⟩ = some (.string ⟨r.rt.toArray⟩) ∧ W.cell? ⟨w.heap.size, 7, none⟩ = some (.string ⟨r.nm.toArray⟩)) (by kernel_rfl) hS (fun _ => ?_)
  change wpAnyH _ _ _ _ _ _ #[false, false, false, false, false, false, false, false, false] _ _
  refine wpAnyH_take (i := 0) (v := ?vx1) (by rw [List.getElem?_toArray]; rfl) (by kernel_rfl) (by kernel_rfl) (by kernel_rfl) (by intro _ _ _ h; exact h) (Or.inl ⟨by rfl, ?hyx1⟩) (by assumption) ?restx1
  case hyx1 => (intro W hSW; (try dsimp only at hSW); go_simp; try with_reducible rfl)
  try simp only [Act.put, List.setIfInBounds_toArray, List.set_cons_zero, List.set_cons_succ]
  refine wpAnyH_take (i := 1) (v := ?vx2) (by rw [List.getElem?_toArray]; rfl) (by kernel_rfl) (by kernel_rfl) (by kernel_rfl) (by intro _ _ _ h; exact h) (Or.inl ⟨by rfl, ?hyx2⟩) (by assumption) ?restx2
  case hyx2 => (intro W hSW; (try dsimp only at hSW); go_simp; try with_reducible rfl)
  try simp only [Act.put, List.setIfInBounds_toArray, List.set_cons_zero, List.set_cons_succ]
  refine wpAnyH_ready (rs := [2]) (by kernel_rfl) (by simp) (AllReadyH.cons (by rw [List.getElem?_toArray]; rfl) (fun K hK => ?_) AllReadyH.nil)
  go_simp
  refine (HS.out _).mono ?_
  rintro e w12 ⟨rfl, hb⟩
  replace SS := Lib.hid (SS.out.step hb)
  replace hS := SS.out.k.cells
  clear hb
  refine hK.out _ _ hS (fun _ => ?_)
  clear hK K
  try simp only [List.setIfInBounds_toArray, List.set_cons_zero, List.set_cons_succ]
  refine wpAnyH_take (i := 3) (v := ?vx4) (by rw [List.getElem?_toArray]; rfl) (by kernel_rfl) (by kernel_rfl) (by kernel_rfl) (by intro _ _ _ h; exact h) (Or.inl ⟨by rfl, ?hyx4⟩) (by assumption) ?restx4
  case hyx4 => (intro W hSW; (try dsimp only at hSW); go_simp; try with_reducible rfl)
  try simp only [Act.put, List.setIfInBounds_toArray, List.set_cons_zero, List.set_cons_succ]
  refine wpAnyH_take (i := 4) (v := ?vx5) (by rw [List.getElem?_toArray]; rfl) (by kernel_rfl) (by kernel_rfl) (by kernel_rfl) (by intro _ _ _ h; exact h) (Or.inl ⟨by rfl, ?hyx5⟩) (by assumption) ?restx5
  case hyx5 => (intro W hSW; (try dsimp only at hSW); go_simp; try with_reducible rfl)
  try simp only [Act.put, List.setIfInBounds_toArray, List.set_cons_zero, List.set_cons_succ]
  refine wpAnyH_take (i := 5) (v := undef) (by rw [List.getElem?_toArray]; rfl) (by kernel_rfl) (by kernel_rfl) (by kernel_rfl) (by intro _ _ _ h; exact h) (Or.inr ⟨by rfl, rfl⟩) (by assumption) ?restx6
  try simp only [Act.put, List.setIfInBounds_toArray, List.set_cons_zero, List.set_cons_succ]
  refine wpAnyH_take (i := 6) (v := undef) (by rw [List.getElem?_toArray]; rfl) (by kernel_rfl) (by kernel_rfl) (by kernel_rfl) (by intro _ _ _ h; exact h) (Or.inr ⟨by rfl, rfl⟩) (by assumption) ?restx7
  try simp only [Act.put, List.setIfInBounds_toArray, List.set_cons_zero, List.set_cons_succ]
  refine wpAnyH_take (i := 7) (v := undef) (by rw [List.getElem?_toArray]; rfl) (by kernel_rfl) (by kernel_rfl) (by kernel_rfl) (by intro _ _ _ h; exact h) (Or.inr ⟨by rfl, rfl⟩) (by assumption) ?restx8
  try simp only [Act.put, List.setIfInBounds_toArray, List.set_cons_zero, List.set_cons_succ]
  refine wpAnyH_take (i := 8) (v := ?vx9) (by rw [List.getElem?_toArray]; rfl) (by kernel_rfl) (by kernel_rfl) (by kernel_rfl) (by intro _ _ _ h; exact h) (Or.inl ⟨by rfl, ?hyx9⟩) (by assumption) ?restx9
  case hyx9 => (intro W hSW; (try dsimp only at hSW); go_simp; try with_reducible rfl)
  try simp only [Act.put, List.setIfInBounds_toArray, List.set_cons_zero, List.set_cons_succ]
  refine wpAnyH_done (by kernel_rfl) ?_ _
  go_wp2
  go_ret
  exact ⟨rfl, SS.out.bel⟩
def check (r : Rec) : Int := if right r then 0 else 2
/-- What record.Check answers. -/
theorem Check (r : Rec) (w : World) :
    Calls Try.prog 30 #[.agg #[.int .i64 r.k, .int .i64 r.ep, .int .i64 r.tm, .int .i64 r.ct, .int .i64 r.tg, .int .i64 r.un, .string ⟨r.rt.toArray⟩, .string ⟨r.nm.toArray⟩]] w fun e w' => e = .returned (.int .i64 (check r)) ∧ Below w.heap.size w w' := by
  by_cases hs : r = RecM.said r
  · have := Check_same r _ hs.symm rfl w
    by_cases hm : RecM.may r
    · rw [dt hm] at this
      rw [check, if_pos ((right_iff r).2 ⟨hs, hm⟩)]
      exact this
    · rw [df hm] at this
      rw [check, if_neg (fun h => hm ((right_iff r).1 h).2)]
      exact this
  · rw [check, if_neg (fun h => hs ((right_iff r).1 h).1)]
    exact Check_other r hs w
theorem check_yes {r : Rec} (h : right r) : check r = 0 := if_pos h
theorem check_no {r : Rec} (h : ¬ right r) : check r = 2 := if_neg h
end Go.Proofs.Yteldohopagdodaa.RecK
