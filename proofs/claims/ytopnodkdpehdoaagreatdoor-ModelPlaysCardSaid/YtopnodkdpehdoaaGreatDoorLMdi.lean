/- MdI MdJ: one behind the other. -/
import Derived.Test.YtopnodkdpehdoaaGreatDoorLMdg
import Derived.Test.YtopnodkdpehdoaaGreatDoorRecR
/- The document's model: seal: the walk of its text. No conditions but those that each lemma names. -/
namespace Go.Proofs.YtopnodkdpehdoaaGreatDoor.MdI
set_option linter.unusedVariables false
open Go.RowKit
open RecN RecC RetN DbN RetR DbC DbD DbE DbF DbM DbA MdN MdC MdD MdE MdF AnsC MdG MdH
/-- What a model is behind a record that was given. -/
def rcT (m : Mo) (r : Rec) (room : Int) : Mo := if rcE m r room = 0 then rcM m r else m
/-- What a model is behind a sealing. -/
def slT (m : Mo) (c : Cl) : Mo := if slE m c = 0 then rcM m (slR m c) else m
section
variable {base X : Nat} {m m' : Mo} {c : Cl} {ar : Option Addr} {cr : Nat} {av : Option Addr} {cv : Nat} {w W W' : World}
theorem _root_.Go.Proofs.YtopnodkdpehdoaaGreatDoor.MdC.Turn.after (hd : Dm base X m ar cr av cv w) (hb : Below w.heap.size w W) (h : Turn base X m ar cr av cv m' W W') : Turn base X m ar cr av cv m' w W' := by
  obtain ⟨a1, c1, a2, c2, h1, h2, h3, h4, h5, h6, h7⟩ := h
  exact ⟨a1, c1, a2, c2, h1, fun k hk => (h2 k hk).imp id (fun h => Nat.le_trans hb.size h), h3.trans hb.os, h4.trans hb.tape, h5.trans hb.output, Nat.le_trans hb.size h6, fun k hk hn => (h7 k (Nat.lt_of_lt_of_le hk hb.size) hn).trans (hb.block k hk)⟩
theorem _root_.Go.Proofs.YtopnodkdpehdoaaGreatDoor.MdC.Turn.keep (hd : Dm base X m ar cr av cv w) (h : Turn base X m ar cr av cv m' W W') {k : Nat} (h0 : w.heap.size ≤ k) (h1 : k < W.heap.size) : W'.heap[k]? = W.heap[k]? := by
  obtain ⟨_, _, _, _, _, _, _, _, _, _, h7⟩ := h
  exact h7 k h1 (fun hf => by have := hd.foot hf; omega)
theorem record (h : Dm base X m ar cr av cv w) (hbase : base ≤ w.heap.size) (r : Rec) (room : Int) (hroom : rcE m r room = 0 → m.used + 1 ≤ GeoN.data m.b m.lb m.f) :
    Calls Tryz.prog 32 #[.pointer (some ⟨X, 0, none⟩), .agg #[.int .i64 r.k, .int .i64 r.ep, .int .i64 r.tm, .int .i64 r.ct, .int .i64 r.tg, .int .i64 r.un, .string ⟨r.rt.toArray⟩, .string ⟨r.nm.toArray⟩], .int .i64 room] w fun x w' => x = .returned (.int .i64 (rcE m r room)) ∧ Turn base X m ar cr av cv (rcT m r room) w w' := by
  unfold rcT
  by_cases he : rcE m r room = 0
  · rw [if_pos he, he]
    exact record_yes h hbase r room he (hroom he)
  · rw [if_neg he]
    exact (record_no h r room he).mono (fun x w' ⟨h1, h2⟩ => ⟨h1, Turn.still h h2⟩)
theorem sl_a (h : (c.k = 7 ∨ c.k = 8) ∧ isName c.nm = false) : slE m c = 2 ∧ slT m c = m := by
  have e : slE m c = 2 := by unfold slE; rw [if_pos h]
  exact ⟨e, by unfold slT; rw [e, if_neg (by decide)]⟩
theorem sl_8 (h : ¬ ((c.k = 7 ∨ c.k = 8) ∧ isName c.nm = false)) (h8 : c.k = 8) : slE m c = rcE m ⟨4, 0, 0, 0, 0, 0, [], c.nm⟩ (rm m) ∧ slT m c = rcT m ⟨4, 0, 0, 0, 0, 0, [], c.nm⟩ (rm m) := by
  have e0 : slR m c = ⟨4, 0, 0, 0, 0, 0, [], c.nm⟩ := by unfold slR; rw [if_pos h8]
  have e : slE m c = rcE m ⟨4, 0, 0, 0, 0, 0, [], c.nm⟩ (rm m) := by unfold slE; rw [if_neg h, if_pos h8, e0]
  exact ⟨e, by unfold slT rcT; rw [e, e0]⟩
theorem sl_t (h : ¬ ((c.k = 7 ∨ c.k = 8) ∧ isName c.nm = false)) (h8 : c.k ≠ 8) (ht : there m c.ep true ≠ 0) : slE m c = there m c.ep true ∧ slT m c = m := by
  have e : slE m c = there m c.ep true := by unfold slE; rw [if_neg h, if_neg h8, if_pos ht]
  exact ⟨e, by unfold slT; rw [e, if_neg ht]⟩
theorem sl_6b (h6 : c.k = 6) (ht : there m c.ep true = 0) (hb : c.tm < 0 ∨ 1099511627776 < c.tm) : slE m c = 2 ∧ slT m c = m := by
  have e : slE m c = 2 := by unfold slE; rw [if_neg (by omega), if_neg (by omega), if_neg (by omega), if_pos ⟨h6, hb⟩]
  exact ⟨e, by unfold slT; rw [e, if_neg (by decide)]⟩
theorem sl_6 (h6 : c.k = 6) (ht : there m c.ep true = 0) (hb : ¬ (c.tm < 0 ∨ 1099511627776 < c.tm)) : slE m c = rcE m ⟨2, 0, 0, 0, c.ep, c.tm, [], []⟩ (rm m) ∧ slT m c = rcT m ⟨2, 0, 0, 0, c.ep, c.tm, [], []⟩ (rm m) := by
  have e0 : slR m c = ⟨2, 0, 0, 0, c.ep, c.tm, [], []⟩ := by unfold slR; rw [if_neg (by omega), if_pos h6]
  have e : slE m c = rcE m ⟨2, 0, 0, 0, c.ep, c.tm, [], []⟩ (rm m) := by unfold slE; rw [if_neg (by omega), if_neg (by omega), if_neg (by omega), if_neg (fun h => hb h.2), e0]
  exact ⟨e, by unfold slT rcT; rw [e, e0]⟩
theorem sl_7 (h : ¬ ((c.k = 7 ∨ c.k = 8) ∧ isName c.nm = false)) (h7 : c.k = 7) (ht : there m c.ep true = 0) : slE m c = rcE m ⟨3, 0, 0, 0, c.ep, 0, [], c.nm⟩ (rm m) ∧ slT m c = rcT m ⟨3, 0, 0, 0, c.ep, 0, [], c.nm⟩ (rm m) := by
  have e0 : slR m c = ⟨3, 0, 0, 0, c.ep, 0, [], c.nm⟩ := by unfold slR; rw [if_neg (by omega), if_neg (by omega), if_pos h7]
  have e : slE m c = rcE m ⟨3, 0, 0, 0, c.ep, 0, [], c.nm⟩ (rm m) := by unfold slE; rw [if_neg h, if_neg (by omega), if_neg (by omega), if_neg (by omega), e0]
  exact ⟨e, by unfold slT rcT; rw [e, e0]⟩
theorem sl_9 (h6 : c.k ≠ 6) (h7 : c.k ≠ 7) (h8 : c.k ≠ 8) (ht : there m c.ep true = 0) : slE m c = rcE m ⟨5, 0, 0, 0, c.ep, m.s.un c.ep, [], []⟩ (rm m) ∧ slT m c = rcT m ⟨5, 0, 0, 0, c.ep, m.s.un c.ep, [], []⟩ (rm m) := by
  have e0 : slR m c = ⟨5, 0, 0, 0, c.ep, m.s.un c.ep, [], []⟩ := by unfold slR; rw [if_neg h8, if_neg h6, if_neg h7]
  have e : slE m c = rcE m ⟨5, 0, 0, 0, c.ep, m.s.un c.ep, [], []⟩ (rm m) := by unfold slE; rw [if_neg (by omega), if_neg h8, if_neg (by omega), if_neg (by omega), e0]
  exact ⟨e, by unfold slT rcT; rw [e, e0]⟩
set_option maxRecDepth 100000 in
set_option maxHeartbeats 8000000 in
theorem seal_a (h : Dm base X m ar cr av cv w) (hbase : base ≤ w.heap.size) (c : Cl) (pk : Option Addr) (nk ck : Nat) (h7 : c.k = 7 ∨ c.k = 8) (hn : isName c.nm = false) :
    Calls Tryz.prog 35 #[.pointer (some ⟨X, 0, none⟩), .agg #[.int .i64 c.k, .int .i64 c.lb, .int .i64 c.ep, .int .i64 c.tm, .string ⟨c.da.toArray⟩, .string ⟨c.nm.toArray⟩, .slice pk nk ck]] w fun x w' => x = .returned (.int .i64 (slE m c)) ∧ Turn base X m ar cr av cv (slT m c) w w' := by
  obtain ⟨W1, hW1⟩ : ∃ W1, W1 = w.alloc (.cells #[.int .i64 c.k, .int .i64 c.lb, .int .i64 c.ep, .int .i64 c.tm, .string ⟨c.da.toArray⟩, .string ⟨c.nm.toArray⟩, .slice pk nk ck] 35) := ⟨_, rfl⟩
  have BB : Hid (Below w.heap.size w W1) := Lib.hid (by rw [hW1]; exact below_new w _)
  have BC : Hid (Bc W1 w.heap.size c pk nk ck) := Lib.hid (by rw [hW1]; exact heap_alloc_new w _)
  have HD := Lib.hid h
  have DD := Lib.hid (h.step BB.out)
  have HR := Lib.hid (fun W (h : Dm base X m ar cr av cv W) => room h)
  have HT := Lib.hid (fun W (h : Dm base X m ar cr av cv W) => there_ h c.ep true)
  have HN := Lib.hid (fun W => RecR.Name c.nm W)
  have hq : ∀ r, rcE m r (rm m) = 0 → m.used + 1 ≤ GeoN.data m.b m.lb m.f := fun r e => room_in h.ok (rec_ok e).2
  obtain ⟨k0, k1, k2, k3, k4, k5, k6⟩ := BC.out.cells
  obtain ⟨e1, e2⟩ := sl_a (m := m) ⟨h7, hn⟩
  rw [e1, e2]
  rw [hn] at HN
  clear h hq e1 e2
  rcases h7 with h7 | h7
  · have t7 : (c.k == 7) = true := by simp [h7]
    clear h7
    go_enter Tryz.func35, Tryz.ntmps35
    go_upto_region 1 with (fail)
    rw [← hW1]
    clear hW1
    go_wp2_with (go_at_call 55; refine (HN.out _).mono ?_; rintro e _ ⟨rfl, rfl⟩; clear HN)
    go_ret
    exact ⟨rfl, Turn.still HD.out BB.out⟩
  · have t7 : (c.k == 7) = false := by simp [h7]
    have t8 : (c.k == 8) = true := by simp [h7]
    clear h7
    go_enter Tryz.func35, Tryz.ntmps35
    go_upto_region 1 with (fail)
    rw [← hW1]
    clear hW1
    go_wp2_with (go_at_call 55; refine (HN.out _).mono ?_; rintro e _ ⟨rfl, rfl⟩; clear HN)
    go_ret
    exact ⟨rfl, Turn.still HD.out BB.out⟩
set_option maxRecDepth 100000 in
set_option maxHeartbeats 8000000 in
theorem seal_8 (h : Dm base X m ar cr av cv w) (hbase : base ≤ w.heap.size) (c : Cl) (pk : Option Addr) (nk ck : Nat) (h8 : c.k = 8) (hn : isName c.nm = true) :
    Calls Tryz.prog 35 #[.pointer (some ⟨X, 0, none⟩), .agg #[.int .i64 c.k, .int .i64 c.lb, .int .i64 c.ep, .int .i64 c.tm, .string ⟨c.da.toArray⟩, .string ⟨c.nm.toArray⟩, .slice pk nk ck]] w fun x w' => x = .returned (.int .i64 (slE m c)) ∧ Turn base X m ar cr av cv (slT m c) w w' := by
  obtain ⟨W1, hW1⟩ : ∃ W1, W1 = w.alloc (.cells #[.int .i64 c.k, .int .i64 c.lb, .int .i64 c.ep, .int .i64 c.tm, .string ⟨c.da.toArray⟩, .string ⟨c.nm.toArray⟩, .slice pk nk ck] 35) := ⟨_, rfl⟩
  have BB : Hid (Below w.heap.size w W1) := Lib.hid (by rw [hW1]; exact below_new w _)
  have BC : Hid (Bc W1 w.heap.size c pk nk ck) := Lib.hid (by rw [hW1]; exact heap_alloc_new w _)
  have HD := Lib.hid h
  have DD := Lib.hid (h.step BB.out)
  have HR := Lib.hid (fun W (h : Dm base X m ar cr av cv W) => room h)
  have HT := Lib.hid (fun W (h : Dm base X m ar cr av cv W) => there_ h c.ep true)
  have HN := Lib.hid (fun W => RecR.Name c.nm W)
  have hq : ∀ r, rcE m r (rm m) = 0 → m.used + 1 ≤ GeoN.data m.b m.lb m.f := fun r e => room_in h.ok (rec_ok e).2
  obtain ⟨k0, k1, k2, k3, k4, k5, k6⟩ := BC.out.cells
  obtain ⟨e1, e2⟩ := sl_8 (m := m) (c := c) (by rw [hn]; simp) h8
  rw [e1, e2]
  rw [hn] at HN
  have t7 : (c.k == 7) = false := by simp [h8]
  have t8 : (c.k == 8) = true := by simp [h8]
  clear h e1 e2 h8
  have HC : Hid (∀ W, Dm base X m ar cr av cv W → base ≤ W.heap.size → Calls Tryz.prog 32 #[.pointer (some ⟨X, 0, none⟩), .agg #[.int .i64 4, .int .i64 0, .int .i64 0, .int .i64 0, .int .i64 0, .int .i64 0, .string ⟨#[]⟩, .string ⟨c.nm.toArray⟩], .int .i64 (rm m)] W fun x w' => x = .returned (.int .i64 (rcE m ⟨4, 0, 0, 0, 0, 0, [], c.nm⟩ (rm m))) ∧ Turn base X m ar cr av cv (rcT m ⟨4, 0, 0, 0, 0, 0, [], c.nm⟩ (rm m)) W w') := Lib.hid (fun W hw hb => record hw hb ⟨4, 0, 0, 0, 0, 0, [], c.nm⟩ (rm m) (hq _))
  clear hq
  generalize rcE m ⟨4, 0, 0, 0, 0, 0, [], c.nm⟩ (rm m) = y at *
  generalize rcT m ⟨4, 0, 0, 0, 0, 0, [], c.nm⟩ (rm m) = m' at *
  generalize rm m = q at *
  go_enter Tryz.func35, Tryz.ntmps35
  go_upto_region 1 with (fail)
  rw [← hW1]
  clear hW1
  go_upto_region 4 with (go_at_call 55; refine (HN.out _).mono ?_; rintro e _ ⟨rfl, rfl⟩; clear HN)
  have bd : Below W1.heap.size W1 W1.drew := (Below.refl _ _).drew
  replace BB := Lib.hid (BB.out.trans (bd.mono BB.out.size))
  replace BC := Lib.hid (BC.out.step bd)
  replace DD := Lib.hid (DD.out.step bd)
  have hS := BC.out.cells
  clear bd k0 k1 k2 k3 k4 k5 k6
  go_region_held3 (fun W => W.cell? ⟨w.heap.size, 0, none⟩ = some (.int .i64 c.k) ∧ W.cell? ⟨w.heap.size, 1, none⟩ = some (.int .i64 c.lb) ∧ W.cell? ⟨w.heap.size, 2, none⟩ = some (.int .i64 c.ep) ∧ W.cell? ⟨w.heap.size, 3, none⟩ = some (.int .i64 c.tm) ∧ W.cell? ⟨w.heap.size, 4, none⟩ = some (.string ⟨c.da.toArray⟩) ∧ W.cell? ⟨w.heap.size, 5, none⟩ = some (.string ⟨c.nm.toArray⟩) ∧ W.cell? ⟨w.heap.size, 6, none⟩ = some (.slice pk nk ck))
    (exact hS) (first | (go_at_call 51; refine (HR.out _ DD.out).mono ?_; rintro e w5 ⟨rfl, hb⟩; replace BB := Lib.hid (BB.out.trans (hb.mono BB.out.size)); replace BC := Lib.hid (BC.out.step hb); replace DD := Lib.hid (DD.out.step hb); replace hS := BC.out.cells; clear hb HR) | (go_at_call 32; refine (HC.out _ DD.out (Nat.le_trans hbase BB.out.size)).mono ?_; rintro e w6 ⟨rfl, ht⟩; have TT := Lib.hid (Turn.after HD.out BB.out ht); have KC := Lib.hid ((Turn.keep HD.out ht (Nat.le_refl _) BC.out.lt).trans BC.out); replace hS := Bc.cells KC.out; clear ht HC))
  go_wp2_with fail
  go_ret
  exact ⟨rfl, TT.out⟩
set_option maxRecDepth 100000 in
set_option maxHeartbeats 8000000 in
theorem seal_6 (h : Dm base X m ar cr av cv w) (hbase : base ≤ w.heap.size) (c : Cl) (pk : Option Addr) (nk ck : Nat) (h6 : c.k = 6) :
    Calls Tryz.prog 35 #[.pointer (some ⟨X, 0, none⟩), .agg #[.int .i64 c.k, .int .i64 c.lb, .int .i64 c.ep, .int .i64 c.tm, .string ⟨c.da.toArray⟩, .string ⟨c.nm.toArray⟩, .slice pk nk ck]] w fun x w' => x = .returned (.int .i64 (slE m c)) ∧ Turn base X m ar cr av cv (slT m c) w w' := by
  obtain ⟨W1, hW1⟩ : ∃ W1, W1 = w.alloc (.cells #[.int .i64 c.k, .int .i64 c.lb, .int .i64 c.ep, .int .i64 c.tm, .string ⟨c.da.toArray⟩, .string ⟨c.nm.toArray⟩, .slice pk nk ck] 35) := ⟨_, rfl⟩
  have BB : Hid (Below w.heap.size w W1) := Lib.hid (by rw [hW1]; exact below_new w _)
  have BC : Hid (Bc W1 w.heap.size c pk nk ck) := Lib.hid (by rw [hW1]; exact heap_alloc_new w _)
  have HD := Lib.hid h
  have DD := Lib.hid (h.step BB.out)
  have HR := Lib.hid (fun W (h : Dm base X m ar cr av cv W) => room h)
  have HT := Lib.hid (fun W (h : Dm base X m ar cr av cv W) => there_ h c.ep true)
  have HN := Lib.hid (fun W => RecR.Name c.nm W)
  have hq : ∀ r, rcE m r (rm m) = 0 → m.used + 1 ≤ GeoN.data m.b m.lb m.f := fun r e => room_in h.ok (rec_ok e).2
  obtain ⟨k0, k1, k2, k3, k4, k5, k6⟩ := BC.out.cells
  have t6 : (c.k == 6) = true := by simp [h6]
  have t7 : (c.k == 7) = false := by simp [h6]
  have t8 : (c.k == 8) = false := by simp [h6]
  clear HN
  by_cases ht : there m c.ep true ≠ 0
  · obtain ⟨e1, e2⟩ := sl_t (m := m) (c := c) (by omega) (by omega) ht
    rw [e1, e2]
    have tt : (there m c.ep true != 0) = true := by simpa using ht
    clear h e1 e2 ht hq h6
    generalize there m c.ep true = t at *
    go_enter Tryz.func35, Tryz.ntmps35
    go_upto_region 1 with (fail)
    rw [← hW1]
    clear hW1
    go_wp2_with (go_at_call 52; refine (HT.out _ DD.out).mono ?_; rintro e _ ⟨rfl, rfl⟩; clear HT)
    go_ret
    exact ⟨rfl, Turn.still HD.out BB.out⟩
  have ht := Classical.not_not.1 ht
  rw [ht] at HT
  by_cases hb : c.tm < 0 ∨ 1099511627776 < c.tm
  · obtain ⟨e1, e2⟩ := sl_6b (m := m) h6 ht hb
    rw [e1, e2]
    clear h e1 e2 ht hq h6
    by_cases hb1 : c.tm < 0
    · clear hb
      go_enter Tryz.func35, Tryz.ntmps35
      go_upto_region 1 with (fail)
      rw [← hW1]
      clear hW1
      go_wp2_with (go_at_call 52; refine (HT.out _ DD.out).mono ?_; rintro e _ ⟨rfl, rfl⟩; clear HT)
      go_ret
      exact ⟨rfl, Turn.still HD.out BB.out⟩
    · have hb2 : 1099511627776 < c.tm := by omega
      clear hb
      go_enter Tryz.func35, Tryz.ntmps35
      go_upto_region 1 with (fail)
      rw [← hW1]
      clear hW1
      go_wp2_with (go_at_call 52; refine (HT.out _ DD.out).mono ?_; rintro e _ ⟨rfl, rfl⟩; clear HT)
      go_ret
      exact ⟨rfl, Turn.still HD.out BB.out⟩
  obtain ⟨e1, e2⟩ := sl_6 (m := m) h6 ht hb
  rw [e1, e2]
  have hb1 : ¬ c.tm < 0 := fun h => hb (.inl h)
  have hb2 : ¬ 1099511627776 < c.tm := fun h => hb (.inr h)
  clear h e1 e2 ht h6 hb
  have HC : Hid (∀ W, Dm base X m ar cr av cv W → base ≤ W.heap.size → Calls Tryz.prog 32 #[.pointer (some ⟨X, 0, none⟩), .agg #[.int .i64 2, .int .i64 0, .int .i64 0, .int .i64 0, .int .i64 c.ep, .int .i64 c.tm, .string ⟨#[]⟩, .string ⟨#[]⟩], .int .i64 (rm m)] W fun x w' => x = .returned (.int .i64 (rcE m ⟨2, 0, 0, 0, c.ep, c.tm, [], []⟩ (rm m))) ∧ Turn base X m ar cr av cv (rcT m ⟨2, 0, 0, 0, c.ep, c.tm, [], []⟩ (rm m)) W w') := Lib.hid (fun W hw hb => record hw hb ⟨2, 0, 0, 0, c.ep, c.tm, [], []⟩ (rm m) (hq _))
  clear hq
  generalize rcE m ⟨2, 0, 0, 0, c.ep, c.tm, [], []⟩ (rm m) = y at *
  generalize rcT m ⟨2, 0, 0, 0, c.ep, c.tm, [], []⟩ (rm m) = m' at *
  generalize rm m = q at *
  go_enter Tryz.func35, Tryz.ntmps35
  go_upto_region 1 with (fail)
  rw [← hW1]
  clear hW1
  go_upto_region 12 with (go_at_call 52; refine (HT.out _ DD.out).mono ?_; rintro e _ ⟨rfl, rfl⟩; clear HT)
  have bd : Below W1.heap.size W1 W1.drew := (Below.refl _ _).drew
  replace BB := Lib.hid (BB.out.trans (bd.mono BB.out.size))
  replace BC := Lib.hid (BC.out.step bd)
  replace DD := Lib.hid (DD.out.step bd)
  have hS := BC.out.cells
  clear bd k0 k1 k2 k3 k4 k5 k6
  go_region_held3 (fun W => W.cell? ⟨w.heap.size, 0, none⟩ = some (.int .i64 c.k) ∧ W.cell? ⟨w.heap.size, 1, none⟩ = some (.int .i64 c.lb) ∧ W.cell? ⟨w.heap.size, 2, none⟩ = some (.int .i64 c.ep) ∧ W.cell? ⟨w.heap.size, 3, none⟩ = some (.int .i64 c.tm) ∧ W.cell? ⟨w.heap.size, 4, none⟩ = some (.string ⟨c.da.toArray⟩) ∧ W.cell? ⟨w.heap.size, 5, none⟩ = some (.string ⟨c.nm.toArray⟩) ∧ W.cell? ⟨w.heap.size, 6, none⟩ = some (.slice pk nk ck))
    (exact hS) (first | (go_at_call 51; refine (HR.out _ DD.out).mono ?_; rintro e w5 ⟨rfl, hb⟩; replace BB := Lib.hid (BB.out.trans (hb.mono BB.out.size)); replace BC := Lib.hid (BC.out.step hb); replace DD := Lib.hid (DD.out.step hb); replace hS := BC.out.cells; clear hb HR) | (go_at_call 32; refine (HC.out _ DD.out (Nat.le_trans hbase BB.out.size)).mono ?_; rintro e w6 ⟨rfl, ht⟩; have TT := Lib.hid (Turn.after HD.out BB.out ht); have KC := Lib.hid ((Turn.keep HD.out ht (Nat.le_refl _) BC.out.lt).trans BC.out); replace hS := Bc.cells KC.out; clear ht HC))
  go_wp2_with fail
  go_ret
  exact ⟨rfl, TT.out⟩
set_option maxRecDepth 100000 in
set_option maxHeartbeats 8000000 in
theorem seal_7 (h : Dm base X m ar cr av cv w) (hbase : base ≤ w.heap.size) (c : Cl) (pk : Option Addr) (nk ck : Nat) (h7 : c.k = 7) (hn : isName c.nm = true) :
    Calls Tryz.prog 35 #[.pointer (some ⟨X, 0, none⟩), .agg #[.int .i64 c.k, .int .i64 c.lb, .int .i64 c.ep, .int .i64 c.tm, .string ⟨c.da.toArray⟩, .string ⟨c.nm.toArray⟩, .slice pk nk ck]] w fun x w' => x = .returned (.int .i64 (slE m c)) ∧ Turn base X m ar cr av cv (slT m c) w w' := by
  obtain ⟨W1, hW1⟩ : ∃ W1, W1 = w.alloc (.cells #[.int .i64 c.k, .int .i64 c.lb, .int .i64 c.ep, .int .i64 c.tm, .string ⟨c.da.toArray⟩, .string ⟨c.nm.toArray⟩, .slice pk nk ck] 35) := ⟨_, rfl⟩
  have BB : Hid (Below w.heap.size w W1) := Lib.hid (by rw [hW1]; exact below_new w _)
  have BC : Hid (Bc W1 w.heap.size c pk nk ck) := Lib.hid (by rw [hW1]; exact heap_alloc_new w _)
  have HD := Lib.hid h
  have DD := Lib.hid (h.step BB.out)
  have HR := Lib.hid (fun W (h : Dm base X m ar cr av cv W) => room h)
  have HT := Lib.hid (fun W (h : Dm base X m ar cr av cv W) => there_ h c.ep true)
  have HN := Lib.hid (fun W => RecR.Name c.nm W)
  have hq : ∀ r, rcE m r (rm m) = 0 → m.used + 1 ≤ GeoN.data m.b m.lb m.f := fun r e => room_in h.ok (rec_ok e).2
  obtain ⟨k0, k1, k2, k3, k4, k5, k6⟩ := BC.out.cells
  have t6 : (c.k == 6) = false := by simp [h7]
  have t7 : (c.k == 7) = true := by simp [h7]
  have t8 : (c.k == 8) = false := by simp [h7]
  rw [hn] at HN
  by_cases ht : there m c.ep true ≠ 0
  · obtain ⟨e1, e2⟩ := sl_t (m := m) (c := c) (by rw [hn]; simp) (by omega) ht
    rw [e1, e2]
    have tt : (there m c.ep true != 0) = true := by simpa using ht
    clear h e1 e2 ht hq h7
    generalize there m c.ep true = t at *
    go_enter Tryz.func35, Tryz.ntmps35
    go_upto_region 1 with (fail)
    rw [← hW1]
    clear hW1
    go_wp2_with (first | (go_at_call 52; refine (HT.out _ DD.out).mono ?_; rintro e _ ⟨rfl, rfl⟩; clear HT) | (go_at_call 55; refine (HN.out _).mono ?_; rintro e _ ⟨rfl, rfl⟩; clear HN))
    go_ret
    exact ⟨rfl, Turn.still HD.out BB.out⟩
  have ht := Classical.not_not.1 ht
  rw [ht] at HT
  obtain ⟨e1, e2⟩ := sl_7 (m := m) (c := c) (by rw [hn]; simp) h7 ht
  rw [e1, e2]
  clear h e1 e2 ht h7
  have HC : Hid (∀ W, Dm base X m ar cr av cv W → base ≤ W.heap.size → Calls Tryz.prog 32 #[.pointer (some ⟨X, 0, none⟩), .agg #[.int .i64 3, .int .i64 0, .int .i64 0, .int .i64 0, .int .i64 c.ep, .int .i64 0, .string ⟨#[]⟩, .string ⟨c.nm.toArray⟩], .int .i64 (rm m)] W fun x w' => x = .returned (.int .i64 (rcE m ⟨3, 0, 0, 0, c.ep, 0, [], c.nm⟩ (rm m))) ∧ Turn base X m ar cr av cv (rcT m ⟨3, 0, 0, 0, c.ep, 0, [], c.nm⟩ (rm m)) W w') := Lib.hid (fun W hw hb => record hw hb ⟨3, 0, 0, 0, c.ep, 0, [], c.nm⟩ (rm m) (hq _))
  clear hq
  generalize rcE m ⟨3, 0, 0, 0, c.ep, 0, [], c.nm⟩ (rm m) = y at *
  generalize rcT m ⟨3, 0, 0, 0, c.ep, 0, [], c.nm⟩ (rm m) = m' at *
  generalize rm m = q at *
  go_enter Tryz.func35, Tryz.ntmps35
  go_upto_region 1 with (fail)
  rw [← hW1]
  clear hW1
  go_upto_region 14 with (first | (go_at_call 52; refine (HT.out _ DD.out).mono ?_; rintro e _ ⟨rfl, rfl⟩; clear HT) | (go_at_call 55; refine (HN.out _).mono ?_; rintro e _ ⟨rfl, rfl⟩; clear HN))
  have bd : Below W1.heap.size W1 W1.drew := (Below.refl _ _).drew
  replace BB := Lib.hid (BB.out.trans (bd.mono BB.out.size))
  replace BC := Lib.hid (BC.out.step bd)
  replace DD := Lib.hid (DD.out.step bd)
  have hS := BC.out.cells
  clear bd k0 k1 k2 k3 k4 k5 k6
  go_region_held3 (fun W => W.cell? ⟨w.heap.size, 0, none⟩ = some (.int .i64 c.k) ∧ W.cell? ⟨w.heap.size, 1, none⟩ = some (.int .i64 c.lb) ∧ W.cell? ⟨w.heap.size, 2, none⟩ = some (.int .i64 c.ep) ∧ W.cell? ⟨w.heap.size, 3, none⟩ = some (.int .i64 c.tm) ∧ W.cell? ⟨w.heap.size, 4, none⟩ = some (.string ⟨c.da.toArray⟩) ∧ W.cell? ⟨w.heap.size, 5, none⟩ = some (.string ⟨c.nm.toArray⟩) ∧ W.cell? ⟨w.heap.size, 6, none⟩ = some (.slice pk nk ck))
    (exact hS) (first | (go_at_call 51; refine (HR.out _ DD.out).mono ?_; rintro e w5 ⟨rfl, hb⟩; replace BB := Lib.hid (BB.out.trans (hb.mono BB.out.size)); replace BC := Lib.hid (BC.out.step hb); replace DD := Lib.hid (DD.out.step hb); replace hS := BC.out.cells; clear hb HR) | (go_at_call 32; refine (HC.out _ DD.out (Nat.le_trans hbase BB.out.size)).mono ?_; rintro e w6 ⟨rfl, ht⟩; have TT := Lib.hid (Turn.after HD.out BB.out ht); have KC := Lib.hid ((Turn.keep HD.out ht (Nat.le_refl _) BC.out.lt).trans BC.out); replace hS := Bc.cells KC.out; clear ht HC))
  go_wp2_with fail
  go_ret
  exact ⟨rfl, TT.out⟩
set_option maxRecDepth 100000 in
set_option maxHeartbeats 8000000 in
theorem seal_9 (h : Dm base X m ar cr av cv w) (hbase : base ≤ w.heap.size) (c : Cl) (pk : Option Addr) (nk ck : Nat) (h6 : c.k ≠ 6) (h7 : c.k ≠ 7) (h8 : c.k ≠ 8) :
    Calls Tryz.prog 35 #[.pointer (some ⟨X, 0, none⟩), .agg #[.int .i64 c.k, .int .i64 c.lb, .int .i64 c.ep, .int .i64 c.tm, .string ⟨c.da.toArray⟩, .string ⟨c.nm.toArray⟩, .slice pk nk ck]] w fun x w' => x = .returned (.int .i64 (slE m c)) ∧ Turn base X m ar cr av cv (slT m c) w w' := by
  obtain ⟨W1, hW1⟩ : ∃ W1, W1 = w.alloc (.cells #[.int .i64 c.k, .int .i64 c.lb, .int .i64 c.ep, .int .i64 c.tm, .string ⟨c.da.toArray⟩, .string ⟨c.nm.toArray⟩, .slice pk nk ck] 35) := ⟨_, rfl⟩
  have BB : Hid (Below w.heap.size w W1) := Lib.hid (by rw [hW1]; exact below_new w _)
  have BC : Hid (Bc W1 w.heap.size c pk nk ck) := Lib.hid (by rw [hW1]; exact heap_alloc_new w _)
  have HD := Lib.hid h
  have DD := Lib.hid (h.step BB.out)
  have HR := Lib.hid (fun W (h : Dm base X m ar cr av cv W) => room h)
  have HT := Lib.hid (fun W (h : Dm base X m ar cr av cv W) => there_ h c.ep true)
  have HN := Lib.hid (fun W => RecR.Name c.nm W)
  have hq : ∀ r, rcE m r (rm m) = 0 → m.used + 1 ≤ GeoN.data m.b m.lb m.f := fun r e => room_in h.ok (rec_ok e).2
  obtain ⟨k0, k1, k2, k3, k4, k5, k6⟩ := BC.out.cells
  have t6 : (c.k == 6) = false := by simp [h6]
  have t7 : (c.k == 7) = false := by simp [h7]
  have t8 : (c.k == 8) = false := by simp [h8]
  clear HN
  by_cases ht : there m c.ep true ≠ 0
  · obtain ⟨e1, e2⟩ := sl_t (m := m) (c := c) (by omega) h8 ht
    rw [e1, e2]
    have tt : (there m c.ep true != 0) = true := by simpa using ht
    clear h e1 e2 ht hq h6 h7 h8
    generalize there m c.ep true = t at *
    go_enter Tryz.func35, Tryz.ntmps35
    go_upto_region 1 with (fail)
    rw [← hW1]
    clear hW1
    go_wp2_with (go_at_call 52; refine (HT.out _ DD.out).mono ?_; rintro e _ ⟨rfl, rfl⟩; clear HT)
    go_ret
    exact ⟨rfl, Turn.still HD.out BB.out⟩
  have ht := Classical.not_not.1 ht
  rw [ht] at HT
  obtain ⟨e1, e2⟩ := sl_9 (m := m) h6 h7 h8 ht
  rw [e1, e2]
  have HU := Lib.hid (fun W (h : Dm base X m ar cr av cv W) => Until h c.ep)
  clear h e1 e2 ht h6 h7 h8
  have HC : Hid (∀ W, Dm base X m ar cr av cv W → base ≤ W.heap.size → Calls Tryz.prog 32 #[.pointer (some ⟨X, 0, none⟩), .agg #[.int .i64 5, .int .i64 0, .int .i64 0, .int .i64 0, .int .i64 c.ep, .int .i64 (m.s.un c.ep), .string ⟨#[]⟩, .string ⟨#[]⟩], .int .i64 (rm m)] W fun x w' => x = .returned (.int .i64 (rcE m ⟨5, 0, 0, 0, c.ep, m.s.un c.ep, [], []⟩ (rm m))) ∧ Turn base X m ar cr av cv (rcT m ⟨5, 0, 0, 0, c.ep, m.s.un c.ep, [], []⟩ (rm m)) W w') := Lib.hid (fun W hw hb => record hw hb ⟨5, 0, 0, 0, c.ep, m.s.un c.ep, [], []⟩ (rm m) (hq _))
  clear hq
  generalize rcE m ⟨5, 0, 0, 0, c.ep, m.s.un c.ep, [], []⟩ (rm m) = y at *
  generalize rcT m ⟨5, 0, 0, 0, c.ep, m.s.un c.ep, [], []⟩ (rm m) = m' at *
  generalize rm m = q at *
  generalize m.s.un c.ep = u at *
  go_enter Tryz.func35, Tryz.ntmps35
  go_upto_region 1 with (fail)
  rw [← hW1]
  clear hW1
  go_upto_region 15 with (go_at_call 52; refine (HT.out _ DD.out).mono ?_; rintro e _ ⟨rfl, rfl⟩; clear HT)
  have bd : Below W1.heap.size W1 W1.drew := (Below.refl _ _).drew
  replace BB := Lib.hid (BB.out.trans (bd.mono BB.out.size))
  replace BC := Lib.hid (BC.out.step bd)
  replace DD := Lib.hid (DD.out.step bd)
  have hS := BC.out.cells
  clear bd k0 k1 k2 k3 k4 k5 k6
  go_region_held3 (fun W => W.cell? ⟨w.heap.size, 0, none⟩ = some (.int .i64 c.k) ∧ W.cell? ⟨w.heap.size, 1, none⟩ = some (.int .i64 c.lb) ∧ W.cell? ⟨w.heap.size, 2, none⟩ = some (.int .i64 c.ep) ∧ W.cell? ⟨w.heap.size, 3, none⟩ = some (.int .i64 c.tm) ∧ W.cell? ⟨w.heap.size, 4, none⟩ = some (.string ⟨c.da.toArray⟩) ∧ W.cell? ⟨w.heap.size, 5, none⟩ = some (.string ⟨c.nm.toArray⟩) ∧ W.cell? ⟨w.heap.size, 6, none⟩ = some (.slice pk nk ck))
    (exact hS) (first | (go_at_call 51; refine (HR.out _ DD.out).mono ?_; rintro e w5 ⟨rfl, hb⟩; replace BB := Lib.hid (BB.out.trans (hb.mono BB.out.size)); replace BC := Lib.hid (BC.out.step hb); replace DD := Lib.hid (DD.out.step hb); replace hS := BC.out.cells; clear hb HR) | (go_at_call 56; refine (HU.out _ DD.out).mono ?_; rintro e _ ⟨rfl, rfl⟩; clear HU) | (go_at_call 32; refine (HC.out _ DD.out (Nat.le_trans hbase BB.out.size)).mono ?_; rintro e w6 ⟨rfl, ht⟩; have TT := Lib.hid (Turn.after HD.out BB.out ht); have KC := Lib.hid ((Turn.keep HD.out ht (Nat.le_refl _) BC.out.lt).trans BC.out); replace hS := Bc.cells KC.out; clear ht HC))
  go_wp2_with fail
  go_ret
  exact ⟨rfl, TT.out⟩
/-- seal: any call. -/
theorem seal_ (h : Dm base X m ar cr av cv w) (hbase : base ≤ w.heap.size) (c : Cl) (pk : Option Addr) (nk ck : Nat) :
    Calls Tryz.prog 35 #[.pointer (some ⟨X, 0, none⟩), .agg #[.int .i64 c.k, .int .i64 c.lb, .int .i64 c.ep, .int .i64 c.tm, .string ⟨c.da.toArray⟩, .string ⟨c.nm.toArray⟩, .slice pk nk ck]] w fun x w' => x = .returned (.int .i64 (slE m c)) ∧ Turn base X m ar cr av cv (slT m c) w w' := by
  by_cases h7 : c.k = 7
  · cases hn : isName c.nm with
    | false => exact seal_a h hbase c pk nk ck (.inl h7) hn
    | true => exact seal_7 h hbase c pk nk ck h7 hn
  by_cases h8 : c.k = 8
  · cases hn : isName c.nm with
    | false => exact seal_a h hbase c pk nk ck (.inr h8) hn
    | true => exact seal_8 h hbase c pk nk ck h8 hn
  by_cases h6 : c.k = 6
  · exact seal_6 h hbase c pk nk ck h6
  · exact seal_9 h hbase c pk nk ck h6 h7 h8
end
end Go.Proofs.YtopnodkdpehdoaaGreatDoor.MdI
/- The document's model: Stat: the walk of its text. No conditions but those that each lemma names. -/
namespace Go.Proofs.YtopnodkdpehdoaaGreatDoor.MdJ
set_option linter.unusedVariables false
open Go.RowKit
open RecN RecC RetN DbN RetR DbC DbD DbE DbF DbM DbA MdN MdC MdD MdE MdF AnsC MdG MdH MdI
/-- A stat's cells. -/
def stA (s : Sta) : Array Value := #[.int .i64 s.ep, .int .i64 s.ck, .int .i64 s.fr, .int .i64 s.rc, .int .i64 s.pl, .int .i64 s.ho]
theorem infoS : (Tryz.prog.info? 37).map (·.size) = some 6 := by kernel_rfl
theorem one6 (a b c d e f : Int) : (#[.int .i64 a, .int .i64 b, .int .i64 c, .int .i64 d, .int .i64 e, .int .i64 f] : Array Value).all (·.oneCell') = true := by simp [Value.oneCell']
section
variable {base X : Nat} {m : Mo} {ar : Option Addr} {cr : Nat} {av : Option Addr} {cv : Nat} {w : World}
set_option maxRecDepth 100000 in
set_option maxHeartbeats 16000000 in
theorem Stat (h : Dm base X m ar cr av cv w) : Calls Tryz.prog 36 #[.pointer (some ⟨X, 0, none⟩)] w fun x w' => x = .returned (.agg (stA (sta m))) ∧ Below w.heap.size w w' := by
  obtain ⟨W1, hW1⟩ : ∃ W1, W1 = w.alloc (.cells #[.int .i64 0, .int .i64 0, .int .i64 0, .int .i64 0, .int .i64 0, .int .i64 0] 37) := ⟨_, rfl⟩
  have BR : Hid (Below w.heap.size w W1.drew ∧ W1.drew.heap[w.heap.size]? = some (.cells #[.int .i64 0, .int .i64 0, .int .i64 0, .int .i64 0, .int .i64 0, .int .i64 0] 37 (0, 0))) := Lib.hid (by rw [hW1]; exact ⟨(below_new w _).drew, heap_alloc_new w _⟩)
  have HD := Lib.hid h
  have DD := Lib.hid (h.step BR.out.1)
  have HE := Lib.hid (fun W (h : Dm base X m ar cr av cv W) => Epoch h)
  have HR := Lib.hid (fun W (h : Dm base X m ar cr av cv W) => room h)
  have HP := Lib.hid (fun W (h : Dm base X m ar cr av cv W) => Places h m.f)
  have HN := Lib.hid (fun W (h : Dm base X m ar cr av cv W) => Names h)
  have CC : Hid (∀ W, Dm base X m ar cr av cv W → W.cell? ⟨X, 2, none⟩ = some (.int .i64 m.f) ∧ W.cell? ⟨X, 4, none⟩ = some (.int .i64 m.ck) ∧ W.cell? ⟨X, 6, none⟩ = some (.slice ar m.l.length cr)) := Lib.hid (fun W h => ⟨h.cells.2.2.1, h.cells.2.2.2.2.1, h.cells.2.2.2.2.2.2.1⟩)
  have hS := CC.out _ DD.out
  have e0 : sta m = ⟨m.s.ep, m.ck, rm m, m.l.length, plc m.vs m.f m.lb.toNat, m.s.hs.length⟩ := rfl
  rw [e0]
  clear h e0
  generalize m.s.ep = ep at *
  generalize rm m = q at *
  generalize plc m.vs m.f m.lb.toNat = pc at *
  generalize m.ck = ck at *
  generalize m.s.hs.length = hc at *
  go_enter Tryz.func36, Tryz.ntmps36
  go_upto_region 1 with (fail)
  rw [← hW1]
  clear hW1
  refine wp_region_held_drew (S := fun W => W.cell? ⟨X, 2, none⟩ = some (.int .i64 m.f) ∧ W.cell? ⟨X, 4, none⟩ = some (.int .i64 ck) ∧ W.cell? ⟨X, 6, none⟩ = some (.slice ar m.l.length cr)) (by kernel_rfl) hS (fun _ => ?_)
  change wpAnyH _ _ _ _ _ _ #[false, false, false, false, false, false, false, false, false, false, false, false, false, false, false, false, false, false, false, false, false, false, false, false, false, false, false, false, false, false] _ _
  refine wpAnyH_take (i := 0) (v := ?v1) (by rw [List.getElem?_toArray]; rfl) (by kernel_rfl) (by kernel_rfl) (by kernel_rfl) (by intro _ _ _ h; exact h) (Or.inl ⟨by rfl, ?hy1⟩) (by assumption) ?rest1
  case hy1 => (intro W hSW; (try dsimp only at hSW); go_simp; try with_reducible rfl)
  try simp only [Act.put, List.setIfInBounds_toArray, List.set_cons_zero, List.set_cons_succ]
  refine wpAnyH_take (i := 1) (v := ?v2) (by rw [List.getElem?_toArray]; rfl) (by kernel_rfl) (by kernel_rfl) (by kernel_rfl) (by intro _ _ _ h; exact h) (Or.inl ⟨by rfl, ?hy2⟩) (by assumption) ?rest2
  case hy2 => (intro W hSW; (try dsimp only at hSW); go_simp; try with_reducible rfl)
  try simp only [Act.put, List.setIfInBounds_toArray, List.set_cons_zero, List.set_cons_succ]
  refine wpAnyH_take (i := 2) (v := ?v3) (by rw [List.getElem?_toArray]; rfl) (by kernel_rfl) (by kernel_rfl) (by kernel_rfl) (by intro _ _ _ h; exact h) (Or.inl ⟨by rfl, ?hy3⟩) (by assumption) ?rest3
  case hy3 => (intro W hSW; (try dsimp only at hSW); go_simp; try with_reducible rfl)
  try simp only [Act.put, List.setIfInBounds_toArray, List.set_cons_zero, List.set_cons_succ]
  refine wpAnyH_take (i := 4) (v := ?v4) (by rw [List.getElem?_toArray]; rfl) (by kernel_rfl) (by kernel_rfl) (by kernel_rfl) (by intro _ _ _ h; exact h) (Or.inl ⟨by rfl, ?hy4⟩) (by assumption) ?rest4
  case hy4 => (intro W hSW; (try dsimp only at hSW); go_simp; try with_reducible rfl)
  try simp only [Act.put, List.setIfInBounds_toArray, List.set_cons_zero, List.set_cons_succ]
  refine wpAnyH_take (i := 5) (v := ?v5) (by rw [List.getElem?_toArray]; rfl) (by kernel_rfl) (by kernel_rfl) (by kernel_rfl) (by intro _ _ _ h; exact h) (Or.inl ⟨by rfl, ?hy5⟩) (by assumption) ?rest5
  case hy5 => (intro W hSW; (try dsimp only at hSW); go_simp; try with_reducible rfl)
  try simp only [Act.put, List.setIfInBounds_toArray, List.set_cons_zero, List.set_cons_succ]
  refine wpAnyH_take (i := 6) (v := ?v6) (by rw [List.getElem?_toArray]; rfl) (by kernel_rfl) (by kernel_rfl) (by kernel_rfl) (by intro _ _ _ h; exact h) (Or.inl ⟨by rfl, ?hy6⟩) (by assumption) ?rest6
  case hy6 => (intro W hSW; (try dsimp only at hSW); go_simp; try with_reducible rfl)
  try simp only [Act.put, List.setIfInBounds_toArray, List.set_cons_zero, List.set_cons_succ]
  refine wpAnyH_take (i := 7) (v := ?v7) (by rw [List.getElem?_toArray]; rfl) (by kernel_rfl) (by kernel_rfl) (by kernel_rfl) (by intro _ _ _ h; exact h) (Or.inl ⟨by rfl, ?hy7⟩) (by assumption) ?rest7
  case hy7 => (intro W hSW; (try dsimp only at hSW); go_simp; try with_reducible rfl)
  try simp only [Act.put, List.setIfInBounds_toArray, List.set_cons_zero, List.set_cons_succ]
  refine wpAnyH_take (i := 8) (v := ?v8) (by rw [List.getElem?_toArray]; rfl) (by kernel_rfl) (by kernel_rfl) (by kernel_rfl) (by intro _ _ _ h; exact h) (Or.inl ⟨by rfl, ?hy8⟩) (by assumption) ?rest8
  case hy8 => (intro W hSW; (try dsimp only at hSW); go_simp; try with_reducible rfl)
  try simp only [Act.put, List.setIfInBounds_toArray, List.set_cons_zero, List.set_cons_succ]
  refine wpAnyH_take (i := 10) (v := ?v9) (by rw [List.getElem?_toArray]; rfl) (by kernel_rfl) (by kernel_rfl) (by kernel_rfl) (by intro _ _ _ h; exact h) (Or.inl ⟨by rfl, ?hy9⟩) (by assumption) ?rest9
  case hy9 => (intro W hSW; (try dsimp only at hSW); go_simp; try with_reducible rfl)
  try simp only [Act.put, List.setIfInBounds_toArray, List.set_cons_zero, List.set_cons_succ]
  refine wpAnyH_take (i := 11) (v := ?v10) (by rw [List.getElem?_toArray]; rfl) (by kernel_rfl) (by kernel_rfl) (by kernel_rfl) (by intro _ _ _ h; exact h) (Or.inl ⟨by rfl, ?hy10⟩) (by assumption) ?rest10
  case hy10 => (intro W hSW; (try dsimp only at hSW); go_simp; try with_reducible rfl)
  try simp only [Act.put, List.setIfInBounds_toArray, List.set_cons_zero, List.set_cons_succ]
  refine wpAnyH_take (i := 12) (v := ?v11) (by rw [List.getElem?_toArray]; rfl) (by kernel_rfl) (by kernel_rfl) (by kernel_rfl) (by intro _ _ _ h; exact h) (Or.inl ⟨by rfl, ?hy11⟩) (by assumption) ?rest11
  case hy11 => (intro W hSW; (try dsimp only at hSW); go_simp; try with_reducible rfl)
  try simp only [Act.put, List.setIfInBounds_toArray, List.set_cons_zero, List.set_cons_succ]
  refine wpAnyH_take (i := 13) (v := ?v12) (by rw [List.getElem?_toArray]; rfl) (by kernel_rfl) (by kernel_rfl) (by kernel_rfl) (by intro _ _ _ h; exact h) (Or.inl ⟨by rfl, ?hy12⟩) (by assumption) ?rest12
  case hy12 => (intro W hSW; (try dsimp only at hSW); go_simp; try with_reducible rfl)
  try simp only [Act.put, List.setIfInBounds_toArray, List.set_cons_zero, List.set_cons_succ]
  refine wpAnyH_take (i := 14) (v := ?v13) (by rw [List.getElem?_toArray]; rfl) (by kernel_rfl) (by kernel_rfl) (by kernel_rfl) (by intro _ _ _ h; exact h) (Or.inl ⟨by rfl, ?hy13⟩) (by assumption) ?rest13
  case hy13 => (intro W hSW; (try dsimp only at hSW); go_simp; try with_reducible rfl)
  try simp only [Act.put, List.setIfInBounds_toArray, List.set_cons_zero, List.set_cons_succ]
  refine wpAnyH_take (i := 15) (v := ?v14) (by rw [List.getElem?_toArray]; rfl) (by kernel_rfl) (by kernel_rfl) (by kernel_rfl) (by intro _ _ _ h; exact h) (Or.inl ⟨by rfl, ?hy14⟩) (by assumption) ?rest14
  case hy14 => (intro W hSW; (try dsimp only at hSW); go_simp; try with_reducible rfl)
  try simp only [Act.put, List.setIfInBounds_toArray, List.set_cons_zero, List.set_cons_succ]
  refine wpAnyH_take (i := 16) (v := ?v15) (by rw [List.getElem?_toArray]; rfl) (by kernel_rfl) (by kernel_rfl) (by kernel_rfl) (by intro _ _ _ h; exact h) (Or.inl ⟨by rfl, ?hy15⟩) (by assumption) ?rest15
  case hy15 => (intro W hSW; (try dsimp only at hSW); go_simp; try with_reducible rfl)
  try simp only [Act.put, List.setIfInBounds_toArray, List.set_cons_zero, List.set_cons_succ]
  refine wpAnyH_take (i := 17) (v := ?v16) (by rw [List.getElem?_toArray]; rfl) (by kernel_rfl) (by kernel_rfl) (by kernel_rfl) (by intro _ _ _ h; exact h) (Or.inl ⟨by rfl, ?hy16⟩) (by assumption) ?rest16
  case hy16 => (intro W hSW; (try dsimp only at hSW); go_simp; try with_reducible rfl)
  try simp only [Act.put, List.setIfInBounds_toArray, List.set_cons_zero, List.set_cons_succ]
  refine wpAnyH_take (i := 18) (v := ?v17) (by rw [List.getElem?_toArray]; rfl) (by kernel_rfl) (by kernel_rfl) (by kernel_rfl) (by intro _ _ _ h; exact h) (Or.inl ⟨by rfl, ?hy17⟩) (by assumption) ?rest17
  case hy17 => (intro W hSW; (try dsimp only at hSW); go_simp; try with_reducible rfl)
  try simp only [Act.put, List.setIfInBounds_toArray, List.set_cons_zero, List.set_cons_succ]
  refine wpAnyH_take (i := 19) (v := ?v18) (by rw [List.getElem?_toArray]; rfl) (by kernel_rfl) (by kernel_rfl) (by kernel_rfl) (by intro _ _ _ h; exact h) (Or.inl ⟨by rfl, ?hy18⟩) (by assumption) ?rest18
  case hy18 => (intro W hSW; (try dsimp only at hSW); go_simp; try with_reducible rfl)
  try simp only [Act.put, List.setIfInBounds_toArray, List.set_cons_zero, List.set_cons_succ]
  refine wpAnyH_take (i := 20) (v := ?v19) (by rw [List.getElem?_toArray]; rfl) (by kernel_rfl) (by kernel_rfl) (by kernel_rfl) (by intro _ _ _ h; exact h) (Or.inl ⟨by rfl, ?hy19⟩) (by assumption) ?rest19
  case hy19 => (intro W hSW; (try dsimp only at hSW); go_simp; try with_reducible rfl)
  try simp only [Act.put, List.setIfInBounds_toArray, List.set_cons_zero, List.set_cons_succ]
  refine wpAnyH_take (i := 21) (v := ?v20) (by rw [List.getElem?_toArray]; rfl) (by kernel_rfl) (by kernel_rfl) (by kernel_rfl) (by intro _ _ _ h; exact h) (Or.inl ⟨by rfl, ?hy20⟩) (by assumption) ?rest20
  case hy20 => (intro W hSW; (try dsimp only at hSW); go_simp; try with_reducible rfl)
  try simp only [Act.put, List.setIfInBounds_toArray, List.set_cons_zero, List.set_cons_succ]
  refine wpAnyH_take (i := 23) (v := ?v21) (by rw [List.getElem?_toArray]; rfl) (by kernel_rfl) (by kernel_rfl) (by kernel_rfl) (by intro _ _ _ h; exact h) (Or.inl ⟨by rfl, ?hy21⟩) (by assumption) ?rest21
  case hy21 => (intro W hSW; (try dsimp only at hSW); go_simp; try with_reducible rfl)
  try simp only [Act.put, List.setIfInBounds_toArray, List.set_cons_zero, List.set_cons_succ]
  refine wpAnyH_take (i := 24) (v := ?v22) (by rw [List.getElem?_toArray]; rfl) (by kernel_rfl) (by kernel_rfl) (by kernel_rfl) (by intro _ _ _ h; exact h) (Or.inl ⟨by rfl, ?hy22⟩) (by assumption) ?rest22
  case hy22 => (intro W hSW; (try dsimp only at hSW); go_simp; try with_reducible rfl)
  try simp only [Act.put, List.setIfInBounds_toArray, List.set_cons_zero, List.set_cons_succ]
  refine wpAnyH_take (i := 25) (v := ?v23) (by rw [List.getElem?_toArray]; rfl) (by kernel_rfl) (by kernel_rfl) (by kernel_rfl) (by intro _ _ _ h; exact h) (Or.inl ⟨by rfl, ?hy23⟩) (by assumption) ?rest23
  case hy23 => (intro W hSW; (try dsimp only at hSW); go_simp; try with_reducible rfl)
  try simp only [Act.put, List.setIfInBounds_toArray, List.set_cons_zero, List.set_cons_succ]
  refine wpAnyH_ready (rs := [3]) (by kernel_rfl) (by simp) (AllReadyH.cons (by rw [List.getElem?_toArray]; rfl) (fun K hK => ?_) AllReadyH.nil)
  go_simp
  refine (HE.out _ DD.out).mono ?_
  rintro e _ ⟨rfl, rfl⟩
  refine hK.out _ _ hS (fun _ => ?_)
  clear hK K
  try simp only [List.setIfInBounds_toArray, List.set_cons_zero, List.set_cons_succ]
  refine wpAnyH_ready (rs := [9]) (by kernel_rfl) (by simp) (AllReadyH.cons (by rw [List.getElem?_toArray]; rfl) (fun K hK => ?_) AllReadyH.nil)
  go_simp
  refine (HR.out _ DD.out).mono ?_
  rintro e wn ⟨rfl, hb⟩
  replace BR := Lib.hid (And.intro (BR.out.1.trans (hb.mono BR.out.1.size)) ((hb.block _ (RecC.lt_of_some BR.out.2)).trans BR.out.2))
  replace DD := Lib.hid (DD.out.step hb)
  replace hS := CC.out _ DD.out
  clear hb
  refine hK.out _ _ hS (fun _ => ?_)
  clear hK K
  try simp only [List.setIfInBounds_toArray, List.set_cons_zero, List.set_cons_succ]
  refine wpAnyH_ready (rs := [22]) (by kernel_rfl) (by simp) (AllReadyH.cons (by rw [List.getElem?_toArray]; rfl) (fun K hK => ?_) AllReadyH.nil)
  go_simp
  refine (HP.out _ DD.out).mono ?_
  rintro e wn ⟨rfl, hb⟩
  replace BR := Lib.hid (And.intro (BR.out.1.trans (hb.mono BR.out.1.size)) ((hb.block _ (RecC.lt_of_some BR.out.2)).trans BR.out.2))
  replace DD := Lib.hid (DD.out.step hb)
  replace hS := CC.out _ DD.out
  clear hb
  refine hK.out _ _ hS (fun _ => ?_)
  clear hK K
  try simp only [List.setIfInBounds_toArray, List.set_cons_zero, List.set_cons_succ]
  refine wpAnyH_ready (rs := [26]) (by kernel_rfl) (by simp) (AllReadyH.cons (by rw [List.getElem?_toArray]; rfl) (fun K hK => ?_) AllReadyH.nil)
  go_simp
  refine (HN.out _ DD.out).mono ?_
  rintro e wn ⟨⟨pn, cn, rfl⟩, hb⟩
  replace BR := Lib.hid (And.intro (BR.out.1.trans (hb.mono BR.out.1.size)) ((hb.block _ (RecC.lt_of_some BR.out.2)).trans BR.out.2))
  replace DD := Lib.hid (DD.out.step hb)
  replace hS := CC.out _ DD.out
  clear hb
  refine hK.out _ _ hS (fun _ => ?_)
  clear hK K
  try simp only [List.setIfInBounds_toArray, List.set_cons_zero, List.set_cons_succ]
  refine wpAnyH_take (i := 27) (v := ?v24) (by rw [List.getElem?_toArray]; rfl) (by kernel_rfl) (by kernel_rfl) (by kernel_rfl) (by intro _ _ _ h; exact h) (Or.inl ⟨by rfl, ?hy24⟩) (by assumption) ?rest24
  case hy24 => (intro W hSW; (try dsimp only at hSW); go_simp; try with_reducible rfl)
  try simp only [Act.put, List.setIfInBounds_toArray, List.set_cons_zero, List.set_cons_succ]
  refine wpAnyH_take (i := 28) (v := ?v25) (by rw [List.getElem?_toArray]; rfl) (by kernel_rfl) (by kernel_rfl) (by kernel_rfl) (by intro _ _ _ h; exact h) (Or.inl ⟨by rfl, ?hy25⟩) (by assumption) ?rest25
  case hy25 => (intro W hSW; (try dsimp only at hSW); go_simp; try with_reducible rfl)
  try simp only [Act.put, List.setIfInBounds_toArray, List.set_cons_zero, List.set_cons_succ]
  refine wpAnyH_ready (rs := [29]) (by kernel_rfl) (by simp) (AllReadyH.cons (by rw [List.getElem?_toArray]; rfl) (fun K hK => ?_) AllReadyH.nil)
  rw [if_pos (by rfl)]
  refine wp_store_row 37 _ _ rfl w.heap.size #[.int .i64 ep, .int .i64 ck, .int .i64 q, .int .i64 m.l.length, .int .i64 (pc : Nat), .int .i64 (hc : Nat)] rfl rfl 37 #[.int .i64 0, .int .i64 0, .int .i64 0, .int .i64 0, .int .i64 0, .int .i64 0] BR.out.2 infoS rfl (one6 _ _ _ _ _ _) ?_
  have bs := below_setRow BR.out.1 (Nat.le_refl _) #[.int .i64 ep, .int .i64 ck, .int .i64 q, .int .i64 m.l.length, .int .i64 (pc : Nat), .int .i64 (hc : Nat)]
  have cs := setRow_same (cs := #[.int .i64 ep, .int .i64 ck, .int .i64 q, .int .i64 m.l.length, .int .i64 (pc : Nat), .int .i64 (hc : Nat)]) BR.out.2
  have D9 := HD.out.step bs
  replace hS := CC.out _ D9
  refine hK.out _ _ hS (fun _ => ?_)
  clear hK K
  try simp only [List.setIfInBounds_toArray, List.set_cons_zero, List.set_cons_succ]
  refine wpAnyH_done (by kernel_rfl) ?_ _
  go_wp2
  exact bodyPost_ret (v := .agg #[.int .i64 ep, .int .i64 ck, .int .i64 q, .int .i64 m.l.length, .int .i64 (pc : Nat), .int .i64 (hc : Nat)])
    (results_cell_row Tryz.results36 _ _ w.heap.size 37 _ (0, 0) _ rfl cs Tryz.underlying37 rfl infoS) rfl ⟨rfl, bs⟩
end
end Go.Proofs.YtopnodkdpehdoaaGreatDoor.MdJ
