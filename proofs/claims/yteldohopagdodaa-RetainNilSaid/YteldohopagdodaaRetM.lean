/- Why a record is refused, whatever its kind: the walk of the inner book's may. The condition: the epoch that the record means is a number of its type. -/
import Derived.Test.YteldohopagdodaaRetP
import Derived.BigQuiet
namespace Go.Proofs.Yteldohopagdodaa.RetM
set_option linter.unusedVariables false
open Go.RowKit Go.Maps
open RecN RecC RecK RetN RetC RetH RetP
set_option maxRecDepth 100000 in
set_option maxHeartbeats 4000000 in
theorem may_bad (A : Pl) (s : St) (r : Rec) (w : World) (h : In A s w) (hr : ¬ right r) : Calls Try.prog 24 #[.pointer (some ⟨A.c, 0, none⟩), .agg #[.int .i64 r.k, .int .i64 r.ep, .int .i64 r.tm, .int .i64 r.ct, .int .i64 r.tg, .int .i64 r.un, .string ⟨r.rt.toArray⟩, .string ⟨r.nm.toArray⟩]] w fun x w' => x = .returned (.int .i64 2) ∧ Below w.heap.size w w' := by
  obtain ⟨W1, hW1⟩ : ∃ W1, W1 = w.alloc (.cells #[.int .i64 r.k, .int .i64 r.ep, .int .i64 r.tm, .int .i64 r.ct, .int .i64 r.tg, .int .i64 r.un, .string ⟨r.rt.toArray⟩, .string ⟨r.nm.toArray⟩] 30) := ⟨_, rfl⟩
  have SS : Hid (Wr A s r w W1) := Lib.hid (by rw [hW1]; exact wr_new h r)
  have HK := Lib.hid (fun W => Check r W)
  obtain ⟨k0, k1, k2, k3, k4, k5, k6, k7⟩ := SS.out.ws.k.cells
  rw [check_no hr] at HK
  clear h hr
  go_enter Try.func24, Try.ntmps24
  go_upto_region 1 with (fail)
  rw [← hW1]
  clear hW1
  go_wp2_with (go_at_call 30; refine (HK.out _).mono ?_; rintro e w2 ⟨rfl, hb⟩; replace SS := Lib.hid (SS.out.step hb); obtain ⟨k0, k1, k2, k3, k4, k5, k6, k7⟩ := SS.out.ws.k.cells; clear hb HK)
  go_ret
  exact ⟨rfl, SS.out.ws.bel⟩
set_option maxRecDepth 100000 in
set_option maxHeartbeats 4000000 in
theorem may_ep (A : Pl) (s : St) (r : Rec) (w : World) (h : In A s w) (hr : right r) (he : r.ep ≠ s.ep) : Calls Try.prog 24 #[.pointer (some ⟨A.c, 0, none⟩), .agg #[.int .i64 r.k, .int .i64 r.ep, .int .i64 r.tm, .int .i64 r.ct, .int .i64 r.tg, .int .i64 r.un, .string ⟨r.rt.toArray⟩, .string ⟨r.nm.toArray⟩]] w fun x w' => x = .returned (.int .i64 16) ∧ Below w.heap.size w w' := by
  obtain ⟨W1, hW1⟩ : ∃ W1, W1 = w.alloc (.cells #[.int .i64 r.k, .int .i64 r.ep, .int .i64 r.tm, .int .i64 r.ct, .int .i64 r.tg, .int .i64 r.un, .string ⟨r.rt.toArray⟩, .string ⟨r.nm.toArray⟩] 30) := ⟨_, rfl⟩
  have SS : Hid (Wr A s r w W1) := Lib.hid (by rw [hW1]; exact wr_new h r)
  have HK := Lib.hid (fun W => Check r W)
  obtain ⟨k0, k1, k2, k3, k4, k5, k6, k7⟩ := SS.out.ws.k.cells
  rw [check_yes hr] at HK
  have hq : (r.ep != s.ep) = true := by simpa using he
  clear h hr he
  go_enter Try.func24, Try.ntmps24
  go_upto_region 1 with (fail)
  rw [← hW1]
  clear hW1
  go_upto_region 4 with (go_at_call 30; refine (HK.out _).mono ?_; rintro e w2 ⟨rfl, hb⟩; replace SS := Lib.hid (SS.out.step hb); obtain ⟨k0, k1, k2, k3, k4, k5, k6, k7⟩ := SS.out.ws.k.cells; clear hb HK)
  have kk := SS.out.i.cells.2.2.1
  have kc := SS.out.i.cells.1
  go_quiet (fail)
  go_wp2
  go_ret
  exact ⟨rfl, SS.out.ws.bel.trans (below_drewN _ _)⟩
set_option maxRecDepth 100000 in
set_option maxHeartbeats 4000000 in
theorem may_tm (A : Pl) (s : St) (r : Rec) (w : World) (h : In A s w) (hr : right r) (he : r.ep = s.ep) (ht : r.tm < s.now) : Calls Try.prog 24 #[.pointer (some ⟨A.c, 0, none⟩), .agg #[.int .i64 r.k, .int .i64 r.ep, .int .i64 r.tm, .int .i64 r.ct, .int .i64 r.tg, .int .i64 r.un, .string ⟨r.rt.toArray⟩, .string ⟨r.nm.toArray⟩]] w fun x w' => x = .returned (.int .i64 16) ∧ Below w.heap.size w w' := by
  obtain ⟨W1, hW1⟩ : ∃ W1, W1 = w.alloc (.cells #[.int .i64 r.k, .int .i64 r.ep, .int .i64 r.tm, .int .i64 r.ct, .int .i64 r.tg, .int .i64 r.un, .string ⟨r.rt.toArray⟩, .string ⟨r.nm.toArray⟩] 30) := ⟨_, rfl⟩
  have SS : Hid (Wr A s r w W1) := Lib.hid (by rw [hW1]; exact wr_new h r)
  have HK := Lib.hid (fun W => Check r W)
  obtain ⟨k0, k1, k2, k3, k4, k5, k6, k7⟩ := SS.out.ws.k.cells
  rw [check_yes hr] at HK
  have hq : (r.ep != s.ep) = false := by simpa using he
  have HC := Lib.hid (fun W h => CloM.Now A.k 0 s.now W h)
  clear h hr he
  go_enter Try.func24, Try.ntmps24
  go_upto_region 1 with (fail)
  rw [← hW1]
  clear hW1
  go_upto_region 4 with (go_at_call 30; refine (HK.out _).mono ?_; rintro e w2 ⟨rfl, hb⟩; replace SS := Lib.hid (SS.out.step hb); obtain ⟨k0, k1, k2, k3, k4, k5, k6, k7⟩ := SS.out.ws.k.cells; clear hb HK)
  replace SS := Lib.hid SS.out.drew
  have hS := And.intro SS.out.i.cells.1 (And.intro SS.out.i.cells.2.2.1 SS.out.ws.k.cells)
  go_region_held3 (fun W => W.cell? ⟨A.c, 0, none⟩ = some (.pointer (some ⟨A.k, 0, none⟩)) ∧ W.cell? ⟨A.c, 2, none⟩ = some (.int .i64 s.ep) ∧ W.cell? ⟨w.heap.size, 0, none⟩ = some (.int .i64 r.k) ∧ W.cell? ⟨w.heap.size, 1, none⟩ = some (.int .i64 r.ep) ∧ W.cell? ⟨w.heap.size, 2, none⟩ = some (.int .i64 r.tm) ∧ W.cell? ⟨w.heap.size, 3, none⟩ = some (.int .i64 r.ct) ∧ W.cell? ⟨w.heap.size, 4, none⟩ = some (.int .i64 r.tg) ∧ W.cell? ⟨w.heap.size, 5, none⟩ = some (.int .i64 r.un) ∧ W.cell? ⟨w.heap.size, 6, none⟩ = some (.string ⟨r.rt.toArray⟩) ∧ W.cell? ⟨w.heap.size, 7, none⟩ = some (.string ⟨r.nm.toArray⟩))
    (exact hS) (first | (go_at_call 25; refine (HC.out _ SS.out.i.ck).mono ?_; rintro e w3 ⟨rfl, hb⟩; replace SS := Lib.hid (SS.out.step hb); replace hS := And.intro SS.out.i.cells.1 (And.intro SS.out.i.cells.2.2.1 SS.out.ws.k.cells); clear hb))
  obtain ⟨k0, k1, k2, k3, k4, k5, k6, k7⟩ := SS.out.ws.k.cells
  go_wp2
  go_ret
  exact ⟨rfl, SS.out.ws.bel⟩
set_option maxRecDepth 100000 in
set_option maxHeartbeats 4000000 in
theorem may_1 (A : Pl) (s : St) (r : Rec) (w : World) (h : In A s w) (hw : Wf r.tg) (hr : right r) (he : r.ep = s.ep) (ht : ¬ r.tm < s.now) (hk : r.k = 1) : Calls Try.prog 24 #[.pointer (some ⟨A.c, 0, none⟩), .agg #[.int .i64 r.k, .int .i64 r.ep, .int .i64 r.tm, .int .i64 r.ct, .int .i64 r.tg, .int .i64 r.un, .string ⟨r.rt.toArray⟩, .string ⟨r.nm.toArray⟩]] w fun x w' => x = .returned (.int .i64 0) ∧ Below w.heap.size w w' := by
  obtain ⟨W1, hW1⟩ : ∃ W1, W1 = w.alloc (.cells #[.int .i64 r.k, .int .i64 r.ep, .int .i64 r.tm, .int .i64 r.ct, .int .i64 r.tg, .int .i64 r.un, .string ⟨r.rt.toArray⟩, .string ⟨r.nm.toArray⟩] 30) := ⟨_, rfl⟩
  have SS : Hid (Wr A s r w W1) := Lib.hid (by rw [hW1]; exact wr_new h r)
  have HK := Lib.hid (fun W => Check r W)
  obtain ⟨k0, k1, k2, k3, k4, k5, k6, k7⟩ := SS.out.ws.k.cells
  rw [check_yes hr] at HK
  have hq : (r.ep != s.ep) = false := by simpa using he
  have HC := Lib.hid (fun W h => CloM.Now A.k 0 s.now W h)
  have hn : r.nm.length ≤ 16 := (bounds hr).2.2.2.2.2.2.2
  have t2 : (r.k == 2) = false := by rw [hk]; rfl
  have t3 : (r.k == 3) = false := by rw [hk]; rfl
  have t4 : (r.k == 4) = false := by rw [hk]; rfl
  have t5 : (r.k == 5) = false := by rw [hk]; rfl
  clear h hr he hn hk hw
  go_enter Try.func24, Try.ntmps24
  go_upto_region 1 with (fail)
  rw [← hW1]
  clear hW1
  go_upto_region 4 with (go_at_call 30; refine (HK.out _).mono ?_; rintro e w2 ⟨rfl, hb⟩; replace SS := Lib.hid (SS.out.step hb); obtain ⟨k0, k1, k2, k3, k4, k5, k6, k7⟩ := SS.out.ws.k.cells; clear hb HK)
  replace SS := Lib.hid SS.out.drew
  have hS := And.intro SS.out.i.cells.1 (And.intro SS.out.i.cells.2.2.1 SS.out.ws.k.cells)
  go_region_held3 (fun W => W.cell? ⟨A.c, 0, none⟩ = some (.pointer (some ⟨A.k, 0, none⟩)) ∧ W.cell? ⟨A.c, 2, none⟩ = some (.int .i64 s.ep) ∧ W.cell? ⟨w.heap.size, 0, none⟩ = some (.int .i64 r.k) ∧ W.cell? ⟨w.heap.size, 1, none⟩ = some (.int .i64 r.ep) ∧ W.cell? ⟨w.heap.size, 2, none⟩ = some (.int .i64 r.tm) ∧ W.cell? ⟨w.heap.size, 3, none⟩ = some (.int .i64 r.ct) ∧ W.cell? ⟨w.heap.size, 4, none⟩ = some (.int .i64 r.tg) ∧ W.cell? ⟨w.heap.size, 5, none⟩ = some (.int .i64 r.un) ∧ W.cell? ⟨w.heap.size, 6, none⟩ = some (.string ⟨r.rt.toArray⟩) ∧ W.cell? ⟨w.heap.size, 7, none⟩ = some (.string ⟨r.nm.toArray⟩))
    (exact hS) (first | (go_at_call 25; refine (HC.out _ SS.out.i.ck).mono ?_; rintro e w3 ⟨rfl, hb⟩; replace SS := Lib.hid (SS.out.step hb); replace hS := And.intro SS.out.i.cells.1 (And.intro SS.out.i.cells.2.2.1 SS.out.ws.k.cells); clear hb))
  obtain ⟨k0, k1, k2, k3, k4, k5, k6, k7⟩ := SS.out.ws.k.cells
  go_wp2
  go_ret
  exact ⟨rfl, SS.out.ws.bel⟩
set_option maxRecDepth 100000 in
set_option maxHeartbeats 4000000 in
theorem may_2 (A : Pl) (s : St) (r : Rec) (w : World) (h : In A s w) (hw : Wf r.tg) (hr : right r) (he : r.ep = s.ep) (ht : ¬ r.tm < s.now) (hk : r.k = 2) : Calls Try.prog 24 #[.pointer (some ⟨A.c, 0, none⟩), .agg #[.int .i64 r.k, .int .i64 r.ep, .int .i64 r.tm, .int .i64 r.ct, .int .i64 r.tg, .int .i64 r.un, .string ⟨r.rt.toArray⟩, .string ⟨r.nm.toArray⟩]] w fun x w' => x = .returned (.int .i64 (mayR s r)) ∧ Below w.heap.size w w' := by
  obtain ⟨W1, hW1⟩ : ∃ W1, W1 = w.alloc (.cells #[.int .i64 r.k, .int .i64 r.ep, .int .i64 r.tm, .int .i64 r.ct, .int .i64 r.tg, .int .i64 r.un, .string ⟨r.rt.toArray⟩, .string ⟨r.nm.toArray⟩] 30) := ⟨_, rfl⟩
  have SS : Hid (Wr A s r w W1) := Lib.hid (by rw [hW1]; exact wr_new h r)
  have HK := Lib.hid (fun W => Check r W)
  obtain ⟨k0, k1, k2, k3, k4, k5, k6, k7⟩ := SS.out.ws.k.cells
  rw [check_yes hr] at HK
  have hq : (r.ep != s.ep) = false := by simpa using he
  have HC := Lib.hid (fun W h => CloM.Now A.k 0 s.now W h)
  have hn : r.nm.length ≤ 16 := (bounds hr).2.2.2.2.2.2.2
  have HF := Lib.hid (fun W h => mayRetain A s r W h hw)
  have t2 : (r.k == 2) = true := by rw [hk]; rfl
  generalize mayR s r = m at *
  clear h hr he hn hk hw
  go_enter Try.func24, Try.ntmps24
  go_upto_region 1 with (fail)
  rw [← hW1]
  clear hW1
  go_upto_region 4 with (go_at_call 30; refine (HK.out _).mono ?_; rintro e w2 ⟨rfl, hb⟩; replace SS := Lib.hid (SS.out.step hb); obtain ⟨k0, k1, k2, k3, k4, k5, k6, k7⟩ := SS.out.ws.k.cells; clear hb HK)
  replace SS := Lib.hid SS.out.drew
  have hS := And.intro SS.out.i.cells.1 (And.intro SS.out.i.cells.2.2.1 SS.out.ws.k.cells)
  go_region_held3 (fun W => W.cell? ⟨A.c, 0, none⟩ = some (.pointer (some ⟨A.k, 0, none⟩)) ∧ W.cell? ⟨A.c, 2, none⟩ = some (.int .i64 s.ep) ∧ W.cell? ⟨w.heap.size, 0, none⟩ = some (.int .i64 r.k) ∧ W.cell? ⟨w.heap.size, 1, none⟩ = some (.int .i64 r.ep) ∧ W.cell? ⟨w.heap.size, 2, none⟩ = some (.int .i64 r.tm) ∧ W.cell? ⟨w.heap.size, 3, none⟩ = some (.int .i64 r.ct) ∧ W.cell? ⟨w.heap.size, 4, none⟩ = some (.int .i64 r.tg) ∧ W.cell? ⟨w.heap.size, 5, none⟩ = some (.int .i64 r.un) ∧ W.cell? ⟨w.heap.size, 6, none⟩ = some (.string ⟨r.rt.toArray⟩) ∧ W.cell? ⟨w.heap.size, 7, none⟩ = some (.string ⟨r.nm.toArray⟩))
    (exact hS) (first | (go_at_call 25; refine (HC.out _ SS.out.i.ck).mono ?_; rintro e w3 ⟨rfl, hb⟩; replace SS := Lib.hid (SS.out.step hb); replace hS := And.intro SS.out.i.cells.1 (And.intro SS.out.i.cells.2.2.1 SS.out.ws.k.cells); clear hb))
  obtain ⟨k0, k1, k2, k3, k4, k5, k6, k7⟩ := SS.out.ws.k.cells
  go_wp2_with (go_at_call 31; refine (HF.out _ SS.out.i).mono ?_; rintro e w4 ⟨rfl, hb⟩; replace SS := Lib.hid (SS.out.step hb); clear hb HF)
  go_ret
  exact ⟨rfl, SS.out.ws.bel⟩
set_option maxRecDepth 100000 in
set_option maxHeartbeats 4000000 in
theorem may_3 (A : Pl) (s : St) (r : Rec) (w : World) (h : In A s w) (hw : Wf r.tg) (hr : right r) (he : r.ep = s.ep) (ht : ¬ r.tm < s.now) (hk : r.k = 3) : Calls Try.prog 24 #[.pointer (some ⟨A.c, 0, none⟩), .agg #[.int .i64 r.k, .int .i64 r.ep, .int .i64 r.tm, .int .i64 r.ct, .int .i64 r.tg, .int .i64 r.un, .string ⟨r.rt.toArray⟩, .string ⟨r.nm.toArray⟩]] w fun x w' => x = .returned (.int .i64 (mayH s r)) ∧ Below w.heap.size w w' := by
  obtain ⟨W1, hW1⟩ : ∃ W1, W1 = w.alloc (.cells #[.int .i64 r.k, .int .i64 r.ep, .int .i64 r.tm, .int .i64 r.ct, .int .i64 r.tg, .int .i64 r.un, .string ⟨r.rt.toArray⟩, .string ⟨r.nm.toArray⟩] 30) := ⟨_, rfl⟩
  have SS : Hid (Wr A s r w W1) := Lib.hid (by rw [hW1]; exact wr_new h r)
  have HK := Lib.hid (fun W => Check r W)
  obtain ⟨k0, k1, k2, k3, k4, k5, k6, k7⟩ := SS.out.ws.k.cells
  rw [check_yes hr] at HK
  have hq : (r.ep != s.ep) = false := by simpa using he
  have HC := Lib.hid (fun W h => CloM.Now A.k 0 s.now W h)
  have hn : r.nm.length ≤ 16 := (bounds hr).2.2.2.2.2.2.2
  have HF := Lib.hid (fun W h => mayHold A s r W h hw (by unfold maxLen; omega))
  have t2 : (r.k == 2) = false := by rw [hk]; rfl
  have t3 : (r.k == 3) = true := by rw [hk]; rfl
  generalize mayH s r = m at *
  clear h hr he hn hk hw
  go_enter Try.func24, Try.ntmps24
  go_upto_region 1 with (fail)
  rw [← hW1]
  clear hW1
  go_upto_region 4 with (go_at_call 30; refine (HK.out _).mono ?_; rintro e w2 ⟨rfl, hb⟩; replace SS := Lib.hid (SS.out.step hb); obtain ⟨k0, k1, k2, k3, k4, k5, k6, k7⟩ := SS.out.ws.k.cells; clear hb HK)
  replace SS := Lib.hid SS.out.drew
  have hS := And.intro SS.out.i.cells.1 (And.intro SS.out.i.cells.2.2.1 SS.out.ws.k.cells)
  go_region_held3 (fun W => W.cell? ⟨A.c, 0, none⟩ = some (.pointer (some ⟨A.k, 0, none⟩)) ∧ W.cell? ⟨A.c, 2, none⟩ = some (.int .i64 s.ep) ∧ W.cell? ⟨w.heap.size, 0, none⟩ = some (.int .i64 r.k) ∧ W.cell? ⟨w.heap.size, 1, none⟩ = some (.int .i64 r.ep) ∧ W.cell? ⟨w.heap.size, 2, none⟩ = some (.int .i64 r.tm) ∧ W.cell? ⟨w.heap.size, 3, none⟩ = some (.int .i64 r.ct) ∧ W.cell? ⟨w.heap.size, 4, none⟩ = some (.int .i64 r.tg) ∧ W.cell? ⟨w.heap.size, 5, none⟩ = some (.int .i64 r.un) ∧ W.cell? ⟨w.heap.size, 6, none⟩ = some (.string ⟨r.rt.toArray⟩) ∧ W.cell? ⟨w.heap.size, 7, none⟩ = some (.string ⟨r.nm.toArray⟩))
    (exact hS) (first | (go_at_call 25; refine (HC.out _ SS.out.i.ck).mono ?_; rintro e w3 ⟨rfl, hb⟩; replace SS := Lib.hid (SS.out.step hb); replace hS := And.intro SS.out.i.cells.1 (And.intro SS.out.i.cells.2.2.1 SS.out.ws.k.cells); clear hb))
  obtain ⟨k0, k1, k2, k3, k4, k5, k6, k7⟩ := SS.out.ws.k.cells
  go_wp2_with (go_at_call 32; refine (HF.out _ SS.out.i).mono ?_; rintro e w4 ⟨rfl, hb⟩; replace SS := Lib.hid (SS.out.step hb); clear hb HF)
  go_ret
  exact ⟨rfl, SS.out.ws.bel⟩
set_option maxRecDepth 100000 in
set_option maxHeartbeats 4000000 in
theorem may_4 (A : Pl) (s : St) (r : Rec) (w : World) (h : In A s w) (hw : Wf r.tg) (hr : right r) (he : r.ep = s.ep) (ht : ¬ r.tm < s.now) (hk : r.k = 4) : Calls Try.prog 24 #[.pointer (some ⟨A.c, 0, none⟩), .agg #[.int .i64 r.k, .int .i64 r.ep, .int .i64 r.tm, .int .i64 r.ct, .int .i64 r.tg, .int .i64 r.un, .string ⟨r.rt.toArray⟩, .string ⟨r.nm.toArray⟩]] w fun x w' => x = .returned (.int .i64 (mayL s r)) ∧ Below w.heap.size w w' := by
  obtain ⟨W1, hW1⟩ : ∃ W1, W1 = w.alloc (.cells #[.int .i64 r.k, .int .i64 r.ep, .int .i64 r.tm, .int .i64 r.ct, .int .i64 r.tg, .int .i64 r.un, .string ⟨r.rt.toArray⟩, .string ⟨r.nm.toArray⟩] 30) := ⟨_, rfl⟩
  have SS : Hid (Wr A s r w W1) := Lib.hid (by rw [hW1]; exact wr_new h r)
  have HK := Lib.hid (fun W => Check r W)
  obtain ⟨k0, k1, k2, k3, k4, k5, k6, k7⟩ := SS.out.ws.k.cells
  rw [check_yes hr] at HK
  have hq : (r.ep != s.ep) = false := by simpa using he
  have HC := Lib.hid (fun W h => CloM.Now A.k 0 s.now W h)
  have hn : r.nm.length ≤ 16 := (bounds hr).2.2.2.2.2.2.2
  have HF := Lib.hid (fun W h => mayRelease A s r W h (by unfold maxLen; omega))
  have t2 : (r.k == 2) = false := by rw [hk]; rfl
  have t3 : (r.k == 3) = false := by rw [hk]; rfl
  have t4 : (r.k == 4) = true := by rw [hk]; rfl
  generalize mayL s r = m at *
  clear h hr he hn hk hw
  go_enter Try.func24, Try.ntmps24
  go_upto_region 1 with (fail)
  rw [← hW1]
  clear hW1
  go_upto_region 4 with (go_at_call 30; refine (HK.out _).mono ?_; rintro e w2 ⟨rfl, hb⟩; replace SS := Lib.hid (SS.out.step hb); obtain ⟨k0, k1, k2, k3, k4, k5, k6, k7⟩ := SS.out.ws.k.cells; clear hb HK)
  replace SS := Lib.hid SS.out.drew
  have hS := And.intro SS.out.i.cells.1 (And.intro SS.out.i.cells.2.2.1 SS.out.ws.k.cells)
  go_region_held3 (fun W => W.cell? ⟨A.c, 0, none⟩ = some (.pointer (some ⟨A.k, 0, none⟩)) ∧ W.cell? ⟨A.c, 2, none⟩ = some (.int .i64 s.ep) ∧ W.cell? ⟨w.heap.size, 0, none⟩ = some (.int .i64 r.k) ∧ W.cell? ⟨w.heap.size, 1, none⟩ = some (.int .i64 r.ep) ∧ W.cell? ⟨w.heap.size, 2, none⟩ = some (.int .i64 r.tm) ∧ W.cell? ⟨w.heap.size, 3, none⟩ = some (.int .i64 r.ct) ∧ W.cell? ⟨w.heap.size, 4, none⟩ = some (.int .i64 r.tg) ∧ W.cell? ⟨w.heap.size, 5, none⟩ = some (.int .i64 r.un) ∧ W.cell? ⟨w.heap.size, 6, none⟩ = some (.string ⟨r.rt.toArray⟩) ∧ W.cell? ⟨w.heap.size, 7, none⟩ = some (.string ⟨r.nm.toArray⟩))
    (exact hS) (first | (go_at_call 25; refine (HC.out _ SS.out.i.ck).mono ?_; rintro e w3 ⟨rfl, hb⟩; replace SS := Lib.hid (SS.out.step hb); replace hS := And.intro SS.out.i.cells.1 (And.intro SS.out.i.cells.2.2.1 SS.out.ws.k.cells); clear hb))
  obtain ⟨k0, k1, k2, k3, k4, k5, k6, k7⟩ := SS.out.ws.k.cells
  go_wp2_with (go_at_call 33; refine (HF.out _ SS.out.i).mono ?_; rintro e w4 ⟨rfl, hb⟩; replace SS := Lib.hid (SS.out.step hb); clear hb HF)
  go_ret
  exact ⟨rfl, SS.out.ws.bel⟩
set_option maxRecDepth 100000 in
set_option maxHeartbeats 4000000 in
theorem may_5 (A : Pl) (s : St) (r : Rec) (w : World) (h : In A s w) (hw : Wf r.tg) (hr : right r) (he : r.ep = s.ep) (ht : ¬ r.tm < s.now) (hk : r.k = 5) : Calls Try.prog 24 #[.pointer (some ⟨A.c, 0, none⟩), .agg #[.int .i64 r.k, .int .i64 r.ep, .int .i64 r.tm, .int .i64 r.ct, .int .i64 r.tg, .int .i64 r.un, .string ⟨r.rt.toArray⟩, .string ⟨r.nm.toArray⟩]] w fun x w' => x = .returned (.int .i64 (mayP s r)) ∧ Below w.heap.size w w' := by
  obtain ⟨W1, hW1⟩ : ∃ W1, W1 = w.alloc (.cells #[.int .i64 r.k, .int .i64 r.ep, .int .i64 r.tm, .int .i64 r.ct, .int .i64 r.tg, .int .i64 r.un, .string ⟨r.rt.toArray⟩, .string ⟨r.nm.toArray⟩] 30) := ⟨_, rfl⟩
  have SS : Hid (Wr A s r w W1) := Lib.hid (by rw [hW1]; exact wr_new h r)
  have HK := Lib.hid (fun W => Check r W)
  obtain ⟨k0, k1, k2, k3, k4, k5, k6, k7⟩ := SS.out.ws.k.cells
  rw [check_yes hr] at HK
  have hq : (r.ep != s.ep) = false := by simpa using he
  have HC := Lib.hid (fun W h => CloM.Now A.k 0 s.now W h)
  have hn : r.nm.length ≤ 16 := (bounds hr).2.2.2.2.2.2.2
  have HF := Lib.hid (fun W h => mayPurge A s r W h hw)
  have t2 : (r.k == 2) = false := by rw [hk]; rfl
  have t3 : (r.k == 3) = false := by rw [hk]; rfl
  have t4 : (r.k == 4) = false := by rw [hk]; rfl
  have t5 : (r.k == 5) = true := by rw [hk]; rfl
  generalize mayP s r = m at *
  clear h hr he hn hk hw
  go_enter Try.func24, Try.ntmps24
  go_upto_region 1 with (fail)
  rw [← hW1]
  clear hW1
  go_upto_region 4 with (go_at_call 30; refine (HK.out _).mono ?_; rintro e w2 ⟨rfl, hb⟩; replace SS := Lib.hid (SS.out.step hb); obtain ⟨k0, k1, k2, k3, k4, k5, k6, k7⟩ := SS.out.ws.k.cells; clear hb HK)
  replace SS := Lib.hid SS.out.drew
  have hS := And.intro SS.out.i.cells.1 (And.intro SS.out.i.cells.2.2.1 SS.out.ws.k.cells)
  go_region_held3 (fun W => W.cell? ⟨A.c, 0, none⟩ = some (.pointer (some ⟨A.k, 0, none⟩)) ∧ W.cell? ⟨A.c, 2, none⟩ = some (.int .i64 s.ep) ∧ W.cell? ⟨w.heap.size, 0, none⟩ = some (.int .i64 r.k) ∧ W.cell? ⟨w.heap.size, 1, none⟩ = some (.int .i64 r.ep) ∧ W.cell? ⟨w.heap.size, 2, none⟩ = some (.int .i64 r.tm) ∧ W.cell? ⟨w.heap.size, 3, none⟩ = some (.int .i64 r.ct) ∧ W.cell? ⟨w.heap.size, 4, none⟩ = some (.int .i64 r.tg) ∧ W.cell? ⟨w.heap.size, 5, none⟩ = some (.int .i64 r.un) ∧ W.cell? ⟨w.heap.size, 6, none⟩ = some (.string ⟨r.rt.toArray⟩) ∧ W.cell? ⟨w.heap.size, 7, none⟩ = some (.string ⟨r.nm.toArray⟩))
    (exact hS) (first | (go_at_call 25; refine (HC.out _ SS.out.i.ck).mono ?_; rintro e w3 ⟨rfl, hb⟩; replace SS := Lib.hid (SS.out.step hb); replace hS := And.intro SS.out.i.cells.1 (And.intro SS.out.i.cells.2.2.1 SS.out.ws.k.cells); clear hb))
  obtain ⟨k0, k1, k2, k3, k4, k5, k6, k7⟩ := SS.out.ws.k.cells
  go_wp2_with (go_at_call 34; refine (HF.out _ SS.out.i).mono ?_; rintro e w4 ⟨rfl, hb⟩; replace SS := Lib.hid (SS.out.step hb); clear hb HF)
  go_ret
  exact ⟨rfl, SS.out.ws.bel⟩
/-- Why a record is refused. -/
theorem may (A : Pl) (s : St) (r : Rec) (w : World) (h : In A s w) (hw : Wf r.tg) : Calls Try.prog 24 #[.pointer (some ⟨A.c, 0, none⟩), .agg #[.int .i64 r.k, .int .i64 r.ep, .int .i64 r.tm, .int .i64 r.ct, .int .i64 r.tg, .int .i64 r.un, .string ⟨r.rt.toArray⟩, .string ⟨r.nm.toArray⟩]] w fun x w' => x = .returned (.int .i64 (RetN.may s r)) ∧ Below w.heap.size w w' := by
  unfold RetN.may
  by_cases hr : right r
  · rw [if_neg (fun e => e hr)]
    by_cases he : r.ep = s.ep
    · by_cases ht : r.tm < s.now
      · rw [if_pos (.inr ht)]
        exact may_tm A s r w h hr he ht
      · rw [if_neg (by omega)]
        have hb := (bounds hr).1
        unfold mayK
        by_cases h2 : r.k = 2
        · rw [if_pos h2]; exact may_2 A s r w h hw hr he ht h2
        rw [if_neg h2]
        by_cases h3 : r.k = 3
        · rw [if_pos h3]; exact may_3 A s r w h hw hr he ht h3
        rw [if_neg h3]
        by_cases h4 : r.k = 4
        · rw [if_pos h4]; exact may_4 A s r w h hw hr he ht h4
        rw [if_neg h4]
        by_cases h5 : r.k = 5
        · rw [if_pos h5]; exact may_5 A s r w h hw hr he ht h5
        rw [if_neg h5]
        exact may_1 A s r w h hw hr he ht (by omega)
    · rw [if_pos (.inl he)]
      exact may_ep A s r w h hr he
  · rw [if_pos hr]
    exact may_bad A s r w h hr
end Go.Proofs.Yteldohopagdodaa.RetM
