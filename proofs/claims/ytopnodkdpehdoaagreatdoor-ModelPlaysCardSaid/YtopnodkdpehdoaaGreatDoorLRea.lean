/- RetM RetT RetB: one behind the other. -/
import Derived.Test.YtopnodkdpehdoaaGreatDoorLRet
import Derived.BigQuiet
/- Why a record is refused, whatever its kind: the walk of the inner book's may. The condition: the epoch that the record means is a number of its type. -/
namespace Go.Proofs.YtopnodkdpehdoaaGreatDoor.RetM
set_option linter.unusedVariables false
open Go.RowKit Go.Maps
open RecN RecC RecK RetN RetC RetH RetP
set_option maxRecDepth 100000 in
set_option maxHeartbeats 4000000 in
theorem may_bad (A : Pl) (s : St) (r : Rec) (w : World) (h : In A s w) (hr : ¬ right r) : Calls Tryz.prog 111 #[.pointer (some ⟨A.c, 0, none⟩), .agg #[.int .i64 r.k, .int .i64 r.ep, .int .i64 r.tm, .int .i64 r.ct, .int .i64 r.tg, .int .i64 r.un, .string ⟨r.rt.toArray⟩, .string ⟨r.nm.toArray⟩]] w fun x w' => x = .returned (.int .i64 2) ∧ Below w.heap.size w w' := by
  obtain ⟨W1, hW1⟩ : ∃ W1, W1 = w.alloc (.cells #[.int .i64 r.k, .int .i64 r.ep, .int .i64 r.tm, .int .i64 r.ct, .int .i64 r.tg, .int .i64 r.un, .string ⟨r.rt.toArray⟩, .string ⟨r.nm.toArray⟩] 82) := ⟨_, rfl⟩
  have SS : Hid (Wr A s r w W1) := Lib.hid (by rw [hW1]; exact wr_new h r)
  have HK := Lib.hid (fun W => Check r W)
  obtain ⟨k0, k1, k2, k3, k4, k5, k6, k7⟩ := SS.out.ws.k.cells
  rw [check_no hr] at HK
  clear h hr
  go_enter Tryz.func111, Tryz.ntmps111
  go_upto_region 1 with (fail)
  rw [← hW1]
  clear hW1
  go_wp2_with (go_at_call 121; refine (HK.out _).mono ?_; rintro e w2 ⟨rfl, hb⟩; replace SS := Lib.hid (SS.out.step hb); obtain ⟨k0, k1, k2, k3, k4, k5, k6, k7⟩ := SS.out.ws.k.cells; clear hb HK)
  go_ret
  exact ⟨rfl, SS.out.ws.bel⟩
set_option maxRecDepth 100000 in
set_option maxHeartbeats 4000000 in
theorem may_ep (A : Pl) (s : St) (r : Rec) (w : World) (h : In A s w) (hr : right r) (he : r.ep ≠ s.ep) : Calls Tryz.prog 111 #[.pointer (some ⟨A.c, 0, none⟩), .agg #[.int .i64 r.k, .int .i64 r.ep, .int .i64 r.tm, .int .i64 r.ct, .int .i64 r.tg, .int .i64 r.un, .string ⟨r.rt.toArray⟩, .string ⟨r.nm.toArray⟩]] w fun x w' => x = .returned (.int .i64 16) ∧ Below w.heap.size w w' := by
  obtain ⟨W1, hW1⟩ : ∃ W1, W1 = w.alloc (.cells #[.int .i64 r.k, .int .i64 r.ep, .int .i64 r.tm, .int .i64 r.ct, .int .i64 r.tg, .int .i64 r.un, .string ⟨r.rt.toArray⟩, .string ⟨r.nm.toArray⟩] 82) := ⟨_, rfl⟩
  have SS : Hid (Wr A s r w W1) := Lib.hid (by rw [hW1]; exact wr_new h r)
  have HK := Lib.hid (fun W => Check r W)
  obtain ⟨k0, k1, k2, k3, k4, k5, k6, k7⟩ := SS.out.ws.k.cells
  rw [check_yes hr] at HK
  have hq : (r.ep != s.ep) = true := by simpa using he
  clear h hr he
  go_enter Tryz.func111, Tryz.ntmps111
  go_upto_region 1 with (fail)
  rw [← hW1]
  clear hW1
  go_upto_region 4 with (go_at_call 121; refine (HK.out _).mono ?_; rintro e w2 ⟨rfl, hb⟩; replace SS := Lib.hid (SS.out.step hb); obtain ⟨k0, k1, k2, k3, k4, k5, k6, k7⟩ := SS.out.ws.k.cells; clear hb HK)
  have kk := SS.out.i.cells.2.2.1
  have kc := SS.out.i.cells.1
  go_quiet (fail)
  go_wp2
  go_ret
  exact ⟨rfl, SS.out.ws.bel.trans (below_drewN _ _)⟩
set_option maxRecDepth 100000 in
set_option maxHeartbeats 4000000 in
theorem may_tm (A : Pl) (s : St) (r : Rec) (w : World) (h : In A s w) (hr : right r) (he : r.ep = s.ep) (ht : r.tm < s.now) : Calls Tryz.prog 111 #[.pointer (some ⟨A.c, 0, none⟩), .agg #[.int .i64 r.k, .int .i64 r.ep, .int .i64 r.tm, .int .i64 r.ct, .int .i64 r.tg, .int .i64 r.un, .string ⟨r.rt.toArray⟩, .string ⟨r.nm.toArray⟩]] w fun x w' => x = .returned (.int .i64 16) ∧ Below w.heap.size w w' := by
  obtain ⟨W1, hW1⟩ : ∃ W1, W1 = w.alloc (.cells #[.int .i64 r.k, .int .i64 r.ep, .int .i64 r.tm, .int .i64 r.ct, .int .i64 r.tg, .int .i64 r.un, .string ⟨r.rt.toArray⟩, .string ⟨r.nm.toArray⟩] 82) := ⟨_, rfl⟩
  have SS : Hid (Wr A s r w W1) := Lib.hid (by rw [hW1]; exact wr_new h r)
  have HK := Lib.hid (fun W => Check r W)
  obtain ⟨k0, k1, k2, k3, k4, k5, k6, k7⟩ := SS.out.ws.k.cells
  rw [check_yes hr] at HK
  have hq : (r.ep != s.ep) = false := by simpa using he
  have HC := Lib.hid (fun W h => CloM.Now A.k 0 s.now W h)
  clear h hr he
  go_enter Tryz.func111, Tryz.ntmps111
  go_upto_region 1 with (fail)
  rw [← hW1]
  clear hW1
  go_upto_region 4 with (go_at_call 121; refine (HK.out _).mono ?_; rintro e w2 ⟨rfl, hb⟩; replace SS := Lib.hid (SS.out.step hb); obtain ⟨k0, k1, k2, k3, k4, k5, k6, k7⟩ := SS.out.ws.k.cells; clear hb HK)
  replace SS := Lib.hid SS.out.drew
  have hS := And.intro SS.out.i.cells.1 (And.intro SS.out.i.cells.2.2.1 SS.out.ws.k.cells)
  go_region_held3 (fun W => W.cell? ⟨A.c, 0, none⟩ = some (.pointer (some ⟨A.k, 0, none⟩)) ∧ W.cell? ⟨A.c, 2, none⟩ = some (.int .i64 s.ep) ∧ W.cell? ⟨w.heap.size, 0, none⟩ = some (.int .i64 r.k) ∧ W.cell? ⟨w.heap.size, 1, none⟩ = some (.int .i64 r.ep) ∧ W.cell? ⟨w.heap.size, 2, none⟩ = some (.int .i64 r.tm) ∧ W.cell? ⟨w.heap.size, 3, none⟩ = some (.int .i64 r.ct) ∧ W.cell? ⟨w.heap.size, 4, none⟩ = some (.int .i64 r.tg) ∧ W.cell? ⟨w.heap.size, 5, none⟩ = some (.int .i64 r.un) ∧ W.cell? ⟨w.heap.size, 6, none⟩ = some (.string ⟨r.rt.toArray⟩) ∧ W.cell? ⟨w.heap.size, 7, none⟩ = some (.string ⟨r.nm.toArray⟩))
    (exact hS) (first | (go_at_call 58; refine (HC.out _ SS.out.i.ck).mono ?_; rintro e w3 ⟨rfl, hb⟩; replace SS := Lib.hid (SS.out.step hb); replace hS := And.intro SS.out.i.cells.1 (And.intro SS.out.i.cells.2.2.1 SS.out.ws.k.cells); clear hb))
  obtain ⟨k0, k1, k2, k3, k4, k5, k6, k7⟩ := SS.out.ws.k.cells
  go_wp2
  go_ret
  exact ⟨rfl, SS.out.ws.bel⟩
set_option maxRecDepth 100000 in
set_option maxHeartbeats 4000000 in
theorem may_1 (A : Pl) (s : St) (r : Rec) (w : World) (h : In A s w) (hw : Wf r.tg) (hr : right r) (he : r.ep = s.ep) (ht : ¬ r.tm < s.now) (hk : r.k = 1) : Calls Tryz.prog 111 #[.pointer (some ⟨A.c, 0, none⟩), .agg #[.int .i64 r.k, .int .i64 r.ep, .int .i64 r.tm, .int .i64 r.ct, .int .i64 r.tg, .int .i64 r.un, .string ⟨r.rt.toArray⟩, .string ⟨r.nm.toArray⟩]] w fun x w' => x = .returned (.int .i64 0) ∧ Below w.heap.size w w' := by
  obtain ⟨W1, hW1⟩ : ∃ W1, W1 = w.alloc (.cells #[.int .i64 r.k, .int .i64 r.ep, .int .i64 r.tm, .int .i64 r.ct, .int .i64 r.tg, .int .i64 r.un, .string ⟨r.rt.toArray⟩, .string ⟨r.nm.toArray⟩] 82) := ⟨_, rfl⟩
  have SS : Hid (Wr A s r w W1) := Lib.hid (by rw [hW1]; exact wr_new h r)
  have HK := Lib.hid (fun W => Check r W)
  obtain ⟨k0, k1, k2, k3, k4, k5, k6, k7⟩ := SS.out.ws.k.cells
  rw [check_yes hr] at HK
  have hq : (r.ep != s.ep) = false := by simpa using he
  have HC := Lib.hid (fun W h => CloM.Now A.k 0 s.now W h)
  have hn : r.nm.length ≤ 16 := (bounds hr).2.2.2.2.2.2.2
  have t2 : (r.k == 2) = false := by rw [hk]; rfl
  have t3 : (r.k == 3) = false := by rw [hk]; rfl
  have t4 : (r.k == 4) = false := by rw [hk]; rfl
  have t5 : (r.k == 5) = false := by rw [hk]; rfl
  clear h hr he hn hk hw
  go_enter Tryz.func111, Tryz.ntmps111
  go_upto_region 1 with (fail)
  rw [← hW1]
  clear hW1
  go_upto_region 4 with (go_at_call 121; refine (HK.out _).mono ?_; rintro e w2 ⟨rfl, hb⟩; replace SS := Lib.hid (SS.out.step hb); obtain ⟨k0, k1, k2, k3, k4, k5, k6, k7⟩ := SS.out.ws.k.cells; clear hb HK)
  replace SS := Lib.hid SS.out.drew
  have hS := And.intro SS.out.i.cells.1 (And.intro SS.out.i.cells.2.2.1 SS.out.ws.k.cells)
  go_region_held3 (fun W => W.cell? ⟨A.c, 0, none⟩ = some (.pointer (some ⟨A.k, 0, none⟩)) ∧ W.cell? ⟨A.c, 2, none⟩ = some (.int .i64 s.ep) ∧ W.cell? ⟨w.heap.size, 0, none⟩ = some (.int .i64 r.k) ∧ W.cell? ⟨w.heap.size, 1, none⟩ = some (.int .i64 r.ep) ∧ W.cell? ⟨w.heap.size, 2, none⟩ = some (.int .i64 r.tm) ∧ W.cell? ⟨w.heap.size, 3, none⟩ = some (.int .i64 r.ct) ∧ W.cell? ⟨w.heap.size, 4, none⟩ = some (.int .i64 r.tg) ∧ W.cell? ⟨w.heap.size, 5, none⟩ = some (.int .i64 r.un) ∧ W.cell? ⟨w.heap.size, 6, none⟩ = some (.string ⟨r.rt.toArray⟩) ∧ W.cell? ⟨w.heap.size, 7, none⟩ = some (.string ⟨r.nm.toArray⟩))
    (exact hS) (first | (go_at_call 58; refine (HC.out _ SS.out.i.ck).mono ?_; rintro e w3 ⟨rfl, hb⟩; replace SS := Lib.hid (SS.out.step hb); replace hS := And.intro SS.out.i.cells.1 (And.intro SS.out.i.cells.2.2.1 SS.out.ws.k.cells); clear hb))
  obtain ⟨k0, k1, k2, k3, k4, k5, k6, k7⟩ := SS.out.ws.k.cells
  go_wp2
  go_ret
  exact ⟨rfl, SS.out.ws.bel⟩
set_option maxRecDepth 100000 in
set_option maxHeartbeats 4000000 in
theorem may_2 (A : Pl) (s : St) (r : Rec) (w : World) (h : In A s w) (hw : Wf r.tg) (hr : right r) (he : r.ep = s.ep) (ht : ¬ r.tm < s.now) (hk : r.k = 2) : Calls Tryz.prog 111 #[.pointer (some ⟨A.c, 0, none⟩), .agg #[.int .i64 r.k, .int .i64 r.ep, .int .i64 r.tm, .int .i64 r.ct, .int .i64 r.tg, .int .i64 r.un, .string ⟨r.rt.toArray⟩, .string ⟨r.nm.toArray⟩]] w fun x w' => x = .returned (.int .i64 (mayR s r)) ∧ Below w.heap.size w w' := by
  obtain ⟨W1, hW1⟩ : ∃ W1, W1 = w.alloc (.cells #[.int .i64 r.k, .int .i64 r.ep, .int .i64 r.tm, .int .i64 r.ct, .int .i64 r.tg, .int .i64 r.un, .string ⟨r.rt.toArray⟩, .string ⟨r.nm.toArray⟩] 82) := ⟨_, rfl⟩
  have SS : Hid (Wr A s r w W1) := Lib.hid (by rw [hW1]; exact wr_new h r)
  have HK := Lib.hid (fun W => Check r W)
  obtain ⟨k0, k1, k2, k3, k4, k5, k6, k7⟩ := SS.out.ws.k.cells
  rw [check_yes hr] at HK
  have hq : (r.ep != s.ep) = false := by simpa using he
  have HC := Lib.hid (fun W h => CloM.Now A.k 0 s.now W h)
  have hn : r.nm.length ≤ 16 := (bounds hr).2.2.2.2.2.2.2
  have HF := Lib.hid (fun W h => mayRetain A s r W h hw)
  have t2 : (r.k == 2) = true := by rw [hk]; rfl
  generalize mayR s r = m at *
  clear h hr he hn hk hw
  go_enter Tryz.func111, Tryz.ntmps111
  go_upto_region 1 with (fail)
  rw [← hW1]
  clear hW1
  go_upto_region 4 with (go_at_call 121; refine (HK.out _).mono ?_; rintro e w2 ⟨rfl, hb⟩; replace SS := Lib.hid (SS.out.step hb); obtain ⟨k0, k1, k2, k3, k4, k5, k6, k7⟩ := SS.out.ws.k.cells; clear hb HK)
  replace SS := Lib.hid SS.out.drew
  have hS := And.intro SS.out.i.cells.1 (And.intro SS.out.i.cells.2.2.1 SS.out.ws.k.cells)
  go_region_held3 (fun W => W.cell? ⟨A.c, 0, none⟩ = some (.pointer (some ⟨A.k, 0, none⟩)) ∧ W.cell? ⟨A.c, 2, none⟩ = some (.int .i64 s.ep) ∧ W.cell? ⟨w.heap.size, 0, none⟩ = some (.int .i64 r.k) ∧ W.cell? ⟨w.heap.size, 1, none⟩ = some (.int .i64 r.ep) ∧ W.cell? ⟨w.heap.size, 2, none⟩ = some (.int .i64 r.tm) ∧ W.cell? ⟨w.heap.size, 3, none⟩ = some (.int .i64 r.ct) ∧ W.cell? ⟨w.heap.size, 4, none⟩ = some (.int .i64 r.tg) ∧ W.cell? ⟨w.heap.size, 5, none⟩ = some (.int .i64 r.un) ∧ W.cell? ⟨w.heap.size, 6, none⟩ = some (.string ⟨r.rt.toArray⟩) ∧ W.cell? ⟨w.heap.size, 7, none⟩ = some (.string ⟨r.nm.toArray⟩))
    (exact hS) (first | (go_at_call 58; refine (HC.out _ SS.out.i.ck).mono ?_; rintro e w3 ⟨rfl, hb⟩; replace SS := Lib.hid (SS.out.step hb); replace hS := And.intro SS.out.i.cells.1 (And.intro SS.out.i.cells.2.2.1 SS.out.ws.k.cells); clear hb))
  obtain ⟨k0, k1, k2, k3, k4, k5, k6, k7⟩ := SS.out.ws.k.cells
  go_wp2_with (go_at_call 122; refine (HF.out _ SS.out.i).mono ?_; rintro e w4 ⟨rfl, hb⟩; replace SS := Lib.hid (SS.out.step hb); clear hb HF)
  go_ret
  exact ⟨rfl, SS.out.ws.bel⟩
set_option maxRecDepth 100000 in
set_option maxHeartbeats 4000000 in
theorem may_3 (A : Pl) (s : St) (r : Rec) (w : World) (h : In A s w) (hw : Wf r.tg) (hr : right r) (he : r.ep = s.ep) (ht : ¬ r.tm < s.now) (hk : r.k = 3) : Calls Tryz.prog 111 #[.pointer (some ⟨A.c, 0, none⟩), .agg #[.int .i64 r.k, .int .i64 r.ep, .int .i64 r.tm, .int .i64 r.ct, .int .i64 r.tg, .int .i64 r.un, .string ⟨r.rt.toArray⟩, .string ⟨r.nm.toArray⟩]] w fun x w' => x = .returned (.int .i64 (mayH s r)) ∧ Below w.heap.size w w' := by
  obtain ⟨W1, hW1⟩ : ∃ W1, W1 = w.alloc (.cells #[.int .i64 r.k, .int .i64 r.ep, .int .i64 r.tm, .int .i64 r.ct, .int .i64 r.tg, .int .i64 r.un, .string ⟨r.rt.toArray⟩, .string ⟨r.nm.toArray⟩] 82) := ⟨_, rfl⟩
  have SS : Hid (Wr A s r w W1) := Lib.hid (by rw [hW1]; exact wr_new h r)
  have HK := Lib.hid (fun W => Check r W)
  obtain ⟨k0, k1, k2, k3, k4, k5, k6, k7⟩ := SS.out.ws.k.cells
  rw [check_yes hr] at HK
  have hq : (r.ep != s.ep) = false := by simpa using he
  have HC := Lib.hid (fun W h => CloM.Now A.k 0 s.now W h)
  have hn : r.nm.length ≤ 16 := (bounds hr).2.2.2.2.2.2.2
  have HF := Lib.hid (fun W h => mayHold A s r W h hw (by unfold maxLen; omega))
  have t2 : (r.k == 2) = false := by rw [hk]; rfl
  have t3 : (r.k == 3) = true := by rw [hk]; rfl
  generalize mayH s r = m at *
  clear h hr he hn hk hw
  go_enter Tryz.func111, Tryz.ntmps111
  go_upto_region 1 with (fail)
  rw [← hW1]
  clear hW1
  go_upto_region 4 with (go_at_call 121; refine (HK.out _).mono ?_; rintro e w2 ⟨rfl, hb⟩; replace SS := Lib.hid (SS.out.step hb); obtain ⟨k0, k1, k2, k3, k4, k5, k6, k7⟩ := SS.out.ws.k.cells; clear hb HK)
  replace SS := Lib.hid SS.out.drew
  have hS := And.intro SS.out.i.cells.1 (And.intro SS.out.i.cells.2.2.1 SS.out.ws.k.cells)
  go_region_held3 (fun W => W.cell? ⟨A.c, 0, none⟩ = some (.pointer (some ⟨A.k, 0, none⟩)) ∧ W.cell? ⟨A.c, 2, none⟩ = some (.int .i64 s.ep) ∧ W.cell? ⟨w.heap.size, 0, none⟩ = some (.int .i64 r.k) ∧ W.cell? ⟨w.heap.size, 1, none⟩ = some (.int .i64 r.ep) ∧ W.cell? ⟨w.heap.size, 2, none⟩ = some (.int .i64 r.tm) ∧ W.cell? ⟨w.heap.size, 3, none⟩ = some (.int .i64 r.ct) ∧ W.cell? ⟨w.heap.size, 4, none⟩ = some (.int .i64 r.tg) ∧ W.cell? ⟨w.heap.size, 5, none⟩ = some (.int .i64 r.un) ∧ W.cell? ⟨w.heap.size, 6, none⟩ = some (.string ⟨r.rt.toArray⟩) ∧ W.cell? ⟨w.heap.size, 7, none⟩ = some (.string ⟨r.nm.toArray⟩))
    (exact hS) (first | (go_at_call 58; refine (HC.out _ SS.out.i.ck).mono ?_; rintro e w3 ⟨rfl, hb⟩; replace SS := Lib.hid (SS.out.step hb); replace hS := And.intro SS.out.i.cells.1 (And.intro SS.out.i.cells.2.2.1 SS.out.ws.k.cells); clear hb))
  obtain ⟨k0, k1, k2, k3, k4, k5, k6, k7⟩ := SS.out.ws.k.cells
  go_wp2_with (go_at_call 123; refine (HF.out _ SS.out.i).mono ?_; rintro e w4 ⟨rfl, hb⟩; replace SS := Lib.hid (SS.out.step hb); clear hb HF)
  go_ret
  exact ⟨rfl, SS.out.ws.bel⟩
set_option maxRecDepth 100000 in
set_option maxHeartbeats 4000000 in
theorem may_4 (A : Pl) (s : St) (r : Rec) (w : World) (h : In A s w) (hw : Wf r.tg) (hr : right r) (he : r.ep = s.ep) (ht : ¬ r.tm < s.now) (hk : r.k = 4) : Calls Tryz.prog 111 #[.pointer (some ⟨A.c, 0, none⟩), .agg #[.int .i64 r.k, .int .i64 r.ep, .int .i64 r.tm, .int .i64 r.ct, .int .i64 r.tg, .int .i64 r.un, .string ⟨r.rt.toArray⟩, .string ⟨r.nm.toArray⟩]] w fun x w' => x = .returned (.int .i64 (mayL s r)) ∧ Below w.heap.size w w' := by
  obtain ⟨W1, hW1⟩ : ∃ W1, W1 = w.alloc (.cells #[.int .i64 r.k, .int .i64 r.ep, .int .i64 r.tm, .int .i64 r.ct, .int .i64 r.tg, .int .i64 r.un, .string ⟨r.rt.toArray⟩, .string ⟨r.nm.toArray⟩] 82) := ⟨_, rfl⟩
  have SS : Hid (Wr A s r w W1) := Lib.hid (by rw [hW1]; exact wr_new h r)
  have HK := Lib.hid (fun W => Check r W)
  obtain ⟨k0, k1, k2, k3, k4, k5, k6, k7⟩ := SS.out.ws.k.cells
  rw [check_yes hr] at HK
  have hq : (r.ep != s.ep) = false := by simpa using he
  have HC := Lib.hid (fun W h => CloM.Now A.k 0 s.now W h)
  have hn : r.nm.length ≤ 16 := (bounds hr).2.2.2.2.2.2.2
  have HF := Lib.hid (fun W h => mayRelease A s r W h (by unfold maxLen; omega))
  have t2 : (r.k == 2) = false := by rw [hk]; rfl
  have t3 : (r.k == 3) = false := by rw [hk]; rfl
  have t4 : (r.k == 4) = true := by rw [hk]; rfl
  generalize mayL s r = m at *
  clear h hr he hn hk hw
  go_enter Tryz.func111, Tryz.ntmps111
  go_upto_region 1 with (fail)
  rw [← hW1]
  clear hW1
  go_upto_region 4 with (go_at_call 121; refine (HK.out _).mono ?_; rintro e w2 ⟨rfl, hb⟩; replace SS := Lib.hid (SS.out.step hb); obtain ⟨k0, k1, k2, k3, k4, k5, k6, k7⟩ := SS.out.ws.k.cells; clear hb HK)
  replace SS := Lib.hid SS.out.drew
  have hS := And.intro SS.out.i.cells.1 (And.intro SS.out.i.cells.2.2.1 SS.out.ws.k.cells)
  go_region_held3 (fun W => W.cell? ⟨A.c, 0, none⟩ = some (.pointer (some ⟨A.k, 0, none⟩)) ∧ W.cell? ⟨A.c, 2, none⟩ = some (.int .i64 s.ep) ∧ W.cell? ⟨w.heap.size, 0, none⟩ = some (.int .i64 r.k) ∧ W.cell? ⟨w.heap.size, 1, none⟩ = some (.int .i64 r.ep) ∧ W.cell? ⟨w.heap.size, 2, none⟩ = some (.int .i64 r.tm) ∧ W.cell? ⟨w.heap.size, 3, none⟩ = some (.int .i64 r.ct) ∧ W.cell? ⟨w.heap.size, 4, none⟩ = some (.int .i64 r.tg) ∧ W.cell? ⟨w.heap.size, 5, none⟩ = some (.int .i64 r.un) ∧ W.cell? ⟨w.heap.size, 6, none⟩ = some (.string ⟨r.rt.toArray⟩) ∧ W.cell? ⟨w.heap.size, 7, none⟩ = some (.string ⟨r.nm.toArray⟩))
    (exact hS) (first | (go_at_call 58; refine (HC.out _ SS.out.i.ck).mono ?_; rintro e w3 ⟨rfl, hb⟩; replace SS := Lib.hid (SS.out.step hb); replace hS := And.intro SS.out.i.cells.1 (And.intro SS.out.i.cells.2.2.1 SS.out.ws.k.cells); clear hb))
  obtain ⟨k0, k1, k2, k3, k4, k5, k6, k7⟩ := SS.out.ws.k.cells
  go_wp2_with (go_at_call 124; refine (HF.out _ SS.out.i).mono ?_; rintro e w4 ⟨rfl, hb⟩; replace SS := Lib.hid (SS.out.step hb); clear hb HF)
  go_ret
  exact ⟨rfl, SS.out.ws.bel⟩
set_option maxRecDepth 100000 in
set_option maxHeartbeats 4000000 in
theorem may_5 (A : Pl) (s : St) (r : Rec) (w : World) (h : In A s w) (hw : Wf r.tg) (hr : right r) (he : r.ep = s.ep) (ht : ¬ r.tm < s.now) (hk : r.k = 5) : Calls Tryz.prog 111 #[.pointer (some ⟨A.c, 0, none⟩), .agg #[.int .i64 r.k, .int .i64 r.ep, .int .i64 r.tm, .int .i64 r.ct, .int .i64 r.tg, .int .i64 r.un, .string ⟨r.rt.toArray⟩, .string ⟨r.nm.toArray⟩]] w fun x w' => x = .returned (.int .i64 (mayP s r)) ∧ Below w.heap.size w w' := by
  obtain ⟨W1, hW1⟩ : ∃ W1, W1 = w.alloc (.cells #[.int .i64 r.k, .int .i64 r.ep, .int .i64 r.tm, .int .i64 r.ct, .int .i64 r.tg, .int .i64 r.un, .string ⟨r.rt.toArray⟩, .string ⟨r.nm.toArray⟩] 82) := ⟨_, rfl⟩
  have SS : Hid (Wr A s r w W1) := Lib.hid (by rw [hW1]; exact wr_new h r)
  have HK := Lib.hid (fun W => Check r W)
  obtain ⟨k0, k1, k2, k3, k4, k5, k6, k7⟩ := SS.out.ws.k.cells
  rw [check_yes hr] at HK
  have hq : (r.ep != s.ep) = false := by simpa using he
  have HC := Lib.hid (fun W h => CloM.Now A.k 0 s.now W h)
  have hn : r.nm.length ≤ 16 := (bounds hr).2.2.2.2.2.2.2
  have HF := Lib.hid (fun W h => mayPurge A s r W h hw)
  have t2 : (r.k == 2) = false := by rw [hk]; rfl
  have t3 : (r.k == 3) = false := by rw [hk]; rfl
  have t4 : (r.k == 4) = false := by rw [hk]; rfl
  have t5 : (r.k == 5) = true := by rw [hk]; rfl
  generalize mayP s r = m at *
  clear h hr he hn hk hw
  go_enter Tryz.func111, Tryz.ntmps111
  go_upto_region 1 with (fail)
  rw [← hW1]
  clear hW1
  go_upto_region 4 with (go_at_call 121; refine (HK.out _).mono ?_; rintro e w2 ⟨rfl, hb⟩; replace SS := Lib.hid (SS.out.step hb); obtain ⟨k0, k1, k2, k3, k4, k5, k6, k7⟩ := SS.out.ws.k.cells; clear hb HK)
  replace SS := Lib.hid SS.out.drew
  have hS := And.intro SS.out.i.cells.1 (And.intro SS.out.i.cells.2.2.1 SS.out.ws.k.cells)
  go_region_held3 (fun W => W.cell? ⟨A.c, 0, none⟩ = some (.pointer (some ⟨A.k, 0, none⟩)) ∧ W.cell? ⟨A.c, 2, none⟩ = some (.int .i64 s.ep) ∧ W.cell? ⟨w.heap.size, 0, none⟩ = some (.int .i64 r.k) ∧ W.cell? ⟨w.heap.size, 1, none⟩ = some (.int .i64 r.ep) ∧ W.cell? ⟨w.heap.size, 2, none⟩ = some (.int .i64 r.tm) ∧ W.cell? ⟨w.heap.size, 3, none⟩ = some (.int .i64 r.ct) ∧ W.cell? ⟨w.heap.size, 4, none⟩ = some (.int .i64 r.tg) ∧ W.cell? ⟨w.heap.size, 5, none⟩ = some (.int .i64 r.un) ∧ W.cell? ⟨w.heap.size, 6, none⟩ = some (.string ⟨r.rt.toArray⟩) ∧ W.cell? ⟨w.heap.size, 7, none⟩ = some (.string ⟨r.nm.toArray⟩))
    (exact hS) (first | (go_at_call 58; refine (HC.out _ SS.out.i.ck).mono ?_; rintro e w3 ⟨rfl, hb⟩; replace SS := Lib.hid (SS.out.step hb); replace hS := And.intro SS.out.i.cells.1 (And.intro SS.out.i.cells.2.2.1 SS.out.ws.k.cells); clear hb))
  obtain ⟨k0, k1, k2, k3, k4, k5, k6, k7⟩ := SS.out.ws.k.cells
  go_wp2_with (go_at_call 125; refine (HF.out _ SS.out.i).mono ?_; rintro e w4 ⟨rfl, hb⟩; replace SS := Lib.hid (SS.out.step hb); clear hb HF)
  go_ret
  exact ⟨rfl, SS.out.ws.bel⟩
/-- Why a record is refused. -/
theorem may (A : Pl) (s : St) (r : Rec) (w : World) (h : In A s w) (hw : Wf r.tg) : Calls Tryz.prog 111 #[.pointer (some ⟨A.c, 0, none⟩), .agg #[.int .i64 r.k, .int .i64 r.ep, .int .i64 r.tm, .int .i64 r.ct, .int .i64 r.tg, .int .i64 r.un, .string ⟨r.rt.toArray⟩, .string ⟨r.nm.toArray⟩]] w fun x w' => x = .returned (.int .i64 (RetN.may s r)) ∧ Below w.heap.size w w' := by
  unfold RetN.may
  by_cases hr : right r
  · rw [if_neg (fun e => e hr)]
    by_cases he : r.ep = s.ep
    · by_cases ht : r.tm < s.now
      · rw [if_pos (.inr ht)]
        exact may_tm A s r w h hr he ht
      · rw [if_neg (by omega)]
        have hb := (bounds hr).1
        unfold mayK
        by_cases h2 : r.k = 2
        · rw [if_pos h2]; exact may_2 A s r w h hw hr he ht h2
        rw [if_neg h2]
        by_cases h3 : r.k = 3
        · rw [if_pos h3]; exact may_3 A s r w h hw hr he ht h3
        rw [if_neg h3]
        by_cases h4 : r.k = 4
        · rw [if_pos h4]; exact may_4 A s r w h hw hr he ht h4
        rw [if_neg h4]
        by_cases h5 : r.k = 5
        · rw [if_pos h5]; exact may_5 A s r w h hw hr he ht h5
        rw [if_neg h5]
        exact may_1 A s r w h hw hr he ht (by omega)
    · rw [if_pos (.inl he)]
      exact may_ep A s r w h hr he
  · rw [if_pos hr]
    exact may_bad A s r w h hr
end Go.Proofs.YtopnodkdpehdoaaGreatDoor.RetM
/- What a book is that takes a record: the walk of the inner book's take, at any record that is not refused. No conditions but those that each lemma names. -/
namespace Go.Proofs.YtopnodkdpehdoaaGreatDoor.RetT
set_option linter.unusedVariables false
open Go.RowKit Go.Maps
open RecN RecC RetN RetC RetP
/-- All but block M lies as it did: so do the parts of a book that lie elsewhere. -/
theorem In.u_ {A : Pl} {s : St} {W W' : World} (h : In A s W) (hg : W.grownBy W' (some A.u)) {f : Int → Int} (hm : Mi W' A.u f) : In A { s with un := f } W' := by
  have hk := h.ck
  obtain ⟨cs, t, kb, kk⟩ := hk
  have n1 := ne_of h.body (mi_is h.u)
  have n2 := ne_of kb (mi_is h.u)
  have e : ∀ i, i < W.heap.size → i ≠ A.u → W'.heap[i]? = W.heap[i]? := fun i hi hn => hg.block i hi (fun e => hn (Option.some.inj e))
  exact ⟨(e _ h.lt n1).trans h.body, ⟨cs, t, (e _ h.ck.lt n2).trans kb, kk⟩, hm, h.h.block (e _ h.h.lt (Ne.symm h.ne.2.1)), h.g.block (e _ h.g.lt (Ne.symm h.ne.2.2.1)), h.ne⟩
theorem In.h_ {A : Pl} {s : St} {W W' : World} (h : In A s W) (hg : W.grownBy W' (some A.h)) {hs : List (L × Int)} (hm : Mh W' A.h hs) : In A { s with hs := hs } W' := by
  have hk := h.ck
  obtain ⟨cs, t, kb, kk⟩ := hk
  have n1 := ne_of h.body (mh_is h.h)
  have n2 := ne_of kb (mh_is h.h)
  have e : ∀ i, i < W.heap.size → i ≠ A.h → W'.heap[i]? = W.heap[i]? := fun i hi hn => hg.block i hi (fun e => hn (Option.some.inj e))
  exact ⟨(e _ h.lt n1).trans h.body, ⟨cs, t, (e _ h.ck.lt n2).trans kb, kk⟩, h.u.block (e _ h.u.lt h.ne.2.1), hm, h.g.block (e _ h.g.lt (Ne.symm h.ne.2.2.2)), h.ne⟩
theorem In.g_ {A : Pl} {s : St} {W W' : World} (h : In A s W) (hg : W.grownBy W' (some A.g)) {f : Int → Bool} (hm : Mu W' A.g f) : In A { s with gone := f } W' := by
  have hk := h.ck
  obtain ⟨cs, t, kb, kk⟩ := hk
  have n1 := ne_of h.body (mu_is h.g)
  have n2 := ne_of kb (mu_is h.g)
  have e : ∀ i, i < W.heap.size → i ≠ A.g → W'.heap[i]? = W.heap[i]? := fun i hi hn => hg.block i hi (fun e => hn (Option.some.inj e))
  exact ⟨(e _ h.lt n1).trans h.body, ⟨cs, t, (e _ h.ck.lt n2).trans kb, kk⟩, h.u.block (e _ h.u.lt h.ne.2.2.1), h.h.block (e _ h.h.lt h.ne.2.2.2), hm, h.ne⟩
theorem In.now_ {A : Pl} {s : St} {W W' : World} (h : In A s W) {v : Int} (hs : CloC.Set W A.k 0 v W') : In A { s with now := v } W' := by
  have hk := h.ck
  obtain ⟨cs, t, kb, kk⟩ := hk
  have e : ∀ i, i < W.heap.size → i ≠ A.k → W'.heap[i]? = W.heap[i]? := hs.but.block
  exact ⟨(e _ h.lt h.ne.1).trans h.body, hs.ck h.ck, h.u.block (e _ h.u.lt (Ne.symm (ne_of kb (mi_is h.u)))), h.h.block (e _ h.h.lt (Ne.symm (ne_of kb (mh_is h.h)))), h.g.block (e _ h.g.lt (Ne.symm (ne_of kb (mu_is h.g)))), h.ne⟩
theorem In.ep_ {A : Pl} {s : St} {W : World} (h : In A s W) (v : Int) : In A { s with ep := v } (W.setCell ⟨A.c, 2, none⟩ (.int .i64 v)) := by
  have hk := h.ck
  obtain ⟨cs, t, kb, kk⟩ := hk
  have e : ∀ i, i ≠ A.c → (W.setCell ⟨A.c, 2, none⟩ (.int .i64 v)).heap[i]? = W.heap[i]? := fun i hn => Below.heap_setCell _ _ _ _ hn
  exact ⟨blk_set h.body, ⟨cs, t, (e _ (Ne.symm h.ne.1)).trans kb, kk⟩, h.u.block (e _ (Ne.symm (ne_of h.body (mi_is h.u)))), h.h.block (e _ (Ne.symm (ne_of h.body (mh_is h.h)))), h.g.block (e _ (Ne.symm (ne_of h.body (mu_is h.g)))), h.ne⟩
/-- What stands while a book takes a record. -/
structure Wt (A : Pl) (s : St) (r : Rec) (w W : World) : Prop where
  tu : Tu A w W
  k : Bk W w.heap.size r
  i : In A s W
  lt : A.c < w.heap.size ∧ A.k < w.heap.size ∧ A.u < w.heap.size ∧ A.h < w.heap.size ∧ A.g < w.heap.size
theorem wt_new {A : Pl} {s : St} {w : World} (h : In A s w) (r : Rec) : Wt A s r w (w.alloc (.cells #[.int .i64 r.k, .int .i64 r.ep, .int .i64 r.tm, .int .i64 r.ct, .int .i64 r.tg, .int .i64 r.un, .string ⟨r.rt.toArray⟩, .string ⟨r.nm.toArray⟩] 82)) :=
  ⟨Tu.of_below (ws_new w r).bel, (ws_new w r).k, h.step (ws_new w r).bel, h.lt, h.ck.lt, h.u.lt, h.h.lt, h.g.lt⟩
theorem Wt.drew {A : Pl} {s : St} {r : Rec} {w W : World} (h : Wt A s r w W) : Wt A s r w W.drew := ⟨h.tu.trans (Tu.of_below ((Below.refl _ _).drew)), h.k, In.drew h.i, h.lt⟩
theorem Wt.now_ {A : Pl} {s : St} {r : Rec} {w W W' : World} (h : Wt A s r w W) {v : Int} (hs : CloC.Set W A.k 0 v W') : Wt A { s with now := v } r w W' :=
  ⟨h.tu.trans (Tu.of_but hs.but (.inr (.inr (.inl rfl)))), (hs.but.block _ h.k.lt (by have := h.lt; omega)).trans h.k, In.now_ h.i hs, h.lt⟩
theorem kept_box {A : Pl} {s : St} {r : Rec} {w W W' : World} (h : Wt A s r w W) {M : Nat} (hM : M < w.heap.size) (hg : W.grownBy W' (some M)) : Bk W' w.heap.size r :=
  (hg.block _ h.k.lt (fun e => by injection e with e; omega)).trans h.k
theorem Wt.u_ {A : Pl} {s : St} {r : Rec} {w W W' : World} (h : Wt A s r w W) (hg : W.grownBy W' (some A.u)) {f : Int → Int} (hm : Mi W' A.u f) : Wt A { s with un := f } r w W' :=
  ⟨h.tu.trans (Tu.of_grown hg (.inr (.inr (.inr (.inl rfl))))), kept_box h h.lt.2.2.1 hg, In.u_ h.i hg hm, h.lt⟩
theorem Wt.h_ {A : Pl} {s : St} {r : Rec} {w W W' : World} (h : Wt A s r w W) (hg : W.grownBy W' (some A.h)) {hs : List (L × Int)} (hm : Mh W' A.h hs) : Wt A { s with hs := hs } r w W' :=
  ⟨h.tu.trans (Tu.of_grown hg (.inr (.inr (.inr (.inr (.inl rfl)))))), kept_box h h.lt.2.2.2.1 hg, In.h_ h.i hg hm, h.lt⟩
theorem Wt.g_ {A : Pl} {s : St} {r : Rec} {w W W' : World} (h : Wt A s r w W) (hg : W.grownBy W' (some A.g)) {f : Int → Bool} (hm : Mu W' A.g f) : Wt A { s with gone := f } r w W' :=
  ⟨h.tu.trans (Tu.of_grown hg (.inr (.inr (.inr (.inr (.inr rfl)))))), kept_box h h.lt.2.2.2.2 hg, In.g_ h.i hg hm, h.lt⟩
theorem set_but (W : World) (c i : Nat) (v : Value) : CloC.But c W (W.setCell ⟨c, i, none⟩ v) := (CloC.But.of_below (Below.refl _ _)).set_ i v
theorem Wt.ep_ {A : Pl} {s : St} {r : Rec} {w W : World} (h : Wt A s r w W) (v : Int) : Wt A { s with ep := v } r w (W.setCell ⟨A.c, 2, none⟩ (.int .i64 v)) :=
  ⟨h.tu.trans (Tu.of_but (set_but _ _ _ _) (.inr (.inl rfl))), (Below.heap_setCell _ _ _ _ (show w.heap.size ≠ A.c by have := h.lt; omega)).trans h.k, In.ep_ h.i v, h.lt⟩
/-- The cells that the walk reads. -/
def Cs (A : Pl) (s : St) (r : Rec) (w W : World) : Prop := W.cell? ⟨A.c, 0, none⟩ = some (.pointer (some ⟨A.k, 0, none⟩)) ∧ W.cell? ⟨A.c, 1, none⟩ = some (.int .i64 s.first) ∧ W.cell? ⟨A.c, 2, none⟩ = some (.int .i64 s.ep) ∧ W.cell? ⟨A.c, 3, none⟩ = some (.map (some A.u)) ∧ W.cell? ⟨A.c, 4, none⟩ = some (.map (some A.h)) ∧ W.cell? ⟨A.c, 5, none⟩ = some (.map (some A.g)) ∧ W.cell? ⟨w.heap.size, 0, none⟩ = some (.int .i64 r.k) ∧ W.cell? ⟨w.heap.size, 1, none⟩ = some (.int .i64 r.ep) ∧ W.cell? ⟨w.heap.size, 2, none⟩ = some (.int .i64 r.tm) ∧ W.cell? ⟨w.heap.size, 3, none⟩ = some (.int .i64 r.ct) ∧ W.cell? ⟨w.heap.size, 4, none⟩ = some (.int .i64 r.tg) ∧ W.cell? ⟨w.heap.size, 5, none⟩ = some (.int .i64 r.un) ∧ W.cell? ⟨w.heap.size, 6, none⟩ = some (.string ⟨r.rt.toArray⟩) ∧ W.cell? ⟨w.heap.size, 7, none⟩ = some (.string ⟨r.nm.toArray⟩)
theorem Wt.cs {A : Pl} {s : St} {r : Rec} {w W : World} (h : Wt A s r w W) : Cs A s r w W := by
  obtain ⟨a, b, c, d, e, f⟩ := h.i.cells
  obtain ⟨k0, k1, k2, k3, k4, k5, k6, k7⟩ := h.k.cells
  exact ⟨a, b, c, d, e, f, k0, k1, k2, k3, k4, k5, k6, k7⟩
set_option maxRecDepth 100000 in
set_option maxHeartbeats 4000000 in
theorem take_1 (A : Pl) (s : St) (r : Rec) (w : World) (h : In A s w) (hm : may s r = 0) (hk : r.k = 1) : Calls Tryz.prog 118 #[.pointer (some ⟨A.c, 0, none⟩), .agg #[.int .i64 r.k, .int .i64 r.ep, .int .i64 r.tm, .int .i64 r.ct, .int .i64 r.tg, .int .i64 r.un, .string ⟨r.rt.toArray⟩, .string ⟨r.nm.toArray⟩]] w fun x w' => x = .returned (.tuple #[]) ∧ In A { s with ep := s.ep + 1, now := r.tm } w' ∧ Tu A w w' := by
  obtain ⟨W1, hW1⟩ : ∃ W1, W1 = w.alloc (.cells #[.int .i64 r.k, .int .i64 r.ep, .int .i64 r.tm, .int .i64 r.ct, .int .i64 r.tg, .int .i64 r.un, .string ⟨r.rt.toArray⟩, .string ⟨r.nm.toArray⟩] 82) := ⟨_, rfl⟩
  have SS : Hid (Wt A s r w W1) := Lib.hid (by rw [hW1]; exact wt_new h r)
  have hb := bounds (may_ok hm).1
  have he := (may_ok hm).2.1
  have HT := Lib.hid (fun W h => CloM.Tick_ok A.k 0 s.now r.tm W h hb.2.2.1.1 hb.2.2.1.2 (may_ok hm).2.2.1)
  have g0 : 0 ≤ r.tg := hb.2.2.2.2.1.1
  have g1 : r.tg ≤ 4294967295 := hb.2.2.2.2.1.2
  have gu : Wf r.un := wf_of (by have := hb.2.2.2.2.2.1; omega)
  have gt : Wf r.tg := wf_of (by omega)
  have gn : r.nm.length ≤ maxLen := by have := hb.2.2.2.2.2.2.2; unfold maxLen; omega
  have p0 : 0 ≤ s.ep := by omega
  have p1 : s.ep ≤ 4294967295 := by omega
  have t1 : (r.k == 1) = true := by rw [hk]; rfl
  obtain ⟨c0, c1, c2, c3, c4, c5, k0, k1, k2, k3, k4, k5, k6, k7⟩ := SS.out.cs
  clear h hm hk hb he
  go_enter Tryz.func118, Tryz.ntmps118
  go_upto_region 1 with (fail)
  rw [← hW1]
  clear hW1
  replace SS := Lib.hid SS.out.drew
  have hS := SS.out.cs
  unfold Cs at hS
  go_region_held3 (fun W => W.cell? ⟨A.c, 0, none⟩ = some (.pointer (some ⟨A.k, 0, none⟩)) ∧ W.cell? ⟨A.c, 1, none⟩ = some (.int .i64 s.first) ∧ W.cell? ⟨A.c, 2, none⟩ = some (.int .i64 s.ep) ∧ W.cell? ⟨A.c, 3, none⟩ = some (.map (some A.u)) ∧ W.cell? ⟨A.c, 4, none⟩ = some (.map (some A.h)) ∧ W.cell? ⟨A.c, 5, none⟩ = some (.map (some A.g)) ∧ W.cell? ⟨w.heap.size, 0, none⟩ = some (.int .i64 r.k) ∧ W.cell? ⟨w.heap.size, 1, none⟩ = some (.int .i64 r.ep) ∧ W.cell? ⟨w.heap.size, 2, none⟩ = some (.int .i64 r.tm) ∧ W.cell? ⟨w.heap.size, 3, none⟩ = some (.int .i64 r.ct) ∧ W.cell? ⟨w.heap.size, 4, none⟩ = some (.int .i64 r.tg) ∧ W.cell? ⟨w.heap.size, 5, none⟩ = some (.int .i64 r.un) ∧ W.cell? ⟨w.heap.size, 6, none⟩ = some (.string ⟨r.rt.toArray⟩) ∧ W.cell? ⟨w.heap.size, 7, none⟩ = some (.string ⟨r.nm.toArray⟩))
    (exact hS) (first | (go_at_call 76; refine (HT.out _ SS.out.i.ck).mono ?_; rintro e w2 ⟨rfl, hb⟩; replace SS := Lib.hid (SS.out.now_ hb); replace hS := SS.out.cs; unfold Cs at hS; clear hb))
  clear k0 k1 k2 k3 k4 k5 k6 k7 c0 c1 c2 c3 c4 c5
  obtain ⟨c0, c1, c2, c3, c4, c5, k0, k1, k2, k3, k4, k5, k6, k7⟩ := hS
  have f2 : w2.frozen? ⟨A.c, 2, none⟩ = false := blk_free SS.out.i.body
  have S3 := Lib.hid (SS.out.ep_ (s.ep + 1))
  go_wp2
  go_end0
  exact ⟨rfl, S3.out.i, S3.out.tu⟩
set_option maxRecDepth 100000 in
set_option maxHeartbeats 4000000 in
theorem take_2 (A : Pl) (s : St) (r : Rec) (w : World) (h : In A s w) (hm : may s r = 0) (hk : r.k = 2) : Calls Tryz.prog 118 #[.pointer (some ⟨A.c, 0, none⟩), .agg #[.int .i64 r.k, .int .i64 r.ep, .int .i64 r.tm, .int .i64 r.ct, .int .i64 r.tg, .int .i64 r.un, .string ⟨r.rt.toArray⟩, .string ⟨r.nm.toArray⟩]] w fun x w' => x = .returned (.tuple #[]) ∧ In A { s with un := upd s.un r.tg r.un, now := r.tm } w' ∧ Tu A w w' := by
  obtain ⟨W1, hW1⟩ : ∃ W1, W1 = w.alloc (.cells #[.int .i64 r.k, .int .i64 r.ep, .int .i64 r.tm, .int .i64 r.ct, .int .i64 r.tg, .int .i64 r.un, .string ⟨r.rt.toArray⟩, .string ⟨r.nm.toArray⟩] 82) := ⟨_, rfl⟩
  have SS : Hid (Wt A s r w W1) := Lib.hid (by rw [hW1]; exact wt_new h r)
  have hb := bounds (may_ok hm).1
  have he := (may_ok hm).2.1
  have HT := Lib.hid (fun W h => CloM.Tick_ok A.k 0 s.now r.tm W h hb.2.2.1.1 hb.2.2.1.2 (may_ok hm).2.2.1)
  have g0 : 0 ≤ r.tg := hb.2.2.2.2.1.1
  have g1 : r.tg ≤ 4294967295 := hb.2.2.2.2.1.2
  have gu : Wf r.un := wf_of (by have := hb.2.2.2.2.2.1; omega)
  have gt : Wf r.tg := wf_of (by omega)
  have gn : r.nm.length ≤ maxLen := by have := hb.2.2.2.2.2.2.2; unfold maxLen; omega
  have p0 : 0 ≤ s.ep := by omega
  have p1 : s.ep ≤ 4294967295 := by omega
  have t1 : (r.k == 1) = false := by rw [hk]; rfl
  have t2 : (r.k == 2) = true := by rw [hk]; rfl
  obtain ⟨c0, c1, c2, c3, c4, c5, k0, k1, k2, k3, k4, k5, k6, k7⟩ := SS.out.cs
  clear h hm hk hb he
  go_enter Tryz.func118, Tryz.ntmps118
  go_upto_region 1 with (fail)
  rw [← hW1]
  clear hW1
  replace SS := Lib.hid SS.out.drew
  have hS := SS.out.cs
  unfold Cs at hS
  go_region_held3 (fun W => W.cell? ⟨A.c, 0, none⟩ = some (.pointer (some ⟨A.k, 0, none⟩)) ∧ W.cell? ⟨A.c, 1, none⟩ = some (.int .i64 s.first) ∧ W.cell? ⟨A.c, 2, none⟩ = some (.int .i64 s.ep) ∧ W.cell? ⟨A.c, 3, none⟩ = some (.map (some A.u)) ∧ W.cell? ⟨A.c, 4, none⟩ = some (.map (some A.h)) ∧ W.cell? ⟨A.c, 5, none⟩ = some (.map (some A.g)) ∧ W.cell? ⟨w.heap.size, 0, none⟩ = some (.int .i64 r.k) ∧ W.cell? ⟨w.heap.size, 1, none⟩ = some (.int .i64 r.ep) ∧ W.cell? ⟨w.heap.size, 2, none⟩ = some (.int .i64 r.tm) ∧ W.cell? ⟨w.heap.size, 3, none⟩ = some (.int .i64 r.ct) ∧ W.cell? ⟨w.heap.size, 4, none⟩ = some (.int .i64 r.tg) ∧ W.cell? ⟨w.heap.size, 5, none⟩ = some (.int .i64 r.un) ∧ W.cell? ⟨w.heap.size, 6, none⟩ = some (.string ⟨r.rt.toArray⟩) ∧ W.cell? ⟨w.heap.size, 7, none⟩ = some (.string ⟨r.nm.toArray⟩))
    (exact hS) (first | (go_at_call 76; refine (HT.out _ SS.out.i.ck).mono ?_; rintro e w2 ⟨rfl, hb⟩; replace SS := Lib.hid (SS.out.now_ hb); replace hS := SS.out.cs; unfold Cs at hS; clear hb))
  clear k0 k1 k2 k3 k4 k5 k6 k7 c0 c1 c2 c3 c4 c5
  obtain ⟨c0, c1, c2, c3, c4, c5, k0, k1, k2, k3, k4, k5, k6, k7⟩ := hS
  go_upto_region 6 with (fail)
  replace SS := Lib.hid SS.out.drew
  have hS := SS.out.cs
  unfold Cs at hS
  obtain ⟨W3, hr, hmm, hgg⟩ := SS.out.i.u.put g0 g1 gu
  have S3 := Lib.hid (SS.out.u_ hgg hmm)
  have hS3 := S3.out.cs
  unfold Cs at hS3
  go_region_held3 (fun W => W.cell? ⟨A.c, 0, none⟩ = some (.pointer (some ⟨A.k, 0, none⟩)) ∧ W.cell? ⟨A.c, 1, none⟩ = some (.int .i64 s.first) ∧ W.cell? ⟨A.c, 2, none⟩ = some (.int .i64 s.ep) ∧ W.cell? ⟨A.c, 3, none⟩ = some (.map (some A.u)) ∧ W.cell? ⟨A.c, 4, none⟩ = some (.map (some A.h)) ∧ W.cell? ⟨A.c, 5, none⟩ = some (.map (some A.g)) ∧ W.cell? ⟨w.heap.size, 0, none⟩ = some (.int .i64 r.k) ∧ W.cell? ⟨w.heap.size, 1, none⟩ = some (.int .i64 r.ep) ∧ W.cell? ⟨w.heap.size, 2, none⟩ = some (.int .i64 r.tm) ∧ W.cell? ⟨w.heap.size, 3, none⟩ = some (.int .i64 r.ct) ∧ W.cell? ⟨w.heap.size, 4, none⟩ = some (.int .i64 r.tg) ∧ W.cell? ⟨w.heap.size, 5, none⟩ = some (.int .i64 r.un) ∧ W.cell? ⟨w.heap.size, 6, none⟩ = some (.string ⟨r.rt.toArray⟩) ∧ W.cell? ⟨w.heap.size, 7, none⟩ = some (.string ⟨r.nm.toArray⟩))
    (first | exact hS | exact hS3) (fail)
  go_wp2
  go_end0
  exact ⟨rfl, S3.out.i, S3.out.tu⟩
set_option maxRecDepth 100000 in
set_option maxHeartbeats 4000000 in
theorem take_3 (A : Pl) (s : St) (r : Rec) (w : World) (h : In A s w) (hm : may s r = 0) (hk : r.k = 3) : Calls Tryz.prog 118 #[.pointer (some ⟨A.c, 0, none⟩), .agg #[.int .i64 r.k, .int .i64 r.ep, .int .i64 r.tm, .int .i64 r.ct, .int .i64 r.tg, .int .i64 r.un, .string ⟨r.rt.toArray⟩, .string ⟨r.nm.toArray⟩]] w fun x w' => x = .returned (.tuple #[]) ∧ In A { s with hs := s.hs ++ [(r.nm, r.tg)], now := r.tm } w' ∧ Tu A w w' := by
  obtain ⟨W1, hW1⟩ : ∃ W1, W1 = w.alloc (.cells #[.int .i64 r.k, .int .i64 r.ep, .int .i64 r.tm, .int .i64 r.ct, .int .i64 r.tg, .int .i64 r.un, .string ⟨r.rt.toArray⟩, .string ⟨r.nm.toArray⟩] 82) := ⟨_, rfl⟩
  have SS : Hid (Wt A s r w W1) := Lib.hid (by rw [hW1]; exact wt_new h r)
  have hb := bounds (may_ok hm).1
  have he := (may_ok hm).2.1
  have HT := Lib.hid (fun W h => CloM.Tick_ok A.k 0 s.now r.tm W h hb.2.2.1.1 hb.2.2.1.2 (may_ok hm).2.2.1)
  have g0 : 0 ≤ r.tg := hb.2.2.2.2.1.1
  have g1 : r.tg ≤ 4294967295 := hb.2.2.2.2.1.2
  have gu : Wf r.un := wf_of (by have := hb.2.2.2.2.2.1; omega)
  have gt : Wf r.tg := wf_of (by omega)
  have gn : r.nm.length ≤ maxLen := by have := hb.2.2.2.2.2.2.2; unfold maxLen; omega
  have p0 : 0 ≤ s.ep := by omega
  have p1 : s.ep ≤ 4294967295 := by omega
  obtain ⟨m1, m2, m3⟩ := may3 hm hk
  have t1 : (r.k == 1) = false := by rw [hk]; rfl
  have t2 : (r.k == 2) = false := by rw [hk]; rfl
  have t3 : (r.k == 3) = true := by rw [hk]; rfl
  obtain ⟨c0, c1, c2, c3, c4, c5, k0, k1, k2, k3, k4, k5, k6, k7⟩ := SS.out.cs
  clear h hm hk hb he
  go_enter Tryz.func118, Tryz.ntmps118
  go_upto_region 1 with (fail)
  rw [← hW1]
  clear hW1
  replace SS := Lib.hid SS.out.drew
  have hS := SS.out.cs
  unfold Cs at hS
  go_region_held3 (fun W => W.cell? ⟨A.c, 0, none⟩ = some (.pointer (some ⟨A.k, 0, none⟩)) ∧ W.cell? ⟨A.c, 1, none⟩ = some (.int .i64 s.first) ∧ W.cell? ⟨A.c, 2, none⟩ = some (.int .i64 s.ep) ∧ W.cell? ⟨A.c, 3, none⟩ = some (.map (some A.u)) ∧ W.cell? ⟨A.c, 4, none⟩ = some (.map (some A.h)) ∧ W.cell? ⟨A.c, 5, none⟩ = some (.map (some A.g)) ∧ W.cell? ⟨w.heap.size, 0, none⟩ = some (.int .i64 r.k) ∧ W.cell? ⟨w.heap.size, 1, none⟩ = some (.int .i64 r.ep) ∧ W.cell? ⟨w.heap.size, 2, none⟩ = some (.int .i64 r.tm) ∧ W.cell? ⟨w.heap.size, 3, none⟩ = some (.int .i64 r.ct) ∧ W.cell? ⟨w.heap.size, 4, none⟩ = some (.int .i64 r.tg) ∧ W.cell? ⟨w.heap.size, 5, none⟩ = some (.int .i64 r.un) ∧ W.cell? ⟨w.heap.size, 6, none⟩ = some (.string ⟨r.rt.toArray⟩) ∧ W.cell? ⟨w.heap.size, 7, none⟩ = some (.string ⟨r.nm.toArray⟩))
    (exact hS) (first | (go_at_call 76; refine (HT.out _ SS.out.i.ck).mono ?_; rintro e w2 ⟨rfl, hb⟩; replace SS := Lib.hid (SS.out.now_ hb); replace hS := SS.out.cs; unfold Cs at hS; clear hb))
  clear k0 k1 k2 k3 k4 k5 k6 k7 c0 c1 c2 c3 c4 c5
  obtain ⟨c0, c1, c2, c3, c4, c5, k0, k1, k2, k3, k4, k5, k6, k7⟩ := hS
  go_upto_region 8 with (fail)
  replace SS := Lib.hid SS.out.drew
  have hS := SS.out.cs
  unfold Cs at hS
  obtain ⟨W3, hr, hmm, hgg⟩ := SS.out.i.h.put m2 m3 gn gt
  have S3 := Lib.hid (SS.out.h_ hgg hmm)
  have hS3 := S3.out.cs
  unfold Cs at hS3
  go_region_held3 (fun W => W.cell? ⟨A.c, 0, none⟩ = some (.pointer (some ⟨A.k, 0, none⟩)) ∧ W.cell? ⟨A.c, 1, none⟩ = some (.int .i64 s.first) ∧ W.cell? ⟨A.c, 2, none⟩ = some (.int .i64 s.ep) ∧ W.cell? ⟨A.c, 3, none⟩ = some (.map (some A.u)) ∧ W.cell? ⟨A.c, 4, none⟩ = some (.map (some A.h)) ∧ W.cell? ⟨A.c, 5, none⟩ = some (.map (some A.g)) ∧ W.cell? ⟨w.heap.size, 0, none⟩ = some (.int .i64 r.k) ∧ W.cell? ⟨w.heap.size, 1, none⟩ = some (.int .i64 r.ep) ∧ W.cell? ⟨w.heap.size, 2, none⟩ = some (.int .i64 r.tm) ∧ W.cell? ⟨w.heap.size, 3, none⟩ = some (.int .i64 r.ct) ∧ W.cell? ⟨w.heap.size, 4, none⟩ = some (.int .i64 r.tg) ∧ W.cell? ⟨w.heap.size, 5, none⟩ = some (.int .i64 r.un) ∧ W.cell? ⟨w.heap.size, 6, none⟩ = some (.string ⟨r.rt.toArray⟩) ∧ W.cell? ⟨w.heap.size, 7, none⟩ = some (.string ⟨r.nm.toArray⟩))
    (first | exact hS | exact hS3) (fail)
  go_wp2
  go_end0
  exact ⟨rfl, S3.out.i, S3.out.tu⟩
set_option maxRecDepth 100000 in
set_option maxHeartbeats 4000000 in
theorem take_4 (A : Pl) (s : St) (r : Rec) (w : World) (h : In A s w) (hm : may s r = 0) (hk : r.k = 4) : Calls Tryz.prog 118 #[.pointer (some ⟨A.c, 0, none⟩), .agg #[.int .i64 r.k, .int .i64 r.ep, .int .i64 r.tm, .int .i64 r.ct, .int .i64 r.tg, .int .i64 r.un, .string ⟨r.rt.toArray⟩, .string ⟨r.nm.toArray⟩]] w fun x w' => x = .returned (.tuple #[]) ∧ In A { s with hs := del s.hs r.nm, now := r.tm } w' ∧ Tu A w w' := by
  obtain ⟨W1, hW1⟩ : ∃ W1, W1 = w.alloc (.cells #[.int .i64 r.k, .int .i64 r.ep, .int .i64 r.tm, .int .i64 r.ct, .int .i64 r.tg, .int .i64 r.un, .string ⟨r.rt.toArray⟩, .string ⟨r.nm.toArray⟩] 82) := ⟨_, rfl⟩
  have SS : Hid (Wt A s r w W1) := Lib.hid (by rw [hW1]; exact wt_new h r)
  have hb := bounds (may_ok hm).1
  have he := (may_ok hm).2.1
  have HT := Lib.hid (fun W h => CloM.Tick_ok A.k 0 s.now r.tm W h hb.2.2.1.1 hb.2.2.1.2 (may_ok hm).2.2.1)
  have g0 : 0 ≤ r.tg := hb.2.2.2.2.1.1
  have g1 : r.tg ≤ 4294967295 := hb.2.2.2.2.1.2
  have gu : Wf r.un := wf_of (by have := hb.2.2.2.2.2.1; omega)
  have gt : Wf r.tg := wf_of (by omega)
  have gn : r.nm.length ≤ maxLen := by have := hb.2.2.2.2.2.2.2; unfold maxLen; omega
  have p0 : 0 ≤ s.ep := by omega
  have p1 : s.ep ≤ 4294967295 := by omega
  have t1 : (r.k == 1) = false := by rw [hk]; rfl
  have t2 : (r.k == 2) = false := by rw [hk]; rfl
  have t3 : (r.k == 3) = false := by rw [hk]; rfl
  have t4 : (r.k == 4) = true := by rw [hk]; rfl
  obtain ⟨c0, c1, c2, c3, c4, c5, k0, k1, k2, k3, k4, k5, k6, k7⟩ := SS.out.cs
  clear h hm hk hb he
  go_enter Tryz.func118, Tryz.ntmps118
  go_upto_region 1 with (fail)
  rw [← hW1]
  clear hW1
  replace SS := Lib.hid SS.out.drew
  have hS := SS.out.cs
  unfold Cs at hS
  go_region_held3 (fun W => W.cell? ⟨A.c, 0, none⟩ = some (.pointer (some ⟨A.k, 0, none⟩)) ∧ W.cell? ⟨A.c, 1, none⟩ = some (.int .i64 s.first) ∧ W.cell? ⟨A.c, 2, none⟩ = some (.int .i64 s.ep) ∧ W.cell? ⟨A.c, 3, none⟩ = some (.map (some A.u)) ∧ W.cell? ⟨A.c, 4, none⟩ = some (.map (some A.h)) ∧ W.cell? ⟨A.c, 5, none⟩ = some (.map (some A.g)) ∧ W.cell? ⟨w.heap.size, 0, none⟩ = some (.int .i64 r.k) ∧ W.cell? ⟨w.heap.size, 1, none⟩ = some (.int .i64 r.ep) ∧ W.cell? ⟨w.heap.size, 2, none⟩ = some (.int .i64 r.tm) ∧ W.cell? ⟨w.heap.size, 3, none⟩ = some (.int .i64 r.ct) ∧ W.cell? ⟨w.heap.size, 4, none⟩ = some (.int .i64 r.tg) ∧ W.cell? ⟨w.heap.size, 5, none⟩ = some (.int .i64 r.un) ∧ W.cell? ⟨w.heap.size, 6, none⟩ = some (.string ⟨r.rt.toArray⟩) ∧ W.cell? ⟨w.heap.size, 7, none⟩ = some (.string ⟨r.nm.toArray⟩))
    (exact hS) (first | (go_at_call 76; refine (HT.out _ SS.out.i.ck).mono ?_; rintro e w2 ⟨rfl, hb⟩; replace SS := Lib.hid (SS.out.now_ hb); replace hS := SS.out.cs; unfold Cs at hS; clear hb))
  clear k0 k1 k2 k3 k4 k5 k6 k7 c0 c1 c2 c3 c4 c5
  obtain ⟨c0, c1, c2, c3, c4, c5, k0, k1, k2, k3, k4, k5, k6, k7⟩ := hS
  go_upto_region 10 with (fail)
  replace SS := Lib.hid SS.out.drew
  have hS := SS.out.cs
  unfold Cs at hS
  obtain ⟨W3, hr, hmm, hgg⟩ := SS.out.i.h.del_ (s := r.nm) gn
  have S3 := Lib.hid (SS.out.h_ hgg hmm)
  have hS3 := S3.out.cs
  unfold Cs at hS3
  go_region_held3 (fun W => W.cell? ⟨A.c, 0, none⟩ = some (.pointer (some ⟨A.k, 0, none⟩)) ∧ W.cell? ⟨A.c, 1, none⟩ = some (.int .i64 s.first) ∧ W.cell? ⟨A.c, 2, none⟩ = some (.int .i64 s.ep) ∧ W.cell? ⟨A.c, 3, none⟩ = some (.map (some A.u)) ∧ W.cell? ⟨A.c, 4, none⟩ = some (.map (some A.h)) ∧ W.cell? ⟨A.c, 5, none⟩ = some (.map (some A.g)) ∧ W.cell? ⟨w.heap.size, 0, none⟩ = some (.int .i64 r.k) ∧ W.cell? ⟨w.heap.size, 1, none⟩ = some (.int .i64 r.ep) ∧ W.cell? ⟨w.heap.size, 2, none⟩ = some (.int .i64 r.tm) ∧ W.cell? ⟨w.heap.size, 3, none⟩ = some (.int .i64 r.ct) ∧ W.cell? ⟨w.heap.size, 4, none⟩ = some (.int .i64 r.tg) ∧ W.cell? ⟨w.heap.size, 5, none⟩ = some (.int .i64 r.un) ∧ W.cell? ⟨w.heap.size, 6, none⟩ = some (.string ⟨r.rt.toArray⟩) ∧ W.cell? ⟨w.heap.size, 7, none⟩ = some (.string ⟨r.nm.toArray⟩))
    (first | exact hS | exact hS3) (fail)
  go_wp2
  go_end0
  exact ⟨rfl, S3.out.i, S3.out.tu⟩
set_option maxRecDepth 100000 in
set_option maxHeartbeats 4000000 in
theorem take_5 (A : Pl) (s : St) (r : Rec) (w : World) (h : In A s w) (hm : may s r = 0) (hk : r.k = 5) : Calls Tryz.prog 118 #[.pointer (some ⟨A.c, 0, none⟩), .agg #[.int .i64 r.k, .int .i64 r.ep, .int .i64 r.tm, .int .i64 r.ct, .int .i64 r.tg, .int .i64 r.un, .string ⟨r.rt.toArray⟩, .string ⟨r.nm.toArray⟩]] w fun x w' => x = .returned (.tuple #[]) ∧ In A { s with gone := upd s.gone r.tg true, now := r.tm } w' ∧ Tu A w w' := by
  obtain ⟨W1, hW1⟩ : ∃ W1, W1 = w.alloc (.cells #[.int .i64 r.k, .int .i64 r.ep, .int .i64 r.tm, .int .i64 r.ct, .int .i64 r.tg, .int .i64 r.un, .string ⟨r.rt.toArray⟩, .string ⟨r.nm.toArray⟩] 82) := ⟨_, rfl⟩
  have SS : Hid (Wt A s r w W1) := Lib.hid (by rw [hW1]; exact wt_new h r)
  have hb := bounds (may_ok hm).1
  have he := (may_ok hm).2.1
  have HT := Lib.hid (fun W h => CloM.Tick_ok A.k 0 s.now r.tm W h hb.2.2.1.1 hb.2.2.1.2 (may_ok hm).2.2.1)
  have g0 : 0 ≤ r.tg := hb.2.2.2.2.1.1
  have g1 : r.tg ≤ 4294967295 := hb.2.2.2.2.1.2
  have gu : Wf r.un := wf_of (by have := hb.2.2.2.2.2.1; omega)
  have gt : Wf r.tg := wf_of (by omega)
  have gn : r.nm.length ≤ maxLen := by have := hb.2.2.2.2.2.2.2; unfold maxLen; omega
  have p0 : 0 ≤ s.ep := by omega
  have p1 : s.ep ≤ 4294967295 := by omega
  have t1 : (r.k == 1) = false := by rw [hk]; rfl
  have t2 : (r.k == 2) = false := by rw [hk]; rfl
  have t3 : (r.k == 3) = false := by rw [hk]; rfl
  have t4 : (r.k == 4) = false := by rw [hk]; rfl
  have t5 : (r.k == 5) = true := by rw [hk]; rfl
  obtain ⟨c0, c1, c2, c3, c4, c5, k0, k1, k2, k3, k4, k5, k6, k7⟩ := SS.out.cs
  clear h hm hk hb he
  go_enter Tryz.func118, Tryz.ntmps118
  go_upto_region 1 with (fail)
  rw [← hW1]
  clear hW1
  replace SS := Lib.hid SS.out.drew
  have hS := SS.out.cs
  unfold Cs at hS
  go_region_held3 (fun W => W.cell? ⟨A.c, 0, none⟩ = some (.pointer (some ⟨A.k, 0, none⟩)) ∧ W.cell? ⟨A.c, 1, none⟩ = some (.int .i64 s.first) ∧ W.cell? ⟨A.c, 2, none⟩ = some (.int .i64 s.ep) ∧ W.cell? ⟨A.c, 3, none⟩ = some (.map (some A.u)) ∧ W.cell? ⟨A.c, 4, none⟩ = some (.map (some A.h)) ∧ W.cell? ⟨A.c, 5, none⟩ = some (.map (some A.g)) ∧ W.cell? ⟨w.heap.size, 0, none⟩ = some (.int .i64 r.k) ∧ W.cell? ⟨w.heap.size, 1, none⟩ = some (.int .i64 r.ep) ∧ W.cell? ⟨w.heap.size, 2, none⟩ = some (.int .i64 r.tm) ∧ W.cell? ⟨w.heap.size, 3, none⟩ = some (.int .i64 r.ct) ∧ W.cell? ⟨w.heap.size, 4, none⟩ = some (.int .i64 r.tg) ∧ W.cell? ⟨w.heap.size, 5, none⟩ = some (.int .i64 r.un) ∧ W.cell? ⟨w.heap.size, 6, none⟩ = some (.string ⟨r.rt.toArray⟩) ∧ W.cell? ⟨w.heap.size, 7, none⟩ = some (.string ⟨r.nm.toArray⟩))
    (exact hS) (first | (go_at_call 76; refine (HT.out _ SS.out.i.ck).mono ?_; rintro e w2 ⟨rfl, hb⟩; replace SS := Lib.hid (SS.out.now_ hb); replace hS := SS.out.cs; unfold Cs at hS; clear hb))
  clear k0 k1 k2 k3 k4 k5 k6 k7 c0 c1 c2 c3 c4 c5
  obtain ⟨c0, c1, c2, c3, c4, c5, k0, k1, k2, k3, k4, k5, k6, k7⟩ := hS
  go_upto_region 12 with (fail)
  replace SS := Lib.hid SS.out.drew
  have hS := SS.out.cs
  unfold Cs at hS
  obtain ⟨W3, hr, hmm, hgg⟩ := SS.out.i.g.put g0 g1
  have S3 := Lib.hid (SS.out.g_ hgg hmm)
  have hS3 := S3.out.cs
  unfold Cs at hS3
  go_region_held3 (fun W => W.cell? ⟨A.c, 0, none⟩ = some (.pointer (some ⟨A.k, 0, none⟩)) ∧ W.cell? ⟨A.c, 1, none⟩ = some (.int .i64 s.first) ∧ W.cell? ⟨A.c, 2, none⟩ = some (.int .i64 s.ep) ∧ W.cell? ⟨A.c, 3, none⟩ = some (.map (some A.u)) ∧ W.cell? ⟨A.c, 4, none⟩ = some (.map (some A.h)) ∧ W.cell? ⟨A.c, 5, none⟩ = some (.map (some A.g)) ∧ W.cell? ⟨w.heap.size, 0, none⟩ = some (.int .i64 r.k) ∧ W.cell? ⟨w.heap.size, 1, none⟩ = some (.int .i64 r.ep) ∧ W.cell? ⟨w.heap.size, 2, none⟩ = some (.int .i64 r.tm) ∧ W.cell? ⟨w.heap.size, 3, none⟩ = some (.int .i64 r.ct) ∧ W.cell? ⟨w.heap.size, 4, none⟩ = some (.int .i64 r.tg) ∧ W.cell? ⟨w.heap.size, 5, none⟩ = some (.int .i64 r.un) ∧ W.cell? ⟨w.heap.size, 6, none⟩ = some (.string ⟨r.rt.toArray⟩) ∧ W.cell? ⟨w.heap.size, 7, none⟩ = some (.string ⟨r.nm.toArray⟩))
    (first | exact hS | exact hS3) (fail)
  go_wp2
  go_end0
  exact ⟨rfl, S3.out.i, S3.out.tu⟩
/-- What a book is that takes a record that is not refused. -/
theorem take (A : Pl) (s : St) (r : Rec) (w : World) (h : In A s w) (hm : may s r = 0) : Calls Tryz.prog 118 #[.pointer (some ⟨A.c, 0, none⟩), .agg #[.int .i64 r.k, .int .i64 r.ep, .int .i64 r.tm, .int .i64 r.ct, .int .i64 r.tg, .int .i64 r.un, .string ⟨r.rt.toArray⟩, .string ⟨r.nm.toArray⟩]] w fun x w' => x = .returned (.tuple #[]) ∧ In A (RetN.take s r) w' ∧ Tu A w w' := by
  have hb := (bounds (may_ok hm).1).1
  unfold RetN.take
  by_cases h1 : r.k = 1
  · rw [if_pos h1]; exact take_1 A s r w h hm h1
  rw [if_neg h1]
  by_cases h2 : r.k = 2
  · rw [if_pos h2]; exact take_2 A s r w h hm h2
  rw [if_neg h2]
  by_cases h3 : r.k = 3
  · rw [if_pos h3]; exact take_3 A s r w h hm h3
  rw [if_neg h3]
  by_cases h4 : r.k = 4
  · rw [if_pos h4]; exact take_4 A s r w h hm h4
  rw [if_neg h4]
  by_cases h5 : r.k = 5
  · rw [if_pos h5]; exact take_5 A s r w h hm h5
  exact absurd hb (by omega)
end Go.Proofs.YtopnodkdpehdoaaGreatDoor.RetT
/- The calls of a book, and of none: the walks of their texts. No conditions but those that each lemma names. -/
namespace Go.Proofs.YtopnodkdpehdoaaGreatDoor.RetB
set_option linter.unusedVariables false
open Go.RowKit Go.Maps
open RecN RecC RetN RetC RetH RetP
theorem isNone_book {A : Pl} {s : St} {w : World} (h : Book A s w) : Calls Tryz.prog 63 #[.pointer (some ⟨A.b, 0, none⟩)] w fun e w' => e = .returned (.bool false) ∧ w = w' := by
  have k0 := h.cell
  clear h
  go_enter Tryz.func63, Tryz.ntmps63
  go_wp2
  go_ret
  exact ⟨rfl, rfl⟩
theorem isNone_none {p : Option Addr} {w : World} (h : Non w p) : Calls Tryz.prog 63 #[.pointer p] w fun e w' => e = .returned (.bool true) ∧ w = w' := by
  rcases h with rfl | ⟨B, rfl, h⟩
  · go_enter Tryz.func63, Tryz.ntmps63
    go_wp2
    go_ret
    exact ⟨rfl, rfl⟩
  · have k0 : w.cell? ⟨B, 0, none⟩ = some (.pointer none) := blk_cell h rfl
    clear h
    go_enter Tryz.func63, Tryz.ntmps63
    go_wp2
    go_ret
    exact ⟨rfl, rfl⟩
set_option maxRecDepth 100000 in
theorem Epoch {A : Pl} {s : St} {w : World} (h : Book A s w) : Calls Tryz.prog 42 #[.pointer (some ⟨A.b, 0, none⟩)] w fun e w' => e = .returned (.int .i64 s.ep) ∧ w = w' := by
  have HN := Lib.hid (isNone_book h)
  have k0 := h.cell
  obtain ⟨_, _, c2, _⟩ := h.in_.cells
  clear h
  go_enter Tryz.func42, Tryz.ntmps42
  go_wp2_with (go_at_call 63; refine HN.out.mono ?_; rintro e _ ⟨rfl, rfl⟩)
  go_ret
  exact ⟨rfl, rfl⟩
set_option maxRecDepth 100000 in
theorem Until {A : Pl} {s : St} {w : World} (h : Book A s w) (t : Int) (hw : Wf t) : Calls Tryz.prog 110 #[.pointer (some ⟨A.b, 0, none⟩), .int .i64 t] w fun e w' => e = .returned (.int .i64 (s.un t)) ∧ w = w' := by
  have HN := Lib.hid (isNone_book h)
  have k0 := h.cell
  have hr := h.in_.u.at_ hw
  obtain ⟨_, _, _, c3, _⟩ := h.in_.cells
  generalize s.un t = q at *
  clear h
  go_enter Tryz.func110, Tryz.ntmps110
  go_wp2_with (go_at_call 63; refine HN.out.mono ?_; rintro e _ ⟨rfl, rfl⟩)
  go_ret
  exact ⟨rfl, rfl⟩
set_option maxRecDepth 100000 in
theorem Gone {A : Pl} {s : St} {w : World} (h : Book A s w) (t : Int) (hw : Wf t) : Calls Tryz.prog 44 #[.pointer (some ⟨A.b, 0, none⟩), .int .i64 t] w fun e w' => e = .returned (.bool (s.gone t)) ∧ Below w.heap.size w w' := by
  have HN := Lib.hid (isNone_book h)
  have HP := Lib.hid (isPurged A s t w h.in_ hw)
  have k0 := h.cell
  generalize s.gone t = q at *
  clear h
  go_enter Tryz.func44, Tryz.ntmps44
  go_wp2_with (first
    | (go_at_call 63; refine HN.out.mono ?_; rintro e _ ⟨rfl, rfl⟩)
    | (go_at_call 65; refine HP.out.mono ?_; rintro e w2 ⟨rfl, hb⟩; have BB := Lib.hid hb; clear hb))
  go_ret
  exact ⟨rfl, BB.out⟩
set_option maxRecDepth 100000 in
theorem Holds {A : Pl} {s : St} {w : World} (h : Book A s w) : Calls Tryz.prog 72 #[.pointer (some ⟨A.b, 0, none⟩)] w fun e w' => e = .returned (.int .i64 (s.hs.length : Nat)) ∧ w = w' := by
  have HN := Lib.hid (isNone_book h)
  have k0 := h.cell
  have hn := h.in_.h.len_
  obtain ⟨_, _, _, _, c4, _⟩ := h.in_.cells
  generalize s.hs.length = q at *
  clear h
  go_enter Tryz.func72, Tryz.ntmps72
  go_wp2_with (go_at_call 63; refine HN.out.mono ?_; rintro e _ ⟨rfl, rfl⟩)
  go_ret
  exact ⟨rfl, rfl⟩
/-- What stands while a call runs that was given a book and a record. -/
structure Wb (A : Pl) (s : St) (r : Rec) (w W : World) : Prop where
  ws : Ws w r W
  b : Book A s W
theorem wb_new {A : Pl} {s : St} {w : World} (h : Book A s w) (r : Rec) : Wb A s r w (w.alloc (.cells #[.int .i64 r.k, .int .i64 r.ep, .int .i64 r.tm, .int .i64 r.ct, .int .i64 r.tg, .int .i64 r.un, .string ⟨r.rt.toArray⟩, .string ⟨r.nm.toArray⟩] 82)) := ⟨ws_new w r, h.step (ws_new w r).bel⟩
theorem Wb.step {A : Pl} {s : St} {r : Rec} {w W W' : World} (h : Wb A s r w W) (hb : Below W.heap.size W W') : Wb A s r w W' := ⟨h.ws.step hb, h.b.step hb⟩
theorem Book.drew {A : Pl} {s : St} {W : World} (h : Book A s W) : Book A s W.drew := ⟨h.top, In.drew h.in_, h.nb⟩
theorem Wb.drew {A : Pl} {s : St} {r : Rec} {w W : World} (h : Wb A s r w W) : Wb A s r w W.drew := ⟨h.ws.drew, Book.drew h.b⟩
def Cs (A : Pl) (r : Rec) (w W : World) : Prop := W.cell? ⟨A.b, 0, none⟩ = some (.pointer (some ⟨A.c, 0, none⟩)) ∧ W.cell? ⟨w.heap.size, 0, none⟩ = some (.int .i64 r.k) ∧ W.cell? ⟨w.heap.size, 1, none⟩ = some (.int .i64 r.ep) ∧ W.cell? ⟨w.heap.size, 2, none⟩ = some (.int .i64 r.tm) ∧ W.cell? ⟨w.heap.size, 3, none⟩ = some (.int .i64 r.ct) ∧ W.cell? ⟨w.heap.size, 4, none⟩ = some (.int .i64 r.tg) ∧ W.cell? ⟨w.heap.size, 5, none⟩ = some (.int .i64 r.un) ∧ W.cell? ⟨w.heap.size, 6, none⟩ = some (.string ⟨r.rt.toArray⟩) ∧ W.cell? ⟨w.heap.size, 7, none⟩ = some (.string ⟨r.nm.toArray⟩)
theorem Wb.cs {A : Pl} {s : St} {r : Rec} {w W : World} (h : Wb A s r w W) : Cs A r w W := ⟨h.b.cell, h.ws.k.cells⟩
set_option maxRecDepth 100000 in
set_option maxHeartbeats 4000000 in
theorem May {A : Pl} {s : St} {w : World} (h : Book A s w) (r : Rec) (hw : Wf r.tg) : Calls Tryz.prog 95 #[.pointer (some ⟨A.b, 0, none⟩), .agg #[.int .i64 r.k, .int .i64 r.ep, .int .i64 r.tm, .int .i64 r.ct, .int .i64 r.tg, .int .i64 r.un, .string ⟨r.rt.toArray⟩, .string ⟨r.nm.toArray⟩]] w fun e w' => e = .returned (.int .i64 (may s r)) ∧ Below w.heap.size w w' := by
  obtain ⟨W1, hW1⟩ : ∃ W1, W1 = w.alloc (.cells #[.int .i64 r.k, .int .i64 r.ep, .int .i64 r.tm, .int .i64 r.ct, .int .i64 r.tg, .int .i64 r.un, .string ⟨r.rt.toArray⟩, .string ⟨r.nm.toArray⟩] 82) := ⟨_, rfl⟩
  have SS : Hid (Wb A s r w W1) := Lib.hid (by rw [hW1]; exact wb_new h r)
  have HN := Lib.hid (fun W (h : Book A s W) => isNone_book h)
  have HM := Lib.hid (fun W h => RetM.may A s r W h hw)
  generalize may s r = q at *
  clear h hw
  go_enter Tryz.func95, Tryz.ntmps95
  go_upto_region 1 with (fail)
  rw [← hW1]
  clear hW1
  go_upto_region 3 with (go_at_call 63; refine (HN.out _ SS.out.b).mono ?_; rintro e _ ⟨rfl, rfl⟩)
  replace SS := Lib.hid SS.out.drew
  have hS := SS.out.cs
  unfold Cs at hS
  go_region_held3 (fun W => W.cell? ⟨A.b, 0, none⟩ = some (.pointer (some ⟨A.c, 0, none⟩)) ∧ W.cell? ⟨w.heap.size, 0, none⟩ = some (.int .i64 r.k) ∧ W.cell? ⟨w.heap.size, 1, none⟩ = some (.int .i64 r.ep) ∧ W.cell? ⟨w.heap.size, 2, none⟩ = some (.int .i64 r.tm) ∧ W.cell? ⟨w.heap.size, 3, none⟩ = some (.int .i64 r.ct) ∧ W.cell? ⟨w.heap.size, 4, none⟩ = some (.int .i64 r.tg) ∧ W.cell? ⟨w.heap.size, 5, none⟩ = some (.int .i64 r.un) ∧ W.cell? ⟨w.heap.size, 6, none⟩ = some (.string ⟨r.rt.toArray⟩) ∧ W.cell? ⟨w.heap.size, 7, none⟩ = some (.string ⟨r.nm.toArray⟩))
    (exact hS) (first | (go_at_call 111; refine (HM.out _ SS.out.b.in_).mono ?_; rintro e w2 ⟨rfl, hb⟩; replace SS := Lib.hid (SS.out.step hb); replace hS := SS.out.cs; unfold Cs at hS; clear hb))
  go_wp2
  go_ret
  exact ⟨rfl, SS.out.ws.bel⟩
/-- A book's inner part was turned alone. -/
theorem Book.turn {A : Pl} {s s' : St} {W W' : World} (h : Book A s W) (hi : In A s' W') (ht : Tu { A with b := A.c } W W') : Book A s' W' ∧ Tu A W W' := by
  have hn : ¬ ({ A with b := A.c } : Pl).has A.b := by
    rintro (e | e | e | e | e | e)
    · exact h.nb.1 e
    · exact h.nb.1 e
    · exact h.nb.2 e
    · exact ne_of h.top (mi_is h.in_.u) e
    · exact ne_of h.top (mh_is h.in_.h) e
    · exact ne_of h.top (mu_is h.in_.g) e
  refine ⟨⟨(ht.block _ h.lt hn).trans h.top, hi, h.nb⟩, ht.os, ht.tape, ht.output, ht.size, fun k hk hA => ht.block k hk (fun e => hA ?_)⟩
  rcases e with e | e | e | e | e | e
  · exact .inr (.inl e)
  · exact .inr (.inl e)
  · exact .inr (.inr (.inl e))
  · exact .inr (.inr (.inr (.inl e)))
  · exact .inr (.inr (.inr (.inr (.inl e))))
  · exact .inr (.inr (.inr (.inr (.inr e))))
set_option maxRecDepth 100000 in
set_option maxHeartbeats 4000000 in
theorem Apply_no {A : Pl} {s : St} {w : World} (h : Book A s w) (r : Rec) (hw : Wf r.tg) (hm : may s r ≠ 0) : Calls Tryz.prog 107 #[.pointer (some ⟨A.b, 0, none⟩), .agg #[.int .i64 r.k, .int .i64 r.ep, .int .i64 r.tm, .int .i64 r.ct, .int .i64 r.tg, .int .i64 r.un, .string ⟨r.rt.toArray⟩, .string ⟨r.nm.toArray⟩]] w fun e w' => e = .returned (.int .i64 (may s r)) ∧ Below w.heap.size w w' := by
  obtain ⟨W1, hW1⟩ : ∃ W1, W1 = w.alloc (.cells #[.int .i64 r.k, .int .i64 r.ep, .int .i64 r.tm, .int .i64 r.ct, .int .i64 r.tg, .int .i64 r.un, .string ⟨r.rt.toArray⟩, .string ⟨r.nm.toArray⟩] 82) := ⟨_, rfl⟩
  have SS : Hid (Wb A s r w W1) := Lib.hid (by rw [hW1]; exact wb_new h r)
  have HM := Lib.hid (fun W (h : Book A s W) => May h r hw)
  obtain ⟨k0, k1, k2, k3, k4, k5, k6, k7⟩ := SS.out.ws.k.cells
  generalize may s r = q at *
  have hq : (q != 0) = true := by simpa using hm
  clear h hw hm
  go_enter Tryz.func107, Tryz.ntmps107
  go_upto_region 1 with (fail)
  rw [← hW1]
  clear hW1
  go_wp2_with (go_at_call 95; refine (HM.out _ SS.out.b).mono ?_; rintro e w2 ⟨rfl, hb⟩; replace SS := Lib.hid (SS.out.step hb); clear hb)
  go_ret
  exact ⟨rfl, SS.out.ws.bel⟩
theorem in_to {A : Pl} {s : St} {W : World} (h : In A s W) : In { A with b := A.c } s W := ⟨h.body, h.ck, h.u, h.h, h.g, h.ne⟩
theorem after_ (A : Pl) (s s' : St) (r : Rec) (w W W' : World) (h : Wb A s r w W) (hA : ¬ ({ A with b := A.c } : Pl).has w.heap.size) (hi : In { A with b := A.c } s' W') (ht : Tu { A with b := A.c } W W') : (Book A s' W' ∧ Tu A W W') ∧ Cs A r w W' := by
  have h1 := Book.turn (s' := s') h.b ⟨hi.body, hi.ck, hi.u, hi.h, hi.g, hi.ne⟩ ht
  have h2 : Bk W' w.heap.size r := (ht.block _ h.ws.k.lt hA).trans h.ws.k
  exact ⟨h1, h1.1.cell, h2.cells⟩
set_option maxRecDepth 100000 in
set_option maxHeartbeats 4000000 in
theorem Apply_yes {A : Pl} {s : St} {w : World} (h : Book A s w) (r : Rec) (hw : Wf r.tg) (hm : may s r = 0) : Calls Tryz.prog 107 #[.pointer (some ⟨A.b, 0, none⟩), .agg #[.int .i64 r.k, .int .i64 r.ep, .int .i64 r.tm, .int .i64 r.ct, .int .i64 r.tg, .int .i64 r.un, .string ⟨r.rt.toArray⟩, .string ⟨r.nm.toArray⟩]] w fun e w' => e = .returned (.int .i64 0) ∧ Book A (take s r) w' ∧ Tu A w w' := by
  obtain ⟨W1, hW1⟩ : ∃ W1, W1 = w.alloc (.cells #[.int .i64 r.k, .int .i64 r.ep, .int .i64 r.tm, .int .i64 r.ct, .int .i64 r.tg, .int .i64 r.un, .string ⟨r.rt.toArray⟩, .string ⟨r.nm.toArray⟩] 82) := ⟨_, rfl⟩
  have SS : Hid (Wb A s r w W1) := Lib.hid (by rw [hW1]; exact wb_new h r)
  have HM := Lib.hid (fun W (h : Book A s W) => May h r hw)
  rw [hm] at HM
  have HT := Lib.hid (fun W h => RetT.take { A with b := A.c } s r W h hm)
  obtain ⟨k0, k1, k2, k3, k4, k5, k6, k7⟩ := SS.out.ws.k.cells
  have hA : ¬ ({ A with b := A.c } : Pl).has w.heap.size := by
    have h1 := h.in_.lt
    have h2 := h.in_.ck.lt
    have h3 := h.in_.u.lt
    have h4 := h.in_.h.lt
    have h5 := h.in_.g.lt
    rintro (e | e | e | e | e | e) <;> (dsimp only at e; omega)
  have HA := Lib.hid hA
  clear hA
  generalize take s r = s' at *
  clear h hw hm
  go_enter Tryz.func107, Tryz.ntmps107
  go_upto_region 1 with (fail)
  rw [← hW1]
  clear hW1
  go_upto_region 4 with (go_at_call 95; refine (HM.out _ SS.out.b).mono ?_; rintro e w2 ⟨rfl, hb⟩; replace SS := Lib.hid (SS.out.step hb); clear hb)
  clear k0 k1 k2 k3 k4 k5 k6 k7
  replace SS := Lib.hid SS.out.drew
  have hS := SS.out.cs
  unfold Cs at hS
  go_region_held3 (fun W => W.cell? ⟨A.b, 0, none⟩ = some (.pointer (some ⟨A.c, 0, none⟩)) ∧ W.cell? ⟨w.heap.size, 0, none⟩ = some (.int .i64 r.k) ∧ W.cell? ⟨w.heap.size, 1, none⟩ = some (.int .i64 r.ep) ∧ W.cell? ⟨w.heap.size, 2, none⟩ = some (.int .i64 r.tm) ∧ W.cell? ⟨w.heap.size, 3, none⟩ = some (.int .i64 r.ct) ∧ W.cell? ⟨w.heap.size, 4, none⟩ = some (.int .i64 r.tg) ∧ W.cell? ⟨w.heap.size, 5, none⟩ = some (.int .i64 r.un) ∧ W.cell? ⟨w.heap.size, 6, none⟩ = some (.string ⟨r.rt.toArray⟩) ∧ W.cell? ⟨w.heap.size, 7, none⟩ = some (.string ⟨r.nm.toArray⟩))
    (first | exact hS | exact hS3) (first | (go_at_call 118; refine (HT.out _ (in_to SS.out.b.in_)).mono ?_; rintro e w3 ⟨rfl, hi, ht⟩; have BT := Lib.hid (after_ A s s' r w _ w3 SS.out HA.out hi ht); have hS3 := BT.out.2; unfold Cs at hS3; clear hi ht))
  go_wp2
  go_ret
  exact ⟨rfl, BT.out.1.1, (Tu.of_below SS.out.ws.bel).trans BT.out.1.2⟩
theorem Apply {A : Pl} {s : St} {w : World} (h : Book A s w) (r : Rec) (hw : Wf r.tg) : Calls Tryz.prog 107 #[.pointer (some ⟨A.b, 0, none⟩), .agg #[.int .i64 r.k, .int .i64 r.ep, .int .i64 r.tm, .int .i64 r.ct, .int .i64 r.tg, .int .i64 r.un, .string ⟨r.rt.toArray⟩, .string ⟨r.nm.toArray⟩]] w fun e w' => e = .returned (.int .i64 (may s r)) ∧ Book A (apply s r) w' ∧ Tu A w w' := by
  unfold apply
  by_cases hm : may s r = 0
  · rw [if_pos hm, hm]
    exact Apply_yes h r hw hm
  · rw [if_neg hm]
    exact (Apply_no h r hw hm).mono fun e w' ⟨h1, h2⟩ => ⟨h1, h.step h2, Tu.of_below h2⟩
end Go.Proofs.YtopnodkdpehdoaaGreatDoor.RetB
