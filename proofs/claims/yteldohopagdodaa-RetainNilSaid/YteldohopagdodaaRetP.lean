/- Why a record is refused: the walks of the inner book's texts that only ask. No conditions but those that each lemma names. -/
import Derived.Test.YteldohopagdodaaRetH
import Derived.Test.YteldohopagdodaaRecK
import Derived.Test.YteldohopagdodaaCloM
import Derived.Deep.RegionHeld3
namespace Go.Proofs.Yteldohopagdodaa.RetP
set_option linter.unusedVariables false
open Go.RowKit Go.Maps
open RecN RecC RetN RetC RetH
theorem In.drew {A : Pl} {s : St} {W : World} (h : In A s W) : In A s W.drew := ⟨h.body, h.ck, h.u.block rfl, h.h.block rfl, h.g.block rfl, h.ne⟩
set_option maxRecDepth 100000 in
theorem isPurged (A : Pl) (s : St) (e : Int) (w : World) (h : In A s w) (hw : Wf e) : Calls Try.prog 21 #[.pointer (some ⟨A.c, 0, none⟩), .int .i64 e] w fun x w' => x = .returned (.bool (s.gone e)) ∧ Below w.heap.size w w' := by
  have hr := h.g.at_ hw
  obtain ⟨_, _, _, _, _, k5⟩ := h.cells
  generalize s.gone e = q at *
  clear h
  go_enter Try.func21, Try.ntmps21
  go_wp2
  go_ret
  exact ⟨rfl, below_new w _⟩
set_option maxRecDepth 100000 in
theorem hasHold (A : Pl) (s : St) (n : L) (w : World) (h : In A s w) (hl : n.length ≤ maxLen) : Calls Try.prog 48 #[.pointer (some ⟨A.c, 0, none⟩), .string ⟨n.toArray⟩] w fun x w' => x = .returned (.bool (lk s.hs n).isSome) ∧ w = w' := by
  obtain ⟨c, hr⟩ := h.h.at_ hl
  obtain ⟨_, _, _, _, k4, _⟩ := h.cells
  generalize (lk s.hs n).isSome = q at *
  clear h
  go_enter Try.func48, Try.ntmps48
  go_wp2
  go_ret
  exact ⟨rfl, rfl⟩
set_option maxRecDepth 100000 in
theorem mayMean (A : Pl) (s : St) (t : Int) (w : World) (h : In A s w) (hw : Wf t) : Calls Try.prog 47 #[.pointer (some ⟨A.c, 0, none⟩), .int .i64 t] w fun x w' => x = .returned (.int .i64 (mean s t)) ∧ Below w.heap.size w w' := by
  have HP := Lib.hid (isPurged A s t w h hw)
  obtain ⟨_, k1, _⟩ := h.cells
  unfold mean
  clear h
  by_cases h1 : t < s.first
  · rw [if_pos h1]
    generalize s.first = f at *
    go_enter Try.func47, Try.ntmps47
    go_wp2
    go_ret
    exact ⟨rfl, Below.refl _ _⟩
  · rw [if_neg h1]
    generalize s.first = f at *
    generalize s.gone t = q at *
    cases q
    all_goals
      go_enter Try.func47, Try.ntmps47
      go_wp2_with (go_at_call 21; refine HP.out.mono ?_; rintro e w2 ⟨rfl, hb⟩; have BB := Lib.hid hb; clear hb)
      go_ret
      exact ⟨rfl, BB.out⟩
/-- What stands while a function runs that was given a book and a record. -/
structure Wr (A : Pl) (s : St) (r : Rec) (w W : World) : Prop where
  ws : Ws w r W
  i : In A s W
theorem wr_new {A : Pl} {s : St} {w : World} (h : In A s w) (r : Rec) : Wr A s r w (w.alloc (.cells #[.int .i64 r.k, .int .i64 r.ep, .int .i64 r.tm, .int .i64 r.ct, .int .i64 r.tg, .int .i64 r.un, .string ⟨r.rt.toArray⟩, .string ⟨r.nm.toArray⟩] 30)) := ⟨ws_new w r, h.step (ws_new w r).bel⟩
theorem Wr.step {A : Pl} {s : St} {r : Rec} {w W W' : World} (h : Wr A s r w W) (hb : Below W.heap.size W W') : Wr A s r w W' := ⟨h.ws.step hb, h.i.step hb⟩
theorem Wr.drew {A : Pl} {s : St} {r : Rec} {w W : World} (h : Wr A s r w W) : Wr A s r w W.drew := ⟨h.ws.drew, In.drew h.i⟩
set_option maxRecDepth 100000 in
set_option maxHeartbeats 2000000 in
theorem mayRetain (A : Pl) (s : St) (r : Rec) (w : World) (h : In A s w) (hw : Wf r.tg) : Calls Try.prog 31 #[.pointer (some ⟨A.c, 0, none⟩), .agg #[.int .i64 r.k, .int .i64 r.ep, .int .i64 r.tm, .int .i64 r.ct, .int .i64 r.tg, .int .i64 r.un, .string ⟨r.rt.toArray⟩, .string ⟨r.nm.toArray⟩]] w fun x w' => x = .returned (.int .i64 (mayR s r)) ∧ Below w.heap.size w w' := by
  obtain ⟨W1, hW1⟩ : ∃ W1, W1 = w.alloc (.cells #[.int .i64 r.k, .int .i64 r.ep, .int .i64 r.tm, .int .i64 r.ct, .int .i64 r.tg, .int .i64 r.un, .string ⟨r.rt.toArray⟩, .string ⟨r.nm.toArray⟩] 30) := ⟨_, rfl⟩
  have SS : Hid (Wr A s r w W1) := Lib.hid (by rw [hW1]; exact wr_new h r)
  have HM := Lib.hid (fun W h => mayMean A s r.tg W h hw)
  have HW := Lib.hid hw
  obtain ⟨k0, k1, k2, k3, k4, k5, k6, k7⟩ := SS.out.ws.k.cells
  unfold mayR
  clear h hw
  generalize mean s r.tg = m at *
  by_cases hm : m = 0
  · rw [if_neg (by omega)]
    have hq : (m != 0) = false := by simp [hm]
    by_cases hu : r.un < s.un r.tg
    · rw [if_pos hu]
      go_enter Try.func31, Try.ntmps31
      go_upto_region 1 with (fail)
      rw [← hW1]
      clear hW1
      go_wp2_with (go_at_call 47; refine (HM.out _ SS.out.i).mono ?_; rintro e w2 ⟨rfl, hb⟩; replace SS := Lib.hid (SS.out.step hb); obtain ⟨k0, k1, k2, k3, k4, k5, k6, k7⟩ := SS.out.ws.k.cells; clear hb HM)
      replace SS := Lib.hid SS.out.drew
      have hr := SS.out.i.u.at_ HW.out
      have hS := And.intro SS.out.i.cells.2.2.2.1 SS.out.ws.k.cells
      go_region_held3 (fun W => W.cell? ⟨A.c, 3, none⟩ = some (.map (some A.u)) ∧ W.cell? ⟨w.heap.size, 0, none⟩ = some (.int .i64 r.k) ∧ W.cell? ⟨w.heap.size, 1, none⟩ = some (.int .i64 r.ep) ∧ W.cell? ⟨w.heap.size, 2, none⟩ = some (.int .i64 r.tm) ∧ W.cell? ⟨w.heap.size, 3, none⟩ = some (.int .i64 r.ct) ∧ W.cell? ⟨w.heap.size, 4, none⟩ = some (.int .i64 r.tg) ∧ W.cell? ⟨w.heap.size, 5, none⟩ = some (.int .i64 r.un) ∧ W.cell? ⟨w.heap.size, 6, none⟩ = some (.string ⟨r.rt.toArray⟩) ∧ W.cell? ⟨w.heap.size, 7, none⟩ = some (.string ⟨r.nm.toArray⟩))
        (exact hS) (fail)
      obtain ⟨k0, k1, k2, k3, k4, k5, k6, k7⟩ := SS.out.ws.k.cells
      go_wp2
      go_ret
      exact ⟨rfl, SS.out.ws.bel⟩
    · rw [if_neg hu]
      go_enter Try.func31, Try.ntmps31
      go_upto_region 1 with (fail)
      rw [← hW1]
      clear hW1
      go_wp2_with (go_at_call 47; refine (HM.out _ SS.out.i).mono ?_; rintro e w2 ⟨rfl, hb⟩; replace SS := Lib.hid (SS.out.step hb); obtain ⟨k0, k1, k2, k3, k4, k5, k6, k7⟩ := SS.out.ws.k.cells; clear hb HM)
      replace SS := Lib.hid SS.out.drew
      have hr := SS.out.i.u.at_ HW.out
      have hS := And.intro SS.out.i.cells.2.2.2.1 SS.out.ws.k.cells
      go_region_held3 (fun W => W.cell? ⟨A.c, 3, none⟩ = some (.map (some A.u)) ∧ W.cell? ⟨w.heap.size, 0, none⟩ = some (.int .i64 r.k) ∧ W.cell? ⟨w.heap.size, 1, none⟩ = some (.int .i64 r.ep) ∧ W.cell? ⟨w.heap.size, 2, none⟩ = some (.int .i64 r.tm) ∧ W.cell? ⟨w.heap.size, 3, none⟩ = some (.int .i64 r.ct) ∧ W.cell? ⟨w.heap.size, 4, none⟩ = some (.int .i64 r.tg) ∧ W.cell? ⟨w.heap.size, 5, none⟩ = some (.int .i64 r.un) ∧ W.cell? ⟨w.heap.size, 6, none⟩ = some (.string ⟨r.rt.toArray⟩) ∧ W.cell? ⟨w.heap.size, 7, none⟩ = some (.string ⟨r.nm.toArray⟩))
        (exact hS) (fail)
      obtain ⟨k0, k1, k2, k3, k4, k5, k6, k7⟩ := SS.out.ws.k.cells
      go_wp2
      go_ret
      exact ⟨rfl, SS.out.ws.bel⟩
  · rw [if_pos hm]
    have hq : (m != 0) = true := by simp [hm]
    go_enter Try.func31, Try.ntmps31
    go_upto_region 1 with (fail)
    rw [← hW1]
    clear hW1
    go_wp2_with (go_at_call 47; refine (HM.out _ SS.out.i).mono ?_; rintro e w2 ⟨rfl, hb⟩; replace SS := Lib.hid (SS.out.step hb); obtain ⟨k0, k1, k2, k3, k4, k5, k6, k7⟩ := SS.out.ws.k.cells; clear hb HM)
    go_ret
    exact ⟨rfl, SS.out.ws.bel⟩
set_option maxRecDepth 100000 in
set_option maxHeartbeats 2000000 in
theorem mayHold (A : Pl) (s : St) (r : Rec) (w : World) (h : In A s w) (hw : Wf r.tg) (hl : r.nm.length ≤ maxLen) : Calls Try.prog 32 #[.pointer (some ⟨A.c, 0, none⟩), .agg #[.int .i64 r.k, .int .i64 r.ep, .int .i64 r.tm, .int .i64 r.ct, .int .i64 r.tg, .int .i64 r.un, .string ⟨r.rt.toArray⟩, .string ⟨r.nm.toArray⟩]] w fun x w' => x = .returned (.int .i64 (mayH s r)) ∧ Below w.heap.size w w' := by
  obtain ⟨W1, hW1⟩ : ∃ W1, W1 = w.alloc (.cells #[.int .i64 r.k, .int .i64 r.ep, .int .i64 r.tm, .int .i64 r.ct, .int .i64 r.tg, .int .i64 r.un, .string ⟨r.rt.toArray⟩, .string ⟨r.nm.toArray⟩] 30) := ⟨_, rfl⟩
  have SS : Hid (Wr A s r w W1) := Lib.hid (by rw [hW1]; exact wr_new h r)
  have HM := Lib.hid (fun W h => mayMean A s r.tg W h hw)
  have HH := Lib.hid (fun W h => hasHold A s r.nm W h hl)
  obtain ⟨k0, k1, k2, k3, k4, k5, k6, k7⟩ := SS.out.ws.k.cells
  unfold mayH
  clear h hw hl
  generalize mean s r.tg = m at *
  by_cases hm : m = 0
  · rw [if_neg (by omega)]
    have hq : (m != 0) = false := by simp [hm]
    generalize (lk s.hs r.nm).isSome = q at *
    cases q
    · rw [if_neg (by simp)]
      by_cases hz : 64 ≤ s.hs.length
      · rw [if_pos hz]
        go_enter Try.func32, Try.ntmps32
        go_upto_region 1 with (fail)
        rw [← hW1]
        clear hW1
        go_wp2_with (first | (go_at_call 47; refine (HM.out _ SS.out.i).mono ?_; rintro e w2 ⟨rfl, hb⟩; replace SS := Lib.hid (SS.out.step hb); obtain ⟨k0, k1, k2, k3, k4, k5, k6, k7⟩ := SS.out.ws.k.cells; clear hb HM) | (go_at_call 48; refine (HH.out _ SS.out.i).mono ?_; rintro e _ ⟨rfl, rfl⟩; have kk := SS.out.i.cells.2.2.2.2.1; have hn := SS.out.i.h.len_; have hz' : (64 : Int) ≤ (s.hs.length : Int) := (by omega); clear HH))
        go_ret
        exact ⟨rfl, SS.out.ws.bel⟩
      · rw [if_neg hz]
        go_enter Try.func32, Try.ntmps32
        go_upto_region 1 with (fail)
        rw [← hW1]
        clear hW1
        go_wp2_with (first | (go_at_call 47; refine (HM.out _ SS.out.i).mono ?_; rintro e w2 ⟨rfl, hb⟩; replace SS := Lib.hid (SS.out.step hb); obtain ⟨k0, k1, k2, k3, k4, k5, k6, k7⟩ := SS.out.ws.k.cells; clear hb HM) | (go_at_call 48; refine (HH.out _ SS.out.i).mono ?_; rintro e _ ⟨rfl, rfl⟩; have kk := SS.out.i.cells.2.2.2.2.1; have hn := SS.out.i.h.len_; have hz' : ¬ (64 : Int) ≤ (s.hs.length : Int) := (by omega); clear HH))
        go_ret
        exact ⟨rfl, SS.out.ws.bel⟩
    · rw [if_pos rfl]
      go_enter Try.func32, Try.ntmps32
      go_upto_region 1 with (fail)
      rw [← hW1]
      clear hW1
      go_wp2_with (first | (go_at_call 47; refine (HM.out _ SS.out.i).mono ?_; rintro e w2 ⟨rfl, hb⟩; replace SS := Lib.hid (SS.out.step hb); obtain ⟨k0, k1, k2, k3, k4, k5, k6, k7⟩ := SS.out.ws.k.cells; clear hb HM) | (go_at_call 48; refine (HH.out _ SS.out.i).mono ?_; rintro e _ ⟨rfl, rfl⟩; clear HH))
      go_ret
      exact ⟨rfl, SS.out.ws.bel⟩
  · rw [if_pos hm]
    have hq : (m != 0) = true := by simp [hm]
    go_enter Try.func32, Try.ntmps32
    go_upto_region 1 with (fail)
    rw [← hW1]
    clear hW1
    go_wp2_with (go_at_call 47; refine (HM.out _ SS.out.i).mono ?_; rintro e w2 ⟨rfl, hb⟩; replace SS := Lib.hid (SS.out.step hb); obtain ⟨k0, k1, k2, k3, k4, k5, k6, k7⟩ := SS.out.ws.k.cells; clear hb HM)
    go_ret
    exact ⟨rfl, SS.out.ws.bel⟩
set_option maxRecDepth 100000 in
set_option maxHeartbeats 2000000 in
theorem mayRelease (A : Pl) (s : St) (r : Rec) (w : World) (h : In A s w) (hl : r.nm.length ≤ maxLen) : Calls Try.prog 33 #[.pointer (some ⟨A.c, 0, none⟩), .agg #[.int .i64 r.k, .int .i64 r.ep, .int .i64 r.tm, .int .i64 r.ct, .int .i64 r.tg, .int .i64 r.un, .string ⟨r.rt.toArray⟩, .string ⟨r.nm.toArray⟩]] w fun x w' => x = .returned (.int .i64 (mayL s r)) ∧ Below w.heap.size w w' := by
  obtain ⟨W1, hW1⟩ : ∃ W1, W1 = w.alloc (.cells #[.int .i64 r.k, .int .i64 r.ep, .int .i64 r.tm, .int .i64 r.ct, .int .i64 r.tg, .int .i64 r.un, .string ⟨r.rt.toArray⟩, .string ⟨r.nm.toArray⟩] 30) := ⟨_, rfl⟩
  have SS : Hid (Wr A s r w W1) := Lib.hid (by rw [hW1]; exact wr_new h r)
  have HH := Lib.hid (fun W h => hasHold A s r.nm W h hl)
  obtain ⟨k0, k1, k2, k3, k4, k5, k6, k7⟩ := SS.out.ws.k.cells
  unfold mayL
  clear h hl
  generalize (lk s.hs r.nm).isSome = q at *
  cases q
  all_goals
    go_enter Try.func33, Try.ntmps33
    go_upto_region 1 with (fail)
    rw [← hW1]
    clear hW1
    go_wp2_with (go_at_call 48; refine (HH.out _ SS.out.i).mono ?_; rintro e _ ⟨rfl, rfl⟩; clear HH)
    go_ret
    exact ⟨rfl, SS.out.ws.bel⟩
set_option maxRecDepth 100000 in
set_option maxHeartbeats 2000000 in
theorem mayPurge (A : Pl) (s : St) (r : Rec) (w : World) (h : In A s w) (hw : Wf r.tg) : Calls Try.prog 34 #[.pointer (some ⟨A.c, 0, none⟩), .agg #[.int .i64 r.k, .int .i64 r.ep, .int .i64 r.tm, .int .i64 r.ct, .int .i64 r.tg, .int .i64 r.un, .string ⟨r.rt.toArray⟩, .string ⟨r.nm.toArray⟩]] w fun x w' => x = .returned (.int .i64 (mayP s r)) ∧ Below w.heap.size w w' := by
  obtain ⟨W1, hW1⟩ : ∃ W1, W1 = w.alloc (.cells #[.int .i64 r.k, .int .i64 r.ep, .int .i64 r.tm, .int .i64 r.ct, .int .i64 r.tg, .int .i64 r.un, .string ⟨r.rt.toArray⟩, .string ⟨r.nm.toArray⟩] 30) := ⟨_, rfl⟩
  have SS : Hid (Wr A s r w W1) := Lib.hid (by rw [hW1]; exact wr_new h r)
  have HM := Lib.hid (fun W h => mayMean A s r.tg W h hw)
  have HN := Lib.hid (fun W h => held A s r.tg W h)
  have HW := Lib.hid hw
  obtain ⟨k0, k1, k2, k3, k4, k5, k6, k7⟩ := SS.out.ws.k.cells
  unfold mayP
  clear h hw
  generalize mean s r.tg = m at *
  by_cases hm : m = 0
  · rw [if_neg (by omega)]
    have hq : (m != 0) = false := by simp [hm]
    by_cases h1 : r.tm < s.un r.tg
    · rw [if_pos h1]
      go_enter Try.func34, Try.ntmps34
      go_upto_region 1 with (fail)
      rw [← hW1]
      clear hW1
      go_wp2_with (go_at_call 47; refine (HM.out _ SS.out.i).mono ?_; rintro e w2 ⟨rfl, hb⟩; replace SS := Lib.hid (SS.out.step hb); obtain ⟨k0, k1, k2, k3, k4, k5, k6, k7⟩ := SS.out.ws.k.cells; clear hb HM)
      replace SS := Lib.hid SS.out.drew
      have hr := SS.out.i.u.at_ HW.out
      have hS := And.intro SS.out.i.cells.2.2.2.1 SS.out.ws.k.cells
      go_region_held3 (fun W => W.cell? ⟨A.c, 3, none⟩ = some (.map (some A.u)) ∧ W.cell? ⟨w.heap.size, 0, none⟩ = some (.int .i64 r.k) ∧ W.cell? ⟨w.heap.size, 1, none⟩ = some (.int .i64 r.ep) ∧ W.cell? ⟨w.heap.size, 2, none⟩ = some (.int .i64 r.tm) ∧ W.cell? ⟨w.heap.size, 3, none⟩ = some (.int .i64 r.ct) ∧ W.cell? ⟨w.heap.size, 4, none⟩ = some (.int .i64 r.tg) ∧ W.cell? ⟨w.heap.size, 5, none⟩ = some (.int .i64 r.un) ∧ W.cell? ⟨w.heap.size, 6, none⟩ = some (.string ⟨r.rt.toArray⟩) ∧ W.cell? ⟨w.heap.size, 7, none⟩ = some (.string ⟨r.nm.toArray⟩))
        (exact hS) (fail)
      obtain ⟨k0, k1, k2, k3, k4, k5, k6, k7⟩ := SS.out.ws.k.cells
      go_wp2_with (fail)
      go_ret
      exact ⟨rfl, SS.out.ws.bel⟩
    rw [if_neg h1]
    by_cases h2 : 0 < (heldL s.hs r.tg).length
    · rw [if_pos h2]
      have h2' : (0 : Int) < ((heldL s.hs r.tg).length : Int) := by omega
      go_enter Try.func34, Try.ntmps34
      go_upto_region 1 with (fail)
      rw [← hW1]
      clear hW1
      go_wp2_with (go_at_call 47; refine (HM.out _ SS.out.i).mono ?_; rintro e w2 ⟨rfl, hb⟩; replace SS := Lib.hid (SS.out.step hb); obtain ⟨k0, k1, k2, k3, k4, k5, k6, k7⟩ := SS.out.ws.k.cells; clear hb HM)
      replace SS := Lib.hid SS.out.drew
      have hr := SS.out.i.u.at_ HW.out
      have hS := And.intro SS.out.i.cells.2.2.2.1 SS.out.ws.k.cells
      go_region_held3 (fun W => W.cell? ⟨A.c, 3, none⟩ = some (.map (some A.u)) ∧ W.cell? ⟨w.heap.size, 0, none⟩ = some (.int .i64 r.k) ∧ W.cell? ⟨w.heap.size, 1, none⟩ = some (.int .i64 r.ep) ∧ W.cell? ⟨w.heap.size, 2, none⟩ = some (.int .i64 r.tm) ∧ W.cell? ⟨w.heap.size, 3, none⟩ = some (.int .i64 r.ct) ∧ W.cell? ⟨w.heap.size, 4, none⟩ = some (.int .i64 r.tg) ∧ W.cell? ⟨w.heap.size, 5, none⟩ = some (.int .i64 r.un) ∧ W.cell? ⟨w.heap.size, 6, none⟩ = some (.string ⟨r.rt.toArray⟩) ∧ W.cell? ⟨w.heap.size, 7, none⟩ = some (.string ⟨r.nm.toArray⟩))
        (exact hS) (fail)
      obtain ⟨k0, k1, k2, k3, k4, k5, k6, k7⟩ := SS.out.ws.k.cells
      go_wp2_with (go_at_call 22; refine (HN.out _ SS.out.i).mono ?_; rintro e w3 ⟨⟨ga, gc, rfl, -⟩, hb⟩; replace SS := Lib.hid (SS.out.step hb); obtain ⟨k0, k1, k2, k3, k4, k5, k6, k7⟩ := SS.out.ws.k.cells; clear hb HN)
      go_ret
      exact ⟨rfl, SS.out.ws.bel⟩
    rw [if_neg h2]
    have h2' : ¬ (0 : Int) < ((heldL s.hs r.tg).length : Int) := by omega
    by_cases h3 : r.un ≠ s.un r.tg
    · rw [if_pos h3]
      have h3' : (r.un != s.un r.tg) = true := by simpa using h3
      clear h3
      go_enter Try.func34, Try.ntmps34
      go_upto_region 1 with (fail)
      rw [← hW1]
      clear hW1
      go_wp2_with (go_at_call 47; refine (HM.out _ SS.out.i).mono ?_; rintro e w2 ⟨rfl, hb⟩; replace SS := Lib.hid (SS.out.step hb); obtain ⟨k0, k1, k2, k3, k4, k5, k6, k7⟩ := SS.out.ws.k.cells; clear hb HM)
      replace SS := Lib.hid SS.out.drew
      have hr := SS.out.i.u.at_ HW.out
      have hS := And.intro SS.out.i.cells.2.2.2.1 SS.out.ws.k.cells
      go_region_held3 (fun W => W.cell? ⟨A.c, 3, none⟩ = some (.map (some A.u)) ∧ W.cell? ⟨w.heap.size, 0, none⟩ = some (.int .i64 r.k) ∧ W.cell? ⟨w.heap.size, 1, none⟩ = some (.int .i64 r.ep) ∧ W.cell? ⟨w.heap.size, 2, none⟩ = some (.int .i64 r.tm) ∧ W.cell? ⟨w.heap.size, 3, none⟩ = some (.int .i64 r.ct) ∧ W.cell? ⟨w.heap.size, 4, none⟩ = some (.int .i64 r.tg) ∧ W.cell? ⟨w.heap.size, 5, none⟩ = some (.int .i64 r.un) ∧ W.cell? ⟨w.heap.size, 6, none⟩ = some (.string ⟨r.rt.toArray⟩) ∧ W.cell? ⟨w.heap.size, 7, none⟩ = some (.string ⟨r.nm.toArray⟩))
        (exact hS) (fail)
      obtain ⟨k0, k1, k2, k3, k4, k5, k6, k7⟩ := SS.out.ws.k.cells
      go_wp2_with (go_at_call 22; refine (HN.out _ SS.out.i).mono ?_; rintro e w3 ⟨⟨ga, gc, rfl, -⟩, hb⟩; replace SS := Lib.hid (SS.out.step hb); obtain ⟨k0, k1, k2, k3, k4, k5, k6, k7⟩ := SS.out.ws.k.cells; clear hb HN)
      go_ret
      exact ⟨rfl, SS.out.ws.bel⟩
    · rw [if_neg h3]
      have h3' : (r.un != s.un r.tg) = false := by simpa using h3
      clear h3
      go_enter Try.func34, Try.ntmps34
      go_upto_region 1 with (fail)
      rw [← hW1]
      clear hW1
      go_wp2_with (go_at_call 47; refine (HM.out _ SS.out.i).mono ?_; rintro e w2 ⟨rfl, hb⟩; replace SS := Lib.hid (SS.out.step hb); obtain ⟨k0, k1, k2, k3, k4, k5, k6, k7⟩ := SS.out.ws.k.cells; clear hb HM)
      replace SS := Lib.hid SS.out.drew
      have hr := SS.out.i.u.at_ HW.out
      have hS := And.intro SS.out.i.cells.2.2.2.1 SS.out.ws.k.cells
      go_region_held3 (fun W => W.cell? ⟨A.c, 3, none⟩ = some (.map (some A.u)) ∧ W.cell? ⟨w.heap.size, 0, none⟩ = some (.int .i64 r.k) ∧ W.cell? ⟨w.heap.size, 1, none⟩ = some (.int .i64 r.ep) ∧ W.cell? ⟨w.heap.size, 2, none⟩ = some (.int .i64 r.tm) ∧ W.cell? ⟨w.heap.size, 3, none⟩ = some (.int .i64 r.ct) ∧ W.cell? ⟨w.heap.size, 4, none⟩ = some (.int .i64 r.tg) ∧ W.cell? ⟨w.heap.size, 5, none⟩ = some (.int .i64 r.un) ∧ W.cell? ⟨w.heap.size, 6, none⟩ = some (.string ⟨r.rt.toArray⟩) ∧ W.cell? ⟨w.heap.size, 7, none⟩ = some (.string ⟨r.nm.toArray⟩))
        (exact hS) (fail)
      obtain ⟨k0, k1, k2, k3, k4, k5, k6, k7⟩ := SS.out.ws.k.cells
      go_wp2_with (go_at_call 22; refine (HN.out _ SS.out.i).mono ?_; rintro e w3 ⟨⟨ga, gc, rfl, -⟩, hb⟩; replace SS := Lib.hid (SS.out.step hb); obtain ⟨k0, k1, k2, k3, k4, k5, k6, k7⟩ := SS.out.ws.k.cells; clear hb HN)
      go_ret
      exact ⟨rfl, SS.out.ws.bel⟩
  · rw [if_pos hm]
    have hq : (m != 0) = true := by simp [hm]
    go_enter Try.func34, Try.ntmps34
    go_upto_region 1 with (fail)
    rw [← hW1]
    clear hW1
    go_wp2_with (go_at_call 47; refine (HM.out _ SS.out.i).mono ?_; rintro e w2 ⟨rfl, hb⟩; replace SS := Lib.hid (SS.out.step hb); obtain ⟨k0, k1, k2, k3, k4, k5, k6, k7⟩ := SS.out.ws.k.cells; clear hb HM)
    go_ret
    exact ⟨rfl, SS.out.ws.bel⟩
end Go.Proofs.Yteldohopagdodaa.RetP
