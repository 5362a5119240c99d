/- The document's book: May, Apply: the walks of their texts. The conditions: at most 100,000 records, a first epoch within what may be. -/
import Derived.Test.YtopnodkdpehdoaaGreatDoorLDbc
import Derived.Test.YtopnodkdpehdoaaGreatDoorRecZ
import Derived.Deep.RegionHeld3
namespace Go.Proofs.YtopnodkdpehdoaaGreatDoor.DbM
set_option linter.unusedVariables false
set_option linter.unusedSimpArgs false
open Go.RowKit
open RecN RecC RetN DbN RetR DbC DbD DbE DbF
/-- What stands while a function runs that was given a book and a record. -/
structure Wd (B o : Nat) (f : Int) (a : Option Addr) (n c : Nat) (l : List Rec) (r : Rec) (w W : World) : Prop where
  ws : Ws w r W
  d : Db W B o f a n c l
section
variable {B o : Nat} {f : Int} {a : Option Addr} {n c : Nat} {l : List Rec} {r : Rec} {w W W' : World}
theorem wd_new (h : Db w B o f a n c l) (r : Rec) : Wd B o f a n c l r w (w.alloc (.cells #[.int .i64 r.k, .int .i64 r.ep, .int .i64 r.tm, .int .i64 r.ct, .int .i64 r.tg, .int .i64 r.un, .string ⟨r.rt.toArray⟩, .string ⟨r.nm.toArray⟩] 82)) := ⟨ws_new w r, h.step (ws_new w r).bel⟩
theorem Wd.step (h : Wd B o f a n c l r w W) (hb : Below W.heap.size W W') : Wd B o f a n c l r w W' := ⟨h.ws.step hb, h.d.step hb⟩
theorem Wd.drew (h : Wd B o f a n c l r w W) : Wd B o f a n c l r w W.drew := ⟨h.ws.drew, h.d.drew⟩
end
set_option maxRecDepth 100000 in
set_option maxHeartbeats 4000000 in
theorem May_bad {B o : Nat} {f : Int} {a : Option Addr} {n c : Nat} {l : List Rec} {w : World} (h : Db w B o f a n c l) (r : Rec) (h0 : 0 ≤ f) (h1 : f ≤ 4294967295) (hr : ¬ right r) : Calls Tryz.prog 53 #[.pointer (some ⟨B, o, none⟩), .agg #[.int .i64 r.k, .int .i64 r.ep, .int .i64 r.tm, .int .i64 r.ct, .int .i64 r.tg, .int .i64 r.un, .string ⟨r.rt.toArray⟩, .string ⟨r.nm.toArray⟩]] w fun x w' => x = .returned (.int .i64 (2)) ∧ Below w.heap.size w w' := by
  obtain ⟨W1, hW1⟩ : ∃ W1, W1 = w.alloc (.cells #[.int .i64 r.k, .int .i64 r.ep, .int .i64 r.tm, .int .i64 r.ct, .int .i64 r.tg, .int .i64 r.un, .string ⟨r.rt.toArray⟩, .string ⟨r.nm.toArray⟩] 82) := ⟨_, rfl⟩
  have SS : Hid (Wd B o f a n c l r w W1) := Lib.hid (by rw [hW1]; exact wd_new h r)
  have HR := Lib.hid (fun W => RecZ.Right r W)
  have HE := Lib.hid (fun W (h : Db W B o f a n c l) => Epoch h h0 h1)
  have HN := Lib.hid (fun W (h : Db W B o f a n c l) => Now h)
  have HH := Lib.hid (fun W (h : Db W B o f a n c l) => Hold h r.nm)
  have HG := Lib.hid (fun W (h : Db W B o f a n c l) => Gone h r.tg)
  have HU := Lib.hid (fun W (h : Db W B o f a n c l) => Until h r.tg)
  have HM := Lib.hid (fun W (h : Db W B o f a n c l) => Names h)
  have HL := Lib.hid (fun W (h : Db W B o f a n c l) => Held h r.tg)
  obtain ⟨k0, k1, k2, k3, k4, k5, k6, k7⟩ := SS.out.ws.k.cells
  clear h
  rw [decide_eq_false hr] at HR
  clear hr HE HN HH HG HU HM HL
  go_enter Tryz.func53, Tryz.ntmps53
  go_upto_region 1 with (fail)
  rw [← hW1]
  clear hW1
  go_wp2_with (go_at_call 78; refine (HR.out _).mono ?_; rintro e w2 ⟨rfl, hb⟩; replace SS := Lib.hid (SS.out.step hb); clear k0 k1 k2 k3 k4 k5 k6 k7; obtain ⟨k0, k1, k2, k3, k4, k5, k6, k7⟩ := SS.out.ws.k.cells; clear hb HR)
  go_ret
  exact ⟨rfl, SS.out.ws.bel⟩
set_option maxRecDepth 100000 in
set_option maxHeartbeats 4000000 in
theorem May_ep {B o : Nat} {f : Int} {a : Option Addr} {n c : Nat} {l : List Rec} {w : World} (h : Db w B o f a n c l) (r : Rec) (h0 : 0 ≤ f) (h1 : f ≤ 4294967295) (hr : right r) (he : r.ep ≠ dEp f l) : Calls Tryz.prog 53 #[.pointer (some ⟨B, o, none⟩), .agg #[.int .i64 r.k, .int .i64 r.ep, .int .i64 r.tm, .int .i64 r.ct, .int .i64 r.tg, .int .i64 r.un, .string ⟨r.rt.toArray⟩, .string ⟨r.nm.toArray⟩]] w fun x w' => x = .returned (.int .i64 (16)) ∧ Below w.heap.size w w' := by
  obtain ⟨W1, hW1⟩ : ∃ W1, W1 = w.alloc (.cells #[.int .i64 r.k, .int .i64 r.ep, .int .i64 r.tm, .int .i64 r.ct, .int .i64 r.tg, .int .i64 r.un, .string ⟨r.rt.toArray⟩, .string ⟨r.nm.toArray⟩] 82) := ⟨_, rfl⟩
  have SS : Hid (Wd B o f a n c l r w W1) := Lib.hid (by rw [hW1]; exact wd_new h r)
  have HR := Lib.hid (fun W => RecZ.Right r W)
  have HE := Lib.hid (fun W (h : Db W B o f a n c l) => Epoch h h0 h1)
  have HN := Lib.hid (fun W (h : Db W B o f a n c l) => Now h)
  have HH := Lib.hid (fun W (h : Db W B o f a n c l) => Hold h r.nm)
  have HG := Lib.hid (fun W (h : Db W B o f a n c l) => Gone h r.tg)
  have HU := Lib.hid (fun W (h : Db W B o f a n c l) => Until h r.tg)
  have HM := Lib.hid (fun W (h : Db W B o f a n c l) => Names h)
  have HL := Lib.hid (fun W (h : Db W B o f a n c l) => Held h r.tg)
  obtain ⟨k0, k1, k2, k3, k4, k5, k6, k7⟩ := SS.out.ws.k.cells
  clear h
  rw [decide_eq_true hr] at HR
  clear hr HN HH HG HU HM HL
  generalize dEp f l = m at *
  have hq : (r.ep != m) = true := by simpa using he
  clear he
  go_enter Tryz.func53, Tryz.ntmps53
  go_upto_region 1 with (fail)
  rw [← hW1]
  clear hW1
  go_upto_region 3 with (go_at_call 78; refine (HR.out _).mono ?_; rintro e w2 ⟨rfl, hb⟩; replace SS := Lib.hid (SS.out.step hb); clear k0 k1 k2 k3 k4 k5 k6 k7; obtain ⟨k0, k1, k2, k3, k4, k5, k6, k7⟩ := SS.out.ws.k.cells; clear hb HR)
  replace SS := Lib.hid SS.out.drew
  have hS := SS.out.ws.k.cells
  refine wp_region_held_drew (S := fun W => W.cell? ⟨w.heap.size, 0, none⟩ = some (.int .i64 r.k) ∧ W.cell? ⟨w.heap.size, 1, none⟩ = some (.int .i64 r.ep) ∧ W.cell? ⟨w.heap.size, 2, none⟩ = some (.int .i64 r.tm) ∧ W.cell? ⟨w.heap.size, 3, none⟩ = some (.int .i64 r.ct) ∧ W.cell? ⟨w.heap.size, 4, none⟩ = some (.int .i64 r.tg) ∧ W.cell? ⟨w.heap.size, 5, none⟩ = some (.int .i64 r.un) ∧ W.cell? ⟨w.heap.size, 6, none⟩ = some (.string ⟨r.rt.toArray⟩) ∧ W.cell? ⟨w.heap.size, 7, none⟩ = some (.string ⟨r.nm.toArray⟩)) (by kernel_rfl) hS (fun _ => ?_)
  change wpAnyH _ _ _ _ _ _ #[false, false, false, false, false, false, false, false, false, false, false, false] _ _
  refine wpAnyH_take (i := 0) (v := ?v1) (by rw [List.getElem?_toArray]; rfl) (by kernel_rfl) (by kernel_rfl) (by kernel_rfl) (by intro _ _ _ h; exact h) (Or.inl ⟨by rfl, ?hy1⟩) (by assumption) ?rest1
  case hy1 => (intro W hSW; (try dsimp only at hSW); go_simp; try with_reducible rfl)
  try simp only [Act.put, List.setIfInBounds_toArray, List.set_cons_zero, List.set_cons_succ]
  refine wpAnyH_take (i := 1) (v := ?v2) (by rw [List.getElem?_toArray]; rfl) (by kernel_rfl) (by kernel_rfl) (by kernel_rfl) (by intro _ _ _ h; exact h) (Or.inl ⟨by rfl, ?hy2⟩) (by assumption) ?rest2
  case hy2 => (intro W hSW; (try dsimp only at hSW); go_simp; try with_reducible rfl)
  try simp only [Act.put, List.setIfInBounds_toArray, List.set_cons_zero, List.set_cons_succ]
  refine wpAnyH_take (i := 2) (v := ?v3) (by rw [List.getElem?_toArray]; rfl) (by kernel_rfl) (by kernel_rfl) (by kernel_rfl) (by intro _ _ _ h; exact h) (Or.inl ⟨by rfl, ?hy3⟩) (by assumption) ?rest3
  case hy3 => (intro W hSW; (try dsimp only at hSW); go_simp; try with_reducible rfl)
  try simp only [Act.put, List.setIfInBounds_toArray, List.set_cons_zero, List.set_cons_succ]
  refine wpAnyH_ready (rs := [3]) (by kernel_rfl) (by simp) (AllReadyH.cons (by rw [List.getElem?_toArray]; rfl) (fun K hK => ?_) AllReadyH.nil)
  go_simp
  refine (HE.out _ SS.out.d).mono ?_
  rintro e _ ⟨rfl, rfl⟩
  refine hK.out _ _ hS (fun _ => ?_)
  clear hK K
  try simp only [List.setIfInBounds_toArray, List.set_cons_zero, List.set_cons_succ]
  refine wpAnyH_take (i := 4) (v := ?v5) (by rw [List.getElem?_toArray]; rfl) (by kernel_rfl) (by kernel_rfl) (by kernel_rfl) (by intro _ _ _ h; exact h) (Or.inl ⟨by rfl, ?hy5⟩) (by assumption) ?rest5
  case hy5 => (intro W hSW; (try dsimp only at hSW); go_simp; try with_reducible rfl)
  try simp only [Act.put, List.setIfInBounds_toArray, List.set_cons_zero, List.set_cons_succ]
  refine wpAnyH_take (i := 5) (v := ?v6) (by rw [List.getElem?_toArray]; rfl) (by kernel_rfl) (by kernel_rfl) (by kernel_rfl) (by intro _ _ _ h; exact h) (Or.inl ⟨by rfl, ?hy6⟩) (by assumption) ?rest6
  case hy6 => (intro W hSW; (try dsimp only at hSW); go_simp; try with_reducible rfl)
  try simp only [Act.put, List.setIfInBounds_toArray, List.set_cons_zero, List.set_cons_succ]
  refine wpAnyH_take (i := 6) (v := undef) (by rw [List.getElem?_toArray]; rfl) (by kernel_rfl) (by kernel_rfl) (by kernel_rfl) (by intro _ _ _ h; exact h) (Or.inr ⟨by rfl, rfl⟩) (by assumption) ?rest7
  try simp only [Act.put, List.setIfInBounds_toArray, List.set_cons_zero, List.set_cons_succ]
  refine wpAnyH_take (i := 7) (v := undef) (by rw [List.getElem?_toArray]; rfl) (by kernel_rfl) (by kernel_rfl) (by kernel_rfl) (by intro _ _ _ h; exact h) (Or.inr ⟨by rfl, rfl⟩) (by assumption) ?rest8
  try simp only [Act.put, List.setIfInBounds_toArray, List.set_cons_zero, List.set_cons_succ]
  refine wpAnyH_take (i := 8) (v := undef) (by rw [List.getElem?_toArray]; rfl) (by kernel_rfl) (by kernel_rfl) (by kernel_rfl) (by intro _ _ _ h; exact h) (Or.inr ⟨by rfl, rfl⟩) (by assumption) ?rest9
  try simp only [Act.put, List.setIfInBounds_toArray, List.set_cons_zero, List.set_cons_succ]
  refine wpAnyH_take (i := 9) (v := undef) (by rw [List.getElem?_toArray]; rfl) (by kernel_rfl) (by kernel_rfl) (by kernel_rfl) (by intro _ _ _ h; exact h) (Or.inr ⟨by rfl, rfl⟩) (by assumption) ?rest10
  try simp only [Act.put, List.setIfInBounds_toArray, List.set_cons_zero, List.set_cons_succ]
  refine wpAnyH_take (i := 10) (v := undef) (by rw [List.getElem?_toArray]; rfl) (by kernel_rfl) (by kernel_rfl) (by kernel_rfl) (by intro _ _ _ h; exact h) (Or.inr ⟨by rfl, rfl⟩) (by assumption) ?rest11
  try simp only [Act.put, List.setIfInBounds_toArray, List.set_cons_zero, List.set_cons_succ]
  refine wpAnyH_take (i := 11) (v := ?v12) (by rw [List.getElem?_toArray]; rfl) (by kernel_rfl) (by kernel_rfl) (by kernel_rfl) (by intro _ _ _ h; exact h) (Or.inl ⟨by rfl, ?hy12⟩) (by assumption) ?rest12
  case hy12 => (intro W hSW; (try dsimp only at hSW); go_simp; try with_reducible rfl)
  try simp only [Act.put, List.setIfInBounds_toArray, List.set_cons_zero, List.set_cons_succ]
  refine wpAnyH_done (by kernel_rfl) ?_ _
  go_wp2
  go_ret
  exact ⟨rfl, SS.out.ws.bel⟩
set_option maxRecDepth 100000 in
set_option maxHeartbeats 4000000 in
theorem May_tm {B o : Nat} {f : Int} {a : Option Addr} {n c : Nat} {l : List Rec} {w : World} (h : Db w B o f a n c l) (r : Rec) (h0 : 0 ≤ f) (h1 : f ≤ 4294967295) (hr : right r) (he : r.ep = dEp f l) (ht : r.tm < dNow l) : Calls Tryz.prog 53 #[.pointer (some ⟨B, o, none⟩), .agg #[.int .i64 r.k, .int .i64 r.ep, .int .i64 r.tm, .int .i64 r.ct, .int .i64 r.tg, .int .i64 r.un, .string ⟨r.rt.toArray⟩, .string ⟨r.nm.toArray⟩]] w fun x w' => x = .returned (.int .i64 (16)) ∧ Below w.heap.size w w' := by
  obtain ⟨W1, hW1⟩ : ∃ W1, W1 = w.alloc (.cells #[.int .i64 r.k, .int .i64 r.ep, .int .i64 r.tm, .int .i64 r.ct, .int .i64 r.tg, .int .i64 r.un, .string ⟨r.rt.toArray⟩, .string ⟨r.nm.toArray⟩] 82) := ⟨_, rfl⟩
  have SS : Hid (Wd B o f a n c l r w W1) := Lib.hid (by rw [hW1]; exact wd_new h r)
  have HR := Lib.hid (fun W => RecZ.Right r W)
  have HE := Lib.hid (fun W (h : Db W B o f a n c l) => Epoch h h0 h1)
  have HN := Lib.hid (fun W (h : Db W B o f a n c l) => Now h)
  have HH := Lib.hid (fun W (h : Db W B o f a n c l) => Hold h r.nm)
  have HG := Lib.hid (fun W (h : Db W B o f a n c l) => Gone h r.tg)
  have HU := Lib.hid (fun W (h : Db W B o f a n c l) => Until h r.tg)
  have HM := Lib.hid (fun W (h : Db W B o f a n c l) => Names h)
  have HL := Lib.hid (fun W (h : Db W B o f a n c l) => Held h r.tg)
  obtain ⟨k0, k1, k2, k3, k4, k5, k6, k7⟩ := SS.out.ws.k.cells
  clear h
  rw [decide_eq_true hr] at HR
  clear hr HH HG HU HM HL
  generalize dEp f l = m at *
  generalize dNow l = m2 at *
  have hq : (r.ep != m) = false := by simpa using he
  clear he
  go_enter Tryz.func53, Tryz.ntmps53
  go_upto_region 1 with (fail)
  rw [← hW1]
  clear hW1
  go_upto_region 3 with (go_at_call 78; refine (HR.out _).mono ?_; rintro e w2 ⟨rfl, hb⟩; replace SS := Lib.hid (SS.out.step hb); clear k0 k1 k2 k3 k4 k5 k6 k7; obtain ⟨k0, k1, k2, k3, k4, k5, k6, k7⟩ := SS.out.ws.k.cells; clear hb HR)
  replace SS := Lib.hid SS.out.drew
  have hS := SS.out.ws.k.cells
  go_region_held3 (fun W => W.cell? ⟨w.heap.size, 0, none⟩ = some (.int .i64 r.k) ∧ W.cell? ⟨w.heap.size, 1, none⟩ = some (.int .i64 r.ep) ∧ W.cell? ⟨w.heap.size, 2, none⟩ = some (.int .i64 r.tm) ∧ W.cell? ⟨w.heap.size, 3, none⟩ = some (.int .i64 r.ct) ∧ W.cell? ⟨w.heap.size, 4, none⟩ = some (.int .i64 r.tg) ∧ W.cell? ⟨w.heap.size, 5, none⟩ = some (.int .i64 r.un) ∧ W.cell? ⟨w.heap.size, 6, none⟩ = some (.string ⟨r.rt.toArray⟩) ∧ W.cell? ⟨w.heap.size, 7, none⟩ = some (.string ⟨r.nm.toArray⟩))
    (exact hS) (first | (go_at_call 30; refine (HE.out _ SS.out.d).mono ?_; rintro e _ ⟨rfl, rfl⟩; clear HE) | (go_at_call 79; refine (HN.out _ SS.out.d).mono ?_; rintro e w3 ⟨rfl, hb⟩; replace SS := Lib.hid (SS.out.step hb); replace hS := SS.out.ws.k.cells; clear hb HN))
  clear k0 k1 k2 k3 k4 k5 k6 k7
  obtain ⟨k0, k1, k2, k3, k4, k5, k6, k7⟩ := SS.out.ws.k.cells
  go_wp2
  go_ret
  exact ⟨rfl, SS.out.ws.bel⟩
set_option maxRecDepth 100000 in
set_option maxHeartbeats 4000000 in
theorem May_1 {B o : Nat} {f : Int} {a : Option Addr} {n c : Nat} {l : List Rec} {w : World} (h : Db w B o f a n c l) (r : Rec) (h0 : 0 ≤ f) (h1 : f ≤ 4294967295) (hr : right r) (he : r.ep = dEp f l) (ht : ¬ r.tm < dNow l) (hk : r.k = 1) : Calls Tryz.prog 53 #[.pointer (some ⟨B, o, none⟩), .agg #[.int .i64 r.k, .int .i64 r.ep, .int .i64 r.tm, .int .i64 r.ct, .int .i64 r.tg, .int .i64 r.un, .string ⟨r.rt.toArray⟩, .string ⟨r.nm.toArray⟩]] w fun x w' => x = .returned (.int .i64 (0)) ∧ Below w.heap.size w w' := by
  obtain ⟨W1, hW1⟩ : ∃ W1, W1 = w.alloc (.cells #[.int .i64 r.k, .int .i64 r.ep, .int .i64 r.tm, .int .i64 r.ct, .int .i64 r.tg, .int .i64 r.un, .string ⟨r.rt.toArray⟩, .string ⟨r.nm.toArray⟩] 82) := ⟨_, rfl⟩
  have SS : Hid (Wd B o f a n c l r w W1) := Lib.hid (by rw [hW1]; exact wd_new h r)
  have HR := Lib.hid (fun W => RecZ.Right r W)
  have HE := Lib.hid (fun W (h : Db W B o f a n c l) => Epoch h h0 h1)
  have HN := Lib.hid (fun W (h : Db W B o f a n c l) => Now h)
  have HH := Lib.hid (fun W (h : Db W B o f a n c l) => Hold h r.nm)
  have HG := Lib.hid (fun W (h : Db W B o f a n c l) => Gone h r.tg)
  have HU := Lib.hid (fun W (h : Db W B o f a n c l) => Until h r.tg)
  have HM := Lib.hid (fun W (h : Db W B o f a n c l) => Names h)
  have HL := Lib.hid (fun W (h : Db W B o f a n c l) => Held h r.tg)
  obtain ⟨k0, k1, k2, k3, k4, k5, k6, k7⟩ := SS.out.ws.k.cells
  clear h
  rw [decide_eq_true hr] at HR
  generalize dEp f l = m at *
  generalize dNow l = m2 at *
  have hq : (r.ep != m) = false := by simpa using he
  clear he hr
  have t1 : (r.k == 1) = true := by rw [hk]; rfl
  have t4 : (r.k == 4) = false := by rw [hk]; rfl
  have t2 : (r.k == 2) = false := by rw [hk]; rfl
  have t3 : (r.k == 3) = false := by rw [hk]; rfl
  have t5 : (r.k == 5) = false := by rw [hk]; rfl
  clear hk HH HG HU HM HL
  go_enter Tryz.func53, Tryz.ntmps53
  go_upto_region 1 with (fail)
  rw [← hW1]
  clear hW1
  go_upto_region 3 with (go_at_call 78; refine (HR.out _).mono ?_; rintro e w2 ⟨rfl, hb⟩; replace SS := Lib.hid (SS.out.step hb); clear k0 k1 k2 k3 k4 k5 k6 k7; obtain ⟨k0, k1, k2, k3, k4, k5, k6, k7⟩ := SS.out.ws.k.cells; clear hb HR)
  replace SS := Lib.hid SS.out.drew
  have hS := SS.out.ws.k.cells
  go_region_held3 (fun W => W.cell? ⟨w.heap.size, 0, none⟩ = some (.int .i64 r.k) ∧ W.cell? ⟨w.heap.size, 1, none⟩ = some (.int .i64 r.ep) ∧ W.cell? ⟨w.heap.size, 2, none⟩ = some (.int .i64 r.tm) ∧ W.cell? ⟨w.heap.size, 3, none⟩ = some (.int .i64 r.ct) ∧ W.cell? ⟨w.heap.size, 4, none⟩ = some (.int .i64 r.tg) ∧ W.cell? ⟨w.heap.size, 5, none⟩ = some (.int .i64 r.un) ∧ W.cell? ⟨w.heap.size, 6, none⟩ = some (.string ⟨r.rt.toArray⟩) ∧ W.cell? ⟨w.heap.size, 7, none⟩ = some (.string ⟨r.nm.toArray⟩))
    (exact hS) (first | (go_at_call 30; refine (HE.out _ SS.out.d).mono ?_; rintro e _ ⟨rfl, rfl⟩; clear HE) | (go_at_call 79; refine (HN.out _ SS.out.d).mono ?_; rintro e w3 ⟨rfl, hb⟩; replace SS := Lib.hid (SS.out.step hb); replace hS := SS.out.ws.k.cells; clear hb HN))
  clear k0 k1 k2 k3 k4 k5 k6 k7
  obtain ⟨k0, k1, k2, k3, k4, k5, k6, k7⟩ := SS.out.ws.k.cells
  go_wp2
  go_ret
  exact ⟨rfl, SS.out.ws.bel⟩
set_option maxRecDepth 100000 in
set_option maxHeartbeats 4000000 in
theorem May_4 {B o : Nat} {f : Int} {a : Option Addr} {n c : Nat} {l : List Rec} {w : World} (h : Db w B o f a n c l) (r : Rec) (h0 : 0 ≤ f) (h1 : f ≤ 4294967295) (hr : right r) (he : r.ep = dEp f l) (ht : ¬ r.tm < dNow l) (hk : r.k = 4) : Calls Tryz.prog 53 #[.pointer (some ⟨B, o, none⟩), .agg #[.int .i64 r.k, .int .i64 r.ep, .int .i64 r.tm, .int .i64 r.ct, .int .i64 r.tg, .int .i64 r.un, .string ⟨r.rt.toArray⟩, .string ⟨r.nm.toArray⟩]] w fun x w' => x = .returned (.int .i64 (if dHold l r.nm < 0 then 7 else 0)) ∧ Below w.heap.size w w' := by
  obtain ⟨W1, hW1⟩ : ∃ W1, W1 = w.alloc (.cells #[.int .i64 r.k, .int .i64 r.ep, .int .i64 r.tm, .int .i64 r.ct, .int .i64 r.tg, .int .i64 r.un, .string ⟨r.rt.toArray⟩, .string ⟨r.nm.toArray⟩] 82) := ⟨_, rfl⟩
  have SS : Hid (Wd B o f a n c l r w W1) := Lib.hid (by rw [hW1]; exact wd_new h r)
  have HR := Lib.hid (fun W => RecZ.Right r W)
  have HE := Lib.hid (fun W (h : Db W B o f a n c l) => Epoch h h0 h1)
  have HN := Lib.hid (fun W (h : Db W B o f a n c l) => Now h)
  have HH := Lib.hid (fun W (h : Db W B o f a n c l) => Hold h r.nm)
  have HG := Lib.hid (fun W (h : Db W B o f a n c l) => Gone h r.tg)
  have HU := Lib.hid (fun W (h : Db W B o f a n c l) => Until h r.tg)
  have HM := Lib.hid (fun W (h : Db W B o f a n c l) => Names h)
  have HL := Lib.hid (fun W (h : Db W B o f a n c l) => Held h r.tg)
  obtain ⟨k0, k1, k2, k3, k4, k5, k6, k7⟩ := SS.out.ws.k.cells
  clear h
  rw [decide_eq_true hr] at HR
  generalize dEp f l = m at *
  generalize dNow l = m2 at *
  have hq : (r.ep != m) = false := by simpa using he
  clear he hr
  have t1 : (r.k == 1) = false := by rw [hk]; rfl
  have t4 : (r.k == 4) = true := by rw [hk]; rfl
  have t2 : (r.k == 2) = false := by rw [hk]; rfl
  have t3 : (r.k == 3) = false := by rw [hk]; rfl
  have t5 : (r.k == 5) = false := by rw [hk]; rfl
  clear hk HG HU HM HL
  generalize dHold l r.nm = q at *
  by_cases hh : q < 0
  · rw [if_pos hh]
    go_enter Tryz.func53, Tryz.ntmps53
    go_upto_region 1 with (fail)
    rw [← hW1]
    clear hW1
    go_upto_region 3 with (go_at_call 78; refine (HR.out _).mono ?_; rintro e w2 ⟨rfl, hb⟩; replace SS := Lib.hid (SS.out.step hb); clear k0 k1 k2 k3 k4 k5 k6 k7; obtain ⟨k0, k1, k2, k3, k4, k5, k6, k7⟩ := SS.out.ws.k.cells; clear hb HR)
    replace SS := Lib.hid SS.out.drew
    have hS := SS.out.ws.k.cells
    go_region_held3 (fun W => W.cell? ⟨w.heap.size, 0, none⟩ = some (.int .i64 r.k) ∧ W.cell? ⟨w.heap.size, 1, none⟩ = some (.int .i64 r.ep) ∧ W.cell? ⟨w.heap.size, 2, none⟩ = some (.int .i64 r.tm) ∧ W.cell? ⟨w.heap.size, 3, none⟩ = some (.int .i64 r.ct) ∧ W.cell? ⟨w.heap.size, 4, none⟩ = some (.int .i64 r.tg) ∧ W.cell? ⟨w.heap.size, 5, none⟩ = some (.int .i64 r.un) ∧ W.cell? ⟨w.heap.size, 6, none⟩ = some (.string ⟨r.rt.toArray⟩) ∧ W.cell? ⟨w.heap.size, 7, none⟩ = some (.string ⟨r.nm.toArray⟩))
      (exact hS) (first | (go_at_call 30; refine (HE.out _ SS.out.d).mono ?_; rintro e _ ⟨rfl, rfl⟩; clear HE) | (go_at_call 79; refine (HN.out _ SS.out.d).mono ?_; rintro e w3 ⟨rfl, hb⟩; replace SS := Lib.hid (SS.out.step hb); replace hS := SS.out.ws.k.cells; clear hb HN))
    clear k0 k1 k2 k3 k4 k5 k6 k7
    obtain ⟨k0, k1, k2, k3, k4, k5, k6, k7⟩ := SS.out.ws.k.cells
    go_wp2_with (go_at_call 80; refine (HH.out _ SS.out.d).mono ?_; rintro e _ ⟨rfl, rfl⟩; clear HH)
    go_ret
    exact ⟨rfl, SS.out.ws.bel⟩
  · rw [if_neg hh]
    go_enter Tryz.func53, Tryz.ntmps53
    go_upto_region 1 with (fail)
    rw [← hW1]
    clear hW1
    go_upto_region 3 with (go_at_call 78; refine (HR.out _).mono ?_; rintro e w2 ⟨rfl, hb⟩; replace SS := Lib.hid (SS.out.step hb); clear k0 k1 k2 k3 k4 k5 k6 k7; obtain ⟨k0, k1, k2, k3, k4, k5, k6, k7⟩ := SS.out.ws.k.cells; clear hb HR)
    replace SS := Lib.hid SS.out.drew
    have hS := SS.out.ws.k.cells
    go_region_held3 (fun W => W.cell? ⟨w.heap.size, 0, none⟩ = some (.int .i64 r.k) ∧ W.cell? ⟨w.heap.size, 1, none⟩ = some (.int .i64 r.ep) ∧ W.cell? ⟨w.heap.size, 2, none⟩ = some (.int .i64 r.tm) ∧ W.cell? ⟨w.heap.size, 3, none⟩ = some (.int .i64 r.ct) ∧ W.cell? ⟨w.heap.size, 4, none⟩ = some (.int .i64 r.tg) ∧ W.cell? ⟨w.heap.size, 5, none⟩ = some (.int .i64 r.un) ∧ W.cell? ⟨w.heap.size, 6, none⟩ = some (.string ⟨r.rt.toArray⟩) ∧ W.cell? ⟨w.heap.size, 7, none⟩ = some (.string ⟨r.nm.toArray⟩))
      (exact hS) (first | (go_at_call 30; refine (HE.out _ SS.out.d).mono ?_; rintro e _ ⟨rfl, rfl⟩; clear HE) | (go_at_call 79; refine (HN.out _ SS.out.d).mono ?_; rintro e w3 ⟨rfl, hb⟩; replace SS := Lib.hid (SS.out.step hb); replace hS := SS.out.ws.k.cells; clear hb HN))
    clear k0 k1 k2 k3 k4 k5 k6 k7
    obtain ⟨k0, k1, k2, k3, k4, k5, k6, k7⟩ := SS.out.ws.k.cells
    go_wp2_with (go_at_call 80; refine (HH.out _ SS.out.d).mono ?_; rintro e _ ⟨rfl, rfl⟩; clear HH)
    go_ret
    exact ⟨rfl, SS.out.ws.bel⟩
set_option maxRecDepth 100000 in
set_option maxHeartbeats 4000000 in
theorem May_2 {B o : Nat} {f : Int} {a : Option Addr} {n c : Nat} {l : List Rec} {w : World} (h : Db w B o f a n c l) (r : Rec) (h0 : 0 ≤ f) (h1 : f ≤ 4294967295) (hr : right r) (he : r.ep = dEp f l) (ht : ¬ r.tm < dNow l) (hk : r.k = 2) : Calls Tryz.prog 53 #[.pointer (some ⟨B, o, none⟩), .agg #[.int .i64 r.k, .int .i64 r.ep, .int .i64 r.tm, .int .i64 r.ct, .int .i64 r.tg, .int .i64 r.un, .string ⟨r.rt.toArray⟩, .string ⟨r.nm.toArray⟩]] w fun x w' => x = .returned (.int .i64 (if r.tg < f then 7 else if dGone l r.tg = true then 13 else if r.un < dUn l r.tg then 12 else 0)) ∧ Below w.heap.size w w' := by
  obtain ⟨W1, hW1⟩ : ∃ W1, W1 = w.alloc (.cells #[.int .i64 r.k, .int .i64 r.ep, .int .i64 r.tm, .int .i64 r.ct, .int .i64 r.tg, .int .i64 r.un, .string ⟨r.rt.toArray⟩, .string ⟨r.nm.toArray⟩] 82) := ⟨_, rfl⟩
  have SS : Hid (Wd B o f a n c l r w W1) := Lib.hid (by rw [hW1]; exact wd_new h r)
  have HR := Lib.hid (fun W => RecZ.Right r W)
  have HE := Lib.hid (fun W (h : Db W B o f a n c l) => Epoch h h0 h1)
  have HN := Lib.hid (fun W (h : Db W B o f a n c l) => Now h)
  have HH := Lib.hid (fun W (h : Db W B o f a n c l) => Hold h r.nm)
  have HG := Lib.hid (fun W (h : Db W B o f a n c l) => Gone h r.tg)
  have HU := Lib.hid (fun W (h : Db W B o f a n c l) => Until h r.tg)
  have HM := Lib.hid (fun W (h : Db W B o f a n c l) => Names h)
  have HL := Lib.hid (fun W (h : Db W B o f a n c l) => Held h r.tg)
  obtain ⟨k0, k1, k2, k3, k4, k5, k6, k7⟩ := SS.out.ws.k.cells
  clear h
  rw [decide_eq_true hr] at HR
  generalize dEp f l = m at *
  generalize dNow l = m2 at *
  have hq : (r.ep != m) = false := by simpa using he
  clear he hr
  have t1 : (r.k == 1) = false := by rw [hk]; rfl
  have t4 : (r.k == 4) = false := by rw [hk]; rfl
  have t2 : (r.k == 2) = true := by rw [hk]; rfl
  have t3 : (r.k == 3) = false := by rw [hk]; rfl
  have t5 : (r.k == 5) = false := by rw [hk]; rfl
  generalize dGone l r.tg = g at *
  generalize dUn l r.tg = u at *
  clear hk
  by_cases c1 : r.tg < f
  · rw [if_pos c1]
    clear HG HU HM HL HH
    go_enter Tryz.func53, Tryz.ntmps53
    go_upto_region 1 with (fail)
    rw [← hW1]
    clear hW1
    go_upto_region 3 with (go_at_call 78; refine (HR.out _).mono ?_; rintro e w2 ⟨rfl, hb⟩; replace SS := Lib.hid (SS.out.step hb); clear k0 k1 k2 k3 k4 k5 k6 k7; obtain ⟨k0, k1, k2, k3, k4, k5, k6, k7⟩ := SS.out.ws.k.cells; clear hb HR)
    replace SS := Lib.hid SS.out.drew
    have hS := SS.out.ws.k.cells
    go_region_held3 (fun W => W.cell? ⟨w.heap.size, 0, none⟩ = some (.int .i64 r.k) ∧ W.cell? ⟨w.heap.size, 1, none⟩ = some (.int .i64 r.ep) ∧ W.cell? ⟨w.heap.size, 2, none⟩ = some (.int .i64 r.tm) ∧ W.cell? ⟨w.heap.size, 3, none⟩ = some (.int .i64 r.ct) ∧ W.cell? ⟨w.heap.size, 4, none⟩ = some (.int .i64 r.tg) ∧ W.cell? ⟨w.heap.size, 5, none⟩ = some (.int .i64 r.un) ∧ W.cell? ⟨w.heap.size, 6, none⟩ = some (.string ⟨r.rt.toArray⟩) ∧ W.cell? ⟨w.heap.size, 7, none⟩ = some (.string ⟨r.nm.toArray⟩))
      (exact hS) (first | (go_at_call 30; refine (HE.out _ SS.out.d).mono ?_; rintro e _ ⟨rfl, rfl⟩; clear HE) | (go_at_call 79; refine (HN.out _ SS.out.d).mono ?_; rintro e w3 ⟨rfl, hb⟩; replace SS := Lib.hid (SS.out.step hb); replace hS := SS.out.ws.k.cells; clear hb HN))
    clear k0 k1 k2 k3 k4 k5 k6 k7
    obtain ⟨k0, k1, k2, k3, k4, k5, k6, k7⟩ := SS.out.ws.k.cells
    go_upto_region 11 with (fail)
    replace SS := Lib.hid SS.out.drew
    have hT := And.intro SS.out.d.cells.1 SS.out.ws.k.cells
    go_region_held3 (fun W => W.cell? ⟨B, o, none⟩ = some (.int .i64 f) ∧ W.cell? ⟨w.heap.size, 0, none⟩ = some (.int .i64 r.k) ∧ W.cell? ⟨w.heap.size, 1, none⟩ = some (.int .i64 r.ep) ∧ W.cell? ⟨w.heap.size, 2, none⟩ = some (.int .i64 r.tm) ∧ W.cell? ⟨w.heap.size, 3, none⟩ = some (.int .i64 r.ct) ∧ W.cell? ⟨w.heap.size, 4, none⟩ = some (.int .i64 r.tg) ∧ W.cell? ⟨w.heap.size, 5, none⟩ = some (.int .i64 r.un) ∧ W.cell? ⟨w.heap.size, 6, none⟩ = some (.string ⟨r.rt.toArray⟩) ∧ W.cell? ⟨w.heap.size, 7, none⟩ = some (.string ⟨r.nm.toArray⟩))
      (exact hT) (fail)
    clear k0 k1 k2 k3 k4 k5 k6 k7
    obtain ⟨k0, k1, k2, k3, k4, k5, k6, k7⟩ := SS.out.ws.k.cells
    go_wp2
    go_ret
    exact ⟨rfl, SS.out.ws.bel⟩
  rw [if_neg c1]
  by_cases c2 : g = true
  · rw [if_pos c2]
    subst c2
    clear HU HM HL HH
    go_enter Tryz.func53, Tryz.ntmps53
    go_upto_region 1 with (fail)
    rw [← hW1]
    clear hW1
    go_upto_region 3 with (go_at_call 78; refine (HR.out _).mono ?_; rintro e w2 ⟨rfl, hb⟩; replace SS := Lib.hid (SS.out.step hb); clear k0 k1 k2 k3 k4 k5 k6 k7; obtain ⟨k0, k1, k2, k3, k4, k5, k6, k7⟩ := SS.out.ws.k.cells; clear hb HR)
    replace SS := Lib.hid SS.out.drew
    have hS := SS.out.ws.k.cells
    go_region_held3 (fun W => W.cell? ⟨w.heap.size, 0, none⟩ = some (.int .i64 r.k) ∧ W.cell? ⟨w.heap.size, 1, none⟩ = some (.int .i64 r.ep) ∧ W.cell? ⟨w.heap.size, 2, none⟩ = some (.int .i64 r.tm) ∧ W.cell? ⟨w.heap.size, 3, none⟩ = some (.int .i64 r.ct) ∧ W.cell? ⟨w.heap.size, 4, none⟩ = some (.int .i64 r.tg) ∧ W.cell? ⟨w.heap.size, 5, none⟩ = some (.int .i64 r.un) ∧ W.cell? ⟨w.heap.size, 6, none⟩ = some (.string ⟨r.rt.toArray⟩) ∧ W.cell? ⟨w.heap.size, 7, none⟩ = some (.string ⟨r.nm.toArray⟩))
      (exact hS) (first | (go_at_call 30; refine (HE.out _ SS.out.d).mono ?_; rintro e _ ⟨rfl, rfl⟩; clear HE) | (go_at_call 79; refine (HN.out _ SS.out.d).mono ?_; rintro e w3 ⟨rfl, hb⟩; replace SS := Lib.hid (SS.out.step hb); replace hS := SS.out.ws.k.cells; clear hb HN))
    clear k0 k1 k2 k3 k4 k5 k6 k7
    obtain ⟨k0, k1, k2, k3, k4, k5, k6, k7⟩ := SS.out.ws.k.cells
    go_upto_region 11 with (fail)
    replace SS := Lib.hid SS.out.drew
    have hT := And.intro SS.out.d.cells.1 SS.out.ws.k.cells
    go_region_held3 (fun W => W.cell? ⟨B, o, none⟩ = some (.int .i64 f) ∧ W.cell? ⟨w.heap.size, 0, none⟩ = some (.int .i64 r.k) ∧ W.cell? ⟨w.heap.size, 1, none⟩ = some (.int .i64 r.ep) ∧ W.cell? ⟨w.heap.size, 2, none⟩ = some (.int .i64 r.tm) ∧ W.cell? ⟨w.heap.size, 3, none⟩ = some (.int .i64 r.ct) ∧ W.cell? ⟨w.heap.size, 4, none⟩ = some (.int .i64 r.tg) ∧ W.cell? ⟨w.heap.size, 5, none⟩ = some (.int .i64 r.un) ∧ W.cell? ⟨w.heap.size, 6, none⟩ = some (.string ⟨r.rt.toArray⟩) ∧ W.cell? ⟨w.heap.size, 7, none⟩ = some (.string ⟨r.nm.toArray⟩))
      (exact hT) (fail)
    clear k0 k1 k2 k3 k4 k5 k6 k7
    obtain ⟨k0, k1, k2, k3, k4, k5, k6, k7⟩ := SS.out.ws.k.cells
    go_wp2_with (go_at_call 39; refine (HG.out _ SS.out.d).mono ?_; rintro e _ ⟨rfl, rfl⟩; clear HG)
    go_ret
    exact ⟨rfl, SS.out.ws.bel⟩
  rw [if_neg c2]
  obtain rfl : g = false := by cases g <;> simp_all
  clear c2
  clear HM HL HH
  by_cases c3 : r.un < u
  · rw [if_pos c3]
    go_enter Tryz.func53, Tryz.ntmps53
    go_upto_region 1 with (fail)
    rw [← hW1]
    clear hW1
    go_upto_region 3 with (go_at_call 78; refine (HR.out _).mono ?_; rintro e w2 ⟨rfl, hb⟩; replace SS := Lib.hid (SS.out.step hb); clear k0 k1 k2 k3 k4 k5 k6 k7; obtain ⟨k0, k1, k2, k3, k4, k5, k6, k7⟩ := SS.out.ws.k.cells; clear hb HR)
    replace SS := Lib.hid SS.out.drew
    have hS := SS.out.ws.k.cells
    go_region_held3 (fun W => W.cell? ⟨w.heap.size, 0, none⟩ = some (.int .i64 r.k) ∧ W.cell? ⟨w.heap.size, 1, none⟩ = some (.int .i64 r.ep) ∧ W.cell? ⟨w.heap.size, 2, none⟩ = some (.int .i64 r.tm) ∧ W.cell? ⟨w.heap.size, 3, none⟩ = some (.int .i64 r.ct) ∧ W.cell? ⟨w.heap.size, 4, none⟩ = some (.int .i64 r.tg) ∧ W.cell? ⟨w.heap.size, 5, none⟩ = some (.int .i64 r.un) ∧ W.cell? ⟨w.heap.size, 6, none⟩ = some (.string ⟨r.rt.toArray⟩) ∧ W.cell? ⟨w.heap.size, 7, none⟩ = some (.string ⟨r.nm.toArray⟩))
      (exact hS) (first | (go_at_call 30; refine (HE.out _ SS.out.d).mono ?_; rintro e _ ⟨rfl, rfl⟩; clear HE) | (go_at_call 79; refine (HN.out _ SS.out.d).mono ?_; rintro e w3 ⟨rfl, hb⟩; replace SS := Lib.hid (SS.out.step hb); replace hS := SS.out.ws.k.cells; clear hb HN))
    clear k0 k1 k2 k3 k4 k5 k6 k7
    obtain ⟨k0, k1, k2, k3, k4, k5, k6, k7⟩ := SS.out.ws.k.cells
    go_upto_region 11 with (fail)
    replace SS := Lib.hid SS.out.drew
    have hT := And.intro SS.out.d.cells.1 SS.out.ws.k.cells
    go_region_held3 (fun W => W.cell? ⟨B, o, none⟩ = some (.int .i64 f) ∧ W.cell? ⟨w.heap.size, 0, none⟩ = some (.int .i64 r.k) ∧ W.cell? ⟨w.heap.size, 1, none⟩ = some (.int .i64 r.ep) ∧ W.cell? ⟨w.heap.size, 2, none⟩ = some (.int .i64 r.tm) ∧ W.cell? ⟨w.heap.size, 3, none⟩ = some (.int .i64 r.ct) ∧ W.cell? ⟨w.heap.size, 4, none⟩ = some (.int .i64 r.tg) ∧ W.cell? ⟨w.heap.size, 5, none⟩ = some (.int .i64 r.un) ∧ W.cell? ⟨w.heap.size, 6, none⟩ = some (.string ⟨r.rt.toArray⟩) ∧ W.cell? ⟨w.heap.size, 7, none⟩ = some (.string ⟨r.nm.toArray⟩))
      (exact hT) (fail)
    clear k0 k1 k2 k3 k4 k5 k6 k7
    obtain ⟨k0, k1, k2, k3, k4, k5, k6, k7⟩ := SS.out.ws.k.cells
    go_wp2_with (first | (go_at_call 39; refine (HG.out _ SS.out.d).mono ?_; rintro e _ ⟨rfl, rfl⟩; clear HG) | (go_at_call 56; refine (HU.out _ SS.out.d).mono ?_; rintro e _ ⟨rfl, rfl⟩; clear HU))
    go_ret
    exact ⟨rfl, SS.out.ws.bel⟩
  · rw [if_neg c3]
    go_enter Tryz.func53, Tryz.ntmps53
    go_upto_region 1 with (fail)
    rw [← hW1]
    clear hW1
    go_upto_region 3 with (go_at_call 78; refine (HR.out _).mono ?_; rintro e w2 ⟨rfl, hb⟩; replace SS := Lib.hid (SS.out.step hb); clear k0 k1 k2 k3 k4 k5 k6 k7; obtain ⟨k0, k1, k2, k3, k4, k5, k6, k7⟩ := SS.out.ws.k.cells; clear hb HR)
    replace SS := Lib.hid SS.out.drew
    have hS := SS.out.ws.k.cells
    go_region_held3 (fun W => W.cell? ⟨w.heap.size, 0, none⟩ = some (.int .i64 r.k) ∧ W.cell? ⟨w.heap.size, 1, none⟩ = some (.int .i64 r.ep) ∧ W.cell? ⟨w.heap.size, 2, none⟩ = some (.int .i64 r.tm) ∧ W.cell? ⟨w.heap.size, 3, none⟩ = some (.int .i64 r.ct) ∧ W.cell? ⟨w.heap.size, 4, none⟩ = some (.int .i64 r.tg) ∧ W.cell? ⟨w.heap.size, 5, none⟩ = some (.int .i64 r.un) ∧ W.cell? ⟨w.heap.size, 6, none⟩ = some (.string ⟨r.rt.toArray⟩) ∧ W.cell? ⟨w.heap.size, 7, none⟩ = some (.string ⟨r.nm.toArray⟩))
      (exact hS) (first | (go_at_call 30; refine (HE.out _ SS.out.d).mono ?_; rintro e _ ⟨rfl, rfl⟩; clear HE) | (go_at_call 79; refine (HN.out _ SS.out.d).mono ?_; rintro e w3 ⟨rfl, hb⟩; replace SS := Lib.hid (SS.out.step hb); replace hS := SS.out.ws.k.cells; clear hb HN))
    clear k0 k1 k2 k3 k4 k5 k6 k7
    obtain ⟨k0, k1, k2, k3, k4, k5, k6, k7⟩ := SS.out.ws.k.cells
    go_upto_region 11 with (fail)
    replace SS := Lib.hid SS.out.drew
    have hT := And.intro SS.out.d.cells.1 SS.out.ws.k.cells
    go_region_held3 (fun W => W.cell? ⟨B, o, none⟩ = some (.int .i64 f) ∧ W.cell? ⟨w.heap.size, 0, none⟩ = some (.int .i64 r.k) ∧ W.cell? ⟨w.heap.size, 1, none⟩ = some (.int .i64 r.ep) ∧ W.cell? ⟨w.heap.size, 2, none⟩ = some (.int .i64 r.tm) ∧ W.cell? ⟨w.heap.size, 3, none⟩ = some (.int .i64 r.ct) ∧ W.cell? ⟨w.heap.size, 4, none⟩ = some (.int .i64 r.tg) ∧ W.cell? ⟨w.heap.size, 5, none⟩ = some (.int .i64 r.un) ∧ W.cell? ⟨w.heap.size, 6, none⟩ = some (.string ⟨r.rt.toArray⟩) ∧ W.cell? ⟨w.heap.size, 7, none⟩ = some (.string ⟨r.nm.toArray⟩))
      (exact hT) (fail)
    clear k0 k1 k2 k3 k4 k5 k6 k7
    obtain ⟨k0, k1, k2, k3, k4, k5, k6, k7⟩ := SS.out.ws.k.cells
    go_wp2_with (first | (go_at_call 39; refine (HG.out _ SS.out.d).mono ?_; rintro e _ ⟨rfl, rfl⟩; clear HG) | (go_at_call 56; refine (HU.out _ SS.out.d).mono ?_; rintro e _ ⟨rfl, rfl⟩; clear HU))
    go_ret
    exact ⟨rfl, SS.out.ws.bel⟩
set_option maxRecDepth 100000 in
set_option maxHeartbeats 4000000 in
theorem May_3 {B o : Nat} {f : Int} {a : Option Addr} {n c : Nat} {l : List Rec} {w : World} (h : Db w B o f a n c l) (r : Rec) (h0 : 0 ≤ f) (h1 : f ≤ 4294967295) (hr : right r) (he : r.ep = dEp f l) (ht : ¬ r.tm < dNow l) (hk : r.k = 3) : Calls Tryz.prog 53 #[.pointer (some ⟨B, o, none⟩), .agg #[.int .i64 r.k, .int .i64 r.ep, .int .i64 r.tm, .int .i64 r.ct, .int .i64 r.tg, .int .i64 r.un, .string ⟨r.rt.toArray⟩, .string ⟨r.nm.toArray⟩]] w fun x w' => x = .returned (.int .i64 (if r.tg < f then 7 else if dGone l r.tg = true then 13 else if 0 ≤ dHold l r.nm then 19 else if 64 ≤ (dNames l).length then 5 else 0)) ∧ Below w.heap.size w w' := by
  obtain ⟨W1, hW1⟩ : ∃ W1, W1 = w.alloc (.cells #[.int .i64 r.k, .int .i64 r.ep, .int .i64 r.tm, .int .i64 r.ct, .int .i64 r.tg, .int .i64 r.un, .string ⟨r.rt.toArray⟩, .string ⟨r.nm.toArray⟩] 82) := ⟨_, rfl⟩
  have SS : Hid (Wd B o f a n c l r w W1) := Lib.hid (by rw [hW1]; exact wd_new h r)
  have HR := Lib.hid (fun W => RecZ.Right r W)
  have HE := Lib.hid (fun W (h : Db W B o f a n c l) => Epoch h h0 h1)
  have HN := Lib.hid (fun W (h : Db W B o f a n c l) => Now h)
  have HH := Lib.hid (fun W (h : Db W B o f a n c l) => Hold h r.nm)
  have HG := Lib.hid (fun W (h : Db W B o f a n c l) => Gone h r.tg)
  have HU := Lib.hid (fun W (h : Db W B o f a n c l) => Until h r.tg)
  have HM := Lib.hid (fun W (h : Db W B o f a n c l) => Names h)
  have HL := Lib.hid (fun W (h : Db W B o f a n c l) => Held h r.tg)
  obtain ⟨k0, k1, k2, k3, k4, k5, k6, k7⟩ := SS.out.ws.k.cells
  clear h
  rw [decide_eq_true hr] at HR
  generalize dEp f l = m at *
  generalize dNow l = m2 at *
  have hq : (r.ep != m) = false := by simpa using he
  clear he hr
  have t1 : (r.k == 1) = false := by rw [hk]; rfl
  have t4 : (r.k == 4) = false := by rw [hk]; rfl
  have t2 : (r.k == 2) = false := by rw [hk]; rfl
  have t3 : (r.k == 3) = true := by rw [hk]; rfl
  have t5 : (r.k == 5) = false := by rw [hk]; rfl
  generalize dGone l r.tg = g at *
  generalize dUn l r.tg = u at *
  generalize dHold l r.nm = q at *
  clear hk
  by_cases c1 : r.tg < f
  · rw [if_pos c1]
    clear HG HU HM HL HH
    go_enter Tryz.func53, Tryz.ntmps53
    go_upto_region 1 with (fail)
    rw [← hW1]
    clear hW1
    go_upto_region 3 with (go_at_call 78; refine (HR.out _).mono ?_; rintro e w2 ⟨rfl, hb⟩; replace SS := Lib.hid (SS.out.step hb); clear k0 k1 k2 k3 k4 k5 k6 k7; obtain ⟨k0, k1, k2, k3, k4, k5, k6, k7⟩ := SS.out.ws.k.cells; clear hb HR)
    replace SS := Lib.hid SS.out.drew
    have hS := SS.out.ws.k.cells
    go_region_held3 (fun W => W.cell? ⟨w.heap.size, 0, none⟩ = some (.int .i64 r.k) ∧ W.cell? ⟨w.heap.size, 1, none⟩ = some (.int .i64 r.ep) ∧ W.cell? ⟨w.heap.size, 2, none⟩ = some (.int .i64 r.tm) ∧ W.cell? ⟨w.heap.size, 3, none⟩ = some (.int .i64 r.ct) ∧ W.cell? ⟨w.heap.size, 4, none⟩ = some (.int .i64 r.tg) ∧ W.cell? ⟨w.heap.size, 5, none⟩ = some (.int .i64 r.un) ∧ W.cell? ⟨w.heap.size, 6, none⟩ = some (.string ⟨r.rt.toArray⟩) ∧ W.cell? ⟨w.heap.size, 7, none⟩ = some (.string ⟨r.nm.toArray⟩))
      (exact hS) (first | (go_at_call 30; refine (HE.out _ SS.out.d).mono ?_; rintro e _ ⟨rfl, rfl⟩; clear HE) | (go_at_call 79; refine (HN.out _ SS.out.d).mono ?_; rintro e w3 ⟨rfl, hb⟩; replace SS := Lib.hid (SS.out.step hb); replace hS := SS.out.ws.k.cells; clear hb HN))
    clear k0 k1 k2 k3 k4 k5 k6 k7
    obtain ⟨k0, k1, k2, k3, k4, k5, k6, k7⟩ := SS.out.ws.k.cells
    go_upto_region 11 with (fail)
    replace SS := Lib.hid SS.out.drew
    have hT := And.intro SS.out.d.cells.1 SS.out.ws.k.cells
    go_region_held3 (fun W => W.cell? ⟨B, o, none⟩ = some (.int .i64 f) ∧ W.cell? ⟨w.heap.size, 0, none⟩ = some (.int .i64 r.k) ∧ W.cell? ⟨w.heap.size, 1, none⟩ = some (.int .i64 r.ep) ∧ W.cell? ⟨w.heap.size, 2, none⟩ = some (.int .i64 r.tm) ∧ W.cell? ⟨w.heap.size, 3, none⟩ = some (.int .i64 r.ct) ∧ W.cell? ⟨w.heap.size, 4, none⟩ = some (.int .i64 r.tg) ∧ W.cell? ⟨w.heap.size, 5, none⟩ = some (.int .i64 r.un) ∧ W.cell? ⟨w.heap.size, 6, none⟩ = some (.string ⟨r.rt.toArray⟩) ∧ W.cell? ⟨w.heap.size, 7, none⟩ = some (.string ⟨r.nm.toArray⟩))
      (exact hT) (fail)
    clear k0 k1 k2 k3 k4 k5 k6 k7
    obtain ⟨k0, k1, k2, k3, k4, k5, k6, k7⟩ := SS.out.ws.k.cells
    go_wp2
    go_ret
    exact ⟨rfl, SS.out.ws.bel⟩
  rw [if_neg c1]
  by_cases c2 : g = true
  · rw [if_pos c2]
    subst c2
    clear HU HM HL HH
    go_enter Tryz.func53, Tryz.ntmps53
    go_upto_region 1 with (fail)
    rw [← hW1]
    clear hW1
    go_upto_region 3 with (go_at_call 78; refine (HR.out _).mono ?_; rintro e w2 ⟨rfl, hb⟩; replace SS := Lib.hid (SS.out.step hb); clear k0 k1 k2 k3 k4 k5 k6 k7; obtain ⟨k0, k1, k2, k3, k4, k5, k6, k7⟩ := SS.out.ws.k.cells; clear hb HR)
    replace SS := Lib.hid SS.out.drew
    have hS := SS.out.ws.k.cells
    go_region_held3 (fun W => W.cell? ⟨w.heap.size, 0, none⟩ = some (.int .i64 r.k) ∧ W.cell? ⟨w.heap.size, 1, none⟩ = some (.int .i64 r.ep) ∧ W.cell? ⟨w.heap.size, 2, none⟩ = some (.int .i64 r.tm) ∧ W.cell? ⟨w.heap.size, 3, none⟩ = some (.int .i64 r.ct) ∧ W.cell? ⟨w.heap.size, 4, none⟩ = some (.int .i64 r.tg) ∧ W.cell? ⟨w.heap.size, 5, none⟩ = some (.int .i64 r.un) ∧ W.cell? ⟨w.heap.size, 6, none⟩ = some (.string ⟨r.rt.toArray⟩) ∧ W.cell? ⟨w.heap.size, 7, none⟩ = some (.string ⟨r.nm.toArray⟩))
      (exact hS) (first | (go_at_call 30; refine (HE.out _ SS.out.d).mono ?_; rintro e _ ⟨rfl, rfl⟩; clear HE) | (go_at_call 79; refine (HN.out _ SS.out.d).mono ?_; rintro e w3 ⟨rfl, hb⟩; replace SS := Lib.hid (SS.out.step hb); replace hS := SS.out.ws.k.cells; clear hb HN))
    clear k0 k1 k2 k3 k4 k5 k6 k7
    obtain ⟨k0, k1, k2, k3, k4, k5, k6, k7⟩ := SS.out.ws.k.cells
    go_upto_region 11 with (fail)
    replace SS := Lib.hid SS.out.drew
    have hT := And.intro SS.out.d.cells.1 SS.out.ws.k.cells
    go_region_held3 (fun W => W.cell? ⟨B, o, none⟩ = some (.int .i64 f) ∧ W.cell? ⟨w.heap.size, 0, none⟩ = some (.int .i64 r.k) ∧ W.cell? ⟨w.heap.size, 1, none⟩ = some (.int .i64 r.ep) ∧ W.cell? ⟨w.heap.size, 2, none⟩ = some (.int .i64 r.tm) ∧ W.cell? ⟨w.heap.size, 3, none⟩ = some (.int .i64 r.ct) ∧ W.cell? ⟨w.heap.size, 4, none⟩ = some (.int .i64 r.tg) ∧ W.cell? ⟨w.heap.size, 5, none⟩ = some (.int .i64 r.un) ∧ W.cell? ⟨w.heap.size, 6, none⟩ = some (.string ⟨r.rt.toArray⟩) ∧ W.cell? ⟨w.heap.size, 7, none⟩ = some (.string ⟨r.nm.toArray⟩))
      (exact hT) (fail)
    clear k0 k1 k2 k3 k4 k5 k6 k7
    obtain ⟨k0, k1, k2, k3, k4, k5, k6, k7⟩ := SS.out.ws.k.cells
    go_wp2_with (go_at_call 39; refine (HG.out _ SS.out.d).mono ?_; rintro e _ ⟨rfl, rfl⟩; clear HG)
    go_ret
    exact ⟨rfl, SS.out.ws.bel⟩
  rw [if_neg c2]
  obtain rfl : g = false := by cases g <;> simp_all
  clear c2
  by_cases c3 : 0 ≤ q
  · rw [if_pos c3]
    clear HM HL
    go_enter Tryz.func53, Tryz.ntmps53
    go_upto_region 1 with (fail)
    rw [← hW1]
    clear hW1
    go_upto_region 3 with (go_at_call 78; refine (HR.out _).mono ?_; rintro e w2 ⟨rfl, hb⟩; replace SS := Lib.hid (SS.out.step hb); clear k0 k1 k2 k3 k4 k5 k6 k7; obtain ⟨k0, k1, k2, k3, k4, k5, k6, k7⟩ := SS.out.ws.k.cells; clear hb HR)
    replace SS := Lib.hid SS.out.drew
    have hS := SS.out.ws.k.cells
    go_region_held3 (fun W => W.cell? ⟨w.heap.size, 0, none⟩ = some (.int .i64 r.k) ∧ W.cell? ⟨w.heap.size, 1, none⟩ = some (.int .i64 r.ep) ∧ W.cell? ⟨w.heap.size, 2, none⟩ = some (.int .i64 r.tm) ∧ W.cell? ⟨w.heap.size, 3, none⟩ = some (.int .i64 r.ct) ∧ W.cell? ⟨w.heap.size, 4, none⟩ = some (.int .i64 r.tg) ∧ W.cell? ⟨w.heap.size, 5, none⟩ = some (.int .i64 r.un) ∧ W.cell? ⟨w.heap.size, 6, none⟩ = some (.string ⟨r.rt.toArray⟩) ∧ W.cell? ⟨w.heap.size, 7, none⟩ = some (.string ⟨r.nm.toArray⟩))
      (exact hS) (first | (go_at_call 30; refine (HE.out _ SS.out.d).mono ?_; rintro e _ ⟨rfl, rfl⟩; clear HE) | (go_at_call 79; refine (HN.out _ SS.out.d).mono ?_; rintro e w3 ⟨rfl, hb⟩; replace SS := Lib.hid (SS.out.step hb); replace hS := SS.out.ws.k.cells; clear hb HN))
    clear k0 k1 k2 k3 k4 k5 k6 k7
    obtain ⟨k0, k1, k2, k3, k4, k5, k6, k7⟩ := SS.out.ws.k.cells
    go_upto_region 11 with (fail)
    replace SS := Lib.hid SS.out.drew
    have hT := And.intro SS.out.d.cells.1 SS.out.ws.k.cells
    go_region_held3 (fun W => W.cell? ⟨B, o, none⟩ = some (.int .i64 f) ∧ W.cell? ⟨w.heap.size, 0, none⟩ = some (.int .i64 r.k) ∧ W.cell? ⟨w.heap.size, 1, none⟩ = some (.int .i64 r.ep) ∧ W.cell? ⟨w.heap.size, 2, none⟩ = some (.int .i64 r.tm) ∧ W.cell? ⟨w.heap.size, 3, none⟩ = some (.int .i64 r.ct) ∧ W.cell? ⟨w.heap.size, 4, none⟩ = some (.int .i64 r.tg) ∧ W.cell? ⟨w.heap.size, 5, none⟩ = some (.int .i64 r.un) ∧ W.cell? ⟨w.heap.size, 6, none⟩ = some (.string ⟨r.rt.toArray⟩) ∧ W.cell? ⟨w.heap.size, 7, none⟩ = some (.string ⟨r.nm.toArray⟩))
      (exact hT) (fail)
    clear k0 k1 k2 k3 k4 k5 k6 k7
    obtain ⟨k0, k1, k2, k3, k4, k5, k6, k7⟩ := SS.out.ws.k.cells
    go_wp2_with (first | (go_at_call 39; refine (HG.out _ SS.out.d).mono ?_; rintro e _ ⟨rfl, rfl⟩; clear HG) | (go_at_call 56; refine (HU.out _ SS.out.d).mono ?_; rintro e _ ⟨rfl, rfl⟩; clear HU) | (go_at_call 80; refine (HH.out _ SS.out.d).mono ?_; rintro e _ ⟨rfl, rfl⟩; clear HH))
    go_ret
    exact ⟨rfl, SS.out.ws.bel⟩
  rw [if_neg c3]
  clear HL
  by_cases c4 : 64 ≤ (dNames l).length
  · rw [if_pos c4]
    have c4' : (64 : Int) ≤ ((dNames l).length : Int) := by omega
    go_enter Tryz.func53, Tryz.ntmps53
    go_upto_region 1 with (fail)
    rw [← hW1]
    clear hW1
    go_upto_region 3 with (go_at_call 78; refine (HR.out _).mono ?_; rintro e w2 ⟨rfl, hb⟩; replace SS := Lib.hid (SS.out.step hb); clear k0 k1 k2 k3 k4 k5 k6 k7; obtain ⟨k0, k1, k2, k3, k4, k5, k6, k7⟩ := SS.out.ws.k.cells; clear hb HR)
    replace SS := Lib.hid SS.out.drew
    have hS := SS.out.ws.k.cells
    go_region_held3 (fun W => W.cell? ⟨w.heap.size, 0, none⟩ = some (.int .i64 r.k) ∧ W.cell? ⟨w.heap.size, 1, none⟩ = some (.int .i64 r.ep) ∧ W.cell? ⟨w.heap.size, 2, none⟩ = some (.int .i64 r.tm) ∧ W.cell? ⟨w.heap.size, 3, none⟩ = some (.int .i64 r.ct) ∧ W.cell? ⟨w.heap.size, 4, none⟩ = some (.int .i64 r.tg) ∧ W.cell? ⟨w.heap.size, 5, none⟩ = some (.int .i64 r.un) ∧ W.cell? ⟨w.heap.size, 6, none⟩ = some (.string ⟨r.rt.toArray⟩) ∧ W.cell? ⟨w.heap.size, 7, none⟩ = some (.string ⟨r.nm.toArray⟩))
      (exact hS) (first | (go_at_call 30; refine (HE.out _ SS.out.d).mono ?_; rintro e _ ⟨rfl, rfl⟩; clear HE) | (go_at_call 79; refine (HN.out _ SS.out.d).mono ?_; rintro e w3 ⟨rfl, hb⟩; replace SS := Lib.hid (SS.out.step hb); replace hS := SS.out.ws.k.cells; clear hb HN))
    clear k0 k1 k2 k3 k4 k5 k6 k7
    obtain ⟨k0, k1, k2, k3, k4, k5, k6, k7⟩ := SS.out.ws.k.cells
    go_upto_region 11 with (fail)
    replace SS := Lib.hid SS.out.drew
    have hT := And.intro SS.out.d.cells.1 SS.out.ws.k.cells
    go_region_held3 (fun W => W.cell? ⟨B, o, none⟩ = some (.int .i64 f) ∧ W.cell? ⟨w.heap.size, 0, none⟩ = some (.int .i64 r.k) ∧ W.cell? ⟨w.heap.size, 1, none⟩ = some (.int .i64 r.ep) ∧ W.cell? ⟨w.heap.size, 2, none⟩ = some (.int .i64 r.tm) ∧ W.cell? ⟨w.heap.size, 3, none⟩ = some (.int .i64 r.ct) ∧ W.cell? ⟨w.heap.size, 4, none⟩ = some (.int .i64 r.tg) ∧ W.cell? ⟨w.heap.size, 5, none⟩ = some (.int .i64 r.un) ∧ W.cell? ⟨w.heap.size, 6, none⟩ = some (.string ⟨r.rt.toArray⟩) ∧ W.cell? ⟨w.heap.size, 7, none⟩ = some (.string ⟨r.nm.toArray⟩))
      (exact hT) (fail)
    clear k0 k1 k2 k3 k4 k5 k6 k7
    obtain ⟨k0, k1, k2, k3, k4, k5, k6, k7⟩ := SS.out.ws.k.cells
    go_wp2_with (first | (go_at_call 39; refine (HG.out _ SS.out.d).mono ?_; rintro e _ ⟨rfl, rfl⟩; clear HG) | (go_at_call 56; refine (HU.out _ SS.out.d).mono ?_; rintro e _ ⟨rfl, rfl⟩; clear HU) | (go_at_call 80; refine (HH.out _ SS.out.d).mono ?_; rintro e _ ⟨rfl, rfl⟩; clear HH) | (go_at_call 57; refine (HM.out _ SS.out.d).mono ?_; rintro e w4 ⟨⟨v, rfl, pn, cn, rfl, -⟩, hb⟩; replace SS := Lib.hid (SS.out.step hb); clear k0 k1 k2 k3 k4 k5 k6 k7; obtain ⟨k0, k1, k2, k3, k4, k5, k6, k7⟩ := SS.out.ws.k.cells; clear hb HM))
    go_ret
    exact ⟨rfl, SS.out.ws.bel⟩
  · rw [if_neg c4]
    have c4' : ¬ (64 : Int) ≤ ((dNames l).length : Int) := by omega
    go_enter Tryz.func53, Tryz.ntmps53
    go_upto_region 1 with (fail)
    rw [← hW1]
    clear hW1
    go_upto_region 3 with (go_at_call 78; refine (HR.out _).mono ?_; rintro e w2 ⟨rfl, hb⟩; replace SS := Lib.hid (SS.out.step hb); clear k0 k1 k2 k3 k4 k5 k6 k7; obtain ⟨k0, k1, k2, k3, k4, k5, k6, k7⟩ := SS.out.ws.k.cells; clear hb HR)
    replace SS := Lib.hid SS.out.drew
    have hS := SS.out.ws.k.cells
    go_region_held3 (fun W => W.cell? ⟨w.heap.size, 0, none⟩ = some (.int .i64 r.k) ∧ W.cell? ⟨w.heap.size, 1, none⟩ = some (.int .i64 r.ep) ∧ W.cell? ⟨w.heap.size, 2, none⟩ = some (.int .i64 r.tm) ∧ W.cell? ⟨w.heap.size, 3, none⟩ = some (.int .i64 r.ct) ∧ W.cell? ⟨w.heap.size, 4, none⟩ = some (.int .i64 r.tg) ∧ W.cell? ⟨w.heap.size, 5, none⟩ = some (.int .i64 r.un) ∧ W.cell? ⟨w.heap.size, 6, none⟩ = some (.string ⟨r.rt.toArray⟩) ∧ W.cell? ⟨w.heap.size, 7, none⟩ = some (.string ⟨r.nm.toArray⟩))
      (exact hS) (first | (go_at_call 30; refine (HE.out _ SS.out.d).mono ?_; rintro e _ ⟨rfl, rfl⟩; clear HE) | (go_at_call 79; refine (HN.out _ SS.out.d).mono ?_; rintro e w3 ⟨rfl, hb⟩; replace SS := Lib.hid (SS.out.step hb); replace hS := SS.out.ws.k.cells; clear hb HN))
    clear k0 k1 k2 k3 k4 k5 k6 k7
    obtain ⟨k0, k1, k2, k3, k4, k5, k6, k7⟩ := SS.out.ws.k.cells
    go_upto_region 11 with (fail)
    replace SS := Lib.hid SS.out.drew
    have hT := And.intro SS.out.d.cells.1 SS.out.ws.k.cells
    go_region_held3 (fun W => W.cell? ⟨B, o, none⟩ = some (.int .i64 f) ∧ W.cell? ⟨w.heap.size, 0, none⟩ = some (.int .i64 r.k) ∧ W.cell? ⟨w.heap.size, 1, none⟩ = some (.int .i64 r.ep) ∧ W.cell? ⟨w.heap.size, 2, none⟩ = some (.int .i64 r.tm) ∧ W.cell? ⟨w.heap.size, 3, none⟩ = some (.int .i64 r.ct) ∧ W.cell? ⟨w.heap.size, 4, none⟩ = some (.int .i64 r.tg) ∧ W.cell? ⟨w.heap.size, 5, none⟩ = some (.int .i64 r.un) ∧ W.cell? ⟨w.heap.size, 6, none⟩ = some (.string ⟨r.rt.toArray⟩) ∧ W.cell? ⟨w.heap.size, 7, none⟩ = some (.string ⟨r.nm.toArray⟩))
      (exact hT) (fail)
    clear k0 k1 k2 k3 k4 k5 k6 k7
    obtain ⟨k0, k1, k2, k3, k4, k5, k6, k7⟩ := SS.out.ws.k.cells
    go_wp2_with (first | (go_at_call 39; refine (HG.out _ SS.out.d).mono ?_; rintro e _ ⟨rfl, rfl⟩; clear HG) | (go_at_call 56; refine (HU.out _ SS.out.d).mono ?_; rintro e _ ⟨rfl, rfl⟩; clear HU) | (go_at_call 80; refine (HH.out _ SS.out.d).mono ?_; rintro e _ ⟨rfl, rfl⟩; clear HH) | (go_at_call 57; refine (HM.out _ SS.out.d).mono ?_; rintro e w4 ⟨⟨v, rfl, pn, cn, rfl, -⟩, hb⟩; replace SS := Lib.hid (SS.out.step hb); clear k0 k1 k2 k3 k4 k5 k6 k7; obtain ⟨k0, k1, k2, k3, k4, k5, k6, k7⟩ := SS.out.ws.k.cells; clear hb HM))
    go_ret
    exact ⟨rfl, SS.out.ws.bel⟩
set_option maxRecDepth 100000 in
set_option maxHeartbeats 4000000 in
theorem May_5 {B o : Nat} {f : Int} {a : Option Addr} {n c : Nat} {l : List Rec} {w : World} (h : Db w B o f a n c l) (r : Rec) (h0 : 0 ≤ f) (h1 : f ≤ 4294967295) (hr : right r) (he : r.ep = dEp f l) (ht : ¬ r.tm < dNow l) (hk : r.k = 5) : Calls Tryz.prog 53 #[.pointer (some ⟨B, o, none⟩), .agg #[.int .i64 r.k, .int .i64 r.ep, .int .i64 r.tm, .int .i64 r.ct, .int .i64 r.tg, .int .i64 r.un, .string ⟨r.rt.toArray⟩, .string ⟨r.nm.toArray⟩]] w fun x w' => x = .returned (.int .i64 (if r.tg < f then 7 else if dGone l r.tg = true then 13 else if r.tm < dUn l r.tg then 9 else if 0 < (dHeld l r.tg).length then 10 else if r.un ≠ dUn l r.tg then 2 else 0)) ∧ Below w.heap.size w w' := by
  obtain ⟨W1, hW1⟩ : ∃ W1, W1 = w.alloc (.cells #[.int .i64 r.k, .int .i64 r.ep, .int .i64 r.tm, .int .i64 r.ct, .int .i64 r.tg, .int .i64 r.un, .string ⟨r.rt.toArray⟩, .string ⟨r.nm.toArray⟩] 82) := ⟨_, rfl⟩
  have SS : Hid (Wd B o f a n c l r w W1) := Lib.hid (by rw [hW1]; exact wd_new h r)
  have HR := Lib.hid (fun W => RecZ.Right r W)
  have HE := Lib.hid (fun W (h : Db W B o f a n c l) => Epoch h h0 h1)
  have HN := Lib.hid (fun W (h : Db W B o f a n c l) => Now h)
  have HH := Lib.hid (fun W (h : Db W B o f a n c l) => Hold h r.nm)
  have HG := Lib.hid (fun W (h : Db W B o f a n c l) => Gone h r.tg)
  have HU := Lib.hid (fun W (h : Db W B o f a n c l) => Until h r.tg)
  have HM := Lib.hid (fun W (h : Db W B o f a n c l) => Names h)
  have HL := Lib.hid (fun W (h : Db W B o f a n c l) => Held h r.tg)
  obtain ⟨k0, k1, k2, k3, k4, k5, k6, k7⟩ := SS.out.ws.k.cells
  clear h
  rw [decide_eq_true hr] at HR
  generalize dEp f l = m at *
  generalize dNow l = m2 at *
  have hq : (r.ep != m) = false := by simpa using he
  clear he hr
  have t1 : (r.k == 1) = false := by rw [hk]; rfl
  have t4 : (r.k == 4) = false := by rw [hk]; rfl
  have t2 : (r.k == 2) = false := by rw [hk]; rfl
  have t3 : (r.k == 3) = false := by rw [hk]; rfl
  have t5 : (r.k == 5) = true := by rw [hk]; rfl
  generalize dGone l r.tg = g at *
  generalize dUn l r.tg = u at *
  clear hk HH HM
  by_cases c1 : r.tg < f
  · rw [if_pos c1]
    clear HG HU HL
    go_enter Tryz.func53, Tryz.ntmps53
    go_upto_region 1 with (fail)
    rw [← hW1]
    clear hW1
    go_upto_region 3 with (go_at_call 78; refine (HR.out _).mono ?_; rintro e w2 ⟨rfl, hb⟩; replace SS := Lib.hid (SS.out.step hb); clear k0 k1 k2 k3 k4 k5 k6 k7; obtain ⟨k0, k1, k2, k3, k4, k5, k6, k7⟩ := SS.out.ws.k.cells; clear hb HR)
    replace SS := Lib.hid SS.out.drew
    have hS := SS.out.ws.k.cells
    go_region_held3 (fun W => W.cell? ⟨w.heap.size, 0, none⟩ = some (.int .i64 r.k) ∧ W.cell? ⟨w.heap.size, 1, none⟩ = some (.int .i64 r.ep) ∧ W.cell? ⟨w.heap.size, 2, none⟩ = some (.int .i64 r.tm) ∧ W.cell? ⟨w.heap.size, 3, none⟩ = some (.int .i64 r.ct) ∧ W.cell? ⟨w.heap.size, 4, none⟩ = some (.int .i64 r.tg) ∧ W.cell? ⟨w.heap.size, 5, none⟩ = some (.int .i64 r.un) ∧ W.cell? ⟨w.heap.size, 6, none⟩ = some (.string ⟨r.rt.toArray⟩) ∧ W.cell? ⟨w.heap.size, 7, none⟩ = some (.string ⟨r.nm.toArray⟩))
      (exact hS) (first | (go_at_call 30; refine (HE.out _ SS.out.d).mono ?_; rintro e _ ⟨rfl, rfl⟩; clear HE) | (go_at_call 79; refine (HN.out _ SS.out.d).mono ?_; rintro e w3 ⟨rfl, hb⟩; replace SS := Lib.hid (SS.out.step hb); replace hS := SS.out.ws.k.cells; clear hb HN))
    clear k0 k1 k2 k3 k4 k5 k6 k7
    obtain ⟨k0, k1, k2, k3, k4, k5, k6, k7⟩ := SS.out.ws.k.cells
    go_upto_region 11 with (fail)
    replace SS := Lib.hid SS.out.drew
    have hT := And.intro SS.out.d.cells.1 SS.out.ws.k.cells
    go_region_held3 (fun W => W.cell? ⟨B, o, none⟩ = some (.int .i64 f) ∧ W.cell? ⟨w.heap.size, 0, none⟩ = some (.int .i64 r.k) ∧ W.cell? ⟨w.heap.size, 1, none⟩ = some (.int .i64 r.ep) ∧ W.cell? ⟨w.heap.size, 2, none⟩ = some (.int .i64 r.tm) ∧ W.cell? ⟨w.heap.size, 3, none⟩ = some (.int .i64 r.ct) ∧ W.cell? ⟨w.heap.size, 4, none⟩ = some (.int .i64 r.tg) ∧ W.cell? ⟨w.heap.size, 5, none⟩ = some (.int .i64 r.un) ∧ W.cell? ⟨w.heap.size, 6, none⟩ = some (.string ⟨r.rt.toArray⟩) ∧ W.cell? ⟨w.heap.size, 7, none⟩ = some (.string ⟨r.nm.toArray⟩))
      (exact hT) (fail)
    clear k0 k1 k2 k3 k4 k5 k6 k7
    obtain ⟨k0, k1, k2, k3, k4, k5, k6, k7⟩ := SS.out.ws.k.cells
    go_wp2
    go_ret
    exact ⟨rfl, SS.out.ws.bel⟩
  rw [if_neg c1]
  by_cases c2 : g = true
  · rw [if_pos c2]
    subst c2
    clear HU HL
    go_enter Tryz.func53, Tryz.ntmps53
    go_upto_region 1 with (fail)
    rw [← hW1]
    clear hW1
    go_upto_region 3 with (go_at_call 78; refine (HR.out _).mono ?_; rintro e w2 ⟨rfl, hb⟩; replace SS := Lib.hid (SS.out.step hb); clear k0 k1 k2 k3 k4 k5 k6 k7; obtain ⟨k0, k1, k2, k3, k4, k5, k6, k7⟩ := SS.out.ws.k.cells; clear hb HR)
    replace SS := Lib.hid SS.out.drew
    have hS := SS.out.ws.k.cells
    go_region_held3 (fun W => W.cell? ⟨w.heap.size, 0, none⟩ = some (.int .i64 r.k) ∧ W.cell? ⟨w.heap.size, 1, none⟩ = some (.int .i64 r.ep) ∧ W.cell? ⟨w.heap.size, 2, none⟩ = some (.int .i64 r.tm) ∧ W.cell? ⟨w.heap.size, 3, none⟩ = some (.int .i64 r.ct) ∧ W.cell? ⟨w.heap.size, 4, none⟩ = some (.int .i64 r.tg) ∧ W.cell? ⟨w.heap.size, 5, none⟩ = some (.int .i64 r.un) ∧ W.cell? ⟨w.heap.size, 6, none⟩ = some (.string ⟨r.rt.toArray⟩) ∧ W.cell? ⟨w.heap.size, 7, none⟩ = some (.string ⟨r.nm.toArray⟩))
      (exact hS) (first | (go_at_call 30; refine (HE.out _ SS.out.d).mono ?_; rintro e _ ⟨rfl, rfl⟩; clear HE) | (go_at_call 79; refine (HN.out _ SS.out.d).mono ?_; rintro e w3 ⟨rfl, hb⟩; replace SS := Lib.hid (SS.out.step hb); replace hS := SS.out.ws.k.cells; clear hb HN))
    clear k0 k1 k2 k3 k4 k5 k6 k7
    obtain ⟨k0, k1, k2, k3, k4, k5, k6, k7⟩ := SS.out.ws.k.cells
    go_upto_region 11 with (fail)
    replace SS := Lib.hid SS.out.drew
    have hT := And.intro SS.out.d.cells.1 SS.out.ws.k.cells
    go_region_held3 (fun W => W.cell? ⟨B, o, none⟩ = some (.int .i64 f) ∧ W.cell? ⟨w.heap.size, 0, none⟩ = some (.int .i64 r.k) ∧ W.cell? ⟨w.heap.size, 1, none⟩ = some (.int .i64 r.ep) ∧ W.cell? ⟨w.heap.size, 2, none⟩ = some (.int .i64 r.tm) ∧ W.cell? ⟨w.heap.size, 3, none⟩ = some (.int .i64 r.ct) ∧ W.cell? ⟨w.heap.size, 4, none⟩ = some (.int .i64 r.tg) ∧ W.cell? ⟨w.heap.size, 5, none⟩ = some (.int .i64 r.un) ∧ W.cell? ⟨w.heap.size, 6, none⟩ = some (.string ⟨r.rt.toArray⟩) ∧ W.cell? ⟨w.heap.size, 7, none⟩ = some (.string ⟨r.nm.toArray⟩))
      (exact hT) (fail)
    clear k0 k1 k2 k3 k4 k5 k6 k7
    obtain ⟨k0, k1, k2, k3, k4, k5, k6, k7⟩ := SS.out.ws.k.cells
    go_wp2_with (go_at_call 39; refine (HG.out _ SS.out.d).mono ?_; rintro e _ ⟨rfl, rfl⟩; clear HG)
    go_ret
    exact ⟨rfl, SS.out.ws.bel⟩
  rw [if_neg c2]
  obtain rfl : g = false := by cases g <;> simp_all
  clear c2
  by_cases c3 : r.tm < u
  · rw [if_pos c3]
    clear HL
    go_enter Tryz.func53, Tryz.ntmps53
    go_upto_region 1 with (fail)
    rw [← hW1]
    clear hW1
    go_upto_region 3 with (go_at_call 78; refine (HR.out _).mono ?_; rintro e w2 ⟨rfl, hb⟩; replace SS := Lib.hid (SS.out.step hb); clear k0 k1 k2 k3 k4 k5 k6 k7; obtain ⟨k0, k1, k2, k3, k4, k5, k6, k7⟩ := SS.out.ws.k.cells; clear hb HR)
    replace SS := Lib.hid SS.out.drew
    have hS := SS.out.ws.k.cells
    go_region_held3 (fun W => W.cell? ⟨w.heap.size, 0, none⟩ = some (.int .i64 r.k) ∧ W.cell? ⟨w.heap.size, 1, none⟩ = some (.int .i64 r.ep) ∧ W.cell? ⟨w.heap.size, 2, none⟩ = some (.int .i64 r.tm) ∧ W.cell? ⟨w.heap.size, 3, none⟩ = some (.int .i64 r.ct) ∧ W.cell? ⟨w.heap.size, 4, none⟩ = some (.int .i64 r.tg) ∧ W.cell? ⟨w.heap.size, 5, none⟩ = some (.int .i64 r.un) ∧ W.cell? ⟨w.heap.size, 6, none⟩ = some (.string ⟨r.rt.toArray⟩) ∧ W.cell? ⟨w.heap.size, 7, none⟩ = some (.string ⟨r.nm.toArray⟩))
      (exact hS) (first | (go_at_call 30; refine (HE.out _ SS.out.d).mono ?_; rintro e _ ⟨rfl, rfl⟩; clear HE) | (go_at_call 79; refine (HN.out _ SS.out.d).mono ?_; rintro e w3 ⟨rfl, hb⟩; replace SS := Lib.hid (SS.out.step hb); replace hS := SS.out.ws.k.cells; clear hb HN))
    clear k0 k1 k2 k3 k4 k5 k6 k7
    obtain ⟨k0, k1, k2, k3, k4, k5, k6, k7⟩ := SS.out.ws.k.cells
    go_upto_region 11 with (fail)
    replace SS := Lib.hid SS.out.drew
    have hT := And.intro SS.out.d.cells.1 SS.out.ws.k.cells
    go_region_held3 (fun W => W.cell? ⟨B, o, none⟩ = some (.int .i64 f) ∧ W.cell? ⟨w.heap.size, 0, none⟩ = some (.int .i64 r.k) ∧ W.cell? ⟨w.heap.size, 1, none⟩ = some (.int .i64 r.ep) ∧ W.cell? ⟨w.heap.size, 2, none⟩ = some (.int .i64 r.tm) ∧ W.cell? ⟨w.heap.size, 3, none⟩ = some (.int .i64 r.ct) ∧ W.cell? ⟨w.heap.size, 4, none⟩ = some (.int .i64 r.tg) ∧ W.cell? ⟨w.heap.size, 5, none⟩ = some (.int .i64 r.un) ∧ W.cell? ⟨w.heap.size, 6, none⟩ = some (.string ⟨r.rt.toArray⟩) ∧ W.cell? ⟨w.heap.size, 7, none⟩ = some (.string ⟨r.nm.toArray⟩))
      (exact hT) (fail)
    clear k0 k1 k2 k3 k4 k5 k6 k7
    obtain ⟨k0, k1, k2, k3, k4, k5, k6, k7⟩ := SS.out.ws.k.cells
    go_wp2_with (first | (go_at_call 39; refine (HG.out _ SS.out.d).mono ?_; rintro e _ ⟨rfl, rfl⟩; clear HG) | (go_at_call 56; refine (HU.out _ SS.out.d).mono ?_; rintro e _ ⟨rfl, rfl⟩; clear HU))
    go_ret
    exact ⟨rfl, SS.out.ws.bel⟩
  rw [if_neg c3]
  by_cases c4 : 0 < (dHeld l r.tg).length
  · rw [if_pos c4]
    have c4' : (0 : Int) < ((dHeld l r.tg).length : Int) := by omega
    go_enter Tryz.func53, Tryz.ntmps53
    go_upto_region 1 with (fail)
    rw [← hW1]
    clear hW1
    go_upto_region 3 with (go_at_call 78; refine (HR.out _).mono ?_; rintro e w2 ⟨rfl, hb⟩; replace SS := Lib.hid (SS.out.step hb); clear k0 k1 k2 k3 k4 k5 k6 k7; obtain ⟨k0, k1, k2, k3, k4, k5, k6, k7⟩ := SS.out.ws.k.cells; clear hb HR)
    replace SS := Lib.hid SS.out.drew
    have hS := SS.out.ws.k.cells
    go_region_held3 (fun W => W.cell? ⟨w.heap.size, 0, none⟩ = some (.int .i64 r.k) ∧ W.cell? ⟨w.heap.size, 1, none⟩ = some (.int .i64 r.ep) ∧ W.cell? ⟨w.heap.size, 2, none⟩ = some (.int .i64 r.tm) ∧ W.cell? ⟨w.heap.size, 3, none⟩ = some (.int .i64 r.ct) ∧ W.cell? ⟨w.heap.size, 4, none⟩ = some (.int .i64 r.tg) ∧ W.cell? ⟨w.heap.size, 5, none⟩ = some (.int .i64 r.un) ∧ W.cell? ⟨w.heap.size, 6, none⟩ = some (.string ⟨r.rt.toArray⟩) ∧ W.cell? ⟨w.heap.size, 7, none⟩ = some (.string ⟨r.nm.toArray⟩))
      (exact hS) (first | (go_at_call 30; refine (HE.out _ SS.out.d).mono ?_; rintro e _ ⟨rfl, rfl⟩; clear HE) | (go_at_call 79; refine (HN.out _ SS.out.d).mono ?_; rintro e w3 ⟨rfl, hb⟩; replace SS := Lib.hid (SS.out.step hb); replace hS := SS.out.ws.k.cells; clear hb HN))
    clear k0 k1 k2 k3 k4 k5 k6 k7
    obtain ⟨k0, k1, k2, k3, k4, k5, k6, k7⟩ := SS.out.ws.k.cells
    go_upto_region 11 with (fail)
    replace SS := Lib.hid SS.out.drew
    have hT := And.intro SS.out.d.cells.1 SS.out.ws.k.cells
    go_region_held3 (fun W => W.cell? ⟨B, o, none⟩ = some (.int .i64 f) ∧ W.cell? ⟨w.heap.size, 0, none⟩ = some (.int .i64 r.k) ∧ W.cell? ⟨w.heap.size, 1, none⟩ = some (.int .i64 r.ep) ∧ W.cell? ⟨w.heap.size, 2, none⟩ = some (.int .i64 r.tm) ∧ W.cell? ⟨w.heap.size, 3, none⟩ = some (.int .i64 r.ct) ∧ W.cell? ⟨w.heap.size, 4, none⟩ = some (.int .i64 r.tg) ∧ W.cell? ⟨w.heap.size, 5, none⟩ = some (.int .i64 r.un) ∧ W.cell? ⟨w.heap.size, 6, none⟩ = some (.string ⟨r.rt.toArray⟩) ∧ W.cell? ⟨w.heap.size, 7, none⟩ = some (.string ⟨r.nm.toArray⟩))
      (exact hT) (fail)
    clear k0 k1 k2 k3 k4 k5 k6 k7
    obtain ⟨k0, k1, k2, k3, k4, k5, k6, k7⟩ := SS.out.ws.k.cells
    go_wp2_with (first | (go_at_call 39; refine (HG.out _ SS.out.d).mono ?_; rintro e _ ⟨rfl, rfl⟩; clear HG) | (go_at_call 56; refine (HU.out _ SS.out.d).mono ?_; rintro e _ ⟨rfl, rfl⟩; clear HU) | (go_at_call 81; refine (HL.out _ SS.out.d).mono ?_; rintro e w5 ⟨⟨v, rfl, pn, cn, rfl, -⟩, hb⟩; replace SS := Lib.hid (SS.out.step hb); clear k0 k1 k2 k3 k4 k5 k6 k7; obtain ⟨k0, k1, k2, k3, k4, k5, k6, k7⟩ := SS.out.ws.k.cells; clear hb HL))
    go_ret
    exact ⟨rfl, SS.out.ws.bel⟩
  rw [if_neg c4]
  have c4' : ¬ (0 : Int) < ((dHeld l r.tg).length : Int) := by omega
  by_cases c5 : r.un ≠ u
  · rw [if_pos c5]
    have c5' : (r.un != u) = true := by simpa using c5
    clear c5
    go_enter Tryz.func53, Tryz.ntmps53
    go_upto_region 1 with (fail)
    rw [← hW1]
    clear hW1
    go_upto_region 3 with (go_at_call 78; refine (HR.out _).mono ?_; rintro e w2 ⟨rfl, hb⟩; replace SS := Lib.hid (SS.out.step hb); clear k0 k1 k2 k3 k4 k5 k6 k7; obtain ⟨k0, k1, k2, k3, k4, k5, k6, k7⟩ := SS.out.ws.k.cells; clear hb HR)
    replace SS := Lib.hid SS.out.drew
    have hS := SS.out.ws.k.cells
    go_region_held3 (fun W => W.cell? ⟨w.heap.size, 0, none⟩ = some (.int .i64 r.k) ∧ W.cell? ⟨w.heap.size, 1, none⟩ = some (.int .i64 r.ep) ∧ W.cell? ⟨w.heap.size, 2, none⟩ = some (.int .i64 r.tm) ∧ W.cell? ⟨w.heap.size, 3, none⟩ = some (.int .i64 r.ct) ∧ W.cell? ⟨w.heap.size, 4, none⟩ = some (.int .i64 r.tg) ∧ W.cell? ⟨w.heap.size, 5, none⟩ = some (.int .i64 r.un) ∧ W.cell? ⟨w.heap.size, 6, none⟩ = some (.string ⟨r.rt.toArray⟩) ∧ W.cell? ⟨w.heap.size, 7, none⟩ = some (.string ⟨r.nm.toArray⟩))
      (exact hS) (first | (go_at_call 30; refine (HE.out _ SS.out.d).mono ?_; rintro e _ ⟨rfl, rfl⟩; clear HE) | (go_at_call 79; refine (HN.out _ SS.out.d).mono ?_; rintro e w3 ⟨rfl, hb⟩; replace SS := Lib.hid (SS.out.step hb); replace hS := SS.out.ws.k.cells; clear hb HN))
    clear k0 k1 k2 k3 k4 k5 k6 k7
    obtain ⟨k0, k1, k2, k3, k4, k5, k6, k7⟩ := SS.out.ws.k.cells
    go_upto_region 11 with (fail)
    replace SS := Lib.hid SS.out.drew
    have hT := And.intro SS.out.d.cells.1 SS.out.ws.k.cells
    go_region_held3 (fun W => W.cell? ⟨B, o, none⟩ = some (.int .i64 f) ∧ W.cell? ⟨w.heap.size, 0, none⟩ = some (.int .i64 r.k) ∧ W.cell? ⟨w.heap.size, 1, none⟩ = some (.int .i64 r.ep) ∧ W.cell? ⟨w.heap.size, 2, none⟩ = some (.int .i64 r.tm) ∧ W.cell? ⟨w.heap.size, 3, none⟩ = some (.int .i64 r.ct) ∧ W.cell? ⟨w.heap.size, 4, none⟩ = some (.int .i64 r.tg) ∧ W.cell? ⟨w.heap.size, 5, none⟩ = some (.int .i64 r.un) ∧ W.cell? ⟨w.heap.size, 6, none⟩ = some (.string ⟨r.rt.toArray⟩) ∧ W.cell? ⟨w.heap.size, 7, none⟩ = some (.string ⟨r.nm.toArray⟩))
      (exact hT) (fail)
    clear k0 k1 k2 k3 k4 k5 k6 k7
    obtain ⟨k0, k1, k2, k3, k4, k5, k6, k7⟩ := SS.out.ws.k.cells
    go_wp2_with (first | (go_at_call 39; refine (HG.out _ SS.out.d).mono ?_; rintro e _ ⟨rfl, rfl⟩; clear HG) | (go_at_call 56; refine (HU.out _ SS.out.d).mono ?_; rintro e _ ⟨rfl, rfl⟩; clear HU) | (go_at_call 81; refine (HL.out _ SS.out.d).mono ?_; rintro e w5 ⟨⟨v, rfl, pn, cn, rfl, -⟩, hb⟩; replace SS := Lib.hid (SS.out.step hb); clear k0 k1 k2 k3 k4 k5 k6 k7; obtain ⟨k0, k1, k2, k3, k4, k5, k6, k7⟩ := SS.out.ws.k.cells; clear hb HL))
    go_ret
    exact ⟨rfl, SS.out.ws.bel⟩
  · rw [if_neg c5]
    have c5' : (r.un != u) = false := by simpa using c5
    clear c5
    go_enter Tryz.func53, Tryz.ntmps53
    go_upto_region 1 with (fail)
    rw [← hW1]
    clear hW1
    go_upto_region 3 with (go_at_call 78; refine (HR.out _).mono ?_; rintro e w2 ⟨rfl, hb⟩; replace SS := Lib.hid (SS.out.step hb); clear k0 k1 k2 k3 k4 k5 k6 k7; obtain ⟨k0, k1, k2, k3, k4, k5, k6, k7⟩ := SS.out.ws.k.cells; clear hb HR)
    replace SS := Lib.hid SS.out.drew
    have hS := SS.out.ws.k.cells
    go_region_held3 (fun W => W.cell? ⟨w.heap.size, 0, none⟩ = some (.int .i64 r.k) ∧ W.cell? ⟨w.heap.size, 1, none⟩ = some (.int .i64 r.ep) ∧ W.cell? ⟨w.heap.size, 2, none⟩ = some (.int .i64 r.tm) ∧ W.cell? ⟨w.heap.size, 3, none⟩ = some (.int .i64 r.ct) ∧ W.cell? ⟨w.heap.size, 4, none⟩ = some (.int .i64 r.tg) ∧ W.cell? ⟨w.heap.size, 5, none⟩ = some (.int .i64 r.un) ∧ W.cell? ⟨w.heap.size, 6, none⟩ = some (.string ⟨r.rt.toArray⟩) ∧ W.cell? ⟨w.heap.size, 7, none⟩ = some (.string ⟨r.nm.toArray⟩))
      (exact hS) (first | (go_at_call 30; refine (HE.out _ SS.out.d).mono ?_; rintro e _ ⟨rfl, rfl⟩; clear HE) | (go_at_call 79; refine (HN.out _ SS.out.d).mono ?_; rintro e w3 ⟨rfl, hb⟩; replace SS := Lib.hid (SS.out.step hb); replace hS := SS.out.ws.k.cells; clear hb HN))
    clear k0 k1 k2 k3 k4 k5 k6 k7
    obtain ⟨k0, k1, k2, k3, k4, k5, k6, k7⟩ := SS.out.ws.k.cells
    go_upto_region 11 with (fail)
    replace SS := Lib.hid SS.out.drew
    have hT := And.intro SS.out.d.cells.1 SS.out.ws.k.cells
    go_region_held3 (fun W => W.cell? ⟨B, o, none⟩ = some (.int .i64 f) ∧ W.cell? ⟨w.heap.size, 0, none⟩ = some (.int .i64 r.k) ∧ W.cell? ⟨w.heap.size, 1, none⟩ = some (.int .i64 r.ep) ∧ W.cell? ⟨w.heap.size, 2, none⟩ = some (.int .i64 r.tm) ∧ W.cell? ⟨w.heap.size, 3, none⟩ = some (.int .i64 r.ct) ∧ W.cell? ⟨w.heap.size, 4, none⟩ = some (.int .i64 r.tg) ∧ W.cell? ⟨w.heap.size, 5, none⟩ = some (.int .i64 r.un) ∧ W.cell? ⟨w.heap.size, 6, none⟩ = some (.string ⟨r.rt.toArray⟩) ∧ W.cell? ⟨w.heap.size, 7, none⟩ = some (.string ⟨r.nm.toArray⟩))
      (exact hT) (fail)
    clear k0 k1 k2 k3 k4 k5 k6 k7
    obtain ⟨k0, k1, k2, k3, k4, k5, k6, k7⟩ := SS.out.ws.k.cells
    go_wp2_with (first | (go_at_call 39; refine (HG.out _ SS.out.d).mono ?_; rintro e _ ⟨rfl, rfl⟩; clear HG) | (go_at_call 56; refine (HU.out _ SS.out.d).mono ?_; rintro e _ ⟨rfl, rfl⟩; clear HU) | (go_at_call 81; refine (HL.out _ SS.out.d).mono ?_; rintro e w5 ⟨⟨v, rfl, pn, cn, rfl, -⟩, hb⟩; replace SS := Lib.hid (SS.out.step hb); clear k0 k1 k2 k3 k4 k5 k6 k7; obtain ⟨k0, k1, k2, k3, k4, k5, k6, k7⟩ := SS.out.ws.k.cells; clear hb HL))
    go_ret
    exact ⟨rfl, SS.out.ws.bel⟩
/-- Why the document's book refuses a record. -/
theorem May {B o : Nat} {f : Int} {a : Option Addr} {n c : Nat} {l : List Rec} {w : World} (h : Db w B o f a n c l) (r : Rec) (h0 : 0 ≤ f) (h1 : f ≤ 4294967295) : Calls Tryz.prog 53 #[.pointer (some ⟨B, o, none⟩), .agg #[.int .i64 r.k, .int .i64 r.ep, .int .i64 r.tm, .int .i64 r.ct, .int .i64 r.tg, .int .i64 r.un, .string ⟨r.rt.toArray⟩, .string ⟨r.nm.toArray⟩]] w fun x w' => x = .returned (.int .i64 (dMay f l r)) ∧ Below w.heap.size w w' := by
  unfold dMay
  by_cases hr : right r
  · rw [if_neg (show ¬ ¬ right r from fun e => e hr)]
    have hb := (bounds hr).1
    by_cases he : r.ep = dEp f l
    · by_cases ht : r.tm < dNow l
      · rw [if_pos (.inr ht)]
        exact May_tm h r h0 h1 hr he ht
      · rw [if_neg (show ¬ (r.ep ≠ dEp f l ∨ r.tm < dNow l) by omega)]
        by_cases k1 : r.k = 1
        · rw [if_pos k1]; exact May_1 h r h0 h1 hr he ht k1
        rw [if_neg k1]
        by_cases k4 : r.k = 4
        · rw [if_pos k4]; exact May_4 h r h0 h1 hr he ht k4
        rw [if_neg k4]
        by_cases k2 : r.k = 2
        · have n3 : ¬ r.k = 3 := by omega
          have n5 : ¬ r.k = 5 := by omega
          have := May_2 h r h0 h1 hr he ht k2
          simp only [n3, n5, k2, true_and, false_and, if_false] at this ⊢
          exact this
        by_cases k3 : r.k = 3
        · have n5 : ¬ r.k = 5 := by omega
          have := May_3 h r h0 h1 hr he ht k3
          simp only [k2, n5, k3, true_and, false_and, if_false] at this ⊢
          exact this
        · have k5 : r.k = 5 := by omega
          have := May_5 h r h0 h1 hr he ht k5
          simp only [k2, k3, k5, true_and, false_and, if_false] at this ⊢
          exact this
    · rw [if_pos (.inl he)]
      exact May_ep h r h0 h1 hr he
  · rw [if_pos hr]
    exact May_bad h r h0 h1 hr
end Go.Proofs.YtopnodkdpehdoaaGreatDoor.DbM
