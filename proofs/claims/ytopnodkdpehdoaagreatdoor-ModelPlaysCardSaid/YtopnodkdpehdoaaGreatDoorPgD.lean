/- The program's turn, do, Do: the walks of their texts. No conditions but those that each lemma names. -/
import Derived.Test.YtopnodkdpehdoaaGreatDoorLPgu
import Derived.Test.YtopnodkdpehdoaaGreatDoorLCa
namespace Go.Proofs.YtopnodkdpehdoaaGreatDoor.PgD
set_option linter.unusedVariables false
open Go.RowKit
open RecN RecC RetN RetC RetR DbN DbA MdN MdO MdC MdG MdJ AnsC PgN PgC PgI PgW PgX PgA PgR PgS PgM PgT PgU PgV PgH
variable {base : Nat} {A : Pm} {m : Mo} {w : World}
theorem write (h : Pg base A m w) (c : Cl) (hk : c.k = 1) : Calls Tryz.prog 73 #[.pointer (some ⟨A.y, 0, none⟩), .int .i64 c.lb, .string ⟨c.da.toArray⟩] w fun x w' => x = .returned (.int .i64 (wrE m c)) ∧ Trn base A (doM m c) w w' := by
  unfold doM
  rw [if_pos hk]
  by_cases he : wrE m c = 0
  · rw [if_pos he, he]; exact write_yes h c he
  · rw [if_neg he]; exact (write_no h c he).mono fun x w' ⟨h1, h2⟩ => ⟨h1, Trn.still h h2⟩
theorem shut (h : Pg base A m w) (c : Cl) (hk : c.k = 5) : Calls Tryz.prog 74 #[.pointer (some ⟨A.y, 0, none⟩)] w fun x w' => x = .returned (.int .i64 (clE m)) ∧ Trn base A (doM m c) w w' := by
  unfold doM
  rw [if_neg (by omega), if_pos hk]
  by_cases he : clE m = 0
  · rw [if_pos he, he]; exact shut_yes h he
  · rw [if_neg he]; exact (shut_no h he).mono fun x w' ⟨h1, h2⟩ => ⟨h1, Trn.still h h2⟩
theorem seal_ (h : Pg base A m w) (c : Cl) (pk : Option Addr) (nk ck : Nat) (hk : c.k = 6 ∨ c.k = 7 ∨ c.k = 8 ∨ c.k = 9) : Calls Tryz.prog 75 #[.pointer (some ⟨A.y, 0, none⟩), .agg #[.int .i64 c.k, .int .i64 c.lb, .int .i64 c.ep, .int .i64 c.tm, .string ⟨c.da.toArray⟩, .string ⟨c.nm.toArray⟩, .slice pk nk ck]] w fun x w' => x = .returned (.int .i64 (slE m c)) ∧ Trn base A (doM m c) w w' := by
  unfold doM
  rw [if_neg (by omega), if_neg (by omega), if_pos hk]
  by_cases he : slE m c = 0
  · rw [if_pos he, he]; exact seal_yes h c pk nk ck hk he
  · rw [if_neg he]; exact (seal_no h c pk nk ck hk he).mono fun x w' ⟨h1, h2⟩ => ⟨h1, Trn.still h h2⟩
theorem Tick (h : Pg base A m w) (c : Cl) (hk : c.k = 11) : Calls Tryz.prog 76 #[.pointer (some ⟨A.k, 0, none⟩), .int .i64 c.tm] w fun x w' => x = .returned (.int .i64 (tkE m c.tm)) ∧ Trn base A (doM m c) w w' ∧ CloC.But A.k w w' := by
  unfold doM
  rw [if_neg (by omega), if_neg (by omega), if_neg (by omega), if_pos hk]
  by_cases h1 : c.tm < 0 ∨ 1099511627776 < c.tm
  · have e : tkE m c.tm = 2 := by unfold tkE; rw [if_pos h1]
    rw [e, if_neg (by decide)]
    exact (CloM.Tick_arg A.k 0 m.ck c.tm w h.ck h1).mono fun x w' ⟨q1, q2⟩ => ⟨q1, Trn.still h q2, CloC.But.of_below q2⟩
  by_cases h2 : c.tm < m.ck
  · have e : tkE m c.tm = 11 := by unfold tkE; rw [if_neg h1, if_pos h2]
    rw [e, if_neg (by decide)]
    exact (CloM.Tick_back A.k 0 m.ck c.tm w h.ck (by omega) (by omega) h2).mono fun x w' ⟨q1, q2⟩ => ⟨q1, Trn.still h q2, CloC.But.of_below q2⟩
  · have e : tkE m c.tm = 0 := by unfold tkE; rw [if_neg h1, if_neg h2]
    have hok := ok_tick h.ok e
    rw [e, if_pos rfl]
    refine (CloM.Tick_ok A.k 0 m.ck c.tm w h.ck (by omega) (by omega) (by omega)).mono fun x w' ⟨q1, q2⟩ => ⟨q1, ?_, q2.but⟩
    have hp := (raw h).tick q2
    exact trn_of (A' := A) rfl (hp.pg hok h.ep ⟨h.lo.lb, h.lo.now⟩) (fun k hk => .inl hk) (fr_tick q2)
theorem tick_s {W W' : World} {c : Cl} {pk : Option Addr} {nk ck : Nat} (h : Pg base A m W) (hbc : Bc W w.heap.size c pk nk ck) (hF : ∀ i, A.foot i → i < w.heap.size) (hb : CloC.But A.k W W') : W'.cell? ⟨A.y, 3, none⟩ = some (.pointer (some ⟨A.k, 0, none⟩)) ∧ W'.cell? ⟨w.heap.size, 3, none⟩ = some (.int .i64 c.tm) := by
  have h1 := hF A.k (.inl (.inr (.inr (.inl rfl))))
  have h2 : W'.heap[A.y]? = W.heap[A.y]? := hb.block _ h.ly (fun e => h.kx.2 e.symm)
  have h3 : W'.heap[w.heap.size]? = W.heap[w.heap.size]? := hb.block _ hbc.lt (by omega)
  exact ⟨blk_cell (h2.trans h.body) rfl, blk_cell (h3.trans hbc) rfl⟩
set_option maxRecDepth 100000 in
set_option maxHeartbeats 8000000 in
theorem turn1 (h : Pg base A m w) (c : Cl) (pk : Option Addr) (nk ck : Nat) (hk : c.k = 1) :
    Calls Tryz.prog 50 #[.pointer (some ⟨A.y, 0, none⟩), .agg #[.int .i64 c.k, .int .i64 c.lb, .int .i64 c.ep, .int .i64 c.tm, .string ⟨c.da.toArray⟩, .string ⟨c.nm.toArray⟩, .slice pk nk ck]] w fun x w' => x = .returned (.int .i64 (doE m c)) ∧ Trn base A (doM m c) w w' := by
  obtain ⟨W1, hW1⟩ : ∃ W1, W1 = w.alloc (.cells #[.int .i64 c.k, .int .i64 c.lb, .int .i64 c.ep, .int .i64 c.tm, .string ⟨c.da.toArray⟩, .string ⟨c.nm.toArray⟩, .slice pk nk ck] 35) := ⟨_, rfl⟩
  have MN : Hid (Mn base A m w W1) := Lib.hid (by rw [hW1]; exact (mn_new h).step (below_new w _))
  have BC : Hid (Bc W1 w.heap.size c pk nk ck) := Lib.hid (by rw [hW1]; exact bc_new w c pk nk ck)
  obtain ⟨k0, k1, k2, k3, k4, k5, k6⟩ := BC.out.cells
  have e : doE m c = wrE m c := by unfold doE; rw [if_pos hk]
  rw [e]
  have HX := Lib.hid (write MN.out.p c hk)
  obtain ⟨v, hv⟩ : ∃ v, wrE m c = v := ⟨_, rfl⟩
  rw [hv] at HX ⊢
  clear hv
  generalize doM m c = m' at *
  have q1 : (c.k == 1) = true := by simp [hk]
  clear h e hk
  go_enter Tryz.func50, Tryz.ntmps50
  go_upto_region 1 with (fail)
  rw [← hW1]
  clear hW1
  go_wp2_with (go_at_call 73; refine HX.out.mono ?_; rintro e w2 ⟨rfl, ht⟩; have TT := Lib.hid ht; clear ht HX)
  go_ret
  exact ⟨rfl, Trn.after MN.out.bel TT.out⟩
set_option maxRecDepth 100000 in
set_option maxHeartbeats 8000000 in
theorem turn4 (h : Pg base A m w) (c : Cl) (pk : Option Addr) (nk ck : Nat) (hk : c.k = 4) :
    Calls Tryz.prog 50 #[.pointer (some ⟨A.y, 0, none⟩), .agg #[.int .i64 c.k, .int .i64 c.lb, .int .i64 c.ep, .int .i64 c.tm, .string ⟨c.da.toArray⟩, .string ⟨c.nm.toArray⟩, .slice pk nk ck]] w fun x w' => x = .returned (.int .i64 (doE m c)) ∧ Trn base A (doM m c) w w' := by
  obtain ⟨W1, hW1⟩ : ∃ W1, W1 = w.alloc (.cells #[.int .i64 c.k, .int .i64 c.lb, .int .i64 c.ep, .int .i64 c.tm, .string ⟨c.da.toArray⟩, .string ⟨c.nm.toArray⟩, .slice pk nk ck] 35) := ⟨_, rfl⟩
  have MN : Hid (Mn base A m w W1) := Lib.hid (by rw [hW1]; exact (mn_new h).step (below_new w _))
  have BC : Hid (Bc W1 w.heap.size c pk nk ck) := Lib.hid (by rw [hW1]; exact bc_new w c pk nk ck)
  obtain ⟨k0, k1, k2, k3, k4, k5, k6⟩ := BC.out.cells
  have e : doE m c = 0 := by unfold doE; rw [if_neg (by omega), if_pos hk]
  rw [e]
  have ed : doM m c = m := MdO.refused (.inr (.inr (.inr (.inl hk))))
  rw [ed]
  have TT : Hid (Trn base A m w W1) := Lib.hid (Trn.still h MN.out.bel)
  clear ed
  have q1 : (c.k == 1) = false := by simp [hk]
  have q4 : (c.k == 4) = true := by simp [hk]
  clear h e hk
  go_enter Tryz.func50, Tryz.ntmps50
  go_upto_region 1 with (fail)
  rw [← hW1]
  clear hW1
  go_wp2_with fail
  go_ret
  exact ⟨rfl, TT.out⟩
set_option maxRecDepth 100000 in
set_option maxHeartbeats 8000000 in
theorem turn5 (h : Pg base A m w) (c : Cl) (pk : Option Addr) (nk ck : Nat) (hk : c.k = 5) :
    Calls Tryz.prog 50 #[.pointer (some ⟨A.y, 0, none⟩), .agg #[.int .i64 c.k, .int .i64 c.lb, .int .i64 c.ep, .int .i64 c.tm, .string ⟨c.da.toArray⟩, .string ⟨c.nm.toArray⟩, .slice pk nk ck]] w fun x w' => x = .returned (.int .i64 (doE m c)) ∧ Trn base A (doM m c) w w' := by
  obtain ⟨W1, hW1⟩ : ∃ W1, W1 = w.alloc (.cells #[.int .i64 c.k, .int .i64 c.lb, .int .i64 c.ep, .int .i64 c.tm, .string ⟨c.da.toArray⟩, .string ⟨c.nm.toArray⟩, .slice pk nk ck] 35) := ⟨_, rfl⟩
  have MN : Hid (Mn base A m w W1) := Lib.hid (by rw [hW1]; exact (mn_new h).step (below_new w _))
  have BC : Hid (Bc W1 w.heap.size c pk nk ck) := Lib.hid (by rw [hW1]; exact bc_new w c pk nk ck)
  obtain ⟨k0, k1, k2, k3, k4, k5, k6⟩ := BC.out.cells
  have e : doE m c = clE m := by unfold doE; rw [if_neg (by omega), if_neg (by omega), if_pos hk]
  rw [e]
  have HX := Lib.hid (shut MN.out.p c hk)
  obtain ⟨v, hv⟩ : ∃ v, clE m = v := ⟨_, rfl⟩
  rw [hv] at HX ⊢
  clear hv
  generalize doM m c = m' at *
  have q1 : (c.k == 1) = false := by simp [hk]
  have q4 : (c.k == 4) = false := by simp [hk]
  have q5 : (c.k == 5) = true := by simp [hk]
  clear h e hk
  go_enter Tryz.func50, Tryz.ntmps50
  go_upto_region 1 with (fail)
  rw [← hW1]
  clear hW1
  go_wp2_with (go_at_call 74; refine HX.out.mono ?_; rintro e w2 ⟨rfl, ht⟩; have TT := Lib.hid ht; clear ht HX)
  go_ret
  exact ⟨rfl, Trn.after MN.out.bel TT.out⟩
set_option maxRecDepth 100000 in
set_option maxHeartbeats 8000000 in
theorem turn6 (h : Pg base A m w) (c : Cl) (pk : Option Addr) (nk ck : Nat) (hk : c.k = 6) :
    Calls Tryz.prog 50 #[.pointer (some ⟨A.y, 0, none⟩), .agg #[.int .i64 c.k, .int .i64 c.lb, .int .i64 c.ep, .int .i64 c.tm, .string ⟨c.da.toArray⟩, .string ⟨c.nm.toArray⟩, .slice pk nk ck]] w fun x w' => x = .returned (.int .i64 (doE m c)) ∧ Trn base A (doM m c) w w' := by
  obtain ⟨W1, hW1⟩ : ∃ W1, W1 = w.alloc (.cells #[.int .i64 c.k, .int .i64 c.lb, .int .i64 c.ep, .int .i64 c.tm, .string ⟨c.da.toArray⟩, .string ⟨c.nm.toArray⟩, .slice pk nk ck] 35) := ⟨_, rfl⟩
  have MN : Hid (Mn base A m w W1) := Lib.hid (by rw [hW1]; exact (mn_new h).step (below_new w _))
  have BC : Hid (Bc W1 w.heap.size c pk nk ck) := Lib.hid (by rw [hW1]; exact bc_new w c pk nk ck)
  obtain ⟨k0, k1, k2, k3, k4, k5, k6⟩ := BC.out.cells
  have e : doE m c = slE m c := by unfold doE; rw [if_neg (by omega), if_neg (by omega), if_neg (by omega), if_pos (by omega)]
  rw [e]
  have HX := Lib.hid (seal_ MN.out.p c pk nk ck (by omega))
  obtain ⟨v, hv⟩ : ∃ v, slE m c = v := ⟨_, rfl⟩
  rw [hv] at HX ⊢
  clear hv
  generalize doM m c = m' at *
  have q1 : (c.k == 1) = false := by simp [hk]
  have q4 : (c.k == 4) = false := by simp [hk]
  have q5 : (c.k == 5) = false := by simp [hk]
  have q6 : (c.k == 6) = true := by simp [hk]
  clear h e hk
  go_enter Tryz.func50, Tryz.ntmps50
  go_upto_region 1 with (fail)
  rw [← hW1]
  clear hW1
  go_wp2_with (go_at_call 75; refine HX.out.mono ?_; rintro e w2 ⟨rfl, ht⟩; have TT := Lib.hid ht; clear ht HX)
  go_ret
  exact ⟨rfl, Trn.after MN.out.bel TT.out⟩
set_option maxRecDepth 100000 in
set_option maxHeartbeats 8000000 in
theorem turn7 (h : Pg base A m w) (c : Cl) (pk : Option Addr) (nk ck : Nat) (hk : c.k = 7) :
    Calls Tryz.prog 50 #[.pointer (some ⟨A.y, 0, none⟩), .agg #[.int .i64 c.k, .int .i64 c.lb, .int .i64 c.ep, .int .i64 c.tm, .string ⟨c.da.toArray⟩, .string ⟨c.nm.toArray⟩, .slice pk nk ck]] w fun x w' => x = .returned (.int .i64 (doE m c)) ∧ Trn base A (doM m c) w w' := by
  obtain ⟨W1, hW1⟩ : ∃ W1, W1 = w.alloc (.cells #[.int .i64 c.k, .int .i64 c.lb, .int .i64 c.ep, .int .i64 c.tm, .string ⟨c.da.toArray⟩, .string ⟨c.nm.toArray⟩, .slice pk nk ck] 35) := ⟨_, rfl⟩
  have MN : Hid (Mn base A m w W1) := Lib.hid (by rw [hW1]; exact (mn_new h).step (below_new w _))
  have BC : Hid (Bc W1 w.heap.size c pk nk ck) := Lib.hid (by rw [hW1]; exact bc_new w c pk nk ck)
  obtain ⟨k0, k1, k2, k3, k4, k5, k6⟩ := BC.out.cells
  have e : doE m c = slE m c := by unfold doE; rw [if_neg (by omega), if_neg (by omega), if_neg (by omega), if_pos (by omega)]
  rw [e]
  have HX := Lib.hid (seal_ MN.out.p c pk nk ck (by omega))
  obtain ⟨v, hv⟩ : ∃ v, slE m c = v := ⟨_, rfl⟩
  rw [hv] at HX ⊢
  clear hv
  generalize doM m c = m' at *
  have q1 : (c.k == 1) = false := by simp [hk]
  have q4 : (c.k == 4) = false := by simp [hk]
  have q5 : (c.k == 5) = false := by simp [hk]
  have q6 : (c.k == 6) = false := by simp [hk]
  have q7 : (c.k == 7) = true := by simp [hk]
  clear h e hk
  go_enter Tryz.func50, Tryz.ntmps50
  go_upto_region 1 with (fail)
  rw [← hW1]
  clear hW1
  go_wp2_with (go_at_call 75; refine HX.out.mono ?_; rintro e w2 ⟨rfl, ht⟩; have TT := Lib.hid ht; clear ht HX)
  go_ret
  exact ⟨rfl, Trn.after MN.out.bel TT.out⟩
set_option maxRecDepth 100000 in
set_option maxHeartbeats 8000000 in
theorem turn8 (h : Pg base A m w) (c : Cl) (pk : Option Addr) (nk ck : Nat) (hk : c.k = 8) :
    Calls Tryz.prog 50 #[.pointer (some ⟨A.y, 0, none⟩), .agg #[.int .i64 c.k, .int .i64 c.lb, .int .i64 c.ep, .int .i64 c.tm, .string ⟨c.da.toArray⟩, .string ⟨c.nm.toArray⟩, .slice pk nk ck]] w fun x w' => x = .returned (.int .i64 (doE m c)) ∧ Trn base A (doM m c) w w' := by
  obtain ⟨W1, hW1⟩ : ∃ W1, W1 = w.alloc (.cells #[.int .i64 c.k, .int .i64 c.lb, .int .i64 c.ep, .int .i64 c.tm, .string ⟨c.da.toArray⟩, .string ⟨c.nm.toArray⟩, .slice pk nk ck] 35) := ⟨_, rfl⟩
  have MN : Hid (Mn base A m w W1) := Lib.hid (by rw [hW1]; exact (mn_new h).step (below_new w _))
  have BC : Hid (Bc W1 w.heap.size c pk nk ck) := Lib.hid (by rw [hW1]; exact bc_new w c pk nk ck)
  obtain ⟨k0, k1, k2, k3, k4, k5, k6⟩ := BC.out.cells
  have e : doE m c = slE m c := by unfold doE; rw [if_neg (by omega), if_neg (by omega), if_neg (by omega), if_pos (by omega)]
  rw [e]
  have HX := Lib.hid (seal_ MN.out.p c pk nk ck (by omega))
  obtain ⟨v, hv⟩ : ∃ v, slE m c = v := ⟨_, rfl⟩
  rw [hv] at HX ⊢
  clear hv
  generalize doM m c = m' at *
  have q1 : (c.k == 1) = false := by simp [hk]
  have q4 : (c.k == 4) = false := by simp [hk]
  have q5 : (c.k == 5) = false := by simp [hk]
  have q6 : (c.k == 6) = false := by simp [hk]
  have q7 : (c.k == 7) = false := by simp [hk]
  have q8 : (c.k == 8) = true := by simp [hk]
  clear h e hk
  go_enter Tryz.func50, Tryz.ntmps50
  go_upto_region 1 with (fail)
  rw [← hW1]
  clear hW1
  go_wp2_with (go_at_call 75; refine HX.out.mono ?_; rintro e w2 ⟨rfl, ht⟩; have TT := Lib.hid ht; clear ht HX)
  go_ret
  exact ⟨rfl, Trn.after MN.out.bel TT.out⟩
set_option maxRecDepth 100000 in
set_option maxHeartbeats 8000000 in
theorem turn9 (h : Pg base A m w) (c : Cl) (pk : Option Addr) (nk ck : Nat) (hk : c.k = 9) :
    Calls Tryz.prog 50 #[.pointer (some ⟨A.y, 0, none⟩), .agg #[.int .i64 c.k, .int .i64 c.lb, .int .i64 c.ep, .int .i64 c.tm, .string ⟨c.da.toArray⟩, .string ⟨c.nm.toArray⟩, .slice pk nk ck]] w fun x w' => x = .returned (.int .i64 (doE m c)) ∧ Trn base A (doM m c) w w' := by
  obtain ⟨W1, hW1⟩ : ∃ W1, W1 = w.alloc (.cells #[.int .i64 c.k, .int .i64 c.lb, .int .i64 c.ep, .int .i64 c.tm, .string ⟨c.da.toArray⟩, .string ⟨c.nm.toArray⟩, .slice pk nk ck] 35) := ⟨_, rfl⟩
  have MN : Hid (Mn base A m w W1) := Lib.hid (by rw [hW1]; exact (mn_new h).step (below_new w _))
  have BC : Hid (Bc W1 w.heap.size c pk nk ck) := Lib.hid (by rw [hW1]; exact bc_new w c pk nk ck)
  obtain ⟨k0, k1, k2, k3, k4, k5, k6⟩ := BC.out.cells
  have e : doE m c = slE m c := by unfold doE; rw [if_neg (by omega), if_neg (by omega), if_neg (by omega), if_pos (by omega)]
  rw [e]
  have HX := Lib.hid (seal_ MN.out.p c pk nk ck (by omega))
  obtain ⟨v, hv⟩ : ∃ v, slE m c = v := ⟨_, rfl⟩
  rw [hv] at HX ⊢
  clear hv
  generalize doM m c = m' at *
  have q1 : (c.k == 1) = false := by simp [hk]
  have q4 : (c.k == 4) = false := by simp [hk]
  have q5 : (c.k == 5) = false := by simp [hk]
  have q6 : (c.k == 6) = false := by simp [hk]
  have q7 : (c.k == 7) = false := by simp [hk]
  have q8 : (c.k == 8) = false := by simp [hk]
  have q9 : (c.k == 9) = true := by simp [hk]
  clear h e hk
  go_enter Tryz.func50, Tryz.ntmps50
  go_upto_region 1 with (fail)
  rw [← hW1]
  clear hW1
  go_wp2_with (go_at_call 75; refine HX.out.mono ?_; rintro e w2 ⟨rfl, ht⟩; have TT := Lib.hid ht; clear ht HX)
  go_ret
  exact ⟨rfl, Trn.after MN.out.bel TT.out⟩
set_option maxRecDepth 100000 in
set_option maxHeartbeats 8000000 in
theorem turn11 (h : Pg base A m w) (c : Cl) (pk : Option Addr) (nk ck : Nat) (hk : c.k = 11) :
    Calls Tryz.prog 50 #[.pointer (some ⟨A.y, 0, none⟩), .agg #[.int .i64 c.k, .int .i64 c.lb, .int .i64 c.ep, .int .i64 c.tm, .string ⟨c.da.toArray⟩, .string ⟨c.nm.toArray⟩, .slice pk nk ck]] w fun x w' => x = .returned (.int .i64 (doE m c)) ∧ Trn base A (doM m c) w w' := by
  obtain ⟨W1, hW1⟩ : ∃ W1, W1 = w.alloc (.cells #[.int .i64 c.k, .int .i64 c.lb, .int .i64 c.ep, .int .i64 c.tm, .string ⟨c.da.toArray⟩, .string ⟨c.nm.toArray⟩, .slice pk nk ck] 35) := ⟨_, rfl⟩
  have MN : Hid (Mn base A m w W1) := Lib.hid (by rw [hW1]; exact (mn_new h).step (below_new w _))
  have BC : Hid (Bc W1 w.heap.size c pk nk ck) := Lib.hid (by rw [hW1]; exact bc_new w c pk nk ck)
  obtain ⟨k0, k1, k2, k3, k4, k5, k6⟩ := BC.out.cells
  have e : doE m c = tkE m c.tm := by unfold doE; rw [if_neg (by omega), if_neg (by omega), if_neg (by omega), if_neg (by omega), if_pos hk]
  rw [e]
  have HX := Lib.hid (fun W (h : Pg base A m W) => Tick h c hk)
  have HF := Lib.hid (fun i (hi : A.foot i) => h.lt hi)
  obtain ⟨v, hv⟩ : ∃ v, tkE m c.tm = v := ⟨_, rfl⟩
  rw [hv] at HX ⊢
  clear hv
  generalize doM m c = m' at *
  have q1 : (c.k == 1) = false := by simp [hk]
  have q4 : (c.k == 4) = false := by simp [hk]
  have q5 : (c.k == 5) = false := by simp [hk]
  have q6 : (c.k == 6) = false := by simp [hk]
  have q7 : (c.k == 7) = false := by simp [hk]
  have q8 : (c.k == 8) = false := by simp [hk]
  have q9 : (c.k == 9) = false := by simp [hk]
  have q11 : (c.k == 11) = true := by simp [hk]
  clear h e hk
  go_enter Tryz.func50, Tryz.ntmps50
  go_upto_region 1 with (fail)
  rw [← hW1]
  clear hW1
  go_upto_region 14 with (fail)
  replace MN := Lib.hid MN.out.drew
  replace BC := Lib.hid (BC.out.step ((Below.refl _ _).drew))
  have hS : _ ∧ _ := And.intro MN.out.p.cells.2.2.2.1 BC.out.cells.2.2.2.1
  clear k0 k1 k2 k3 k4 k5 k6
  go_region_held3 (fun W => W.cell? ⟨A.y, 3, none⟩ = some (.pointer (some ⟨A.k, 0, none⟩)) ∧ W.cell? ⟨w.heap.size, 3, none⟩ = some (.int .i64 c.tm))
    (exact hS) (first | (go_at_call 76; refine (HX.out _ MN.out.p).mono ?_; rintro e w2 ⟨rfl, ht, hb⟩; have TT := Lib.hid (Trn.after MN.out.bel ht); replace hS := tick_s MN.out.p BC.out HF.out hb; clear ht hb HX))
  clear hS
  go_wp2_with fail
  go_ret
  exact ⟨rfl, TT.out⟩
set_option maxRecDepth 100000 in
set_option maxHeartbeats 8000000 in
theorem turn0 (h : Pg base A m w) (c : Cl) (pk : Option Addr) (nk ck : Nat) (hk : ¬ (c.k = 1 ∨ c.k = 4 ∨ c.k = 5 ∨ c.k = 6 ∨ c.k = 7 ∨ c.k = 8 ∨ c.k = 9 ∨ c.k = 11)) :
    Calls Tryz.prog 50 #[.pointer (some ⟨A.y, 0, none⟩), .agg #[.int .i64 c.k, .int .i64 c.lb, .int .i64 c.ep, .int .i64 c.tm, .string ⟨c.da.toArray⟩, .string ⟨c.nm.toArray⟩, .slice pk nk ck]] w fun x w' => x = .returned (.int .i64 (doE m c)) ∧ Trn base A (doM m c) w w' := by
  obtain ⟨W1, hW1⟩ : ∃ W1, W1 = w.alloc (.cells #[.int .i64 c.k, .int .i64 c.lb, .int .i64 c.ep, .int .i64 c.tm, .string ⟨c.da.toArray⟩, .string ⟨c.nm.toArray⟩, .slice pk nk ck] 35) := ⟨_, rfl⟩
  have MN : Hid (Mn base A m w W1) := Lib.hid (by rw [hW1]; exact (mn_new h).step (below_new w _))
  have BC : Hid (Bc W1 w.heap.size c pk nk ck) := Lib.hid (by rw [hW1]; exact bc_new w c pk nk ck)
  obtain ⟨k0, k1, k2, k3, k4, k5, k6⟩ := BC.out.cells
  have e : doE m c = 2 := by unfold doE; rw [if_neg (by omega), if_neg (by omega), if_neg (by omega), if_neg (by omega), if_neg (by omega)]
  rw [e]
  have ed : doM m c = m := by unfold doM; rw [if_neg (by omega), if_neg (by omega), if_neg (by omega), if_neg (by omega)]
  rw [ed]
  have TT : Hid (Trn base A m w W1) := Lib.hid (Trn.still h MN.out.bel)
  clear ed
  have q1 : (c.k == 1) = false := by rw [beq_eq_false_iff_ne]; omega
  have q4 : (c.k == 4) = false := by rw [beq_eq_false_iff_ne]; omega
  have q5 : (c.k == 5) = false := by rw [beq_eq_false_iff_ne]; omega
  have q6 : (c.k == 6) = false := by rw [beq_eq_false_iff_ne]; omega
  have q7 : (c.k == 7) = false := by rw [beq_eq_false_iff_ne]; omega
  have q8 : (c.k == 8) = false := by rw [beq_eq_false_iff_ne]; omega
  have q9 : (c.k == 9) = false := by rw [beq_eq_false_iff_ne]; omega
  have q11 : (c.k == 11) = false := by rw [beq_eq_false_iff_ne]; omega
  clear h e hk
  go_enter Tryz.func50, Tryz.ntmps50
  go_upto_region 1 with (fail)
  rw [← hW1]
  clear hW1
  go_wp2_with fail
  go_ret
  exact ⟨rfl, TT.out⟩
theorem turn (h : Pg base A m w) (c : Cl) (pk : Option Addr) (nk ck : Nat) :
    Calls Tryz.prog 50 #[.pointer (some ⟨A.y, 0, none⟩), .agg #[.int .i64 c.k, .int .i64 c.lb, .int .i64 c.ep, .int .i64 c.tm, .string ⟨c.da.toArray⟩, .string ⟨c.nm.toArray⟩, .slice pk nk ck]] w fun x w' => x = .returned (.int .i64 (doE m c)) ∧ Trn base A (doM m c) w w' := by
  by_cases h1 : c.k = 1
  · exact turn1 h c pk nk ck h1
  by_cases h4 : c.k = 4
  · exact turn4 h c pk nk ck h4
  by_cases h5 : c.k = 5
  · exact turn5 h c pk nk ck h5
  by_cases h6 : c.k = 6
  · exact turn6 h c pk nk ck h6
  by_cases h7 : c.k = 7
  · exact turn7 h c pk nk ck h7
  by_cases h8 : c.k = 8
  · exact turn8 h c pk nk ck h8
  by_cases h9 : c.k = 9
  · exact turn9 h c pk nk ck h9
  by_cases h11 : c.k = 11
  · exact turn11 h c pk nk ck h11
  · exact turn0 h c pk nk ck (by omega)
/-- A block that is none of a model's is written. -/
theorem Trn.row {w1 W : World} {R : Nat} (ht : Trn base A m w1 W) (hR : R < w1.heap.size) (hn : ¬ A.foot R) (hb : base ≤ R) (hw : w.heap.size ≤ R) (h1 : Below w.heap.size w w1) (cs : Array Value) : Trn base A m w (W.setRow R cs) := by
  obtain ⟨⟨A', hx, hp, hf⟩, e1, e2, e3, e4, e5⟩ := ht
  have hs : (W.setRow R cs).heap.size = W.heap.size := by simp [World.setRow]
  have hnR : ∀ i, A'.foot i → i ≠ R := fun i hi e => by
    rcases hf i hi with q | q
    · exact hn (e ▸ q)
    · omega
  refine ⟨⟨A', hx, hp.kept (by rw [hs]; exact Nat.le_refl _) (fun i hi => setRow_other _ _ _ _ (hnR i hi)) (fun i hi => setRow_other _ _ _ _ (by omega)), fun k hk => (hf k hk).imp id (fun q => Nat.le_trans h1.size q)⟩, e1.trans h1.os, e2.trans h1.tape, e3.trans h1.output, by rw [hs]; exact Nat.le_trans h1.size e4, fun k hk hk2 => ?_⟩
  rw [setRow_other _ _ _ _ (show k ≠ R by omega)]
  exact (e5 k (Nat.lt_of_lt_of_le hk h1.size) hk2).trans (h1.block k hk)
/-- What stands while do runs: the model, the call, the result's block. -/
structure Dq (base : Nat) (A : Pm) (m : Mo) (c : Cl) (pk : Option Addr) (nk ck : Nat) (w W : World) : Prop where
  mn : Mn base A m w W
  bc : Bc W w.heap.size c pk nk ck
  rs : W.heap[w.heap.size + 1]? = some (.cells #[.int .i64 0, .string ⟨#[]⟩, .int .i64 0, .int .i64 0, .int .i64 0, .int .i64 0, .int .i64 0, .int .i64 0] 39 (0, 0))
theorem Dq.step {c : Cl} {pk : Option Addr} {nk ck : Nat} {W W' : World} (h : Dq base A m c pk nk ck w W) (hb : Below W.heap.size W W') : Dq base A m c pk nk ck w W' := ⟨h.mn.step hb, h.bc.step hb, (hb.block _ (RecC.lt_of_some h.rs)).trans h.rs⟩
theorem dq_new (h : Pg base A m w) (c : Cl) (pk : Option Addr) (nk ck : Nat) : Dq base A m c pk nk ck w ((w.alloc (.cells #[.int .i64 c.k, .int .i64 c.lb, .int .i64 c.ep, .int .i64 c.tm, .string ⟨c.da.toArray⟩, .string ⟨c.nm.toArray⟩, .slice pk nk ck] 35)).alloc (.cells #[.int .i64 0, .string ⟨#[]⟩, .int .i64 0, .int .i64 0, .int .i64 0, .int .i64 0, .int .i64 0, .int .i64 0] 39)) := by
  have b1 : Below w.heap.size w (w.alloc (.cells #[.int .i64 c.k, .int .i64 c.lb, .int .i64 c.ep, .int .i64 c.tm, .string ⟨c.da.toArray⟩, .string ⟨c.nm.toArray⟩, .slice pk nk ck] 35)) := below_new w _
  have b2 := below_new (w.alloc (.cells #[.int .i64 c.k, .int .i64 c.lb, .int .i64 c.ep, .int .i64 c.tm, .string ⟨c.da.toArray⟩, .string ⟨c.nm.toArray⟩, .slice pk nk ck] 35)) (.cells #[.int .i64 0, .string ⟨#[]⟩, .int .i64 0, .int .i64 0, .int .i64 0, .int .i64 0, .int .i64 0, .int .i64 0] 39)
  refine ⟨(mn_new h).step b1 |>.step b2, (bc_new w c pk nk ck).step b2, ?_⟩
  have := heap_alloc_new (w.alloc (.cells #[.int .i64 c.k, .int .i64 c.lb, .int .i64 c.ep, .int .i64 c.tm, .string ⟨c.da.toArray⟩, .string ⟨c.nm.toArray⟩, .slice pk nk ck] 35)) (.cells #[.int .i64 0, .string ⟨#[]⟩, .int .i64 0, .int .i64 0, .int .i64 0, .int .i64 0, .int .i64 0, .int .i64 0] 39)
  rw [World.size_alloc] at this
  exact this
theorem Dq.set2 {c : Cl} {pk : Option Addr} {nk ck : Nat} {W : World} (h : Dq base A m c pk nk ck w W) (hF : ∀ i, A.foot i → i < w.heap.size) (hB : base ≤ w.heap.size) (v : Int) : Dq base A m { c with ep := v } pk nk ck w (W.setCell ⟨w.heap.size, 2, none⟩ (.int .i64 v)) := by
  have hb : CloC.But w.heap.size W (W.setCell ⟨w.heap.size, 2, none⟩ (.int .i64 v)) := (but_refl _ W).set_ 2 _
  exact ⟨⟨h.mn.p.kept hb.size (fun i hi => hb.block i (h.mn.p.lt hi) (fun e => by have := hF i hi; omega)) (fun i hi => hb.block i (Nat.lt_of_lt_of_le hi h.mn.p.size) (by omega)), h.mn.bel.trans ⟨hb.os, hb.tape, hb.output, hb.size, fun k hk => hb.block k (Nat.lt_of_lt_of_le hk h.mn.bel.size) (by omega)⟩⟩, blk_set h.bc, (hb.block _ (RecC.lt_of_some h.rs) (by omega)).trans h.rs⟩
theorem Trn.of_mn {W : World} (h : Pg base A m w) (hm : Mn base A m w W) : Trn base A m w W := Trn.still h hm.bel
set_option maxRecDepth 100000 in
set_option maxHeartbeats 8000000 in
theorem do_2 (h : Pg base A m w) (c : Cl) (pk : Option Addr) (nk ck : Nat) (hk : c.k = 2) :
    Calls Tryz.prog 27 #[.pointer (some ⟨A.y, 0, none⟩), .agg #[.int .i64 c.k, .int .i64 c.lb, .int .i64 c.ep, .int .i64 c.tm, .string ⟨c.da.toArray⟩, .string ⟨c.nm.toArray⟩, .slice pk nk ck]] w fun x w' => x = .returned (.agg (anA (doA m c))) ∧ Trn base A (doM m c) w w' := by
  obtain ⟨W1, hW1⟩ : ∃ W1, W1 = (w.alloc (.cells #[.int .i64 c.k, .int .i64 c.lb, .int .i64 c.ep, .int .i64 c.tm, .string ⟨c.da.toArray⟩, .string ⟨c.nm.toArray⟩, .slice pk nk ck] 35)).alloc (.cells #[.int .i64 0, .string ⟨#[]⟩, .int .i64 0, .int .i64 0, .int .i64 0, .int .i64 0, .int .i64 0, .int .i64 0] 39) := ⟨_, rfl⟩
  have QQ : Hid (Dq base A m c pk nk ck w W1) := Lib.hid (by rw [hW1]; exact dq_new h c pk nk ck)
  have HH := Lib.hid h
  have HF : Hid (∀ i, A.foot i → i < w.heap.size) := Lib.hid (fun i hi => h.lt hi)
  obtain ⟨k0, k1, k2, k3, k4, k5, k6⟩ := QQ.out.bc.cells
  have e : doA m c = rd m c.lb m.s.ep := by unfold doA; rw [if_pos hk]
  have ed : doM m c = m := MdO.refused (.inr (.inl hk))
  rw [e, ed]
  have HE := Lib.hid (fun W (h : Pg base A m W) => RetB.Epoch h.bk)
  have HR := Lib.hid (fun W (h : Pg base A m W) => read h c.lb m.s.ep)
  have HB := Lib.hid h.size
  have c4 := QQ.out.mn.p.cells.2.2.2.2.1
  have f2 : W1.frozen? ⟨w.heap.size, 2, none⟩ = false := blk_free QQ.out.bc
  have HZ : Hid ((rd m c.lb m.s.ep).st = sta0) := Lib.hid (by unfold rd; repeat' split
                                                              all_goals rfl)
  generalize rd m c.lb m.s.ep = y at *
  obtain ⟨ye, yd, ys⟩ := y
  obtain rfl : ys = sta0 := HZ.out
  dsimp only [anA, sta0] at HR ⊢
  clear HZ
  generalize m.s.ep = ep at *
  have q2 : (c.k == 2) = true := by simp [hk]
  clear h e ed hk
  go_enter Tryz.func27, Tryz.ntmps27
  go_upto_region 1 with (fail)
  rw [← hW1]
  clear hW1
  go_upto_region 6 with (go_at_call 42; refine (HE.out _ QQ.out.mn.p).mono ?_; rintro e _ ⟨rfl, rfl⟩)
  generalize hW : World.setCell _ _ _ = W2
  replace QQ := Lib.hid (show Dq base A m { c with ep := ep } pk nk ck w W2 by rw [← hW]; exact QQ.out.set2 HF.out HB.out ep)
  clear hW k0 k1 k2 k3 k4 k5 k6 c4 f2
  obtain ⟨k0, k1, k2, k3, k4, k5, k6⟩ := QQ.out.bc.cells
  dsimp only at k0 k1 k2 k3 k4 k5 k6
  go_wp2_with (first
    | (go_at_call 48; refine (HR.out _ QQ.out.mn.p).mono ?_; rintro e w3 ⟨rfl, hb⟩; replace QQ := Lib.hid (QQ.out.step hb); clear hb HR)
    | (refine wpList_store_row rfl 39 _ _ rfl (w.heap.size + 1) _ rfl rfl 39 _ QQ.out.rs infoA rfl (one8A ⟨ye, yd, sta0⟩) ?_))
  exact bodyPost_ret (v := .agg #[.int .i64 ye, .string ⟨yd.toArray⟩, .int .i64 0, .int .i64 0, .int .i64 0, .int .i64 0, .int .i64 0, .int .i64 0])
    (results_cell_row Tryz.results27 _ _ (w.heap.size + 1) 39 _ (0, 0) _ rfl (setRow_same QQ.out.rs) Tryz.underlying39 rfl infoA) rfl ⟨rfl, Trn.still HH.out (below_setRow QQ.out.mn.bel (by omega) _)⟩
set_option maxRecDepth 100000 in
set_option maxHeartbeats 8000000 in
theorem do_3 (h : Pg base A m w) (c : Cl) (pk : Option Addr) (nk ck : Nat) (hk : c.k = 3) :
    Calls Tryz.prog 27 #[.pointer (some ⟨A.y, 0, none⟩), .agg #[.int .i64 c.k, .int .i64 c.lb, .int .i64 c.ep, .int .i64 c.tm, .string ⟨c.da.toArray⟩, .string ⟨c.nm.toArray⟩, .slice pk nk ck]] w fun x w' => x = .returned (.agg (anA (doA m c))) ∧ Trn base A (doM m c) w w' := by
  obtain ⟨W1, hW1⟩ : ∃ W1, W1 = (w.alloc (.cells #[.int .i64 c.k, .int .i64 c.lb, .int .i64 c.ep, .int .i64 c.tm, .string ⟨c.da.toArray⟩, .string ⟨c.nm.toArray⟩, .slice pk nk ck] 35)).alloc (.cells #[.int .i64 0, .string ⟨#[]⟩, .int .i64 0, .int .i64 0, .int .i64 0, .int .i64 0, .int .i64 0, .int .i64 0] 39) := ⟨_, rfl⟩
  have QQ : Hid (Dq base A m c pk nk ck w W1) := Lib.hid (by rw [hW1]; exact dq_new h c pk nk ck)
  have HH := Lib.hid h
  have HF : Hid (∀ i, A.foot i → i < w.heap.size) := Lib.hid (fun i hi => h.lt hi)
  obtain ⟨k0, k1, k2, k3, k4, k5, k6⟩ := QQ.out.bc.cells
  have e : doA m c = rd m c.lb c.ep := by unfold doA; rw [if_neg (by omega), if_pos hk]
  have ed : doM m c = m := MdO.refused (.inr (.inr (.inl hk)))
  rw [e, ed]
  have HR := Lib.hid (fun W (h : Pg base A m W) => read h c.lb c.ep)
  have HZ : Hid ((rd m c.lb c.ep).st = sta0) := Lib.hid (by unfold rd; repeat' split
                                                            all_goals rfl)
  generalize rd m c.lb c.ep = y at *
  obtain ⟨ye, yd, ys⟩ := y
  obtain rfl : ys = sta0 := HZ.out
  dsimp only [anA, sta0] at HR ⊢
  clear HZ
  have q2 : (c.k == 2) = false := by simp [hk]
  have q3 : (c.k == 3) = true := by simp [hk]
  clear h e ed hk
  go_enter Tryz.func27, Tryz.ntmps27
  go_upto_region 1 with (fail)
  rw [← hW1]
  clear hW1
  go_wp2_with (first
    | (go_at_call 48; refine (HR.out _ QQ.out.mn.p).mono ?_; rintro e w3 ⟨rfl, hb⟩; replace QQ := Lib.hid (QQ.out.step hb); clear hb HR)
    | (refine wpList_store_row rfl 39 _ _ rfl (w.heap.size + 1) _ rfl rfl 39 _ QQ.out.rs infoA rfl (one8A ⟨ye, yd, sta0⟩) ?_))
  exact bodyPost_ret (v := .agg #[.int .i64 ye, .string ⟨yd.toArray⟩, .int .i64 0, .int .i64 0, .int .i64 0, .int .i64 0, .int .i64 0, .int .i64 0])
    (results_cell_row Tryz.results27 _ _ (w.heap.size + 1) 39 _ (0, 0) _ rfl (setRow_same QQ.out.rs) Tryz.underlying39 rfl infoA) rfl ⟨rfl, Trn.still HH.out (below_setRow QQ.out.mn.bel (by omega) _)⟩
set_option maxRecDepth 100000 in
set_option maxHeartbeats 8000000 in
theorem do_10 (h : Pg base A m w) (c : Cl) (pk : Option Addr) (nk ck : Nat) (hk : c.k = 10) :
    Calls Tryz.prog 27 #[.pointer (some ⟨A.y, 0, none⟩), .agg #[.int .i64 c.k, .int .i64 c.lb, .int .i64 c.ep, .int .i64 c.tm, .string ⟨c.da.toArray⟩, .string ⟨c.nm.toArray⟩, .slice pk nk ck]] w fun x w' => x = .returned (.agg (anA (doA m c))) ∧ Trn base A (doM m c) w w' := by
  obtain ⟨W1, hW1⟩ : ∃ W1, W1 = (w.alloc (.cells #[.int .i64 c.k, .int .i64 c.lb, .int .i64 c.ep, .int .i64 c.tm, .string ⟨c.da.toArray⟩, .string ⟨c.nm.toArray⟩, .slice pk nk ck] 35)).alloc (.cells #[.int .i64 0, .string ⟨#[]⟩, .int .i64 0, .int .i64 0, .int .i64 0, .int .i64 0, .int .i64 0, .int .i64 0] 39) := ⟨_, rfl⟩
  have QQ : Hid (Dq base A m c pk nk ck w W1) := Lib.hid (by rw [hW1]; exact dq_new h c pk nk ck)
  have HH := Lib.hid h
  have HF : Hid (∀ i, A.foot i → i < w.heap.size) := Lib.hid (fun i hi => h.lt hi)
  obtain ⟨k0, k1, k2, k3, k4, k5, k6⟩ := QQ.out.bc.cells
  have e : doA m c = ⟨0, [], sta m⟩ := by unfold doA; rw [if_neg (by omega), if_neg (by omega), if_pos hk]
  have ed : doM m c = m := MdO.refused (.inr (.inr (.inr (.inr hk))))
  rw [e, ed]
  have HR := Lib.hid (fun W (h : Pg base A m W) => stat h)
  generalize sta m = y at *
  dsimp only [anA, stA] at HR ⊢
  have q2 : (c.k == 2) = false := by simp [hk]
  have q3 : (c.k == 3) = false := by simp [hk]
  have q10 : (c.k == 10) = true := by simp [hk]
  clear h e ed hk
  go_enter Tryz.func27, Tryz.ntmps27
  go_upto_region 1 with (fail)
  rw [← hW1]
  clear hW1
  go_wp2_with (first
    | (go_at_call 49; refine (HR.out _ QQ.out.mn.p).mono ?_; rintro e w3 ⟨rfl, hb⟩; replace QQ := Lib.hid (QQ.out.step hb); clear hb HR)
    | (refine wpList_store_row rfl 39 _ _ rfl (w.heap.size + 1) _ rfl rfl 39 _ QQ.out.rs infoA rfl (one8A ⟨0, [], y⟩) ?_))
  exact bodyPost_ret (v := .agg #[.int .i64 0, .string ⟨#[]⟩, .int .i64 y.ep, .int .i64 y.ck, .int .i64 y.fr, .int .i64 y.rc, .int .i64 y.pl, .int .i64 y.ho])
    (results_cell_row Tryz.results27 _ _ (w.heap.size + 1) 39 _ (0, 0) _ rfl (setRow_same QQ.out.rs) Tryz.underlying39 rfl infoA) rfl ⟨rfl, Trn.still HH.out (below_setRow QQ.out.mn.bel (by omega) _)⟩
set_option maxRecDepth 100000 in
set_option maxHeartbeats 8000000 in
theorem do_0 (h : Pg base A m w) (c : Cl) (pk : Option Addr) (nk ck : Nat) (hk : ¬ (c.k = 2 ∨ c.k = 3 ∨ c.k = 10)) :
    Calls Tryz.prog 27 #[.pointer (some ⟨A.y, 0, none⟩), .agg #[.int .i64 c.k, .int .i64 c.lb, .int .i64 c.ep, .int .i64 c.tm, .string ⟨c.da.toArray⟩, .string ⟨c.nm.toArray⟩, .slice pk nk ck]] w fun x w' => x = .returned (.agg (anA (doA m c))) ∧ Trn base A (doM m c) w w' := by
  obtain ⟨W1, hW1⟩ : ∃ W1, W1 = (w.alloc (.cells #[.int .i64 c.k, .int .i64 c.lb, .int .i64 c.ep, .int .i64 c.tm, .string ⟨c.da.toArray⟩, .string ⟨c.nm.toArray⟩, .slice pk nk ck] 35)).alloc (.cells #[.int .i64 0, .string ⟨#[]⟩, .int .i64 0, .int .i64 0, .int .i64 0, .int .i64 0, .int .i64 0, .int .i64 0] 39) := ⟨_, rfl⟩
  have QQ : Hid (Dq base A m c pk nk ck w W1) := Lib.hid (by rw [hW1]; exact dq_new h c pk nk ck)
  have HH := Lib.hid h
  have HF : Hid (∀ i, A.foot i → i < w.heap.size) := Lib.hid (fun i hi => h.lt hi)
  obtain ⟨k0, k1, k2, k3, k4, k5, k6⟩ := QQ.out.bc.cells
  have e : doA m c = anE (doE m c) := by unfold doA; rw [if_neg (by omega), if_neg (by omega), if_neg (by omega)]
  rw [e]
  have HR := Lib.hid (fun W (h : Pg base A m W) => turn h c pk nk ck)
  have HB := Lib.hid h.size
  generalize doE m c = v at *
  generalize doM m c = m' at *
  dsimp only [anA, anE, sta0]
  have q2 : (c.k == 2) = false := by rw [beq_eq_false_iff_ne]; omega
  have q3 : (c.k == 3) = false := by rw [beq_eq_false_iff_ne]; omega
  have q10 : (c.k == 10) = false := by rw [beq_eq_false_iff_ne]; omega
  clear h e hk
  go_enter Tryz.func27, Tryz.ntmps27
  go_upto_region 1 with (fail)
  rw [← hW1]
  clear hW1
  obtain ⟨Q1, hQ1⟩ : ∃ Q1, Q1 = W1 := ⟨_, rfl⟩
  have QN := QQ
  rw [← hQ1] at QN
  have BE : Hid (∀ Q W, Dq base A m c pk nk ck w Q → Trn base A m' Q W → W.heap[w.heap.size + 1]? = some (.cells #[.int .i64 0, .string ⟨#[]⟩, .int .i64 0, .int .i64 0, .int .i64 0, .int .i64 0, .int .i64 0, .int .i64 0] 39 (0, 0)) ∧ Trn base A m' w (W.setRow (w.heap.size + 1) #[.int .i64 v, .string ⟨#[]⟩, .int .i64 0, .int .i64 0, .int .i64 0, .int .i64 0, .int .i64 0, .int .i64 0])) := Lib.hid (fun Q W hq ht => by
    have hnf : ¬ A.foot (w.heap.size + 1) := fun hi => by have := HF.out _ hi; omega
    have hl := RecC.lt_of_some hq.rs
    have hB := HB.out
    exact ⟨(ht.block _ hl hnf).trans hq.rs, Trn.row ht hl hnf (by omega) (by omega) hq.mn.bel _⟩)
  clear hQ1 QN
  go_wp2_with (first
    | (go_at_call 50; refine (HR.out _ QQ.out.mn.p).mono ?_; rintro e w3 ⟨rfl, ht⟩; have TT := Lib.hid (BE.out _ _ QQ.out ht); clear ht HR)
    | (refine wpList_store_row rfl 39 _ _ rfl (w.heap.size + 1) _ rfl rfl 39 _ TT.out.1 infoA rfl (one8A ⟨v, [], sta0⟩) ?_))
  exact bodyPost_ret (v := .agg #[.int .i64 v, .string ⟨#[]⟩, .int .i64 0, .int .i64 0, .int .i64 0, .int .i64 0, .int .i64 0, .int .i64 0])
    (results_cell_row Tryz.results27 _ _ (w.heap.size + 1) 39 _ (0, 0) _ rfl (setRow_same TT.out.1) Tryz.underlying39 rfl infoA) rfl ⟨rfl, TT.out.2⟩
theorem do_ (h : Pg base A m w) (c : Cl) (pk : Option Addr) (nk ck : Nat) :
    Calls Tryz.prog 27 #[.pointer (some ⟨A.y, 0, none⟩), .agg #[.int .i64 c.k, .int .i64 c.lb, .int .i64 c.ep, .int .i64 c.tm, .string ⟨c.da.toArray⟩, .string ⟨c.nm.toArray⟩, .slice pk nk ck]] w fun x w' => x = .returned (.agg (anA (doA m c))) ∧ Trn base A (doM m c) w w' := by
  by_cases h2 : c.k = 2
  · exact do_2 h c pk nk ck h2
  by_cases h3 : c.k = 3
  · exact do_3 h c pk nk ck h3
  by_cases h10 : c.k = 10
  · exact do_10 h c pk nk ck h10
  · exact do_0 h c pk nk ck (by omega)
set_option maxRecDepth 100000 in
set_option maxHeartbeats 16000000 in
/-- THE CONTRACT of Do. -/
theorem Do (h : Pg base A m w) (c : Cl) (pk : Option Addr) (nk ck : Nat) :
    Calls Tryz.prog 12 #[.pointer (some ⟨A.x, 0, none⟩), .agg #[.int .i64 c.k, .int .i64 c.lb, .int .i64 c.ep, .int .i64 c.tm, .string ⟨c.da.toArray⟩, .string ⟨c.nm.toArray⟩, .slice pk nk ck]] w fun x w' => x = .returned (.agg (anA (doA m c))) ∧ Trn base A (doM m c) w w' := by
  obtain ⟨W1, hW1⟩ : ∃ W1, W1 = (w.alloc (.cells #[.int .i64 c.k, .int .i64 c.lb, .int .i64 c.ep, .int .i64 c.tm, .string ⟨c.da.toArray⟩, .string ⟨c.nm.toArray⟩, .slice pk nk ck] 35)).alloc (.cells #[.int .i64 0, .string ⟨#[]⟩, .int .i64 0, .int .i64 0, .int .i64 0, .int .i64 0, .int .i64 0, .int .i64 0] 39) := ⟨_, rfl⟩
  have QQ : Hid (Dq base A m c pk nk ck w W1) := Lib.hid (by rw [hW1]; exact dq_new h c pk nk ck)
  have HH := Lib.hid h
  have HF : Hid (∀ i, A.foot i → i < w.heap.size) := Lib.hid (fun i hi => h.lt hi)
  obtain ⟨k0, k1, k2, k3, k4, k5, k6⟩ := QQ.out.bc.cells
  have HN := Lib.hid (fun W (h : Pg base A m W) => isNone_no h)
  have HR := Lib.hid (fun W (h : Pg base A m W) => do_ h c pk nk ck)
  have HB := Lib.hid h.size
  generalize doA m c = y at *
  generalize doM m c = m' at *
  have BE : Hid (∀ Q W, Dq base A m c pk nk ck w Q → Trn base A m' Q W → Bc W w.heap.size c pk nk ck ∧ W.heap[w.heap.size + 1]? = some (.cells #[.int .i64 0, .string ⟨#[]⟩, .int .i64 0, .int .i64 0, .int .i64 0, .int .i64 0, .int .i64 0, .int .i64 0] 39 (0, 0)) ∧ Trn base A m' w (W.setRow (w.heap.size + 1) #[.int .i64 y.er, .string ⟨y.da.toArray⟩, .int .i64 y.st.ep, .int .i64 y.st.ck, .int .i64 y.st.fr, .int .i64 y.st.rc, .int .i64 y.st.pl, .int .i64 y.st.ho]) ∧ Bc (W.setRow (w.heap.size + 1) #[.int .i64 y.er, .string ⟨y.da.toArray⟩, .int .i64 y.st.ep, .int .i64 y.st.ck, .int .i64 y.st.fr, .int .i64 y.st.rc, .int .i64 y.st.pl, .int .i64 y.st.ho]) w.heap.size c pk nk ck) := Lib.hid (fun Q W hq ht => by
    have hnf : ¬ A.foot (w.heap.size + 1) := fun hi => by have := HF.out _ hi; omega
    have hnc : ¬ A.foot w.heap.size := fun hi => by have := HF.out _ hi; omega
    have hl := RecC.lt_of_some hq.rs
    have hB := HB.out
    have hc : Bc W w.heap.size c pk nk ck := (ht.block _ hq.bc.lt hnc).trans hq.bc
    exact ⟨hc, (ht.block _ hl hnf).trans hq.rs, Trn.row ht hl hnf (by omega) (by omega) hq.mn.bel _, (setRow_other _ _ _ _ (by omega)).trans hc⟩)
  clear h
  dsimp only [anA] at HR ⊢
  go_enter Tryz.func12, Tryz.ntmps12
  go_upto_region 1 with (fail)
  rw [← hW1]
  clear hW1
  go_upto_region 3 with (go_at_call 26; refine (HN.out _ QQ.out.mn.p).mono ?_; rintro e _ ⟨rfl, rfl⟩)
  replace QQ := Lib.hid (QQ.out.step ((Below.refl _ _).drew))
  have hS := QQ.out.bc.cells
  have c0 := QQ.out.mn.p.xcell
  clear k0 k1 k2 k3 k4 k5 k6 HN
  refine wp_region_held_drew (S := fun W => W.cell? ⟨w.heap.size, 0, none⟩ = some (.int .i64 c.k) ∧ W.cell? ⟨w.heap.size, 1, none⟩ = some (.int .i64 c.lb) ∧ W.cell? ⟨w.heap.size, 2, none⟩ = some (.int .i64 c.ep) ∧ W.cell? ⟨w.heap.size, 3, none⟩ = some (.int .i64 c.tm) ∧ W.cell? ⟨w.heap.size, 4, none⟩ = some (.string ⟨c.da.toArray⟩) ∧ W.cell? ⟨w.heap.size, 5, none⟩ = some (.string ⟨c.nm.toArray⟩) ∧ W.cell? ⟨w.heap.size, 6, none⟩ = some (.slice pk nk ck)) (by kernel_rfl) hS (fun _ => ?_)
  change wpAnyH _ _ _ _ _ _ #[false, false, false, false, false, false, false] _ _
  refine wpAnyH_take (i := 0) (v := ?v1) (by rw [List.getElem?_toArray]; rfl) (by kernel_rfl) (by kernel_rfl) (by kernel_rfl) (by intro _ _ _ h; exact h) (Or.inl ⟨by rfl, ?hy1⟩) (by assumption) ?rest1
  case hy1 => (intro W hSW; (try dsimp only at hSW); go_simp; try with_reducible rfl)
  try simp only [Act.put, List.setIfInBounds_toArray, List.set_cons_zero, List.set_cons_succ]
  refine wpAnyH_take (i := 1) (v := ?v2) (by rw [List.getElem?_toArray]; rfl) (by kernel_rfl) (by kernel_rfl) (by kernel_rfl) (by intro _ _ _ h; exact h) (Or.inl ⟨by rfl, ?hy2⟩) (by assumption) ?rest2
  case hy2 => (intro W hSW; (try dsimp only at hSW); go_simp; try with_reducible rfl)
  try simp only [Act.put, List.setIfInBounds_toArray, List.set_cons_zero, List.set_cons_succ]
  refine wpAnyH_take (i := 2) (v := ?v3) (by rw [List.getElem?_toArray]; rfl) (by kernel_rfl) (by kernel_rfl) (by kernel_rfl) (by intro _ _ _ h; exact h) (Or.inl ⟨by rfl, ?hy3⟩) (by assumption) ?rest3
  case hy3 => (intro W hSW; (try dsimp only at hSW); go_simp; try with_reducible rfl)
  try simp only [Act.put, List.setIfInBounds_toArray, List.set_cons_zero, List.set_cons_succ]
  refine wpAnyH_take (i := 4) (v := ?v4) (by rw [List.getElem?_toArray]; rfl) (by kernel_rfl) (by kernel_rfl) (by kernel_rfl) (by intro _ _ _ h; exact h) (Or.inl ⟨by rfl, ?hy4⟩) (by assumption) ?rest4
  case hy4 => (intro W hSW; (try dsimp only at hSW); go_simp; try with_reducible rfl)
  try simp only [Act.put, List.setIfInBounds_toArray, List.set_cons_zero, List.set_cons_succ]
  refine wpAnyH_ready (rs := [3]) (by kernel_rfl) (by simp) (AllReadyH.cons (by rw [List.getElem?_toArray]; rfl) (fun K hK => ?_) AllReadyH.nil)
  go_simp
  refine hK.out _ _ hS (fun _ => ?_)
  clear hK K
  try simp only [List.setIfInBounds_toArray, List.set_cons_zero, List.set_cons_succ]
  refine wpAnyH_ready (rs := [5]) (by kernel_rfl) (by simp) (AllReadyH.cons (by rw [List.getElem?_toArray]; rfl) (fun K hK => ?_) AllReadyH.nil)
  go_simp
  refine (HR.out _ QQ.out.mn.p).mono ?_
  rintro e w3 ⟨rfl, ht⟩
  have TT := Lib.hid (BE.out _ _ QQ.out ht)
  have hS3 := TT.out.1.cells
  clear ht HR
  refine hK.out _ _ hS3 (fun _ => ?_)
  clear hK K
  try simp only [List.setIfInBounds_toArray, List.set_cons_zero, List.set_cons_succ]
  refine wpAnyH_ready (rs := [6]) (by kernel_rfl) (by simp) (AllReadyH.cons (by rw [List.getElem?_toArray]; rfl) (fun K hK => ?_) AllReadyH.nil)
  rw [if_pos (by rfl)]
  refine wp_store_row 39 _ _ rfl (w.heap.size + 1) #[.int .i64 y.er, .string ⟨y.da.toArray⟩, .int .i64 y.st.ep, .int .i64 y.st.ck, .int .i64 y.st.fr, .int .i64 y.st.rc, .int .i64 y.st.pl, .int .i64 y.st.ho] rfl rfl 39 #[.int .i64 0, .string ⟨#[]⟩, .int .i64 0, .int .i64 0, .int .i64 0, .int .i64 0, .int .i64 0, .int .i64 0] TT.out.2.1 infoA rfl (one8A y) ?_
  have hS4 := TT.out.2.2.2.cells
  refine hK.out _ _ hS4 (fun _ => ?_)
  clear hK K
  try simp only [List.setIfInBounds_toArray, List.set_cons_zero, List.set_cons_succ]
  refine wpAnyH_done (by kernel_rfl) ?_ _
  go_wp2
  exact bodyPost_ret (v := .agg #[.int .i64 y.er, .string ⟨y.da.toArray⟩, .int .i64 y.st.ep, .int .i64 y.st.ck, .int .i64 y.st.fr, .int .i64 y.st.rc, .int .i64 y.st.pl, .int .i64 y.st.ho])
    (results_cell_row Tryz.results12 _ _ (w.heap.size + 1) 39 _ (0, 0) _ rfl (setRow_same TT.out.2.1) Tryz.underlying39 rfl infoA) rfl ⟨rfl, TT.out.2.2.1⟩
end Go.Proofs.YtopnodkdpehdoaaGreatDoor.PgD
