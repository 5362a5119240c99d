/- PgU PgV PgH: one behind the other. -/
import Derived.Test.YtopnodkdpehdoaaGreatDoorLPgs
import Derived.Test.YtopnodkdpehdoaaGreatDoorShelf
/- The program's may and recordOf: the walks of their texts. No conditions but those that each lemma names. -/
namespace Go.Proofs.YtopnodkdpehdoaaGreatDoor.PgU
set_option linter.unusedVariables false
open Go.RowKit
open RecN RecC RetN RetC RetR DbN DbA MdN MdO MdC MdG PgN PgC PgI PgW PgX PgA PgR PgS PgM PgT
variable {base : Nat} {A : Pm} {m : Mo} {w : World}
/-- What of a call stands ahead of what the book says of its record. -/
def mayc (m : Mo) (c : Cl) : Int := if c.k = 7 ∧ isName c.nm = false then 2 else if c.k = 6 ∨ c.k = 7 ∨ c.k = 9 then there m c.ep true else 0
theorem bc_new (w : World) (c : Cl) (pk : Option Addr) (nk ck : Nat) : Bc (w.alloc (.cells #[.int .i64 c.k, .int .i64 c.lb, .int .i64 c.ep, .int .i64 c.tm, .string ⟨c.da.toArray⟩, .string ⟨c.nm.toArray⟩, .slice pk nk ck] 35)) w.heap.size c pk nk ck := heap_alloc_new w _
set_option maxRecDepth 100000 in
set_option maxHeartbeats 4000000 in
theorem may7n (h : Pg base A m w) (c : Cl) (pk : Option Addr) (nk ck : Nat) (hk : c.k = 7) (hn : isName c.nm = false) :
    Calls Tryz.prog 93 #[.pointer (some ⟨A.y, 0, none⟩), .agg #[.int .i64 c.k, .int .i64 c.lb, .int .i64 c.ep, .int .i64 c.tm, .string ⟨c.da.toArray⟩, .string ⟨c.nm.toArray⟩, .slice pk nk ck]] w fun x w' => x = .returned (.int .i64 (mayc m c)) ∧ Below w.heap.size w w' := by
  obtain ⟨W1, hW1⟩ : ∃ W1, W1 = w.alloc (.cells #[.int .i64 c.k, .int .i64 c.lb, .int .i64 c.ep, .int .i64 c.tm, .string ⟨c.da.toArray⟩, .string ⟨c.nm.toArray⟩, .slice pk nk ck] 35) := ⟨_, rfl⟩
  have BB : Hid (Below w.heap.size w W1) := Lib.hid (by rw [hW1]; exact below_new w _)
  have hBc : Bc W1 w.heap.size c pk nk ck := by rw [hW1]; exact bc_new w c pk nk ck
  obtain ⟨k0, k1, k2, k3, k4, k5, k6⟩ := hBc.cells
  have HC := Lib.hid (isClosed (h.step BB.out) c.ep)
  have HN := Lib.hid (RecP.Name c.nm W1)
  have HE : Hid (mayc m c = 2) := Lib.hid (by unfold mayc; rw [if_pos ⟨hk, hn⟩])
  have q7 : (c.k == 7) = true := by simp [hk]
  have q6 : (c.k == 6) = false := by simp [hk]
  have q9 : (c.k == 9) = false := by simp [hk]
  rw [hn] at HN
  clear hn
  clear h hBc hk
  rw [HE.out]
  clear HE
  go_enter Tryz.func93, Tryz.ntmps93
  go_upto_region 1 with (fail)
  rw [← hW1]
  clear hW1
  go_wp2_with (first
    | (go_at_call 109; refine HC.out.mono ?_; rintro e _ ⟨rfl, rfl⟩)
    | (go_at_call 108; refine HN.out.mono ?_; rintro e _ ⟨rfl, rfl⟩))
  go_ret
  exact ⟨rfl, BB.out⟩
set_option maxRecDepth 100000 in
set_option maxHeartbeats 4000000 in
theorem may7 (h : Pg base A m w) (c : Cl) (pk : Option Addr) (nk ck : Nat) (hk : c.k = 7) (hn : isName c.nm = true) :
    Calls Tryz.prog 93 #[.pointer (some ⟨A.y, 0, none⟩), .agg #[.int .i64 c.k, .int .i64 c.lb, .int .i64 c.ep, .int .i64 c.tm, .string ⟨c.da.toArray⟩, .string ⟨c.nm.toArray⟩, .slice pk nk ck]] w fun x w' => x = .returned (.int .i64 (mayc m c)) ∧ Below w.heap.size w w' := by
  obtain ⟨W1, hW1⟩ : ∃ W1, W1 = w.alloc (.cells #[.int .i64 c.k, .int .i64 c.lb, .int .i64 c.ep, .int .i64 c.tm, .string ⟨c.da.toArray⟩, .string ⟨c.nm.toArray⟩, .slice pk nk ck] 35) := ⟨_, rfl⟩
  have BB : Hid (Below w.heap.size w W1) := Lib.hid (by rw [hW1]; exact below_new w _)
  have hBc : Bc W1 w.heap.size c pk nk ck := by rw [hW1]; exact bc_new w c pk nk ck
  obtain ⟨k0, k1, k2, k3, k4, k5, k6⟩ := hBc.cells
  have HC := Lib.hid (isClosed (h.step BB.out) c.ep)
  have HN := Lib.hid (RecP.Name c.nm W1)
  have HE : Hid (mayc m c = there m c.ep true) := Lib.hid (by unfold mayc; rw [if_neg (fun hh => by rw [hn] at hh; exact absurd hh.2 (by decide)), if_pos (.inr (.inl hk))])
  have q7 : (c.k == 7) = true := by simp [hk]
  have q6 : (c.k == 6) = false := by simp [hk]
  have q9 : (c.k == 9) = false := by simp [hk]
  rw [hn] at HN
  clear hn
  clear h hBc hk
  rw [HE.out]
  clear HE
  generalize there m c.ep true = v at *
  go_enter Tryz.func93, Tryz.ntmps93
  go_upto_region 1 with (fail)
  rw [← hW1]
  clear hW1
  go_wp2_with (first
    | (go_at_call 109; refine HC.out.mono ?_; rintro e _ ⟨rfl, rfl⟩)
    | (go_at_call 108; refine HN.out.mono ?_; rintro e _ ⟨rfl, rfl⟩))
  go_ret
  exact ⟨rfl, BB.out⟩
set_option maxRecDepth 100000 in
set_option maxHeartbeats 4000000 in
theorem may6 (h : Pg base A m w) (c : Cl) (pk : Option Addr) (nk ck : Nat) (hk : c.k = 6) :
    Calls Tryz.prog 93 #[.pointer (some ⟨A.y, 0, none⟩), .agg #[.int .i64 c.k, .int .i64 c.lb, .int .i64 c.ep, .int .i64 c.tm, .string ⟨c.da.toArray⟩, .string ⟨c.nm.toArray⟩, .slice pk nk ck]] w fun x w' => x = .returned (.int .i64 (mayc m c)) ∧ Below w.heap.size w w' := by
  obtain ⟨W1, hW1⟩ : ∃ W1, W1 = w.alloc (.cells #[.int .i64 c.k, .int .i64 c.lb, .int .i64 c.ep, .int .i64 c.tm, .string ⟨c.da.toArray⟩, .string ⟨c.nm.toArray⟩, .slice pk nk ck] 35) := ⟨_, rfl⟩
  have BB : Hid (Below w.heap.size w W1) := Lib.hid (by rw [hW1]; exact below_new w _)
  have hBc : Bc W1 w.heap.size c pk nk ck := by rw [hW1]; exact bc_new w c pk nk ck
  obtain ⟨k0, k1, k2, k3, k4, k5, k6⟩ := hBc.cells
  have HC := Lib.hid (isClosed (h.step BB.out) c.ep)
  have HN := Lib.hid (RecP.Name c.nm W1)
  have HE : Hid (mayc m c = there m c.ep true) := Lib.hid (by unfold mayc; rw [if_neg (fun hh => by omega), if_pos (.inl hk)])
  have q7 : (c.k == 7) = false := by simp [hk]
  have q6 : (c.k == 6) = true := by simp [hk]
  have q9 : (c.k == 9) = false := by simp [hk]
  clear h hBc hk
  rw [HE.out]
  clear HE
  generalize there m c.ep true = v at *
  go_enter Tryz.func93, Tryz.ntmps93
  go_upto_region 1 with (fail)
  rw [← hW1]
  clear hW1
  go_wp2_with (first
    | (go_at_call 109; refine HC.out.mono ?_; rintro e _ ⟨rfl, rfl⟩)
    | (go_at_call 108; refine HN.out.mono ?_; rintro e _ ⟨rfl, rfl⟩))
  go_ret
  exact ⟨rfl, BB.out⟩
set_option maxRecDepth 100000 in
set_option maxHeartbeats 4000000 in
theorem may9 (h : Pg base A m w) (c : Cl) (pk : Option Addr) (nk ck : Nat) (hk : c.k = 9) :
    Calls Tryz.prog 93 #[.pointer (some ⟨A.y, 0, none⟩), .agg #[.int .i64 c.k, .int .i64 c.lb, .int .i64 c.ep, .int .i64 c.tm, .string ⟨c.da.toArray⟩, .string ⟨c.nm.toArray⟩, .slice pk nk ck]] w fun x w' => x = .returned (.int .i64 (mayc m c)) ∧ Below w.heap.size w w' := by
  obtain ⟨W1, hW1⟩ : ∃ W1, W1 = w.alloc (.cells #[.int .i64 c.k, .int .i64 c.lb, .int .i64 c.ep, .int .i64 c.tm, .string ⟨c.da.toArray⟩, .string ⟨c.nm.toArray⟩, .slice pk nk ck] 35) := ⟨_, rfl⟩
  have BB : Hid (Below w.heap.size w W1) := Lib.hid (by rw [hW1]; exact below_new w _)
  have hBc : Bc W1 w.heap.size c pk nk ck := by rw [hW1]; exact bc_new w c pk nk ck
  obtain ⟨k0, k1, k2, k3, k4, k5, k6⟩ := hBc.cells
  have HC := Lib.hid (isClosed (h.step BB.out) c.ep)
  have HN := Lib.hid (RecP.Name c.nm W1)
  have HE : Hid (mayc m c = there m c.ep true) := Lib.hid (by unfold mayc; rw [if_neg (fun hh => by omega), if_pos (.inr (.inr hk))])
  have q7 : (c.k == 7) = false := by simp [hk]
  have q6 : (c.k == 6) = false := by simp [hk]
  have q9 : (c.k == 9) = true := by simp [hk]
  clear h hBc hk
  rw [HE.out]
  clear HE
  generalize there m c.ep true = v at *
  go_enter Tryz.func93, Tryz.ntmps93
  go_upto_region 1 with (fail)
  rw [← hW1]
  clear hW1
  go_wp2_with (first
    | (go_at_call 109; refine HC.out.mono ?_; rintro e _ ⟨rfl, rfl⟩)
    | (go_at_call 108; refine HN.out.mono ?_; rintro e _ ⟨rfl, rfl⟩))
  go_ret
  exact ⟨rfl, BB.out⟩
set_option maxRecDepth 100000 in
set_option maxHeartbeats 4000000 in
theorem may8 (h : Pg base A m w) (c : Cl) (pk : Option Addr) (nk ck : Nat) (hk : c.k = 8) :
    Calls Tryz.prog 93 #[.pointer (some ⟨A.y, 0, none⟩), .agg #[.int .i64 c.k, .int .i64 c.lb, .int .i64 c.ep, .int .i64 c.tm, .string ⟨c.da.toArray⟩, .string ⟨c.nm.toArray⟩, .slice pk nk ck]] w fun x w' => x = .returned (.int .i64 (mayc m c)) ∧ Below w.heap.size w w' := by
  obtain ⟨W1, hW1⟩ : ∃ W1, W1 = w.alloc (.cells #[.int .i64 c.k, .int .i64 c.lb, .int .i64 c.ep, .int .i64 c.tm, .string ⟨c.da.toArray⟩, .string ⟨c.nm.toArray⟩, .slice pk nk ck] 35) := ⟨_, rfl⟩
  have BB : Hid (Below w.heap.size w W1) := Lib.hid (by rw [hW1]; exact below_new w _)
  have hBc : Bc W1 w.heap.size c pk nk ck := by rw [hW1]; exact bc_new w c pk nk ck
  obtain ⟨k0, k1, k2, k3, k4, k5, k6⟩ := hBc.cells
  have HC := Lib.hid (isClosed (h.step BB.out) c.ep)
  have HN := Lib.hid (RecP.Name c.nm W1)
  have HE : Hid (mayc m c = 0) := Lib.hid (by unfold mayc; rw [if_neg (fun hh => by omega), if_neg (fun hh => by omega)])
  have q7 : (c.k == 7) = false := by simp [hk]
  have q6 : (c.k == 6) = false := by simp [hk]
  have q9 : (c.k == 9) = false := by simp [hk]
  clear h hBc hk
  rw [HE.out]
  clear HE
  go_enter Tryz.func93, Tryz.ntmps93
  go_upto_region 1 with (fail)
  rw [← hW1]
  clear hW1
  go_wp2_with (first
    | (go_at_call 109; refine HC.out.mono ?_; rintro e _ ⟨rfl, rfl⟩)
    | (go_at_call 108; refine HN.out.mono ?_; rintro e _ ⟨rfl, rfl⟩))
  go_ret
  exact ⟨rfl, BB.out⟩
theorem may_ (h : Pg base A m w) (c : Cl) (pk : Option Addr) (nk ck : Nat) (hk : c.k = 6 ∨ c.k = 7 ∨ c.k = 8 ∨ c.k = 9) :
    Calls Tryz.prog 93 #[.pointer (some ⟨A.y, 0, none⟩), .agg #[.int .i64 c.k, .int .i64 c.lb, .int .i64 c.ep, .int .i64 c.tm, .string ⟨c.da.toArray⟩, .string ⟨c.nm.toArray⟩, .slice pk nk ck]] w fun x w' => x = .returned (.int .i64 (mayc m c)) ∧ Below w.heap.size w w' := by
  rcases hk with hk | hk | hk | hk
  · exact may6 h c pk nk ck hk
  · cases hn : isName c.nm with
    | false => exact may7n h c pk nk ck hk hn
    | true => exact may7 h c pk nk ck hk hn
  · exact may8 h c pk nk ck hk
  · exact may9 h c pk nk ck hk
/-- What stands while recordOf runs: the model, the call, the result's block, the record's. -/
structure Rq (base : Nat) (A : Pm) (m : Mo) (c : Cl) (pk : Option Addr) (nk ck : Nat) (w W : World) : Prop where
  mn : Mn base A m w W
  bc : Bc W w.heap.size c pk nk ck
  rs : Bk W (w.heap.size + 1) zero
  bs : base ≤ w.heap.size
theorem Rq.step {c : Cl} {pk : Option Addr} {nk ck : Nat} {W W' : World} (h : Rq base A m c pk nk ck w W) (hb : Below W.heap.size W W') : Rq base A m c pk nk ck w W' := ⟨h.mn.step hb, h.bc.step hb, h.rs.step hb, h.bs⟩
theorem Rq.other {c : Cl} {pk : Option Addr} {nk ck Y : Nat} {W W' : World} (h : Rq base A m c pk nk ck w W) (hY : w.heap.size + 1 < Y) (hw : A.foot Y → False) (hb : CloC.But Y W W') : Rq base A m c pk nk ck w W' := by
  have h1 := h.bc.lt
  have h2 := h.rs.lt
  have hl := h.mn.p.size
  have hs := h.bs
  exact ⟨⟨h.mn.p.kept hb.size (fun i hi => hb.block i (h.mn.p.lt hi) (fun e => hw (e ▸ hi))) (fun i hi => hb.block i (Nat.lt_of_lt_of_le hi hl) (by omega)), h.mn.bel.trans ⟨hb.os, hb.tape, hb.output, hb.size, fun k hk => hb.block k (Nat.lt_of_lt_of_le hk h.mn.bel.size) (by omega)⟩⟩, (hb.block _ h1 (by omega)).trans h.bc, (hb.block _ h2 (by omega)).trans h.rs, hs⟩
theorem rq_new (h : Pg base A m w) (c : Cl) (pk : Option Addr) (nk ck : Nat) : Rq base A m c pk nk ck w ((w.alloc (.cells #[.int .i64 c.k, .int .i64 c.lb, .int .i64 c.ep, .int .i64 c.tm, .string ⟨c.da.toArray⟩, .string ⟨c.nm.toArray⟩, .slice pk nk ck] 35)).alloc (.cells #[.int .i64 0, .int .i64 0, .int .i64 0, .int .i64 0, .int .i64 0, .int .i64 0, .string ⟨#[]⟩, .string ⟨#[]⟩] 82)) := by
  have b1 : Below w.heap.size w (w.alloc (.cells #[.int .i64 c.k, .int .i64 c.lb, .int .i64 c.ep, .int .i64 c.tm, .string ⟨c.da.toArray⟩, .string ⟨c.nm.toArray⟩, .slice pk nk ck] 35)) := below_new w _
  have b2 := below_new (w.alloc (.cells #[.int .i64 c.k, .int .i64 c.lb, .int .i64 c.ep, .int .i64 c.tm, .string ⟨c.da.toArray⟩, .string ⟨c.nm.toArray⟩, .slice pk nk ck] 35)) (.cells #[.int .i64 0, .int .i64 0, .int .i64 0, .int .i64 0, .int .i64 0, .int .i64 0, .string ⟨#[]⟩, .string ⟨#[]⟩] 82)
  refine ⟨(mn_new h).step b1 |>.step b2, (bc_new w c pk nk ck).step b2, ?_, h.size⟩
  have := heap_alloc_new (w.alloc (.cells #[.int .i64 c.k, .int .i64 c.lb, .int .i64 c.ep, .int .i64 c.tm, .string ⟨c.da.toArray⟩, .string ⟨c.nm.toArray⟩, .slice pk nk ck] 35)) (.cells #[.int .i64 0, .int .i64 0, .int .i64 0, .int .i64 0, .int .i64 0, .int .i64 0, .string ⟨#[]⟩, .string ⟨#[]⟩] 82)
  rw [World.size_alloc] at this
  exact this
theorem but_refl (Y : Nat) (W : World) : CloC.But Y W W := ⟨rfl, rfl, rfl, Nat.le_refl _, fun _ _ _ => rfl⟩
set_option maxRecDepth 100000 in
set_option maxHeartbeats 8000000 in
theorem rec6 (h : Pg base A m w) (c : Cl) (pk : Option Addr) (nk ck : Nat) (hk : c.k = 6) :
    Calls Tryz.prog 94 #[.pointer (some ⟨A.y, 0, none⟩), .agg #[.int .i64 c.k, .int .i64 c.lb, .int .i64 c.ep, .int .i64 c.tm, .string ⟨c.da.toArray⟩, .string ⟨c.nm.toArray⟩, .slice pk nk ck]] w fun x w' => x = .returned (.agg #[.int .i64 (stamp m (slR m c)).k, .int .i64 (stamp m (slR m c)).ep, .int .i64 (stamp m (slR m c)).tm, .int .i64 (stamp m (slR m c)).ct, .int .i64 (stamp m (slR m c)).tg, .int .i64 (stamp m (slR m c)).un, .string ⟨(stamp m (slR m c)).rt.toArray⟩, .string ⟨(stamp m (slR m c)).nm.toArray⟩]) ∧ Below w.heap.size w w' := by
  obtain ⟨W1, hW1⟩ : ∃ W1, W1 = (w.alloc (.cells #[.int .i64 c.k, .int .i64 c.lb, .int .i64 c.ep, .int .i64 c.tm, .string ⟨c.da.toArray⟩, .string ⟨c.nm.toArray⟩, .slice pk nk ck] 35)).alloc (.cells #[.int .i64 0, .int .i64 0, .int .i64 0, .int .i64 0, .int .i64 0, .int .i64 0, .string ⟨#[]⟩, .string ⟨#[]⟩] 82) := ⟨_, rfl⟩
  have QQ : Hid (Rq base A m c pk nk ck w W1) := Lib.hid (by rw [hW1]; exact rq_new h c pk nk ck)
  have HB := Lib.hid (fun W (h : Pg base A m W) => PgS.blank h)
  have e0 : slR m c = ⟨2, 0, 0, 0, c.ep, c.tm, [], []⟩ := by unfold slR; rw [if_neg (by omega), if_pos hk]
  have e1 : stamp m (slR m c) = ⟨2, m.s.ep, m.ck, 0, c.ep, c.tm, [], []⟩ := by rw [e0]; rfl
  rw [e1]
  have q6 : (c.k == 6) = true := by simp [hk]
  have q7 : (c.k == 7) = false := by simp [hk]
  have q8 : (c.k == 8) = false := by simp [hk]
  have q9 : (c.k == 9) = false := by simp [hk]
  have HF := Lib.hid (fun i (hi : A.foot i) => h.lt hi)
  clear h hk e0 e1
  obtain ⟨ep, hep⟩ : ∃ ep, m.s.ep = ep := ⟨_, rfl⟩
  obtain ⟨cl, hcl⟩ : ∃ cl, m.ck = cl := ⟨_, rfl⟩
  rw [hep, hcl] at HB ⊢
  clear hep hcl
  go_enter Tryz.func94, Tryz.ntmps94
  go_upto_region 1 with (fail)
  rw [← hW1]
  clear hW1
  go_upto_region 2 with (first
    | (go_at_call 90; refine (HB.out _ QQ.out.mn.p).mono ?_; rintro e w1 ⟨rfl, hb⟩; replace QQ := Lib.hid (QQ.out.step hb); clear hb HB)
    | (refine wpList_store_row rfl 82 _ _ rfl w1.heap.size _ rfl rfl 82 _ (heap_alloc_new w1 _) infoR rfl (one8 ⟨0, ep, cl, 0, 0, 0, [], []⟩) ?_))
  generalize hW : World.setRow _ _ _ = W2
  have hY : w.heap.size + 1 < w1.heap.size := QQ.out.rs.lt
  replace QQ := Lib.hid (QQ.out.step (show Below w1.heap.size w1 W2 by rw [← hW]; exact kept_new w1 _ _ _))
  have RB : Hid (Bk W2 w1.heap.size ⟨0, ep, cl, 0, 0, 0, [], []⟩) := Lib.hid (by rw [← hW]; exact has_new w1 _ _ _)
  clear hW
  generalize w1.heap.size = Y at *
  have HNF : Hid (A.foot Y → False) := Lib.hid (fun hi => by have := HF.out Y hi; omega)
  obtain ⟨k0, k1, k2, k3, k4, k5, k6⟩ := QQ.out.bc.cells
  go_upto_region 4 with (fail)
  have r0 : W2.cell? ⟨Y, 0, none⟩ = some (.int .i64 0) := blk_cell RB.out rfl
  have f0 : W2.frozen? ⟨Y, 0, none⟩ = false := blk_free RB.out
  have r4 : W2.cell? ⟨Y, 4, none⟩ = some (.int .i64 0) := blk_cell RB.out rfl
  have f4 : W2.frozen? ⟨Y, 4, none⟩ = false := blk_free RB.out
  have r5 : W2.cell? ⟨Y, 5, none⟩ = some (.int .i64 0) := blk_cell RB.out rfl
  have f5 : W2.frozen? ⟨Y, 5, none⟩ = false := blk_free RB.out
  go_region
  generalize hW : World.setCell _ _ _ = W5
  have BU : Hid (CloC.But Y _ W5) := Lib.hid (by rw [← hW]; exact ((((but_refl Y _).set_ 0 _).set_ 4 _).set_ 5 _))
  have R5 : Hid (Bk W5 Y ⟨2, ep, cl, 0, c.ep, c.tm, [], []⟩) := Lib.hid (by rw [← hW]; exact (blk_set (blk_set (blk_set RB.out))))
  replace QQ := Lib.hid (QQ.out.other hY HNF.out BU.out)
  clear hW BU RB k0 k1 k2 k3 k4 k5 k6 r0 f0 r4 f4 r5 f5
  obtain ⟨k0, k1, k2, k3, k4, k5, k6⟩ := R5.out.cells
  go_wp2_with (refine wpList_store_row rfl 82 _ _ rfl (w.heap.size + 1) _ rfl rfl 82 _ QQ.out.rs infoR rfl (one8 ⟨2, ep, cl, 0, c.ep, c.tm, [], []⟩) ?_)
  exact bodyPost_ret (v := .agg #[.int .i64 2, .int .i64 ep, .int .i64 cl, .int .i64 0, .int .i64 c.ep, .int .i64 c.tm, .string ⟨#[]⟩, .string ⟨#[]⟩])
    (results_cell_row Tryz.results94 _ _ (w.heap.size + 1) 82 _ (0, 0) _ rfl (setRow_same QQ.out.rs) Tryz.underlying82 rfl infoR) rfl ⟨rfl, below_setRow QQ.out.mn.bel.drew (by omega) _⟩
set_option maxRecDepth 100000 in
set_option maxHeartbeats 8000000 in
theorem rec7 (h : Pg base A m w) (c : Cl) (pk : Option Addr) (nk ck : Nat) (hk : c.k = 7) :
    Calls Tryz.prog 94 #[.pointer (some ⟨A.y, 0, none⟩), .agg #[.int .i64 c.k, .int .i64 c.lb, .int .i64 c.ep, .int .i64 c.tm, .string ⟨c.da.toArray⟩, .string ⟨c.nm.toArray⟩, .slice pk nk ck]] w fun x w' => x = .returned (.agg #[.int .i64 (stamp m (slR m c)).k, .int .i64 (stamp m (slR m c)).ep, .int .i64 (stamp m (slR m c)).tm, .int .i64 (stamp m (slR m c)).ct, .int .i64 (stamp m (slR m c)).tg, .int .i64 (stamp m (slR m c)).un, .string ⟨(stamp m (slR m c)).rt.toArray⟩, .string ⟨(stamp m (slR m c)).nm.toArray⟩]) ∧ Below w.heap.size w w' := by
  obtain ⟨W1, hW1⟩ : ∃ W1, W1 = (w.alloc (.cells #[.int .i64 c.k, .int .i64 c.lb, .int .i64 c.ep, .int .i64 c.tm, .string ⟨c.da.toArray⟩, .string ⟨c.nm.toArray⟩, .slice pk nk ck] 35)).alloc (.cells #[.int .i64 0, .int .i64 0, .int .i64 0, .int .i64 0, .int .i64 0, .int .i64 0, .string ⟨#[]⟩, .string ⟨#[]⟩] 82) := ⟨_, rfl⟩
  have QQ : Hid (Rq base A m c pk nk ck w W1) := Lib.hid (by rw [hW1]; exact rq_new h c pk nk ck)
  have HB := Lib.hid (fun W (h : Pg base A m W) => PgS.blank h)
  have e0 : slR m c = ⟨3, 0, 0, 0, c.ep, 0, [], c.nm⟩ := by unfold slR; rw [if_neg (by omega), if_neg (by omega), if_pos hk]
  have e1 : stamp m (slR m c) = ⟨3, m.s.ep, m.ck, 0, c.ep, 0, [], c.nm⟩ := by rw [e0]; rfl
  rw [e1]
  have q6 : (c.k == 6) = false := by simp [hk]
  have q7 : (c.k == 7) = true := by simp [hk]
  have q8 : (c.k == 8) = false := by simp [hk]
  have q9 : (c.k == 9) = false := by simp [hk]
  have HF := Lib.hid (fun i (hi : A.foot i) => h.lt hi)
  clear h hk e0 e1
  obtain ⟨ep, hep⟩ : ∃ ep, m.s.ep = ep := ⟨_, rfl⟩
  obtain ⟨cl, hcl⟩ : ∃ cl, m.ck = cl := ⟨_, rfl⟩
  rw [hep, hcl] at HB ⊢
  clear hep hcl
  go_enter Tryz.func94, Tryz.ntmps94
  go_upto_region 1 with (fail)
  rw [← hW1]
  clear hW1
  go_upto_region 2 with (first
    | (go_at_call 90; refine (HB.out _ QQ.out.mn.p).mono ?_; rintro e w1 ⟨rfl, hb⟩; replace QQ := Lib.hid (QQ.out.step hb); clear hb HB)
    | (refine wpList_store_row rfl 82 _ _ rfl w1.heap.size _ rfl rfl 82 _ (heap_alloc_new w1 _) infoR rfl (one8 ⟨0, ep, cl, 0, 0, 0, [], []⟩) ?_))
  generalize hW : World.setRow _ _ _ = W2
  have hY : w.heap.size + 1 < w1.heap.size := QQ.out.rs.lt
  replace QQ := Lib.hid (QQ.out.step (show Below w1.heap.size w1 W2 by rw [← hW]; exact kept_new w1 _ _ _))
  have RB : Hid (Bk W2 w1.heap.size ⟨0, ep, cl, 0, 0, 0, [], []⟩) := Lib.hid (by rw [← hW]; exact has_new w1 _ _ _)
  clear hW
  generalize w1.heap.size = Y at *
  have HNF : Hid (A.foot Y → False) := Lib.hid (fun hi => by have := HF.out Y hi; omega)
  obtain ⟨k0, k1, k2, k3, k4, k5, k6⟩ := QQ.out.bc.cells
  go_upto_region 6 with (fail)
  have r0 : W2.cell? ⟨Y, 0, none⟩ = some (.int .i64 0) := blk_cell RB.out rfl
  have f0 : W2.frozen? ⟨Y, 0, none⟩ = false := blk_free RB.out
  have r4 : W2.cell? ⟨Y, 4, none⟩ = some (.int .i64 0) := blk_cell RB.out rfl
  have f4 : W2.frozen? ⟨Y, 4, none⟩ = false := blk_free RB.out
  have r7 : W2.cell? ⟨Y, 7, none⟩ = some (.string ⟨#[]⟩) := blk_cell RB.out rfl
  have f7 : W2.frozen? ⟨Y, 7, none⟩ = false := blk_free RB.out
  go_region
  generalize hW : World.setCell _ _ _ = W5
  have BU : Hid (CloC.But Y _ W5) := Lib.hid (by rw [← hW]; exact ((((but_refl Y _).set_ 0 _).set_ 4 _).set_ 7 _))
  have R5 : Hid (Bk W5 Y ⟨3, ep, cl, 0, c.ep, 0, [], c.nm⟩) := Lib.hid (by rw [← hW]; exact (blk_set (blk_set (blk_set RB.out))))
  replace QQ := Lib.hid (QQ.out.other hY HNF.out BU.out)
  clear hW BU RB k0 k1 k2 k3 k4 k5 k6 r0 f0 r4 f4 r7 f7
  obtain ⟨k0, k1, k2, k3, k4, k5, k6⟩ := R5.out.cells
  go_wp2_with (refine wpList_store_row rfl 82 _ _ rfl (w.heap.size + 1) _ rfl rfl 82 _ QQ.out.rs infoR rfl (one8 ⟨3, ep, cl, 0, c.ep, 0, [], c.nm⟩) ?_)
  exact bodyPost_ret (v := .agg #[.int .i64 3, .int .i64 ep, .int .i64 cl, .int .i64 0, .int .i64 c.ep, .int .i64 0, .string ⟨#[]⟩, .string ⟨c.nm.toArray⟩])
    (results_cell_row Tryz.results94 _ _ (w.heap.size + 1) 82 _ (0, 0) _ rfl (setRow_same QQ.out.rs) Tryz.underlying82 rfl infoR) rfl ⟨rfl, below_setRow QQ.out.mn.bel.drew (by omega) _⟩
set_option maxRecDepth 100000 in
set_option maxHeartbeats 8000000 in
theorem rec8 (h : Pg base A m w) (c : Cl) (pk : Option Addr) (nk ck : Nat) (hk : c.k = 8) :
    Calls Tryz.prog 94 #[.pointer (some ⟨A.y, 0, none⟩), .agg #[.int .i64 c.k, .int .i64 c.lb, .int .i64 c.ep, .int .i64 c.tm, .string ⟨c.da.toArray⟩, .string ⟨c.nm.toArray⟩, .slice pk nk ck]] w fun x w' => x = .returned (.agg #[.int .i64 (stamp m (slR m c)).k, .int .i64 (stamp m (slR m c)).ep, .int .i64 (stamp m (slR m c)).tm, .int .i64 (stamp m (slR m c)).ct, .int .i64 (stamp m (slR m c)).tg, .int .i64 (stamp m (slR m c)).un, .string ⟨(stamp m (slR m c)).rt.toArray⟩, .string ⟨(stamp m (slR m c)).nm.toArray⟩]) ∧ Below w.heap.size w w' := by
  obtain ⟨W1, hW1⟩ : ∃ W1, W1 = (w.alloc (.cells #[.int .i64 c.k, .int .i64 c.lb, .int .i64 c.ep, .int .i64 c.tm, .string ⟨c.da.toArray⟩, .string ⟨c.nm.toArray⟩, .slice pk nk ck] 35)).alloc (.cells #[.int .i64 0, .int .i64 0, .int .i64 0, .int .i64 0, .int .i64 0, .int .i64 0, .string ⟨#[]⟩, .string ⟨#[]⟩] 82) := ⟨_, rfl⟩
  have QQ : Hid (Rq base A m c pk nk ck w W1) := Lib.hid (by rw [hW1]; exact rq_new h c pk nk ck)
  have HB := Lib.hid (fun W (h : Pg base A m W) => PgS.blank h)
  have e0 : slR m c = ⟨4, 0, 0, 0, 0, 0, [], c.nm⟩ := by unfold slR; rw [if_pos hk]
  have e1 : stamp m (slR m c) = ⟨4, m.s.ep, m.ck, 0, 0, 0, [], c.nm⟩ := by rw [e0]; rfl
  rw [e1]
  have q6 : (c.k == 6) = false := by simp [hk]
  have q7 : (c.k == 7) = false := by simp [hk]
  have q8 : (c.k == 8) = true := by simp [hk]
  have q9 : (c.k == 9) = false := by simp [hk]
  have HF := Lib.hid (fun i (hi : A.foot i) => h.lt hi)
  clear h hk e0 e1
  obtain ⟨ep, hep⟩ : ∃ ep, m.s.ep = ep := ⟨_, rfl⟩
  obtain ⟨cl, hcl⟩ : ∃ cl, m.ck = cl := ⟨_, rfl⟩
  rw [hep, hcl] at HB ⊢
  clear hep hcl
  go_enter Tryz.func94, Tryz.ntmps94
  go_upto_region 1 with (fail)
  rw [← hW1]
  clear hW1
  go_upto_region 2 with (first
    | (go_at_call 90; refine (HB.out _ QQ.out.mn.p).mono ?_; rintro e w1 ⟨rfl, hb⟩; replace QQ := Lib.hid (QQ.out.step hb); clear hb HB)
    | (refine wpList_store_row rfl 82 _ _ rfl w1.heap.size _ rfl rfl 82 _ (heap_alloc_new w1 _) infoR rfl (one8 ⟨0, ep, cl, 0, 0, 0, [], []⟩) ?_))
  generalize hW : World.setRow _ _ _ = W2
  have hY : w.heap.size + 1 < w1.heap.size := QQ.out.rs.lt
  replace QQ := Lib.hid (QQ.out.step (show Below w1.heap.size w1 W2 by rw [← hW]; exact kept_new w1 _ _ _))
  have RB : Hid (Bk W2 w1.heap.size ⟨0, ep, cl, 0, 0, 0, [], []⟩) := Lib.hid (by rw [← hW]; exact has_new w1 _ _ _)
  clear hW
  generalize w1.heap.size = Y at *
  have HNF : Hid (A.foot Y → False) := Lib.hid (fun hi => by have := HF.out Y hi; omega)
  obtain ⟨k0, k1, k2, k3, k4, k5, k6⟩ := QQ.out.bc.cells
  go_upto_region 8 with (fail)
  have r0 : W2.cell? ⟨Y, 0, none⟩ = some (.int .i64 0) := blk_cell RB.out rfl
  have f0 : W2.frozen? ⟨Y, 0, none⟩ = false := blk_free RB.out
  have r7 : W2.cell? ⟨Y, 7, none⟩ = some (.string ⟨#[]⟩) := blk_cell RB.out rfl
  have f7 : W2.frozen? ⟨Y, 7, none⟩ = false := blk_free RB.out
  go_region
  generalize hW : World.setCell _ _ _ = W5
  have BU : Hid (CloC.But Y _ W5) := Lib.hid (by rw [← hW]; exact (((but_refl Y _).set_ 0 _).set_ 7 _))
  have R5 : Hid (Bk W5 Y ⟨4, ep, cl, 0, 0, 0, [], c.nm⟩) := Lib.hid (by rw [← hW]; exact (blk_set (blk_set RB.out)))
  replace QQ := Lib.hid (QQ.out.other hY HNF.out BU.out)
  clear hW BU RB k0 k1 k2 k3 k4 k5 k6 r0 f0 r7 f7
  obtain ⟨k0, k1, k2, k3, k4, k5, k6⟩ := R5.out.cells
  go_wp2_with (refine wpList_store_row rfl 82 _ _ rfl (w.heap.size + 1) _ rfl rfl 82 _ QQ.out.rs infoR rfl (one8 ⟨4, ep, cl, 0, 0, 0, [], c.nm⟩) ?_)
  exact bodyPost_ret (v := .agg #[.int .i64 4, .int .i64 ep, .int .i64 cl, .int .i64 0, .int .i64 0, .int .i64 0, .string ⟨#[]⟩, .string ⟨c.nm.toArray⟩])
    (results_cell_row Tryz.results94 _ _ (w.heap.size + 1) 82 _ (0, 0) _ rfl (setRow_same QQ.out.rs) Tryz.underlying82 rfl infoR) rfl ⟨rfl, below_setRow QQ.out.mn.bel.drew (by omega) _⟩
set_option maxRecDepth 100000 in
set_option maxHeartbeats 8000000 in
theorem rec9 (h : Pg base A m w) (c : Cl) (pk : Option Addr) (nk ck : Nat) (hk : c.k = 9) (hw : Wf c.ep) :
    Calls Tryz.prog 94 #[.pointer (some ⟨A.y, 0, none⟩), .agg #[.int .i64 c.k, .int .i64 c.lb, .int .i64 c.ep, .int .i64 c.tm, .string ⟨c.da.toArray⟩, .string ⟨c.nm.toArray⟩, .slice pk nk ck]] w fun x w' => x = .returned (.agg #[.int .i64 (stamp m (slR m c)).k, .int .i64 (stamp m (slR m c)).ep, .int .i64 (stamp m (slR m c)).tm, .int .i64 (stamp m (slR m c)).ct, .int .i64 (stamp m (slR m c)).tg, .int .i64 (stamp m (slR m c)).un, .string ⟨(stamp m (slR m c)).rt.toArray⟩, .string ⟨(stamp m (slR m c)).nm.toArray⟩]) ∧ Below w.heap.size w w' := by
  obtain ⟨W1, hW1⟩ : ∃ W1, W1 = (w.alloc (.cells #[.int .i64 c.k, .int .i64 c.lb, .int .i64 c.ep, .int .i64 c.tm, .string ⟨c.da.toArray⟩, .string ⟨c.nm.toArray⟩, .slice pk nk ck] 35)).alloc (.cells #[.int .i64 0, .int .i64 0, .int .i64 0, .int .i64 0, .int .i64 0, .int .i64 0, .string ⟨#[]⟩, .string ⟨#[]⟩] 82) := ⟨_, rfl⟩
  have QQ : Hid (Rq base A m c pk nk ck w W1) := Lib.hid (by rw [hW1]; exact rq_new h c pk nk ck)
  have HB := Lib.hid (fun W (h : Pg base A m W) => PgS.blank h)
  have e0 : slR m c = ⟨5, 0, 0, 0, c.ep, m.s.un c.ep, [], []⟩ := by unfold slR; rw [if_neg (by omega), if_neg (by omega), if_neg (by omega)]
  have e1 : stamp m (slR m c) = ⟨5, m.s.ep, m.ck, 0, c.ep, m.s.un c.ep, [], []⟩ := by rw [e0]; rfl
  rw [e1]
  have q6 : (c.k == 6) = false := by simp [hk]
  have q7 : (c.k == 7) = false := by simp [hk]
  have q8 : (c.k == 8) = false := by simp [hk]
  have q9 : (c.k == 9) = true := by simp [hk]
  have HU := Lib.hid (fun W (h : Book A.a m.s W) => RetB.Until h c.ep hw)
  obtain ⟨un, hun⟩ : ∃ un, m.s.un c.ep = un := ⟨_, rfl⟩
  rw [hun] at HU ⊢
  clear hun hw
  have HF := Lib.hid (fun i (hi : A.foot i) => h.lt hi)
  clear h hk e0 e1
  obtain ⟨ep, hep⟩ : ∃ ep, m.s.ep = ep := ⟨_, rfl⟩
  obtain ⟨cl, hcl⟩ : ∃ cl, m.ck = cl := ⟨_, rfl⟩
  rw [hep, hcl] at HB ⊢
  clear hep hcl
  go_enter Tryz.func94, Tryz.ntmps94
  go_upto_region 1 with (fail)
  rw [← hW1]
  clear hW1
  go_upto_region 2 with (first
    | (go_at_call 90; refine (HB.out _ QQ.out.mn.p).mono ?_; rintro e w1 ⟨rfl, hb⟩; replace QQ := Lib.hid (QQ.out.step hb); clear hb HB)
    | (refine wpList_store_row rfl 82 _ _ rfl w1.heap.size _ rfl rfl 82 _ (heap_alloc_new w1 _) infoR rfl (one8 ⟨0, ep, cl, 0, 0, 0, [], []⟩) ?_))
  generalize hW : World.setRow _ _ _ = W2
  have hY : w.heap.size + 1 < w1.heap.size := QQ.out.rs.lt
  replace QQ := Lib.hid (QQ.out.step (show Below w1.heap.size w1 W2 by rw [← hW]; exact kept_new w1 _ _ _))
  have RB : Hid (Bk W2 w1.heap.size ⟨0, ep, cl, 0, 0, 0, [], []⟩) := Lib.hid (by rw [← hW]; exact has_new w1 _ _ _)
  clear hW
  generalize w1.heap.size = Y at *
  have HNF : Hid (A.foot Y → False) := Lib.hid (fun hi => by have := HF.out Y hi; omega)
  obtain ⟨k0, k1, k2, k3, k4, k5, k6⟩ := QQ.out.bc.cells
  go_upto_region 10 with (fail)
  have Q3 : Hid (Rq base A m c pk nk ck w (((W2.setCell ⟨Y, 0, none⟩ (.int .i64 5)).setCell ⟨Y, 4, none⟩ (.int .i64 c.ep)).setCell ⟨Y, 5, none⟩ (.int .i64 un))) := Lib.hid (QQ.out.other hY HNF.out ((((but_refl Y W2).set_ 0 _).set_ 4 _).set_ 5 _))
  replace QQ := Lib.hid (QQ.out.step ((Below.refl _ _).drew))
  replace RB := Lib.hid (RB.out.step ((Below.refl _ _).drew))
  have HS : Hid (∀ W, Rq base A m c pk nk ck w W → W.cell? ⟨A.y, 4, none⟩ = some (.pointer (some ⟨A.a.b, 0, none⟩)) ∧ W.cell? ⟨w.heap.size, 2, none⟩ = some (.int .i64 c.ep)) := Lib.hid (fun W h => ⟨h.mn.p.cells.2.2.2.2.1, h.bc.cells.2.2.1⟩)
  have hS := HS.out _ QQ.out
  clear k0 k1 k2 k3 k4 k5 k6
  obtain ⟨W3, hW3⟩ : ∃ W3, W3 = W2.drew := ⟨_, rfl⟩
  rw [← hW3] at QQ RB hS
  have r0 : W3.cell? ⟨Y, 0, none⟩ = some (.int .i64 0) := blk_cell RB.out rfl
  have f0 : W3.frozen? ⟨Y, 0, none⟩ = false := blk_free RB.out
  have r4 : W3.cell? ⟨Y, 4, none⟩ = some (.int .i64 0) := blk_cell RB.out rfl
  have f4 : W3.frozen? ⟨Y, 4, none⟩ = false := blk_free RB.out
  have r5 : W3.cell? ⟨Y, 5, none⟩ = some (.int .i64 0) := blk_cell RB.out rfl
  have f5 : W3.frozen? ⟨Y, 5, none⟩ = false := blk_free RB.out
  have U1 := (but_refl Y W3).set_ 0 (.int .i64 5)
  have U2 := U1.set_ 4 (.int .i64 c.ep)
  have U3 := U2.set_ 5 (.int .i64 un)
  have R3 : Hid (Bk (((W3.setCell ⟨Y, 0, none⟩ (.int .i64 5)).setCell ⟨Y, 4, none⟩ (.int .i64 c.ep)).setCell ⟨Y, 5, none⟩ (.int .i64 un)) Y ⟨5, ep, cl, 0, c.ep, un, [], []⟩) := Lib.hid (blk_set (blk_set (blk_set RB.out)))
  have hS1 := HS.out _ (QQ.out.other hY HNF.out U1)
  have hS2 := HS.out _ (QQ.out.other hY HNF.out U2)
  have hS3 := HS.out _ (QQ.out.other hY HNF.out U3)
  have QM := Lib.hid QQ.out.mn.p.bk
  clear U1 U2 U3
  subst hW3
  have y0 : W2.cell? ⟨Y, 0, none⟩ = some (.int .i64 0) := r0
  have g0 : W2.frozen? ⟨Y, 0, none⟩ = false := f0
  have y4 : W2.cell? ⟨Y, 4, none⟩ = some (.int .i64 0) := r4
  have g4 : W2.frozen? ⟨Y, 4, none⟩ = false := f4
  have y5 : W2.cell? ⟨Y, 5, none⟩ = some (.int .i64 0) := r5
  have g5 : W2.frozen? ⟨Y, 5, none⟩ = false := f5
  refine wp_region_held_drew (S := fun W => W.cell? ⟨A.y, 4, none⟩ = some (.pointer (some ⟨A.a.b, 0, none⟩)) ∧ W.cell? ⟨w.heap.size, 2, none⟩ = some (.int .i64 c.ep)) (by kernel_rfl) hS (fun _ => ?_)
  change wpAnyH _ _ _ _ _ _ #[false, false, false, false, false, false, false, false, false, false, false, false, false, false, false] _ _
  refine wpAnyH_take (i := 0) (v := ?v1) (by rw [List.getElem?_toArray]; rfl) (by kernel_rfl) (by kernel_rfl) (by kernel_rfl) (by intro _ _ _ h; exact h) (Or.inl ⟨by rfl, ?hy1⟩) (by assumption) ?rest1
  case hy1 => (intro W hSW; (try dsimp only at hSW); go_simp; try with_reducible rfl)
  try simp only [Act.put, List.setIfInBounds_toArray, List.set_cons_zero, List.set_cons_succ]
  refine wpAnyH_take (i := 1) (v := ?v2) (by rw [List.getElem?_toArray]; rfl) (by kernel_rfl) (by kernel_rfl) (by kernel_rfl) (by intro _ _ _ h; exact h) (Or.inl ⟨by rfl, ?hy2⟩) (by assumption) ?rest2
  case hy2 => (intro W hSW; (try dsimp only at hSW); go_simp; try with_reducible rfl)
  try simp only [Act.put, List.setIfInBounds_toArray, List.set_cons_zero, List.set_cons_succ]
  refine wpAnyH_take (i := 2) (v := ?v3) (by rw [List.getElem?_toArray]; rfl) (by kernel_rfl) (by kernel_rfl) (by kernel_rfl) (by intro _ _ _ h; exact h) (Or.inl ⟨by rfl, ?hy3⟩) (by assumption) ?rest3
  case hy3 => (intro W hSW; (try dsimp only at hSW); go_simp; try with_reducible rfl)
  try simp only [Act.put, List.setIfInBounds_toArray, List.set_cons_zero, List.set_cons_succ]
  refine wpAnyH_take (i := 3) (v := ?v4) (by rw [List.getElem?_toArray]; rfl) (by kernel_rfl) (by kernel_rfl) (by kernel_rfl) (by intro _ _ _ h; exact h) (Or.inl ⟨by rfl, ?hy4⟩) (by assumption) ?rest4
  case hy4 => (intro W hSW; (try dsimp only at hSW); go_simp; try with_reducible rfl)
  try simp only [Act.put, List.setIfInBounds_toArray, List.set_cons_zero, List.set_cons_succ]
  refine wpAnyH_take (i := 4) (v := ?v5) (by rw [List.getElem?_toArray]; rfl) (by kernel_rfl) (by kernel_rfl) (by kernel_rfl) (by intro _ _ _ h; exact h) (Or.inl ⟨by rfl, ?hy5⟩) (by assumption) ?rest5
  case hy5 => (intro W hSW; (try dsimp only at hSW); go_simp; try with_reducible rfl)
  try simp only [Act.put, List.setIfInBounds_toArray, List.set_cons_zero, List.set_cons_succ]
  refine wpAnyH_take (i := 5) (v := ?v6) (by rw [List.getElem?_toArray]; rfl) (by kernel_rfl) (by kernel_rfl) (by kernel_rfl) (by intro _ _ _ h; exact h) (Or.inl ⟨by rfl, ?hy6⟩) (by assumption) ?rest6
  case hy6 => (intro W hSW; (try dsimp only at hSW); go_simp; try with_reducible rfl)
  try simp only [Act.put, List.setIfInBounds_toArray, List.set_cons_zero, List.set_cons_succ]
  refine wpAnyH_take (i := 6) (v := ?v7) (by rw [List.getElem?_toArray]; rfl) (by kernel_rfl) (by kernel_rfl) (by kernel_rfl) (by intro _ _ _ h; exact h) (Or.inl ⟨by rfl, ?hy7⟩) (by assumption) ?rest7
  case hy7 => (intro W hSW; (try dsimp only at hSW); go_simp; try with_reducible rfl)
  try simp only [Act.put, List.setIfInBounds_toArray, List.set_cons_zero, List.set_cons_succ]
  refine wpAnyH_take (i := 7) (v := ?v8) (by rw [List.getElem?_toArray]; rfl) (by kernel_rfl) (by kernel_rfl) (by kernel_rfl) (by intro _ _ _ h; exact h) (Or.inl ⟨by rfl, ?hy8⟩) (by assumption) ?rest8
  case hy8 => (intro W hSW; (try dsimp only at hSW); go_simp; try with_reducible rfl)
  try simp only [Act.put, List.setIfInBounds_toArray, List.set_cons_zero, List.set_cons_succ]
  refine wpAnyH_take (i := 9) (v := ?v9) (by rw [List.getElem?_toArray]; rfl) (by kernel_rfl) (by kernel_rfl) (by kernel_rfl) (by intro _ _ _ h; exact h) (Or.inl ⟨by rfl, ?hy9⟩) (by assumption) ?rest9
  case hy9 => (intro W hSW; (try dsimp only at hSW); go_simp; try with_reducible rfl)
  try simp only [Act.put, List.setIfInBounds_toArray, List.set_cons_zero, List.set_cons_succ]
  refine wpAnyH_ready (rs := [8]) (by kernel_rfl) (by simp) (AllReadyH.cons (by rw [List.getElem?_toArray]; rfl) (fun K hK => ?_) AllReadyH.nil)
  go_simp
  refine (HU.out _ QM.out).mono ?_
  rintro e _ ⟨rfl, rfl⟩
  refine hK.out _ _ hS (fun _ => ?_)
  clear hK K
  try simp only [List.setIfInBounds_toArray, List.set_cons_zero, List.set_cons_succ]
  refine wpAnyH_ready (rs := [10]) (by kernel_rfl) (by simp) (AllReadyH.cons (by rw [List.getElem?_toArray]; rfl) (fun K hK => ?_) AllReadyH.nil)
  go_simp
  refine hK.out _ _ hS1 (fun _ => ?_)
  clear hK K
  try simp only [List.setIfInBounds_toArray, List.set_cons_zero, List.set_cons_succ]
  refine wpAnyH_take (i := 11) (v := ?v10) (by rw [List.getElem?_toArray]; rfl) (by kernel_rfl) (by kernel_rfl) (by kernel_rfl) (by intro _ _ _ h; exact h) (Or.inl ⟨by rfl, ?hy10⟩) (by assumption) ?rest10
  case hy10 => (intro W hSW; (try dsimp only at hSW); go_simp; try with_reducible rfl)
  try simp only [Act.put, List.setIfInBounds_toArray, List.set_cons_zero, List.set_cons_succ]
  refine wpAnyH_ready (rs := [12]) (by kernel_rfl) (by simp) (AllReadyH.cons (by rw [List.getElem?_toArray]; rfl) (fun K hK => ?_) AllReadyH.nil)
  go_simp
  refine hK.out _ _ hS2 (fun _ => ?_)
  clear hK K
  try simp only [List.setIfInBounds_toArray, List.set_cons_zero, List.set_cons_succ]
  refine wpAnyH_take (i := 13) (v := ?v11) (by rw [List.getElem?_toArray]; rfl) (by kernel_rfl) (by kernel_rfl) (by kernel_rfl) (by intro _ _ _ h; exact h) (Or.inl ⟨by rfl, ?hy11⟩) (by assumption) ?rest11
  case hy11 => (intro W hSW; (try dsimp only at hSW); go_simp; try with_reducible rfl)
  try simp only [Act.put, List.setIfInBounds_toArray, List.set_cons_zero, List.set_cons_succ]
  refine wpAnyH_ready (rs := [14]) (by kernel_rfl) (by simp) (AllReadyH.cons (by rw [List.getElem?_toArray]; rfl) (fun K hK => ?_) AllReadyH.nil)
  go_simp
  refine hK.out _ _ hS3 (fun _ => ?_)
  clear hK K
  try simp only [List.setIfInBounds_toArray, List.set_cons_zero, List.set_cons_succ]
  refine wpAnyH_done (by kernel_rfl) ?_ _
  generalize hW : World.setCell _ _ _ = W5
  have R5 : Hid (Bk W5 Y ⟨5, ep, cl, 0, c.ep, un, [], []⟩) := Lib.hid (by rw [← hW]; exact R3.out)
  replace QQ := Lib.hid (show Rq base A m c pk nk ck w W5 by rw [← hW]; exact Q3.out)
  clear hW RB hS hS1 hS2 hS3 Q3 R3 QM r0 f0 r4 f4 r5 f5 y0 y4 y5 g0 g4 g5
  obtain ⟨k0, k1, k2, k3, k4, k5, k6⟩ := R5.out.cells
  go_wp2_with (refine wpList_store_row rfl 82 _ _ rfl (w.heap.size + 1) _ rfl rfl 82 _ QQ.out.rs infoR rfl (one8 ⟨5, ep, cl, 0, c.ep, un, [], []⟩) ?_)
  exact bodyPost_ret (v := .agg #[.int .i64 5, .int .i64 ep, .int .i64 cl, .int .i64 0, .int .i64 c.ep, .int .i64 un, .string ⟨#[]⟩, .string ⟨#[]⟩])
    (results_cell_row Tryz.results94 _ _ (w.heap.size + 1) 82 _ (0, 0) _ rfl (setRow_same QQ.out.rs) Tryz.underlying82 rfl infoR) rfl ⟨rfl, below_setRow QQ.out.mn.bel.drew (by omega) _⟩
theorem recordOf (h : Pg base A m w) (c : Cl) (pk : Option Addr) (nk ck : Nat) (hk : c.k = 6 ∨ c.k = 7 ∨ c.k = 8 ∨ c.k = 9) (hw : c.k = 9 → Wf c.ep) :
    Calls Tryz.prog 94 #[.pointer (some ⟨A.y, 0, none⟩), .agg #[.int .i64 c.k, .int .i64 c.lb, .int .i64 c.ep, .int .i64 c.tm, .string ⟨c.da.toArray⟩, .string ⟨c.nm.toArray⟩, .slice pk nk ck]] w fun x w' => x = .returned (.agg #[.int .i64 (stamp m (slR m c)).k, .int .i64 (stamp m (slR m c)).ep, .int .i64 (stamp m (slR m c)).tm, .int .i64 (stamp m (slR m c)).ct, .int .i64 (stamp m (slR m c)).tg, .int .i64 (stamp m (slR m c)).un, .string ⟨(stamp m (slR m c)).rt.toArray⟩, .string ⟨(stamp m (slR m c)).nm.toArray⟩]) ∧ Below w.heap.size w w' := by
  rcases hk with hk | hk | hk | hk
  · exact rec6 h c pk nk ck hk
  · exact rec7 h c pk nk ck hk
  · exact rec8 h c pk nk ck hk
  · exact rec9 h c pk nk ck hk (hw hk)
end Go.Proofs.YtopnodkdpehdoaaGreatDoor.PgU
/- The program's seal and shut: the walks of their texts. No conditions but those that each lemma names. -/
namespace Go.Proofs.YtopnodkdpehdoaaGreatDoor.PgV
set_option linter.unusedVariables false
open Go.RowKit
open RecN RecC RetN RetC RetR DbN DbA MdN MdO MdC MdG PgN PgC PgI PgW PgX PgA PgR PgS PgM PgT PgU
/-- The document's word of sealing, in the program's order. -/
theorem slE_is (m : Mo) (c : Cl) (hk : c.k = 6 ∨ c.k = 7 ∨ c.k = 8 ∨ c.k = 9) : slE m c = if mayc m c ≠ 0 then mayc m c else rcE m (slR m c) (rm m) := by
  have no : ∀ r, ¬ right (stamp m r) → rcE m r (rm m) = 2 := fun r h => by
    have : may m.s (stamp m r) = 2 := by unfold may; rw [if_pos h]
    unfold rcE
    rw [this, if_pos (by decide)]
  unfold slE mayc
  by_cases h8 : c.k = 8
  · rw [if_pos h8, if_neg (show ¬ (c.k = 7 ∧ isName c.nm = false) from fun hh => by omega), if_neg (show ¬ (c.k = 6 ∨ c.k = 7 ∨ c.k = 9) by omega), if_neg (show ¬ ((0 : Int) ≠ 0) by omega)]
    by_cases hn : isName c.nm = false
    · rw [if_pos ⟨.inr h8, hn⟩, no]
      have e0 : slR m c = ⟨4, 0, 0, 0, 0, 0, [], c.nm⟩ := by unfold slR; rw [if_pos h8]
      rw [e0]
      rintro ⟨_, h | h | h | h | h⟩
      · exact absurd (show (4 : Int) = 1 from h.1) (by decide)
      · exact absurd (show (4 : Int) = 2 from h.1) (by decide)
      · exact absurd (show (4 : Int) = 3 from h.1) (by decide)
      · have := h.2.1
        have e1 : isName c.nm = true := this
        rw [hn] at e1
        cases e1
      · exact absurd (show (4 : Int) = 5 from h.1) (by decide)
    · rw [if_neg (fun hh => hn hh.2)]
  rw [if_neg h8, if_pos (show c.k = 6 ∨ c.k = 7 ∨ c.k = 9 by omega)]
  by_cases h7 : c.k = 7 ∧ isName c.nm = false
  · rw [if_pos ⟨.inl h7.1, h7.2⟩, if_pos h7, if_pos (by decide)]
  rw [if_neg (show ¬ ((c.k = 7 ∨ c.k = 8) ∧ isName c.nm = false) from fun hh => h7 ⟨by omega, hh.2⟩), if_neg h7]
  by_cases ht : there m c.ep true ≠ 0
  · rw [if_pos ht, if_pos ht]
  rw [if_neg ht, if_neg ht]
  by_cases h6 : c.k = 6 ∧ (c.tm < 0 ∨ 1099511627776 < c.tm)
  · rw [if_pos h6, no]
    have e0 : slR m c = ⟨2, 0, 0, 0, c.ep, c.tm, [], []⟩ := by unfold slR; rw [if_neg (by omega), if_pos h6.1]
    rw [e0]
    rintro ⟨_, h | h | h | h | h⟩
    · exact absurd (show (2 : Int) = 1 from h.1) (by decide)
    · have h1 : 0 ≤ c.tm ∧ c.tm ≤ 1099511627776 := h.2.2.1
      omega
    · exact absurd (show (2 : Int) = 3 from h.1) (by decide)
    · exact absurd (show (2 : Int) = 4 from h.1) (by decide)
    · exact absurd (show (2 : Int) = 5 from h.1) (by decide)
  · rw [if_neg h6]
variable {base : Nat} {A : Pm} {m : Mo} {w : World}
/-- An epoch that is there, and closed, is a number. -/
theorem there_wf (h : Pg base A m w) {t : Int} (ht : there m t true = 0) : Wf t := by
  have h1 := h.b3
  have h2 := h.ep
  unfold there at ht
  by_cases hc : t < m.f ∨ m.s.ep < t
  · rw [if_pos hc] at ht; omega
  · exact wf_of (by omega)
theorem mayc_wf (h : Pg base A m w) {c : Cl} (hk : c.k = 6 ∨ c.k = 7 ∨ c.k = 8 ∨ c.k = 9) (h0 : mayc m c = 0) : (c.k = 9 → Wf c.ep) ∧ Wf (stamp m (slR m c)).tg := by
  unfold mayc at h0
  by_cases h7 : c.k = 7 ∧ isName c.nm = false
  · rw [if_pos h7] at h0; omega
  rw [if_neg h7] at h0
  by_cases h8 : c.k = 8
  · refine ⟨fun e => by omega, ?_⟩
    have e0 : slR m c = ⟨4, 0, 0, 0, 0, 0, [], c.nm⟩ := by unfold slR; rw [if_pos h8]
    rw [e0]
    exact wf_of (by show -9223372036854775808 ≤ (0 : Int) ∧ (0 : Int) ≤ 9223372036854775807; omega)
  rw [if_pos (show c.k = 6 ∨ c.k = 7 ∨ c.k = 9 by omega)] at h0
  have hw := there_wf h h0
  refine ⟨fun _ => hw, ?_⟩
  unfold slR stamp
  rw [if_neg h8]
  split
  · exact hw
  · split <;> exact hw
/-- A record was taken. -/
theorem rc_trn {w' : World} (h : Pg base A m w) {r : Rec} (hm : may m.s (stamp m r) = 0) (hu : m.used + 1 ≤ GeoN.data m.b m.lb m.f) (hk : r.k = 1 → m.s.ep < 4294967295) {w1 : World} (hb : Below w.heap.size w w1) (ht : Tkn base A m (stamp m r) w1 w') : Trn base A (rcM m r) w w' := by
  obtain ⟨A', hx, hp, hf, hfr⟩ := ht
  have hp' : Pr base A' (rcM m r) w' := ⟨hp.top, hp.body, hp.ck, hp.bk, hp.rows, hp.vrow, hp.ap, hp.kx, hp.kr, hp.low, hp.gd⟩
  have he : (rcM m r).s.ep ≤ 4294967295 := by
    show (RetN.take m.s (stamp m r)).ep ≤ 4294967295
    have h1 := h.ep
    rcases take_ep m.s (stamp m r) with q | ⟨q0, q⟩
    · omega
    · have := hk q0; omega
  exact Trn.after hb (trn_of hx (hp'.pg (ok_rec h.ok hm hu) he (lo_rec h.lo h.ok.ck0 r)) hf hfr)
set_option maxRecDepth 100000 in
set_option maxHeartbeats 8000000 in
theorem seal_no (h : Pg base A m w) (c : Cl) (pk : Option Addr) (nk ck : Nat) (hk : c.k = 6 ∨ c.k = 7 ∨ c.k = 8 ∨ c.k = 9) (he : slE m c ≠ 0) :
    Calls Tryz.prog 75 #[.pointer (some ⟨A.y, 0, none⟩), .agg #[.int .i64 c.k, .int .i64 c.lb, .int .i64 c.ep, .int .i64 c.tm, .string ⟨c.da.toArray⟩, .string ⟨c.nm.toArray⟩, .slice pk nk ck]] w fun x w' => x = .returned (.int .i64 (slE m c)) ∧ Below w.heap.size w w' := by
  rw [slE_is m c hk] at he ⊢
  obtain ⟨W1, hW1⟩ : ∃ W1, W1 = w.alloc (.cells #[.int .i64 c.k, .int .i64 c.lb, .int .i64 c.ep, .int .i64 c.tm, .string ⟨c.da.toArray⟩, .string ⟨c.nm.toArray⟩, .slice pk nk ck] 35) := ⟨_, rfl⟩
  have MM : Hid (Mn base A m w W1) := Lib.hid (by rw [hW1]; exact (mn_new h).step (below_new w _))
  have BC : Hid (Bc W1 w.heap.size c pk nk ck) := Lib.hid (by rw [hW1]; exact bc_new w c pk nk ck)
  have HMc := Lib.hid (fun W (h : Pg base A m W) => may_ h c pk nk ck hk)
  have hr0 := rm_pos m
  by_cases h0 : mayc m c ≠ 0
  · rw [if_pos h0]
    have t0 : (mayc m c != 0) = true := by simpa using h0
    clear he h0 hr0
    generalize mayc m c = q at *
    clear h hk
    go_enter Tryz.func75, Tryz.ntmps75
    go_upto_region 1 with (fail)
    rw [← hW1]
    clear hW1
    obtain ⟨k0, k1, k2, k3, k4, k5, k6⟩ := BC.out.cells
    go_wp2_with (go_at_call 93; refine (HMc.out _ MM.out.p).mono ?_; rintro e w1 ⟨rfl, hb⟩; replace MM := Lib.hid (MM.out.step hb); replace BC := Lib.hid (BC.out.step hb); clear hb HMc)
    go_ret
    exact ⟨rfl, MM.out.bel⟩
  rw [if_neg h0] at he ⊢
  have h0' : mayc m c = 0 := Classical.not_not.1 h0
  obtain ⟨hw1, hw2⟩ := mayc_wf h hk h0'
  rw [h0'] at HMc
  have HRo := Lib.hid (fun W (h : Pg base A m W) => recordOf h c pk nk ck hk hw1)
  have HMy := Lib.hid (fun W (h : Book A.a m.s W) => RetB.May h (stamp m (slR m c)) hw2)
  have HRm := Lib.hid (fun W (h : Pg base A m W) => room h)
  unfold rcE at he ⊢
  generalize stamp m (slR m c) = r at *
  clear h hk h0 h0' hw1 hw2
  by_cases h1 : may m.s r ≠ 0
  · rw [if_pos h1]
    have t1 : (may m.s r != 0) = true := by simpa using h1
    clear he h1 hr0
    generalize may m.s r = q at *
    go_enter Tryz.func75, Tryz.ntmps75
    go_upto_region 1 with (fail)
    rw [← hW1]
    clear hW1
    obtain ⟨k0, k1, k2, k3, k4, k5, k6⟩ := BC.out.cells
    go_upto_region 4 with ((go_at_call 93; refine (HMc.out _ MM.out.p).mono ?_; rintro e w1 ⟨rfl, hb⟩; replace MM := Lib.hid (MM.out.step hb); replace BC := Lib.hid (BC.out.step hb); clear hb HMc))
    clear k0 k1 k2 k3 k4 k5 k6
    obtain ⟨k0, k1, k2, k3, k4, k5, k6⟩ := BC.out.cells
    go_upto_region 5 with (first
      | (go_at_call 94; refine (HRo.out _ MM.out.p).mono ?_; rintro e w2 ⟨rfl, hb⟩; replace MM := Lib.hid (MM.out.step hb); clear hb HRo)
      | (refine wpList_store_row rfl 82 _ _ rfl w2.heap.size _ rfl rfl 82 _ (heap_alloc_new w2 _) infoR rfl (one8 r) ?_))
    generalize hW : World.setRow _ _ _ = W3
    replace MM := Lib.hid (MM.out.step (show Below w2.heap.size w2 W3 by rw [← hW]; exact kept_new w2 _ _ _))
    have RB : Hid (Bk W3 w2.heap.size r) := Lib.hid (by rw [← hW]; exact has_new w2 _ _ _)
    clear hW k0 k1 k2 k3 k4 k5 k6 BC
    generalize w2.heap.size = Y at *
    replace MM := Lib.hid MM.out.drew
    replace RB := Lib.hid (RB.out.step ((Below.refl _ _).drew))
    have HS : Hid (∀ W, Mn base A m w W → W.cell? ⟨A.y, 4, none⟩ = some (.pointer (some ⟨A.a.b, 0, none⟩))) := Lib.hid (fun W h => h.p.cells.2.2.2.2.1)
    have hS := And.intro (HS.out _ MM.out) RB.out.cells
    go_region_held3 (fun W => W.cell? ⟨A.y, 4, none⟩ = some (.pointer (some ⟨A.a.b, 0, none⟩)) ∧ W.cell? ⟨Y, 0, none⟩ = some (.int .i64 r.k) ∧ W.cell? ⟨Y, 1, none⟩ = some (.int .i64 r.ep) ∧ W.cell? ⟨Y, 2, none⟩ = some (.int .i64 r.tm) ∧ W.cell? ⟨Y, 3, none⟩ = some (.int .i64 r.ct) ∧ W.cell? ⟨Y, 4, none⟩ = some (.int .i64 r.tg) ∧ W.cell? ⟨Y, 5, none⟩ = some (.int .i64 r.un) ∧ W.cell? ⟨Y, 6, none⟩ = some (.string ⟨r.rt.toArray⟩) ∧ W.cell? ⟨Y, 7, none⟩ = some (.string ⟨r.nm.toArray⟩))
      (exact hS) (first | (go_at_call 95; refine (HMy.out _ MM.out.p.bk).mono ?_; rintro e w4 ⟨rfl, hb⟩; replace MM := Lib.hid (MM.out.step hb); replace RB := Lib.hid (RB.out.step hb); replace hS := And.intro (HS.out _ MM.out) RB.out.cells; clear hb HMy))
    clear hS
    go_wp2_with fail
    go_ret
    exact ⟨rfl, MM.out.bel⟩
  rw [if_neg h1] at he ⊢
  have h1' : may m.s r = 0 := Classical.not_not.1 h1
  rw [h1'] at HMy
  by_cases h2 : rm m < 1
  · rw [if_pos h2]
    have e0 : rm m = 0 := by omega
    rw [e0] at HRm
    clear he h1 h1' h2 e0 hr0
    go_enter Tryz.func75, Tryz.ntmps75
    go_upto_region 1 with (fail)
    rw [← hW1]
    clear hW1
    obtain ⟨k0, k1, k2, k3, k4, k5, k6⟩ := BC.out.cells
    go_upto_region 4 with ((go_at_call 93; refine (HMc.out _ MM.out.p).mono ?_; rintro e w1 ⟨rfl, hb⟩; replace MM := Lib.hid (MM.out.step hb); replace BC := Lib.hid (BC.out.step hb); clear hb HMc))
    clear k0 k1 k2 k3 k4 k5 k6
    obtain ⟨k0, k1, k2, k3, k4, k5, k6⟩ := BC.out.cells
    go_upto_region 5 with (first
      | (go_at_call 94; refine (HRo.out _ MM.out.p).mono ?_; rintro e w2 ⟨rfl, hb⟩; replace MM := Lib.hid (MM.out.step hb); clear hb HRo)
      | (refine wpList_store_row rfl 82 _ _ rfl w2.heap.size _ rfl rfl 82 _ (heap_alloc_new w2 _) infoR rfl (one8 r) ?_))
    generalize hW : World.setRow _ _ _ = W3
    replace MM := Lib.hid (MM.out.step (show Below w2.heap.size w2 W3 by rw [← hW]; exact kept_new w2 _ _ _))
    have RB : Hid (Bk W3 w2.heap.size r) := Lib.hid (by rw [← hW]; exact has_new w2 _ _ _)
    clear hW k0 k1 k2 k3 k4 k5 k6 BC
    generalize w2.heap.size = Y at *
    replace MM := Lib.hid MM.out.drew
    replace RB := Lib.hid (RB.out.step ((Below.refl _ _).drew))
    have HS : Hid (∀ W, Mn base A m w W → W.cell? ⟨A.y, 4, none⟩ = some (.pointer (some ⟨A.a.b, 0, none⟩))) := Lib.hid (fun W h => h.p.cells.2.2.2.2.1)
    have hS := And.intro (HS.out _ MM.out) RB.out.cells
    go_region_held3 (fun W => W.cell? ⟨A.y, 4, none⟩ = some (.pointer (some ⟨A.a.b, 0, none⟩)) ∧ W.cell? ⟨Y, 0, none⟩ = some (.int .i64 r.k) ∧ W.cell? ⟨Y, 1, none⟩ = some (.int .i64 r.ep) ∧ W.cell? ⟨Y, 2, none⟩ = some (.int .i64 r.tm) ∧ W.cell? ⟨Y, 3, none⟩ = some (.int .i64 r.ct) ∧ W.cell? ⟨Y, 4, none⟩ = some (.int .i64 r.tg) ∧ W.cell? ⟨Y, 5, none⟩ = some (.int .i64 r.un) ∧ W.cell? ⟨Y, 6, none⟩ = some (.string ⟨r.rt.toArray⟩) ∧ W.cell? ⟨Y, 7, none⟩ = some (.string ⟨r.nm.toArray⟩))
      (exact hS) (first | (go_at_call 95; refine (HMy.out _ MM.out.p.bk).mono ?_; rintro e w4 ⟨rfl, hb⟩; replace MM := Lib.hid (MM.out.step hb); replace RB := Lib.hid (RB.out.step hb); replace hS := And.intro (HS.out _ MM.out) RB.out.cells; clear hb HMy))
    clear hS
    go_wp2_with (go_at_call 70; refine (HRm.out _ MM.out.p).mono ?_; rintro e w5 ⟨rfl, hb⟩; replace MM := Lib.hid (MM.out.step hb); clear hb HRm)
    go_ret
    exact ⟨rfl, MM.out.bel⟩
  · rw [if_neg h2] at he
    exact absurd rfl he
set_option maxRecDepth 100000 in
set_option maxHeartbeats 8000000 in
theorem seal_yes (h : Pg base A m w) (c : Cl) (pk : Option Addr) (nk ck : Nat) (hk : c.k = 6 ∨ c.k = 7 ∨ c.k = 8 ∨ c.k = 9) (he : slE m c = 0) :
    Calls Tryz.prog 75 #[.pointer (some ⟨A.y, 0, none⟩), .agg #[.int .i64 c.k, .int .i64 c.lb, .int .i64 c.ep, .int .i64 c.tm, .string ⟨c.da.toArray⟩, .string ⟨c.nm.toArray⟩, .slice pk nk ck]] w fun x w' => x = .returned (.int .i64 0) ∧ Trn base A (rcM m (slR m c)) w w' := by
  rw [slE_is m c hk] at he
  obtain ⟨W1, hW1⟩ : ∃ W1, W1 = w.alloc (.cells #[.int .i64 c.k, .int .i64 c.lb, .int .i64 c.ep, .int .i64 c.tm, .string ⟨c.da.toArray⟩, .string ⟨c.nm.toArray⟩, .slice pk nk ck] 35) := ⟨_, rfl⟩
  have MM : Hid (Mn base A m w W1) := Lib.hid (by rw [hW1]; exact (mn_new h).step (below_new w _))
  have BC : Hid (Bc W1 w.heap.size c pk nk ck) := Lib.hid (by rw [hW1]; exact bc_new w c pk nk ck)
  have HMc := Lib.hid (fun W (h : Pg base A m W) => may_ h c pk nk ck hk)
  have HH := Lib.hid h
  have h0' : mayc m c = 0 := by
    by_cases h0 : mayc m c ≠ 0
    · rw [if_pos h0] at he; exact he
    · exact Classical.not_not.1 h0
  rw [h0', if_neg (by decide)] at he
  obtain ⟨hm, hr⟩ := rec_ok he
  obtain ⟨hw1, hw2⟩ := mayc_wf h hk h0'
  rw [h0'] at HMc
  have HRo := Lib.hid (fun W (h : Pg base A m W) => recordOf h c pk nk ck hk hw1)
  have HMy := Lib.hid (fun W (h : Book A.a m.s W) => RetB.May h (stamp m (slR m c)) hw2)
  rw [hm] at HMy
  have HRm := Lib.hid (fun W (h : Pg base A m W) => room h)
  have HTk := Lib.hid (fun W (h : Pg base A m W) => PgT.take h (stamp m (slR m c)) hw2 hm)
  have HT : Hid (∀ W W', Below w.heap.size w W → Tkn base A m (stamp m (slR m c)) W W' → Trn base A (rcM m (slR m c)) w W') := Lib.hid (fun W W' hb ht => rc_trn h hm (room_in h.ok hr) (fun e => by
    exfalso
    unfold slR at e
    repeat' split at e
    all_goals simp at e) hb ht)
  have t2 : (rm m == 0) = false := by rw [beq_eq_false_iff_ne]; omega
  generalize stamp m (slR m c) = r at *
  generalize rcM m (slR m c) = m' at *
  generalize rm m = q at *
  clear h hk h0' hw1 hw2 hm hr he
  go_enter Tryz.func75, Tryz.ntmps75
  go_upto_region 1 with (fail)
  rw [← hW1]
  clear hW1
  obtain ⟨k0, k1, k2, k3, k4, k5, k6⟩ := BC.out.cells
  go_upto_region 4 with ((go_at_call 93; refine (HMc.out _ MM.out.p).mono ?_; rintro e w1 ⟨rfl, hb⟩; replace MM := Lib.hid (MM.out.step hb); replace BC := Lib.hid (BC.out.step hb); clear hb HMc))
  clear k0 k1 k2 k3 k4 k5 k6
  obtain ⟨k0, k1, k2, k3, k4, k5, k6⟩ := BC.out.cells
  go_upto_region 5 with (first
    | (go_at_call 94; refine (HRo.out _ MM.out.p).mono ?_; rintro e w2 ⟨rfl, hb⟩; replace MM := Lib.hid (MM.out.step hb); clear hb HRo)
    | (refine wpList_store_row rfl 82 _ _ rfl w2.heap.size _ rfl rfl 82 _ (heap_alloc_new w2 _) infoR rfl (one8 r) ?_))
  generalize hW : World.setRow _ _ _ = W3
  replace MM := Lib.hid (MM.out.step (show Below w2.heap.size w2 W3 by rw [← hW]; exact kept_new w2 _ _ _))
  have RB : Hid (Bk W3 w2.heap.size r) := Lib.hid (by rw [← hW]; exact has_new w2 _ _ _)
  clear hW k0 k1 k2 k3 k4 k5 k6 BC
  generalize w2.heap.size = Y at *
  replace MM := Lib.hid MM.out.drew
  replace RB := Lib.hid (RB.out.step ((Below.refl _ _).drew))
  have HS : Hid (∀ W, Mn base A m w W → W.cell? ⟨A.y, 4, none⟩ = some (.pointer (some ⟨A.a.b, 0, none⟩))) := Lib.hid (fun W h => h.p.cells.2.2.2.2.1)
  have hS := And.intro (HS.out _ MM.out) RB.out.cells
  go_region_held3 (fun W => W.cell? ⟨A.y, 4, none⟩ = some (.pointer (some ⟨A.a.b, 0, none⟩)) ∧ W.cell? ⟨Y, 0, none⟩ = some (.int .i64 r.k) ∧ W.cell? ⟨Y, 1, none⟩ = some (.int .i64 r.ep) ∧ W.cell? ⟨Y, 2, none⟩ = some (.int .i64 r.tm) ∧ W.cell? ⟨Y, 3, none⟩ = some (.int .i64 r.ct) ∧ W.cell? ⟨Y, 4, none⟩ = some (.int .i64 r.tg) ∧ W.cell? ⟨Y, 5, none⟩ = some (.int .i64 r.un) ∧ W.cell? ⟨Y, 6, none⟩ = some (.string ⟨r.rt.toArray⟩) ∧ W.cell? ⟨Y, 7, none⟩ = some (.string ⟨r.nm.toArray⟩))
    (exact hS) (first | (go_at_call 95; refine (HMy.out _ MM.out.p.bk).mono ?_; rintro e w4 ⟨rfl, hb⟩; replace MM := Lib.hid (MM.out.step hb); replace RB := Lib.hid (RB.out.step hb); replace hS := And.intro (HS.out _ MM.out) RB.out.cells; clear hb HMy))
  clear hS
  obtain ⟨k0, k1, k2, k3, k4, k5, k6, k7⟩ := RB.out.cells
  go_upto_region 10 with (go_at_call 70; refine (HRm.out _ MM.out.p).mono ?_; rintro e w5 ⟨rfl, hb⟩; replace MM := Lib.hid (MM.out.step hb); replace RB := Lib.hid (RB.out.step hb); clear hb HRm k0 k1 k2 k3 k4 k5 k6 k7)
  obtain ⟨k0, k1, k2, k3, k4, k5, k6, k7⟩ := RB.out.cells
  go_wp2_with (go_at_call 92; refine (HTk.out _ MM.out.p).mono ?_; rintro e w6 ⟨rfl, ht⟩; have TT := Lib.hid (HT.out _ _ MM.out.bel ht); clear ht HTk)
  go_ret
  exact ⟨rfl, TT.out⟩
end Go.Proofs.YtopnodkdpehdoaaGreatDoor.PgV
/- The program's shut: the walk of its text. No conditions but those that each lemma names. -/
namespace Go.Proofs.YtopnodkdpehdoaaGreatDoor.PgH
set_option linter.unusedVariables false
open Go.RowKit
open RecN RecC RetN RetC RetR DbN DbA MdN MdO MdC MdG PgN PgC PgI PgW PgX PgA PgR PgS PgM PgT PgU PgV
theorem nulls (w : World) : Calls Tryz.prog 91 #[.string ⟨#[0]⟩, .int .i64 32] w fun e w' => e = .returned (.string ⟨(List.replicate 32 0).toArray⟩) ∧ Below w.heap.size w w' := by
  have := Tryz.strings_Repeat ⟨#[0]⟩ 32 w (by omega) (by show 1 * 32 ≤ _; omega)
  have e : Lib.repeatL ((⟨#[0]⟩ : ByteArray).data.toList) 32 = List.replicate 32 0 := by
    have := Lib.repeatL_replicate 0 1 32
    exact this
  rw [e] at this
  exact this
variable {base : Nat} {A : Pm} {m : Mo} {w : World}
theorem Data {W : World} (h : Pg base A m W) : Calls Tryz.prog 89 #[.agg #[.int .i64 m.b, .int .i64 m.lb, .int .i64 m.f]] W fun e w' => e = .returned (.int .i64 (GeoN.data m.b m.lb m.f)) ∧ Below W.heap.size W w' := GeoD.Data m.b m.lb m.f W h.gd.b
set_option maxRecDepth 100000 in
set_option maxHeartbeats 8000000 in
theorem shut_no (h : Pg base A m w) (he : clE m ≠ 0) :
    Calls Tryz.prog 74 #[.pointer (some ⟨A.y, 0, none⟩)] w fun x w' => x = .returned (.int .i64 (clE m)) ∧ Below w.heap.size w w' := by
  have MM := Lib.hid (mn_new h)
  have HE := Lib.hid (RetB.Epoch h.bk)
  have e6 : clE m = 6 := by
    rcases closes h.ok h.ep with q | q | q
    · exact absurd q.1 he
    · exact q.1
    · exact q.1
  have hc : ¬ (m.s.ep < 4294967295 ∧ m.used < GeoN.data m.b m.lb m.f) := fun hh => by
    unfold clE at he
    rw [if_pos hh] at he
    exact he (close_may h.ok hh.1)
  obtain ⟨c0, c1, c2, _, c4, _, _⟩ := h.cells
  have hep := h.ep
  have hmost := h.ok.most
  rw [e6]
  clear he e6
  by_cases h1 : m.s.ep = 4294967295
  · have t1 : (m.s.ep == 4294967295) = true := by simp [h1]
    clear h1 hc hep hmost h
    generalize m.s.ep = p at *
    go_enter Tryz.func74, Tryz.ntmps74
    go_upto_region 2 with (go_at_call 42; refine HE.out.mono ?_; rintro e _ ⟨rfl, rfl⟩)
    go_quiet (fail)
    go_wp2_with fail
    go_ret
    exact ⟨rfl, below_drewN _ _⟩
  · have t1 : (m.s.ep == 4294967295) = false := by simp [h1]
    have t2 : (m.used == GeoN.data m.b m.lb m.f) = true := by rw [beq_iff_eq]; omega
    have HU := Lib.hid (fun W (h : Pg base A m W) => used h)
    have HDa := Lib.hid (fun W (h : Pg base A m W) => Data h)
    have HS : Hid (∀ W, Mn base A m w W → W.cell? ⟨A.y, 0, none⟩ = some (.int .i64 m.b) ∧ W.cell? ⟨A.y, 1, none⟩ = some (.int .i64 m.lb) ∧ W.cell? ⟨A.y, 2, none⟩ = some (.int .i64 m.f)) := Lib.hid (fun W h => ⟨h.p.cells.1, h.p.cells.2.1, h.p.cells.2.2.1⟩)
    clear h1 hc hep hmost h
    generalize m.s.ep = p at *
    generalize GeoN.data m.b m.lb m.f = d at *
    generalize m.used = u at *
    go_enter Tryz.func74, Tryz.ntmps74
    go_upto_region 2 with (go_at_call 42; refine HE.out.mono ?_; rintro e _ ⟨rfl, rfl⟩)
    replace MM := Lib.hid MM.out.drew
    have hS := HS.out _ MM.out
    clear c0 c1 c2 c4
    go_region_held3 (fun W => W.cell? ⟨A.y, 0, none⟩ = some (.int .i64 m.b) ∧ W.cell? ⟨A.y, 1, none⟩ = some (.int .i64 m.lb) ∧ W.cell? ⟨A.y, 2, none⟩ = some (.int .i64 m.f))
      (exact hS) (first
        | (go_at_call 88; refine (HU.out _ MM.out.p).mono ?_; rintro e w2 ⟨rfl, hb⟩; replace MM := Lib.hid (MM.out.step hb); replace hS := HS.out _ MM.out; clear hb)
        | (go_at_call 89; refine (HDa.out _ MM.out.p).mono ?_; rintro e w3 ⟨rfl, hb⟩; replace MM := Lib.hid (MM.out.step hb); replace hS := HS.out _ MM.out; clear hb))
    clear hS
    go_wp2_with fail
    go_ret
    exact ⟨rfl, MM.out.bel⟩
set_option maxRecDepth 100000 in
set_option maxHeartbeats 8000000 in
theorem shut_yes (h : Pg base A m w) (he : clE m = 0) :
    Calls Tryz.prog 74 #[.pointer (some ⟨A.y, 0, none⟩)] w fun x w' => x = .returned (.int .i64 0) ∧ Trn base A (rcM m (clR m)) w w' := by
  have MM := Lib.hid (mn_new h)
  have HE := Lib.hid (RetB.Epoch h.bk)
  obtain ⟨⟨hc1, hc2⟩, hr⟩ := cl_in he
  obtain ⟨hm, _⟩ := rec_ok hr
  have hep := h.ep
  have t1 : (m.s.ep == 4294967295) = false := by rw [beq_eq_false_iff_ne]; omega
  have t2 : (m.used == GeoN.data m.b m.lb m.f) = false := by rw [beq_eq_false_iff_ne]; omega
  have e1 : stamp m (clR m) = ⟨1, m.s.ep, m.ck, plc m.vs m.s.ep m.lb.toNat, 0, 0, List.replicate 32 0, []⟩ := rfl
  have hwf : Wf (stamp m (clR m)).tg := wf_of (by show -9223372036854775808 ≤ (0 : Int) ∧ (0 : Int) ≤ 9223372036854775807; omega)
  have HU := Lib.hid (fun W (h : Pg base A m W) => used h)
  have HDa := Lib.hid (fun W (h : Pg base A m W) => Data h)
  have HB := Lib.hid (fun W (h : Pg base A m W) => PgS.blank h)
  have HPl := Lib.hid (fun W (h : Pg base A m W) => places h m.s.ep)
  have HNu := Lib.hid nulls
  have HTk := Lib.hid (fun W (h : Pg base A m W) => PgT.take h (stamp m (clR m)) hwf hm)
  have HT : Hid (∀ W W', Below w.heap.size w W → Tkn base A m (stamp m (clR m)) W W' → Trn base A (rcM m (clR m)) w W') := Lib.hid (fun W W' hb ht => rc_trn h hm (by omega) (fun _ => hc1) hb ht)
  have HS : Hid (∀ W, Mn base A m w W → W.cell? ⟨A.y, 0, none⟩ = some (.int .i64 m.b) ∧ W.cell? ⟨A.y, 1, none⟩ = some (.int .i64 m.lb) ∧ W.cell? ⟨A.y, 2, none⟩ = some (.int .i64 m.f)) := Lib.hid (fun W h => ⟨h.p.cells.1, h.p.cells.2.1, h.p.cells.2.2.1⟩)
  have HF := Lib.hid (fun i (hi : A.foot i) => h.lt hi)
  have HSz := Lib.hid h.size
  obtain ⟨c0, c1, c2, _, c4, _, _⟩ := h.cells
  rw [e1] at HTk HT
  clear h he hc1 hc2 hr hm hep e1 hwf
  generalize rcM m (clR m) = m' at *
  generalize plc m.vs m.s.ep m.lb.toNat = pc at *
  generalize m.s.ep = p at *
  generalize m.ck = cl at *
  generalize GeoN.data m.b m.lb m.f = d at *
  generalize m.used = u at *
  generalize List.replicate 32 (0 : UInt8) = z at *
  go_enter Tryz.func74, Tryz.ntmps74
  go_upto_region 2 with (go_at_call 42; refine HE.out.mono ?_; rintro e _ ⟨rfl, rfl⟩)
  replace MM := Lib.hid MM.out.drew
  have hS := HS.out _ MM.out
  clear c0 c1 c2 c4
  go_region_held3 (fun W => W.cell? ⟨A.y, 0, none⟩ = some (.int .i64 m.b) ∧ W.cell? ⟨A.y, 1, none⟩ = some (.int .i64 m.lb) ∧ W.cell? ⟨A.y, 2, none⟩ = some (.int .i64 m.f))
    (exact hS) (first
      | (go_at_call 88; refine (HU.out _ MM.out.p).mono ?_; rintro e w2 ⟨rfl, hb⟩; replace MM := Lib.hid (MM.out.step hb); replace hS := HS.out _ MM.out; clear hb)
      | (go_at_call 89; refine (HDa.out _ MM.out.p).mono ?_; rintro e w3 ⟨rfl, hb⟩; replace MM := Lib.hid (MM.out.step hb); replace hS := HS.out _ MM.out; clear hb))
  clear hS HU HDa
  go_upto_region 5 with (first
    | (go_at_call 90; refine (HB.out _ MM.out.p).mono ?_; rintro e w4 ⟨rfl, hb⟩; replace MM := Lib.hid (MM.out.step hb); clear hb HB)
    | (refine wpList_store_row rfl 82 _ _ rfl w4.heap.size _ rfl rfl 82 _ (heap_alloc_new w4 _) infoR rfl (one8 ⟨0, p, cl, 0, 0, 0, [], []⟩) ?_))
  generalize hW : World.setRow _ _ _ = W5
  have hY : w.heap.size ≤ w4.heap.size := MM.out.bel.size
  replace MM := Lib.hid (MM.out.step (show Below w4.heap.size w4 W5 by rw [← hW]; exact kept_new w4 _ _ _))
  have RB : Hid (Bk W5 w4.heap.size ⟨0, p, cl, 0, 0, 0, [], []⟩) := Lib.hid (by rw [← hW]; exact has_new w4 _ _ _)
  clear hW
  generalize w4.heap.size = Y at *
  go_upto_region 6 with (first
    | (go_at_call 71; refine (HPl.out _ MM.out.p).mono ?_; rintro e w6 ⟨rfl, hb⟩; replace MM := Lib.hid (MM.out.step hb); replace RB := Lib.hid (RB.out.step hb); clear hb HPl)
    | (go_at_call 91; refine (HNu.out _).mono ?_; rintro e w7 ⟨rfl, hb⟩; replace MM := Lib.hid (MM.out.step hb); replace RB := Lib.hid (RB.out.step hb); have r0 := blk_cell (i := 0) RB.out rfl; have r3 := blk_cell (i := 3) RB.out rfl; have r6 := blk_cell (i := 6) RB.out rfl; have f0 := blk_free (i := 0) RB.out; have f3 := blk_free (i := 3) RB.out; have f6 := blk_free (i := 6) RB.out; clear hb HNu))
  generalize hW : World.setCell _ _ _ = W8
  have BU : Hid (CloC.But Y w7 W8) := Lib.hid (by rw [← hW]; exact (((but_refl Y _).set_ 0 _).set_ 3 _).set_ 6 _)
  have R8 : Hid (Bk W8 Y ⟨1, p, cl, pc, 0, 0, z, []⟩) := Lib.hid (by rw [← hW]; exact blk_set (blk_set (blk_set RB.out)))
  have M8 : Hid (Mn base A m w W8) := Lib.hid ⟨MM.out.p.kept BU.out.size (fun i hi => BU.out.block i (MM.out.p.lt hi) (fun e => by have := HF.out i hi; omega)) (fun i hi => BU.out.block i (Nat.lt_of_lt_of_le hi MM.out.p.size) (fun e => by have := HSz.out; omega)), MM.out.bel.trans ⟨BU.out.os, BU.out.tape, BU.out.output, BU.out.size, fun k hk => BU.out.block k (Nat.lt_of_lt_of_le hk MM.out.bel.size) (by omega)⟩⟩
  clear hW BU RB MM r0 r3 r6 f0 f3 f6
  obtain ⟨k0, k1, k2, k3, k4, k5, k6, k7⟩ := R8.out.cells
  go_wp2_with (go_at_call 92; refine (HTk.out _ M8.out.p).mono ?_; rintro e w9 ⟨rfl, ht⟩; have TT := Lib.hid (HT.out _ _ M8.out.bel ht); clear ht HTk)
  go_ret
  exact ⟨rfl, TT.out⟩
end Go.Proofs.YtopnodkdpehdoaaGreatDoor.PgH
