/- cell.within and what it makes, cell.kind, cell.widths, cell.Check, and the document's Right: the walks of their texts. No conditions. -/
import Derived.Test.YteobimhibhfokaaCelC
namespace Go.Proofs.Yteobimhibhfokaa.CelD
open Go.RowKit
open CelN CelC
theorem makes (fn : Fn) (first cap : Array Value) (w : World) : (Instr.makeFunc fn first cap).run Try.prog w = .ok (.func fn first cap) w := rfl
/-- What within's closure has captured: the least and the most number, in boxes of their own. -/
structure Lm (W : World) (B : Nat) (a b : Int) : Prop where
  lo : W.heap[B]? = some (.cells #[.int .i64 a] 3 (0, 0))
  hi : W.heap[B + 1]? = some (.cells #[.int .i64 b] 3 (0, 0))
theorem Lm.step {W W' : World} {B : Nat} {a b : Int} (h : Lm W B a b) (hb : Below W.heap.size W W') : Lm W' B a b := ⟨(hb.block _ (lt_of_some h.lo)).trans h.lo, (hb.block _ (lt_of_some h.hi)).trans h.hi⟩
/-- What within answers: the closure, over its two boxes. -/
theorem within (a b : Int) (w : World) :
    Calls Try.prog 29 #[.int .i64 a, .int .i64 b] w fun r w' => r = .returned (.func (.func 38) #[] #[.pointer (some ⟨w.heap.size, 0, none⟩), .pointer (some ⟨w.heap.size + 1, 0, none⟩)]) ∧ Lm w' w.heap.size a b ∧ Below w.heap.size w w' := by
  have hmf := makes
  obtain ⟨W2, hW2⟩ : ∃ W2, W2 = (w.alloc (.cells #[.int .i64 a] 3)).alloc (.cells #[.int .i64 b] 3) := ⟨_, rfl⟩
  have LL : Hid (Lm W2 w.heap.size a b ∧ Below w.heap.size w W2) := Lib.hid (by
    rw [hW2]
    have hs : (w.alloc (.cells #[.int .i64 a] 3)).heap.size = w.heap.size + 1 := by simp
    have h2 := heap_alloc_new (w.alloc (.cells #[.int .i64 a] 3)) (.cells #[.int .i64 b] 3)
    rw [hs] at h2
    exact ⟨⟨heap_alloc2_old w _ _, h2⟩, ((below_new w _).alloc (by simp) _)⟩)
  go_enter Try.func29, Try.ntmps29
  go_wp2_with fail
  rw [← hW2]
  go_ret
  exact ⟨rfl, LL.out⟩
/-- Is a number within two others? -/
def ins (n a b : Int) : Bool := decide (a ≤ n ∧ n ≤ b)
theorem ins_yes {n a b : Int} (h0 : a ≤ n) (h1 : n ≤ b) : ins n a b = true := decide_eq_true ⟨h0, h1⟩
theorem ins_lo {n a b : Int} (h : ¬ a ≤ n) : ins n a b = false := decide_eq_false (fun hh => h hh.1)
theorem ins_hi {n a b : Int} (h : ¬ n ≤ b) : ins n a b = false := decide_eq_false (fun hh => h hh.2)
/-- What the closure answers. -/
theorem asked (n a b : Int) (B : Nat) (w : World) (h : Lm w B a b) :
    Calls Try.prog 38 #[.int .i64 n, .pointer (some ⟨B, 0, none⟩), .pointer (some ⟨B + 1, 0, none⟩)] w fun r w' => r = .returned (.bool (ins n a b)) ∧ w = w' := by
  have k0 : w.cell? ⟨B, 0, none⟩ = some (.int .i64 a) := blk_cell h.lo rfl
  have k1 : w.cell? ⟨B + 1, 0, none⟩ = some (.int .i64 b) := blk_cell h.hi rfl
  clear h
  by_cases h0 : a ≤ n
  · by_cases h1 : n ≤ b
    · rw [ins_yes h0 h1]
      go_enter Try.func38, Try.ntmps38
      go_wp2
      go_ret
      exact ⟨rfl, rfl⟩
    · rw [ins_hi h1]
      go_enter Try.func38, Try.ntmps38
      go_wp2
      go_ret
      exact ⟨rfl, rfl⟩
  · rw [ins_lo h0]
    go_enter Try.func38, Try.ntmps38
    go_wp2
    go_ret
    exact ⟨rfl, rfl⟩
/-- What cell.kind answers. -/
theorem kind (ep sl lb : Int) (gn : Bool) (ci : List UInt8) (w : World) :
    Calls Try.prog 23 #[.agg #[.int .i64 ep, .int .i64 sl, .int .i64 lb, .bool gn, .string ⟨ci.toArray⟩]] w fun r w' => r = .returned (.int .i64 (kd gn)) ∧ Below w.heap.size w w' := by
  obtain ⟨W1, hW1⟩ : ∃ W1, W1 = w.alloc (.cells #[.int .i64 ep, .int .i64 sl, .int .i64 lb, .bool gn, .string ⟨ci.toArray⟩] 23) := ⟨_, rfl⟩
  have SS : Hid (Ws w ep sl lb gn ci W1) := Lib.hid (by rw [hW1]; exact ws_new w ep sl lb gn ci)
  obtain ⟨k0, k1, k2, k3, k4⟩ := SS.out.k.cells
  go_enter Try.func23, Try.ntmps23
  go_upto_region 1 with (fail)
  rw [← hW1]
  clear hW1
  cases gn
  · go_wp2_with fail
    go_ret
    exact ⟨rfl, SS.out.bel⟩
  · go_wp2_with fail
    go_ret
    exact ⟨rfl, SS.out.bel⟩
/-- What cell.widths answers: a row of its own. -/
theorem widths (w : World) :
    Calls Try.prog 22 #[] w fun r w' => r = .returned (.slice (some ⟨w.heap.size, 0, none⟩) 4 4) ∧ w'.heap[w.heap.size]? = some (.cells #[.int .i64 1, .int .i64 4, .int .i64 4, .int .i64 4] 3 (0, 0)) ∧ Below w.heap.size w w' := by
  go_enter Try.func22, Try.ntmps22
  go_wp2_with fail
  go_ret
  exact ⟨rfl, heap_alloc_new w _, below_new w _⟩
set_option maxRecDepth 100000 in
set_option maxHeartbeats 2000000 in
theorem Check_any (ep sl lb : Int) (gn : Bool) (ci : List UInt8) (q1 q2 q3 q4 q5 : Bool) (w : World) (h1 : ins ep 0 4294967295 = q1) (h2 : ins sl 0 4294967295 = q2) (h3 : ins lb 0 4095 = q3) (h4 : ins ((ci.length : Nat) : Int) 0 4000 = q4) (h5 : (ci == []) = q5) :
    Calls Try.prog 12 #[.agg #[.int .i64 ep, .int .i64 sl, .int .i64 lb, .bool gn, .string ⟨ci.toArray⟩]] w fun r w' => r = .returned (.int .i64 (if q1 && q2 && q3 && q4 && (!gn || q5) then 0 else 2)) ∧ Below w.heap.size w w' := by
  obtain ⟨W1, hW1⟩ : ∃ W1, W1 = w.alloc (.cells #[.int .i64 ep, .int .i64 sl, .int .i64 lb, .bool gn, .string ⟨ci.toArray⟩] 23) := ⟨_, rfl⟩
  have SS : Hid (Ws w ep sl lb gn ci W1) := Lib.hid (by rw [hW1]; exact ws_new w ep sl lb gn ci)
  have hz := size_mk ci
  go_enter Try.func12, Try.ntmps12
  go_upto_region 1 with (fail)
  rw [← hW1]
  clear hW1
  have HW1 := Lib.hid (fun W => within 0 4294967295 W)
  have HW2 := Lib.hid (fun W => within 0 4294967295 W)
  have HW3 := Lib.hid (fun W => within 0 4095 W)
  have HW4 := Lib.hid (fun W => within 0 4000 W)
  go_upto_region 3 with (first
    | (go_at_call 29; refine (HW1.out _).mono ?_; rintro r w2 ⟨rfl, hl2, hb2⟩; replace SS := Lib.hid (SS.out.step hb2); have L1 := Lib.hid hl2; clear hl2 hb2 HW1)
    | (go_at_call 29; refine (HW2.out _).mono ?_; rintro r w3 ⟨rfl, hl3, hb3⟩; replace SS := Lib.hid (SS.out.step hb3); replace L1 := Lib.hid (L1.out.step hb3); have L2 := Lib.hid hl3; clear hl3 hb3 HW2)
    | (go_at_call 29; refine (HW3.out _).mono ?_; rintro r w4 ⟨rfl, hl4, hb4⟩; replace SS := Lib.hid (SS.out.step hb4); replace L1 := Lib.hid (L1.out.step hb4); replace L2 := Lib.hid (L2.out.step hb4); have L3 := Lib.hid hl4; clear hl4 hb4 HW3)
    | (go_at_call 29; refine (HW4.out _).mono ?_; rintro r w5 ⟨rfl, hl5, hb5⟩; replace SS := Lib.hid (SS.out.step hb5); replace L1 := Lib.hid (L1.out.step hb5); replace L2 := Lib.hid (L2.out.step hb5); replace L3 := Lib.hid (L3.out.step hb5); have L4 := Lib.hid hl5; clear hl5 hb5 HW4))
  obtain ⟨k0, k1, k2, k3, k4⟩ := SS.out.k.cells
  have HA1 := Lib.hid (asked ep 0 4294967295 _ _ L1.out)
  have HA2 := Lib.hid (asked sl 0 4294967295 _ _ L2.out)
  have HA3 := Lib.hid (asked lb 0 4095 _ _ L3.out)
  have HA4 := Lib.hid (asked ((ci.length : Nat) : Int) 0 4000 _ _ L4.out)
  rw [h1] at HA1
  rw [h2] at HA2
  rw [h3] at HA3
  rw [h4] at HA4
  clear h1 h2 h3 h4 L1 L2 L3 L4
  cases q1
  · go_wp2_with (go_at_call 38; refine HA1.out.mono ?_; rintro r _ ⟨rfl, rfl⟩)
    go_ret
    exact ⟨rfl, SS.out.bel⟩
  · cases q2
    · go_wp2_with (first
        | (go_at_call 38; refine HA1.out.mono ?_; rintro r _ ⟨rfl, rfl⟩; clear HA1)
        | (go_at_call 38; refine HA2.out.mono ?_; rintro r _ ⟨rfl, rfl⟩))
      go_ret
      exact ⟨rfl, SS.out.bel⟩
    · cases q3
      · go_wp2_with (first
          | (go_at_call 38; refine HA1.out.mono ?_; rintro r _ ⟨rfl, rfl⟩; clear HA1)
          | (go_at_call 38; refine HA2.out.mono ?_; rintro r _ ⟨rfl, rfl⟩; clear HA2)
          | (go_at_call 38; refine HA3.out.mono ?_; rintro r _ ⟨rfl, rfl⟩))
        go_ret
        exact ⟨rfl, SS.out.bel⟩
      · cases q4
        · go_wp2_with (first
            | (go_at_call 38; refine HA1.out.mono ?_; rintro r _ ⟨rfl, rfl⟩; clear HA1)
            | (go_at_call 38; refine HA2.out.mono ?_; rintro r _ ⟨rfl, rfl⟩; clear HA2)
            | (go_at_call 38; refine HA3.out.mono ?_; rintro r _ ⟨rfl, rfl⟩; clear HA3)
            | (go_at_call 38; refine HA4.out.mono ?_; rintro r _ ⟨rfl, rfl⟩))
          go_ret
          exact ⟨rfl, SS.out.bel⟩
        · cases gn <;> cases q5
          all_goals
            go_wp2_with (first
              | (go_at_call 38; refine HA1.out.mono ?_; rintro r _ ⟨rfl, rfl⟩; clear HA1)
              | (go_at_call 38; refine HA2.out.mono ?_; rintro r _ ⟨rfl, rfl⟩; clear HA2)
              | (go_at_call 38; refine HA3.out.mono ?_; rintro r _ ⟨rfl, rfl⟩; clear HA3)
              | (go_at_call 38; refine HA4.out.mono ?_; rintro r _ ⟨rfl, rfl⟩))
            go_ret
            exact ⟨rfl, SS.out.bel⟩
theorem may_of (ep sl lb : Int) (gn : Bool) (ci : List UInt8) : (ins ep 0 4294967295 && ins sl 0 4294967295 && ins lb 0 4095 && ins ((ci.length : Nat) : Int) 0 4000 && (!gn || ci == [])) = decide (may ⟨ep, sl, lb, gn, ci⟩) := by
  have e : ins ((ci.length : Nat) : Int) 0 4000 = decide (ci.length ≤ 4000) := by
    unfold ins
    rw [decide_eq_decide]
    omega
  rw [e]
  unfold ins may lim
  simp only [Bool.decide_and]
  cases gn <;> by_cases h : ci = [] <;> simp [h, Bool.and_assoc]
/-- What cell.Check answers. -/
theorem Check (ep sl lb : Int) (gn : Bool) (ci : List UInt8) (w : World) :
    Calls Try.prog 12 #[.agg #[.int .i64 ep, .int .i64 sl, .int .i64 lb, .bool gn, .string ⟨ci.toArray⟩]] w fun r w' => r = .returned (.int .i64 (check ⟨ep, sl, lb, gn, ci⟩)) ∧ Below w.heap.size w w' := by
  have := Check_any ep sl lb gn ci _ _ _ _ _ w rfl rfl rfl rfl rfl
  rw [may_of] at this
  unfold check
  by_cases h : may ⟨ep, sl, lb, gn, ci⟩
  · rw [if_pos h]
    rw [dt h] at this
    exact this
  · rw [if_neg h]
    rw [df h] at this
    exact this
end Go.Proofs.Yteobimhibhfokaa.CelD
