/- ChnW ChnP ChnQ: one behind the other. -/
import Derived.Test.YtkidehngleglnaaDoorMerF
import Derived.Test.YtkidehngleglnaaDoorLChn
import Derived.RangeFuncNested
import Derived.RangeFuncBound
import Derived.RangeFuncCalls
import Derived.RangeFuncLeaves
import Derived.WalkKit
import Derived.OwnWalkIn
import Derived.TacticsInMore
import Derived.LoopNIn
import Derived.LoopIn
import Derived.Shelf.Abstract
import Derived.Shelf.RegionOpen
/- A region that draws its order, outside a round of a range over a function, inside a fence: reads in the text's order, then a forced tail. Over any program; no conditions but those that each lemma names. -/
namespace Go.Proofs.YtkidehngleglnaaDoor.ChnW
open Go.RowKit MerF
variable {P : Program} {ops : Array Oper} {md : Region.Mode} {w : World} {m : Nat}
theorem wpIn_of_still {o : Oper} {a : Act} {K : Act → Prop} {K' : Act → World → Prop} {Q' : Exit → Act → World → Prop} (h : ∀ a, K a → K' a w) (hh : o.still P a w K) : o.wpIn Fence.wide m P a w K' Q' := by
  refine ⟨fun _ _ => trivial, ?_⟩
  rw [show Fence.wide.round = none from rfl, Oper.semAt_none]
  unfold Oper.still at hh
  generalize (execOp a.eval o).run P w = r at *
  cases r with
  | ok n w' =>
    cases n <;> simp only [Oper.stillUpon] at hh <;> simp only [Oper.uponIn]
    case enter f args =>
      obtain ⟨rfl, v, hc, hn⟩ := hh
      refine ⟨fun h => (by cases h), callsIn_wide.2 (hc.mono ?_)⟩
      rintro e w'' ⟨rfl, rfl⟩
      exact h _ hn
    all_goals (obtain ⟨rfl, h2⟩ := hh; exact h _ h2)
  | halt x w' => simp only [Oper.stillUpon] at hh
theorem wpOpIn_of_stOp {i : Nat} {a : Act} {K : Act → Prop} {K' : Act → World → Prop} {Q' : Exit → Act → World → Prop} (h : ∀ a, K a → K' a w) (hh : stOp P ops w i K a) : wpOpIn Fence.wide m P ops Q' i K' a w := by
  unfold stOp at hh
  unfold wpOpIn
  split
  · rename_i ho; simp only [ho] at hh; exact h _ hh
  · rename_i o ho
    simp only [ho] at hh
    split
    · rename_i hw; simp only [hw, if_true] at hh; exact wpIn_of_still h hh
    · rename_i hw; simp only [hw] at hh; exact ⟨fun _ _ => trivial, h _ hh⟩
theorem wpAnyIn_of_head {n g : Nat} {L : Array Bool → Act → Prop} {Q' : Exit → Act → World → Prop} (hL : ∀ listed a, L listed a → wpAnyIn Fence.wide m P md ops Q' g listed a w) :
    ∀ (f : Nat) (listed : Array Bool) (a : Act), wpAnyL P md ops w n L f listed a → wpAnyIn Fence.wide m P md ops Q' (f + g) listed a w
  | 0, listed, a, h => by rw [Nat.zero_add]; exact hL _ _ h
  | f + 1, listed, a, h => by
    rw [show f + 1 + g = (f + g) + 1 by omega]
    exact ⟨fun h0 => absurd h0 h.1, fun i hi => wpOpIn_of_stOp (fun a' h' => wpAnyIn_of_head hL f _ a' h') (h.2 i hi).2⟩
/-- Reads, then a forced tail. -/
theorem still_tail {id : Nat} {Q : Exit → Act → World → Prop} {a : Act} {w : World} {l : List Oper} (n : Nat) (hm : P.follows .mixedOrders = true) (hB : Region.lexTailB .any l.toArray n = true)
    (h : wpStill P l.toArray w.drew (fun a' => wpListIn Fence.wide m P l.toArray Q (l.drop n) a' w.drew) (l.take n) a) : (Code.region id l.toArray true).wpIn Fence.wide m P Q a w := by
  simp only [Region.lexTailB, Bool.and_eq_true, decide_eq_true_eq] at hB
  obtain ⟨⟨⟨⟨hsel, hn⟩, hs⟩, hc⟩, hlex⟩ := hB
  have hn' : n < l.length := by simpa using hn
  have htl : (l.take n).length = n := by simp; omega
  have hdl : (l.drop n).length = l.toArray.size - n := by simp
  have inv0 : HeadInv .any l.toArray n (Array.replicate l.toArray.size false) :=
    ⟨by simp, fun j oj _ hl => (by rw [getD_replicate_false] at hl; cases hl), fun t _ ht => getD_in (by simpa using ht) (getD_replicate_false _ _)⟩
  have H := wpAnyL_lex (md := .any) (g := l.toArray.size - n) hsel hs hc hn (l.take n) 0 _ a (fun j hj => by
    have hj' : j < n := by rw [htl] at hj; exact hj
    simp [hj']) (by simpa using htl) inv0 (by rw [htl]; exact hlex) h
  refine wpIn_region_any hm ?_
  have := wpAnyIn_of_head (m := m) (Q' := Q) (g := l.toArray.size - n) (fun listed a' hL => by
    have := wpAnyIn_of_seq (m := m) (F := Fence.wide) (md := .any) (Q' := Q) (l.drop n) n listed a' w.drew (fun j => by simp [List.getElem?_drop]) (by rw [hdl]; exact hL.1) hL.2
    rwa [hdl] at this) _ _ _ H
  rw [htl, show n + (l.toArray.size - n) = l.toArray.size by omega] at this
  exact this
/-- What is not wanted. -/
theorem skip {o : Oper} {rest : List Oper} {a : Act} {Q : Exit → Act → World → Prop} (h : Region.wanted o (yielded ops a.tmps) = false) (hk : wpListIn Fence.wide m P ops Q rest (a.put o.dst undef) w) : wpListIn Fence.wide m P ops Q (o :: rest) a w := by
  unfold wpListIn
  rw [h]
  exact ⟨fun _ _ => trivial, hk⟩
end Go.Proofs.YtkidehngleglnaaDoor.ChnW
/- chain.apart, chain.parting: the first place at which two rows are not the same, told by a range over a function: the walks of their texts. No conditions but those that each lemma names. -/
namespace Go.Proofs.YtkidehngleglnaaDoor.ChnP
set_option linter.unusedVariables false
open Go.RowKit
open RecN RecC ChnN ChnM ChnC ChnD
attribute [local go_sem] Oper.semAt_some
def encs (x : Nat) : Array Value := #[.int .i64 (x : Int)]
/-- What is told of all that has come, of a part. -/
def All (M T : List Sd) (ys : List Nat) : Prop := ys = [] → ChnM.partAt M T 0 = none
def Part (M T : List Sd) (pre : List Nat) : Prop := ∀ x, pre = [x] → ChnM.partAt M T 0 = some x
/-- Two rows, and the boxes that they lie in, below n₀. -/
structure Two (n₀ Bt Bm : Nat) (a : Option Addr) (cm : Nat) (M : List Sd) (b : Option Addr) (ct : Nat) (T : List Sd) (W : World) : Prop where
  bt : W.cell? ⟨Bt, 0, none⟩ = some (.slice b T.length ct)
  bm : W.cell? ⟨Bm, 0, none⟩ = some (.slice a M.length cm)
  lt : Bt < n₀ ∧ Bm < n₀
  m : ∀ i (h : i < M.length), ∃ g o, a = some ⟨g, o, none⟩ ∧ g < n₀ ∧ At9 W g (o + i * 9) M[i]
  t : ∀ i (h : i < T.length), ∃ g o, b = some ⟨g, o, none⟩ ∧ g < n₀ ∧ At9 W g (o + i * 9) T[i]
theorem Two.below {n₀ Bt Bm : Nat} {a : Option Addr} {cm : Nat} {M : List Sd} {b : Option Addr} {ct : Nat} {T : List Sd} {W W' : World} (h : Two n₀ Bt Bm a cm M b ct T W) (hb : Below n₀ W W') : Two n₀ Bt Bm a cm M b ct T W' :=
  ⟨(hb.cell (p := ⟨Bt, 0, none⟩) h.lt.1).trans h.bt, (hb.cell (p := ⟨Bm, 0, none⟩) h.lt.2).trans h.bm, h.lt,
   fun i hi => by obtain ⟨g, o, e, hg, hc⟩ := h.m i hi; exact ⟨g, o, e, hg, hc.step hg hb⟩,
   fun i hi => by obtain ⟨g, o, e, hg, hc⟩ := h.t i hi; exact ⟨g, o, e, hg, hc.step hg hb⟩⟩
theorem grown_none {w w' : World} (hb : Below w.heap.size w w') : w.grownBy w' none := ⟨hb.os, hb.tape, hb.output, hb.size, fun k hk _ => hb.block k hk⟩
set_option maxRecDepth 100000 in
set_option maxHeartbeats 4000000 in
theorem apart1_in (n : Nat) (hn : 1 ≤ n) (l Bt Bm n₀ : Nat) (a : Option Addr) (cm : Nat) (M : List Sd) (b : Option Addr) (ct : Nat) (T : List Sd) (hMl : M.length ≤ maxLen) (hTl : T.length ≤ maxLen) (J Jx : List Nat → World → Prop)
    (hJ : ∀ pre W W', J pre W → W.grownBy W' none → J pre W')
    (hY : ∀ pre x W, J pre W → pre.length < T.length → YieldAt Fence.wide (n - 1) Tryd.prog l (encs x) W fun e W' =>
      (e = .returned (.bool true) ∧ J (pre ++ [x]) W' ∧ Below n₀ W W') ∨ (e = .returned (.bool false) ∧ Jx (pre ++ [x]) W'))
    (W : World) (h2 : Two n₀ Bt Bm a cm M b ct T W) (hn0 : n₀ ≤ W.heap.size) (h0 : J [] W) :
    CallsIn Fence.wide n Tryd.prog 49 #[.func (.yield l) #[] #[], .pointer (some ⟨Bt, 0, none⟩), .pointer (some ⟨Bm, 0, none⟩)] W fun e W' => (∃ v, e = .returned v) ∧
      ((∃ ys, All M T ys ∧ J ys W') ∨ (∃ pre, Part M T pre ∧ Jx pre W')) := by
  obtain ⟨N, hN⟩ : ∃ N, T.length = N := ⟨_, rfl⟩
  have H2 := Lib.hid h2
  have c0 := h2.bt
  rw [hN] at c0 hTl
  have HN := Lib.hid hN
  have HJ := Lib.hid hJ
  have HMl := Lib.hid hMl
  unfold maxLen at hTl
  clear hN h2 hJ hMl
  refine callsIn_of_wp Tryd.func49 rfl trivial ?_ rfl
  simp only [Tryd.ntmps49, List.size_toArray, List.length_cons, List.length_nil, Nat.reduceAdd, Nat.reduceSub, Array.replicate_succ, Array.replicate_zero, List.push_toArray, List.append_toArray, List.nil_append, List.cons_append]
  gi_wp2
  clear c0
  gi_loopw [8] (fun i wr => ∃ (k : Nat) (pre : List Nat), k ≤ N ∧ i = .int .i64 (k : Int) ∧ pre.length ≤ k ∧ (pre = [] → ChnM.partAt (M.drop k) (T.drop k) k = ChnM.partAt M T 0) ∧ J pre wr ∧ Below n₀ W wr)
    (fun i _ => N - (intOf i).toNat)
  case atStart => exact ⟨0, [], Nat.zero_le _, rfl, Nat.le_refl _, fun _ => rfl, h0, Below.refl _ _⟩
  case round =>
    obtain ⟨k, pre, hk, rfl, hpl, hpa, hJs, hbw⟩ := hrel
    have HJs := Lib.hid hJs
    have HB := Lib.hid hbw
    have HPa := Lib.hid hpa
    clear hJs hbw hpa
    by_cases hlt : k < N
    · have hkT : k < T.length := by rw [HN.out]; exact hlt
      have HS := Lib.hid (part_step (m := M) hkT)
      have H2w := Lib.hid (H2.out.below HB.out)
      obtain ⟨g, o, rfl, hg, q0, q1, q2, q3, q4, q5, q6, q7, q8⟩ := H2w.out.t k hkT
      generalize T[k] = s at *
      have p0 : (0 : Int) ≤ (k : Int) := by omega
      have p1 : (k : Int) < (N : Int) := by omega
      gi_wp2
      have HJ4 := Lib.hid (HJ.out pre wr _ HJs.out (grown_none ((Below.refl _ wr).alloc (Nat.le_refl _) (.cells #[.int .i64 s.1.k, .int .i64 s.1.ep, .int .i64 s.1.tm, .int .i64 s.1.ct, .int .i64 s.1.tg, .int .i64 s.1.un, .string ⟨s.1.rt.toArray⟩, .string ⟨s.1.nm.toArray⟩, .string ⟨s.2.toArray⟩] 45)).drew))
      have HB4 := Lib.hid (HB.out.trans (((Below.refl n₀ wr).alloc (Nat.le_trans hn0 HB.out.size) (.cells #[.int .i64 s.1.k, .int .i64 s.1.ep, .int .i64 s.1.tm, .int .i64 s.1.ct, .int .i64 s.1.tg, .int .i64 s.1.un, .string ⟨s.1.rt.toArray⟩, .string ⟨s.1.nm.toArray⟩, .string ⟨s.2.toArray⟩] 45)).drew))
      have HK4 : Hid (Bs (wr.alloc (.cells #[.int .i64 s.1.k, .int .i64 s.1.ep, .int .i64 s.1.tm, .int .i64 s.1.ct, .int .i64 s.1.tg, .int .i64 s.1.un, .string ⟨s.1.rt.toArray⟩, .string ⟨s.1.nm.toArray⟩, .string ⟨s.2.toArray⟩] 45)).drew wr.heap.size s) := Lib.hid (heap_alloc_new wr _)
      have H24 := Lib.hid (H2.out.below HB4.out)
      refine ChnW.still_tail 15 (by kernel_rfl) (by kernel_rfl) ?_
      obtain ⟨WD, hWD⟩ : ∃ WD, (wr.alloc (.cells #[.int .i64 s.1.k, .int .i64 s.1.ep, .int .i64 s.1.tm, .int .i64 s.1.ct, .int .i64 s.1.tg, .int .i64 s.1.un, .string ⟨s.1.rt.toArray⟩, .string ⟨s.1.nm.toArray⟩, .string ⟨s.2.toArray⟩] 45)).drew = WD := ⟨_, rfl⟩
      rw [hWD] at HJ4 HB4 HK4 H24 ⊢
      clear hWD q0 q1 q2 q3 q4 q5 q6 q7 q8
      have c1 := H24.out.bm
      obtain ⟨fn, tmps, assign, body, hy, hR⟩ := hY pre k WD HJ4.out (by omega)
      simp only [encs] at hy
      by_cases hkM : k < M.length
      · obtain ⟨g1, o1, rfl, hg1, r0, r1, r2, r3, r4, r5, r6, r7, r8⟩ := H24.out.m k hkM
        obtain ⟨z0, z1, z2, z3, z4, z5, z6, z7, z8⟩ := HK4.out.cells
        have HMk : Hid (M[k]? = some M[k]) := Lib.hid (List.getElem?_eq_getElem hkM)
        generalize M[k] = x at *
        have p2 : ¬ (M.length : Int) ≤ (k : Int) := by omega
        have p3 : (k : Int) < (M.length : Int) := by omega
        rw [HMk.out] at HS
        by_cases hx : x = s
        · have hq := run_neq_sd x s true (dt hx)
          have hS := HS.out
          rw [if_pos (by rw [hx])] at hS
          have HS2 := Lib.hid hS
          clear hx hS HS HMk hy hR
          generalize M.length = nm at *
          simp only [List.take_succ_cons, List.take_zero, List.drop_succ_cons, List.drop_zero]
          repeat still_step
          refine wpStill_nil ?_
          refine ChnW.skip (by rfl) ?_
          refine ChnW.skip (by rfl) ?_
          gi_wp2
          go_roundw
          case rel => exact ⟨k + 1, pre, by omega, by go_num, by omega, fun e => by rw [← HS2.out]; exact HPa.out e, HJ4.out, HB4.out⟩
          case measure => simp [intOf]; omega
        · have hq := run_neq_sd x s false (df hx)
          have hS := HS.out
          rw [if_neg (fun e => hx (Option.some.inj e))] at hS
          have HS2 := Lib.hid hS
          clear hx hS HS HMk
          generalize M.length = nm at *
          simp only [List.take_succ_cons, List.take_zero, List.drop_succ_cons, List.drop_zero]
          repeat still_step
          refine wpStill_nil ?_
          gi_wp2
          refine hR.mono ?_
          rintro e W3 (⟨rfl, hJ3, hk3⟩ | ⟨rfl, hJx3⟩)
          · gi_wp2
            go_roundw
            case rel => exact ⟨k + 1, pre ++ [k], by omega, by go_num, by simp; omega, fun e => absurd e (by simp), hJ3, HB4.out.trans hk3⟩
            case measure => simp [intOf]; omega
          · gi_wp2
            refine bodyPost_ret (results_none rfl _ _ _) rfl ?_
            refine ⟨⟨_, rfl⟩, .inr ⟨pre ++ [k], fun y e => ?_, hJx3⟩⟩
            obtain rfl : pre = [] := by
              have := congrArg List.length e
              simp at this
              exact this
            obtain rfl : k = y := by simpa using e
            rw [← HPa.out rfl, HS2.out]
      · have hS := HS.out
        rw [List.getElem?_eq_none (by omega), if_neg (by simp)] at hS
        have HS2 := Lib.hid hS
        have p2 : (M.length : Int) ≤ (k : Int) := by omega
        clear hS HS
        generalize M.length = nm at *
        simp only [List.take_succ_cons, List.take_zero, List.drop_succ_cons, List.drop_zero]
        repeat still_step
        refine wpStill_nil ?_
        gi_wp2
        refine hR.mono ?_
        rintro e W3 (⟨rfl, hJ3, hk3⟩ | ⟨rfl, hJx3⟩)
        · gi_wp2
          go_roundw
          case rel => exact ⟨k + 1, pre ++ [k], by omega, by go_num, by simp; omega, fun e => absurd e (by simp), hJ3, HB4.out.trans hk3⟩
          case measure => simp [intOf]; omega
        · gi_wp2
          refine bodyPost_ret (results_none rfl _ _ _) rfl ?_
          refine ⟨⟨_, rfl⟩, .inr ⟨pre ++ [k], fun y e => ?_, hJx3⟩⟩
          obtain rfl : pre = [] := by
            have := congrArg List.length e
            simp at this
            exact this
          obtain rfl : k = y := by simpa using e
          rw [← HPa.out rfl, HS2.out]
    · obtain rfl : k = N := by omega
      have pk : ¬ (k : Int) < (k : Int) := by omega
      gi_wp2
      go_end0
      refine ⟨⟨_, rfl⟩, .inl ⟨pre, fun e => ?_, HJs.out⟩⟩
      have e2 : T.drop k = [] := List.drop_of_length_le (by rw [HN.out]; exact Nat.le_refl _)
      rw [← HPa.out e, e2, part_end]
theorem apart_stops (n : Nat) (hn : 1 ≤ n) (Bt Bm n₀ : Nat) (a : Option Addr) (cm : Nat) (M : List Sd) (b : Option Addr) (ct : Nat) (T : List Sd) (hMl : M.length ≤ maxLen) (hTl : T.length ≤ maxLen) (w : World) (h2 : Two n₀ Bt Bm a cm M b ct T w) (hn₀ : n₀ ≤ w.heap.size) :
    SeqStopsK Fence.wide n Tryd.prog 49 #[.pointer (some ⟨Bt, 0, none⟩), .pointer (some ⟨Bm, 0, none⟩)] encs (Below n₀) (All M T) (Part M T) T.length w := fun l J Jx W hW hJ _ hY h0 =>
  apart1_in n hn l Bt Bm n₀ a cm M b ct T hMl hTl J Jx (fun pre A B h g => hJ pre A B none h g (fun r e => by cases e)) hY W (h2.below (hW.mono hn₀)) (Nat.le_trans hn₀ hW.size) h0
set_option maxHeartbeats 1000000 in
theorem apart_in (n : Nat) (a : Option Addr) (nm cm : Nat) (b : Option Addr) (nt ct : Nat) (w : World) :
    CallsIn Fence.wide n Tryd.prog 36 #[.slice a nm cm, .slice b nt ct] w fun e w' => e = .returned (.func (.func 49) #[] #[.pointer (some ⟨w.heap.size + 1, 0, none⟩), .pointer (some ⟨w.heap.size, 0, none⟩)]) ∧ w' = (w.alloc (.cells #[.slice a nm cm] 22)).alloc (.cells #[.slice b nt ct] 22) := by
  refine callsIn_of_wp Tryd.func36 rfl trivial ?_ rfl
  simp only [Tryd.ntmps36, List.size_toArray, List.length_cons, List.length_nil, Nat.reduceAdd, Nat.reduceSub, Array.replicate_succ, Array.replicate_zero, List.push_toArray, List.append_toArray, List.nil_append, List.cons_append]
  gi_wp2
  go_ret
  exact ⟨rfl, rfl⟩
end Go.Proofs.YtkidehngleglnaaDoor.ChnP
/- chain.parting: the walk of its text. No conditions but those that each lemma names. -/
namespace Go.Proofs.YtkidehngleglnaaDoor.ChnQ
set_option linter.unusedVariables false
open Go.RowKit Go.Shelf
open RecN RecC ChnN ChnM ChnC ChnD ChnP
attribute [local go_sem] Oper.semAt_some
def parR (M T : List Sd) : Int × Bool := match ChnM.partAt M T 0 with | none => (0, false) | some k => ((k : Int), true)
theorem par_none {M T : List Sd} (h : ChnM.partAt M T 0 = none) : parR M T = (0, false) := by rw [parR, h]
theorem par_some {M T : List Sd} {k : Nat} (h : ChnM.partAt M T 0 = some k) : parR M T = ((k : Int), true) := by rw [parR, h]
/-- Four blocks laid behind each other. -/
structure Four (w : World) (A B C D : Obj) (W : World) : Prop where
  x0 : W.heap[w.heap.size]? = some A
  x1 : W.heap[w.heap.size + 1]? = some B
  x2 : W.heap[w.heap.size + 1 + 1]? = some C
  x3 : W.heap[w.heap.size + 1 + 1 + 1]? = some D
  bel : Below w.heap.size w W
  sz : W.heap.size = w.heap.size + 4
theorem four (w : World) (A B C D : Obj) : Four w A B C D ((((w.alloc A).alloc B).alloc C).alloc D) := by
  have hs : (((w.alloc A).alloc B).alloc C).heap.size = w.heap.size + 1 + 1 + 1 := by simp
  refine ⟨?_, ?_, ?_, ?_, (below_alloc3 w A B C).alloc (by omega) D, by simp⟩
  · exact (Below.heap_alloc _ D _ (by omega)).trans (alloc3_0 w A B C)
  · exact (Below.heap_alloc _ D _ (by omega)).trans (alloc3_1 w A B C)
  · exact (Below.heap_alloc _ D _ (by omega)).trans (alloc3_2 w A B C)
  · rw [← hs]; exact heap_alloc_new _ D
set_option maxRecDepth 100000 in
set_option maxHeartbeats 4000000 in
/-- THE CONTRACT of parting. -/
theorem parting (a : Option Addr) (cm : Nat) (M : List Sd) (b : Option Addr) (ct : Nat) (T : List Sd) (w : World) (hM : Lies w a (ss M)) (hT : Lies w b (ss T)) (hMl : M.length ≤ maxLen) (hTl : T.length ≤ maxLen) :
    Calls Tryd.prog 21 #[.slice a M.length cm, .slice b T.length ct] w fun e w' => e = .returned (.tuple #[.int .i64 (parR M T).1, .bool (parR M T).2]) ∧ Below w.heap.size w w' := by
  refine (callsIn_wide (n := 6)).1 ?_
  refine callsIn_of_wp_marks Tryd.func21 rfl trivial ?_ rfl
  simp only [Tryd.ntmps21, List.size_toArray, List.length_cons, List.length_nil, Nat.reduceAdd, Nat.reduceSub, Array.replicate_succ, Array.replicate_zero, List.push_toArray, List.append_toArray, List.nil_append, List.cons_append]
  gi_wp2_with (refine ⟨trivial, ?_⟩; gi_at_call 36; refine (apart_in _ _ _ _ _ _ _ _).mono ?_; rintro e w' ⟨rfl, rfl⟩)
  have HF := four w (.cells #[.int .i64 0] 3) (.cells #[.bool false] 4) (.cells #[.slice a M.length cm] 22) (.cells #[.slice b T.length ct] 22)
  obtain ⟨W0, hW0⟩ : ∃ W0, (((w.alloc (.cells #[.int .i64 0] 3)).alloc (.cells #[.bool false] 4)).alloc (.cells #[.slice a M.length cm] 22)).alloc (.cells #[.slice b T.length ct] 22) = W0 := ⟨_, rfl⟩
  rw [hW0] at HF ⊢
  clear hW0
  obtain ⟨x0, x1, x2, x3, hB0, hsz⟩ := HF
  have h2 : Two W0.heap.size (w.heap.size + 1 + 1 + 1) (w.heap.size + 1 + 1) a cm M b ct T W0 := by
    refine ⟨blk_cell x3 rfl, blk_cell x2 rfl, ⟨by omega, by omega⟩, fun i hi => ?_, fun i hi => ?_⟩
    · obtain ⟨g, o, e, hg, hc⟩ := hM.at9 (by omega)
      exact ⟨g, o, e, by omega, (hc i hi).step hg hB0⟩
    · obtain ⟨g, o, e, hg, hc⟩ := hT.at9 (by omega)
      exact ⟨g, o, e, by omega, (hc i hi).step hg hB0⟩
  refine wpIn_rangeFunc_ownH rfl (by omega) (gf := 49) (lb := #[.pointer (some ⟨w.heap.size + 1 + 1 + 1, 0, none⟩), .pointer (some ⟨w.heap.size + 1 + 1, 0, none⟩)]) rfl trivial (enters_of Tryd.func49 (by kernel_rfl) rfl)
    (apart_stops _ (by omega) (w.heap.size + 1 + 1 + 1) (w.heap.size + 1 + 1) W0.heap.size a cm M b ct T hMl hTl W0 h2 (Nat.le_refl _)) belowK_t (belowK_b (Nat.le_refl _)) (Below.refl _ _) (fun _ => rfl)
    (fun pre W => pre = [] ∧ Below W0.heap.size W0 W)
    (fun c pre W => (c = .ret ∧ ∃ x : Nat, pre = [x] ∧ W.cell? ⟨w.heap.size, 0, none⟩ = some (.int .i64 (x : Int)) ∧ W.cell? ⟨w.heap.size + 1, 0, none⟩ = some (.bool true)) ∧ Below w.heap.size w W)
    (OwnFrom.and (ownFrom_pure _ _) (ownFrom_below (Nat.le_refl _) (Nat.le_refl _)))
    (fun c => OwnFrom.and (Own.from (fun s A B row hs hg hr => by obtain ⟨e, x, h1, h2, h3⟩ := hs; exact ⟨e, x, h1, cell_kept h2 hg hr, cell_kept h3 hg hr⟩) _) (ownFrom_below (Nat.le_refl _) (by omega)))
    ⟨rfl, Below.refl _ _⟩
    (fun x a' W => a' = { tmps := #[.slice a M.length cm, .slice b T.length ct, undef, undef, .pointer (some ⟨w.heap.size, 0, none⟩), .pointer (some ⟨w.heap.size + 1, 0, none⟩), .int .i64 (x : Int), .slice a M.length cm, .slice b T.length ct, .func (.func 49) #[] #[.pointer (some ⟨w.heap.size + 1 + 1 + 1, 0, none⟩), .pointer (some ⟨w.heap.size + 1 + 1, 0, none⟩)], .int .i64 (x : Int), undef], defers := [] })
    (fun x a' => fun s X Y row hs hg hr => hs) ?assign ?body ?done ?stop
  case assign =>
    rintro l pre x W K ⟨hp, hB⟩ hK
    simp only [encs]
    gi_wp2
    exact hK _ _ (KeepsFrom.refl _ _) (Below.refl _ _) ⟨hp, hB⟩ rfl
  case body =>
    rintro l pre x a' W hl ⟨r, hr⟩ ⟨hp, hB⟩ rfl hlt'
    have z0 : W.cell? ⟨w.heap.size, 0, none⟩ = some (.int .i64 0) := (hB.cell (p := ⟨w.heap.size, 0, none⟩) (by simp; omega)).trans (blk_cell x0 rfl)
    have z1 : W.cell? ⟨w.heap.size + 1, 0, none⟩ = some (.bool false) := (hB.cell (p := ⟨w.heap.size + 1, 0, none⟩) (by simp; omega)).trans (blk_cell x1 rfl)
    have f0 : W.frozen? ⟨w.heap.size, 0, none⟩ = false := (hB.frozen (p := ⟨w.heap.size, 0, none⟩) (by simp; omega)).trans (blk_free x0)
    have f1 : W.frozen? ⟨w.heap.size + 1, 0, none⟩ = false := (hB.frozen (p := ⟨w.heap.size + 1, 0, none⟩) (by simp; omega)).trans (blk_free x1)
    have HBw := Lib.hid (hB0.trans (hB.mono (by omega)))
    have HC0 : Hid (((W.setCell ⟨w.heap.size, 0, none⟩ (.int .i64 (x : Int))).setCell ⟨w.heap.size + 1, 0, none⟩ (.bool true)).cell? ⟨w.heap.size, 0, none⟩ = some (.int .i64 (x : Int))) := Lib.hid ((World.cell?_setCell_other _ _ _ _ (by intro e; injection e with e; omega)).trans (World.cell?_setCell_same' _ _ _ (by rw [z0]; rfl)))
    have HC1 : Hid (((W.setCell ⟨w.heap.size, 0, none⟩ (.int .i64 (x : Int))).setCell ⟨w.heap.size + 1, 0, none⟩ (.bool true)).cell? ⟨w.heap.size + 1, 0, none⟩ = some (.bool true)) := Lib.hid (World.cell?_setCell_same' _ _ _ (by rw [World.cell?_setCell_other _ _ _ _ (by intro e; injection e with e; omega), z1]; rfl))
    gi_wp2
    exact ⟨((KeepsOthers.setCell _ _ _).trans (KeepsOthers.setCell _ _ _)).from _, ⟨rfl, x, by rw [hp]; rfl, HC0.out, HC1.out⟩, (HBw.out.setCell (p := ⟨w.heap.size, 0, none⟩) (Nat.le_refl _) _).setCell (p := ⟨w.heap.size + 1, 0, none⟩) (Nat.le_succ _) _⟩
  case done =>
    rintro Dd ys W hD hys ⟨hp, hB⟩ hK
    have HPn := Lib.hid (par_none (hys hp))
    have z0 : W.cell? ⟨w.heap.size, 0, none⟩ = some (.int .i64 0) := (hB.cell (p := ⟨w.heap.size, 0, none⟩) (by simp; omega)).trans (blk_cell x0 rfl)
    have z1 : W.cell? ⟨w.heap.size + 1, 0, none⟩ = some (.bool false) := (hB.cell (p := ⟨w.heap.size + 1, 0, none⟩) (by simp; omega)).trans (blk_cell x1 rfl)
    have f0 : W.frozen? ⟨w.heap.size, 0, none⟩ = false := (hB.frozen (p := ⟨w.heap.size, 0, none⟩) (by simp; omega)).trans (blk_free x0)
    have f1 : W.frozen? ⟨w.heap.size + 1, 0, none⟩ = false := (hB.frozen (p := ⟨w.heap.size + 1, 0, none⟩) (by simp; omega)).trans (blk_free x1)
    have HBw := Lib.hid (hB0.trans (hB.mono (by omega)))
    have HC0 : Hid (((W.setCell ⟨w.heap.size, 0, none⟩ (.int .i64 0)).setCell ⟨w.heap.size + 1, 0, none⟩ (.bool false)).cell? ⟨w.heap.size, 0, none⟩ = some (.int .i64 0)) := Lib.hid ((World.cell?_setCell_other _ _ _ _ (by intro e; injection e with e; omega)).trans (World.cell?_setCell_same' _ _ _ (by rw [z0]; rfl)))
    have HC1 : Hid (((W.setCell ⟨w.heap.size, 0, none⟩ (.int .i64 0)).setCell ⟨w.heap.size + 1, 0, none⟩ (.bool false)).cell? ⟨w.heap.size + 1, 0, none⟩ = some (.bool false)) := Lib.hid (World.cell?_setCell_same' _ _ _ (by rw [World.cell?_setCell_other _ _ _ _ (by intro e; injection e with e; omega), z1]; rfl))
    have HKd : Hid (((W.setCell ⟨w.heap.size, 0, none⟩ (.int .i64 0)).setCell ⟨w.heap.size + 1, 0, none⟩ (.bool false)).heap[Dd]? = some (.deferred (some []))) := Lib.hid (((KeepsOthers.setCell _ _ _).trans (KeepsOthers.setCell _ _ _)).same Dd _ hK rfl)
    have HBX : Hid (Below w.heap.size w ((W.setCell ⟨w.heap.size, 0, none⟩ (.int .i64 0)).setCell ⟨w.heap.size + 1, 0, none⟩ (.bool false))) := Lib.hid ((HBw.out.setCell (p := ⟨w.heap.size, 0, none⟩) (Nat.le_refl _) _).setCell (p := ⟨w.heap.size + 1, 0, none⟩) (Nat.le_succ _) _)
    gi_wp2
    refine ⟨by simp, .inl ⟨_, _, rfl, run_takeDeferred HKd.out, ?_⟩⟩
    have d0 := cell_kept HC0.out (grownBy_putObj' _ Dd (.deferred none)) (fun r e => by cases e; exact ⟨_, HKd.out, rfl⟩)
    have d1 := cell_kept HC1.out (grownBy_putObj' _ Dd (.deferred none)) (fun r e => by cases e; exact ⟨_, HKd.out, rfl⟩)
    refine ⟨.tuple #[.int .i64 0, .bool false], ?_, by rw [HPn.out], HBX.out.trans (belowK_b (w := w) (Nat.le_refl _) _ Dd _ _ (by omega) HKd.out rfl rfl)⟩
    simp [results, Tryd.f21, go_sem, d0, d1]
  case stop =>
    rintro Dd c' pre W hD hpre ⟨⟨rfl, x, rfl, hc0, hc1⟩, hB⟩ hK
    have HPs := Lib.hid (par_some (hpre x rfl))
    gi_wp2
    refine ⟨by simp, .inl ⟨_, _, rfl, run_takeDeferred hK, ?_⟩⟩
    have d0 := cell_kept hc0 (grownBy_putObj' _ Dd (.deferred none)) (fun r e => by cases e; exact ⟨_, hK, rfl⟩)
    have d1 := cell_kept hc1 (grownBy_putObj' _ Dd (.deferred none)) (fun r e => by cases e; exact ⟨_, hK, rfl⟩)
    refine ⟨.tuple #[.int .i64 (x : Int), .bool true], ?_, by rw [HPs.out], hB.trans (belowK_b (w := w) (Nat.le_refl _) W Dd _ _ (by omega) hK rfl rfl)⟩
    simp [results, Tryd.f21, go_sem, d0, d1]
end Go.Proofs.YtkidehngleglnaaDoor.ChnQ
