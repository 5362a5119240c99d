/- The program's fromBehind, which hands over the versions from the last one on, as an iterator: the walk of its text. No conditions but those that each lemma names. -/
import Derived.RangeFuncNested
import Derived.RangeFuncBound
import Derived.RangeFuncCalls
import Derived.RangeFuncLeaves
import Derived.Shelf.Abstract
import Derived.Shelf.RegionOpen
import Derived.WalkKit
import Derived.OwnWalkIn
import Derived.TacticsInMore
import Derived.LoopNIn
import Derived.LoopIn
import Derived.Test.YtopnodkdpehdoaaGreatDoorLPgc
import Derived.Test.YtopnodkdpehdoaaGreatDoorLMer
namespace Go.Proofs.YtopnodkdpehdoaaGreatDoor.PgI
set_option linter.unusedVariables false
open Go.RowKit Go.Shelf
open RecN RecC RetN RetC RetR DbN DbA MdN MdO MdC MdG PgN PgC
attribute [local go_sem] Oper.semAt_some
/-- What is handed over. -/
def encs (v : V) : Array Value := #[.agg #[.int .i64 v.lb, .int .i64 v.ep, .string ⟨v.da.toArray⟩]]
/-- What a round may not turn: the model's block and its row. -/
def RO (A : Pm) (b : Nat) : Prop := b = A.y ∨ blk A.av = some b
/-- The row of versions as it is read. -/
structure Vr (A : Pm) (vs : List V) (W : World) : Prop where
  few : vs.length ≤ 1020
  c6 : W.cell? ⟨A.y, 6, none⟩ = some (.slice A.av vs.length A.cv)
  at_ : ∀ i (hi : i < vs.length), ∃ g o, A.av = some ⟨g, o, none⟩ ∧ At3 W g (o + i * 3) vs[i]
theorem Vr.kept {A : Pm} {vs : List V} {W W' : World} (h : Vr A vs W) (hk : MerG.Kept (RO A) W W') : Vr A vs W' := by
  refine ⟨h.few, hk.cell h.c6 (.inl rfl), fun i hi => ?_⟩
  obtain ⟨g, o, e, h0, h1, h2⟩ := h.at_ i hi
  have hg : RO A g := .inr (by rw [e]; rfl)
  exact ⟨g, o, e, hk.cell h0 hg, hk.cell h1 hg, hk.cell h2 hg⟩
theorem vr_of {base : Nat} {A : Pm} {m : Mo} {W : World} (h : Pg base A m W) : Vr A m.vs W := by
  refine ⟨h.ok.lens.2, h.cells.2.2.2.2.2.2, fun i hi => ?_⟩
  obtain ⟨g, o, e, _, hc⟩ := at3 h.vl (by omega)
  exact ⟨g, o, e, hc i hi⟩
theorem take_back (vs : List V) (k : Nat) (h : k < vs.length) : vs.reverse.take (vs.length - k) = vs.reverse.take (vs.length - (k + 1)) ++ [vs[k]] := by
  have hl : vs.length - (k + 1) < vs.reverse.length := by rw [List.length_reverse]; omega
  rw [show vs.length - k = vs.length - (k + 1) + 1 by omega, List.take_succ_eq_append_getElem hl, List.getElem_reverse]
  have e : vs.length - 1 - (vs.length - (k + 1)) = k := by omega
  simp only [e]
set_option maxRecDepth 100000 in
set_option maxHeartbeats 2000000 in
theorem behind_in (n : Nat) (hn : 1 ≤ n) (A : Pm) (vs : List V) (w : World) (hv : Vr A vs w) :
    MerM2.SeqM false Fence.wide n Tryz.prog 64 #[.pointer (some ⟨A.y, 0, none⟩)] #[] encs (fun _ pre x _ => pre ++ [x] <+: vs.reverse) (fun ys => ys = vs.reverse) (fun pre => pre <+: vs.reverse) (RO A) w := by
  intro l J Jx W hW hJa hJxa hY h0
  obtain ⟨N, hN⟩ : ∃ N, vs.length = N := ⟨_, rfl⟩
  have HN := Lib.hid hN
  have HV := Lib.hid (hv.kept hW)
  have c6 := (hv.kept hW).c6
  have hfew := hv.few
  rw [hN] at c6 hfew
  clear hN hv hW hJa hJxa
  refine callsIn_of_wp Tryz.func64 rfl trivial ?_ rfl
  simp only [Tryz.ntmps64, List.size_toArray, List.length_cons, List.length_nil, Nat.reduceAdd, Nat.reduceSub, Array.replicate_succ, Array.replicate_zero, List.push_toArray, List.append_toArray, List.nil_append, List.cons_append, Array.append_empty]
  gi_wp2
  gi_loopw [4] (fun i wr => ∃ k : Nat, k ≤ N ∧ i = .int .i64 ((k : Int) - 1) ∧ J MerG.Non (vs.reverse.take (N - k)) wr ∧ MerG.Kept (RO A) W wr)
    (fun i _ => (intOf i + 1).toNat)
  case atStart => exact ⟨N, Nat.le_refl _, rfl, by rw [Nat.sub_self]; exact h0, MerG.Kept.refl _ _⟩
  case round =>
    obtain ⟨k, hk, rfl, hJs, hnx⟩ := hrel
    have HJ := Lib.hid hJs
    have HB := Lib.hid hnx
    have c6' := (HV.out.kept hnx).c6
    rw [HN.out] at c6'
    clear hJs hnx c6
    match k, hk, HJ with
    | 0, hk, HJ =>
      rw [show ((0 : Nat) : Int) - 1 = -1 from rfl]
      gi_wp2
      go_end0
      exact ⟨⟨_, rfl⟩, MerG.Non, .inl ⟨_, by rw [Nat.sub_zero, List.take_of_length_le (by rw [List.length_reverse, HN.out]; exact Nat.le_refl _)], HJ.out⟩⟩
    | k + 1, hk, HJ =>
      rw [show ((k + 1 : Nat) : Int) - 1 = (k : Int) from by omega]
      have hkn : k < vs.length := by rw [HN.out]; omega
      obtain ⟨g, o, ea, r0, r1, r2⟩ := (HV.out.kept HB.out).at_ k hkn
      rw [ea] at c6'
      have HX := Lib.hid (take_back vs k hkn)
      rw [HN.out] at HX
      have HU : Hid (vs.reverse.take (N - k) <+: vs.reverse) := Lib.hid (List.take_prefix _ _)
      have hR0 := hY MerG.Non _ vs[k] wr HJ.out (by rw [← HX.out]; exact HU.out)
      rw [← HX.out] at hR0
      obtain ⟨fn, tmps, assign, body, hy, hR⟩ := hR0
      simp only [encs] at hy hR
      have q0 : (0 : Int) ≤ (k : Int) := by omega
      have q1 : (k : Int) < (N : Int) := by omega
      clear ea HX
      generalize vs[k] = x at *
      gi_wp2
      refine hR.mono ?_
      rintro e W3 ⟨(⟨rfl, hJ3⟩ | ⟨rfl, hJx3⟩), hk3⟩
      · have HB3 := Lib.hid (HB.out.trans (hk3.mono fun b hb => .inr hb))
        gi_wp2
        go_roundw
        case rel => exact ⟨k, by omega, rfl, hJ3, HB3.out⟩
        case measure => simp [intOf]
      · gi_wp2
        refine bodyPost_ret (results_none rfl _ _ _) rfl ?_
        exact ⟨⟨_, rfl⟩, MerG.Non, .inr ⟨_, HU.out, hJx3⟩⟩
end Go.Proofs.YtopnodkdpehdoaaGreatDoor.PgI
