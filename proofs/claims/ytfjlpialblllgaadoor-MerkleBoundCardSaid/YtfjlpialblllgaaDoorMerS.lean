/- The program's package merkle: sides: the walk of its text; the contract of what it iterates over. No conditions but those that each lemma names. -/
import Derived.Shelf.Abstract
import Derived.Shelf.RegionOpen
import Derived.WalkKit
import Derived.OwnWalkIn
import Derived.TacticsInMore
import Derived.LoopNIn
import Derived.LoopIn
import Derived.Test.YtfjlpialblllgaaDoorMerC
import Derived.Test.YtfjlpialblllgaaDoorMerB
namespace Go.Proofs.YtfjlpialblllgaaDoor.MerS
open Go.RowKit Go.Shelf STurn SSum MerG MerQ MerN MerM MerC MerB
attribute [local go_sem] Oper.semAt_some
theorem sides_in (n i : Int) (w : World) : Calls Tryd.prog 52 #[.int .i64 n, .int .i64 i] w fun e w' =>
    e = .returned (.func (.func 70) #[] #[.pointer (some ⟨w.heap.size, 0, none⟩), .pointer (some ⟨w.heap.size + 1, 0, none⟩)]) ∧ w' = (w.alloc (.cells #[.int .i64 n] 3)).alloc (.cells #[.int .i64 i] 3) := by
  go_enter Tryd.func52, Tryd.ntmps52
  go_wp2
  go_ret
  exact ⟨rfl, rfl⟩
set_option maxRecDepth 100000 in
set_option maxHeartbeats 2000000 in
theorem sides1 (k n i : Nat) (hk : 1 ≤ k) (hi : i < n) (hn : n ≤ 1048576) (Bn Bi : Nat) (RO : Nat → Prop) (hRn : RO Bn) (hRi : RO Bi) (w : World) (h0 : w.cell? ⟨Bn, 0, none⟩ = some (.int .i64 n)) (h1 : w.cell? ⟨Bi, 0, none⟩ = some (.int .i64 i)) :
    Seq false Fence.wide k Tryd.prog 70 #[.pointer (some ⟨Bn, 0, none⟩), .pointer (some ⟨Bi, 0, none⟩)] (fun b : Bool => #[Value.bool b]) (Nxt (sidesN n i)) (fun ys => ys = sidesN n i) (fun _ => True) RO w := by
  intro l J Jx W hW hJ hJx hY hJ0
  have c0 := hW.cell h0 hRn
  have c1 := hW.cell h1 hRi
  have HY := Lib.hid hY
  have HJ := Lib.hid hJ
  have HJ0 := Lib.hid (hJ _ _ _ _ _ hJ0 (Turns.drew W) (.no _ _))
  clear hW hJ hJx hY h0 h1 hJ0
  refine callsIn_of_wp Tryd.func70 rfl trivial ?_ rfl
  simp only [Tryd.ntmps70, List.size_toArray, List.length_cons, List.length_nil, Nat.reduceAdd, Nat.reduceSub, Array.replicate_succ, Array.replicate_zero, List.push_toArray, List.append_toArray, List.nil_append, List.cons_append]
  gi_wp2
  gi_region
  gi_wp2
  gi_loopw [4, 5] (fun a b wr => ∃ (m j : Nat) (pre : List Bool) (T : Nat → Prop), a = .int .i64 m ∧ b = .int .i64 j ∧ j < m ∧ m ≤ n ∧ pre ++ sidesN m j = sidesN n i ∧ J T pre wr) (fun a _ _ => (intOf a).toNat)
  case atStart => exact ⟨n, i, [], _, rfl, rfl, hi, Nat.le_refl _, rfl, HJ0.out⟩
  case round =>
    obtain ⟨m, j, pre, T, rfl, rfl, hjm, hmn, hpre, hJ1⟩ := hrel
    have HP := Lib.hid hpre
    have HJ1 := Lib.hid hJ1
    clear hpre hJ1
    by_cases h2 : 2 ≤ m
    · have q1 : (1 : Int) < (m : Int) := by omega
      have HS := Lib.hid (sidesN_succ hjm)
      have HO := Lib.hid (fun W => other j (by omega) W)
      have ho : oth j = if j % 2 = 1 then j - 1 else j + 1 := rfl
      by_cases c : j % 2 = 1 ∨ j + 1 < m
      · have hc1 : (oth j : Int) < (m : Int) := by rw [ho]; split <;> omega
        obtain ⟨b, hb⟩ : ∃ b : Bool, decide (j % 2 = 1) = b := ⟨_, rfl⟩
        have hc2 : decide (oth j < j) = b := by
          rw [← hb, ho]
          by_cases hj : j % 2 = 1
          · rw [if_pos hj, decide_eq_true hj]; exact decide_eq_true (by omega)
          · rw [if_neg hj, decide_eq_false hj]; exact decide_eq_false (by omega)
        rw [if_pos c, hb] at HS
        have HG := Lib.hid (show (pre ++ [b]) ++ sidesN ((m + 1) / 2) (j / 2) = sidesN n i by rw [← HP.out, HS.out, List.append_assoc])
        have hol : oth j ≤ j + 1 := by rw [ho]; split <;> omega
        clear ho hb c
        generalize oth j = o at *
        obtain ⟨fn, tmps, assign, body, hy, hR⟩ := HY.out T pre b wr HJ1.out ⟨_, HG.out⟩
        gi_wp2_with (first
          | (refine ⟨trivial, ?_⟩; gi_at_call 60; refine (callsIn_wide.2 (HO.out _)).mono ?_; rintro e w' ⟨rfl, rfl⟩))
        refine hR.mono ?_
        rintro e W3 ⟨⟨rfl, hJ3⟩ | ⟨rfl, hJx3⟩, hk3⟩
        · gi_wp2
          go_roundw
          case rel => exact ⟨(m + 1) / 2, j / 2, pre ++ [b], T, by go_num, by go_num, by omega, by omega, HG.out, hJ3⟩
          case measure => simp [intOf]; omega
        · gi_wp2
          refine bodyPost_ret (results_none rfl _ _ _) rfl ?_
          exact ⟨⟨_, rfl⟩, T, .inr ⟨_, trivial, hJx3⟩⟩
      · have hc1 : ¬ (oth j : Int) < (m : Int) := by rw [ho]; split <;> omega
        rw [if_neg c, List.nil_append] at HS
        have HG := Lib.hid (show pre ++ sidesN ((m + 1) / 2) (j / 2) = sidesN n i by rw [← HP.out, HS.out])
        have hol : oth j ≤ j + 1 := by rw [ho]; split <;> omega
        clear ho c
        generalize oth j = o at *
        gi_wp2_with (first
          | (refine ⟨trivial, ?_⟩; gi_at_call 60; refine (callsIn_wide.2 (HO.out _)).mono ?_; rintro e w' ⟨rfl, rfl⟩))
        refine ⟨fun _ h => (by cases h), ?_⟩
        gi_wp2
        go_roundw
        case rel => exact ⟨(m + 1) / 2, j / 2, pre, T, by go_num, by go_num, by omega, by omega, HG.out, HJ1.out⟩
        case measure => simp [intOf]; omega
    · obtain rfl : m = 1 := by omega
      obtain rfl : j = 0 := by omega
      have HE := Lib.hid (show pre = sidesN n i by rw [← HP.out, sidesN_one, List.append_nil])
      rw [show ((1 : Nat) : Int) = 1 from rfl, show ((0 : Nat) : Int) = 0 from rfl]
      gi_wp2
      go_end0
      exact ⟨⟨_, rfl⟩, T, .inl ⟨pre, HE.out, HJ1.out⟩⟩
end Go.Proofs.YtfjlpialblllgaaDoor.MerS
