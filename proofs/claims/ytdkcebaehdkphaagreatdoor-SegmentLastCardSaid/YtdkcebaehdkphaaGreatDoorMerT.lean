/- What keepsakeref01.Texts answers of any two rows of texts: whether they are the same. No conditions but those that each lemma names. -/
import Derived.Test.YtdkcebaehdkphaaGreatDoorMerC
namespace Go.Proofs.YtdkcebaehdkphaaGreatDoor.MerT
open Go.RowKit SSum MerQ MerC
theorem Texts (a b : Option Addr) (n m c d : Nat) (l r : List L) (w : World) (ha : Strs w w.heap.size a n l) (hb : Strs w w.heap.size b m r) (hn : n ≤ 1000000) (hm : m ≤ 1000000) :
    Calls Tryz.prog 31 #[.slice a n c, .slice b m d] w fun e w' => e = .returned (.bool (decide (l = r))) ∧ ∃ k, w' = w.drewN k := by
  by_cases hnm : n = m
  · subst hnm
    have HA := Lib.hid ha
    have HB := Lib.hid hb
    obtain ⟨t, ht⟩ : ∃ t : Bool, decide (l = r) = t := ⟨_, rfl⟩
    rw [ht]
    have HT := Lib.hid ht
    clear ha hb ht
    go_enter Tryz.func31, Tryz.ntmps31
    go_wp2_with fail
    go_loopw [5] (fun i wr => ∃ k j : Nat, k ≤ n ∧ i = .int .i64 k ∧ wr = w.drewN j ∧ l.take k = r.take k) (fun i _ => n - (intOf i).toNat)
    case atStart => exact ⟨0, 0, Nat.zero_le _, rfl, rfl, rfl⟩
    case round =>
      obtain ⟨k, j, hk, rfl, rfl, hall⟩ := hrel
      have HAL := Lib.hid hall
      clear hall
      by_cases hlt : k < n
      · obtain ⟨b1, o1, rfl, hb1, hc1⟩ := HA.out.2 (by omega)
        obtain ⟨b2, o2, rfl, hb2, hc2⟩ := HB.out.2 (by omega)
        have hx := hc1 k hlt
        have hy := hc2 k hlt
        have hl1 : k < l.length := by rw [HA.out.1]; exact hlt
        have hl2 : k < r.length := by rw [HB.out.1]; exact hlt
        have HNX : Hid (l.getD k [] = r.getD k [] → l.take (k + 1) = r.take (k + 1)) := Lib.hid fun he => by
          rw [List.take_succ_eq_append_getElem hl1, List.take_succ_eq_append_getElem hl2, HAL.out, ← getD_at _ _ hl1, ← getD_at _ _ hl2, he]
        have HNE : Hid (l.getD k [] ≠ r.getD k [] → l ≠ r) := Lib.hid fun he e => he (by rw [e])
        clear hc1 hc2 hb1 hb2 hl1 hl2
        generalize l.getD k [] = x at *
        generalize r.getD k [] = y at *
        have q1 : (k : Int) < (n : Int) := by omega
        have q0 : (0 : Int) ≤ (k : Int) := by omega
        by_cases he : x = y
        · subst he
          have HQ := Lib.hid (HNX.out rfl)
          have hne : (x == x) = true := by simp
          clear HNX HNE
          go_wp2_with fail
          go_quiet (fail)
          go_wp2_with fail
          go_roundw
          case rel => exact ⟨k + 1, _, by omega, by go_num, rfl, HQ.out⟩
          case measure => simp [intOf]; omega
        · have hne : (x == y) = false := by rw [beq_eq_false_iff_ne]; exact he
          have HF : Hid (t = false) := Lib.hid (by rw [← HT.out]; exact decide_eq_false (HNE.out he))
          clear he HNX HNE
          go_wp2_with fail
          go_quiet (fail)
          go_wp2_with fail
          go_ret
          exact ⟨by rw [HF.out]; rfl, _, World.drewN_drewN _ _ _⟩
      · obtain rfl : k = n := by omega
        have HF : Hid (t = true) := Lib.hid (by
          rw [← HT.out]
          refine decide_eq_true ?_
          have := HAL.out
          rwa [List.take_of_length_le (by rw [HA.out.1]; exact Nat.le_refl _), List.take_of_length_le (by rw [HB.out.1]; exact Nat.le_refl _)] at this)
        go_wp2_with fail
        go_ret
        exact ⟨by rw [HF.out]; rfl, j, rfl⟩
  · rw [decide_eq_false (fun e => hnm (by rw [← ha.1, ← hb.1, e]))]
    have h1 : ((n : Int) != (m : Int)) = true := by rw [bne_iff_ne]; omega
    clear ha hb hnm
    go_enter Tryz.func31, Tryz.ntmps31
    go_wp2
    go_ret
    exact ⟨rfl, 0, rfl⟩
end Go.Proofs.YtdkcebaehdkphaaGreatDoor.MerT
