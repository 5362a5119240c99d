/- PrgE PrgS: one behind the other. -/
import Derived.Test.YtdkcebaehdkphaaGreatDoorMerC
import Derived.Deep.QuietTactic
import Derived.BigQuiet
import Derived.Test.YtdkcebaehdkphaaGreatDoorLPrfA
/- What slices.Equal answers of any two paths: whether they are the same. No conditions but those that each lemma names. -/
namespace Go.Proofs.YtdkcebaehdkphaaGreatDoor.PrgE
open Go.RowKit SSum MerQ MerC
theorem Equal (a b : Option Addr) (n m c d : Nat) (l r : List L) (w : World) (ha : Strs w w.heap.size a n l) (hb : Strs w w.heap.size b m r) (hn : n ≤ 1000000) (hm : m ≤ 1000000) :
    Calls Tryz.prog 98 #[.slice a n c, .slice b m d] w fun e w' => e = .returned (.bool (decide (l = r))) ∧ ∃ k, w' = w.drewN k := by
  by_cases hnm : n = m
  · subst hnm
    have HA := Lib.hid ha
    have HB := Lib.hid hb
    obtain ⟨t, ht⟩ : ∃ t : Bool, decide (l = r) = t := ⟨_, rfl⟩
    rw [ht]
    have HT := Lib.hid ht
    clear ha hb ht
    go_enter Tryz.func98, Tryz.ntmps98
    go_wp2_with fail
    go_loopw [13] (fun i wr => ∃ k j : Nat, k ≤ n ∧ i = .int .i64 k ∧ wr = w.drewN j ∧ l.take k = r.take k) (fun i _ => n - (intOf i).toNat)
    case atStart => exact ⟨0, 0, Nat.zero_le _, rfl, rfl, rfl⟩
    case round =>
      obtain ⟨k, j, hk, rfl, rfl, hall⟩ := hrel
      have HAL := Lib.hid hall
      clear hall
      by_cases hlt : k < n
      · obtain ⟨b1, o1, rfl, hb1, hc1⟩ := HA.out.2 (by omega)
        obtain ⟨b2, o2, rfl, hb2, hc2⟩ := HB.out.2 (by omega)
        have hx := hc1 k hlt
        have hy := hc2 k hlt
        have hl1 : k < l.length := by rw [HA.out.1]; exact hlt
        have hl2 : k < r.length := by rw [HB.out.1]; exact hlt
        have HNX : Hid (l.getD k [] = r.getD k [] → l.take (k + 1) = r.take (k + 1)) := Lib.hid fun he => by
          rw [List.take_succ_eq_append_getElem hl1, List.take_succ_eq_append_getElem hl2, HAL.out, ← getD_at _ _ hl1, ← getD_at _ _ hl2, he]
        have HNE : Hid (l.getD k [] ≠ r.getD k [] → l ≠ r) := Lib.hid fun he e => he (by rw [e])
        clear hc1 hc2 hb1 hb2 hl1 hl2
        generalize l.getD k [] = x at *
        generalize r.getD k [] = y at *
        have q1 : (k : Int) < (n : Int) := by omega
        have q0 : (0 : Int) ≤ (k : Int) := by omega
        by_cases he : x = y
        · subst he
          have HQ := Lib.hid (HNX.out rfl)
          have hne : (x == x) = true := by simp
          clear HNX HNE
          go_wp2_with fail
          go_quiet (fail)
          go_wp2_with fail
          go_roundw
          case rel => exact ⟨k + 1, _, by omega, by go_num, rfl, HQ.out⟩
          case measure => simp [intOf]; omega
        · have hne : (x == y) = false := by rw [beq_eq_false_iff_ne]; exact he
          have HF : Hid (t = false) := Lib.hid (by rw [← HT.out]; exact decide_eq_false (HNE.out he))
          clear he HNX HNE
          go_wp2_with fail
          go_quiet (fail)
          go_wp2_with fail
          go_ret
          exact ⟨by rw [HF.out]; rfl, _, World.drewN_drewN _ _ _⟩
      · obtain rfl : k = n := by omega
        have HF : Hid (t = true) := Lib.hid (by
          rw [← HT.out]
          refine decide_eq_true ?_
          have := HAL.out
          rwa [List.take_of_length_le (by rw [HA.out.1]; exact Nat.le_refl _), List.take_of_length_le (by rw [HB.out.1]; exact Nat.le_refl _)] at this)
        go_wp2_with fail
        go_ret
        exact ⟨by rw [HF.out]; rfl, j, rfl⟩
  · rw [decide_eq_false (fun e => hnm (by rw [← ha.1, ← hb.1, e]))]
    have h1 : ((n : Int) != (m : Int)) = true := by rw [bne_iff_ne]; omega
    clear ha hb hnm
    go_enter Tryz.func98, Tryz.ntmps98
    go_wp2
    go_ret
    exact ⟨rfl, 0, rfl⟩
end Go.Proofs.YtdkcebaehdkphaaGreatDoor.PrgE
/- Two proofs held against each other: the program's same: the walk of its text. No conditions but those that each lemma names. -/
namespace Go.Proofs.YtdkcebaehdkphaaGreatDoor.PrgS
open Go.RowKit
open PrfL PrfM PrfB PrfG MerQ
set_option maxRecDepth 100000 in
set_option maxHeartbeats 4000000 in
theorem same (x y : Raw) (w : World) (hxu : SSum.Strs w w.heap.size x.ua x.up.length x.up) (hxl : SSum.Strs w w.heap.size x.la x.left.length x.left) (hyu : SSum.Strs w w.heap.size y.ua y.up.length y.up) (hyl : SSum.Strs w w.heap.size y.la y.left.length y.left)
    (n1 : x.up.length ≤ 1000000) (n2 : x.left.length ≤ 1000000) (n3 : y.up.length ≤ 1000000) (n4 : y.left.length ≤ 1000000) :
    Calls Tryz.prog 78 #[.agg x.cells, .agg y.cells] w fun e w' => e = .returned (.bool (sameB x y)) ∧ Below w.heap.size w w' := by
  have HX := Lib.hid (two_new w x y)
  have hb0 : Below w.heap.size w ((w.alloc (.cells x.cells 48)).alloc (.cells y.cells 48)) := ((Below.refl _ _).alloc (Nat.le_refl _) _).alloc (by simp) _
  have HU := Lib.hid (fun W (hb : Below w.heap.size w W) => PrgE.Equal x.ua y.ua _ _ x.uc y.uc x.up y.up W ((hxu.below hb).more hb.size) ((hyu.below hb).more hb.size) n1 n3)
  have HLf := Lib.hid (fun W (hb : Below w.heap.size w W) => PrgE.Equal x.la y.la _ _ x.lc y.lc x.left y.left W ((hxl.below hb).more hb.size) ((hyl.below hb).more hb.size) n2 n4)
  have HB := Lib.hid hb0
  clear hxu hxl hyu hyl n1 n2 n3 n4 hb0
  obtain ⟨f, at_, ⟨h0, h1⟩, ⟨a0, a1⟩, ua, uc, up, la, lc, left⟩ := x
  obtain ⟨f', at', ⟨h0', h1'⟩, ⟨a0', a1'⟩, ua', uc', up', la', lc', left'⟩ := y
  unfold sameB
  dsimp only [Raw.cells] at HX HB HU HLf ⊢
  have E1 := fun W => run_eql_leaf W h0 h0' h1 h1' _ rfl
  have E2 := fun W => run_eql_leaf W a0 a0' a1 a1' _ rfl
  generalize decide ((h0, h1) = (h0', h1')) = q1 at *
  generalize decide ((a0, a1) = (a0', a1')) = q2 at *
  generalize hq3 : decide (up = up') = q3 at *
  generalize hq4 : decide (left = left') = q4 at *
  clear hq3 hq4
  by_cases hf : f = f'
  · subst hf
    by_cases ht : at_ = at'
    · subst ht
      cases q1
      · go_enter Tryz.func78, Tryz.ntmps78
        go_upto_region 1 with (fail)
        generalize World.alloc (World.alloc w _) _ = W1 at *
        obtain ⟨⟨k0, k1, k2, k3, k4, k5, k6, k7⟩, m0, m1, m2, m3, m4, m5, m6, m7⟩ := HX.out
        dsimp only at k0 k1 k2 k3 k4 k5 k6 k7 m0 m1 m2 m3 m4 m5 m6 m7
        clear HX
        go_wp2
        go_ret
        exact ⟨by simp, HB.out⟩
      · cases q2
        · go_enter Tryz.func78, Tryz.ntmps78
          go_upto_region 1 with (fail)
          generalize World.alloc (World.alloc w _) _ = W1 at *
          obtain ⟨⟨k0, k1, k2, k3, k4, k5, k6, k7⟩, m0, m1, m2, m3, m4, m5, m6, m7⟩ := HX.out
          dsimp only at k0 k1 k2 k3 k4 k5 k6 k7 m0 m1 m2 m3 m4 m5 m6 m7
          clear HX
          go_wp2
          go_ret
          exact ⟨by simp, HB.out⟩
        · cases q3
          · go_enter Tryz.func78, Tryz.ntmps78
            go_upto_region 1 with (fail)
            generalize World.alloc (World.alloc w _) _ = W1 at *
            obtain ⟨⟨k0, k1, k2, k3, k4, k5, k6, k7⟩, m0, m1, m2, m3, m4, m5, m6, m7⟩ := HX.out
            dsimp only at k0 k1 k2 k3 k4 k5 k6 k7 m0 m1 m2 m3 m4 m5 m6 m7
            clear HX
            go_wp2_with (go_at_call 98; refine (HU.out _ HB.out).mono ?_; rintro e w1 ⟨rfl, d1, hw⟩; have k7' : w1.cell? ⟨w.heap.size, 7, none⟩ = some (.slice la left.length lc)   := (by rw [hw]; exact k7); have m7' : w1.cell? ⟨w.heap.size + 1, 7, none⟩ = some (.slice la' left'.length lc') := (by rw [hw]; exact m7); have HB1 : Hid (Below w.heap.size w w1) := Lib.hid (by rw [hw]; exact drawn HB.out _); clear hw)
            go_ret
            exact ⟨by simp, HB1.out⟩
          · have F1 : Hid True := Lib.hid trivial
            go_enter Tryz.func78, Tryz.ntmps78
            go_upto_region 1 with (fail)
            generalize World.alloc (World.alloc w _) _ = W1 at *
            obtain ⟨⟨k0, k1, k2, k3, k4, k5, k6, k7⟩, m0, m1, m2, m3, m4, m5, m6, m7⟩ := HX.out
            dsimp only at k0 k1 k2 k3 k4 k5 k6 k7 m0 m1 m2 m3 m4 m5 m6 m7
            clear HX
            go_wp2_with (first | (clear F1; go_at_call 98; refine (HU.out _ HB.out).mono ?_; rintro e w1 ⟨rfl, d1, hw⟩; have k7' : w1.cell? ⟨w.heap.size, 7, none⟩ = some (.slice la left.length lc)   := (by rw [hw]; exact k7); have m7' : w1.cell? ⟨w.heap.size + 1, 7, none⟩ = some (.slice la' left'.length lc') := (by rw [hw]; exact m7); have HB1 : Hid (Below w.heap.size w w1) := Lib.hid (by rw [hw]; exact drawn HB.out _); clear hw) | (go_at_call 98; refine (HLf.out _ HB1.out).mono ?_; rintro e w2 ⟨rfl, d2, hw⟩; have HB2 : Hid (Below w.heap.size w w2) := Lib.hid (by rw [hw]; exact drawn HB1.out _); clear hw))
            go_ret
            exact ⟨by simp, HB2.out⟩
    · have e1 : (at_ == at') = false := by rw [beq_eq_false_iff_ne]; exact ht
      have e2 : decide (at_ = at') = false := decide_eq_false ht
      rw [e2]
      clear ht e2
      go_enter Tryz.func78, Tryz.ntmps78
      go_upto_region 1 with (fail)
      generalize World.alloc (World.alloc w _) _ = W1 at *
      obtain ⟨⟨k0, k1, k2, k3, k4, k5, k6, k7⟩, m0, m1, m2, m3, m4, m5, m6, m7⟩ := HX.out
      dsimp only at k0 k1 k2 k3 k4 k5 k6 k7 m0 m1 m2 m3 m4 m5 m6 m7
      clear HX
      go_wp2
      go_ret
      exact ⟨by simp, HB.out⟩
  · have e1 : (f == f') = false := by rw [beq_eq_false_iff_ne]; exact hf
    have e2 : decide (f = f') = false := decide_eq_false hf
    rw [e2]
    clear hf e2
    go_enter Tryz.func78, Tryz.ntmps78
    go_upto_region 1 with (fail)
    generalize World.alloc (World.alloc w _) _ = W1 at *
    obtain ⟨⟨k0, k1, k2, k3, k4, k5, k6, k7⟩, m0, m1, m2, m3, m4, m5, m6, m7⟩ := HX.out
    dsimp only at k0 k1 k2 k3 k4 k5 k6 k7 m0 m1 m2 m3 m4 m5 m6 m7
    clear HX
    go_wp2
    go_ret
    exact ⟨by simp, HB.out⟩
end Go.Proofs.YtdkcebaehdkphaaGreatDoor.PrgS
