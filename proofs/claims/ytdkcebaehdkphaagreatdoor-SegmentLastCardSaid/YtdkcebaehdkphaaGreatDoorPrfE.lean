/- Two leaves, two proofs held against each other: the document's Same: the walk of its text. No conditions but those that each lemma names. -/
import Derived.Test.YtdkcebaehdkphaaGreatDoorLPrfA
import Derived.Test.YtdkcebaehdkphaaGreatDoorMerT
namespace Go.Proofs.YtdkcebaehdkphaaGreatDoor.PrfE
open Go.RowKit
open PrfL PrfM PrfB PrfG MerQ
set_option maxRecDepth 100000 in
set_option maxHeartbeats 4000000 in
theorem Same (x y : Raw) (w : World) (hxu : SSum.Strs w w.heap.size x.ua x.up.length x.up) (hxl : SSum.Strs w w.heap.size x.la x.left.length x.left) (hyu : SSum.Strs w w.heap.size y.ua y.up.length y.up) (hyl : SSum.Strs w w.heap.size y.la y.left.length y.left)
    (n1 : x.up.length ≤ 1000000) (n2 : x.left.length ≤ 1000000) (n3 : y.up.length ≤ 1000000) (n4 : y.left.length ≤ 1000000) :
    Calls Tryz.prog 19 #[.agg x.cells, .agg y.cells] w fun e w' => e = .returned (.bool (sameB x y)) ∧ Below w.heap.size w w' := by
  have HX := Lib.hid (two_new w x y)
  have hb0 : Below w.heap.size w ((w.alloc (.cells x.cells 48)).alloc (.cells y.cells 48)) := ((Below.refl _ _).alloc (Nat.le_refl _) _).alloc (by simp) _
  have HU := Lib.hid (fun W (hb : Below w.heap.size w W) => MerT.Texts x.ua y.ua _ _ x.uc y.uc x.up y.up W ((hxu.below hb).more hb.size) ((hyu.below hb).more hb.size) n1 n3)
  have HLf := Lib.hid (fun W (hb : Below w.heap.size w W) => MerT.Texts x.la y.la _ _ x.lc y.lc x.left y.left W ((hxl.below hb).more hb.size) ((hyl.below hb).more hb.size) n2 n4)
  have HB := Lib.hid hb0
  clear hxu hxl hyu hyl n1 n2 n3 n4 hb0
  obtain ⟨f, at_, ⟨h0, h1⟩, ⟨a0, a1⟩, ua, uc, up, la, lc, left⟩ := x
  obtain ⟨f', at', ⟨h0', h1'⟩, ⟨a0', a1'⟩, ua', uc', up', la', lc', left'⟩ := y
  unfold sameB
  dsimp only [Raw.cells] at HX HB HU HLf ⊢
  have E1 := fun W => run_eql_leaf W h0 h0' h1 h1' _ rfl
  have E2 := fun W => run_eql_leaf W a0 a0' a1 a1' _ rfl
  generalize decide ((h0, h1) = (h0', h1')) = q1 at *
  generalize decide ((a0, a1) = (a0', a1')) = q2 at *
  generalize hq3 : decide (up = up') = q3 at *
  generalize hq4 : decide (left = left') = q4 at *
  clear hq3 hq4
  by_cases hf : f = f'
  · subst hf
    by_cases ht : at_ = at'
    · subst ht
      cases q1
      · go_enter Tryz.func19, Tryz.ntmps19
        go_upto_region 1 with (fail)
        generalize World.alloc (World.alloc w _) _ = W1 at *
        obtain ⟨⟨k0, k1, k2, k3, k4, k5, k6, k7⟩, m0, m1, m2, m3, m4, m5, m6, m7⟩ := HX.out
        dsimp only at k0 k1 k2 k3 k4 k5 k6 k7 m0 m1 m2 m3 m4 m5 m6 m7
        clear HX
        go_wp2
        go_ret
        exact ⟨by simp, HB.out⟩
      · cases q2
        · go_enter Tryz.func19, Tryz.ntmps19
          go_upto_region 1 with (fail)
          generalize World.alloc (World.alloc w _) _ = W1 at *
          obtain ⟨⟨k0, k1, k2, k3, k4, k5, k6, k7⟩, m0, m1, m2, m3, m4, m5, m6, m7⟩ := HX.out
          dsimp only at k0 k1 k2 k3 k4 k5 k6 k7 m0 m1 m2 m3 m4 m5 m6 m7
          clear HX
          go_wp2
          go_ret
          exact ⟨by simp, HB.out⟩
        · cases q3
          · go_enter Tryz.func19, Tryz.ntmps19
            go_upto_region 1 with (fail)
            generalize World.alloc (World.alloc w _) _ = W1 at *
            obtain ⟨⟨k0, k1, k2, k3, k4, k5, k6, k7⟩, m0, m1, m2, m3, m4, m5, m6, m7⟩ := HX.out
            dsimp only at k0 k1 k2 k3 k4 k5 k6 k7 m0 m1 m2 m3 m4 m5 m6 m7
            clear HX
            go_wp2_with (go_at_call 31; refine (HU.out _ HB.out).mono ?_; rintro e w1 ⟨rfl, d1, hw⟩; have k7' : w1.cell? ⟨w.heap.size, 7, none⟩ = some (.slice la left.length lc)   := (by rw [hw]; exact k7); have m7' : w1.cell? ⟨w.heap.size + 1, 7, none⟩ = some (.slice la' left'.length lc') := (by rw [hw]; exact m7); have HB1 : Hid (Below w.heap.size w w1) := Lib.hid (by rw [hw]; exact drawn HB.out _); clear hw)
            go_ret
            exact ⟨by simp, HB1.out⟩
          · have F1 : Hid True := Lib.hid trivial
            go_enter Tryz.func19, Tryz.ntmps19
            go_upto_region 1 with (fail)
            generalize World.alloc (World.alloc w _) _ = W1 at *
            obtain ⟨⟨k0, k1, k2, k3, k4, k5, k6, k7⟩, m0, m1, m2, m3, m4, m5, m6, m7⟩ := HX.out
            dsimp only at k0 k1 k2 k3 k4 k5 k6 k7 m0 m1 m2 m3 m4 m5 m6 m7
            clear HX
            go_wp2_with (first | (clear F1; go_at_call 31; refine (HU.out _ HB.out).mono ?_; rintro e w1 ⟨rfl, d1, hw⟩; have k7' : w1.cell? ⟨w.heap.size, 7, none⟩ = some (.slice la left.length lc)   := (by rw [hw]; exact k7); have m7' : w1.cell? ⟨w.heap.size + 1, 7, none⟩ = some (.slice la' left'.length lc') := (by rw [hw]; exact m7); have HB1 : Hid (Below w.heap.size w w1) := Lib.hid (by rw [hw]; exact drawn HB.out _); clear hw) | (go_at_call 31; refine (HLf.out _ HB1.out).mono ?_; rintro e w2 ⟨rfl, d2, hw⟩; have HB2 : Hid (Below w.heap.size w w2) := Lib.hid (by rw [hw]; exact drawn HB1.out _); clear hw))
            go_ret
            exact ⟨by simp, HB2.out⟩
    · have e1 : (at_ == at') = false := by rw [beq_eq_false_iff_ne]; exact ht
      have e2 : decide (at_ = at') = false := decide_eq_false ht
      rw [e2]
      clear ht e2
      go_enter Tryz.func19, Tryz.ntmps19
      go_upto_region 1 with (fail)
      generalize World.alloc (World.alloc w _) _ = W1 at *
      obtain ⟨⟨k0, k1, k2, k3, k4, k5, k6, k7⟩, m0, m1, m2, m3, m4, m5, m6, m7⟩ := HX.out
      dsimp only at k0 k1 k2 k3 k4 k5 k6 k7 m0 m1 m2 m3 m4 m5 m6 m7
      clear HX
      go_wp2
      go_ret
      exact ⟨by simp, HB.out⟩
  · have e1 : (f == f') = false := by rw [beq_eq_false_iff_ne]; exact hf
    have e2 : decide (f = f') = false := decide_eq_false hf
    rw [e2]
    clear hf e2
    go_enter Tryz.func19, Tryz.ntmps19
    go_upto_region 1 with (fail)
    generalize World.alloc (World.alloc w _) _ = W1 at *
    obtain ⟨⟨k0, k1, k2, k3, k4, k5, k6, k7⟩, m0, m1, m2, m3, m4, m5, m6, m7⟩ := HX.out
    dsimp only at k0 k1 k2 k3 k4 k5 k6 k7 m0 m1 m2 m3 m4 m5 m6 m7
    clear HX
    go_wp2
    go_ret
    exact ⟨by simp, HB.out⟩
end Go.Proofs.YtdkcebaehdkphaaGreatDoor.PrfE
