/- The program's package proof: Clash: its contract. The condition: the rounds' numbers lie in the program's variable. -/
import Derived.Test.YtcadfpaihfaabaaDoorPrgY
namespace Go.Proofs.YtcadfpaihfaabaaDoor.PrgZ
set_option linter.unusedVariables false
open Go.RowKit STurn SSum
open PrfL PrfN PrfM PrfB PrfG PrgN PrgC PrgK PrgB PrgT PrgI PrgL PrgV PrgX PrgQ PrgP PrgY MerQ MerC MerV MerX MerW
/-- What Clash answers. -/
def ClashAns (w : World) (l : List Lf) (b : Int) (p : Pf) (e : Ending) (w' : World) : Prop :=
  if elseB l b p = true then Pair w e w' else e = .returned (.tuple #[str [], str [], .bool false]) ∧ Below w.heap.size w w'
section
variable (a : Option Addr) (n c : Nat) (l : List Lf) (b : Int) (x : Raw) (w : World) (h : Lvs w a n l) (hn : n ≤ 100000) (hx : Okay w x) (hr : Rds w)
include h hn hx hr
theorem clashOf : Calls Tryd.prog 17 #[.agg tc, .slice a n c, .int .i64 b, .agg x.cells] w (ClashAns w l b (pf x)) := by
  have hln := h.1
  unfold ClashAns
  cases hc : canB l b with
  | false =>
    have : elseB l b (pf x) = false := by unfold elseB; rw [hc]; rfl
    simp only [this, Bool.false_eq_true, if_false]
    exact cannot a n c l b x w h hn hx hr hc
  | true =>
    cases hp : provesB (rt l) (n : Int) b (pf x) with
    | false =>
      have : elseB l b (pf x) = false := by unfold elseB; rw [hln, hp, hc]; rfl
      simp only [this, Bool.false_eq_true, if_false]
      exact refused a n c l b x w h hn hx hr hc hp
    | true =>
      by_cases he : toldP (pf x) = toldP (prove l b)
      · have : elseB l b (pf x) = false := by unfold elseB; rw [hln, hp, hc, decide_eq_true he]; rfl
        simp only [this, Bool.false_eq_true, if_false]
        exact alike a n c l b x w h hn hx hr hc hp he
      · have : elseB l b (pf x) = true := by unfold elseB; rw [hln, hp, hc, decide_eq_false he]; rfl
        simp only [this, if_true]
        exact found a n c l b x w h hn hx hr hc hp he this
set_option maxRecDepth 100000 in
set_option maxHeartbeats 1000000 in
theorem Clash : Calls Tryd.prog 10 #[.slice a n c, .int .i64 b, .agg x.cells] w (ClashAns w l b (pf x)) := by
  obtain ⟨W1, hW1⟩ : ∃ W1, W1 = w.alloc (.cells x.cells 29) := ⟨_, rfl⟩
  have b1 : Below w.heap.size w W1 := by rw [hW1]; exact below_new w _
  have BX := Lib.hid (show PrgC.BoxP w.heap.size x W1 by rw [hW1]; exact boxp_new w x)
  have B1 := Lib.hid b1.drew
  have HM := Lib.hid (fun W => merkles W)
  have HT := Lib.hid (fun W (hb : Below w.heap.size w W) => clashOf a n c l b x W ⟨h.1, h.2.1, h.2.2.1, h.2.2.2.step hb⟩ hn (hx.step hb) (hr.step hb))
  have HPS : Hid (∀ W, PrgC.BoxP w.heap.size x W → W.cell? ⟨w.heap.size, 0, none⟩ = some (.bool x.f) ∧ W.cell? ⟨w.heap.size, 1, none⟩ = some (.int .i64 x.at_) ∧ W.cell? ⟨w.heap.size, 2, none⟩ = some (.int .i64 x.here.1) ∧ W.cell? ⟨w.heap.size, 3, none⟩ = some (st x.here.2) ∧ W.cell? ⟨w.heap.size, 4, none⟩ = some (.int .i64 x.ahead.1) ∧ W.cell? ⟨w.heap.size, 5, none⟩ = some (st x.ahead.2) ∧ W.cell? ⟨w.heap.size, 6, none⟩ = some (.slice x.ua x.up.length x.uc) ∧ W.cell? ⟨w.heap.size, 7, none⟩ = some (.slice x.la x.left.length x.lc)) := Lib.hid fun W h => h.cells
  have hS0 := HPS.out _ (BX.out.step (Below.refl _ _).drew)
  have HBx := Lib.hid (fun W (hb : Below W1.drew.heap.size W1.drew W) => HPS.out W ((BX.out.step (Below.refl _ _).drew).step hb))
  dsimp only [Raw.cells] at HT
  clear h hx hr b1
  generalize tc = cs at *
  unfold ClashAns at *
  cases hq : elseB l b (pf x) with
  | false =>
    simp only [hq, Bool.false_eq_true, if_false] at HT ⊢
    clear hq
    go_enter Tryd.func10, Tryd.ntmps10
    go_upto_region 1 with (fail)
    rw [← hW1]
    clear hW1
    go_region_held3 (fun W => W.cell? ⟨w.heap.size, 0, none⟩ = some (.bool x.f) ∧ W.cell? ⟨w.heap.size, 1, none⟩ = some (.int .i64 x.at_) ∧ W.cell? ⟨w.heap.size, 2, none⟩ = some (.int .i64 x.here.1) ∧ W.cell? ⟨w.heap.size, 3, none⟩ = some (st x.here.2) ∧ W.cell? ⟨w.heap.size, 4, none⟩ = some (.int .i64 x.ahead.1) ∧ W.cell? ⟨w.heap.size, 5, none⟩ = some (st x.ahead.2) ∧ W.cell? ⟨w.heap.size, 6, none⟩ = some (.slice x.ua x.up.length x.uc) ∧ W.cell? ⟨w.heap.size, 7, none⟩ = some (.slice x.la x.left.length x.lc))
      (first | exact hS0 | exact hS1 | exact hS2)
      (first
        | (go_at_call 13; refine (HM.out _).mono ?_; rintro e w3 ⟨rfl, hb⟩; have B3 := Lib.hid (B1.out.trans (hb.mono B1.out.size)); have C3 := Lib.hid hb; have hS1 := HBx.out _ hb; clear hb)
        | (go_at_call 17; refine (HT.out _ B3.out).mono ?_; rintro e w4 ⟨rfl, hb⟩; have B4 := Lib.hid (B3.out.trans (hb.mono B3.out.size)); have hS2 := HBx.out _ (C3.out.trans (hb.mono C3.out.size)); clear hb))
    go_wp2
    go_ret3
    exact ⟨rfl, B4.out⟩
  | true =>
    simp only [hq, if_true] at HT ⊢
    clear hq
    go_enter Tryd.func10, Tryd.ntmps10
    go_upto_region 1 with (fail)
    rw [← hW1]
    clear hW1
    go_region_held3 (fun W => W.cell? ⟨w.heap.size, 0, none⟩ = some (.bool x.f) ∧ W.cell? ⟨w.heap.size, 1, none⟩ = some (.int .i64 x.at_) ∧ W.cell? ⟨w.heap.size, 2, none⟩ = some (.int .i64 x.here.1) ∧ W.cell? ⟨w.heap.size, 3, none⟩ = some (st x.here.2) ∧ W.cell? ⟨w.heap.size, 4, none⟩ = some (.int .i64 x.ahead.1) ∧ W.cell? ⟨w.heap.size, 5, none⟩ = some (st x.ahead.2) ∧ W.cell? ⟨w.heap.size, 6, none⟩ = some (.slice x.ua x.up.length x.uc) ∧ W.cell? ⟨w.heap.size, 7, none⟩ = some (.slice x.la x.left.length x.lc))
      (first | exact hS0 | exact hS1 | exact hS2)
      (first
        | (go_at_call 13; refine (HM.out _).mono ?_; rintro e w3 ⟨rfl, hb⟩; have B3 := Lib.hid (B1.out.trans (hb.mono B1.out.size)); have C3 := Lib.hid hb; have hS1 := HBx.out _ hb; clear hb)
        | (go_at_call 17; refine (HT.out _ B3.out).mono ?_; rintro e w4 ⟨u, v, rfl, hu, hb⟩; have HU := Lib.hid hu; have B4 := Lib.hid (B3.out.trans (hb.mono B3.out.size)); have hS2 := HBx.out _ (C3.out.trans (hb.mono C3.out.size)); clear hb hu))
    go_wp2
    go_ret3
    exact ⟨u, v, rfl, HU.out, B4.out⟩
end
end Go.Proofs.YtcadfpaihfaabaaDoor.PrgZ
