/- PrgW PrgM: one behind the other. -/
import Derived.Test.YtdkcebaehdkphaaGreatDoorLPrgV
import Derived.Test.YtdkcebaehdkphaaGreatDoorLPrgP
/- The program's package proof: tells, Tells: the walks of their texts. The condition: the rounds' numbers lie in the program's variable. -/
namespace Go.Proofs.YtdkcebaehdkphaaGreatDoor.PrgW
set_option linter.unusedVariables false
open Go.RowKit STurn SSum
open PrfL PrfN PrfM PrfB PrfG PrgN PrgC PrgK PrgB PrgT PrgI PrgL PrgV MerQ MerC MerV
/-- What tells answers. -/
def tellsR (r : L) (n b : Int) (x : Raw) : L × Bool × Nat := tells r n b (pf x)
/-- The boxes of the trees' functions and of a proof. -/
structure Tp (w : World) (x : Raw) (W : World) : Prop where
  d : Below w.heap.size w W
  t : W.heap[w.heap.size]? = some (.cells tc 81 (0, 0))
  p : W.heap[w.heap.size + 1]? = some (.cells x.cells 48 (0, 0))
theorem Tp.step {w : World} {x : Raw} {W V : World} (h : Tp w x W) (hb : Below W.heap.size W V) : Tp w x V :=
  have h0 := (Array.getElem?_eq_some_iff.1 h.t).1
  have h1 := (Array.getElem?_eq_some_iff.1 h.p).1
  ⟨h.d.trans (hb.mono (by omega)), (hb.block _ h0).trans h.t, (hb.block _ h1).trans h.p⟩
theorem tp_new (w : World) (x : Raw) : Tp w x ((w.alloc (.cells tc 81)).alloc (.cells x.cells 48)) := ⟨(below_new w _).alloc (by simp) _, heap_alloc2_old w _ _, heap_alloc2_new w _ _⟩
section
variable (r : L) (n b : Int) (x : Raw) (w : World) (hx : Okay w x) (hr : Rds w)
set_option maxRecDepth 100000 in
theorem tells_arg (h : ¬ (0 ≤ n ∧ n ≤ 4096 ∧ 0 ≤ b ∧ b ≤ 4095)) :
    Calls Tryz.prog 36 #[.agg tc, str r, .int .i64 n, .int .i64 b, .agg x.cells] w fun e w' => e = .returned (.tuple #[str [], .bool false, .int .i64 2]) ∧ Below w.heap.size w w' := by
  obtain ⟨W1, hW1⟩ : ∃ W1, W1 = (w.alloc (.cells tc 81)).alloc (.cells x.cells 48) := ⟨_, rfl⟩
  have TP := Lib.hid (show Tp w x W1 by rw [hW1]; exact tp_new w x)
  have H1 := Lib.hid (fun W => within n 4096 W)
  have H2 := Lib.hid (fun W => within b 4095 W)
  have F1 : Hid True := Lib.hid trivial
  by_cases hn : 0 ≤ n ∧ n ≤ 4096
  · rw [in_yes hn] at H1
    rw [in_no (fun hb => h ⟨hn.1, hn.2, hb⟩)] at H2
    clear h hn
    go_enter Tryz.func36, Tryz.ntmps36
    go_upto_region 1 with (fail)
    rw [← hW1]
    clear hW1
    go_wp2_with (first
      | (clear F1; go_at_call 56; refine (H1.out _).mono ?_; rintro e _ ⟨rfl, rfl⟩)
      | (go_at_call 56; refine (H2.out _).mono ?_; rintro e _ ⟨rfl, rfl⟩))
    go_ret3
    exact ⟨rfl, TP.out.d⟩
  · rw [in_no hn] at H1
    clear h hn
    go_enter Tryz.func36, Tryz.ntmps36
    go_upto_region 1 with (fail)
    rw [← hW1]
    clear hW1
    go_wp2_with (go_at_call 56; refine (H1.out _).mono ?_; rintro e _ ⟨rfl, rfl⟩)
    go_ret3
    exact ⟨rfl, TP.out.d⟩
include hx hr
set_option maxRecDepth 100000 in
set_option maxHeartbeats 1000000 in
theorem tells_in (h : 0 ≤ n ∧ n ≤ 4096 ∧ 0 ≤ b ∧ b ≤ 4095) :
    Calls Tryz.prog 36 #[.agg tc, str r, .int .i64 n, .int .i64 b, .agg x.cells] w fun e w' => e = .returned (if provesB r n b (pf x) = true then .tuple #[str (toldP (pf x)), .bool x.f, .int .i64 0] else .tuple #[str [], .bool false, .int .i64 17]) ∧ Below w.heap.size w w' := by
  obtain ⟨W1, hW1⟩ : ∃ W1, W1 = (w.alloc (.cells tc 81)).alloc (.cells x.cells 48) := ⟨_, rfl⟩
  have TP := Lib.hid (show Tp w x W1 by rw [hW1]; exact tp_new w x)
  have H1 := Lib.hid (fun W => within n 4096 W)
  have H2 := Lib.hid (fun W => within b 4095 W)
  rw [in_yes ⟨h.1, h.2.1⟩] at H1
  rw [in_yes h.2.2] at H2
  have HP := Lib.hid (fun W (hb : Below w.heap.size w W) => proves r n b x W (by omega) (hx.step hb) (hr.step hb))
  have HT := Lib.hid (fun W => told x W)
  have F1 : Hid True := Lib.hid trivial
  generalize provesB r n b (pf x) = q at *
  generalize toldP (pf x) = s at *
  clear h hx hr
  cases q
  · simp only [Bool.false_eq_true, if_false]
    go_enter Tryz.func36, Tryz.ntmps36
    go_upto_region 1 with (fail)
    rw [← hW1]
    clear hW1
    go_wp2_with (first
      | (clear F1; go_at_call 56; refine (H1.out _).mono ?_; rintro e _ ⟨rfl, rfl⟩)
      | (go_at_call 56; refine (H2.out _).mono ?_; rintro e _ ⟨rfl, rfl⟩)
      | (refine wpList_load_row rfl 81 _ rfl w.heap.size rfl 81 _ (0, 0) _ TP.out.t Tryz.underlying81 rfl infoT ?_)
      | (refine wpList_load_row rfl 48 _ rfl (w.heap.size + 1) rfl 48 _ (0, 0) _ TP.out.p Tryz.underlying48 rfl infoP ?_)
      | (go_at_call 57; refine (HP.out _ TP.out.d).mono ?_; rintro e w2 ⟨rfl, hb⟩; replace TP := Lib.hid (TP.out.step hb); clear hb))
    go_ret3
    exact ⟨rfl, TP.out.d⟩
  · simp only [if_true]
    have HPS : Hid (∀ W, Tp w x W → W.cell? ⟨w.heap.size + 1, 0, none⟩ = some (.bool x.f) ∧ W.cell? ⟨w.heap.size + 1, 1, none⟩ = some (.int .i64 x.at_) ∧ W.cell? ⟨w.heap.size + 1, 2, none⟩ = some (.int .i64 x.here.1) ∧ W.cell? ⟨w.heap.size + 1, 3, none⟩ = some (st x.here.2) ∧ W.cell? ⟨w.heap.size + 1, 4, none⟩ = some (.int .i64 x.ahead.1) ∧ W.cell? ⟨w.heap.size + 1, 5, none⟩ = some (st x.ahead.2) ∧ W.cell? ⟨w.heap.size + 1, 6, none⟩ = some (.slice x.ua x.up.length x.uc) ∧ W.cell? ⟨w.heap.size + 1, 7, none⟩ = some (.slice x.la x.left.length x.lc)) :=
      Lib.hid fun W h => ⟨blk_cell h.p rfl, blk_cell h.p rfl, blk_cell h.p rfl, blk_cell h.p rfl, blk_cell h.p rfl, blk_cell h.p rfl, blk_cell h.p rfl, blk_cell h.p rfl⟩
    go_enter Tryz.func36, Tryz.ntmps36
    go_upto_region 1 with (fail)
    rw [← hW1]
    clear hW1
    go_upto_region 5 with (first
      | (clear F1; go_at_call 56; refine (H1.out _).mono ?_; rintro e _ ⟨rfl, rfl⟩)
      | (go_at_call 56; refine (H2.out _).mono ?_; rintro e _ ⟨rfl, rfl⟩)
      | (refine wpList_load_row rfl 81 _ rfl w.heap.size rfl 81 _ (0, 0) _ TP.out.t Tryz.underlying81 rfl infoT ?_)
      | (refine wpList_load_row rfl 48 _ rfl (w.heap.size + 1) rfl 48 _ (0, 0) _ TP.out.p Tryz.underlying48 rfl infoP ?_)
      | (go_at_call 57; refine (HP.out _ TP.out.d).mono ?_; rintro e w2 ⟨rfl, hb⟩; replace TP := Lib.hid (TP.out.step hb); clear hb))
    replace TP := Lib.hid (TP.out.step (Below.refl _ _).drew)
    dsimp only [Raw.cells] at HT
    have hS0 := HPS.out _ TP.out
    go_region_held3 (fun W => W.cell? ⟨w.heap.size + 1, 0, none⟩ = some (.bool x.f) ∧ W.cell? ⟨w.heap.size + 1, 1, none⟩ = some (.int .i64 x.at_) ∧ W.cell? ⟨w.heap.size + 1, 2, none⟩ = some (.int .i64 x.here.1) ∧ W.cell? ⟨w.heap.size + 1, 3, none⟩ = some (st x.here.2) ∧ W.cell? ⟨w.heap.size + 1, 4, none⟩ = some (.int .i64 x.ahead.1) ∧ W.cell? ⟨w.heap.size + 1, 5, none⟩ = some (st x.ahead.2) ∧ W.cell? ⟨w.heap.size + 1, 6, none⟩ = some (.slice x.ua x.up.length x.uc) ∧ W.cell? ⟨w.heap.size + 1, 7, none⟩ = some (.slice x.la x.left.length x.lc))
      (first | exact hS0 | exact hS1)
      (first
        | (go_at_call 58; refine (HT.out _).mono ?_; rintro e w3 ⟨rfl, hb⟩; have T3 := Lib.hid (TP.out.step hb); have hS1 := HPS.out _ T3.out; clear hb))
    go_wp2
    go_ret3
    exact ⟨rfl, T3.out.d⟩
/-- THE CONTRACT of tells. -/
theorem tells_any : Calls Tryz.prog 36 #[.agg tc, str r, .int .i64 n, .int .i64 b, .agg x.cells] w fun e w' => e = .returned (.tuple #[str (tellsR r n b x).1, .bool (tellsR r n b x).2.1, .int .i64 ((tellsR r n b x).2.2 : Nat)]) ∧ Below w.heap.size w w' := by
  by_cases h : 0 ≤ n ∧ n ≤ 4096 ∧ 0 ≤ b ∧ b ≤ 4095
  · have e1 : tellsR r n b x = if provesB r n b (pf x) = true then (toldP (pf x), x.f, 0) else ([], false, 17) := proves_tells ⟨h.1, h.2.1⟩ h.2.2
    rw [e1]
    refine (tells_in r n b x w hx hr h).mono ?_
    rintro e w' ⟨rfl, hb⟩
    refine ⟨?_, hb⟩
    cases provesB r n b (pf x) <;> rfl
  · have e1 : tellsR r n b x = ([], false, 2) := by unfold tellsR tells; rw [if_neg h]
    rw [e1]
    exact tells_arg r n b x w h
set_option maxRecDepth 100000 in
set_option maxHeartbeats 1000000 in
theorem Tells : Calls Tryz.prog 22 #[str r, .int .i64 n, .int .i64 b, .agg x.cells] w fun e w' => e = .returned (.tuple #[str (tellsR r n b x).1, .bool (tellsR r n b x).2.1, .int .i64 ((tellsR r n b x).2.2 : Nat)]) ∧ Below w.heap.size w w' := by
  obtain ⟨W1, hW1⟩ : ∃ W1, W1 = w.alloc (.cells x.cells 48) := ⟨_, rfl⟩
  have b1 : Below w.heap.size w W1 := by rw [hW1]; exact below_new w _
  have BX := Lib.hid (show PrgC.BoxP w.heap.size x W1 by rw [hW1]; exact boxp_new w x)
  have B1 := Lib.hid b1.drew
  have HM := Lib.hid (fun W => merkles W)
  have HT := Lib.hid (fun W (hb : Below w.heap.size w W) => tells_any r n b x W (hx.step hb) (hr.step hb))
  have HPS : Hid (∀ W, PrgC.BoxP w.heap.size x W → W.cell? ⟨w.heap.size, 0, none⟩ = some (.bool x.f) ∧ W.cell? ⟨w.heap.size, 1, none⟩ = some (.int .i64 x.at_) ∧ W.cell? ⟨w.heap.size, 2, none⟩ = some (.int .i64 x.here.1) ∧ W.cell? ⟨w.heap.size, 3, none⟩ = some (st x.here.2) ∧ W.cell? ⟨w.heap.size, 4, none⟩ = some (.int .i64 x.ahead.1) ∧ W.cell? ⟨w.heap.size, 5, none⟩ = some (st x.ahead.2) ∧ W.cell? ⟨w.heap.size, 6, none⟩ = some (.slice x.ua x.up.length x.uc) ∧ W.cell? ⟨w.heap.size, 7, none⟩ = some (.slice x.la x.left.length x.lc)) := Lib.hid fun W h => h.cells
  generalize tellsR r n b x = t at *
  have hS0 := HPS.out _ (BX.out.step (Below.refl _ _).drew)
  have HBx := Lib.hid (fun W (hb : Below W1.drew.heap.size W1.drew W) => HPS.out W ((BX.out.step (Below.refl _ _).drew).step hb))
  dsimp only [Raw.cells] at HT
  clear hx hr b1
  generalize tc = cs at *
  go_enter Tryz.func22, Tryz.ntmps22
  go_upto_region 1 with (fail)
  rw [← hW1]
  clear hW1
  go_region_held3 (fun W => W.cell? ⟨w.heap.size, 0, none⟩ = some (.bool x.f) ∧ W.cell? ⟨w.heap.size, 1, none⟩ = some (.int .i64 x.at_) ∧ W.cell? ⟨w.heap.size, 2, none⟩ = some (.int .i64 x.here.1) ∧ W.cell? ⟨w.heap.size, 3, none⟩ = some (st x.here.2) ∧ W.cell? ⟨w.heap.size, 4, none⟩ = some (.int .i64 x.ahead.1) ∧ W.cell? ⟨w.heap.size, 5, none⟩ = some (st x.ahead.2) ∧ W.cell? ⟨w.heap.size, 6, none⟩ = some (.slice x.ua x.up.length x.uc) ∧ W.cell? ⟨w.heap.size, 7, none⟩ = some (.slice x.la x.left.length x.lc))
    (first | exact hS0 | exact hS1 | exact hS2)
    (first
      | (go_at_call 35; refine (HM.out _).mono ?_; rintro e w3 ⟨rfl, hb⟩; have B3 := Lib.hid (B1.out.trans (hb.mono B1.out.size)); have C3 := Lib.hid hb; have hS1 := HBx.out _ hb; clear hb)
      | (go_at_call 36; refine (HT.out _ B3.out).mono ?_; rintro e w4 ⟨rfl, hb⟩; have B4 := Lib.hid (B3.out.trans (hb.mono B3.out.size)); have hS2 := HBx.out _ (C3.out.trans (hb.mono C3.out.size)); clear hb))
  go_wp2
  go_ret3
  exact ⟨rfl, B4.out⟩
end
end Go.Proofs.YtdkcebaehdkphaaGreatDoor.PrgW
/- What the statements go through: the last leaf of a place, an own proof. No conditions but those that each lemma names. -/
namespace Go.Proofs.YtdkcebaehdkphaaGreatDoor.PrgM
set_option linter.unusedVariables false
open Go.RowKit STurn SSum
open PrfL PrfN PrfM PrfB PrgN PrgC PrgK PrgH PrgF PrgO PrgP PrgQ PrgV PrgW MerQ MerM MerN MerC MerA MerJ MerR MerW
theorem last_next {l : List Lf} {k : Nat} (b : Int) (hk : k < l.length) : lastOf (l.take (k + 1)) b = if (l.getD k no).1 = b then ((l.getD k no).2, true) else lastOf (l.take k) b := by
  unfold lastOf
  rw [List.take_succ_eq_append_getElem hk, List.foldl_append, at_d _ hk]
  rfl
theorem fit_no : Fit no := by unfold Fit maxLen; simp
/-- An own proof is one that is gone through. -/
theorem prove_okay {B : Nat} {W : World} {l : List Lf} {b : Int} {x : Raw} (hf : ∀ y ∈ l, Fit y) (hn : l.length ≤ 100000) (hx : pf x = prove l b)
    (h1 : W.ownsRow B 9 1 (.slice x.ua x.up.length x.uc) x.up.length (x.up.map str)) (h2 : W.ownsRow B 9 1 (.slice x.la x.left.length x.lc) x.left.length (x.left.map str)) : Okay W x := by
  have hle := plc_le l b
  have eh : x.here = (prove l b).here := by rw [← hx]; rfl
  have ea : x.ahead = (prove l b).ahead := by rw [← hx]; rfl
  have eu : x.up = (prove l b).up := by rw [← hx]; rfl
  have el : x.left = (prove l b).left := by rw [← hx]; rfl
  have ei : x.at_ = (prove l b).at_ := by rw [← hx]; rfl
  have hpl : ∀ i, i < l.length → (pathN nd (hs l) i).length ≤ 1000000 ∧ ∀ y ∈ pathN nd (hs l) i, y.length ≤ 9223372036854775807 := fun i hi => by
    refine ⟨?_, fun y hy => by rw [path_32 (hs_32 l) y hy]; omega⟩
    rw [pathN_length nd (by rw [hs_length]; exact hi)]
    exact Nat.le_trans (long_le _ _ _) (by rw [hs_length]; omega)
  have hle2 : ∀ i, i < l.length → Fit (l.getD i no) := fun i hi => hf _ (by rw [at_d _ hi]; exact List.getElem_mem hi)
  refine ⟨?_, ?_, own_strs h1, own_strs h2, ?_, ?_, ?_, ?_, ?_⟩
  · rw [eh]; unfold prove; dsimp only
    split
    · rename_i h; exact hle2 _ h
    · exact fit_no
  · rw [ea]; unfold prove; dsimp only
    split
    · rename_i h; exact hle2 _ (by omega)
    · exact fit_no
  · rw [eu]; unfold prove; dsimp only
    split
    · rename_i h; exact (hpl _ h).1
    · simp
  · rw [el]; unfold prove; dsimp only
    split
    · rename_i h; exact (hpl _ (by omega)).1
    · simp
  · rw [eu]; unfold prove; dsimp only
    split
    · rename_i h; exact (hpl _ h).2
    · intro y hy; simp at hy
  · rw [el]; unfold prove; dsimp only
    split
    · rename_i h; exact (hpl _ (by omega)).2
    · intro y hy; simp at hy
  · rw [ei]; unfold prove; dsimp only
    omega
end Go.Proofs.YtdkcebaehdkphaaGreatDoor.PrgM
