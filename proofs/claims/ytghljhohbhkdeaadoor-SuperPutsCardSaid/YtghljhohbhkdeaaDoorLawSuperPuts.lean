/- SuperPuts: at any superblock, whether it may be, its bytes, and its next one, are the document's. The condition: the least and the most numbers, and the rounds' numbers, lie in the program's variables (the card ties them to the program's text). -/
import Derived.Test.YtghljhohbhkdeaaDoorSupK
import Derived.Test.YtghljhohbhkdeaaDoorRows
import Derived.Test.YtghljhohbhkdeaaDoorTie
import Derived.Test.YtghljhohbhkdeaaDoorCards
import Derived.Test.YtghljhohbhkdeaaDoorSupL
import Derived.WalkKit
import Derived.ProofKit
import Derived.OpenShut
import Derived.ShutString
import Derived.ChangeOld
import Derived.Below
import Derived.LaidMore
import Derived.SevenTiedAt
import Derived.Stop.Joined
namespace Go.Proofs.YtghljhohbhkdeaaDoor.superPuts
open Go.ChangeShapes Go.WideShapes Go.ChangeAt Go.RowKit
open Go.ChangeMaps (open_string shut_string)
set_option linter.unusedVariables false
open GeoN GeoC GeoS SupN SupC SupP SupK
set_option maxRecDepth 100000 in
set_option maxHeartbeats 2000000 in
theorem way_no (g t e k b l f : Int) (w : World) (hg : Gl w)  (hp : put_ ⟨g, t, e, k, b, l, f⟩ = ([], 2)) (hm : decide (may ⟨g, t, e, k, b, l, f⟩) = false) (hc : check ⟨g, t, e, k, b, l, f⟩ = 2) (hx : next ⟨g, t, e, k, b, l, f⟩ = (nil_, 2)) :
    Calls Tryd.prog 3 #[.agg #[.int .i64 g, .int .i64 t, .int .i64 e, .int .i64 k, .int .i64 b, .int .i64 l, .int .i64 f]] w fun r w' => r = .returned (.bool true) ∧ Below w.heap.size w w' := by
  obtain ⟨W1, hW1⟩ : ∃ W1, W1 = w.alloc (.cells #[.int .i64 g, .int .i64 t, .int .i64 e, .int .i64 k, .int .i64 b, .int .i64 l, .int .i64 f] 25) := ⟨_, rfl⟩
  have LL : Hid (Lw w g t e k b l f W1) := Lib.hid (by rw [hW1]; exact lw_new g t e k b l f hg)
  obtain ⟨k0, k1, k2, k3, k4, k5, k6⟩ := LL.out.k.cells
  have GG := Lib.hid hg
  have HP := Lib.hid (fun W h => SupP.Put g t e k b l f W h)
  have HQ := Lib.hid (fun W => SupS.Put g t e k b l f W)
  have HX := Lib.hid (fun W h => SupE.Next g t e k b l f W h)
  have HC := Lib.hid (fun W h => SupD.Check g t e k b l f W h)
  rw [hp] at HP
  rw [hp, hm] at HQ
  rw [hx] at HX
  rw [hc] at HC
  have heq := fun W => eql_self 0 0 0 0 0 0 0 W
  clear hp hm hx hc hg
  go_enter Tryd.func3, Tryd.ntmps3
  go_upto_region 1 with (fail)
  rw [← hW1]
  clear hW1
  go_upto_region 3 with (first
    | (go_at_call 7; refine (HP.out _ LL.out.gl).mono ?_; rintro r w2 ⟨rfl, hb⟩; replace LL := Lib.hid (LL.out.step hb); clear hb k0 k1 k2 k3 k4 k5 k6; obtain ⟨k0, k1, k2, k3, k4, k5, k6⟩ := LL.out.k.cells)
    | (go_at_call 8; refine (HQ.out _).mono ?_; rintro r w3 ⟨rfl, hb⟩; replace LL := Lib.hid (LL.out.step hb); clear hb k0 k1 k2 k3 k4 k5 k6; obtain ⟨k0, k1, k2, k3, k4, k5, k6⟩ := LL.out.k.cells))
  go_upto_region 4 with (first
    | (go_at_call 9; refine (HX.out _ LL.out.gl.bn).mono ?_; rintro r w4 ⟨rfl, hb⟩; replace LL := Lib.hid (LL.out.step hb); clear hb k0 k1 k2 k3 k4 k5 k6)
    | (refine wpList_store_row rfl 25 _ _ rfl w4.heap.size _ rfl rfl 25 _ (heap_alloc_new w4 _) infoS rfl (one7 0 0 0 0 0 0 0) ?_))
  generalize hW5 : World.setRow (World.alloc w4 _) _ _ = W5
  replace LL : Hid (Lw w g t e k b l f W5) := Lib.hid (by rw [← hW5]; exact LL.out.step (kept_new _ _ _ _))
  have KY : Hid (Bk W5 w4.heap.size 0 0 0 0 0 0 0) := Lib.hid (by rw [← hW5]; exact has_new _ _ _ _)
  clear hW5 HP HQ HX
  obtain ⟨k0, k1, k2, k3, k4, k5, k6⟩ := LL.out.k.cells
  obtain ⟨y0, y1, y2, y3, y4, y5, y6⟩ := KY.out.cells
  clear GG
  generalize w4.heap.size = Y at *
  go_wp2_with (first
    | (go_at_call 10; refine (HC.out _ LL.out.gl.bn).mono ?_; rintro r w6 ⟨rfl, hb⟩; replace LL := Lib.hid (LL.out.step hb); replace KY := Lib.hid (KY.out.step hb); clear hb k0 k1 k2 k3 k4 k5 k6 y0 y1 y2 y3 y4 y5 y6; obtain ⟨k0, k1, k2, k3, k4, k5, k6⟩ := LL.out.k.cells; obtain ⟨y0, y1, y2, y3, y4, y5, y6⟩ := KY.out.cells)
    | (go_at_call 11; refine (SupY.alive _ LL.out.gl).mono ?_; rintro r w7 ⟨rfl, hb⟩; have HE := Lib.hid (LL.out.step hb); clear hb))
  go_ret
  exact ⟨rfl, HE.out.bel⟩
set_option maxRecDepth 100000 in
set_option maxHeartbeats 2000000 in
theorem way_last (g t e k b l f : Int) (bk : List UInt8) (w : World) (hg : Gl w) (hl : (g == 1152921504606846976) = true) (hp : put_ ⟨g, t, e, k, b, l, f⟩ = (bk, 0)) (hm : decide (may ⟨g, t, e, k, b, l, f⟩) = true) (hc : check ⟨g, t, e, k, b, l, f⟩ = 0) (hx : next ⟨g, t, e, k, b, l, f⟩ = (nil_, 6)) :
    Calls Tryd.prog 3 #[.agg #[.int .i64 g, .int .i64 t, .int .i64 e, .int .i64 k, .int .i64 b, .int .i64 l, .int .i64 f]] w fun r w' => r = .returned (.bool true) ∧ Below w.heap.size w w' := by
  obtain ⟨W1, hW1⟩ : ∃ W1, W1 = w.alloc (.cells #[.int .i64 g, .int .i64 t, .int .i64 e, .int .i64 k, .int .i64 b, .int .i64 l, .int .i64 f] 25) := ⟨_, rfl⟩
  have LL : Hid (Lw w g t e k b l f W1) := Lib.hid (by rw [hW1]; exact lw_new g t e k b l f hg)
  obtain ⟨k0, k1, k2, k3, k4, k5, k6⟩ := LL.out.k.cells
  have GG := Lib.hid hg
  have HP := Lib.hid (fun W h => SupP.Put g t e k b l f W h)
  have HQ := Lib.hid (fun W => SupS.Put g t e k b l f W)
  have HX := Lib.hid (fun W h => SupE.Next g t e k b l f W h)
  have HC := Lib.hid (fun W h => SupD.Check g t e k b l f W h)
  rw [hp] at HP
  rw [hp, hm] at HQ
  rw [hx] at HX
  rw [hc] at HC
  have heq := fun W => eql_self 0 0 0 0 0 0 0 W
  clear hp hm hx hc hg
  go_enter Tryd.func3, Tryd.ntmps3
  go_upto_region 1 with (fail)
  rw [← hW1]
  clear hW1
  go_upto_region 3 with (first
    | (go_at_call 7; refine (HP.out _ LL.out.gl).mono ?_; rintro r w2 ⟨rfl, hb⟩; replace LL := Lib.hid (LL.out.step hb); clear hb k0 k1 k2 k3 k4 k5 k6; obtain ⟨k0, k1, k2, k3, k4, k5, k6⟩ := LL.out.k.cells)
    | (go_at_call 8; refine (HQ.out _).mono ?_; rintro r w3 ⟨rfl, hb⟩; replace LL := Lib.hid (LL.out.step hb); clear hb k0 k1 k2 k3 k4 k5 k6; obtain ⟨k0, k1, k2, k3, k4, k5, k6⟩ := LL.out.k.cells))
  go_upto_region 4 with (first
    | (go_at_call 9; refine (HX.out _ LL.out.gl.bn).mono ?_; rintro r w4 ⟨rfl, hb⟩; replace LL := Lib.hid (LL.out.step hb); clear hb k0 k1 k2 k3 k4 k5 k6)
    | (refine wpList_store_row rfl 25 _ _ rfl w4.heap.size _ rfl rfl 25 _ (heap_alloc_new w4 _) infoS rfl (one7 0 0 0 0 0 0 0) ?_))
  generalize hW5 : World.setRow (World.alloc w4 _) _ _ = W5
  replace LL : Hid (Lw w g t e k b l f W5) := Lib.hid (by rw [← hW5]; exact LL.out.step (kept_new _ _ _ _))
  have KY : Hid (Bk W5 w4.heap.size 0 0 0 0 0 0 0) := Lib.hid (by rw [← hW5]; exact has_new _ _ _ _)
  clear hW5 HP HQ HX
  obtain ⟨k0, k1, k2, k3, k4, k5, k6⟩ := LL.out.k.cells
  obtain ⟨y0, y1, y2, y3, y4, y5, y6⟩ := KY.out.cells
  clear GG
  generalize w4.heap.size = Y at *
  go_wp2_with (first
    | (go_at_call 10; refine (HC.out _ LL.out.gl.bn).mono ?_; rintro r w6 ⟨rfl, hb⟩; replace LL := Lib.hid (LL.out.step hb); replace KY := Lib.hid (KY.out.step hb); clear hb k0 k1 k2 k3 k4 k5 k6 y0 y1 y2 y3 y4 y5 y6; obtain ⟨k0, k1, k2, k3, k4, k5, k6⟩ := LL.out.k.cells; obtain ⟨y0, y1, y2, y3, y4, y5, y6⟩ := KY.out.cells)
    | (go_at_call 11; refine (SupY.alive _ LL.out.gl).mono ?_; rintro r w7 ⟨rfl, hb⟩; have HE := Lib.hid (LL.out.step hb); clear hb))
  go_ret
  exact ⟨rfl, HE.out.bel⟩
set_option maxRecDepth 100000 in
set_option maxHeartbeats 2000000 in
theorem way_yes (g t e k b l f : Int) (bk : List UInt8) (w : World) (hg : Gl w) (hl : ¬ g = 1152921504606846976) (h1 : 1 ≤ g) (h2 : g ≤ 1152921504606846976) (hp : put_ ⟨g, t, e, k, b, l, f⟩ = (bk, 0)) (hm : decide (may ⟨g, t, e, k, b, l, f⟩) = true) (hc : check ⟨g, t, e, k, b, l, f⟩ = 0) (hx : next ⟨g, t, e, k, b, l, f⟩ = (⟨g + 1, t, e, k, b, l, f⟩, 0)) :
    Calls Tryd.prog 3 #[.agg #[.int .i64 g, .int .i64 t, .int .i64 e, .int .i64 k, .int .i64 b, .int .i64 l, .int .i64 f]] w fun r w' => r = .returned (.bool true) ∧ Below w.heap.size w w' := by
  obtain ⟨W1, hW1⟩ : ∃ W1, W1 = w.alloc (.cells #[.int .i64 g, .int .i64 t, .int .i64 e, .int .i64 k, .int .i64 b, .int .i64 l, .int .i64 f] 25) := ⟨_, rfl⟩
  have LL : Hid (Lw w g t e k b l f W1) := Lib.hid (by rw [hW1]; exact lw_new g t e k b l f hg)
  obtain ⟨k0, k1, k2, k3, k4, k5, k6⟩ := LL.out.k.cells
  have GG := Lib.hid hg
  have HP := Lib.hid (fun W h => SupP.Put g t e k b l f W h)
  have HQ := Lib.hid (fun W => SupS.Put g t e k b l f W)
  have HX := Lib.hid (fun W h => SupE.Next g t e k b l f W h)
  have HC := Lib.hid (fun W h => SupD.Check g t e k b l f W h)
  rw [hp] at HP
  rw [hp, hm] at HQ
  rw [hx] at HX
  rw [hc] at HC
  have heq := fun W => eql_self (g + 1) t e k b l f W
  clear hp hm hx hc hg
  go_enter Tryd.func3, Tryd.ntmps3
  go_upto_region 1 with (fail)
  rw [← hW1]
  clear hW1
  go_upto_region 3 with (first
    | (go_at_call 7; refine (HP.out _ LL.out.gl).mono ?_; rintro r w2 ⟨rfl, hb⟩; replace LL := Lib.hid (LL.out.step hb); clear hb k0 k1 k2 k3 k4 k5 k6; obtain ⟨k0, k1, k2, k3, k4, k5, k6⟩ := LL.out.k.cells)
    | (go_at_call 8; refine (HQ.out _).mono ?_; rintro r w3 ⟨rfl, hb⟩; replace LL := Lib.hid (LL.out.step hb); clear hb k0 k1 k2 k3 k4 k5 k6; obtain ⟨k0, k1, k2, k3, k4, k5, k6⟩ := LL.out.k.cells))
  go_upto_region 4 with (first
    | (go_at_call 9; refine (HX.out _ LL.out.gl.bn).mono ?_; rintro r w4 ⟨rfl, hb⟩; replace LL := Lib.hid (LL.out.step hb); clear hb k0 k1 k2 k3 k4 k5 k6)
    | (refine wpList_store_row rfl 25 _ _ rfl w4.heap.size _ rfl rfl 25 _ (heap_alloc_new w4 _) infoS rfl (one7 (g + 1) t e k b l f) ?_))
  generalize hW5 : World.setRow (World.alloc w4 _) _ _ = W5
  replace LL : Hid (Lw w g t e k b l f W5) := Lib.hid (by rw [← hW5]; exact LL.out.step (kept_new _ _ _ _))
  have KY : Hid (Bk W5 w4.heap.size (g + 1) t e k b l f) := Lib.hid (by rw [← hW5]; exact has_new _ _ _ _)
  clear hW5 HP HQ HX
  obtain ⟨k0, k1, k2, k3, k4, k5, k6⟩ := LL.out.k.cells
  obtain ⟨y0, y1, y2, y3, y4, y5, y6⟩ := KY.out.cells
  have hYw : w4.heap.size ≠ w.heap.size := by
    intro hh
    have h1 := LL.out.k
    have h2 := KY.out
    rw [hh] at h2
    have h3 := Option.some.inj (h1.symm.trans h2)
    simp only [Obj.cells.injEq] at h3
    have h4 := h3.1
    simp at h4
    omega
  have NE := Lib.hid hYw
  clear hYw
  generalize w4.heap.size = Y at *
  go_upto_region 10 with ((go_at_call 10; refine (HC.out _ LL.out.gl.bn).mono ?_; rintro r w6 ⟨rfl, hb⟩; replace LL := Lib.hid (LL.out.step hb); replace KY := Lib.hid (KY.out.step hb); clear hb k0 k1 k2 k3 k4 k5 k6 y0 y1 y2 y3 y4 y5 y6; obtain ⟨k0, k1, k2, k3, k4, k5, k6⟩ := LL.out.k.cells; obtain ⟨y0, y1, y2, y3, y4, y5, y6⟩ := KY.out.cells))
  have fz := blk_free (i := 0) LL.out.k
  go_upto_region 11 with (fail)
  generalize hW : World.setCell _ _ _ = W8
  have b8 : Below w.heap.size w W8 := by rw [← hW]; exact LL.out.bel.setCell (Nat.le_refl _) _
  have L8 : Hid (Lw w (g + 1) t e k b l f W8) := Lib.hid ⟨b8, Gl.below GG.out b8 (Gl.lt GG.out).1 (Gl.lt GG.out).2.1 (Gl.lt GG.out).2.2, by rw [← hW]; show _ = _; rw [blk_set LL.out.k]; rfl⟩
  have K8 : Hid (Bk W8 Y (g + 1) t e k b l f) := Lib.hid (by rw [← hW]; show _ = _; rw [Below.heap_setCell _ _ _ _ (by exact NE.out)]; exact KY.out)
  clear hW b8 k0 k1 k2 k3 k4 k5 k6 y0 y1 y2 y3 y4 y5 y6 fz HC GG
  replace LL := L8
  obtain ⟨k0, k1, k2, k3, k4, k5, k6⟩ := LL.out.k.cells
  obtain ⟨y0, y1, y2, y3, y4, y5, y6⟩ := K8.out.cells
  go_wp2_with (go_at_call 11; refine (SupY.alive _ LL.out.gl).mono ?_; rintro r w7 ⟨rfl, hb⟩; have HE := Lib.hid (LL.out.step hb); clear hb)
  go_ret
  exact ⟨rfl, HE.out.bel⟩
theorem walk (g t e k b l f : Int) (w : World) (hr : Gl w) :
    Calls Tryd.prog 3 #[.agg #[.int .i64 g, .int .i64 t, .int .i64 e, .int .i64 k, .int .i64 b, .int .i64 l, .int .i64 f]] w fun e w' => e = .returned (.bool true) ∧ Below w.heap.size w w' := by
  by_cases hm : may ⟨g, t, e, k, b, l, f⟩
  · by_cases hl : g = 1152921504606846976
    · exact way_last g t e k b l f _ w hr (beq_iff_eq.2 hl) (SupN.put_yes hm) (decide_eq_true hm) (check_yes hm) (next_last hm hl)
    · exact way_yes g t e k b l f _ w hr hl hm.2.1.1 hm.2.1.2 (SupN.put_yes hm) (decide_eq_true hm) (check_yes hm) (next_yes hm hl)
  · exact way_no g t e k b l f w hr (SupN.put_no hm) (decide_eq_false hm) (check_no hm) (next_no hm)
theorem own : ownKnob Tryd.prog.godebug = none := by kernel_rfl
theorem laidOut : laidOutB Tryd.prog = true := by kernel_rfl
set_option maxRecDepth 100000 in
theorem lifted (os : Os) (started : os.Started) (H : Type) (enc : TypeId × Value → H) :
    ReturnsInHanded {} Tryd.checked os 3 .any (fun w args => (Rows.superPutsSpec.pre enc Tryd.prog Tryd.f3 Rows.superPutsRow.domain false w args ∧ laidMetH Tryd.prog Rows.superPutsRow.laid w) ∧ sizedMet enc Tryd.prog Tryd.f3 (OpenSpec.ofChange Rows.superPutsSpec) false w args) (Rows.superPutsSpec.post enc Tryd.prog Tryd.f3 false true false false) := by
  refine returnsInHanded_of_change_and (C := Tryd.checked) (X := fun w _ => laidMetH Tryd.prog Rows.superPutsRow.laid w) (fun _ _ _ hh h => h.of_heap hh) own started (by kernel_rfl) Tryd.func3
    (ChangeSpec.witness_shaped (enc := enc) (C := Tryd.checked) (os := os) (X := fun w _ => laidMetH Tryd.prog Rows.superPutsRow.laid w) false (World.doorLaid Tryd.prog 400 os) #[.agg #[.int .i64 0, .int .i64 0, .int .i64 0, .int .i64 0, .int .i64 0, .int .i64 0, .int .i64 0]] 8 rfl (World.shaped_of_RefB (by kernel_rfl) (by kernel_rfl)) (by kernel_rfl) (by kernel_rfl) (by kernel_rfl) (SupL.door_met os _)) ?_
  intro W base args ds gs before hval0 hW _ _ hL _
  have hr := SupL.of_laid hL
  have hval : ∀ (j : Nat) t v, Tryd.f3.params[j]? = some t → args[j]? = some v → Value.okWide Tryd.prog W .any base t v := hval0
  have hW' := hW
  obtain ⟨p, q, hA0, hV, rfl, hfz, hnd⟩ := hW
  have hA : DataW.TrodAll enc Tryd.prog W 0 (fun _ => true) true Tryd.f3.params.toList args.toList ds p := hA0
  rw [Tryd.params3] at hA hval
  obtain ⟨v0, vs0, d0, ds0, p0, q0, hargs, rfl, rfl, h0, r0⟩ := trodAll_cons hA
  obtain ⟨rfl, rfl, rfl⟩ := trodAll_nil r0
  obtain rfl : args = #[v0] := by cases args; simp_all
  obtain ⟨rfl, rfl⟩ := trodVars_none hV
  have k0 := h0
  have lt0 : ∀ x ∈ p0, x.block < W.heap.size := by obtain ⟨m, hm⟩ := k0; exact DataW.trod_lt m _ _ _ hm
  obtain ⟨sg0, st0, se0, sk0, sb0, sl0, sf0, rfl⟩ := SupL.open_sup (hval 0 25 v0 rfl rfl) h0
  clear hA0 hval0
  refine (walk sg0 st0 se0 sk0 sb0 sl0 sf0 W hr).mono fun e W' ⟨he, bel⟩ => ?_
  subst he
  exact ⟨_, rfl, _, _, _, [], _, [], hW', trodAll_mk1 (shut_bool Tryd.underlying4 _), (trodAll_cons_mk (Below.trod laidOut (by kernel_rfl) (of_decide_eq_true (by kernel_rfl)) k0 bel lt0) trodAll_mk0), rfl, bel.frame _, fun h => by cases h⟩
theorem over : Rows.superPutsRow.holds Tryd.pinned (OpenSpec.ofChange Rows.superPutsSpec) :=
  OpenClaim.holds_of_wide 3 Tryd.f3 rfl rfl rfl rfl rfl rfl rfl ⟨rfl, rfl, rfl, rfl, rfl⟩ rfl rfl rfl rfl rfl (by kernel_rfl) Tryd.func3 (by kernel_rfl)
    (of_decide_eq_true (by kernel_rfl)) (by unfold Func.isWrapper; first | (rw [if_pos (by decide +kernel)]; kernel_rfl) | (rw [if_neg (by decide +kernel)]; exact ⟨rfl, rfl⟩))
    (fun os started H enc _ => lifted os started H enc)
/-- THE STATEMENT, proved. -/
theorem proved : Rows.SuperPutsCardSaid :=
  Claim7.holds_tied_plain_at .later [] _ true _ false
    over (fun _ h => by cases h) (by kernel_rfl) (fun _ h => by cases h) superPuts_row_tie rfl ⟨rfl, rfl⟩ (by kernel_rfl) rfl
    (fun f fn hf hfn => by
      obtain rfl : f = 3 := Option.some.inj ((show Tryd.prog.funcNamed "keepsake/keepsakelaw10.SuperPuts" = some 3 by kernel_rfl).symm.trans hf) |>.symm
      obtain rfl : fn = Tryd.f3 := (Option.some.inj (Tryd.func3.symm.trans hfn)).symm
      exact ⟨by kernel_rfl, fun j t ht => by
        rw [Tryd.params3] at ht
        have hm : t ∈ [25] := by simpa using Array.mem_of_getElem? ht
        have hall : ([25].all fun u => !Tryd.prog.wantsStandIn u) = true := by kernel_rfl
        exact (show Tryd.prog.wantsStandIn t = false by simpa using List.all_eq_true.1 hall t hm)⟩)
    (by kernel_rfl)
#print axioms proved
end Go.Proofs.YtghljhohbhkdeaaDoor.superPuts
