/- ClockNil: at any time, and whether there is a clock that no call made or none: it answers that there is none, shows 0, and nothing is past. No conditions. -/
import Derived.Test.YtegbafconabpeaaCloM
import Derived.Test.YtegbafconabpeaaRows
import Derived.WalkKit
import Derived.ProofKit
import Derived.OpenShut
import Derived.ShutString
import Derived.ChangeOld
import Derived.Below
namespace Go.Proofs.Ytegbafconabpeaa.clockNil
open Go.ChangeShapes Go.WideShapes Go.ChangeAt Go.RowKit
open Go.ChangeMaps (open_string shut_string)
set_option linter.unusedVariables false
open CloC CloM
set_option maxRecDepth 100000 in
theorem walk (t : Int) (there : Bool) (w : World) (wt : (Lit.int .i64 t).wf = true) :
    Calls Try.prog 5 #[.int .i64 t, .bool there] w fun e w' => e = .returned (.bool true) ∧ Below w.heap.size w w' := by
  have H1 := Lib.hid (fun s W (h : Non W s) => Tick_none s t W h)
  have H2 := Lib.hid (fun s W (h : Non W s) => Now_none s W h)
  have H3 := Lib.hid (fun s W (h : Non W s) => Past_none s t W h)
  clear wt
  go_enter Try.func5, Try.ntmps5
  cases there
  · have NN : Hid (Non w none) := Lib.hid (.inl rfl)
    have BB : Hid (Below w.heap.size w w) := Lib.hid (Below.refl _ _)
    go_wp2_with (first
      | (go_at_call 8; refine (H1.out _ _ NN.out).mono ?_; rintro e w2 ⟨rfl, k⟩; replace NN := Lib.hid (NN.out.step k); replace BB := Lib.hid (BB.out.trans (k.mono BB.out.size)); clear k H1)
      | (go_at_call 9; refine (H2.out _ _ NN.out).mono ?_; rintro e w3 ⟨rfl, k⟩; replace NN := Lib.hid (NN.out.step k); replace BB := Lib.hid (BB.out.trans (k.mono BB.out.size)); clear k H2)
      | (go_at_call 10; refine (H3.out _ _ NN.out).mono ?_; rintro e w4 ⟨rfl, k⟩; replace NN := Lib.hid (NN.out.step k); replace BB := Lib.hid (BB.out.trans (k.mono BB.out.size)); clear k H3)
      | (go_at_call 6; refine (alive _).mono ?_; rintro e w6 ⟨rfl, k⟩; replace BB := Lib.hid (BB.out.trans (k.mono BB.out.size)); clear k))
    go_ret
    exact ⟨rfl, BB.out⟩
  · go_upto_region 4 with (fail)
    generalize hW : World.alloc w _ = W1
    have NN : Hid (Non W1 (some ⟨w.heap.size, 0, none⟩)) := Lib.hid (.inr ⟨_, 0, 0, rfl, by rw [← hW]; exact ck_new w false 0⟩)
    have BB : Hid (Below w.heap.size w W1) := Lib.hid (by rw [← hW]; exact box_new w _)
    clear hW
    go_wp2_with (first
      | (go_at_call 8; refine (H1.out _ _ NN.out).mono ?_; rintro e w2 ⟨rfl, k⟩; replace NN := Lib.hid (NN.out.step k); replace BB := Lib.hid (BB.out.trans (k.mono BB.out.size)); clear k H1)
      | (go_at_call 9; refine (H2.out _ _ NN.out).mono ?_; rintro e w3 ⟨rfl, k⟩; replace NN := Lib.hid (NN.out.step k); replace BB := Lib.hid (BB.out.trans (k.mono BB.out.size)); clear k H2)
      | (go_at_call 10; refine (H3.out _ _ NN.out).mono ?_; rintro e w4 ⟨rfl, k⟩; replace NN := Lib.hid (NN.out.step k); replace BB := Lib.hid (BB.out.trans (k.mono BB.out.size)); clear k H3)
      | (go_at_call 6; refine (alive _).mono ?_; rintro e w6 ⟨rfl, k⟩; replace BB := Lib.hid (BB.out.trans (k.mono BB.out.size)); clear k))
    go_ret
    exact ⟨rfl, BB.out⟩
theorem own : ownKnob Try.prog.godebug = none := by kernel_rfl
theorem laidOut : laidOutB Try.prog = true := by kernel_rfl
set_option maxRecDepth 100000 in
theorem lifted (os : Os) (started : os.Started) (H : Type) (enc : TypeId × Value → H) :
    ReturnsInHanded {} Try.checked os 5 .any (Rows.clockNilSpec.pre6 enc Try.prog Try.f5 Rows.clockNilRow.domain false) (Rows.clockNilSpec.post enc Try.prog Try.f5 false true false false) := by
  refine returnsInHanded_of_change (C := Try.checked) own started (by kernel_rfl) Try.func5
    (ChangeSpec.witness6 (enc := enc) (C := Try.checked) false ⟨#[], #[.int .i64 0, .bool false], []⟩ 8 (by kernel_rfl) (by kernel_rfl) (by kernel_rfl) (by kernel_rfl)) ?_
  intro W base args ds gs before hval0 hW hcnd _
  have hval : ∀ (j : Nat) t v, Try.f5.params[j]? = some t → args[j]? = some v → Value.okWide Try.prog W .any base t v := hval0
  have hW' := hW
  obtain ⟨p, q, hA0, hV, rfl, hfz, hnd⟩ := hW
  have hA : DataW.TrodAll enc Try.prog W 0 (fun _ => true) true Try.f5.params.toList args.toList ds p := hA0
  rw [Try.params5] at hA hval
  obtain ⟨v0, vs0, d0, ds0, p0, q0, hargs, rfl, rfl, h0, r0⟩ := trodAll_cons hA
  obtain ⟨v1, vs1, d1, ds1, p1, q1, rfl, rfl, rfl, h1, r1⟩ := trodAll_cons r0
  obtain ⟨rfl, rfl, rfl⟩ := trodAll_nil r1
  obtain rfl : args = #[v0, v1] := by cases args; simp_all
  obtain ⟨rfl, rfl⟩ := trodVars_none hV
  obtain ⟨a0, rfl, rfl, rfl, w0⟩ := open_int Try.underlying3 (hval 0 3 v0 rfl rfl) h0
  obtain ⟨a1, rfl, rfl, rfl⟩ := open_bool Try.underlying4 (hval 1 4 v1 rfl rfl) h1
  clear hA0 hval0
  refine (walk a0 a1 W w0).mono fun e W' ⟨he, bel⟩ => ?_
  subst he
  exact ⟨_, rfl, _, _, _, [], _, [], hW', trodAll_mk1 (shut_bool Try.underlying4 _), (trodAll_cons_mk (shut_int Try.underlying3 w0) (trodAll_cons_mk (shut_bool Try.underlying4 a1) trodAll_mk0)), rfl, bel.frame _, fun h => by cases h⟩
theorem over : Rows.clockNilRow.holds Try.pinned (OpenSpec.ofChange Rows.clockNilSpec) :=
  OpenClaim.holds_of_wide 5 Try.f5 rfl rfl rfl rfl rfl rfl rfl ⟨rfl, rfl, rfl, rfl, rfl⟩ rfl rfl rfl rfl rfl (by kernel_rfl) Try.func5 (by kernel_rfl)
    (of_decide_eq_true (by kernel_rfl)) (by unfold Func.isWrapper; first | (rw [if_pos (by decide +kernel)]; kernel_rfl) | (rw [if_neg (by decide +kernel)]; exact ⟨rfl, rfl⟩))
    (fun os started H enc _ => lifted os started H enc)
/-- THE STATEMENT, proved. -/
theorem proved : Rows.ClockNilSaid := over
#print axioms proved
end Go.Proofs.Ytegbafconabpeaa.clockNil
