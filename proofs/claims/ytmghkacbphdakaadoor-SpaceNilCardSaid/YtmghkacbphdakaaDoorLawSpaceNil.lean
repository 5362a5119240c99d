/- SpaceNil: at any number, and whether there is a space or none: a space that is none, or that no call made, has nothing and gives nothing. The condition: the least and the most numbers lie in the program's two variables (the card ties them to the program's text). -/
import Derived.Test.YtmghkacbphdakaaDoorSpaY
import Derived.Test.YtmghkacbphdakaaDoorRows
import Derived.Test.YtmghkacbphdakaaDoorTie
import Derived.Test.YtmghkacbphdakaaDoorCards
import Derived.Test.YtmghkacbphdakaaDoorGeoL
import Derived.WalkKit
import Derived.ProofKit
import Derived.OpenShut
import Derived.ShutString
import Derived.ChangeOld
import Derived.Below
import Derived.LaidMore
import Derived.SevenTiedAt
import Derived.Stop.Joined
namespace Go.Proofs.YtmghkacbphdakaaDoor.spaceNil
open Go.ChangeShapes Go.WideShapes Go.ChangeAt Go.RowKit
open Go.ChangeMaps (open_string shut_string)
set_option linter.unusedVariables false
open GeoN GeoC GeoS SpaN SpaC SpaY
set_option maxRecDepth 100000 in
theorem walk (n : Int) (t : Bool) (w : World) (wn : (Lit.int .i64 n).wf = true) (hr : Bnd w) :
    Calls Tryd.prog 5 #[.int .i64 n, .bool t] w fun e w' => e = .returned (.bool true) ∧ Below w.heap.size w w' := by
  have H1 := Lib.hid (fun s W (h : Non W s) => SpaH.Take_none s W h)
  have H2 := Lib.hid (fun s W (h : Non W s) => SpaH.Close_none s W h)
  have H3 := Lib.hid (fun s W (h : Non W s) => SpaH.Back_none s n W h)
  have H4 := Lib.hid (fun s W (h : Non W s) => SpaE.Used_none s W h)
  have H5 := Lib.hid (fun s W (h : Non W s) => SpaE.Room_none s W h)
  have H6 := Lib.hid (fun s W (h : Non W s) => SpaF.Open_none s W h)
  have HB := Lib.hid hr
  clear hr wn
  go_enter Tryd.func5, Tryd.ntmps5
  cases t
  · have NN : Hid (Non w none) := Lib.hid (.inl rfl)
    have BB : Hid (Below w.heap.size w w) := Lib.hid (Below.refl _ _)
    go_wp2_with (first
      | (go_at_call 10; refine (H1.out _ _ NN.out).mono ?_; rintro e w2 ⟨rfl, k⟩; replace NN := Lib.hid (NN.out.step k); replace BB := Lib.hid (BB.out.trans (k.mono BB.out.size)); clear k H1)
      | (go_at_call 12; refine (H2.out _ _ NN.out).mono ?_; rintro e w3 ⟨rfl, k⟩; replace NN := Lib.hid (NN.out.step k); replace BB := Lib.hid (BB.out.trans (k.mono BB.out.size)); clear k H2)
      | (go_at_call 13; refine (H3.out _ _ NN.out).mono ?_; rintro e w4 ⟨rfl, k⟩; replace NN := Lib.hid (NN.out.step k); replace BB := Lib.hid (BB.out.trans (k.mono BB.out.size)); clear k H3)
      | (go_at_call 14; refine (H4.out _ _ NN.out).mono ?_; rintro e _ ⟨rfl, rfl⟩)
      | (go_at_call 15; refine (H5.out _ _ NN.out).mono ?_; rintro e _ ⟨rfl, rfl⟩)
      | (go_at_call 16; refine (H6.out _ _ NN.out).mono ?_; rintro e w5 ⟨rfl, k⟩; replace NN := Lib.hid (NN.out.step k); replace BB := Lib.hid (BB.out.trans (k.mono BB.out.size)); clear k H6)
      | (go_at_call 6; refine (SpaY.alive _ (HB.out.step BB.out)).mono ?_; rintro e w6 ⟨rfl, k⟩; replace BB := Lib.hid (BB.out.trans (k.mono BB.out.size)); clear k))
    go_ret
    exact ⟨rfl, BB.out⟩
  · go_upto_region 4 with (fail)
    generalize hW : World.alloc w _ = W1
    have NN : Hid (Non W1 (some ⟨w.heap.size, 0, none⟩)) := Lib.hid (.inr ⟨_, 0, 0, 0, rfl, by rw [← hW]; exact heap_alloc_new w _⟩)
    have BB : Hid (Below w.heap.size w W1) := Lib.hid (by rw [← hW]; exact (Below.refl _ _).alloc (Nat.le_refl _) _)
    clear hW
    go_wp2_with (first
      | (go_at_call 10; refine (H1.out _ _ NN.out).mono ?_; rintro e w2 ⟨rfl, k⟩; replace NN := Lib.hid (NN.out.step k); replace BB := Lib.hid (BB.out.trans (k.mono BB.out.size)); clear k H1)
      | (go_at_call 12; refine (H2.out _ _ NN.out).mono ?_; rintro e w3 ⟨rfl, k⟩; replace NN := Lib.hid (NN.out.step k); replace BB := Lib.hid (BB.out.trans (k.mono BB.out.size)); clear k H2)
      | (go_at_call 13; refine (H3.out _ _ NN.out).mono ?_; rintro e w4 ⟨rfl, k⟩; replace NN := Lib.hid (NN.out.step k); replace BB := Lib.hid (BB.out.trans (k.mono BB.out.size)); clear k H3)
      | (go_at_call 14; refine (H4.out _ _ NN.out).mono ?_; rintro e _ ⟨rfl, rfl⟩)
      | (go_at_call 15; refine (H5.out _ _ NN.out).mono ?_; rintro e _ ⟨rfl, rfl⟩)
      | (go_at_call 16; refine (H6.out _ _ NN.out).mono ?_; rintro e w5 ⟨rfl, k⟩; replace NN := Lib.hid (NN.out.step k); replace BB := Lib.hid (BB.out.trans (k.mono BB.out.size)); clear k H6)
      | (go_at_call 6; refine (SpaY.alive _ (HB.out.step BB.out)).mono ?_; rintro e w6 ⟨rfl, k⟩; replace BB := Lib.hid (BB.out.trans (k.mono BB.out.size)); clear k))
    go_ret
    exact ⟨rfl, BB.out⟩
theorem own : ownKnob Tryd.prog.godebug = none := by kernel_rfl
theorem laidOut : laidOutB Tryd.prog = true := by kernel_rfl
set_option maxRecDepth 100000 in
theorem lifted (os : Os) (started : os.Started) (H : Type) (enc : TypeId × Value → H) :
    ReturnsInHanded {} Tryd.checked os 5 .any (fun w args => (Rows.spaceNilSpec.pre enc Tryd.prog Tryd.f5 Rows.spaceNilRow.domain false w args ∧ laidMetH Tryd.prog Rows.spaceNilRow.laid w) ∧ sizedMet enc Tryd.prog Tryd.f5 (OpenSpec.ofChange Rows.spaceNilSpec) false w args) (Rows.spaceNilSpec.post enc Tryd.prog Tryd.f5 false true false false) := by
  refine returnsInHanded_of_change_and (C := Tryd.checked) (X := fun w _ => laidMetH Tryd.prog Rows.spaceNilRow.laid w) (fun _ _ _ hh h => h.of_heap hh) own started (by kernel_rfl) Tryd.func5
    (ChangeSpec.witness_shaped (enc := enc) (C := Tryd.checked) (os := os) (X := fun w _ => laidMetH Tryd.prog Rows.spaceNilRow.laid w) false (World.doorLaid Tryd.prog 400 os) #[.int .i64 0, .bool false] 8 rfl (World.shaped_of_RefB (by kernel_rfl) (by kernel_rfl)) (by kernel_rfl) (by kernel_rfl) (by kernel_rfl) (GeoL.door_met os _)) ?_
  intro W base args ds gs before hval0 hW _ _ hL _
  have hr := GeoL.of_laid hL
  have hval : ∀ (j : Nat) t v, Tryd.f5.params[j]? = some t → args[j]? = some v → Value.okWide Tryd.prog W .any base t v := hval0
  have hW' := hW
  obtain ⟨p, q, hA0, hV, rfl, hfz, hnd⟩ := hW
  have hA : DataW.TrodAll enc Tryd.prog W 0 (fun _ => true) true Tryd.f5.params.toList args.toList ds p := hA0
  rw [Tryd.params5] at hA hval
  obtain ⟨v0, vs0, d0, ds0, p0, q0, hargs, rfl, rfl, h0, r0⟩ := trodAll_cons hA
  obtain ⟨v1, vs1, d1, ds1, p1, q1, rfl, rfl, rfl, h1, r1⟩ := trodAll_cons r0
  obtain ⟨rfl, rfl, rfl⟩ := trodAll_nil r1
  obtain rfl : args = #[v0, v1] := by cases args; simp_all
  obtain ⟨rfl, rfl⟩ := trodVars_none hV
  obtain ⟨a0, rfl, rfl, rfl, w0⟩ := open_int Tryd.underlying3 (hval 0 3 v0 rfl rfl) h0
  obtain ⟨a1, rfl, rfl, rfl⟩ := open_bool Tryd.underlying4 (hval 1 4 v1 rfl rfl) h1
  clear hA0 hval0
  refine (walk a0 a1 W w0 hr).mono fun e W' ⟨he, bel⟩ => ?_
  subst he
  exact ⟨_, rfl, _, _, _, [], _, [], hW', trodAll_mk1 (shut_bool Tryd.underlying4 _), (trodAll_cons_mk (shut_int Tryd.underlying3 w0) (trodAll_cons_mk (shut_bool Tryd.underlying4 a1) trodAll_mk0)), rfl, bel.frame _, fun h => by cases h⟩
theorem over : Rows.spaceNilRow.holds Tryd.pinned (OpenSpec.ofChange Rows.spaceNilSpec) :=
  OpenClaim.holds_of_wide 5 Tryd.f5 rfl rfl rfl rfl rfl rfl rfl ⟨rfl, rfl, rfl, rfl, rfl⟩ rfl rfl rfl rfl rfl (by kernel_rfl) Tryd.func5 (by kernel_rfl)
    (of_decide_eq_true (by kernel_rfl)) (by unfold Func.isWrapper; first | (rw [if_pos (by decide +kernel)]; kernel_rfl) | (rw [if_neg (by decide +kernel)]; exact ⟨rfl, rfl⟩))
    (fun os started H enc _ => lifted os started H enc)
/-- THE STATEMENT, proved. -/
theorem proved : Rows.SpaceNilCardSaid :=
  Claim7.holds_tied_plain_at .later [] _ true _ false
    over (fun _ h => by cases h) (by kernel_rfl) (fun _ h => by cases h) spaceNil_row_tie rfl ⟨rfl, rfl⟩ (by kernel_rfl) rfl
    (fun f fn hf hfn => by
      obtain rfl : f = 5 := Option.some.inj ((show Tryd.prog.funcNamed "keepsake/keepsakelaw13.SpaceNil" = some 5 by kernel_rfl).symm.trans hf) |>.symm
      obtain rfl : fn = Tryd.f5 := (Option.some.inj (Tryd.func5.symm.trans hfn)).symm
      exact ⟨by kernel_rfl, fun j t ht => by
        rw [Tryd.params5] at ht
        have hm : t ∈ [3, 4] := by simpa using Array.mem_of_getElem? ht
        have hall : ([3, 4].all fun u => !Tryd.prog.wantsStandIn u) = true := by kernel_rfl
        exact (show Tryd.prog.wantsStandIn t = false by simpa using List.all_eq_true.1 hall t hm)⟩)
    (by kernel_rfl)
#print axioms proved
end Go.Proofs.YtmghkacbphdakaaDoor.spaceNil
