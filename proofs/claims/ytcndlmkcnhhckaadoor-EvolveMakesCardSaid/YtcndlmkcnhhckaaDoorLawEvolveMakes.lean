/- EvolveMakes: at any key of at most 1,000 bytes and any number (else: the chapter's example alone, as the statement has it), what is made for each purpose, and the first epoch's key, or that there is none, are the document's. The condition: the rounds' numbers lie in the program's variable (the card ties it to the program's text). -/
import Derived.Test.YtcndlmkcnhhckaaDoorEvoR
import Derived.Test.YtcndlmkcnhhckaaDoorEvoY
import Derived.Test.YtcndlmkcnhhckaaDoorRows
import Derived.Test.YtcndlmkcnhhckaaDoorTie
import Derived.Test.YtcndlmkcnhhckaaDoorCards
import Derived.Test.YtcndlmkcnhhckaaDoorSLaid
import Derived.WalkKit
import Derived.ProofKit
import Derived.OpenShut
import Derived.ShutString
import Derived.ChangeOld
import Derived.Below
import Derived.LaidMore
import Derived.SevenTiedAt
import Derived.Stop.Joined
namespace Go.Proofs.YtcndlmkcnhhckaaDoor.evolveMakes
open Go.ChangeShapes Go.WideShapes Go.ChangeAt Go.RowKit
open Go.ChangeMaps (open_string shut_string)
set_option linter.unusedVariables false
open STurn EvoN EvoR
set_option maxRecDepth 100000 in
theorem long (k : ByteArray) (f : Int) (w : World) (hr : Rds w) (h : (1000 : Int) < (k.size : Int)) :
    Calls Tryd.prog 3 #[.string k, .int .i64 f] w fun e w' => e = .returned (.bool true) ∧ Below w.heap.size w w' := by
  have HA := Lib.hid (EvoY.alive w hr)
  clear hr
  go_enter Tryd.func3, Tryd.ntmps3
  go_wp2_with (go_at_call 7; refine HA.out.mono ?_; rintro e w1 ⟨rfl, hb1⟩)
  go_ret
  exact ⟨rfl, hb1⟩
set_option maxRecDepth 100000 in
set_option maxHeartbeats 2000000 in
theorem near_ (k : List UInt8) (f : Int) (w : World) (hr : Rds w) (hf : f ≤ 9223372036854775807) (h : ¬ (1000 : Int) < (k.length : Int)) :
    Calls Tryd.prog 3 #[.string ⟨k.toArray⟩, .int .i64 f] w fun e w' => e = .returned (.bool true) ∧ Below w.heap.size w w' := by
  have P1 := Lib.hid (fun W hr => EvoP.First k f W hr hf)
  have P2 := Lib.hid (fun W hr => EvoP.Next k W hr)
  have P3 := Lib.hid (fun W hr => EvoP.Mac k W hr)
  have P4 := Lib.hid (fun W hr => EvoP.Ask k W hr)
  have P5 := Lib.hid (fun W hr => EvoP.Data k W hr)
  have Q1 : Hid (∀ W : World, Calls Tryd.prog 13 #[.string ⟨k.toArray⟩, .string ⟨#[115, 101, 97, 108]⟩, .slice (some ⟨W.heap.size, 0, none⟩) 1 1] (W.alloc (.cells #[.int .i64 f] 3)) fun e w' => e = .returned (.tuple #[.string ⟨(made k lSeal [f]).1.toArray⟩, .bool (okB (made k lSeal [f]).2)]) ∧ Below W.heap.size W w') := Lib.hid (fun W => by
    have hb : Below W.heap.size W (W.alloc (.cells #[.int .i64 f] 3)) := (Below.refl _ _).alloc (Nat.le_refl _) _
    refine (EvoR.Made k lSeal _ 1 1 [f] _ ((row_own (l := [f]) (DSaid.own_first f W))) (by simpa using hf)).mono fun e w' ⟨h1, h2⟩ => ⟨h1, hb.trans (h2.mono hb.size)⟩)
  have Q2 : Hid (∀ W : World, Calls Tryd.prog 13 #[.string ⟨k.toArray⟩, .string ⟨#[110, 101, 120, 116]⟩, .slice none 0 0] W fun e w' => e = .returned (.tuple #[.string ⟨(made k lNext []).1.toArray⟩, .bool (okB (made k lNext []).2)]) ∧ Below W.heap.size W w') := Lib.hid (fun W => EvoR.Made k lNext none 0 0 [] W (EvoP.row0 W) (by simp))
  have Q3 : Hid (∀ W : World, Calls Tryd.prog 13 #[.string ⟨k.toArray⟩, .string ⟨#[109, 97, 99]⟩, .slice none 0 0] W fun e w' => e = .returned (.tuple #[.string ⟨(made k lMac []).1.toArray⟩, .bool (okB (made k lMac []).2)]) ∧ Below W.heap.size W w') := Lib.hid (fun W => EvoR.Made k lMac none 0 0 [] W (EvoP.row0 W) (by simp))
  have Q4 : Hid (∀ W : World, Calls Tryd.prog 13 #[.string ⟨k.toArray⟩, .string ⟨#[97, 115, 107]⟩, .slice none 0 0] W fun e w' => e = .returned (.tuple #[.string ⟨(made k lAsk []).1.toArray⟩, .bool (okB (made k lAsk []).2)]) ∧ Below W.heap.size W w') := Lib.hid (fun W => EvoR.Made k lAsk none 0 0 [] W (EvoP.row0 W) (by simp))
  have Q5 := Lib.hid (fun W => EvoR.Data k W)
  have K0 := Lib.hid (made_kind k lSeal [f])
  have K2 := Lib.hid (made_kind k lNext [])
  have K3 := Lib.hid (made_kind k lMac [])
  have K4 := Lib.hid (made_kind k lAsk [])
  have K5 := Lib.hid (data_kind k)
  have HF1 : Hid (f ≤ 4294967295 → first k f = made k lSeal [f]) := Lib.hid first_in
  have HF2 : Hid (¬ f ≤ 4294967295 → first k f = ([], 2)) := Lib.hid (fun h => first_far (fun hh => h hh.2))
  generalize first k f = r1 at *
  generalize made k lSeal [f] = r0 at *
  generalize made k lNext [] = r2 at *
  generalize made k lMac [] = r3 at *
  generalize made k lAsk [] = r4 at *
  generalize data k = r5 at *
  have HR := Lib.hid hr
  clear hr hf
  by_cases hm : 4294967295 < f
  · obtain rfl := HF2.out (by omega)
    obtain ⟨y0, n0⟩ := r0
    obtain ⟨y2, n2⟩ := r2
    obtain ⟨y3, n3⟩ := r3
    obtain ⟨y4, n4⟩ := r4
    obtain ⟨y5, n5⟩ := r5
    have I1 : Hid (∀ W : World, Calls Tryd.prog 15 #[.string ⟨#[]⟩, .int .i64 2, .string ⟨#[]⟩, .bool false] W fun e w' => e = .returned (.bool true) ∧ W = w') := Lib.hid (fun W => is_ [] 2 W (.inr rfl))
    have I2 := Lib.hid (fun W => is_ y2 n2 W K2.out)
    have I3 := Lib.hid (fun W => is_ y3 n3 W K3.out)
    have I4 := Lib.hid (fun W => is_ y4 n4 W K4.out)
    have I5 := Lib.hid (fun W => is_ y5 n5 W K5.out)
    have F2 : Hid True := Lib.hid trivial
    have F3 : Hid True := Lib.hid trivial
    have F4 : Hid True := Lib.hid trivial
    have G1 : Hid True := Lib.hid trivial
    have G2 : Hid True := Lib.hid trivial
    have G3 : Hid True := Lib.hid trivial
    have G4 : Hid True := Lib.hid trivial
    have G5 : Hid True := Lib.hid trivial
    generalize okB n0 = b0 at *
    generalize okB n2 = b2 at *
    generalize okB n3 = b3 at *
    generalize okB n4 = b4 at *
    generalize okB n5 = b5 at *
    clear HF1 HF2 K0 K2 K3 K4 K5
    go_enter Tryd.func3, Tryd.ntmps3
    go_wp2_with (first
      | (go_at_call 8; refine (P1.out _ HR.out).mono ?_; rintro e w1 ⟨rfl, hb1⟩; have HB1 := Lib.hid hb1; clear hb1)
      | (go_at_call 9; refine (P2.out _ (HR.out.step HB1.out)).mono ?_; rintro e w2 ⟨rfl, hb2⟩; have HB2 := Lib.hid (HB1.out.trans (hb2.mono HB1.out.size)); clear hb2)
      | (go_at_call 10; refine (P3.out _ (HR.out.step HB2.out)).mono ?_; rintro e w3 ⟨rfl, hb3⟩; have HB3 := Lib.hid (HB2.out.trans (hb3.mono HB2.out.size)); clear hb3)
      | (go_at_call 11; refine (P4.out _ (HR.out.step HB3.out)).mono ?_; rintro e w4 ⟨rfl, hb4⟩; have HB4 := Lib.hid (HB3.out.trans (hb4.mono HB3.out.size)); clear hb4)
      | (go_at_call 12; refine (P5.out _ (HR.out.step HB4.out)).mono ?_; rintro e w5 ⟨rfl, hb5⟩; have HB5 := Lib.hid (HB4.out.trans (hb5.mono HB4.out.size)); clear hb5)
      | (clear F2; go_at_call 13; refine (Q1.out _).mono ?_; rintro e w6 ⟨rfl, hb6⟩; have HB6 := Lib.hid (HB5.out.trans (hb6.mono HB5.out.size)); clear hb6)
      | (clear F3; go_at_call 13; refine (Q2.out _).mono ?_; rintro e w7 ⟨rfl, hb7⟩; have HB7 := Lib.hid (HB6.out.trans (hb7.mono HB6.out.size)); clear hb7)
      | (clear F4; go_at_call 13; refine (Q3.out _).mono ?_; rintro e w8 ⟨rfl, hb8⟩; have HB8 := Lib.hid (HB7.out.trans (hb8.mono HB7.out.size)); clear hb8)
      | (go_at_call 13; refine (Q4.out _).mono ?_; rintro e w9 ⟨rfl, hb9⟩; have HB9 := Lib.hid (HB8.out.trans (hb9.mono HB8.out.size)); clear hb9)
      | (go_at_call 14; refine (Q5.out _).mono ?_; rintro e wA ⟨rfl, hbA⟩; have HBA := Lib.hid (HB9.out.trans (hbA.mono HB9.out.size)); clear hbA)
      | (clear G1; go_at_call 15; refine (I1.out _).mono ?_; rintro e _ ⟨rfl, rfl⟩)
      | (clear G2; go_at_call 15; refine (I2.out _).mono ?_; rintro e _ ⟨rfl, rfl⟩)
      | (clear G3; go_at_call 15; refine (I3.out _).mono ?_; rintro e _ ⟨rfl, rfl⟩)
      | (clear G4; go_at_call 15; refine (I4.out _).mono ?_; rintro e _ ⟨rfl, rfl⟩)
      | (clear G5; go_at_call 15; refine (I5.out _).mono ?_; rintro e _ ⟨rfl, rfl⟩)
      | (go_at_call 7; refine (EvoY.alive _ (HR.out.step HBA.out)).mono ?_; rintro e wB ⟨rfl, hbB⟩; have HBB := Lib.hid (HBA.out.trans (hbB.mono HBA.out.size)); clear hbB))
    go_ret
    exact ⟨rfl, HBB.out⟩
  · obtain rfl := HF1.out (by omega)
    obtain ⟨y1, n1⟩ := r1
    obtain ⟨y2, n2⟩ := r2
    obtain ⟨y3, n3⟩ := r3
    obtain ⟨y4, n4⟩ := r4
    obtain ⟨y5, n5⟩ := r5
    have I1 := Lib.hid (fun W => is_ y1 n1 W K0.out)
    have I2 := Lib.hid (fun W => is_ y2 n2 W K2.out)
    have I3 := Lib.hid (fun W => is_ y3 n3 W K3.out)
    have I4 := Lib.hid (fun W => is_ y4 n4 W K4.out)
    have I5 := Lib.hid (fun W => is_ y5 n5 W K5.out)
    have F2 : Hid True := Lib.hid trivial
    have F3 : Hid True := Lib.hid trivial
    have F4 : Hid True := Lib.hid trivial
    have G1 : Hid True := Lib.hid trivial
    have G2 : Hid True := Lib.hid trivial
    have G3 : Hid True := Lib.hid trivial
    have G4 : Hid True := Lib.hid trivial
    have G5 : Hid True := Lib.hid trivial
    generalize okB n1 = b1 at *
    generalize okB n2 = b2 at *
    generalize okB n3 = b3 at *
    generalize okB n4 = b4 at *
    generalize okB n5 = b5 at *
    clear HF1 HF2 K0 K2 K3 K4 K5
    go_enter Tryd.func3, Tryd.ntmps3
    go_wp2_with (first
      | (go_at_call 8; refine (P1.out _ HR.out).mono ?_; rintro e w1 ⟨rfl, hb1⟩; have HB1 := Lib.hid hb1; clear hb1)
      | (go_at_call 9; refine (P2.out _ (HR.out.step HB1.out)).mono ?_; rintro e w2 ⟨rfl, hb2⟩; have HB2 := Lib.hid (HB1.out.trans (hb2.mono HB1.out.size)); clear hb2)
      | (go_at_call 10; refine (P3.out _ (HR.out.step HB2.out)).mono ?_; rintro e w3 ⟨rfl, hb3⟩; have HB3 := Lib.hid (HB2.out.trans (hb3.mono HB2.out.size)); clear hb3)
      | (go_at_call 11; refine (P4.out _ (HR.out.step HB3.out)).mono ?_; rintro e w4 ⟨rfl, hb4⟩; have HB4 := Lib.hid (HB3.out.trans (hb4.mono HB3.out.size)); clear hb4)
      | (go_at_call 12; refine (P5.out _ (HR.out.step HB4.out)).mono ?_; rintro e w5 ⟨rfl, hb5⟩; have HB5 := Lib.hid (HB4.out.trans (hb5.mono HB4.out.size)); clear hb5)
      | (clear F2; go_at_call 13; refine (Q1.out _).mono ?_; rintro e w6 ⟨rfl, hb6⟩; have HB6 := Lib.hid (HB5.out.trans (hb6.mono HB5.out.size)); clear hb6)
      | (clear F3; go_at_call 13; refine (Q2.out _).mono ?_; rintro e w7 ⟨rfl, hb7⟩; have HB7 := Lib.hid (HB6.out.trans (hb7.mono HB6.out.size)); clear hb7)
      | (clear F4; go_at_call 13; refine (Q3.out _).mono ?_; rintro e w8 ⟨rfl, hb8⟩; have HB8 := Lib.hid (HB7.out.trans (hb8.mono HB7.out.size)); clear hb8)
      | (go_at_call 13; refine (Q4.out _).mono ?_; rintro e w9 ⟨rfl, hb9⟩; have HB9 := Lib.hid (HB8.out.trans (hb9.mono HB8.out.size)); clear hb9)
      | (go_at_call 14; refine (Q5.out _).mono ?_; rintro e wA ⟨rfl, hbA⟩; have HBA := Lib.hid (HB9.out.trans (hbA.mono HB9.out.size)); clear hbA)
      | (clear G1; go_at_call 15; refine (I1.out _).mono ?_; rintro e _ ⟨rfl, rfl⟩)
      | (clear G2; go_at_call 15; refine (I2.out _).mono ?_; rintro e _ ⟨rfl, rfl⟩)
      | (clear G3; go_at_call 15; refine (I3.out _).mono ?_; rintro e _ ⟨rfl, rfl⟩)
      | (clear G4; go_at_call 15; refine (I4.out _).mono ?_; rintro e _ ⟨rfl, rfl⟩)
      | (clear G5; go_at_call 15; refine (I5.out _).mono ?_; rintro e _ ⟨rfl, rfl⟩)
      | (go_at_call 7; refine (EvoY.alive _ (HR.out.step HBA.out)).mono ?_; rintro e wB ⟨rfl, hbB⟩; have HBB := Lib.hid (HBA.out.trans (hbB.mono HBA.out.size)); clear hbB))
    go_ret
    exact ⟨rfl, HBB.out⟩
theorem walk (k : ByteArray) (f : Int) (w : World) (w0 : k.size ≤ maxLen) (w1 : (Lit.int .i64 f).wf = true) (hr : Rds w) :
    Calls Tryd.prog 3 #[.string k, .int .i64 f] w fun e w' => e = .returned (.bool true) ∧ Below w.heap.size w w' := by
  have hf := (bounds_i64 w1).2
  clear w0 w1
  by_cases h : (1000 : Int) < (k.size : Int)
  · exact long k f w hr h
  · exact near_ k.data.toList f w hr hf h
theorem own : ownKnob Tryd.prog.godebug = none := by kernel_rfl
theorem laidOut : laidOutB Tryd.prog = true := by kernel_rfl
set_option maxRecDepth 100000 in
theorem lifted (os : Os) (started : os.Started) (H : Type) (enc : TypeId × Value → H) :
    ReturnsInHanded {} Tryd.checked os 3 .any (fun w args => (Rows.evolveMakesSpec.pre enc Tryd.prog Tryd.f3 Rows.evolveMakesRow.domain false w args ∧ laidMetH Tryd.prog Rows.evolveMakesRow.laid w) ∧ sizedMet enc Tryd.prog Tryd.f3 (OpenSpec.ofChange Rows.evolveMakesSpec) false w args) (Rows.evolveMakesSpec.post enc Tryd.prog Tryd.f3 false true false false) := by
  refine returnsInHanded_of_change_and (C := Tryd.checked) (X := fun w _ => laidMetH Tryd.prog Rows.evolveMakesRow.laid w) (fun _ _ _ hh h => h.of_heap hh) own started (by kernel_rfl) Tryd.func3
    (ChangeSpec.witness_shaped (enc := enc) (C := Tryd.checked) (os := os) (X := fun w _ => laidMetH Tryd.prog Rows.evolveMakesRow.laid w) false (World.doorLaid Tryd.prog 400 os) #[.string ByteArray.empty, .int .i64 0] 8 rfl (World.shaped_of_RefB (by kernel_rfl) (by kernel_rfl)) (by kernel_rfl) (by kernel_rfl) (by kernel_rfl) (SLaid.door_met os _)) ?_
  intro W base args ds gs before hval0 hW _ hZ hL _
  have hr := SLaid.of_laid hL
  have hval : ∀ (j : Nat) t v, Tryd.f3.params[j]? = some t → args[j]? = some v → Value.okWide Tryd.prog W .any base t v := hval0
  have hW' := hW
  obtain ⟨p, q, hA0, hV, rfl, hfz, hnd⟩ := hW
  have hA : DataW.TrodAll enc Tryd.prog W 0 (fun _ => true) true Tryd.f3.params.toList args.toList ds p := hA0
  rw [Tryd.params3] at hA hval
  obtain ⟨v0, vs0, d0, ds0, p0, q0, hargs, rfl, rfl, h0, r0⟩ := trodAll_cons hA
  obtain ⟨v1, vs1, d1, ds1, p1, q1, rfl, rfl, rfl, h1, r1⟩ := trodAll_cons r0
  obtain ⟨rfl, rfl, rfl⟩ := trodAll_nil r1
  obtain rfl : args = #[v0, v1] := by cases args; simp_all
  obtain ⟨rfl, rfl⟩ := trodVars_none hV
  obtain ⟨a0, rfl, rfl, rfl, w0⟩ := open_string Tryd.underlying9 (hval 0 9 v0 rfl rfl) h0
  obtain ⟨a1, rfl, rfl, rfl, w1⟩ := open_int Tryd.underlying3 (hval 1 3 v1 rfl rfl) h1
  clear hA0 hval0
  refine (walk a0 a1 W w0 w1 hr).mono fun e W' ⟨he, bel⟩ => ?_
  subst he
  exact ⟨_, rfl, _, _, _, [], _, [], hW', trodAll_mk1 (shut_bool Tryd.underlying4 _), (trodAll_cons_mk (shut_string Tryd.underlying9 w0) (trodAll_cons_mk (shut_int Tryd.underlying3 w1) trodAll_mk0)), rfl, bel.frame _, fun h => by cases h⟩
theorem over : Rows.evolveMakesRow.holds Tryd.pinned (OpenSpec.ofChange Rows.evolveMakesSpec) :=
  OpenClaim.holds_of_wide 3 Tryd.f3 rfl rfl rfl rfl rfl rfl rfl ⟨rfl, rfl, rfl, rfl, rfl⟩ rfl rfl rfl rfl rfl (by kernel_rfl) Tryd.func3 (by kernel_rfl)
    (of_decide_eq_true (by kernel_rfl)) (by unfold Func.isWrapper; first | (rw [if_pos (by decide +kernel)]; kernel_rfl) | (rw [if_neg (by decide +kernel)]; exact ⟨rfl, rfl⟩))
    (fun os started H enc _ => lifted os started H enc)
/-- THE STATEMENT, proved. -/
theorem proved : Rows.EvolveMakesCardSaid :=
  Claim7.holds_tied_plain_at .later [] _ true _ false
    over (fun _ h => by cases h) (by kernel_rfl) (fun _ h => by cases h) evolveMakes_row_tie rfl ⟨rfl, rfl⟩ (by kernel_rfl) rfl
    (fun f fn hf hfn => by
      obtain rfl : f = 3 := Option.some.inj ((show Tryd.prog.funcNamed "keepsake/keepsakelaw18.EvolveMakes" = some 3 by kernel_rfl).symm.trans hf) |>.symm
      obtain rfl : fn = Tryd.f3 := (Option.some.inj (Tryd.func3.symm.trans hfn)).symm
      exact ⟨by kernel_rfl, fun j t ht => by
        rw [Tryd.params3] at ht
        have hm : t ∈ [9, 3] := by simpa using Array.mem_of_getElem? ht
        have hall : ([9, 3].all fun u => !Tryd.prog.wantsStandIn u) = true := by kernel_rfl
        exact (show Tryd.prog.wantsStandIn t = false by simpa using List.all_eq_true.1 hall t hm)⟩)
    (by kernel_rfl)
#print axioms proved
end Go.Proofs.YtcndlmkcnhhckaaDoor.evolveMakes
