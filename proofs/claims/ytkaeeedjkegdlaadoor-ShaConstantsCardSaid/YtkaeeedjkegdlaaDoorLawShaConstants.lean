/- ShaConstants: at any byte, the rounds' numbers and the first state are what stands behind the points of the first primes' cube and square roots, and what a block of that byte turns a state of noughts to is what the document's answer is. The condition: the rounds' numbers lie in the program's variable (the card ties it to the program's text). -/
import Derived.Test.YtkaeeedjkegdlaaDoorSFold
import Derived.Test.YtkaeeedjkegdlaaDoorRSum
import Derived.Test.YtkaeeedjkegdlaaDoorRNou
import Derived.Test.YtkaeeedjkegdlaaDoorRRoo
import Derived.Test.YtkaeeedjkegdlaaDoorRows
import Derived.Test.YtkaeeedjkegdlaaDoorTie
import Derived.Test.YtkaeeedjkegdlaaDoorCards
import Derived.Test.YtkaeeedjkegdlaaDoorSLaid
import Derived.WalkKit
import Derived.ProofKit
import Derived.OpenShut
import Derived.ShutString
import Derived.ChangeOld
import Derived.Below
import Derived.LaidMore
import Derived.SevenTiedAt
import Derived.Stop.Joined
namespace Go.Proofs.YtkaeeedjkegdlaaDoor.shaConstants
open Go.ChangeShapes Go.WideShapes Go.ChangeAt Go.RowKit
open Go.ChangeMaps (open_string shut_string)
set_option linter.unusedVariables false
open STurn SStep
set_option maxRecDepth 100000 in
set_option maxHeartbeats 1000000 in
theorem walk (n : Int) (w : World) (w0 : (Lit.int .u8 n).wf = true) (hr : Rds w) :
    Calls Tryd.prog 5 #[.int .u8 n] w fun e w' => e = .returned (.bool true) ∧ Below w.heap.size w w' := by
  have HR := Lib.hid hr
  obtain ⟨b, rfl⟩ : ∃ b : UInt8, n = (b.toNat : Int) := by
    have h : IntKind.u8.min ≤ n ∧ n ≤ IntKind.u8.max := by simpa [Lit.wf] using w0
    change 0 ≤ n ∧ n ≤ 255 at h
    refine ⟨UInt8.ofNat n.toNat, ?_⟩
    rw [UInt8.toNat_ofNat']
    omega
  clear w0 hr
  have hnou : ∀ W, Calls Tryd.prog 19 #[.int .i64 32] W fun e w' => e = .returned (.string ⟨(List.replicate 32 (0 : UInt8)).toArray⟩) ∧ Below W.heap.size W w' := fun W => RNou.noughts 32 W (by omega)
  have HN := Lib.hid hnou
  clear hnou
  have HRi := Lib.hid (fun W => RBeh.Right W)
  have HRo := Lib.hid (fun W => RRoo.Roots W)
  have hbl : (List.replicate 64 b).length = 64 := by simp
  have hno : (List.replicate 32 (0 : UInt8)).length = 32 := by simp
  have hst : ∀ W, Rds W → Calls Tryd.prog 12 #[.string ⟨(List.replicate 32 (0 : UInt8)).toArray⟩, .string ⟨(List.replicate 64 b).toArray⟩] W fun e w' => e = .returned (.tuple #[.string ⟨(turnSt (stOf (List.replicate 32 0)) (List.replicate 64 b)).bytes.toArray⟩, .int .i64 0]) ∧ Below W.heap.size W w' := by
    intro W hW
    have h := SStep.any ⟨(List.replicate 32 (0 : UInt8)).toArray⟩ ⟨(List.replicate 64 b).toArray⟩ W hW
    rw [show SStep.step (List.replicate 32 (0 : UInt8)) (List.replicate 64 b) = ((turnSt (stOf (List.replicate 32 0)) (List.replicate 64 b)).bytes, 0) from if_pos ⟨hno, hbl⟩] at h
    exact h
  have HSt := Lib.hid hst
  have HRS := Lib.hid (fun W => RSum.Step (List.replicate 32 0) (List.replicate 64 b) hno hbl W)
  have hcv : ∀ W : World, (convert 38 9 (.slice (some ⟨W.heap.size, 0, none⟩) 1 1)).run Tryd.prog (W.alloc (.cells #[.int .u8 (b.toNat : Int)] 5)) = .ok (.string ⟨#[b]⟩) (W.alloc (.cells #[.int .u8 (b.toNat : Int)] 5)) := by
    intro W
    exact conv_row (l := [b]) (m := []) Tryd.underlying38 Tryd.underlying5 Tryd.underlying9 (by rw [heap_alloc_new]; rfl) rfl
  clear hst hbl hno
  go_enter Tryd.func5, Tryd.ntmps5
  go_wp2_with fail
  go_loopw [3, 6] (fun s i wr => ∃ j : Nat, j ≤ 64 ∧ i = .int .i64 j ∧ s = .string ⟨(List.replicate j b).toArray⟩ ∧ Below w.heap.size w wr) (fun _ i _ => 64 - (intOf i).toNat)
  case atStart => exact ⟨0, Nat.zero_le _, rfl, rfl, Below.refl _ _⟩
  case round =>
    obtain ⟨j, hj, rfl, rfl, hbel⟩ := hrel
    have HB := Lib.hid hbel
    have hbs := hbel.size
    clear hbel
    by_cases hlt : j < 64
    · have happ : (⟨(List.replicate j b).toArray⟩ ++ ⟨#[b]⟩ : ByteArray) = ⟨(List.replicate (j + 1) b).toArray⟩ := by
        rw [show (#[b] : Array UInt8) = [b].toArray from rfl, ByteArray.mk_append_mk, List.replicate_succ']
      have hl : (List.replicate j b).length ≤ 64 := by simp; omega
      have HA := Lib.hid happ
      clear happ
      generalize List.replicate j b = t at *
      go_wp2_with fail
      go_roundw
      case rel => exact ⟨j + 1, by omega, by go_num, by rw [HA.out], HB.out.alloc hbs _⟩
      case measure => simp [intOf]; omega
    · obtain rfl : j = 64 := by omega
      clear hcv hlt hj
      generalize (turnSt (stOf (List.replicate 32 0)) (List.replicate 64 b)).bytes = y at *
      generalize List.replicate 64 b = t at *
      go_wp2_with (first
        | (go_at_call 19; refine (HN.out _).mono ?_; rintro e w1 ⟨rfl, hb1⟩; have HB1 := Lib.hid (HB.out.trans (hb1.mono HB.out.size)); clear hb1; clear HB)
        | (go_at_call 12; refine (HSt.out _ (HR.out.step HB1.out)).mono ?_; rintro e w2 ⟨rfl, hb2⟩; have HB2 := Lib.hid (HB1.out.trans (hb2.mono HB1.out.size)); clear hb2)
        | (go_at_call 20; refine (HRi.out _).mono ?_; rintro e w3 ⟨rfl, hb3⟩; have HB3 := Lib.hid (HB2.out.trans (hb3.mono HB2.out.size)); clear hb3)
        | (go_at_call 21; refine (HRo.out _).mono ?_; rintro e w4 ⟨rfl, hb4⟩; have HB4 := Lib.hid (HB3.out.trans (hb4.mono HB3.out.size)); clear hb4)
        | (go_at_call 19; refine (HN.out _).mono ?_; rintro e w5 ⟨rfl, hb5⟩; have HB5 := Lib.hid (HB4.out.trans (hb5.mono HB4.out.size)); clear hb5)
        | (go_at_call 13; refine (HRS.out _).mono ?_; rintro e w6 ⟨rfl, hb6⟩; have HB6 := Lib.hid (HB5.out.trans (hb6.mono HB5.out.size)); clear hb6)
        | (go_at_call 11; refine (SAlive.any _ (HR.out.step HB6.out)).mono ?_; rintro e w7 ⟨rfl, hb7⟩))
      go_ret
      exact ⟨rfl, HB6.out.trans (hb7.mono HB6.out.size)⟩
theorem own : ownKnob Tryd.prog.godebug = none := by kernel_rfl
theorem laidOut : laidOutB Tryd.prog = true := by kernel_rfl
set_option maxRecDepth 100000 in
theorem lifted (os : Os) (started : os.Started) (H : Type) (enc : TypeId × Value → H) :
    ReturnsInHanded {} Tryd.checked os 5 .any (fun w args => (Rows.shaConstantsSpec.pre enc Tryd.prog Tryd.f5 Rows.shaConstantsRow.domain false w args ∧ laidMetH Tryd.prog Rows.shaConstantsRow.laid w) ∧ sizedMet enc Tryd.prog Tryd.f5 (OpenSpec.ofChange Rows.shaConstantsSpec) false w args) (Rows.shaConstantsSpec.post enc Tryd.prog Tryd.f5 false true false false) := by
  refine returnsInHanded_of_change_and (C := Tryd.checked) (X := fun w _ => laidMetH Tryd.prog Rows.shaConstantsRow.laid w) (fun _ _ _ hh h => h.of_heap hh) own started (by kernel_rfl) Tryd.func5
    (ChangeSpec.witness_shaped (enc := enc) (C := Tryd.checked) (os := os) (X := fun w _ => laidMetH Tryd.prog Rows.shaConstantsRow.laid w) false (World.doorLaid Tryd.prog 400 os) #[.int .u8 0] 8 rfl (World.shaped_of_RefB (by kernel_rfl) (by kernel_rfl)) (by kernel_rfl) (by kernel_rfl) (by kernel_rfl) (SLaid.door_met os _)) ?_
  intro W base args ds gs before hval0 hW _ _ hL _
  have hr := SLaid.of_laid hL
  have hval : ∀ (j : Nat) t v, Tryd.f5.params[j]? = some t → args[j]? = some v → Value.okWide Tryd.prog W .any base t v := hval0
  have hW' := hW
  obtain ⟨p, q, hA0, hV, rfl, hfz, hnd⟩ := hW
  have hA : DataW.TrodAll enc Tryd.prog W 0 (fun _ => true) true Tryd.f5.params.toList args.toList ds p := hA0
  rw [Tryd.params5] at hA hval
  obtain ⟨v0, vs0, d0, ds0, p0, q0, hargs, rfl, rfl, h0, r0⟩ := trodAll_cons hA
  obtain ⟨rfl, rfl, rfl⟩ := trodAll_nil r0
  obtain rfl : args = #[v0] := by cases args; simp_all
  obtain ⟨rfl, rfl⟩ := trodVars_none hV
  obtain ⟨a0, rfl, rfl, rfl, w0⟩ := open_int Tryd.underlying5 (hval 0 5 v0 rfl rfl) h0
  clear hA0 hval0
  refine (walk a0 W w0 hr).mono fun e W' ⟨he, bel⟩ => ?_
  subst he
  exact ⟨_, rfl, _, _, _, [], _, [], hW', trodAll_mk1 (shut_bool Tryd.underlying4 _), (trodAll_cons_mk (shut_int Tryd.underlying5 w0) trodAll_mk0), rfl, bel.frame _, fun h => by cases h⟩
theorem over : Rows.shaConstantsRow.holds Tryd.pinned (OpenSpec.ofChange Rows.shaConstantsSpec) :=
  OpenClaim.holds_of_wide 5 Tryd.f5 rfl rfl rfl rfl rfl rfl rfl ⟨rfl, rfl, rfl, rfl, rfl⟩ rfl rfl rfl rfl rfl (by kernel_rfl) Tryd.func5 (by kernel_rfl)
    (of_decide_eq_true (by kernel_rfl)) (by unfold Func.isWrapper; first | (rw [if_pos (by decide +kernel)]; kernel_rfl) | (rw [if_neg (by decide +kernel)]; exact ⟨rfl, rfl⟩))
    (fun os started H enc _ => lifted os started H enc)
/-- THE STATEMENT, proved. -/
theorem proved : Rows.ShaConstantsCardSaid :=
  Claim7.holds_tied_plain_at .later [] _ true _ false
    over (fun _ h => by cases h) (by kernel_rfl) (fun _ h => by cases h) shaConstants_row_tie rfl ⟨rfl, rfl⟩ (by kernel_rfl) rfl
    (fun f fn hf hfn => by
      obtain rfl : f = 5 := Option.some.inj ((show Tryd.prog.funcNamed "keepsake/keepsakelaw02.ShaConstants" = some 5 by kernel_rfl).symm.trans hf) |>.symm
      obtain rfl : fn = Tryd.f5 := (Option.some.inj (Tryd.func5.symm.trans hfn)).symm
      exact ⟨by kernel_rfl, fun j t ht => by
        rw [Tryd.params5] at ht
        have hm : t ∈ [5] := by simpa using Array.mem_of_getElem? ht
        have hall : ([5].all fun u => !Tryd.prog.wantsStandIn u) = true := by kernel_rfl
        exact (show Tryd.prog.wantsStandIn t = false by simpa using List.all_eq_true.1 hall t hm)⟩)
    (by kernel_rfl)
#print axioms proved
end Go.Proofs.YtkaeeedjkegdlaaDoor.shaConstants
