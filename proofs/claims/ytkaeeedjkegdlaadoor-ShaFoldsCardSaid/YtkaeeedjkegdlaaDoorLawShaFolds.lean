/- ShaFolds: at any text of at most 5,000 bytes (longer ones: the chapter's example alone, as the statement has it), the text's sha.Sum is what sha.Step turns sha.First to, block by block of the text with its sha.Pad behind it. The condition: the rounds' numbers lie in the program's variable (the card ties it to the program's text). -/
import Derived.Test.YtkaeeedjkegdlaaDoorSFold
import Derived.Test.YtkaeeedjkegdlaaDoorRows
import Derived.Test.YtkaeeedjkegdlaaDoorTie
import Derived.Test.YtkaeeedjkegdlaaDoorCards
import Derived.Test.YtkaeeedjkegdlaaDoorSLaid
import Derived.WalkKit
import Derived.ProofKit
import Derived.OpenShut
import Derived.ShutString
import Derived.ChangeOld
import Derived.Below
import Derived.LaidMore
import Derived.SevenTiedAt
import Derived.Stop.Joined
namespace Go.Proofs.YtkaeeedjkegdlaaDoor.shaFolds
open Go.ChangeShapes Go.WideShapes Go.ChangeAt Go.RowKit
open Go.ChangeMaps (open_string shut_string)
set_option linter.unusedVariables false
open STurn SHash SPut SSum SStep
theorem walk (s : ByteArray) (w : World) (w0 : s.size ≤ maxLen) (hr : Rds w) :
    Calls Tryd.prog 6 #[.string s] w fun e w' => e = .returned (.bool true) ∧ Below w.heap.size w w' := by
  have HR := Lib.hid hr
  clear w0 hr
  by_cases hbig : (5000 : Int) < (s.size : Int)
  · go_enter Tryd.func6, Tryd.ntmps6
    go_wp2_with (go_at_call 11; refine (SAlive.any _ HR.out).mono ?_; rintro e w1 ⟨rfl, hb1⟩)
    go_ret
    exact ⟨rfl, hb1⟩
  obtain ⟨l, rfl⟩ : ∃ l : List UInt8, s = ⟨l.toArray⟩ := ⟨s.data.toList, rfl⟩
  replace hbig : ¬ (5000 : Int) < (l.length : Int) := hbig
  have HPad := Lib.hid (fun W => SPad.good l.length W (by omega))
  have hm := pad_mod l.length
  have hpl := pad_length l.length
  have HS : Hid (sum l = (blocks st0 ((l ++ pad l.length).length / 64) (l ++ pad l.length)).bytes) := by rw [sum, List.length_append]; rfl
  have hp2 : (pad l.length).length ≤ 80 := by omega
  generalize pad l.length = p at *
  have hap : (⟨l.toArray⟩ ++ ⟨p.toArray⟩ : ByteArray) = ⟨(l ++ p).toArray⟩ := by rw [ByteArray.mk_append_mk]
  have hal : (l ++ p).length ≤ 5100 := by rw [List.length_append]; omega
  have ham : (l ++ p).length % 64 = 0 := by rw [List.length_append]; exact hm
  obtain ⟨k, hk⟩ : ∃ k, (l ++ p).length = 64 * k := ⟨(l ++ p).length / 64, by omega⟩
  have HD : Hid ((l ++ p).length / 64 = k) := by rw [hk]; show 64 * k / 64 = k; omega
  generalize hA : l ++ p = A at *
  clear hA hm hpl ham
  have HK := Lib.hid hk
  have HAp := Lib.hid hap
  have hbad : ((A.length : Int) % 64 != 0) = false := by rw [bne_eq_false_iff_eq]; omega
  clear hk hap
  go_enter Tryd.func6, Tryd.ntmps6
  go_upto_region 4 with (go_at_call 14; refine (HPad.out _).mono ?_; rintro e w1 ⟨rfl, hb1⟩; have HB1 := Lib.hid hb1; clear hb1)
  go_upto_region 5 with (fail)
  rw [HAp.out]
  go_wp2_with (go_at_call 15; refine (SByt.First _).mono ?_; rintro e w2 ⟨rfl, hb2⟩; have HB2 := Lib.hid (HB1.out.trans (hb2.mono HB1.out.size)); clear hb2)
  clear hbad
  go_loopw [6, 7] (fun t i wr => ∃ j : Nat, j ≤ k ∧ t = .string ⟨(blocks st0 j A).bytes.toArray⟩ ∧ i = .int .i64 (64 * j : Nat) ∧ Below w.heap.size w wr) (fun _ i _ => A.length - (intOf i).toNat)
  case atStart => exact ⟨0, Nat.zero_le _, rfl, rfl, HB2.out⟩
  case round =>
    obtain ⟨j, hj, rfl, rfl, hbel⟩ := hrel
    have HB := Lib.hid hbel
    clear hbel
    by_cases hlt : j < k
    · have hlt2 : ((64 * j : Nat) : Int) < (A.length : Int) := by have := HK.out; omega
      have hok := blocks_ok st0 st0_ok j A
      have HSt := Lib.hid (fun W hr => SStep.any ⟨(blocks st0 j A).bytes.toArray⟩ ⟨((A.drop (64 * j)).take 64).toArray⟩ W hr)
      have hst : SStep.step (blocks st0 j A).bytes ((A.drop (64 * j)).take 64) = ((blocks st0 (j + 1) A).bytes, 0) := by
        rw [SStep.step, if_pos ⟨bytes_length _, by have := HK.out; simp; omega⟩, SFold.stOf_bytes _ hok, blocks_last]
      have HX : Hid (∀ W, Rds W → Calls Tryd.prog 12 #[.string ⟨(blocks st0 j A).bytes.toArray⟩, .string ⟨((A.drop (64 * j)).take 64).toArray⟩] W fun e w' => e = .returned (.tuple #[.string ⟨(blocks st0 (j + 1) A).bytes.toArray⟩, .int .i64 0]) ∧ Below W.heap.size W w') := by
        intro W hr
        have h := HSt.out W hr
        rw [show ((⟨(blocks st0 j A).bytes.toArray⟩ : ByteArray)).data.toList = (blocks st0 j A).bytes from rfl, show ((⟨((A.drop (64 * j)).take 64).toArray⟩ : ByteArray)).data.toList = (A.drop (64 * j)).take 64 from rfl, hst] at h
        exact h
      have hsl : ∀ W : World, (Instr.slice 9 (.string ⟨A.toArray⟩) (some (.int .i64 ((64 * j : Nat) : Int))) (some (.int .i64 (((64 * j : Nat) : Int) + 64))) none).run Tryd.prog W = .ok (.string ⟨((A.drop (64 * j)).take 64).toArray⟩) W := by
        intro W
        have := run_slice_string (P := Tryd.prog) (w := W) 9 ⟨A.toArray⟩ .i64 .i64 ((64 * j : Nat) : Int) (((64 * j : Nat) : Int) + 64) Tryd.underlying9 (by omega) (by omega) (show _ ≤ ((A.length : Nat) : Int) by have := HK.out; omega)
        rw [this]
        have e2 : (((64 * j : Nat) : Int) + 64).toNat = 64 * j + 64 := by omega
        rw [Int.toNat_natCast, e2, ByteArray.extract_mk, show 64 * j + 64 - 64 * j = 64 from by omega]
      clear HSt hst hok
      generalize hv : 64 * j = v at *
      generalize (A.drop v).take 64 = blk at *
      generalize (blocks st0 j A).bytes = y0 at *
      obtain ⟨y1, hy1⟩ : ∃ y, y = (blocks st0 (j + 1) A).bytes := ⟨_, rfl⟩
      rw [← hy1] at HX
      have HY := Lib.hid hy1
      have HV := Lib.hid hv
      clear hy1 hv
      have hv1 : v ≤ 5100 := by omega
      go_wp2_with (go_at_call 12; refine (HX.out _ (HR.out.step HB.out)).mono ?_; rintro e w3 ⟨rfl, hb3⟩; have HB3 := Lib.hid (HB.out.trans (hb3.mono HB.out.size)); clear hb3)
      go_roundw
      case rel => exact ⟨j + 1, by omega, by rw [HY.out], by have := HV.out; exact vint (by omega), HB3.out⟩
      case measure => have := HK.out; simp [intOf]; omega
    · have hk : j = k := by omega
      subst hk
      have hge : ¬ ((64 * j : Nat) : Int) < (A.length : Int) := by have := HK.out; omega
      have hs := HS.out
      rw [HD.out] at hs
      rw [← hs]
      clear hs hlt
      generalize 64 * j = v at *
      have HOne := Lib.hid (fun W hr => SFold.one l W hr (by omega))
      generalize sum l = y at *
      go_wp2_with (first
        | (go_at_call 9; refine (HOne.out _ (HR.out.step HB.out)).mono ?_; rintro e w3 ⟨rfl, hb3⟩; have HB3 := Lib.hid (HB.out.trans (hb3.mono HB.out.size)); clear hb3)
        | (go_at_call 11; refine (SAlive.any _ (HR.out.step HB3.out)).mono ?_; rintro e w4 ⟨rfl, hb4⟩))
      go_ret
      exact ⟨rfl, HB3.out.trans (hb4.mono HB3.out.size)⟩
theorem own : ownKnob Tryd.prog.godebug = none := by kernel_rfl
theorem laidOut : laidOutB Tryd.prog = true := by kernel_rfl
set_option maxRecDepth 100000 in
theorem lifted (os : Os) (started : os.Started) (H : Type) (enc : TypeId × Value → H) :
    ReturnsInHanded {} Tryd.checked os 6 .any (fun w args => (Rows.shaFoldsSpec.pre enc Tryd.prog Tryd.f6 Rows.shaFoldsRow.domain false w args ∧ laidMetH Tryd.prog Rows.shaFoldsRow.laid w) ∧ sizedMet enc Tryd.prog Tryd.f6 (OpenSpec.ofChange Rows.shaFoldsSpec) false w args) (Rows.shaFoldsSpec.post enc Tryd.prog Tryd.f6 false true false false) := by
  refine returnsInHanded_of_change_and (C := Tryd.checked) (X := fun w _ => laidMetH Tryd.prog Rows.shaFoldsRow.laid w) (fun _ _ _ hh h => h.of_heap hh) own started (by kernel_rfl) Tryd.func6
    (ChangeSpec.witness_shaped (enc := enc) (C := Tryd.checked) (os := os) (X := fun w _ => laidMetH Tryd.prog Rows.shaFoldsRow.laid w) false (World.doorLaid Tryd.prog 400 os) #[.string ByteArray.empty] 8 rfl (World.shaped_of_RefB (by kernel_rfl) (by kernel_rfl)) (by kernel_rfl) (by kernel_rfl) (by kernel_rfl) (SLaid.door_met os _)) ?_
  intro W base args ds gs before hval0 hW _ _ hL _
  have hr := SLaid.of_laid hL
  have hval : ∀ (j : Nat) t v, Tryd.f6.params[j]? = some t → args[j]? = some v → Value.okWide Tryd.prog W .any base t v := hval0
  have hW' := hW
  obtain ⟨p, q, hA0, hV, rfl, hfz, hnd⟩ := hW
  have hA : DataW.TrodAll enc Tryd.prog W 0 (fun _ => true) true Tryd.f6.params.toList args.toList ds p := hA0
  rw [Tryd.params6] at hA hval
  obtain ⟨v0, vs0, d0, ds0, p0, q0, hargs, rfl, rfl, h0, r0⟩ := trodAll_cons hA
  obtain ⟨rfl, rfl, rfl⟩ := trodAll_nil r0
  obtain rfl : args = #[v0] := by cases args; simp_all
  obtain ⟨rfl, rfl⟩ := trodVars_none hV
  obtain ⟨a0, rfl, rfl, rfl, w0⟩ := open_string Tryd.underlying9 (hval 0 9 v0 rfl rfl) h0
  clear hA0 hval0
  refine (walk a0 W w0 hr).mono fun e W' ⟨he, bel⟩ => ?_
  subst he
  exact ⟨_, rfl, _, _, _, [], _, [], hW', trodAll_mk1 (shut_bool Tryd.underlying4 _), (trodAll_cons_mk (shut_string Tryd.underlying9 w0) trodAll_mk0), rfl, bel.frame _, fun h => by cases h⟩
theorem over : Rows.shaFoldsRow.holds Tryd.pinned (OpenSpec.ofChange Rows.shaFoldsSpec) :=
  OpenClaim.holds_of_wide 6 Tryd.f6 rfl rfl rfl rfl rfl rfl rfl ⟨rfl, rfl, rfl, rfl, rfl⟩ rfl rfl rfl rfl rfl (by kernel_rfl) Tryd.func6 (by kernel_rfl)
    (of_decide_eq_true (by kernel_rfl)) (by unfold Func.isWrapper; first | (rw [if_pos (by decide +kernel)]; kernel_rfl) | (rw [if_neg (by decide +kernel)]; exact ⟨rfl, rfl⟩))
    (fun os started H enc _ => lifted os started H enc)
/-- THE STATEMENT, proved. -/
theorem proved : Rows.ShaFoldsCardSaid :=
  Claim7.holds_tied_plain_at .later [] _ true _ false
    over (fun _ h => by cases h) (by kernel_rfl) (fun _ h => by cases h) shaFolds_row_tie rfl ⟨rfl, rfl⟩ (by kernel_rfl) rfl
    (fun f fn hf hfn => by
      obtain rfl : f = 6 := Option.some.inj ((show Tryd.prog.funcNamed "keepsake/keepsakelaw02.ShaFolds" = some 6 by kernel_rfl).symm.trans hf) |>.symm
      obtain rfl : fn = Tryd.f6 := (Option.some.inj (Tryd.func6.symm.trans hfn)).symm
      exact ⟨by kernel_rfl, fun j t ht => by
        rw [Tryd.params6] at ht
        have hm : t ∈ [9] := by simpa using Array.mem_of_getElem? ht
        have hall : ([9].all fun u => !Tryd.prog.wantsStandIn u) = true := by kernel_rfl
        exact (show Tryd.prog.wantsStandIn t = false by simpa using List.all_eq_true.1 hall t hm)⟩)
    (by kernel_rfl)
#print axioms proved
end Go.Proofs.YtkaeeedjkegdlaaDoor.shaFolds
