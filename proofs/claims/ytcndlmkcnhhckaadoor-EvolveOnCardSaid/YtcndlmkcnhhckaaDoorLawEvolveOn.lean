/- EvolveOn: at any root, any first epoch and any number of at most 200 epochs beyond it (else: the chapter's example alone, as the statement has it), the key at the epoch is what Next makes of the first one's, so many times; of a root that has not 32 bytes there is none. The condition: the rounds' numbers lie in the program's variable (the card ties it to the program's text). -/
import Derived.Test.YtcndlmkcnhhckaaDoorEvoY
import Derived.Test.YtcndlmkcnhhckaaDoorRows
import Derived.Test.YtcndlmkcnhhckaaDoorTie
import Derived.Test.YtcndlmkcnhhckaaDoorCards
import Derived.Test.YtcndlmkcnhhckaaDoorSLaid
import Derived.WalkKit
import Derived.ProofKit
import Derived.OpenShut
import Derived.ShutString
import Derived.ChangeOld
import Derived.Below
import Derived.LaidMore
import Derived.SevenTiedAt
import Derived.Stop.Joined
namespace Go.Proofs.YtcndlmkcnhhckaaDoor.evolveOn
open Go.ChangeShapes Go.WideShapes Go.ChangeAt Go.RowKit
open Go.ChangeMaps (open_string shut_string)
set_option linter.unusedVariables false
open STurn EvoN
set_option maxRecDepth 100000 in
theorem long (k : ByteArray) (f n : Int) (w : World) (hr : Rds w) (h : n < 0 ∨ (0 ≤ n ∧ 200 < n) ∨ (0 ≤ n ∧ n ≤ 200 ∧ f < 0) ∨ (0 ≤ n ∧ n ≤ 200 ∧ 0 ≤ f ∧ 4294967295 - n < f)) :
    Calls Tryd.prog 5 #[.string k, .int .i64 f, .int .i64 n] w fun r w' => r = .returned (.bool true) ∧ Below w.heap.size w w' := by
  have HA := Lib.hid (EvoY.alive w hr)
  clear hr
  rcases h with h1 | ⟨h1, h2⟩ | ⟨h1, h2, h3⟩ | ⟨h1, h2, h3, h4⟩
  all_goals
    go_enter Tryd.func5, Tryd.ntmps5
    go_wp2_with (go_at_call 7; refine HA.out.mono ?_; rintro r w1 ⟨rfl, hb1⟩)
    go_ret
    exact ⟨rfl, hb1⟩
set_option maxRecDepth 100000 in
theorem short (k : List UInt8) (f n : Int) (w : World) (hr : Rds w) (h0 : ¬ n < 0) (h1 : ¬ 200 < n) (h2 : ¬ f < 0) (h3 : ¬ 4294967295 - n < f) (hk : ¬ k.length = 32) :
    Calls Tryd.prog 5 #[.string ⟨k.toArray⟩, .int .i64 f, .int .i64 n] w fun r w' => r = .returned (.bool true) ∧ Below w.heap.size w w' := by
  have P1 := Lib.hid (fun W hr => EvoA.At k f (f + n) W hr (by omega))
  rw [at_bad (fun h => hk h.1)] at P1
  have hq : (((k.length : Nat) : Int) != 32) = true := by simp; omega
  have HR := Lib.hid hr
  clear hr hk
  go_enter Tryd.func5, Tryd.ntmps5
  go_wp2_with (first
    | (go_at_call 16; refine (P1.out _ HR.out).mono ?_; rintro r w1 ⟨rfl, hb1⟩; have HB1 := Lib.hid hb1; clear hb1)
    | (go_at_call 7; refine (EvoY.alive _ (HR.out.step HB1.out)).mono ?_; rintro r w2 ⟨rfl, hb2⟩; have HB2 := Lib.hid (HB1.out.trans (hb2.mono HB1.out.size)); clear hb2))
  go_ret
  exact ⟨rfl, HB2.out⟩
set_option maxRecDepth 100000 in
set_option maxHeartbeats 2000000 in
theorem on (k : List UInt8) (f : Int) (n : Nat) (w : World) (hr : Rds w) (h1 : ¬ 200 < (n : Int)) (h2 : ¬ f < 0) (h3 : ¬ 4294967295 - (n : Int) < f) (hk : k.length = 32) :
    Calls Tryd.prog 5 #[.string ⟨k.toArray⟩, .int .i64 f, .int .i64 n] w fun r w' => r = .returned (.bool true) ∧ Below w.heap.size w w' := by
  have P1 := Lib.hid (fun W hr => EvoA.At k f (f + (n : Int)) W hr (by omega))
  have P2 := Lib.hid (fun W hr => EvoP.First k f W hr (by omega))
  rw [at_good hk (by omega) (by omega) (by omega) (by omega), show (f + (n : Int) - f).toNat = n from by omega] at P1
  rw [first_good hk (by omega) (by omega)] at P2
  have hz := first_length k f
  generalize macOf k (saidOf lSeal [f]) = z at *
  have hln := nextN_length hz n
  have HN : Hid (∀ (j : Nat) (W : World), Rds W → Calls Tryd.prog 9 #[.string ⟨(nextN z j).toArray⟩] W fun r w' => r = .returned (.tuple #[.string ⟨(nextN z (j + 1)).toArray⟩, .int .i64 0]) ∧ Below W.heap.size W w') := Lib.hid (fun j W hr => by
    have := EvoP.Next (nextN z j) W hr
    rw [made_next hz] at this
    exact this)
  have h0 : ¬ (n : Int) < 0 := by omega
  have HR := Lib.hid hr
  clear hr hk hz
  obtain ⟨x, hx⟩ : ∃ x, nextN z n = x := ⟨_, rfl⟩
  rw [hx] at P1 hln
  have hq : (((x.length : Nat) : Int) == 32) = true := by simp [hln]
  have HX := Lib.hid hx
  clear hx hln
  go_enter Tryd.func5, Tryd.ntmps5
  go_wp2_with (first
    | (go_at_call 16; refine (P1.out _ HR.out).mono ?_; rintro r w1 ⟨rfl, hb1⟩; have HB1 := Lib.hid hb1; clear hb1)
    | (go_at_call 8; refine (P2.out _ (HR.out.step HB1.out)).mono ?_; rintro r w2 ⟨rfl, hb2⟩; have HB2 := Lib.hid (HB1.out.trans (hb2.mono HB1.out.size)); clear hb2))
  go_loopw [9, 58] (fun y i wr => ∃ j : Nat, j ≤ n ∧ i = .int .i64 j ∧ y = .string ⟨(nextN z j).toArray⟩ ∧ Below w.heap.size w wr) (fun _ i _ => n - (intOf i).toNat)
  case atStart => exact ⟨0, Nat.zero_le _, rfl, rfl, HB2.out⟩
  case round =>
    obtain ⟨j, hj, rfl, rfl, hbe⟩ := hrel
    have HBe := Lib.hid hbe
    clear hbe
    by_cases hlt : j < n
    · have hp := HN.out j
      have HP := Lib.hid hp
      clear hp HN
      have hjn : (j : Int) < (n : Int) := by omega
      generalize hy : nextN z (j + 1) = y at *
      generalize nextN z j = u at *
      have HY := Lib.hid hy
      clear hy
      go_wp2_with (go_at_call 9; refine (HP.out _ (HR.out.step HBe.out)).mono ?_; rintro r w3 ⟨rfl, hb3⟩; have HB3 := Lib.hid (HBe.out.trans (hb3.mono HBe.out.size)); clear hb3)
      go_roundw
      case rel => exact ⟨j + 1, by omega, by go_num, by rw [HY.out], HB3.out⟩
      case measure => simp [intOf]; omega
    · obtain rfl : j = n := by omega
      have hjn : ¬ (j : Int) < (j : Int) := by omega
      rw [HX.out]
      go_wp2_with (go_at_call 7; refine (EvoY.alive _ (HR.out.step HBe.out)).mono ?_; rintro r w3 ⟨rfl, hb3⟩; have HB3 := Lib.hid (HBe.out.trans (hb3.mono HBe.out.size)); clear hb3)
      go_ret
      exact ⟨rfl, HB3.out⟩
theorem walk (k : ByteArray) (f n : Int) (w : World) (w0 : k.size ≤ maxLen) (w1 : (Lit.int .i64 f).wf = true) (w2 : (Lit.int .i64 n).wf = true) (hr : Rds w) :
    Calls Tryd.prog 5 #[.string k, .int .i64 f, .int .i64 n] w fun r w' => r = .returned (.bool true) ∧ Below w.heap.size w w' := by
  have hf := (bounds_i64 w1).2
  have hn := (bounds_i64 w2)
  clear w0 w1 w2
  by_cases h : n < 0 ∨ 200 < n ∨ f < 0 ∨ 4294967295 - n < f
  · exact long k f n w hr (by omega)
  · by_cases hk : k.data.toList.length = 32
    · obtain ⟨m, rfl⟩ := Int.eq_ofNat_of_zero_le (show 0 ≤ n by omega)
      exact on k.data.toList f m w hr (by omega) (by omega) (by omega) hk
    · exact short k.data.toList f n w hr (by omega) (by omega) (by omega) (by omega) hk
theorem own : ownKnob Tryd.prog.godebug = none := by kernel_rfl
theorem laidOut : laidOutB Tryd.prog = true := by kernel_rfl
set_option maxRecDepth 100000 in
theorem lifted (os : Os) (started : os.Started) (H : Type) (enc : TypeId × Value → H) :
    ReturnsInHanded {} Tryd.checked os 5 .any (fun w args => (Rows.evolveOnSpec.pre enc Tryd.prog Tryd.f5 Rows.evolveOnRow.domain false w args ∧ laidMetH Tryd.prog Rows.evolveOnRow.laid w) ∧ sizedMet enc Tryd.prog Tryd.f5 (OpenSpec.ofChange Rows.evolveOnSpec) false w args) (Rows.evolveOnSpec.post enc Tryd.prog Tryd.f5 false true false false) := by
  refine returnsInHanded_of_change_and (C := Tryd.checked) (X := fun w _ => laidMetH Tryd.prog Rows.evolveOnRow.laid w) (fun _ _ _ hh h => h.of_heap hh) own started (by kernel_rfl) Tryd.func5
    (ChangeSpec.witness_shaped (enc := enc) (C := Tryd.checked) (os := os) (X := fun w _ => laidMetH Tryd.prog Rows.evolveOnRow.laid w) false (World.doorLaid Tryd.prog 400 os) #[.string ByteArray.empty, .int .i64 0, .int .i64 0] 8 rfl (World.shaped_of_RefB (by kernel_rfl) (by kernel_rfl)) (by kernel_rfl) (by kernel_rfl) (by kernel_rfl) (SLaid.door_met os _)) ?_
  intro W base args ds gs before hval0 hW _ hZ hL _
  have hr := SLaid.of_laid hL
  have hval : ∀ (j : Nat) t v, Tryd.f5.params[j]? = some t → args[j]? = some v → Value.okWide Tryd.prog W .any base t v := hval0
  have hW' := hW
  obtain ⟨p, q, hA0, hV, rfl, hfz, hnd⟩ := hW
  have hA : DataW.TrodAll enc Tryd.prog W 0 (fun _ => true) true Tryd.f5.params.toList args.toList ds p := hA0
  rw [Tryd.params5] at hA hval
  obtain ⟨v0, vs0, d0, ds0, p0, q0, hargs, rfl, rfl, h0, r0⟩ := trodAll_cons hA
  obtain ⟨v1, vs1, d1, ds1, p1, q1, rfl, rfl, rfl, h1, r1⟩ := trodAll_cons r0
  obtain ⟨v2, vs2, d2, ds2, p2, q2, rfl, rfl, rfl, h2, r2⟩ := trodAll_cons r1
  obtain ⟨rfl, rfl, rfl⟩ := trodAll_nil r2
  obtain rfl : args = #[v0, v1, v2] := by cases args; simp_all
  obtain ⟨rfl, rfl⟩ := trodVars_none hV
  obtain ⟨a0, rfl, rfl, rfl, w0⟩ := open_string Tryd.underlying9 (hval 0 9 v0 rfl rfl) h0
  obtain ⟨a1, rfl, rfl, rfl, w1⟩ := open_int Tryd.underlying3 (hval 1 3 v1 rfl rfl) h1
  obtain ⟨a2, rfl, rfl, rfl, w2⟩ := open_int Tryd.underlying3 (hval 2 3 v2 rfl rfl) h2
  clear hA0 hval0
  refine (walk a0 a1 a2 W w0 w1 w2 hr).mono fun e W' ⟨he, bel⟩ => ?_
  subst he
  exact ⟨_, rfl, _, _, _, [], _, [], hW', trodAll_mk1 (shut_bool Tryd.underlying4 _), (trodAll_cons_mk (shut_string Tryd.underlying9 w0) (trodAll_cons_mk (shut_int Tryd.underlying3 w1) (trodAll_cons_mk (shut_int Tryd.underlying3 w2) trodAll_mk0))), rfl, bel.frame _, fun h => by cases h⟩
theorem over : Rows.evolveOnRow.holds Tryd.pinned (OpenSpec.ofChange Rows.evolveOnSpec) :=
  OpenClaim.holds_of_wide 5 Tryd.f5 rfl rfl rfl rfl rfl rfl rfl ⟨rfl, rfl, rfl, rfl, rfl⟩ rfl rfl rfl rfl rfl (by kernel_rfl) Tryd.func5 (by kernel_rfl)
    (of_decide_eq_true (by kernel_rfl)) (by unfold Func.isWrapper; first | (rw [if_pos (by decide +kernel)]; kernel_rfl) | (rw [if_neg (by decide +kernel)]; exact ⟨rfl, rfl⟩))
    (fun os started H enc _ => lifted os started H enc)
/-- THE STATEMENT, proved. -/
theorem proved : Rows.EvolveOnCardSaid :=
  Claim7.holds_tied_plain_at .later [] _ true _ false
    over (fun _ h => by cases h) (by kernel_rfl) (fun _ h => by cases h) evolveOn_row_tie rfl ⟨rfl, rfl⟩ (by kernel_rfl) rfl
    (fun f fn hf hfn => by
      obtain rfl : f = 5 := Option.some.inj ((show Tryd.prog.funcNamed "keepsake/keepsakelaw18.EvolveOn" = some 5 by kernel_rfl).symm.trans hf) |>.symm
      obtain rfl : fn = Tryd.f5 := (Option.some.inj (Tryd.func5.symm.trans hfn)).symm
      exact ⟨by kernel_rfl, fun j t ht => by
        rw [Tryd.params5] at ht
        have hm : t ∈ [9, 3, 3] := by simpa using Array.mem_of_getElem? ht
        have hall : ([9, 3, 3].all fun u => !Tryd.prog.wantsStandIn u) = true := by kernel_rfl
        exact (show Tryd.prog.wantsStandIn t = false by simpa using List.all_eq_true.1 hall t hm)⟩)
    (by kernel_rfl)
#print axioms proved
end Go.Proofs.YtcndlmkcnhhckaaDoor.evolveOn
