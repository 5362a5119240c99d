/- ChainSum: of any two rows of as many sealed records, of so few bytes as the statement goes through (else: the chapter's example alone), unlike tags give unlike sums, or two unlike texts of those that are summed have one sum; the same tags give the same sums. The condition: the rounds' numbers lie in the program's variable (the card ties it to the program's text). -/
import Derived.Test.YtjcfgedldpnpjaaDoorChnX
import Derived.Test.YtjcfgedldpnpjaaDoorLChy
import Derived.Test.YtjcfgedldpnpjaaDoorChnE
import Derived.Test.YtjcfgedldpnpjaaDoorRows
import Derived.Test.YtjcfgedldpnpjaaDoorTie
import Derived.Test.YtjcfgedldpnpjaaDoorCards
import Derived.Test.YtjcfgedldpnpjaaDoorSLaid
import Derived.WalkKit
import Derived.ProofKit
import Derived.OpenShut
import Derived.ShutString
import Derived.ChangeOld
import Derived.Below
import Derived.LaidMore
import Derived.SevenTiedAt
import Derived.Stop.Joined
namespace Go.Proofs.YtjcfgedldpnpjaaDoor.chainSum
open Go.ChangeShapes Go.WideShapes Go.ChangeAt Go.RowKit
open Go.ChangeMaps (open_string shut_string)
set_option linter.unusedVariables false
open RecN RecC RecQ STurn SSum ChnN ChnM ChnC ChnD ChnL ChnU ChnE
set_option maxRecDepth 100000 in
theorem long (a : Option Addr) (n c : Nat) (A : List Sd) (b : Option Addr) (m d : Nat) (B : List Sd) (w : World) (hA : Came w a n c A) (hB : Came w b m d B) (hr : Rds w) (h : fewB A = false ∨ (fewB A = true ∧ fewB B = false) ∨ (fewB A = true ∧ fewB B = true ∧ n ≠ m)) :
    Calls Tryd.prog 6 #[.slice a n c, .slice b m d] w fun e w' => e = .returned (.bool true) ∧ Below w.heap.size w w' := by
  have F1 : Hid True := Lib.hid trivial
  have FA := Lib.hid (Few a n c A w hA.2.2.2.2 hA.1 hA.2.1 hA.2.2.2.1)
  have FB := Lib.hid (fun W (hb : Below w.heap.size w W) => Few b m d B W (hB.2.2.2.2.step hb) hB.1 hB.2.1 hB.2.2.2.1)
  have HR := Lib.hid hr
  have hn := hA.2.1
  have hm := hB.2.1
  unfold maxLen at hn hm
  clear hr hA hB
  go_enter Tryd.func6, Tryd.ntmps6
  rcases h with h | ⟨h, h2⟩ | ⟨h, h2, h3⟩
  · rw [h] at FA
    clear h FB
    go_wp2_with (first
      | (go_at_call 13; refine FA.out.mono ?_; rintro e w2 ⟨rfl, hb⟩; have B2 := Lib.hid hb; clear hb)
      | (go_at_call 8; refine (ChnY.alive _ (HR.out.step B2.out)).mono ?_; rintro e w3 ⟨rfl, hb⟩; have B3 := Lib.hid (B2.out.trans (hb.mono B2.out.size)); clear hb))
    go_ret
    exact ⟨rfl, B3.out⟩
  · rw [h] at FA
    rw [h2] at FB
    clear h h2
    go_wp2_with (first
      | (clear F1; go_at_call 13; refine FA.out.mono ?_; rintro e w2 ⟨rfl, hb⟩; have B2 := Lib.hid hb; clear hb FA)
      | (go_at_call 13; refine (FB.out _ B2.out).mono ?_; rintro e w3 ⟨rfl, hb⟩; have B3 := Lib.hid (B2.out.trans (hb.mono B2.out.size)); clear hb FB)
      | (go_at_call 8; refine (ChnY.alive _ (HR.out.step B3.out)).mono ?_; rintro e w4 ⟨rfl, hb⟩; have B4 := Lib.hid (B3.out.trans (hb.mono B3.out.size)); clear hb))
    go_ret
    exact ⟨rfl, B4.out⟩
  · rw [h] at FA
    rw [h2] at FB
    have hq : ((n : Int) != (m : Int)) = true := by simp; omega
    clear h h2 h3
    go_wp2_with (first
      | (clear F1; go_at_call 13; refine FA.out.mono ?_; rintro e w2 ⟨rfl, hb⟩; have B2 := Lib.hid hb; clear hb FA)
      | (go_at_call 13; refine (FB.out _ B2.out).mono ?_; rintro e w3 ⟨rfl, hb⟩; have B3 := Lib.hid (B2.out.trans (hb.mono B2.out.size)); clear hb FB)
      | (go_at_call 8; refine (ChnY.alive _ (HR.out.step B3.out)).mono ?_; rintro e w4 ⟨rfl, hb⟩; have B4 := Lib.hid (B3.out.trans (hb.mono B3.out.size)); clear hb))
    go_ret
    exact ⟨rfl, B4.out⟩
theorem walk (a : Option Addr) (n c : Nat) (A : List Sd) (b : Option Addr) (m d : Nat) (B : List Sd) (w : World) (w0 : Came w a n c A) (w1 : Came w b m d B) (hr : Rds w) :
    Calls Tryd.prog 6 #[.slice a n c, .slice b m d] w fun e w' => e = .returned (.bool true) ∧ Below w.heap.size w w' := by
  cases fA : fewB A with
  | false => exact long a n c A b m d B w w0 w1 hr (.inl fA)
  | true =>
    cases fB : fewB B with
    | false => exact long a n c A b m d B w w0 w1 hr (.inr (.inl ⟨fA, fB⟩))
    | true =>
      by_cases h : n = m
      · subst h
        exact ChnX.short a n c A b d B w w0 w1 hr fA fB
      · exact long a n c A b m d B w w0 w1 hr (.inr (.inr ⟨fA, fB, h⟩))
theorem own : ownKnob Tryd.prog.godebug = none := by kernel_rfl
theorem laidOut : laidOutB Tryd.prog = true := by kernel_rfl
set_option maxRecDepth 100000 in
theorem lifted (os : Os) (started : os.Started) (H : Type) (enc : TypeId × Value → H) :
    ReturnsInHanded {} Tryd.checked os 6 .any (fun w args => (Rows.chainSumSpec.pre enc Tryd.prog Tryd.f6 Rows.chainSumRow.domain false w args ∧ laidMetH Tryd.prog Rows.chainSumRow.laid w) ∧ sizedMet enc Tryd.prog Tryd.f6 (OpenSpec.ofChange Rows.chainSumSpec) false w args) (Rows.chainSumSpec.post enc Tryd.prog Tryd.f6 false true false false) := by
  refine returnsInHanded_of_change_and (C := Tryd.checked) (X := fun w _ => laidMetH Tryd.prog Rows.chainSumRow.laid w) (fun _ _ _ hh h => h.of_heap hh) own started (by kernel_rfl) Tryd.func6
    (ChangeSpec.witness_shaped (enc := enc) (C := Tryd.checked) (os := os) (X := fun w _ => laidMetH Tryd.prog Rows.chainSumRow.laid w) false (World.doorLaid Tryd.prog 400 os) #[.slice none 0 0, .slice none 0 0] 8 rfl (World.shaped_of_RefB (by kernel_rfl) (by kernel_rfl)) (by kernel_rfl) (by kernel_rfl) (by kernel_rfl) (SLaid.door_met os _)) ?_
  intro W base args ds gs before hval0 hW _ hZ hL _
  have hr := SLaid.of_laid hL
  have hval : ∀ (j : Nat) t v, Tryd.f6.params[j]? = some t → args[j]? = some v → Value.okWide Tryd.prog W .any base t v := hval0
  have hW' := hW
  obtain ⟨p, q, hA0, hV, rfl, hfz, hnd⟩ := hW
  have hA : DataW.TrodAll enc Tryd.prog W 0 (fun _ => true) true Tryd.f6.params.toList args.toList ds p := hA0
  rw [Tryd.params6] at hA hval
  obtain ⟨v0, vs0, d0, ds0, p0, q0, hargs, rfl, rfl, h0, r0⟩ := trodAll_cons hA
  obtain ⟨v1, vs1, d1, ds1, p1, q1, rfl, rfl, rfl, h1, r1⟩ := trodAll_cons r0
  obtain ⟨rfl, rfl, rfl⟩ := trodAll_nil r1
  obtain rfl : args = #[v0, v1] := by cases args; simp_all
  obtain ⟨rfl, rfl⟩ := trodVars_none hV
  have k0 := h0
  have lt0 : ∀ x ∈ p0, x.block < W.heap.size := by obtain ⟨m, hm⟩ := k0; exact DataW.trod_lt m _ _ _ hm
  obtain ⟨b0, len0, ca0, rfl⟩ := okWide_slice Tryd.underlying34 (hval 0 34 v0 rfl rfl)
  obtain ⟨a0, n0, cap0, z0, he0, w0⟩ := ChnD.open_sds h0
  simp only [Value.cells, List.cons.injEq, Value.slice.injEq, and_true] at he0
  obtain ⟨rfl, rfl, rfl⟩ := he0
  have k1 := h1
  have lt1 : ∀ x ∈ p1, x.block < W.heap.size := by obtain ⟨m, hm⟩ := k1; exact DataW.trod_lt m _ _ _ hm
  obtain ⟨b1, len1, ca1, rfl⟩ := okWide_slice Tryd.underlying34 (hval 1 34 v1 rfl rfl)
  obtain ⟨a1, n1, cap1, z1, he1, w1⟩ := ChnD.open_sds h1
  simp only [Value.cells, List.cons.injEq, Value.slice.injEq, and_true] at he1
  obtain ⟨rfl, rfl, rfl⟩ := he1
  clear hA0 hval0
  refine (walk b0 len0 ca0 z0 b1 len1 ca1 z1 W w0 w1 hr).mono fun e W' ⟨he, bel⟩ => ?_
  subst he
  exact ⟨_, rfl, _, _, _, [], _, [], hW', trodAll_mk1 (shut_bool Tryd.underlying4 _), (trodAll_cons_mk (Below.trod laidOut (by kernel_rfl) (of_decide_eq_true (by kernel_rfl)) k0 bel lt0) (trodAll_cons_mk (Below.trod laidOut (by kernel_rfl) (of_decide_eq_true (by kernel_rfl)) k1 bel lt1) trodAll_mk0)), rfl, bel.frame _, fun h => by cases h⟩
theorem over : Rows.chainSumRow.holds Tryd.pinned (OpenSpec.ofChange Rows.chainSumSpec) :=
  OpenClaim.holds_of_wide 6 Tryd.f6 rfl rfl rfl rfl rfl rfl rfl ⟨rfl, rfl, rfl, rfl, rfl⟩ rfl rfl rfl rfl rfl (by kernel_rfl) Tryd.func6 (by kernel_rfl)
    (of_decide_eq_true (by kernel_rfl)) (by unfold Func.isWrapper; first | (rw [if_pos (by decide +kernel)]; kernel_rfl) | (rw [if_neg (by decide +kernel)]; exact ⟨rfl, rfl⟩))
    (fun os started H enc _ => lifted os started H enc)
/-- THE STATEMENT, proved. -/
theorem proved : Rows.ChainSumCardSaid :=
  Claim7.holds_tied_plain_at .later [] _ true _ false
    over (fun _ h => by cases h) (by kernel_rfl) (fun _ h => by cases h) chainSum_row_tie rfl ⟨rfl, rfl⟩ (by kernel_rfl) rfl
    (fun f fn hf hfn => by
      obtain rfl : f = 6 := Option.some.inj ((show Tryd.prog.funcNamed "keepsake/keepsakelaw20.ChainSum" = some 6 by kernel_rfl).symm.trans hf) |>.symm
      obtain rfl : fn = Tryd.f6 := (Option.some.inj (Tryd.func6.symm.trans hfn)).symm
      exact ⟨by kernel_rfl, fun j t ht => by
        rw [Tryd.params6] at ht
        have hm : t ∈ [34, 34] := by simpa using Array.mem_of_getElem? ht
        have hall : ([34, 34].all fun u => !Tryd.prog.wantsStandIn u) = true := by kernel_rfl
        exact (show Tryd.prog.wantsStandIn t = false by simpa using List.all_eq_true.1 hall t hm)⟩)
    (by kernel_rfl)
#print axioms proved
end Go.Proofs.YtjcfgedldpnpjaaDoor.chainSum
