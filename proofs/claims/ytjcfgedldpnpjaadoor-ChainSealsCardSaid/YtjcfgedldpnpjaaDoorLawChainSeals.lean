/- ChainSeals: at any root, any first epoch, any row of sealed records of so few bytes as the statement goes through (else: the chapter's example alone), any place and any other tag of at most 1,000 bytes, what was sealed is right by Check, with Follow's epoch and count; a tag that is turned is told at its place. The condition: the rounds' numbers lie in the program's variable (the card ties it to the program's text). -/
import Derived.Test.YtjcfgedldpnpjaaDoorChnB
import Derived.Test.YtjcfgedldpnpjaaDoorRows
import Derived.Test.YtjcfgedldpnpjaaDoorTie
import Derived.Test.YtjcfgedldpnpjaaDoorCards
import Derived.Test.YtjcfgedldpnpjaaDoorSLaid
import Derived.WalkKit
import Derived.ProofKit
import Derived.OpenShut
import Derived.ShutString
import Derived.ChangeOld
import Derived.Below
import Derived.LaidMore
import Derived.SevenTiedAt
import Derived.Stop.Joined
namespace Go.Proofs.YtjcfgedldpnpjaaDoor.chainSeals
open Go.ChangeShapes Go.WideShapes Go.ChangeAt Go.RowKit
open Go.ChangeMaps (open_string shut_string)
set_option linter.unusedVariables false
open RecN RecC STurn SSum ChnN ChnM ChnC ChnD ChnE ChnG
set_option maxRecDepth 100000 in
theorem long (root : ByteArray) (f : Int) (a : Option Addr) (n c : Nat) (l : List Sd) (i : Int) (tag : List UInt8) (w : World) (hl : Came w a n c l) (hr : Rds w) (h : fewB l = false ∨ (fewB l = true ∧ (1000 : Int) < (tag.length : Int))) :
    Calls Tryd.prog 4 #[.string root, .int .i64 f, .slice a n c, .int .i64 i, .string ⟨tag.toArray⟩] w fun e w' => e = .returned (.bool true) ∧ Below w.heap.size w w' := by
  have FA := Lib.hid (Few a n c l w hl.2.2.2.2 hl.1 hl.2.1 hl.2.2.2.1)
  have HR := Lib.hid hr
  have hz := size_mk tag
  clear hr hl
  rcases h with h | ⟨h, h2⟩
  all_goals
    rw [h] at FA
    clear h
    go_enter Tryd.func4, Tryd.ntmps4
    go_wp2_with (first
      | (go_at_call 13; refine FA.out.mono ?_; rintro e w2 ⟨rfl, hb⟩; have B2 := Lib.hid hb; clear hb)
      | (go_at_call 8; refine (ChnY.alive _ (HR.out.step B2.out)).mono ?_; rintro e w3 ⟨rfl, hb⟩; have B3 := Lib.hid (B2.out.trans (hb.mono B2.out.size)); clear hb))
    go_ret
    exact ⟨rfl, B3.out⟩
theorem walk (root : ByteArray) (f : Int) (a : Option Addr) (n c : Nat) (l : List Sd) (i : Int) (tag : ByteArray) (w : World) (w0 : root.size ≤ maxLen) (w1 : (Lit.int .i64 f).wf = true) (w2 : Came w a n c l) (w3 : (Lit.int .i64 i).wf = true) (w4 : tag.size ≤ maxLen) (hr : Rds w) :
    Calls Tryd.prog 4 #[.string root, .int .i64 f, .slice a n c, .int .i64 i, .string tag] w fun e w' => e = .returned (.bool true) ∧ Below w.heap.size w w' := by
  obtain ⟨⟨t⟩⟩ := tag
  obtain ⟨⟨k⟩⟩ := root
  clear w0 w1 w3 w4
  cases hf : fewB l with
  | false => exact long _ f a n c l i t w w2 hr (.inl hf)
  | true =>
    by_cases ht : (1000 : Int) < (t.length : Int)
    · exact long _ f a n c l i t w w2 hr (.inr ⟨hf, ht⟩)
    · by_cases ho : okR k f (recs l)
      · by_cases hi : i < 0
        · exact ChnB.out k f a n c l i t w w2 hr hf ht ho (.inl hi)
        · by_cases hi2 : (n : Int) ≤ i
          · exact ChnB.out k f a n c l i t w w2 hr hf ht ho (.inr ⟨hi, hi2⟩)
          · obtain ⟨j, rfl⟩ := Int.eq_ofNat_of_zero_le (show 0 ≤ i by omega)
            have hj : j < n := by omega
            have hlen : (sealR k f [] (recs l)).length = n := by rw [seal_len, recs_len, w2.1]; simp
            by_cases hq : t = ((sealR k f [] (recs l))[j]'(by omega)).2
            · exact ChnB.same_ k f a n c l t w w2 hr hf ht ho j hj (fun _ => hq)
            · exact ChnB.turned k f a n c l t w w2 hr hf ht ho j hj (fun _ => hq)
      · exact ChnB.no k f a n c l i t w w2 hr hf ht ho
theorem own : ownKnob Tryd.prog.godebug = none := by kernel_rfl
theorem laidOut : laidOutB Tryd.prog = true := by kernel_rfl
set_option maxRecDepth 100000 in
theorem lifted (os : Os) (started : os.Started) (H : Type) (enc : TypeId × Value → H) :
    ReturnsInHanded {} Tryd.checked os 4 .any (fun w args => (Rows.chainSealsSpec.pre enc Tryd.prog Tryd.f4 Rows.chainSealsRow.domain false w args ∧ laidMetH Tryd.prog Rows.chainSealsRow.laid w) ∧ sizedMet enc Tryd.prog Tryd.f4 (OpenSpec.ofChange Rows.chainSealsSpec) false w args) (Rows.chainSealsSpec.post enc Tryd.prog Tryd.f4 false true false false) := by
  refine returnsInHanded_of_change_and (C := Tryd.checked) (X := fun w _ => laidMetH Tryd.prog Rows.chainSealsRow.laid w) (fun _ _ _ hh h => h.of_heap hh) own started (by kernel_rfl) Tryd.func4
    (ChangeSpec.witness_shaped (enc := enc) (C := Tryd.checked) (os := os) (X := fun w _ => laidMetH Tryd.prog Rows.chainSealsRow.laid w) false (World.doorLaid Tryd.prog 400 os) #[.string ByteArray.empty, .int .i64 0, .slice none 0 0, .int .i64 0, .string ByteArray.empty] 8 rfl (World.shaped_of_RefB (by kernel_rfl) (by kernel_rfl)) (by kernel_rfl) (by kernel_rfl) (by kernel_rfl) (SLaid.door_met os _)) ?_
  intro W base args ds gs before hval0 hW _ hZ hL _
  have hr := SLaid.of_laid hL
  have hval : ∀ (j : Nat) t v, Tryd.f4.params[j]? = some t → args[j]? = some v → Value.okWide Tryd.prog W .any base t v := hval0
  have hW' := hW
  obtain ⟨p, q, hA0, hV, rfl, hfz, hnd⟩ := hW
  have hA : DataW.TrodAll enc Tryd.prog W 0 (fun _ => true) true Tryd.f4.params.toList args.toList ds p := hA0
  rw [Tryd.params4] at hA hval
  obtain ⟨v0, vs0, d0, ds0, p0, q0, hargs, rfl, rfl, h0, r0⟩ := trodAll_cons hA
  obtain ⟨v1, vs1, d1, ds1, p1, q1, rfl, rfl, rfl, h1, r1⟩ := trodAll_cons r0
  obtain ⟨v2, vs2, d2, ds2, p2, q2, rfl, rfl, rfl, h2, r2⟩ := trodAll_cons r1
  obtain ⟨v3, vs3, d3, ds3, p3, q3, rfl, rfl, rfl, h3, r3⟩ := trodAll_cons r2
  obtain ⟨v4, vs4, d4, ds4, p4, q4, rfl, rfl, rfl, h4, r4⟩ := trodAll_cons r3
  obtain ⟨rfl, rfl, rfl⟩ := trodAll_nil r4
  obtain rfl : args = #[v0, v1, v2, v3, v4] := by cases args; simp_all
  obtain ⟨rfl, rfl⟩ := trodVars_none hV
  obtain ⟨a0, rfl, rfl, rfl, w0⟩ := open_string Tryd.underlying9 (hval 0 9 v0 rfl rfl) h0
  obtain ⟨a1, rfl, rfl, rfl, w1⟩ := open_int Tryd.underlying3 (hval 1 3 v1 rfl rfl) h1
  have k2 := h2
  have lt2 : ∀ x ∈ p2, x.block < W.heap.size := by obtain ⟨m, hm⟩ := k2; exact DataW.trod_lt m _ _ _ hm
  obtain ⟨b2, len2, ca2, rfl⟩ := okWide_slice Tryd.underlying34 (hval 2 34 v2 rfl rfl)
  obtain ⟨a2, n2, cap2, z2, he2, w2⟩ := ChnD.open_sds h2
  simp only [Value.cells, List.cons.injEq, Value.slice.injEq, and_true] at he2
  obtain ⟨rfl, rfl, rfl⟩ := he2
  obtain ⟨a3, rfl, rfl, rfl, w3⟩ := open_int Tryd.underlying3 (hval 3 3 v3 rfl rfl) h3
  obtain ⟨a4, rfl, rfl, rfl, w4⟩ := open_string Tryd.underlying9 (hval 4 9 v4 rfl rfl) h4
  clear hA0 hval0
  refine (walk a0 a1 b2 len2 ca2 z2 a3 a4 W w0 w1 w2 w3 w4 hr).mono fun e W' ⟨he, bel⟩ => ?_
  subst he
  exact ⟨_, rfl, _, _, _, [], _, [], hW', trodAll_mk1 (shut_bool Tryd.underlying4 _), (trodAll_cons_mk (shut_string Tryd.underlying9 w0) (trodAll_cons_mk (shut_int Tryd.underlying3 w1) (trodAll_cons_mk (Below.trod laidOut (by kernel_rfl) (of_decide_eq_true (by kernel_rfl)) k2 bel lt2) (trodAll_cons_mk (shut_int Tryd.underlying3 w3) (trodAll_cons_mk (shut_string Tryd.underlying9 w4) trodAll_mk0))))), rfl, bel.frame _, fun h => by cases h⟩
theorem over : Rows.chainSealsRow.holds Tryd.pinned (OpenSpec.ofChange Rows.chainSealsSpec) :=
  OpenClaim.holds_of_wide 4 Tryd.f4 rfl rfl rfl rfl rfl rfl rfl ⟨rfl, rfl, rfl, rfl, rfl⟩ rfl rfl rfl rfl rfl (by kernel_rfl) Tryd.func4 (by kernel_rfl)
    (of_decide_eq_true (by kernel_rfl)) (by unfold Func.isWrapper; first | (rw [if_pos (by decide +kernel)]; kernel_rfl) | (rw [if_neg (by decide +kernel)]; exact ⟨rfl, rfl⟩))
    (fun os started H enc _ => lifted os started H enc)
/-- THE STATEMENT, proved. -/
theorem proved : Rows.ChainSealsCardSaid :=
  Claim7.holds_tied_plain_at .later [] _ true _ false
    over (fun _ h => by cases h) (by kernel_rfl) (fun _ h => by cases h) chainSeals_row_tie rfl ⟨rfl, rfl⟩ (by kernel_rfl) rfl
    (fun f fn hf hfn => by
      obtain rfl : f = 4 := Option.some.inj ((show Tryd.prog.funcNamed "keepsake/keepsakelaw20.ChainSeals" = some 4 by kernel_rfl).symm.trans hf) |>.symm
      obtain rfl : fn = Tryd.f4 := (Option.some.inj (Tryd.func4.symm.trans hfn)).symm
      exact ⟨by kernel_rfl, fun j t ht => by
        rw [Tryd.params4] at ht
        have hm : t ∈ [9, 3, 34, 3, 9] := by simpa using Array.mem_of_getElem? ht
        have hall : ([9, 3, 34, 3, 9].all fun u => !Tryd.prog.wantsStandIn u) = true := by kernel_rfl
        exact (show Tryd.prog.wantsStandIn t = false by simpa using List.all_eq_true.1 hall t hm)⟩)
    (by kernel_rfl)
#print axioms proved
end Go.Proofs.YtjcfgedldpnpjaaDoor.chainSeals
