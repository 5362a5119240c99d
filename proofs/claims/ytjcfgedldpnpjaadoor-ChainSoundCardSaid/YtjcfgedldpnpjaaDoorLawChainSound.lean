/- ChainSound: at any root, any first epoch, any two rows of sealed records of so few bytes as the statement goes through (else: the chapter's example alone) and any epoch, where both rows are right by Check and have closed all epochs below that one, they have the same records of these epochs with the same tags, or Forge tells a message and its tag under the key of such an epoch, and none that is said of the first row's records is it. The condition: the rounds' numbers lie in the program's variable (the card ties it to the program's text). -/
import Derived.Test.YtjcfgedldpnpjaaDoorChnJ
import Derived.Test.YtjcfgedldpnpjaaDoorRows
import Derived.Test.YtjcfgedldpnpjaaDoorTie
import Derived.Test.YtjcfgedldpnpjaaDoorCards
import Derived.Test.YtjcfgedldpnpjaaDoorSLaid
import Derived.WalkKit
import Derived.ProofKit
import Derived.OpenShut
import Derived.ShutString
import Derived.ChangeOld
import Derived.Below
import Derived.LaidMore
import Derived.SevenTiedAt
import Derived.Stop.Joined
namespace Go.Proofs.YtjcfgedldpnpjaaDoor.chainSound
open Go.ChangeShapes Go.WideShapes Go.ChangeAt Go.RowKit
open Go.ChangeMaps (open_string shut_string)
set_option linter.unusedVariables false
open RecN RecC STurn SSum ChnN ChnM ChnC ChnD ChnE ChnG ChnK
set_option maxRecDepth 100000 in
theorem long (root : List UInt8) (f : Int) (a : Option Addr) (n c : Nat) (M : List Sd) (b : Option Addr) (m d : Nat) (T : List Sd) (bl : Int) (w : World) (hM : Came w a n c M) (hT : Came w b m d T) (hr : Rds w) (h : fewB M = false ∨ (fewB M = true ∧ fewB T = false)) :
    Calls Tryd.prog 5 #[.string ⟨root.toArray⟩, .int .i64 f, .slice a n c, .slice b m d, .int .i64 bl] w fun e w' => e = .returned (.bool true) ∧ Below w.heap.size w w' := by
  have F1 : Hid True := Lib.hid trivial
  have FA := Lib.hid (Few a n c M w hM.2.2.2.2 hM.1 hM.2.1 hM.2.2.2.1)
  have FB := Lib.hid (fun W (hb : Below w.heap.size w W) => Few b m d T W (hT.2.2.2.2.step hb) hT.1 hT.2.1 hT.2.2.2.1)
  have HR := Lib.hid hr
  clear hr hM hT
  rcases h with h | ⟨h, h2⟩
  · rw [h] at FA
    clear h FB
    go_enter Tryd.func5, Tryd.ntmps5
    go_wp2_with (first
      | (go_at_call 13; refine FA.out.mono ?_; rintro e w2 ⟨rfl, hb⟩; have B := Lib.hid hb; clear hb)
      | (go_at_call 8; refine (ChnY.alive _ (HR.out.step B.out)).mono ?_; rintro e w3 ⟨rfl, hb⟩; replace B := Lib.hid (B.out.trans (hb.mono B.out.size)); clear hb))
    go_ret
    exact ⟨rfl, B.out⟩
  · rw [h] at FA
    rw [h2] at FB
    clear h h2
    go_enter Tryd.func5, Tryd.ntmps5
    go_wp2_with (first
      | (clear F1; go_at_call 13; refine FA.out.mono ?_; rintro e w2 ⟨rfl, hb⟩; have B := Lib.hid hb; clear hb FA)
      | (go_at_call 13; refine (FB.out _ B.out).mono ?_; rintro e w3 ⟨rfl, hb⟩; replace B := Lib.hid (B.out.trans (hb.mono B.out.size)); clear hb FB)
      | (go_at_call 8; refine (ChnY.alive _ (HR.out.step B.out)).mono ?_; rintro e w4 ⟨rfl, hb⟩; replace B := Lib.hid (B.out.trans (hb.mono B.out.size)); clear hb))
    go_ret
    exact ⟨rfl, B.out⟩
set_option maxRecDepth 100000 in
set_option maxHeartbeats 2000000 in
theorem early (root : List UInt8) (f : Int) (a : Option Addr) (n c : Nat) (M : List Sd) (b : Option Addr) (m d : Nat) (T : List Sd) (bl : Int) (w : World) (hM : Came w a n c M) (hT : Came w b m d T) (hr : Rds w) (fM : fewB M = true) (fT : fewB T = true)
    (x1 x2 x3 y1 y2 y3 : Int) (hx : checkR root f M = (x1, x2, x3)) (hy : checkR root f T = (y1, y2, y3)) (h : (x3 != 0) = true ∨ ((x3 != 0) = false ∧ (y3 != 0) = true) ∨ ((x3 != 0) = false ∧ (y3 != 0) = false ∧ x1 < bl) ∨ ((x3 != 0) = false ∧ (y3 != 0) = false ∧ ¬ x1 < bl ∧ y1 < bl)) :
    Calls Tryd.prog 5 #[.string ⟨root.toArray⟩, .int .i64 f, .slice a n c, .slice b m d, .int .i64 bl] w fun e w' => e = .returned (.bool true) ∧ Below w.heap.size w w' := by
  have F1 : Hid True := Lib.hid trivial
  have F2 : Hid True := Lib.hid trivial
  obtain ⟨hn60, _⟩ := few_in fM
  obtain ⟨hm60, _⟩ := few_in fT
  rw [hM.1] at hn60
  rw [hT.1] at hm60
  have FA := Lib.hid (Few a n c M w hM.2.2.2.2 hM.1 hM.2.1 hM.2.2.2.1)
  have FB := Lib.hid (fun W (hb : Below w.heap.size w W) => Few b m d T W (hT.2.2.2.2.step hb) hT.1 hT.2.1 hT.2.2.2.1)
  rw [fM] at FA
  rw [fT] at FB
  have CA := Lib.hid (fun W (hb : Below w.heap.size w W) => ChnV.Check root f a n c M W (hM.2.2.2.2.step hb) hM.1 (by omega) (hr.step hb))
  have CB := Lib.hid (fun W (hb : Below w.heap.size w W) => ChnV.Check root f b m d T W (hT.2.2.2.2.step hb) hT.1 (by omega) (hr.step hb))
  rw [hx] at CA
  rw [hy] at CB
  have HR := Lib.hid hr
  clear hr hM hT fM fT hx hy
  rcases h with h | ⟨h, h2⟩ | ⟨h, h2, h3⟩ | ⟨h, h2, h3, h4⟩
  all_goals
    go_enter Tryd.func5, Tryd.ntmps5
    go_wp2_with (first
      | (clear F1; go_at_call 13; refine FA.out.mono ?_; rintro e w2 ⟨rfl, hb⟩; have B := Lib.hid hb; clear hb FA)
      | (go_at_call 13; refine (FB.out _ B.out).mono ?_; rintro e w3 ⟨rfl, hb⟩; replace B := Lib.hid (B.out.trans (hb.mono B.out.size)); clear hb FB)
      | (clear F2; go_at_call 16; refine (CA.out _ B.out).mono ?_; rintro e w4 ⟨rfl, hb⟩; replace B := Lib.hid (B.out.trans (hb.mono B.out.size)); clear hb CA)
      | (go_at_call 16; refine (CB.out _ B.out).mono ?_; rintro e w5 ⟨rfl, hb⟩; replace B := Lib.hid (B.out.trans (hb.mono B.out.size)); clear hb CB)
      | (go_at_call 8; refine (ChnY.alive _ (HR.out.step B.out)).mono ?_; rintro e w6 ⟨rfl, hb⟩; replace B := Lib.hid (B.out.trans (hb.mono B.out.size)); clear hb))
    go_ret
    exact ⟨rfl, B.out⟩
theorem walk (root : ByteArray) (f : Int) (a : Option Addr) (n c : Nat) (M : List Sd) (b : Option Addr) (m d : Nat) (T : List Sd) (bl : Int) (w : World) (w0 : root.size ≤ maxLen) (w1 : (Lit.int .i64 f).wf = true) (w2 : Came w a n c M) (w3 : Came w b m d T) (w4 : (Lit.int .i64 bl).wf = true) (hr : Rds w) :
    Calls Tryd.prog 5 #[.string root, .int .i64 f, .slice a n c, .slice b m d, .int .i64 bl] w fun e w' => e = .returned (.bool true) ∧ Below w.heap.size w w' := by
  have hf := (bounds_i64 w1).2
  obtain ⟨⟨k⟩⟩ := root
  clear w0 w1 w4
  cases fM : fewB M with
  | false => exact long k f a n c M b m d T bl w w2 w3 hr (.inl fM)
  | true =>
    cases fT : fewB T with
    | false => exact long k f a n c M b m d T bl w w2 w3 hr (.inr ⟨fM, fT⟩)
    | true =>
      obtain ⟨⟨x1, x2, x3⟩, hx⟩ : ∃ z, checkR k f M = z := ⟨_, rfl⟩
      obtain ⟨⟨y1, y2, y3⟩, hy⟩ : ∃ z, checkR k f T = z := ⟨_, rfl⟩
      have E := early k f a n c M b m d T bl w w2 w3 hr fM fT x1 x2 x3 y1 y2 y3 hx hy
      by_cases h1 : x3 = 0
      · by_cases h2 : y3 = 0
        · have e1 : (x3 != 0) = false := by simp [h1]
          have e2 : (y3 != 0) = false := by simp [h2]
          by_cases h3 : x1 < bl
          · exact E (.inr (.inr (.inl ⟨e1, e2, h3⟩)))
          · by_cases h4 : y1 < bl
            · exact E (.inr (.inr (.inr ⟨e1, e2, h3, h4⟩)))
            · obtain ⟨oM, tM⟩ := check_zero (root := k) (f := f) (s := M) (by rw [hx]; exact h1)
              obtain ⟨oT, tT⟩ := check_zero (root := k) (f := f) (s := T) (by rw [hy]; exact h2)
              have gM := check_good oM tM
              have gT := check_good oT tT
              rw [hx] at gM
              rw [hy] at gT
              have xM : x1 = opn f (recs M) := (Prod.mk.inj gM).1
              have xT : y1 = opn f (recs T) := (Prod.mk.inj gT).1
              exact ChnJ.main k f a n c M b m d T bl w hf w2 w3 hr fM fT oM tM oT tT (by omega) (by omega)
        · exact E (.inr (.inl ⟨by simp [h1], by simpa using h2⟩))
      · exact E (.inl (by simpa using h1))
theorem own : ownKnob Tryd.prog.godebug = none := by kernel_rfl
theorem laidOut : laidOutB Tryd.prog = true := by kernel_rfl
set_option maxRecDepth 100000 in
theorem lifted (os : Os) (started : os.Started) (H : Type) (enc : TypeId × Value → H) :
    ReturnsInHanded {} Tryd.checked os 5 .any (fun w args => (Rows.chainSoundSpec.pre enc Tryd.prog Tryd.f5 Rows.chainSoundRow.domain false w args ∧ laidMetH Tryd.prog Rows.chainSoundRow.laid w) ∧ sizedMet enc Tryd.prog Tryd.f5 (OpenSpec.ofChange Rows.chainSoundSpec) false w args) (Rows.chainSoundSpec.post enc Tryd.prog Tryd.f5 false true false false) := by
  refine returnsInHanded_of_change_and (C := Tryd.checked) (X := fun w _ => laidMetH Tryd.prog Rows.chainSoundRow.laid w) (fun _ _ _ hh h => h.of_heap hh) own started (by kernel_rfl) Tryd.func5
    (ChangeSpec.witness_shaped (enc := enc) (C := Tryd.checked) (os := os) (X := fun w _ => laidMetH Tryd.prog Rows.chainSoundRow.laid w) false (World.doorLaid Tryd.prog 400 os) #[.string ByteArray.empty, .int .i64 0, .slice none 0 0, .slice none 0 0, .int .i64 0] 8 rfl (World.shaped_of_RefB (by kernel_rfl) (by kernel_rfl)) (by kernel_rfl) (by kernel_rfl) (by kernel_rfl) (SLaid.door_met os _)) ?_
  intro W base args ds gs before hval0 hW _ hZ hL _
  have hr := SLaid.of_laid hL
  have hval : ∀ (j : Nat) t v, Tryd.f5.params[j]? = some t → args[j]? = some v → Value.okWide Tryd.prog W .any base t v := hval0
  have hW' := hW
  obtain ⟨p, q, hA0, hV, rfl, hfz, hnd⟩ := hW
  have hA : DataW.TrodAll enc Tryd.prog W 0 (fun _ => true) true Tryd.f5.params.toList args.toList ds p := hA0
  rw [Tryd.params5] at hA hval
  obtain ⟨v0, vs0, d0, ds0, p0, q0, hargs, rfl, rfl, h0, r0⟩ := trodAll_cons hA
  obtain ⟨v1, vs1, d1, ds1, p1, q1, rfl, rfl, rfl, h1, r1⟩ := trodAll_cons r0
  obtain ⟨v2, vs2, d2, ds2, p2, q2, rfl, rfl, rfl, h2, r2⟩ := trodAll_cons r1
  obtain ⟨v3, vs3, d3, ds3, p3, q3, rfl, rfl, rfl, h3, r3⟩ := trodAll_cons r2
  obtain ⟨v4, vs4, d4, ds4, p4, q4, rfl, rfl, rfl, h4, r4⟩ := trodAll_cons r3
  obtain ⟨rfl, rfl, rfl⟩ := trodAll_nil r4
  obtain rfl : args = #[v0, v1, v2, v3, v4] := by cases args; simp_all
  obtain ⟨rfl, rfl⟩ := trodVars_none hV
  obtain ⟨a0, rfl, rfl, rfl, w0⟩ := open_string Tryd.underlying9 (hval 0 9 v0 rfl rfl) h0
  obtain ⟨a1, rfl, rfl, rfl, w1⟩ := open_int Tryd.underlying3 (hval 1 3 v1 rfl rfl) h1
  have k2 := h2
  have lt2 : ∀ x ∈ p2, x.block < W.heap.size := by obtain ⟨m, hm⟩ := k2; exact DataW.trod_lt m _ _ _ hm
  obtain ⟨b2, len2, ca2, rfl⟩ := okWide_slice Tryd.underlying34 (hval 2 34 v2 rfl rfl)
  obtain ⟨a2, n2, cap2, z2, he2, w2⟩ := ChnD.open_sds h2
  simp only [Value.cells, List.cons.injEq, Value.slice.injEq, and_true] at he2
  obtain ⟨rfl, rfl, rfl⟩ := he2
  have k3 := h3
  have lt3 : ∀ x ∈ p3, x.block < W.heap.size := by obtain ⟨m, hm⟩ := k3; exact DataW.trod_lt m _ _ _ hm
  obtain ⟨b3, len3, ca3, rfl⟩ := okWide_slice Tryd.underlying34 (hval 3 34 v3 rfl rfl)
  obtain ⟨a3, n3, cap3, z3, he3, w3⟩ := ChnD.open_sds h3
  simp only [Value.cells, List.cons.injEq, Value.slice.injEq, and_true] at he3
  obtain ⟨rfl, rfl, rfl⟩ := he3
  obtain ⟨a4, rfl, rfl, rfl, w4⟩ := open_int Tryd.underlying3 (hval 4 3 v4 rfl rfl) h4
  clear hA0 hval0
  refine (walk a0 a1 b2 len2 ca2 z2 b3 len3 ca3 z3 a4 W w0 w1 w2 w3 w4 hr).mono fun e W' ⟨he, bel⟩ => ?_
  subst he
  exact ⟨_, rfl, _, _, _, [], _, [], hW', trodAll_mk1 (shut_bool Tryd.underlying4 _), (trodAll_cons_mk (shut_string Tryd.underlying9 w0) (trodAll_cons_mk (shut_int Tryd.underlying3 w1) (trodAll_cons_mk (Below.trod laidOut (by kernel_rfl) (of_decide_eq_true (by kernel_rfl)) k2 bel lt2) (trodAll_cons_mk (Below.trod laidOut (by kernel_rfl) (of_decide_eq_true (by kernel_rfl)) k3 bel lt3) (trodAll_cons_mk (shut_int Tryd.underlying3 w4) trodAll_mk0))))), rfl, bel.frame _, fun h => by cases h⟩
theorem over : Rows.chainSoundRow.holds Tryd.pinned (OpenSpec.ofChange Rows.chainSoundSpec) :=
  OpenClaim.holds_of_wide 5 Tryd.f5 rfl rfl rfl rfl rfl rfl rfl ⟨rfl, rfl, rfl, rfl, rfl⟩ rfl rfl rfl rfl rfl (by kernel_rfl) Tryd.func5 (by kernel_rfl)
    (of_decide_eq_true (by kernel_rfl)) (by unfold Func.isWrapper; first | (rw [if_pos (by decide +kernel)]; kernel_rfl) | (rw [if_neg (by decide +kernel)]; exact ⟨rfl, rfl⟩))
    (fun os started H enc _ => lifted os started H enc)
/-- THE STATEMENT, proved. -/
theorem proved : Rows.ChainSoundCardSaid :=
  Claim7.holds_tied_plain_at .later [] _ true _ false
    over (fun _ h => by cases h) (by kernel_rfl) (fun _ h => by cases h) chainSound_row_tie rfl ⟨rfl, rfl⟩ (by kernel_rfl) rfl
    (fun f fn hf hfn => by
      obtain rfl : f = 5 := Option.some.inj ((show Tryd.prog.funcNamed "keepsake/keepsakelaw20.ChainSound" = some 5 by kernel_rfl).symm.trans hf) |>.symm
      obtain rfl : fn = Tryd.f5 := (Option.some.inj (Tryd.func5.symm.trans hfn)).symm
      exact ⟨by kernel_rfl, fun j t ht => by
        rw [Tryd.params5] at ht
        have hm : t ∈ [9, 3, 34, 34, 3] := by simpa using Array.mem_of_getElem? ht
        have hall : ([9, 3, 34, 34, 3].all fun u => !Tryd.prog.wantsStandIn u) = true := by kernel_rfl
        exact (show Tryd.prog.wantsStandIn t = false by simpa using List.all_eq_true.1 hall t hm)⟩)
    (by kernel_rfl)
#print axioms proved
end Go.Proofs.YtjcfgedldpnpjaaDoor.chainSound
