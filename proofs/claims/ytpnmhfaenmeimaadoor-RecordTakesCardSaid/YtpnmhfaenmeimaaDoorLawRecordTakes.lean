/- RecordTakes: at any text of at most 2^47 bytes, with which record it begins, and what is behind it, or that there is none, is what the document says. The condition: the table of tens lies in its variable (the card ties it to the program's text). -/
import Derived.Test.YtpnmhfaenmeimaaDoorRecU
import Derived.Test.YtpnmhfaenmeimaaDoorRecX
import Derived.Test.YtpnmhfaenmeimaaDoorRecF
import Derived.Test.YtpnmhfaenmeimaaDoorRows
import Derived.Test.YtpnmhfaenmeimaaDoorTie
import Derived.Test.YtpnmhfaenmeimaaDoorCards
import Derived.Test.YtpnmhfaenmeimaaDoorRecL
import Derived.WalkKit
import Derived.ProofKit
import Derived.OpenShut
import Derived.ShutString
import Derived.ChangeOld
import Derived.Below
import Derived.LaidMore
import Derived.SevenTiedAt
import Derived.Stop.Joined
namespace Go.Proofs.YtpnmhfaenmeimaaDoor.recordTakes
open Go.ChangeShapes Go.WideShapes Go.ChangeAt Go.RowKit
open Go.ChangeMaps (open_string shut_string)
set_option linter.unusedVariables false
open RecN RecC RecM RecL RecU
/-- What stands while the statement runs: what was stays, the table of tens. -/
structure Tn (w W : World) : Prop where
  bel : Below w.heap.size w W
  tens : Tens W
theorem Tn.step {w W W' : World} (h : Tn w W) (hb : Below W.heap.size W W') : Tn w W' := ⟨h.bel.trans (hb.mono h.bel.size), h.tens.step hb⟩
set_option maxRecDepth 100000 in
theorem long (s : List UInt8) (w : World) (ht : Tens w) (h : 10000 < s.length) :
    Calls Tryd.prog 4 #[.string ⟨s.toArray⟩] w fun r w' => r = .returned (.bool true) ∧ Below w.heap.size w w' := by
  have hz := size_mk s
  have HT := Lib.hid ht
  clear ht
  go_enter Tryd.func4, Tryd.ntmps4
  go_wp2_with (go_at_call 8; refine (RecF.alive _ HT.out).mono ?_; rintro r w7 ⟨rfl, hb⟩; have HE := Lib.hid hb; clear hb)
  go_ret
  exact ⟨rfl, HE.out⟩
set_option maxRecDepth 100000 in
set_option maxHeartbeats 2000000 in
theorem short (s : List UInt8) (q : Rec) (rest : List UInt8) (f : Int) (is : Bool) (w : World) (ht : Tens w) (h : ¬ 10000 < s.length)
    (hq : take_ s = (q, rest, is)) (hi : decide (took s) = is) (hf : tc s = f) (h1 : (is = true ∧ f = 0) ∨ (is = false ∧ f = 3)) :
    Calls Tryd.prog 4 #[.string ⟨s.toArray⟩] w fun r w' => r = .returned (.bool true) ∧ Below w.heap.size w w' := by
  have hz := size_mk s
  have HT := Lib.hid (fun W => RecU.Take s W (by unfold maxLen; omega))
  have HU := Lib.hid (fun W => RecX.Take s W (by unfold maxLen; omega))
  rw [hq, hf] at HT
  rw [hq, hi] at HU
  dsimp only at HT HU
  have NN := Lib.hid (show Tn w w from ⟨Below.refl _ _, ht⟩)
  have heq := fun W => run_eql_rec W q q true (dt rfl)
  clear hq hi hf ht
  go_enter Tryd.func4, Tryd.ntmps4
  go_upto_region 3 with (fail)
  go_upto_region 4 with (first
    | (go_at_call 16; refine (HT.out _).mono ?_; rintro r w2 ⟨rfl, hb⟩; replace NN := Lib.hid (NN.out.step hb); clear hb)
    | (refine wpList_store_row rfl 23 _ _ rfl w2.heap.size _ rfl rfl 23 _ (heap_alloc_new w2 _) infoR rfl (one8 q) ?_))
  generalize hW3 : World.setRow (World.alloc w2 _) _ _ = W3
  replace NN : Hid (Tn w W3) := Lib.hid (by rw [← hW3]; exact NN.out.step (kept_new _ _ _ _))
  have K3 : Hid (Bk W3 w2.heap.size q) := Lib.hid (by rw [← hW3]; exact has_new _ _ _ _)
  clear hW3 HT
  generalize w2.heap.size = X at *
  go_upto_region 5 with (first
    | (go_at_call 17; refine (HU.out _).mono ?_; rintro r w4 ⟨rfl, hb⟩; replace NN := Lib.hid (NN.out.step hb); have K4 := Lib.hid (K3.out.step hb); clear hb)
    | (refine wpList_store_row rfl 23 _ _ rfl w4.heap.size _ rfl rfl 23 _ (heap_alloc_new w4 _) infoR rfl (one8 q) ?_))
  generalize hW5 : World.setRow (World.alloc w4 _) _ _ = W5
  replace NN : Hid (Tn w W5) := Lib.hid (by rw [← hW5]; exact NN.out.step (kept_new _ _ _ _))
  have K5 : Hid (Bk W5 X q) := Lib.hid (by rw [← hW5]; exact K4.out.step (kept_new _ _ _ _))
  have Y5 : Hid (Bk W5 w4.heap.size q) := Lib.hid (by rw [← hW5]; exact has_new _ _ _ _)
  clear hW5 K3 K4 HU
  generalize w4.heap.size = Y at *
  obtain ⟨x0, x1, x2, x3, x4, x5, x6, x7⟩ := K5.out.cells
  obtain ⟨y0, y1, y2, y3, y4, y5, y6, y7⟩ := Y5.out.cells
  rcases h1 with ⟨rfl, rfl⟩ | ⟨rfl, rfl⟩
  all_goals
    go_wp2_with (go_at_call 8; refine (RecF.alive _ NN.out.tens).mono ?_; rintro r wA ⟨rfl, hb⟩; replace NN := Lib.hid (NN.out.step hb); clear hb)
    go_ret
    exact ⟨rfl, NN.out.bel⟩
theorem walk (s : ByteArray) (w : World) (_h : s.size ≤ maxLen) (ht : Tens w) :
    Calls Tryd.prog 4 #[.string s] w fun r w' => r = .returned (.bool true) ∧ Below w.heap.size w w' := by
  obtain ⟨l, rfl⟩ : ∃ l : List UInt8, s = ⟨l.toArray⟩ := ⟨s.data.toList, rfl⟩
  by_cases h : 10000 < l.length
  · exact long l w ht h
  · by_cases hk : took l
    · exact short l _ _ 0 true w ht h (take_yes hk) (dt hk) (tc_yes hk) (.inl ⟨rfl, rfl⟩)
    · exact short l _ _ 3 false w ht h (take_no hk) (df hk) (tc_no hk) (.inr ⟨rfl, rfl⟩)
theorem own : ownKnob Tryd.prog.godebug = none := by kernel_rfl
theorem laidOut : laidOutB Tryd.prog = true := by kernel_rfl
set_option maxRecDepth 100000 in
theorem lifted (os : Os) (started : os.Started) (H : Type) (enc : TypeId × Value → H) :
    ReturnsInHanded {} Tryd.checked os 4 .any (fun w args => (Rows.recordTakesSpec.pre enc Tryd.prog Tryd.f4 Rows.recordTakesRow.domain false w args ∧ laidMetH Tryd.prog Rows.recordTakesRow.laid w) ∧ sizedMet enc Tryd.prog Tryd.f4 (OpenSpec.ofChange Rows.recordTakesSpec) false w args) (Rows.recordTakesSpec.post enc Tryd.prog Tryd.f4 false true false false) := by
  refine returnsInHanded_of_change_and (C := Tryd.checked) (X := fun w _ => laidMetH Tryd.prog Rows.recordTakesRow.laid w) (fun _ _ _ hh h => h.of_heap hh) own started (by kernel_rfl) Tryd.func4
    (ChangeSpec.witness_shaped (enc := enc) (C := Tryd.checked) (os := os) (X := fun w _ => laidMetH Tryd.prog Rows.recordTakesRow.laid w) false (World.doorLaid Tryd.prog 400 os) #[.string ByteArray.empty] 8 rfl (World.shaped_of_RefB (by kernel_rfl) (by kernel_rfl)) (by kernel_rfl) (by kernel_rfl) (by kernel_rfl) (RecL.door_met os _)) ?_
  intro W base args ds gs before hval0 hW _ hZ hL _
  have hr := RecL.of_laid hL
  have hval : ∀ (j : Nat) t v, Tryd.f4.params[j]? = some t → args[j]? = some v → Value.okWide Tryd.prog W .any base t v := hval0
  have hW' := hW
  obtain ⟨p, q, hA0, hV, rfl, hfz, hnd⟩ := hW
  have hA : DataW.TrodAll enc Tryd.prog W 0 (fun _ => true) true Tryd.f4.params.toList args.toList ds p := hA0
  rw [Tryd.params4] at hA hval
  obtain ⟨v0, vs0, d0, ds0, p0, q0, hargs, rfl, rfl, h0, r0⟩ := trodAll_cons hA
  obtain ⟨rfl, rfl, rfl⟩ := trodAll_nil r0
  obtain rfl : args = #[v0] := by cases args; simp_all
  obtain ⟨rfl, rfl⟩ := trodVars_none hV
  obtain ⟨a0, rfl, rfl, rfl, w0⟩ := open_string Tryd.underlying9 (hval 0 9 v0 rfl rfl) h0
  clear hA0 hval0
  refine (walk a0 W w0 hr).mono fun e W' ⟨he, bel⟩ => ?_
  subst he
  exact ⟨_, rfl, _, _, _, [], _, [], hW', trodAll_mk1 (shut_bool Tryd.underlying4 _), (trodAll_cons_mk (shut_string Tryd.underlying9 w0) trodAll_mk0), rfl, bel.frame _, fun h => by cases h⟩
theorem over : Rows.recordTakesRow.holds Tryd.pinned (OpenSpec.ofChange Rows.recordTakesSpec) :=
  OpenClaim.holds_of_wide 4 Tryd.f4 rfl rfl rfl rfl rfl rfl rfl ⟨rfl, rfl, rfl, rfl, rfl⟩ rfl rfl rfl rfl rfl (by kernel_rfl) Tryd.func4 (by kernel_rfl)
    (of_decide_eq_true (by kernel_rfl)) (by unfold Func.isWrapper; first | (rw [if_pos (by decide +kernel)]; kernel_rfl) | (rw [if_neg (by decide +kernel)]; exact ⟨rfl, rfl⟩))
    (fun os started H enc _ => lifted os started H enc)
/-- THE STATEMENT, proved. -/
theorem proved : Rows.RecordTakesCardSaid :=
  Claim7.holds_tied_plain_at .later [] _ true _ false
    over (fun _ h => by cases h) (by kernel_rfl) (fun _ h => by cases h) recordTakes_row_tie rfl ⟨rfl, rfl⟩ (by kernel_rfl) rfl
    (fun f fn hf hfn => by
      obtain rfl : f = 4 := Option.some.inj ((show Tryd.prog.funcNamed "keepsake/keepsakelaw19.RecordTakes" = some 4 by kernel_rfl).symm.trans hf) |>.symm
      obtain rfl : fn = Tryd.f4 := (Option.some.inj (Tryd.func4.symm.trans hfn)).symm
      exact ⟨by kernel_rfl, fun j t ht => by
        rw [Tryd.params4] at ht
        have hm : t ∈ [9] := by simpa using Array.mem_of_getElem? ht
        have hall : ([9].all fun u => !Tryd.prog.wantsStandIn u) = true := by kernel_rfl
        exact (show Tryd.prog.wantsStandIn t = false by simpa using List.all_eq_true.1 hall t hm)⟩)
    (by kernel_rfl)
#print axioms proved
end Go.Proofs.YtpnmhfaenmeimaaDoor.recordTakes
