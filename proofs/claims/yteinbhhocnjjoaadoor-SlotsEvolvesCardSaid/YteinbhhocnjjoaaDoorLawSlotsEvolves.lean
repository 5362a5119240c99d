/- SlotsEvolves: at any three texts of at most 2^47 bytes and any number, what both blocks become, or that they do not, is the document's. The condition: the rounds' numbers lie in the program's variable (the card ties it to the program's text). -/
import Derived.Test.YteinbhhocnjjoaaDoorSloY
import Derived.Test.YteinbhhocnjjoaaDoorSloR
import Derived.Test.YteinbhhocnjjoaaDoorRows
import Derived.Test.YteinbhhocnjjoaaDoorTie
import Derived.Test.YteinbhhocnjjoaaDoorCards
import Derived.Test.YteinbhhocnjjoaaDoorSLaid
import Derived.WalkKit
import Derived.ProofKit
import Derived.OpenShut
import Derived.ShutString
import Derived.ChangeOld
import Derived.Below
import Derived.LaidMore
import Derived.SevenTiedAt
import Derived.Stop.Joined
namespace Go.Proofs.YteinbhhocnjjoaaDoor.slotsEvolves
open Go.ChangeShapes Go.WideShapes Go.ChangeAt Go.RowKit
open Go.ChangeMaps (open_string shut_string)
set_option linter.unusedVariables false
open SloN SloC STurn SloY
set_option maxRecDepth 100000 in
theorem long (e : Int) (a b k : List UInt8) (w : World) (hr : Rds w) (h : 10000 < a.length ∨ (¬ 10000 < a.length ∧ 10000 < b.length) ∨ (¬ 10000 < a.length ∧ ¬ 10000 < b.length ∧ 10000 < k.length)) :
    Calls Tryd.prog 5 #[.string ⟨a.toArray⟩, .string ⟨b.toArray⟩, .int .i64 e, .string ⟨k.toArray⟩] w fun r w' => r = .returned (.bool true) ∧ Below w.heap.size w w' := by
  have hza := size_mk a
  have hzb := size_mk b
  have hzk := size_mk k
  have GG := Lib.hid hr
  clear hr
  go_enter Tryd.func5, Tryd.ntmps5
  rcases h with h | ⟨h1, h⟩ | ⟨h1, h2, h⟩
  all_goals
    go_wp2_with (go_at_call 7; refine (SloY.alive _ GG.out).mono ?_; rintro r w7 ⟨rfl, hb⟩; have HE := Lib.hid hb; clear hb)
    go_ret
    exact ⟨rfl, HE.out⟩
set_option maxRecDepth 100000 in
set_option maxHeartbeats 2000000 in
theorem short (e c : Int) (a b k x y : List UInt8) (w : World) (hr : Rds w) (h1 : ¬ 10000 < a.length) (h2 : ¬ 10000 < b.length) (h3 : ¬ 10000 < k.length) (hp : evolve a b e k = (x, y, c)) :
    Calls Tryd.prog 5 #[.string ⟨a.toArray⟩, .string ⟨b.toArray⟩, .int .i64 e, .string ⟨k.toArray⟩] w fun r w' => r = .returned (.bool true) ∧ Below w.heap.size w w' := by
  have hza := size_mk a
  have hzb := size_mk b
  have hzk := size_mk k
  have SS : Hid (Sx w w) := Lib.hid ⟨Below.refl _ _, hr⟩
  have HP := Lib.hid (fun W h => SloV.Evolve a b k e W h)
  have HQ := Lib.hid (fun W => SloR.Evolve a b k e W)
  rw [hp] at HP HQ
  clear hr hp
  go_enter Tryd.func5, Tryd.ntmps5
  go_upto_region 3 with (fail)
  go_upto_region 4 with (go_at_call 19; refine (HP.out _ SS.out.gl).mono ?_; rintro r w1 ⟨rfl, hb⟩; replace SS := Lib.hid (SS.out.step hb); clear hb)
  clear HP
  go_upto_region 5 with (go_at_call 20; refine (HQ.out _).mono ?_; rintro r w2 ⟨rfl, hb⟩; replace SS := Lib.hid (SS.out.step hb); clear hb)
  clear HQ
  go_wp2_with (go_at_call 7; refine (SloY.alive _ SS.out.gl).mono ?_; rintro r w8 ⟨rfl, hb⟩; replace SS := Lib.hid (SS.out.step hb); clear hb)
  go_ret
  exact ⟨rfl, SS.out.bel⟩
theorem walk (ta tb : ByteArray) (e : Int) (tk : ByteArray) (w : World) (wa : ta.size ≤ maxLen) (wb : tb.size ≤ maxLen) (we : (Lit.int .i64 e).wf = true) (wk : tk.size ≤ maxLen) (hr : Rds w) :
    Calls Tryd.prog 5 #[.string ta, .string tb, .int .i64 e, .string tk] w fun r w' => r = .returned (.bool true) ∧ Below w.heap.size w w' := by
  obtain ⟨⟨a⟩⟩ := ta
  obtain ⟨⟨b⟩⟩ := tb
  obtain ⟨⟨k⟩⟩ := tk
  by_cases h1 : 10000 < a.length
  · exact long e a b k w hr (.inl h1)
  · by_cases h2 : 10000 < b.length
    · exact long e a b k w hr (.inr (.inl ⟨h1, h2⟩))
    · by_cases h3 : 10000 < k.length
      · exact long e a b k w hr (.inr (.inr ⟨h1, h2, h3⟩))
      · obtain ⟨x, y, c, hp⟩ : ∃ x y c, evolve a b e k = (x, y, c) := ⟨_, _, _, rfl⟩
        exact short e c a b k x y w hr h1 h2 h3 hp
theorem own : ownKnob Tryd.prog.godebug = none := by kernel_rfl
theorem laidOut : laidOutB Tryd.prog = true := by kernel_rfl
set_option maxRecDepth 100000 in
theorem lifted (os : Os) (started : os.Started) (H : Type) (enc : TypeId × Value → H) :
    ReturnsInHanded {} Tryd.checked os 5 .any (fun w args => (Rows.slotsEvolvesSpec.pre enc Tryd.prog Tryd.f5 Rows.slotsEvolvesRow.domain false w args ∧ laidMetH Tryd.prog Rows.slotsEvolvesRow.laid w) ∧ sizedMet enc Tryd.prog Tryd.f5 (OpenSpec.ofChange Rows.slotsEvolvesSpec) false w args) (Rows.slotsEvolvesSpec.post enc Tryd.prog Tryd.f5 false true false false) := by
  refine returnsInHanded_of_change_and (C := Tryd.checked) (X := fun w _ => laidMetH Tryd.prog Rows.slotsEvolvesRow.laid w) (fun _ _ _ hh h => h.of_heap hh) own started (by kernel_rfl) Tryd.func5
    (ChangeSpec.witness_shaped (enc := enc) (C := Tryd.checked) (os := os) (X := fun w _ => laidMetH Tryd.prog Rows.slotsEvolvesRow.laid w) false (World.doorLaid Tryd.prog 400 os) #[.string ByteArray.empty, .string ByteArray.empty, .int .i64 0, .string ByteArray.empty] 8 rfl (World.shaped_of_RefB (by kernel_rfl) (by kernel_rfl)) (by kernel_rfl) (by kernel_rfl) (by kernel_rfl) (SLaid.door_met os _)) ?_
  intro W base args ds gs before hval0 hW _ _ hL _
  have hr := SLaid.of_laid hL
  have hval : ∀ (j : Nat) t v, Tryd.f5.params[j]? = some t → args[j]? = some v → Value.okWide Tryd.prog W .any base t v := hval0
  have hW' := hW
  obtain ⟨p, q, hA0, hV, rfl, hfz, hnd⟩ := hW
  have hA : DataW.TrodAll enc Tryd.prog W 0 (fun _ => true) true Tryd.f5.params.toList args.toList ds p := hA0
  rw [Tryd.params5] at hA hval
  obtain ⟨v0, vs0, d0, ds0, p0, q0, hargs, rfl, rfl, h0, r0⟩ := trodAll_cons hA
  obtain ⟨v1, vs1, d1, ds1, p1, q1, rfl, rfl, rfl, h1, r1⟩ := trodAll_cons r0
  obtain ⟨v2, vs2, d2, ds2, p2, q2, rfl, rfl, rfl, h2, r2⟩ := trodAll_cons r1
  obtain ⟨v3, vs3, d3, ds3, p3, q3, rfl, rfl, rfl, h3, r3⟩ := trodAll_cons r2
  obtain ⟨rfl, rfl, rfl⟩ := trodAll_nil r3
  obtain rfl : args = #[v0, v1, v2, v3] := by cases args; simp_all
  obtain ⟨rfl, rfl⟩ := trodVars_none hV
  obtain ⟨a0, rfl, rfl, rfl, w0⟩ := open_string Tryd.underlying9 (hval 0 9 v0 rfl rfl) h0
  obtain ⟨a1, rfl, rfl, rfl, w1⟩ := open_string Tryd.underlying9 (hval 1 9 v1 rfl rfl) h1
  obtain ⟨a2, rfl, rfl, rfl, w2⟩ := open_int Tryd.underlying3 (hval 2 3 v2 rfl rfl) h2
  obtain ⟨a3, rfl, rfl, rfl, w3⟩ := open_string Tryd.underlying9 (hval 3 9 v3 rfl rfl) h3
  clear hA0 hval0
  refine (walk a0 a1 a2 a3 W w0 w1 w2 w3 hr).mono fun e W' ⟨he, bel⟩ => ?_
  subst he
  exact ⟨_, rfl, _, _, _, [], _, [], hW', trodAll_mk1 (shut_bool Tryd.underlying4 _), (trodAll_cons_mk (shut_string Tryd.underlying9 w0) (trodAll_cons_mk (shut_string Tryd.underlying9 w1) (trodAll_cons_mk (shut_int Tryd.underlying3 w2) (trodAll_cons_mk (shut_string Tryd.underlying9 w3) trodAll_mk0)))), rfl, bel.frame _, fun h => by cases h⟩
theorem over : Rows.slotsEvolvesRow.holds Tryd.pinned (OpenSpec.ofChange Rows.slotsEvolvesSpec) :=
  OpenClaim.holds_of_wide 5 Tryd.f5 rfl rfl rfl rfl rfl rfl rfl ⟨rfl, rfl, rfl, rfl, rfl⟩ rfl rfl rfl rfl rfl (by kernel_rfl) Tryd.func5 (by kernel_rfl)
    (of_decide_eq_true (by kernel_rfl)) (by unfold Func.isWrapper; first | (rw [if_pos (by decide +kernel)]; kernel_rfl) | (rw [if_neg (by decide +kernel)]; exact ⟨rfl, rfl⟩))
    (fun os started H enc _ => lifted os started H enc)
/-- THE STATEMENT, proved. -/
theorem proved : Rows.SlotsEvolvesCardSaid :=
  Claim7.holds_tied_plain_at .later [] _ true _ false
    over (fun _ h => by cases h) (by kernel_rfl) (fun _ h => by cases h) slotsEvolves_row_tie rfl ⟨rfl, rfl⟩ (by kernel_rfl) rfl
    (fun f fn hf hfn => by
      obtain rfl : f = 5 := Option.some.inj ((show Tryd.prog.funcNamed "keepsake/keepsakelaw11.SlotsEvolves" = some 5 by kernel_rfl).symm.trans hf) |>.symm
      obtain rfl : fn = Tryd.f5 := (Option.some.inj (Tryd.func5.symm.trans hfn)).symm
      exact ⟨by kernel_rfl, fun j t ht => by
        rw [Tryd.params5] at ht
        have hm : t ∈ [9, 9, 3, 9] := by simpa using Array.mem_of_getElem? ht
        have hall : ([9, 9, 3, 9].all fun u => !Tryd.prog.wantsStandIn u) = true := by kernel_rfl
        exact (show Tryd.prog.wantsStandIn t = false by simpa using List.all_eq_true.1 hall t hm)⟩)
    (by kernel_rfl)
#print axioms proved
end Go.Proofs.YteinbhhocnjjoaaDoor.slotsEvolves
