/- GeomRoom: at any shape and any number, as many blocks as are told may be taken one by one, and then one is left (where none may be taken, or the number is below 0 or above 2^40: only that what is told is not below 0, and the chapter's example). The condition: the least and the most numbers lie in the program's two variables (the card ties them to the program's text). -/
import Derived.Test.YtdnnfoelhcbmlaaDoorGeoA
import Derived.Test.YtdnnfoelhcbmlaaDoorGeoR
import Derived.Test.YtdnnfoelhcbmlaaDoorGeoS
import Derived.Test.YtdnnfoelhcbmlaaDoorRows
import Derived.Test.YtdnnfoelhcbmlaaDoorTie
import Derived.Test.YtdnnfoelhcbmlaaDoorCards
import Derived.Test.YtdnnfoelhcbmlaaDoorGeoL
import Derived.WalkKit
import Derived.ProofKit
import Derived.OpenShut
import Derived.ShutString
import Derived.ChangeOld
import Derived.Below
import Derived.LaidMore
import Derived.SevenTiedAt
import Derived.Stop.Joined
namespace Go.Proofs.YtdnnfoelhcbmlaaDoor.geomRoom
open Go.ChangeShapes Go.WideShapes Go.ChangeAt Go.RowKit
open Go.ChangeMaps (open_string shut_string)
set_option linter.unusedVariables false
open GeoN GeoC GeoS
set_option maxRecDepth 100000 in
theorem none_ (a b c u : Int) (w : World) (hb : Bnd w) (hu : u ≤ 9223372036854775807) (h : room a b c u = 0 ∨ u < 0 ∨ 1099511627776 < u) :
    Calls Tryd.prog 6 #[.agg #[.int .i64 a, .int .i64 b, .int .i64 c], .int .i64 u] w fun e w' => e = .returned (.bool true) ∧ Below w.heap.size w w' := by
  have H1 := Lib.hid (fun W h => GeoD.Room a b c u W h hu)
  have hn : 0 ≤ room a b c u := by unfold room; split <;> omega
  obtain ⟨W1, hW1⟩ : ∃ W1, W1 = w.alloc (.cells #[.int .i64 a, .int .i64 b, .int .i64 c] 23) := ⟨_, rfl⟩
  have S1 : Hid (St w a b c W1) := Lib.hid (by rw [hW1]; exact st_new a b c hb)
  obtain ⟨k0, k1, k2⟩ := S1.out.cells
  go_enter Tryd.func6, Tryd.ntmps6
  go_upto_region 1 with (fail)
  rw [← hW1]
  clear hW1 hb
  generalize room a b c u = n at *
  rcases (show n = 0 ∨ (¬ n = 0 ∧ u < 0) ∨ (¬ n = 0 ∧ ¬ u < 0 ∧ 1099511627776 < u) from by omega) with h1 | ⟨h1, h2⟩ | ⟨h1, h2, h3⟩
  all_goals clear h
  all_goals go_wp2_with (first
    | (go_at_call 12; refine (H1.out _ S1.out.bn).mono ?_; rintro e w2 ⟨rfl, hb2⟩; have S2 := Lib.hid (S1.out.step hb2); clear hb2)
    | (go_at_call 14; refine (GeoA.alive _ S2.out.bn).mono ?_; rintro e w3 ⟨rfl, hb3⟩; have S3 := Lib.hid (S2.out.step hb3); clear hb3))
  all_goals go_ret
  all_goals exact ⟨rfl, S3.out.bel⟩
set_option maxRecDepth 100000 in
theorem some_ (a b c u : Int) (w : World) (hb : Bnd w) (h : ¬ room a b c u = 0) (h0 : ¬ u < 0) (h1 : ¬ 1099511627776 < u) :
    Calls Tryd.prog 6 #[.agg #[.int .i64 a, .int .i64 b, .int .i64 c], .int .i64 u] w fun e w' => e = .returned (.bool true) ∧ Below w.heap.size w w' := by
  have hg : right a b c ∧ 0 ≤ u ∧ u < a - 5 := by
    by_cases hh : right a b c ∧ 0 ≤ u ∧ u < a - 5
    · exact hh
    · exact absurd (room_no hh) h
  obtain ⟨hr, _, hlt⟩ := hg
  have e0 := room_yes hr (by omega) hlt
  have e1 : room a b c (u + 1) = a - 5 - u - 1 := by
    by_cases hh : u + 1 < a - 5
    · rw [room_yes hr (by omega) hh]; omega
    · rw [room_no (fun x => hh x.2.2)]; omega
  have e2 : room a b c (u + (a - 5 - u)) = 0 := room_no (fun x => by omega)
  have e3 := data_yes hr
  have ha := hr.2.1
  have H0 := Lib.hid (fun W h => GeoD.Room a b c u W h (by omega))
  have H1 := Lib.hid (fun W h => GeoD.Room a b c (u + 1) W h (by omega))
  have H2 := Lib.hid (fun W h => GeoD.Room a b c (u + (a - 5 - u)) W h (by omega))
  have H3 := Lib.hid (fun W h => GeoD.Data a b c W h)
  rw [e0] at H0
  rw [e1] at H1
  rw [e2] at H2
  rw [e3] at H3
  obtain ⟨W1, hW1⟩ : ∃ W1, W1 = w.alloc (.cells #[.int .i64 a, .int .i64 b, .int .i64 c] 23) := ⟨_, rfl⟩
  have S1 : Hid (St w a b c W1) := Lib.hid (by rw [hW1]; exact st_new a b c hb)
  obtain ⟨k0, k1, k2⟩ := S1.out.cells
  clear e0 e1 e2 e3 h hr
  obtain ⟨n, hn⟩ : ∃ n, n = a - 5 - u := ⟨_, rfl⟩
  obtain ⟨d, hd⟩ : ∃ d, d = a - 4 := ⟨_, rfl⟩
  rw [← hn] at H0 H1 H2
  rw [← hd] at H3
  have n0 : (n == 0) = false := by rw [beq_eq_false_iff_ne]; omega
  have n1 : (u + n + 1 == d) = true := by rw [beq_iff_eq]; omega
  have n2 : 0 < n := by omega
  have n3 : n ≤ 1019 := by omega
  clear hn hd hlt ha
  go_enter Tryd.func6, Tryd.ntmps6
  go_upto_region 1 with (fail)
  rw [← hW1]
  clear hW1 hb
  go_wp2_with (first
    | (go_at_call 12; refine (H0.out _ S1.out.bn).mono ?_; rintro e w2 ⟨rfl, hb2⟩; have S2 := Lib.hid (S1.out.step hb2); obtain ⟨k0, k1, k2⟩ := S2.out.cells; clear hb2 S1)
    | (go_at_call 12; refine (H1.out _ S2.out.bn).mono ?_; rintro e w3 ⟨rfl, hb3⟩; have S3 := Lib.hid (S2.out.step hb3); obtain ⟨k0, k1, k2⟩ := S3.out.cells; clear hb3 S2)
    | (go_at_call 12; refine (H2.out _ S3.out.bn).mono ?_; rintro e w4 ⟨rfl, hb4⟩; have S4 := Lib.hid (S3.out.step hb4); obtain ⟨k0, k1, k2⟩ := S4.out.cells; clear hb4 S3)
    | (go_at_call 11; refine (H3.out _ S4.out.bn).mono ?_; rintro e w5 ⟨rfl, hb5⟩; have S5 := Lib.hid (S4.out.step hb5); clear hb5)
    | (go_at_call 14; refine (GeoA.alive _ S5.out.bn).mono ?_; rintro e w6 ⟨rfl, hb6⟩; have S6 := Lib.hid (S5.out.step hb6); clear hb6))
  go_ret
  exact ⟨rfl, S6.out.bel⟩
theorem walk (a b c u : Int) (w : World) (wa : (Lit.int .i64 a).wf = true) (wb : (Lit.int .i64 b).wf = true) (wc : (Lit.int .i64 c).wf = true) (wu : (Lit.int .i64 u).wf = true) (hr : Bnd w) :
    Calls Tryd.prog 6 #[.agg #[.int .i64 a, .int .i64 b, .int .i64 c], .int .i64 u] w fun e w' => e = .returned (.bool true) ∧ Below w.heap.size w w' := by
  have hu := (bounds_i64 wu).2
  by_cases h : room a b c u = 0 ∨ u < 0 ∨ 1099511627776 < u
  · exact none_ a b c u w hr hu h
  · exact some_ a b c u w hr (fun x => h (.inl x)) (fun x => h (.inr (.inl x))) (fun x => h (.inr (.inr x)))
theorem own : ownKnob Tryd.prog.godebug = none := by kernel_rfl
theorem laidOut : laidOutB Tryd.prog = true := by kernel_rfl
set_option maxRecDepth 100000 in
theorem lifted (os : Os) (started : os.Started) (H : Type) (enc : TypeId × Value → H) :
    ReturnsInHanded {} Tryd.checked os 6 .any (fun w args => (Rows.geomRoomSpec.pre enc Tryd.prog Tryd.f6 Rows.geomRoomRow.domain false w args ∧ laidMetH Tryd.prog Rows.geomRoomRow.laid w) ∧ sizedMet enc Tryd.prog Tryd.f6 (OpenSpec.ofChange Rows.geomRoomSpec) false w args) (Rows.geomRoomSpec.post enc Tryd.prog Tryd.f6 false true false false) := by
  refine returnsInHanded_of_change_and (C := Tryd.checked) (X := fun w _ => laidMetH Tryd.prog Rows.geomRoomRow.laid w) (fun _ _ _ hh h => h.of_heap hh) own started (by kernel_rfl) Tryd.func6
    (ChangeSpec.witness_shaped (enc := enc) (C := Tryd.checked) (os := os) (X := fun w _ => laidMetH Tryd.prog Rows.geomRoomRow.laid w) false (World.doorLaid Tryd.prog 400 os) #[.agg #[.int .i64 0, .int .i64 0, .int .i64 0], .int .i64 0] 8 rfl (World.shaped_of_RefB (by kernel_rfl) (by kernel_rfl)) (by kernel_rfl) (by kernel_rfl) (by kernel_rfl) (GeoL.door_met os _)) ?_
  intro W base args ds gs before hval0 hW _ _ hL _
  have hr := GeoL.of_laid hL
  have hval : ∀ (j : Nat) t v, Tryd.f6.params[j]? = some t → args[j]? = some v → Value.okWide Tryd.prog W .any base t v := hval0
  have hW' := hW
  obtain ⟨p, q, hA0, hV, rfl, hfz, hnd⟩ := hW
  have hA : DataW.TrodAll enc Tryd.prog W 0 (fun _ => true) true Tryd.f6.params.toList args.toList ds p := hA0
  rw [Tryd.params6] at hA hval
  obtain ⟨v0, vs0, d0, ds0, p0, q0, hargs, rfl, rfl, h0, r0⟩ := trodAll_cons hA
  obtain ⟨v1, vs1, d1, ds1, p1, q1, rfl, rfl, rfl, h1, r1⟩ := trodAll_cons r0
  obtain ⟨rfl, rfl, rfl⟩ := trodAll_nil r1
  obtain rfl : args = #[v0, v1] := by cases args; simp_all
  obtain ⟨rfl, rfl⟩ := trodVars_none hV
  have k0 := h0
  have lt0 : ∀ x ∈ p0, x.block < W.heap.size := by obtain ⟨m, hm⟩ := k0; exact DataW.trod_lt m _ _ _ hm
  obtain ⟨a0, b0, c0, rfl, wa0, wb0, wc0⟩ := GeoL.open_geo (hval 0 23 v0 rfl rfl) h0
  obtain ⟨a1, rfl, rfl, rfl, w1⟩ := open_int Tryd.underlying3 (hval 1 3 v1 rfl rfl) h1
  clear hA0 hval0
  refine (walk a0 b0 c0 a1 W wa0 wb0 wc0 w1 hr).mono fun e W' ⟨he, bel⟩ => ?_
  subst he
  exact ⟨_, rfl, _, _, _, [], _, [], hW', trodAll_mk1 (shut_bool Tryd.underlying4 _), (trodAll_cons_mk (Below.trod laidOut (by kernel_rfl) (of_decide_eq_true (by kernel_rfl)) k0 bel lt0) (trodAll_cons_mk (shut_int Tryd.underlying3 w1) trodAll_mk0)), rfl, bel.frame _, fun h => by cases h⟩
theorem over : Rows.geomRoomRow.holds Tryd.pinned (OpenSpec.ofChange Rows.geomRoomSpec) :=
  OpenClaim.holds_of_wide 6 Tryd.f6 rfl rfl rfl rfl rfl rfl rfl ⟨rfl, rfl, rfl, rfl, rfl⟩ rfl rfl rfl rfl rfl (by kernel_rfl) Tryd.func6 (by kernel_rfl)
    (of_decide_eq_true (by kernel_rfl)) (by unfold Func.isWrapper; first | (rw [if_pos (by decide +kernel)]; kernel_rfl) | (rw [if_neg (by decide +kernel)]; exact ⟨rfl, rfl⟩))
    (fun os started H enc _ => lifted os started H enc)
/-- THE STATEMENT, proved. -/
theorem proved : Rows.GeomRoomCardSaid :=
  Claim7.holds_tied_plain_at .later [] _ true _ false
    over (fun _ h => by cases h) (by kernel_rfl) (fun _ h => by cases h) geomRoom_row_tie rfl ⟨rfl, rfl⟩ (by kernel_rfl) rfl
    (fun f fn hf hfn => by
      obtain rfl : f = 6 := Option.some.inj ((show Tryd.prog.funcNamed "keepsake/keepsakelaw09.GeomRoom" = some 6 by kernel_rfl).symm.trans hf) |>.symm
      obtain rfl : fn = Tryd.f6 := (Option.some.inj (Tryd.func6.symm.trans hfn)).symm
      exact ⟨by kernel_rfl, fun j t ht => by
        rw [Tryd.params6] at ht
        have hm : t ∈ [23, 3] := by simpa using Array.mem_of_getElem? ht
        have hall : ([23, 3].all fun u => !Tryd.prog.wantsStandIn u) = true := by kernel_rfl
        exact (show Tryd.prog.wantsStandIn t = false by simpa using List.all_eq_true.1 hall t hm)⟩)
    (by kernel_rfl)
#print axioms proved
end Go.Proofs.YtdnnfoelhcbmlaaDoor.geomRoom
