/- SuperLater: at any superblock, place, text of at most 2^47 bytes, and whether the next superblock came there: the later one of both is chosen. The condition: the least and the most numbers, and the rounds' numbers, lie in the program's variables (the card ties them to the program's text). -/
import Derived.Test.YtghljhohbhkdeaaDoorSLa
import Derived.Test.YtghljhohbhkdeaaDoorSLb
import Derived.Test.YtghljhohbhkdeaaDoorSLc
import Derived.Test.YtghljhohbhkdeaaDoorSLd
import Derived.Test.YtghljhohbhkdeaaDoorRows
import Derived.Test.YtghljhohbhkdeaaDoorTie
import Derived.Test.YtghljhohbhkdeaaDoorCards
import Derived.Test.YtghljhohbhkdeaaDoorSupL
import Derived.WalkKit
import Derived.ProofKit
import Derived.OpenShut
import Derived.ShutString
import Derived.ChangeOld
import Derived.Below
import Derived.LaidMore
import Derived.SevenTiedAt
import Derived.Stop.Joined
namespace Go.Proofs.YtghljhohbhkdeaaDoor.superLater
open Go.ChangeShapes Go.WideShapes Go.ChangeAt Go.RowKit
open Go.ChangeMaps (open_string shut_string)
set_option linter.unusedVariables false
open GeoN GeoC GeoS SupN SupC SupP SupK SLr SLa SLb SLc SLd
theorem walk (g t e k b l f : Int) (second : Bool) (ta : ByteArray) (came : Bool) (w : World) (wa : ta.size ≤ maxLen) (hr : Gl w) :
    Calls Tryd.prog 6 #[.agg #[.int .i64 g, .int .i64 t, .int .i64 e, .int .i64 k, .int .i64 b, .int .i64 l, .int .i64 f], .bool second, .string ta, .bool came] w fun e w' => e = .returned (.bool true) ∧ Below w.heap.size w w' := by
  obtain ⟨⟨s⟩⟩ := ta
  by_cases hm : may ⟨g, t, e, k, b, l, f⟩
  · by_cases hl : g = 1152921504606846976
    · exact refused g t e k b l f 6 second came s w hr (.inr rfl) (next_last hm hl)
    · have hx := next_yes hm hl
      have hn := may_next hm hl
      by_cases hs : 10000 < s.length
      · exact long g t e k b l f second came s w hr hs hx
      · have hp := SupN.put_yes hm
        have hq := SupN.put_yes hn
        have tL := take_blk hm
        have tM := take_blk hn
        have gL := good_blk hm
        have gM := good_blk hn
        cases came
        · obtain ⟨⟨xo, ho⟩, hto⟩ : ∃ p, take s = p := ⟨_, rfl⟩
          have hgo : (good s ∧ ho = 0 ∧ 1 ≤ xo.g) ∨ (¬ good s ∧ ho = 3 ∧ xo.g = 0) := by
            rcases take_g (a := s) with ⟨h1, h2⟩ | ⟨h1, h2⟩
            · have h3 := take_yes h1
              rw [hto] at h2 h3
              exact .inl ⟨h1, congrArg Prod.snd h3, h2⟩
            · have h3 := take_no h1
              rw [hto] at h2 h3
              exact .inr ⟨h1, congrArg Prod.snd h3, by have := congrArg Sb.g h2; exact this⟩
          have hg1 : 1 ≤ g := hm.2.1.1
          have hL : (take (blk ⟨g, t, e, k, b, l, f⟩)).1.g = g := by rw [tL]
          have hO : (take s).1.g = xo.g := by rw [hto]
          have cL : xo.g ≤ g → SupN.choose (blk ⟨g, t, e, k, b, l, f⟩) s = (⟨g, t, e, k, b, l, f⟩, 0, 0) := fun h => by rw [choose_0 (by rw [hL, hO]; omega) gL, tL]
          have cO : xo.g < g → SupN.choose s (blk ⟨g, t, e, k, b, l, f⟩) = (⟨g, t, e, k, b, l, f⟩, 1, 0) := fun h => by rw [choose_1 (by rw [hL, hO]; omega), tL]
          obtain ⟨g8, t8, e8, k8, b8, l8, f8⟩ := xo
          dsimp only at hgo cL cO
          rcases hgo with ⟨q1, rfl, q3⟩ | ⟨q1, rfl, q3⟩
          · by_cases hlt : g < g8
            · exact stands g t e k b l f second _ _ g8 t8 e8 k8 b8 l8 f8 s w hr hs hx hp hq hto (.inl hlt)
            · by_cases heq : g8 = g
              · cases second
                · exact not_first g t e k b l f _ _ g8 t8 e8 k8 b8 l8 f8 0 s w hr hs hx hp hq (cL (by omega)) hto (.inr (.inr ⟨rfl, hlt, beq_iff_eq.2 heq⟩))
                · exact stands g t e k b l f true _ _ g8 t8 e8 k8 b8 l8 f8 s w hr hs hx hp hq hto (.inr ⟨hlt, beq_iff_eq.2 heq, rfl⟩)
              · have hne : (g8 == g) = false := beq_eq_false_iff_ne.2 heq
                cases second
                · exact not_first g t e k b l f _ _ g8 t8 e8 k8 b8 l8 f8 0 s w hr hs hx hp hq (cL (by omega)) hto (.inr (.inl ⟨rfl, by omega, hne⟩))
                · exact not_second g t e k b l f _ _ g8 t8 e8 k8 b8 l8 f8 0 s w hr hs hx hp hq (cL (by omega)) (cO (by omega)) hto (.inr ⟨rfl, by omega, hne⟩)
          · cases second
            · exact not_first g t e k b l f _ _ g8 t8 e8 k8 b8 l8 f8 3 s w hr hs hx hp hq (cL (by omega)) hto (.inl rfl)
            · exact not_second g t e k b l f _ _ g8 t8 e8 k8 b8 l8 f8 3 s w hr hs hx hp hq (cL (by omega)) (cO (by omega)) hto (.inl rfl)
        · have hL : (take (blk ⟨g, t, e, k, b, l, f⟩)).1.g = g := by rw [tL]
          have hM : (take (blk ⟨g + 1, t, e, k, b, l, f⟩)).1.g = g + 1 := by rw [tM]
          have c1 : SupN.choose (blk ⟨g, t, e, k, b, l, f⟩) (blk ⟨g + 1, t, e, k, b, l, f⟩) = (⟨g + 1, t, e, k, b, l, f⟩, 1, 0) := by rw [choose_1 (by rw [hL, hM]; omega), tM]
          have c2 : SupN.choose (blk ⟨g + 1, t, e, k, b, l, f⟩) (blk ⟨g, t, e, k, b, l, f⟩) = (⟨g + 1, t, e, k, b, l, f⟩, 0, 0) := by rw [choose_0 (by rw [hL, hM]; omega) gM, tM]
          cases second
          · exact came_first g t e k b l f _ _ s w hr hs hx hp hq c1 tM
          · exact came_second g t e k b l f _ _ s w hr hs hx hp hq c1 c2 tM
  · exact refused g t e k b l f 2 second came s w hr (.inl rfl) (next_no hm)
theorem own : ownKnob Tryd.prog.godebug = none := by kernel_rfl
theorem laidOut : laidOutB Tryd.prog = true := by kernel_rfl
set_option maxRecDepth 100000 in
theorem lifted (os : Os) (started : os.Started) (H : Type) (enc : TypeId × Value → H) :
    ReturnsInHanded {} Tryd.checked os 6 .any (fun w args => (Rows.superLaterSpec.pre enc Tryd.prog Tryd.f6 Rows.superLaterRow.domain false w args ∧ laidMetH Tryd.prog Rows.superLaterRow.laid w) ∧ sizedMet enc Tryd.prog Tryd.f6 (OpenSpec.ofChange Rows.superLaterSpec) false w args) (Rows.superLaterSpec.post enc Tryd.prog Tryd.f6 false true false false) := by
  refine returnsInHanded_of_change_and (C := Tryd.checked) (X := fun w _ => laidMetH Tryd.prog Rows.superLaterRow.laid w) (fun _ _ _ hh h => h.of_heap hh) own started (by kernel_rfl) Tryd.func6
    (ChangeSpec.witness_shaped (enc := enc) (C := Tryd.checked) (os := os) (X := fun w _ => laidMetH Tryd.prog Rows.superLaterRow.laid w) false (World.doorLaid Tryd.prog 400 os) #[.agg #[.int .i64 0, .int .i64 0, .int .i64 0, .int .i64 0, .int .i64 0, .int .i64 0, .int .i64 0], .bool false, .string ByteArray.empty, .bool false] 8 rfl (World.shaped_of_RefB (by kernel_rfl) (by kernel_rfl)) (by kernel_rfl) (by kernel_rfl) (by kernel_rfl) (SupL.door_met os _)) ?_
  intro W base args ds gs before hval0 hW _ _ hL _
  have hr := SupL.of_laid hL
  have hval : ∀ (j : Nat) t v, Tryd.f6.params[j]? = some t → args[j]? = some v → Value.okWide Tryd.prog W .any base t v := hval0
  have hW' := hW
  obtain ⟨p, q, hA0, hV, rfl, hfz, hnd⟩ := hW
  have hA : DataW.TrodAll enc Tryd.prog W 0 (fun _ => true) true Tryd.f6.params.toList args.toList ds p := hA0
  rw [Tryd.params6] at hA hval
  obtain ⟨v0, vs0, d0, ds0, p0, q0, hargs, rfl, rfl, h0, r0⟩ := trodAll_cons hA
  obtain ⟨v1, vs1, d1, ds1, p1, q1, rfl, rfl, rfl, h1, r1⟩ := trodAll_cons r0
  obtain ⟨v2, vs2, d2, ds2, p2, q2, rfl, rfl, rfl, h2, r2⟩ := trodAll_cons r1
  obtain ⟨v3, vs3, d3, ds3, p3, q3, rfl, rfl, rfl, h3, r3⟩ := trodAll_cons r2
  obtain ⟨rfl, rfl, rfl⟩ := trodAll_nil r3
  obtain rfl : args = #[v0, v1, v2, v3] := by cases args; simp_all
  obtain ⟨rfl, rfl⟩ := trodVars_none hV
  have k0 := h0
  have lt0 : ∀ x ∈ p0, x.block < W.heap.size := by obtain ⟨m, hm⟩ := k0; exact DataW.trod_lt m _ _ _ hm
  obtain ⟨sg0, st0, se0, sk0, sb0, sl0, sf0, rfl⟩ := SupL.open_sup (hval 0 25 v0 rfl rfl) h0
  obtain ⟨a1, rfl, rfl, rfl⟩ := open_bool Tryd.underlying4 (hval 1 4 v1 rfl rfl) h1
  obtain ⟨a2, rfl, rfl, rfl, w2⟩ := open_string Tryd.underlying9 (hval 2 9 v2 rfl rfl) h2
  obtain ⟨a3, rfl, rfl, rfl⟩ := open_bool Tryd.underlying4 (hval 3 4 v3 rfl rfl) h3
  clear hA0 hval0
  refine (walk sg0 st0 se0 sk0 sb0 sl0 sf0 a1 a2 a3 W w2 hr).mono fun e W' ⟨he, bel⟩ => ?_
  subst he
  exact ⟨_, rfl, _, _, _, [], _, [], hW', trodAll_mk1 (shut_bool Tryd.underlying4 _), (trodAll_cons_mk (Below.trod laidOut (by kernel_rfl) (of_decide_eq_true (by kernel_rfl)) k0 bel lt0) (trodAll_cons_mk (shut_bool Tryd.underlying4 a1) (trodAll_cons_mk (shut_string Tryd.underlying9 w2) (trodAll_cons_mk (shut_bool Tryd.underlying4 a3) trodAll_mk0)))), rfl, bel.frame _, fun h => by cases h⟩
theorem over : Rows.superLaterRow.holds Tryd.pinned (OpenSpec.ofChange Rows.superLaterSpec) :=
  OpenClaim.holds_of_wide 6 Tryd.f6 rfl rfl rfl rfl rfl rfl rfl ⟨rfl, rfl, rfl, rfl, rfl⟩ rfl rfl rfl rfl rfl (by kernel_rfl) Tryd.func6 (by kernel_rfl)
    (of_decide_eq_true (by kernel_rfl)) (by unfold Func.isWrapper; first | (rw [if_pos (by decide +kernel)]; kernel_rfl) | (rw [if_neg (by decide +kernel)]; exact ⟨rfl, rfl⟩))
    (fun os started H enc _ => lifted os started H enc)
/-- THE STATEMENT, proved. -/
theorem proved : Rows.SuperLaterCardSaid :=
  Claim7.holds_tied_plain_at .later [] _ true _ false
    over (fun _ h => by cases h) (by kernel_rfl) (fun _ h => by cases h) superLater_row_tie rfl ⟨rfl, rfl⟩ (by kernel_rfl) rfl
    (fun f fn hf hfn => by
      obtain rfl : f = 6 := Option.some.inj ((show Tryd.prog.funcNamed "keepsake/keepsakelaw10.SuperLater" = some 6 by kernel_rfl).symm.trans hf) |>.symm
      obtain rfl : fn = Tryd.f6 := (Option.some.inj (Tryd.func6.symm.trans hfn)).symm
      exact ⟨by kernel_rfl, fun j t ht => by
        rw [Tryd.params6] at ht
        have hm : t ∈ [25, 4, 9, 4] := by simpa using Array.mem_of_getElem? ht
        have hall : ([25, 4, 9, 4].all fun u => !Tryd.prog.wantsStandIn u) = true := by kernel_rfl
        exact (show Tryd.prog.wantsStandIn t = false by simpa using List.all_eq_true.1 hall t hm)⟩)
    (by kernel_rfl)
#print axioms proved
end Go.Proofs.YtghljhohbhkdeaaDoor.superLater
