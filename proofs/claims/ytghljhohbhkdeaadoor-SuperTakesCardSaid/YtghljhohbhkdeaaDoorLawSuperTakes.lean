/- SuperTakes: at any two texts of at most 2^47 bytes, which superblock the first one's bytes are, or that they are none's, and which of both is chosen, are the document's. The condition: the least and the most numbers, and the rounds' numbers, lie in the program's variables (the card ties them to the program's text). -/
import Derived.Test.YtghljhohbhkdeaaDoorSupK
import Derived.Test.YtghljhohbhkdeaaDoorRows
import Derived.Test.YtghljhohbhkdeaaDoorTie
import Derived.Test.YtghljhohbhkdeaaDoorCards
import Derived.Test.YtghljhohbhkdeaaDoorSupL
import Derived.WalkKit
import Derived.ProofKit
import Derived.OpenShut
import Derived.ShutString
import Derived.ChangeOld
import Derived.Below
import Derived.LaidMore
import Derived.SevenTiedAt
import Derived.Stop.Joined
namespace Go.Proofs.YtghljhohbhkdeaaDoor.superTakes
open Go.ChangeShapes Go.WideShapes Go.ChangeAt Go.RowKit
open Go.ChangeMaps (open_string shut_string)
set_option linter.unusedVariables false
open GeoN GeoC GeoS SupN SupC SupP SupK
structure Sx (w W : World) : Prop where
  bel : Below w.heap.size w W
  gl : Gl W
theorem Sx.step {w W W' : World} (h : Sx w W) (hb : Below W.heap.size W W') : Sx w W' := ⟨h.bel.trans (hb.mono h.bel.size), h.gl.step hb⟩
set_option maxRecDepth 100000 in
theorem long (a b : List UInt8) (w : World) (hg : Gl w) (h : 10000 < a.length ∨ (¬ 10000 < a.length ∧ 10000 < b.length)) :
    Calls Tryd.prog 4 #[.string ⟨a.toArray⟩, .string ⟨b.toArray⟩] w fun r w' => r = .returned (.bool true) ∧ Below w.heap.size w w' := by
  have hza := GeoQ.size_mk a
  have hzb := GeoQ.size_mk b
  have GG := Lib.hid hg
  clear hg
  go_enter Tryd.func4, Tryd.ntmps4
  rcases h with h | ⟨h1, h⟩
  all_goals
    go_wp2_with (go_at_call 11; refine (SupY.alive _ GG.out).mono ?_; rintro r w7 ⟨rfl, hb⟩; have HE := Lib.hid hb; clear hb)
    go_ret
    exact ⟨rfl, HE.out⟩
set_option maxRecDepth 100000 in
set_option maxHeartbeats 2000000 in
theorem short (a b : List UInt8) (g1 t1 e1 k1 b1 l1 f1 g2 t2 e2 k2 b2 l2 f2 c at_ fl wh : Int) (is : Bool) (w : World) (hg : Gl w) (h1 : ¬ 10000 < a.length) (h2 : ¬ 10000 < b.length)
    (ha : take a = (⟨g1, t1, e1, k1, b1, l1, f1⟩, c)) (his : decide (good a) = is) (hc : SupN.choose a b = (⟨g2, t2, e2, k2, b2, l2, f2⟩, at_, fl)) (hd : rchoose a b = (⟨g2, t2, e2, k2, b2, l2, f2⟩, wh))
    (hw1 : (is = true ∧ c = 0) ∨ (is = false ∧ c = 3)) (hw2 : (fl = 0 ∧ wh = at_ ∧ 0 ≤ at_) ∨ (fl = 7 ∧ at_ = 0 ∧ wh = -1)) :
    Calls Tryd.prog 4 #[.string ⟨a.toArray⟩, .string ⟨b.toArray⟩] w fun r w' => r = .returned (.bool true) ∧ Below w.heap.size w w' := by
  have hza := GeoQ.size_mk a
  have hzb := GeoQ.size_mk b
  have HA := Lib.hid (fun W h => SupU.Take a W h)
  have HB := Lib.hid (fun W => SupW.Take a W)
  have HC := Lib.hid (fun W h => SupV.Choose a b W h)
  have HD := Lib.hid (fun W => SupX.Choose a b W)
  rw [ha] at HA
  rw [ha, his] at HB
  rw [hc] at HC
  rw [hd] at HD
  have SS : Hid (Sx w w) := Lib.hid ⟨Below.refl _ _, hg⟩
  have n1 := fun W => neq_self g1 t1 e1 k1 b1 l1 f1 W
  have n2 := fun W => neq_self g2 t2 e2 k2 b2 l2 f2 W
  clear ha his hc hd hg
  go_enter Tryd.func4, Tryd.ntmps4
  go_upto_region 3 with (fail)
  go_upto_region 4 with (first
    | (go_at_call 12; refine (HA.out _ SS.out.gl).mono ?_; rintro r w1 ⟨rfl, hb⟩; replace SS := Lib.hid (SS.out.step hb); clear hb)
    | (refine wpList_store_row rfl 25 _ _ rfl w1.heap.size _ rfl rfl 25 _ (heap_alloc_new w1 _) infoS rfl (one7 g1 t1 e1 k1 b1 l1 f1) ?_))
  generalize hW1 : World.setRow (World.alloc w1 _) _ _ = W1
  replace SS : Hid (Sx w W1) := Lib.hid (by rw [← hW1]; exact SS.out.step (kept_new _ _ _ _))
  have K1 : Hid (Bk W1 w1.heap.size g1 t1 e1 k1 b1 l1 f1) := Lib.hid (by rw [← hW1]; exact has_new _ _ _ _)
  clear hW1 HA
  generalize w1.heap.size = X1 at *
  go_upto_region 5 with (first
    | (go_at_call 13; refine (HB.out _ ).mono ?_; rintro r w2 ⟨rfl, hb⟩; replace SS := Lib.hid (SS.out.step hb); replace K1 := Lib.hid (K1.out.step hb); clear hb)
    | (refine wpList_store_row rfl 25 _ _ rfl w2.heap.size _ rfl rfl 25 _ (heap_alloc_new w2 _) infoS rfl (one7 g1 t1 e1 k1 b1 l1 f1) ?_))
  generalize hW2 : World.setRow (World.alloc w2 _) _ _ = W2
  replace SS : Hid (Sx w W2) := Lib.hid (by rw [← hW2]; exact SS.out.step (kept_new _ _ _ _))
  replace K1 := Lib.hid (show Bk W2 X1 g1 t1 e1 k1 b1 l1 f1 by rw [← hW2]; exact K1.out.step (kept_new _ _ _ _))
  have K2 : Hid (Bk W2 w2.heap.size g1 t1 e1 k1 b1 l1 f1) := Lib.hid (by rw [← hW2]; exact has_new _ _ _ _)
  clear hW2 HB
  generalize w2.heap.size = X2 at *
  go_upto_region 6 with (first
    | (go_at_call 14; refine (HC.out _ SS.out.gl).mono ?_; rintro r w3 ⟨rfl, hb⟩; replace SS := Lib.hid (SS.out.step hb); replace K1 := Lib.hid (K1.out.step hb); replace K2 := Lib.hid (K2.out.step hb); clear hb)
    | (refine wpList_store_row rfl 25 _ _ rfl w3.heap.size _ rfl rfl 25 _ (heap_alloc_new w3 _) infoS rfl (one7 g2 t2 e2 k2 b2 l2 f2) ?_))
  generalize hW3 : World.setRow (World.alloc w3 _) _ _ = W3
  replace SS : Hid (Sx w W3) := Lib.hid (by rw [← hW3]; exact SS.out.step (kept_new _ _ _ _))
  replace K1 := Lib.hid (show Bk W3 X1 g1 t1 e1 k1 b1 l1 f1 by rw [← hW3]; exact K1.out.step (kept_new _ _ _ _))
  replace K2 := Lib.hid (show Bk W3 X2 g1 t1 e1 k1 b1 l1 f1 by rw [← hW3]; exact K2.out.step (kept_new _ _ _ _))
  have K3 : Hid (Bk W3 w3.heap.size g2 t2 e2 k2 b2 l2 f2) := Lib.hid (by rw [← hW3]; exact has_new _ _ _ _)
  clear hW3 HC
  generalize w3.heap.size = X3 at *
  go_upto_region 7 with (first
    | (go_at_call 15; refine (HD.out _ ).mono ?_; rintro r w4 ⟨rfl, hb⟩; replace SS := Lib.hid (SS.out.step hb); replace K1 := Lib.hid (K1.out.step hb); replace K2 := Lib.hid (K2.out.step hb); replace K3 := Lib.hid (K3.out.step hb); clear hb)
    | (refine wpList_store_row rfl 25 _ _ rfl w4.heap.size _ rfl rfl 25 _ (heap_alloc_new w4 _) infoS rfl (one7 g2 t2 e2 k2 b2 l2 f2) ?_))
  generalize hW4 : World.setRow (World.alloc w4 _) _ _ = W4
  replace SS : Hid (Sx w W4) := Lib.hid (by rw [← hW4]; exact SS.out.step (kept_new _ _ _ _))
  replace K1 := Lib.hid (show Bk W4 X1 g1 t1 e1 k1 b1 l1 f1 by rw [← hW4]; exact K1.out.step (kept_new _ _ _ _))
  replace K2 := Lib.hid (show Bk W4 X2 g1 t1 e1 k1 b1 l1 f1 by rw [← hW4]; exact K2.out.step (kept_new _ _ _ _))
  replace K3 := Lib.hid (show Bk W4 X3 g2 t2 e2 k2 b2 l2 f2 by rw [← hW4]; exact K3.out.step (kept_new _ _ _ _))
  have K4 : Hid (Bk W4 w4.heap.size g2 t2 e2 k2 b2 l2 f2) := Lib.hid (by rw [← hW4]; exact has_new _ _ _ _)
  clear hW4 HD
  generalize w4.heap.size = X4 at *
  obtain ⟨x0, x1, x2, x3, x4, x5, x6⟩ := K1.out.cells
  obtain ⟨y0, y1, y2, y3, y4, y5, y6⟩ := K2.out.cells
  obtain ⟨z0, z1, z2, z3, z4, z5, z6⟩ := K3.out.cells
  obtain ⟨u0, u1, u2, u3, u4, u5, u6⟩ := K4.out.cells
  rcases hw1 with ⟨rfl, rfl⟩ | ⟨rfl, rfl⟩ <;> rcases hw2 with ⟨rfl, rfl, hp⟩ | ⟨rfl, rfl, rfl⟩
  all_goals
    go_wp2_with (go_at_call 11; refine (SupY.alive _ SS.out.gl).mono ?_; rintro r w7 ⟨rfl, hb⟩; have HE := Lib.hid (SS.out.step hb); clear hb)
    go_ret
    exact ⟨rfl, HE.out.bel⟩
theorem walk (ta tb : ByteArray) (w : World) (wa : ta.size ≤ maxLen) (wb : tb.size ≤ maxLen) (hr : Gl w) :
    Calls Tryd.prog 4 #[.string ta, .string tb] w fun e w' => e = .returned (.bool true) ∧ Below w.heap.size w w' := by
  obtain ⟨⟨a⟩⟩ := ta
  obtain ⟨⟨b⟩⟩ := tb
  by_cases h1 : 10000 < a.length
  · exact long a b w hr (.inl h1)
  · by_cases h2 : 10000 < b.length
    · exact long a b w hr (.inr ⟨h1, h2⟩)
    · have E := choose_same a b
      obtain ⟨⟨xa, ca⟩, hta⟩ : ∃ p, take a = p := ⟨_, rfl⟩
      obtain ⟨⟨xc, at_, fl⟩, htc⟩ : ∃ p, SupN.choose a b = p := ⟨_, rfl⟩
      obtain ⟨⟨xd, wh⟩, htd⟩ : ∃ p, rchoose a b = p := ⟨_, rfl⟩
      rw [htc, htd] at E
      dsimp only at E
      obtain ⟨rfl, E2⟩ := E
      have hw1 : (decide (good a) = true ∧ ca = 0) ∨ (decide (good a) = false ∧ ca = 3) := by
        by_cases hs : good a
        · rw [take_yes hs] at hta
          exact .inl ⟨decide_eq_true hs, (congrArg Prod.snd hta).symm⟩
        · rw [take_no hs] at hta
          exact .inr ⟨decide_eq_false hs, (congrArg Prod.snd hta).symm⟩
      obtain ⟨g1, t1, e1, k1, b1, l1, f1⟩ := xa
      obtain ⟨g2, t2, e2, k2, b2, l2, f2⟩ := xd
      refine short a b g1 t1 e1 k1 b1 l1 f1 g2 t2 e2 k2 b2 l2 f2 ca at_ fl wh _ w hr h1 h2 hta rfl htc htd hw1 ?_
      rcases E2 with ⟨q1, q2, q3⟩ | ⟨q1, q2, q3⟩
      · exact .inl ⟨q1, q2, by rw [← q2]; exact q3⟩
      · exact .inr ⟨q1, q2, q3⟩
theorem own : ownKnob Tryd.prog.godebug = none := by kernel_rfl
theorem laidOut : laidOutB Tryd.prog = true := by kernel_rfl
set_option maxRecDepth 100000 in
theorem lifted (os : Os) (started : os.Started) (H : Type) (enc : TypeId × Value → H) :
    ReturnsInHanded {} Tryd.checked os 4 .any (fun w args => (Rows.superTakesSpec.pre enc Tryd.prog Tryd.f4 Rows.superTakesRow.domain false w args ∧ laidMetH Tryd.prog Rows.superTakesRow.laid w) ∧ sizedMet enc Tryd.prog Tryd.f4 (OpenSpec.ofChange Rows.superTakesSpec) false w args) (Rows.superTakesSpec.post enc Tryd.prog Tryd.f4 false true false false) := by
  refine returnsInHanded_of_change_and (C := Tryd.checked) (X := fun w _ => laidMetH Tryd.prog Rows.superTakesRow.laid w) (fun _ _ _ hh h => h.of_heap hh) own started (by kernel_rfl) Tryd.func4
    (ChangeSpec.witness_shaped (enc := enc) (C := Tryd.checked) (os := os) (X := fun w _ => laidMetH Tryd.prog Rows.superTakesRow.laid w) false (World.doorLaid Tryd.prog 400 os) #[.string ByteArray.empty, .string ByteArray.empty] 8 rfl (World.shaped_of_RefB (by kernel_rfl) (by kernel_rfl)) (by kernel_rfl) (by kernel_rfl) (by kernel_rfl) (SupL.door_met os _)) ?_
  intro W base args ds gs before hval0 hW _ _ hL _
  have hr := SupL.of_laid hL
  have hval : ∀ (j : Nat) t v, Tryd.f4.params[j]? = some t → args[j]? = some v → Value.okWide Tryd.prog W .any base t v := hval0
  have hW' := hW
  obtain ⟨p, q, hA0, hV, rfl, hfz, hnd⟩ := hW
  have hA : DataW.TrodAll enc Tryd.prog W 0 (fun _ => true) true Tryd.f4.params.toList args.toList ds p := hA0
  rw [Tryd.params4] at hA hval
  obtain ⟨v0, vs0, d0, ds0, p0, q0, hargs, rfl, rfl, h0, r0⟩ := trodAll_cons hA
  obtain ⟨v1, vs1, d1, ds1, p1, q1, rfl, rfl, rfl, h1, r1⟩ := trodAll_cons r0
  obtain ⟨rfl, rfl, rfl⟩ := trodAll_nil r1
  obtain rfl : args = #[v0, v1] := by cases args; simp_all
  obtain ⟨rfl, rfl⟩ := trodVars_none hV
  obtain ⟨a0, rfl, rfl, rfl, w0⟩ := open_string Tryd.underlying9 (hval 0 9 v0 rfl rfl) h0
  obtain ⟨a1, rfl, rfl, rfl, w1⟩ := open_string Tryd.underlying9 (hval 1 9 v1 rfl rfl) h1
  clear hA0 hval0
  refine (walk a0 a1 W w0 w1 hr).mono fun e W' ⟨he, bel⟩ => ?_
  subst he
  exact ⟨_, rfl, _, _, _, [], _, [], hW', trodAll_mk1 (shut_bool Tryd.underlying4 _), (trodAll_cons_mk (shut_string Tryd.underlying9 w0) (trodAll_cons_mk (shut_string Tryd.underlying9 w1) trodAll_mk0)), rfl, bel.frame _, fun h => by cases h⟩
theorem over : Rows.superTakesRow.holds Tryd.pinned (OpenSpec.ofChange Rows.superTakesSpec) :=
  OpenClaim.holds_of_wide 4 Tryd.f4 rfl rfl rfl rfl rfl rfl rfl ⟨rfl, rfl, rfl, rfl, rfl⟩ rfl rfl rfl rfl rfl (by kernel_rfl) Tryd.func4 (by kernel_rfl)
    (of_decide_eq_true (by kernel_rfl)) (by unfold Func.isWrapper; first | (rw [if_pos (by decide +kernel)]; kernel_rfl) | (rw [if_neg (by decide +kernel)]; exact ⟨rfl, rfl⟩))
    (fun os started H enc _ => lifted os started H enc)
/-- THE STATEMENT, proved. -/
theorem proved : Rows.SuperTakesCardSaid :=
  Claim7.holds_tied_plain_at .later [] _ true _ false
    over (fun _ h => by cases h) (by kernel_rfl) (fun _ h => by cases h) superTakes_row_tie rfl ⟨rfl, rfl⟩ (by kernel_rfl) rfl
    (fun f fn hf hfn => by
      obtain rfl : f = 4 := Option.some.inj ((show Tryd.prog.funcNamed "keepsake/keepsakelaw10.SuperTakes" = some 4 by kernel_rfl).symm.trans hf) |>.symm
      obtain rfl : fn = Tryd.f4 := (Option.some.inj (Tryd.func4.symm.trans hfn)).symm
      exact ⟨by kernel_rfl, fun j t ht => by
        rw [Tryd.params4] at ht
        have hm : t ∈ [9, 9] := by simpa using Array.mem_of_getElem? ht
        have hall : ([9, 9].all fun u => !Tryd.prog.wantsStandIn u) = true := by kernel_rfl
        exact (show Tryd.prog.wantsStandIn t = false by simpa using List.all_eq_true.1 hall t hm)⟩)
    (by kernel_rfl)
#print axioms proved
end Go.Proofs.YtghljhohbhkdeaaDoor.superTakes
