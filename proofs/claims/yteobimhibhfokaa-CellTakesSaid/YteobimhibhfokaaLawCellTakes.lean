/- CellTakes: at any text of at most 2^47 bytes, which cell, or held text, it is, and of which kind, is what the document says. No conditions. -/
import Derived.Test.YteobimhibhfokaaCelV
import Derived.Test.YteobimhibhfokaaCelU
import Derived.Test.YteobimhibhfokaaCelY
import Derived.Test.YteobimhibhfokaaRows
import Derived.WalkKit
import Derived.ProofKit
import Derived.OpenShut
import Derived.ShutString
import Derived.ChangeOld
import Derived.Below
namespace Go.Proofs.Yteobimhibhfokaa.cellTakes
open Go.ChangeShapes Go.WideShapes Go.ChangeAt Go.RowKit
open Go.ChangeMaps (open_string shut_string)
set_option linter.unusedVariables false
open CelN CelC
set_option maxRecDepth 100000 in
theorem long (s : List UInt8) (w : World) (h : 10000 < s.length) :
    Calls Try.prog 4 #[.string ⟨s.toArray⟩] w fun r w' => r = .returned (.bool true) ∧ Below w.heap.size w w' := by
  have hz := size_mk s
  go_enter Try.func4, Try.ntmps4
  go_wp2_with (go_at_call 7; refine (CelY.alive _).mono ?_; rintro r w7 ⟨rfl, hb⟩; have HE := Lib.hid hb; clear hb)
  go_ret
  exact ⟨rfl, HE.out⟩
/-- What stands while the statement runs: what was stays, both cells in their blocks. -/
structure Tw (w : World) (X Y : Nat) (ep sl lb : Int) (gn : Bool) (ci : List UInt8) (W : World) : Prop where
  bel : Below w.heap.size w W
  x : Bk W X ep sl lb gn ci
  y : Bk W Y ep sl lb gn ci
theorem Tw.step {w W W' : World} {X Y : Nat} {ep sl lb : Int} {gn : Bool} {ci : List UInt8} (h : Tw w X Y ep sl lb gn ci W) (hb : Below W.heap.size W W') : Tw w X Y ep sl lb gn ci W' := ⟨h.bel.trans (hb.mono h.bel.size), h.x.step hb, h.y.step hb⟩
set_option maxRecDepth 100000 in
set_option maxHeartbeats 2000000 in
theorem short (s : List UInt8) (ep sl lb : Int) (gn : Bool) (ci : List UInt8) (f : Int) (is : Bool) (t : List UInt8) (g : Int) (so : Bool) (k : Int) (w : World) (h : ¬ 10000 < s.length)
    (ht : take s = (⟨ep, sl, lb, gn, ci⟩, f)) (hi : decide (good s) = is) (hh : held s = (t, g)) (hs : decide (hgood s) = so) (hk : CelN.kind s = k) (h1 : (is = true ∧ f = 0) ∨ (is = false ∧ f = 3)) (h2 : (so = true ∧ g = 0) ∨ (so = false ∧ g = 3)) :
    Calls Try.prog 4 #[.string ⟨s.toArray⟩] w fun r w' => r = .returned (.bool true) ∧ Below w.heap.size w w' := by
  have hz := size_mk s
  have HT := Lib.hid (fun W => CelT.Take s W)
  have HU := Lib.hid (fun W => CelU.Take s W)
  rw [ht] at HT
  rw [ht, hi] at HU
  have HH := Lib.hid (fun W => CelV.Held s W)
  have HI := Lib.hid (fun W => CelU.Held s W)
  rw [hh] at HH
  rw [hh, hs] at HI
  have HK := Lib.hid (fun W => CelV.Kind s W)
  have HL := Lib.hid (fun W => CelU.Kind s W)
  rw [hk] at HK HL
  have heq := fun W => neq_self ep sl lb gn ci W
  clear ht hi hh hs hk
  go_enter Try.func4, Try.ntmps4
  go_upto_region 3 with (fail)
  go_upto_region 4 with (first
    | (go_at_call 14; refine (HT.out _).mono ?_; rintro r w2 ⟨rfl, hb⟩; have B2 := Lib.hid hb; clear hb)
    | (refine wpList_store_row rfl 23 _ _ rfl w2.heap.size _ rfl rfl 23 _ (heap_alloc_new w2 _) infoC rfl (one5 ep sl lb gn ci) ?_))
  generalize hW3 : World.setRow (World.alloc w2 _) _ _ = W3
  have B3 : Hid (Below w.heap.size w W3) := Lib.hid (by rw [← hW3]; exact B2.out.trans ((kept_new _ _ _ _).mono B2.out.size))
  have K3 : Hid (Bk W3 w2.heap.size ep sl lb gn ci) := Lib.hid (by rw [← hW3]; exact has_new _ _ _ _)
  clear hW3 B2 HT
  generalize w2.heap.size = X at *
  go_upto_region 5 with (first
    | (go_at_call 15; refine (HU.out _).mono ?_; rintro r w4 ⟨rfl, hb⟩; have B4 := Lib.hid (B3.out.trans (hb.mono B3.out.size)); have K4 := Lib.hid (K3.out.step hb); clear hb)
    | (refine wpList_store_row rfl 23 _ _ rfl w4.heap.size _ rfl rfl 23 _ (heap_alloc_new w4 _) infoC rfl (one5 ep sl lb gn ci) ?_))
  generalize hW5 : World.setRow (World.alloc w4 _) _ _ = W5
  have TT : Hid (Tw w X w4.heap.size ep sl lb gn ci W5) := Lib.hid (by rw [← hW5]; exact ⟨B4.out.trans ((kept_new _ _ _ _).mono B4.out.size), K4.out.step (kept_new _ _ _ _), has_new _ _ _ _⟩)
  clear hW5 B3 K3 B4 K4 HU
  generalize w4.heap.size = Y at *
  go_upto_region 7 with (first
    | (go_at_call 16; refine (HH.out _).mono ?_; rintro r w6 ⟨rfl, hb⟩; replace TT := Lib.hid (TT.out.step hb); clear hb)
    | (go_at_call 17; refine (HI.out _).mono ?_; rintro r w7 ⟨rfl, hb⟩; replace TT := Lib.hid (TT.out.step hb); clear hb))
  obtain ⟨x0, x1, x2, x3, x4⟩ := TT.out.x.cells
  obtain ⟨y0, y1, y2, y3, y4⟩ := TT.out.y.cells
  rcases h1 with ⟨rfl, rfl⟩ | ⟨rfl, rfl⟩ <;> rcases h2 with ⟨rfl, rfl⟩ | ⟨rfl, rfl⟩
  all_goals
    go_upto_region 9 with (fail)
    have BB := Lib.hid TT.out.bel
    clear x0 x1 x2 x3 x4 y0 y1 y2 y3 y4 TT heq
    go_wp2_with (first
      | (go_at_call 18; refine (HK.out _).mono ?_; rintro r w8 ⟨rfl, hb⟩; replace BB := Lib.hid (BB.out.trans (hb.mono BB.out.size)); clear hb)
      | (go_at_call 19; refine (HL.out _).mono ?_; rintro r w9 ⟨rfl, hb⟩; replace BB := Lib.hid (BB.out.trans (hb.mono BB.out.size)); clear hb)
      | (go_at_call 7; refine (CelY.alive _).mono ?_; rintro r wA ⟨rfl, hb⟩; replace BB := Lib.hid (BB.out.trans (hb.mono BB.out.size)); clear hb))
    go_ret
    exact ⟨rfl, BB.out⟩
theorem take_of (s : List UInt8) : ∃ (ep sl lb : Int) (gn : Bool) (ci : List UInt8) (f : Int) (is : Bool), take s = (⟨ep, sl, lb, gn, ci⟩, f) ∧ decide (good s) = is ∧ ((is = true ∧ f = 0) ∨ (is = false ∧ f = 3)) := by
  by_cases h : good s
  · exact ⟨_, _, _, _, _, _, _, take_yes h, dt h, .inl ⟨rfl, rfl⟩⟩
  · exact ⟨_, _, _, _, _, _, _, take_no h, df h, .inr ⟨rfl, rfl⟩⟩
theorem held_of (s : List UInt8) : ∃ (t : List UInt8) (g : Int) (so : Bool), held s = (t, g) ∧ decide (hgood s) = so ∧ ((so = true ∧ g = 0) ∨ (so = false ∧ g = 3)) := by
  by_cases h : hgood s
  · exact ⟨_, _, _, held_yes h, dt h, .inl ⟨rfl, rfl⟩⟩
  · exact ⟨_, _, _, held_no h, df h, .inr ⟨rfl, rfl⟩⟩
theorem walk (t0 : ByteArray) (w : World) (_ : t0.size ≤ maxLen) :
    Calls Try.prog 4 #[.string t0] w fun r w' => r = .returned (.bool true) ∧ Below w.heap.size w w' := by
  obtain ⟨⟨s⟩⟩ := t0
  by_cases h : 10000 < s.length
  · exact long s w h
  · obtain ⟨ep, sl, lb, gn, ci, f, is, h1, h2, h3⟩ := take_of s
    obtain ⟨t, g, so, h4, h5, h6⟩ := held_of s
    exact short s ep sl lb gn ci f is t g so _ w h h1 h2 h4 h5 rfl h3 h6
theorem own : ownKnob Try.prog.godebug = none := by kernel_rfl
theorem laidOut : laidOutB Try.prog = true := by kernel_rfl
set_option maxRecDepth 100000 in
theorem lifted (os : Os) (started : os.Started) (H : Type) (enc : TypeId × Value → H) :
    ReturnsInHanded {} Try.checked os 4 .any (Rows.cellTakesSpec.pre6 enc Try.prog Try.f4 Rows.cellTakesRow.domain false) (Rows.cellTakesSpec.post enc Try.prog Try.f4 false true false false) := by
  refine returnsInHanded_of_change (C := Try.checked) own started (by kernel_rfl) Try.func4
    (ChangeSpec.witness6 (enc := enc) (C := Try.checked) false ⟨#[], #[.string ByteArray.empty], []⟩ 8 (by kernel_rfl) (by kernel_rfl) (by kernel_rfl) (by kernel_rfl)) ?_
  intro W base args ds gs before hval0 hW hcnd _
  have hval : ∀ (j : Nat) t v, Try.f4.params[j]? = some t → args[j]? = some v → Value.okWide Try.prog W .any base t v := hval0
  have hW' := hW
  obtain ⟨p, q, hA0, hV, rfl, hfz, hnd⟩ := hW
  have hA : DataW.TrodAll enc Try.prog W 0 (fun _ => true) true Try.f4.params.toList args.toList ds p := hA0
  rw [Try.params4] at hA hval
  obtain ⟨v0, vs0, d0, ds0, p0, q0, hargs, rfl, rfl, h0, r0⟩ := trodAll_cons hA
  obtain ⟨rfl, rfl, rfl⟩ := trodAll_nil r0
  obtain rfl : args = #[v0] := by cases args; simp_all
  obtain ⟨rfl, rfl⟩ := trodVars_none hV
  obtain ⟨a0, rfl, rfl, rfl, w0⟩ := open_string Try.underlying9 (hval 0 9 v0 rfl rfl) h0
  clear hA0 hval0
  refine (walk a0 W w0).mono fun e W' ⟨he, bel⟩ => ?_
  subst he
  exact ⟨_, rfl, _, _, _, [], _, [], hW', trodAll_mk1 (shut_bool Try.underlying4 _), (trodAll_cons_mk (shut_string Try.underlying9 w0) trodAll_mk0), rfl, bel.frame _, fun h => by cases h⟩
theorem over : Rows.cellTakesRow.holds Try.pinned (OpenSpec.ofChange Rows.cellTakesSpec) :=
  OpenClaim.holds_of_wide 4 Try.f4 rfl rfl rfl rfl rfl rfl rfl ⟨rfl, rfl, rfl, rfl, rfl⟩ rfl rfl rfl rfl rfl (by kernel_rfl) Try.func4 (by kernel_rfl)
    (of_decide_eq_true (by kernel_rfl)) (by unfold Func.isWrapper; first | (rw [if_pos (by decide +kernel)]; kernel_rfl) | (rw [if_neg (by decide +kernel)]; exact ⟨rfl, rfl⟩))
    (fun os started H enc _ => lifted os started H enc)
/-- THE STATEMENT, proved. -/
theorem proved : Rows.CellTakesSaid := over
#print axioms proved
end Go.Proofs.Yteobimhibhfokaa.cellTakes
