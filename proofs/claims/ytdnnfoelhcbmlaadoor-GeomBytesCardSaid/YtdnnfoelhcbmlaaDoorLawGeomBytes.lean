/- GeomBytes: at any shape and any text of at most 2^47 bytes, the shape's bytes, and the shape of the text, or that there is none, are the document's, and each leads back. The condition: the least and the most numbers lie in the program's two variables (the card ties them to the program's text). -/
import Derived.Test.YtdnnfoelhcbmlaaDoorGeoA
import Derived.Test.YtdnnfoelhcbmlaaDoorGeoQ
import Derived.Test.YtdnnfoelhcbmlaaDoorGeoS
import Derived.Test.YtdnnfoelhcbmlaaDoorRows
import Derived.Test.YtdnnfoelhcbmlaaDoorTie
import Derived.Test.YtdnnfoelhcbmlaaDoorCards
import Derived.Test.YtdnnfoelhcbmlaaDoorGeoL
import Derived.WalkKit
import Derived.ProofKit
import Derived.OpenShut
import Derived.ShutString
import Derived.ChangeOld
import Derived.Below
import Derived.LaidMore
import Derived.SevenTiedAt
import Derived.Stop.Joined
namespace Go.Proofs.YtdnnfoelhcbmlaaDoor.geomBytes
open Go.ChangeShapes Go.WideShapes Go.ChangeAt Go.RowKit
open Go.ChangeMaps (open_string shut_string)
set_option linter.unusedVariables false
open GeoN GeoC GeoS GeoU GeoP
theorem neq_self (x y z : Int) (W : World) : (binOp .neq 23 (.agg #[.int .i64 x, .int .i64 y, .int .i64 z]) (.agg #[.int .i64 x, .int .i64 y, .int .i64 z])).run Tryd.prog W = .ok (.bool false) W :=
  run_neq_geo W x y z x y z true (by simp)
theorem eql_self (x y z : Int) (W : World) : (binOp .eql 23 (.agg #[.int .i64 x, .int .i64 y, .int .i64 z]) (.agg #[.int .i64 x, .int .i64 y, .int .i64 z])).run Tryd.prog W = .ok (.bool true) W :=
  run_eql_geo W x y z x y z true (by simp)
/-- What stands behind the first four calls. -/
structure Four (w : World) (a b c : Int) (X Y : Nat) (x y z : Int) (W : World) : Prop where
  st : St w a b c W
  ax : At W X x y z
  ay : At W Y x y z
theorem Four.step {w W W' : World} {a b c : Int} {X Y : Nat} {x y z : Int} (h : Four w a b c X Y x y z W) (hb : Below W.heap.size W W') : Four w a b c X Y x y z W' := ⟨h.st.step hb, h.ax.step hb, h.ay.step hb⟩
set_option maxRecDepth 100000 in
set_option maxHeartbeats 4000000 in
theorem ways (a b c : Int) (s L : List UInt8) (x y z e f : Int) (is so : Bool) (w : World) (hb : Bnd w)
    (hp : put_ a b c = (L, e)) (hi : decide (right a b c) = is) (ht : take s = ((x, y, z), f)) (hs : decide ((take s).2 = 0) = so) (hl : s.length ≤ maxLen)
    (h2 : so = true → put_ x y z = (s, 0)) (h3 : is = true → take L = ((a, b, c), 0) ∧ L.length ≤ maxLen) (he : if is = true then e = 0 else e = 2) (hf : if so = true then f = 0 else f = 3) :
    Calls Tryd.prog 4 #[.agg #[.int .i64 a, .int .i64 b, .int .i64 c], .string ⟨s.toArray⟩] w fun e w' => e = .returned (.bool true) ∧ Below w.heap.size w w' := by
  have HP := Lib.hid (fun W h => GeoP.Put a b c W h)
  have HQ := Lib.hid (fun W => GeoQ.Put a b c W)
  have HT := Lib.hid (fun W h => GeoP.Take s W h hl)
  have HU := Lib.hid (fun W => GeoQ.Take s W)
  rw [hp] at HP HQ
  rw [hi] at HQ
  rw [hs] at HU
  rw [ht] at HT HU
  have HP2 := Lib.hid (fun (hh : so = true) W h => by have := GeoP.Put x y z W h; rw [h2 hh] at this; exact this)
  have HT2 := Lib.hid (fun (hh : is = true) W h => by have := GeoP.Take L W h (h3 hh).2; rw [(h3 hh).1] at this; exact this)
  have hne := fun W => neq_self x y z W
  have heq := fun W => eql_self a b c W
  clear h2 h3 hp hi ht hs hl
  obtain ⟨W1, hW1⟩ : ∃ W1, W1 = w.alloc (.cells #[.int .i64 a, .int .i64 b, .int .i64 c] 23) := ⟨_, rfl⟩
  have S1 : Hid (St w a b c W1) := Lib.hid (by rw [hW1]; exact st_new a b c hb)
  obtain ⟨k0, k1, k2⟩ := S1.out.cells
  go_enter Tryd.func4, Tryd.ntmps4
  go_upto_region 1 with (fail)
  rw [← hW1]
  clear hW1 hb
  go_upto_region 3 with (first
    | (go_at_call 15; refine (HP.out _ S1.out.bn).mono ?_; rintro e w2 ⟨rfl, hb2⟩; have S2 := Lib.hid (S1.out.step hb2); obtain ⟨k0, k1, k2⟩ := S2.out.cells; clear hb2 S1)
    | (go_at_call 16; refine (HQ.out _).mono ?_; rintro e w3 ⟨rfl, hb3⟩; have S3 := Lib.hid (S2.out.step hb3); clear hb3 S2))
  go_upto_region 4 with (first
    | (go_at_call 17; refine (HT.out _ S3.out.bn).mono ?_; rintro e w4 ⟨rfl, hb4⟩; have S4 := Lib.hid (S3.out.step hb4); clear hb4 S3)
    | (refine wpList_store_row rfl 23 _ _ rfl w4.heap.size _ rfl rfl 23 _ (heap_alloc_new w4 _) infoG rfl (one3 x y z) ?_))
  generalize hW5 : World.setRow (World.alloc w4 _) _ _ = W5
  have S5 : Hid (St w a b c W5) := Lib.hid (by rw [← hW5]; exact S4.out.step (kept_new _ _ _ _))
  have A5 : Hid (At W5 w4.heap.size x y z) := Lib.hid (by rw [← hW5]; exact has_new _ _ _ _)
  clear hW5 S4
  generalize w4.heap.size = X at *
  go_upto_region 5 with (first
    | (go_at_call 18; refine (HU.out _).mono ?_; rintro e w6 ⟨rfl, hb6⟩; have S6 := Lib.hid (S5.out.step hb6); have A6 := Lib.hid (A5.out.step hb6); clear hb6 S5 A5)
    | (refine wpList_store_row rfl 23 _ _ rfl w6.heap.size _ rfl rfl 23 _ (heap_alloc_new w6 _) infoG rfl (one3 x y z) ?_))
  generalize hW7 : World.setRow (World.alloc w6 _) _ _ = W7
  have FF : Hid (Four w a b c X w6.heap.size x y z W7) := Lib.hid (by rw [← hW7]; exact ⟨S6.out.step (kept_new _ _ _ _), A6.out.step (kept_new _ _ _ _), has_new _ _ _ _⟩)
  clear hW7 S6 A6
  generalize w6.heap.size = Y at *
  obtain ⟨x0, x1, x2⟩ := FF.out.ax.cells
  obtain ⟨y0, y1, y2⟩ := FF.out.ay.cells
  cases is <;> cases so
  all_goals simp only [if_true, if_false, Bool.false_eq_true] at he hf
  all_goals subst he hf
  · go_wp2_with (first
      | (go_at_call 14; refine (GeoA.alive _ FF.out.st.bn).mono ?_; rintro e w8 ⟨rfl, hb8⟩; have FE := Lib.hid (FF.out.step hb8); clear hb8))
    go_ret
    exact ⟨rfl, FE.out.st.bel⟩
  · replace HP2 := Lib.hid (HP2.out rfl)
    go_wp2_with (first
      | (go_at_call 15; refine (HP2.out _ FF.out.st.bn).mono ?_; rintro e w8 ⟨rfl, hb8⟩; have FG := Lib.hid (FF.out.step hb8); clear hb8 FF)
      | (go_at_call 14; refine (GeoA.alive _ FG.out.st.bn).mono ?_; rintro e w9 ⟨rfl, hb9⟩; have FE := Lib.hid (FG.out.step hb9); clear hb9))
    go_ret
    exact ⟨rfl, FE.out.st.bel⟩
  · replace HT2 := Lib.hid (HT2.out rfl)
    go_upto_region 14 with (first
      | (go_at_call 17; refine (HT2.out _ FF.out.st.bn).mono ?_; rintro e w8 ⟨rfl, hb8⟩; have FG := Lib.hid (FF.out.step hb8); clear hb8 FF)
      | (refine wpList_store_row rfl 23 _ _ rfl w8.heap.size _ rfl rfl 23 _ (heap_alloc_new w8 _) infoG rfl (one3 a b c) ?_))
    generalize hW9 : World.setRow (World.alloc w8 _) _ _ = W9
    have FH : Hid (Four w a b c X Y x y z W9) := Lib.hid (by rw [← hW9]; exact FG.out.step (kept_new _ _ _ _))
    have A9 : Hid (At W9 w8.heap.size a b c) := Lib.hid (by rw [← hW9]; exact has_new _ _ _ _)
    clear hW9 FG
    generalize w8.heap.size = Z at *
    obtain ⟨z0, z1, z2⟩ := A9.out.cells
    obtain ⟨g0, g1, g2⟩ := FH.out.st.cells
    go_wp2_with (first
      | (go_at_call 14; refine (GeoA.alive _ FH.out.st.bn).mono ?_; rintro e w10 ⟨rfl, hb10⟩; have FE := Lib.hid (FH.out.step hb10); clear hb10))
    go_ret
    exact ⟨rfl, FE.out.st.bel⟩
  · replace HP2 := Lib.hid (HP2.out rfl)
    replace HT2 := Lib.hid (HT2.out rfl)
    go_upto_region 14 with (first
      | (go_at_call 15; refine (HP2.out _ FF.out.st.bn).mono ?_; rintro e w7 ⟨rfl, hb7⟩; have FF7 := Lib.hid (FF.out.step hb7); clear hb7 FF)
      | (go_at_call 17; refine (HT2.out _ FF7.out.st.bn).mono ?_; rintro e w8 ⟨rfl, hb8⟩; have FG := Lib.hid (FF7.out.step hb8); clear hb8 FF7)
      | (refine wpList_store_row rfl 23 _ _ rfl w8.heap.size _ rfl rfl 23 _ (heap_alloc_new w8 _) infoG rfl (one3 a b c) ?_))
    generalize hW9 : World.setRow (World.alloc w8 _) _ _ = W9
    have FH : Hid (Four w a b c X Y x y z W9) := Lib.hid (by rw [← hW9]; exact FG.out.step (kept_new _ _ _ _))
    have A9 : Hid (At W9 w8.heap.size a b c) := Lib.hid (by rw [← hW9]; exact has_new _ _ _ _)
    clear hW9 FG
    generalize w8.heap.size = Z at *
    obtain ⟨z0, z1, z2⟩ := A9.out.cells
    obtain ⟨g0, g1, g2⟩ := FH.out.st.cells
    go_wp2_with (first
      | (go_at_call 14; refine (GeoA.alive _ FH.out.st.bn).mono ?_; rintro e w10 ⟨rfl, hb10⟩; have FE := Lib.hid (FH.out.step hb10); clear hb10))
    go_ret
    exact ⟨rfl, FE.out.st.bel⟩
theorem walk (a b c : Int) (t : ByteArray) (w : World) (wa : (Lit.int .i64 a).wf = true) (wb : (Lit.int .i64 b).wf = true) (wc : (Lit.int .i64 c).wf = true) (wt : t.size ≤ maxLen) (hr : Bnd w) :
    Calls Tryd.prog 4 #[.agg #[.int .i64 a, .int .i64 b, .int .i64 c], .string t] w fun e w' => e = .returned (.bool true) ∧ Below w.heap.size w w' := by
  obtain ⟨⟨s⟩⟩ := t
  have hl : s.length ≤ maxLen := by simpa [ByteArray.size] using wt
  have hback : ∀ x y z f, take s = ((x, y, z), f) → decide ((take s).2 = 0) = true → put_ x y z = (s, 0) := by
    intro x y z f ht hs
    by_cases hsh : shaped s
    · rw [take_yes hsh] at ht
      simp only [Prod.mk.injEq] at ht
      obtain ⟨⟨rfl, rfl, rfl⟩, _⟩ := ht
      rw [put_yes hsh.2, bytes_n hsh.1]
    · rw [take_no hsh] at hs
      simp at hs
  have hfs : if decide ((take s).2 = 0) = true then (take s).2 = 0 else (take s).2 = 3 := by
    by_cases hsh : shaped s
    · rw [take_yes hsh]; simp
    · rw [take_no hsh]; simp
  by_cases h : right a b c
  · refine ways a b c s (bytes3 a b c) (take s).1.1 (take s).1.2.1 (take s).1.2.2 0 (take s).2 true _ w hr (put_yes h) (decide_eq_true h) rfl rfl hl (fun hs => hback _ _ _ _ rfl hs) (fun _ => ⟨take_bytes h, by rw [bytes_len]; unfold maxLen; omega⟩) (by simp) hfs
  · refine ways a b c s [] (take s).1.1 (take s).1.2.1 (take s).1.2.2 2 (take s).2 false _ w hr (GeoP.put_no h) (decide_eq_false h) rfl rfl hl (fun hs => hback _ _ _ _ rfl hs) (fun hh => by cases hh) (by simp) hfs
theorem own : ownKnob Tryd.prog.godebug = none := by kernel_rfl
theorem laidOut : laidOutB Tryd.prog = true := by kernel_rfl
set_option maxRecDepth 100000 in
theorem lifted (os : Os) (started : os.Started) (H : Type) (enc : TypeId × Value → H) :
    ReturnsInHanded {} Tryd.checked os 4 .any (fun w args => (Rows.geomBytesSpec.pre enc Tryd.prog Tryd.f4 Rows.geomBytesRow.domain false w args ∧ laidMetH Tryd.prog Rows.geomBytesRow.laid w) ∧ sizedMet enc Tryd.prog Tryd.f4 (OpenSpec.ofChange Rows.geomBytesSpec) false w args) (Rows.geomBytesSpec.post enc Tryd.prog Tryd.f4 false true false false) := by
  refine returnsInHanded_of_change_and (C := Tryd.checked) (X := fun w _ => laidMetH Tryd.prog Rows.geomBytesRow.laid w) (fun _ _ _ hh h => h.of_heap hh) own started (by kernel_rfl) Tryd.func4
    (ChangeSpec.witness_shaped (enc := enc) (C := Tryd.checked) (os := os) (X := fun w _ => laidMetH Tryd.prog Rows.geomBytesRow.laid w) false (World.doorLaid Tryd.prog 400 os) #[.agg #[.int .i64 0, .int .i64 0, .int .i64 0], .string ByteArray.empty] 8 rfl (World.shaped_of_RefB (by kernel_rfl) (by kernel_rfl)) (by kernel_rfl) (by kernel_rfl) (by kernel_rfl) (GeoL.door_met os _)) ?_
  intro W base args ds gs before hval0 hW _ _ hL _
  have hr := GeoL.of_laid hL
  have hval : ∀ (j : Nat) t v, Tryd.f4.params[j]? = some t → args[j]? = some v → Value.okWide Tryd.prog W .any base t v := hval0
  have hW' := hW
  obtain ⟨p, q, hA0, hV, rfl, hfz, hnd⟩ := hW
  have hA : DataW.TrodAll enc Tryd.prog W 0 (fun _ => true) true Tryd.f4.params.toList args.toList ds p := hA0
  rw [Tryd.params4] at hA hval
  obtain ⟨v0, vs0, d0, ds0, p0, q0, hargs, rfl, rfl, h0, r0⟩ := trodAll_cons hA
  obtain ⟨v1, vs1, d1, ds1, p1, q1, rfl, rfl, rfl, h1, r1⟩ := trodAll_cons r0
  obtain ⟨rfl, rfl, rfl⟩ := trodAll_nil r1
  obtain rfl : args = #[v0, v1] := by cases args; simp_all
  obtain ⟨rfl, rfl⟩ := trodVars_none hV
  have k0 := h0
  have lt0 : ∀ x ∈ p0, x.block < W.heap.size := by obtain ⟨m, hm⟩ := k0; exact DataW.trod_lt m _ _ _ hm
  obtain ⟨a0, b0, c0, rfl, wa0, wb0, wc0⟩ := GeoL.open_geo (hval 0 23 v0 rfl rfl) h0
  obtain ⟨a1, rfl, rfl, rfl, w1⟩ := open_string Tryd.underlying9 (hval 1 9 v1 rfl rfl) h1
  clear hA0 hval0
  refine (walk a0 b0 c0 a1 W wa0 wb0 wc0 w1 hr).mono fun e W' ⟨he, bel⟩ => ?_
  subst he
  exact ⟨_, rfl, _, _, _, [], _, [], hW', trodAll_mk1 (shut_bool Tryd.underlying4 _), (trodAll_cons_mk (Below.trod laidOut (by kernel_rfl) (of_decide_eq_true (by kernel_rfl)) k0 bel lt0) (trodAll_cons_mk (shut_string Tryd.underlying9 w1) trodAll_mk0)), rfl, bel.frame _, fun h => by cases h⟩
theorem over : Rows.geomBytesRow.holds Tryd.pinned (OpenSpec.ofChange Rows.geomBytesSpec) :=
  OpenClaim.holds_of_wide 4 Tryd.f4 rfl rfl rfl rfl rfl rfl rfl ⟨rfl, rfl, rfl, rfl, rfl⟩ rfl rfl rfl rfl rfl (by kernel_rfl) Tryd.func4 (by kernel_rfl)
    (of_decide_eq_true (by kernel_rfl)) (by unfold Func.isWrapper; first | (rw [if_pos (by decide +kernel)]; kernel_rfl) | (rw [if_neg (by decide +kernel)]; exact ⟨rfl, rfl⟩))
    (fun os started H enc _ => lifted os started H enc)
/-- THE STATEMENT, proved. -/
theorem proved : Rows.GeomBytesCardSaid :=
  Claim7.holds_tied_plain_at .later [] _ true _ false
    over (fun _ h => by cases h) (by kernel_rfl) (fun _ h => by cases h) geomBytes_row_tie rfl ⟨rfl, rfl⟩ (by kernel_rfl) rfl
    (fun f fn hf hfn => by
      obtain rfl : f = 4 := Option.some.inj ((show Tryd.prog.funcNamed "keepsake/keepsakelaw09.GeomBytes" = some 4 by kernel_rfl).symm.trans hf) |>.symm
      obtain rfl : fn = Tryd.f4 := (Option.some.inj (Tryd.func4.symm.trans hfn)).symm
      exact ⟨by kernel_rfl, fun j t ht => by
        rw [Tryd.params4] at ht
        have hm : t ∈ [23, 9] := by simpa using Array.mem_of_getElem? ht
        have hall : ([23, 9].all fun u => !Tryd.prog.wantsStandIn u) = true := by kernel_rfl
        exact (show Tryd.prog.wantsStandIn t = false by simpa using List.all_eq_true.1 hall t hm)⟩)
    (by kernel_rfl)
#print axioms proved
end Go.Proofs.YtdnnfoelhcbmlaaDoor.geomBytes
