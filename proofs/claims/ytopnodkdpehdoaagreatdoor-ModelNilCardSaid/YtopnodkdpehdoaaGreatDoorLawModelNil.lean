/- ModelNil: at any call (one of more than some 12,000 bytes: the example alone), and whether there is a model that no call made or none: it answers Err 1, tells nothing, and there is no copy of it. No conditions but the laid variables. -/
import Derived.Test.YtopnodkdpehdoaaGreatDoorPgF
import Derived.Test.YtopnodkdpehdoaaGreatDoorPgZ
import Derived.Test.YtopnodkdpehdoaaGreatDoorGeoL
import Derived.Test.YtopnodkdpehdoaaGreatDoorRows
import Derived.Test.YtopnodkdpehdoaaGreatDoorTie
import Derived.Test.YtopnodkdpehdoaaGreatDoorCards
import Derived.WalkKit
import Derived.ProofKit
import Derived.OpenShut
import Derived.ShutString
import Derived.ChangeOld
import Derived.Below
import Derived.LaidMore
import Derived.SevenTiedAt
import Derived.Stop.Joined
namespace Go.Proofs.YtopnodkdpehdoaaGreatDoor.modelNil
open Go.ChangeShapes Go.WideShapes Go.ChangeAt Go.RowKit
open Go.ChangeMaps (open_string shut_string)
set_option linter.unusedVariables false
open RecN RecC RetR MdN MdO MdP CalR AnsC PgF GeoC
open PgA (Non)
abbrev callC (x : Ca) : Obj := .cells #[.int .i64 x.c.k, .int .i64 x.c.lb, .int .i64 x.c.ep, .int .i64 x.c.tm, .string ⟨x.c.da.toArray⟩, .string ⟨x.c.nm.toArray⟩, .slice x.p x.n x.cap] 35 (0, 0)
/-- The call in its block, the model that is none. -/
structure Nn (w : World) (x : Ca) (p : Option Addr) (W : World) : Prop where
  bel : Below w.heap.size w W
  k : W.heap[w.heap.size]? = some (.cells #[.int .i64 x.c.k, .int .i64 x.c.lb, .int .i64 x.c.ep, .int .i64 x.c.tm, .string ⟨x.c.da.toArray⟩, .string ⟨x.c.nm.toArray⟩, .slice x.p x.n x.cap] 35 (0, 0))
  n : Non W p
theorem Nn.step {w W W' : World} {x : Ca} {p : Option Addr} (h : Nn w x p W) (hb : Below W.heap.size W W') : Nn w x p W' := ⟨h.bel.trans (hb.mono h.bel.size), (hb.block _ (RecC.lt_of_some h.k)).trans h.k, h.n.step hb⟩
theorem Nn.drew {w W : World} {x : Ca} {p : Option Addr} (h : Nn w x p W) : Nn w x p W.drew := h.step ((Below.refl _ _).drew)
theorem Nn.cells {w W : World} {x : Ca} {p : Option Addr} (h : Nn w x p W) : W.cell? ⟨w.heap.size, 0, none⟩ = some (.int .i64 x.c.k) ∧ W.cell? ⟨w.heap.size, 1, none⟩ = some (.int .i64 x.c.lb) ∧ W.cell? ⟨w.heap.size, 2, none⟩ = some (.int .i64 x.c.ep) ∧ W.cell? ⟨w.heap.size, 3, none⟩ = some (.int .i64 x.c.tm) ∧ W.cell? ⟨w.heap.size, 4, none⟩ = some (.string ⟨x.c.da.toArray⟩) ∧ W.cell? ⟨w.heap.size, 5, none⟩ = some (.string ⟨x.c.nm.toArray⟩) ∧ W.cell? ⟨w.heap.size, 6, none⟩ = some (.slice x.p x.n x.cap) :=
  ⟨blk_cell h.k rfl, blk_cell h.k rfl, blk_cell h.k rfl, blk_cell h.k rfl, blk_cell h.k rfl, blk_cell h.k rfl, blk_cell h.k rfl⟩
set_option maxRecDepth 100000 in
set_option maxHeartbeats 4000000 in
theorem long (x : Ca) (there : Bool) (w : World) (hr : Bnd w) (hf : CalF.fewB [x] = false) :
    Calls Tryz.prog 7 #[.agg #[.int .i64 x.c.k, .int .i64 x.c.lb, .int .i64 x.c.ep, .int .i64 x.c.tm, .string ⟨x.c.da.toArray⟩, .string ⟨x.c.nm.toArray⟩, .slice x.p x.n x.cap], .bool there] w fun e w' => e = .returned (.bool true) ∧ Below w.heap.size w w' := by
  obtain ⟨W1, hW1⟩ : ∃ W1, W1 = w.alloc (.cells #[.int .i64 x.c.k, .int .i64 x.c.lb, .int .i64 x.c.ep, .int .i64 x.c.tm, .string ⟨x.c.da.toArray⟩, .string ⟨x.c.nm.toArray⟩, .slice x.p x.n x.cap] 35) := ⟨_, rfl⟩
  have NN : Hid (Nn w x none W1) := Lib.hid (by rw [hW1]; exact ⟨below_new w _, heap_alloc_new w _, .inl rfl⟩)
  have HF := Lib.hid (fun W Y (h : W.heap[Y]? = some (.cells #[.int .i64 x.c.k, .int .i64 x.c.lb, .int .i64 x.c.ep, .int .i64 x.c.tm, .string ⟨x.c.da.toArray⟩, .string ⟨x.c.nm.toArray⟩, .slice x.p x.n x.cap] 35 (0, 0))) => CalF.Few (some ⟨Y, 0, none⟩) 1 1 [x] W (MdT.lies_one h) rfl (by decide))
  have HA := Lib.hid (fun W (hb : Below w.heap.size w W) => MdQ.alive api W (api.gs (gd_of hr) hb))
  rw [hf] at HF
  clear hf hr
  go_enter Tryz.func7, Tryz.ntmps7
  go_upto_region 1 with (fail)
  rw [← hW1]
  clear hW1
  obtain ⟨k0, k1, k2, k3, k4, k5, k6⟩ := NN.out.cells
  go_wp2_with (first
    | (go_at_call 8; refine (HF.out _ _ (heap_alloc_new W1 _)).mono ?_; rintro e w2 ⟨rfl, hb⟩; replace NN := Lib.hid ((NN.out.step (below_new W1 _)).step hb); clear hb HF k0 k1 k2 k3 k4 k5 k6)
    | (go_at_call 9; refine (HA.out _ NN.out.bel).mono ?_; rintro e w3 ⟨rfl, hb⟩; replace NN := Lib.hid (NN.out.step hb); clear hb HA))
  go_ret
  exact ⟨rfl, NN.out.bel⟩
set_option maxRecDepth 100000 in
set_option maxHeartbeats 8000000 in
theorem few_ (x : Ca) (there : Bool) (w : World) (hr : Bnd w) (hf : CalF.fewB [x] = true) :
    Calls Tryz.prog 7 #[.agg #[.int .i64 x.c.k, .int .i64 x.c.lb, .int .i64 x.c.ep, .int .i64 x.c.tm, .string ⟨x.c.da.toArray⟩, .string ⟨x.c.nm.toArray⟩, .slice x.p x.n x.cap], .bool there] w fun e w' => e = .returned (.bool true) ∧ Below w.heap.size w w' := by
  obtain ⟨W1, hW1⟩ : ∃ W1, W1 = w.alloc (.cells #[.int .i64 x.c.k, .int .i64 x.c.lb, .int .i64 x.c.ep, .int .i64 x.c.tm, .string ⟨x.c.da.toArray⟩, .string ⟨x.c.nm.toArray⟩, .slice x.p x.n x.cap] 35) := ⟨_, rfl⟩
  have N0 : Hid (Nn w x none W1) := Lib.hid (by rw [hW1]; exact ⟨below_new w _, heap_alloc_new w _, .inl rfl⟩)
  have HF := Lib.hid (fun W Y (h : W.heap[Y]? = some (.cells #[.int .i64 x.c.k, .int .i64 x.c.lb, .int .i64 x.c.ep, .int .i64 x.c.tm, .string ⟨x.c.da.toArray⟩, .string ⟨x.c.nm.toArray⟩, .slice x.p x.n x.cap] 35 (0, 0))) => CalF.Few (some ⟨Y, 0, none⟩) 1 1 [x] W (MdT.lies_one h) rfl (by decide))
  have HA := Lib.hid (fun W (hb : Below w.heap.size w W) => MdQ.alive api W (api.gs (gd_of hr) hb))
  rw [hf] at HF
  clear hf hr
  have H1 := Lib.hid (fun p W (h : Non W p) => PgZ.Block h x.c.ep x.c.lb)
  have H2 := Lib.hid (fun p W (h : Non W p) => PgZ.Do h x.c x.p x.n x.cap)
  have H3 := Lib.hid (fun p W (h : Non W p) => PgZ.Gone h x.c.ep)
  have H4 := Lib.hid (fun p W (h : Non W p) => PgZ.Records h)
  have H5 := Lib.hid (fun p W (h : Non W p) => PgZ.Epoch h)
  have H6 := Lib.hid (fun p W (h : Non W p) => PgZ.Copy h)
  have H7 := Lib.hid (fun p W (h : Non W p) => PgZ.Same (q := p) h)
  have hqe : ∀ W, (binOp .eql 39 (.agg #[.int .i64 1, .string ⟨#[]⟩, .int .i64 0, .int .i64 0, .int .i64 0, .int .i64 0, .int .i64 0, .int .i64 0]) (.agg #[.int .i64 1, .string ⟨#[]⟩, .int .i64 0, .int .i64 0, .int .i64 0, .int .i64 0, .int .i64 0, .int .i64 0])).run Tryz.prog W = .ok (.bool true) W := fun W => run_eql_ans ⟨1, [], sta0⟩ ⟨1, [], sta0⟩ true (by simp) W
  go_enter Tryz.func7, Tryz.ntmps7
  go_upto_region 1 with (fail)
  rw [← hW1]
  clear hW1
  obtain ⟨k0, k1, k2, k3, k4, k5, k6⟩ := N0.out.cells
  cases there
  · go_upto_region 6 with (go_at_call 8; refine (HF.out _ _ (heap_alloc_new W1 _)).mono ?_; rintro e w2 ⟨rfl, hb⟩; have NN := Lib.hid ((N0.out.step (below_new W1 _)).step hb); clear hb HF k0 k1 k2 k3 k4 k5 k6)
    obtain ⟨k0, k1, k2, k3, k4, k5, k6⟩ := NN.out.cells
    go_upto_region 7 with (go_at_call 19; refine (H1.out _ _ NN.out.n).mono ?_; rintro e _ ⟨rfl, rfl⟩; clear H1)
    have hS := NN.out.cells
    go_wp2_with (first
        | (go_at_call 12; refine (H2.out _ _ NN.out.n).mono ?_; rintro e w4 ⟨rfl, hb⟩; replace NN := Lib.hid (NN.out.step hb); replace hS := NN.out.cells; clear hb H2)
        | (go_at_call 20; refine (H3.out _ _ NN.out.n).mono ?_; rintro e _ ⟨rfl, rfl⟩; clear H3)
        | (go_at_call 21; refine (H4.out _ _ NN.out.n).mono ?_; rintro e _ ⟨rfl, rfl⟩; clear H4)
        | (go_at_call 18; refine (H5.out _ _ NN.out.n).mono ?_; rintro e _ ⟨rfl, rfl⟩; clear H5)
        | (go_at_call 16; refine (H6.out _ _ NN.out.n).mono ?_; rintro e _ ⟨rfl, rfl⟩; clear H6)
        | (go_at_call 17; refine (H7.out _ _ NN.out.n).mono ?_; rintro e w5 ⟨rfl, hb⟩; replace NN := Lib.hid (NN.out.step hb); replace hS := NN.out.cells; clear hb H7)
        | (go_at_call 9; refine (HA.out _ NN.out.bel).mono ?_; rintro e w6 ⟨rfl, hb⟩; replace NN := Lib.hid (NN.out.step hb); replace hS := NN.out.cells; clear hb HA))
    go_ret
    exact ⟨rfl, NN.out.bel⟩
  · go_upto_region 6 with (go_at_call 8; refine (HF.out _ _ (heap_alloc_new W1 _)).mono ?_; rintro e w2 ⟨rfl, hb⟩; have NN := Lib.hid ((N0.out.step (below_new W1 _)).step hb); clear hb HF k0 k1 k2 k3 k4 k5 k6)
    generalize hW : World.alloc w2 _ = W3
    have b3 : Below w2.heap.size w2 W3 := by rw [← hW]; exact below_new w2 _
    have n3 : Non W3 (some ⟨w2.heap.size, 0, none⟩) := .inr ⟨_, rfl, by rw [← hW]; exact heap_alloc_new w2 _⟩
    have NN0 : Hid (Nn w x (some ⟨w2.heap.size, 0, none⟩) W3) := Lib.hid ⟨(NN.out.step b3).bel, (NN.out.step b3).k, n3⟩
    clear NN hW b3 n3
    have NN := Lib.hid NN0.out
    clear NN0
    obtain ⟨k0, k1, k2, k3, k4, k5, k6⟩ := NN.out.cells
    go_upto_region 7 with (go_at_call 19; refine (H1.out _ _ NN.out.n).mono ?_; rintro e _ ⟨rfl, rfl⟩; clear H1)
    have hS := NN.out.cells
    go_wp2_with (first
        | (go_at_call 12; refine (H2.out _ _ NN.out.n).mono ?_; rintro e w4 ⟨rfl, hb⟩; replace NN := Lib.hid (NN.out.step hb); replace hS := NN.out.cells; clear hb H2)
        | (go_at_call 20; refine (H3.out _ _ NN.out.n).mono ?_; rintro e _ ⟨rfl, rfl⟩; clear H3)
        | (go_at_call 21; refine (H4.out _ _ NN.out.n).mono ?_; rintro e _ ⟨rfl, rfl⟩; clear H4)
        | (go_at_call 18; refine (H5.out _ _ NN.out.n).mono ?_; rintro e _ ⟨rfl, rfl⟩; clear H5)
        | (go_at_call 16; refine (H6.out _ _ NN.out.n).mono ?_; rintro e _ ⟨rfl, rfl⟩; clear H6)
        | (go_at_call 17; refine (H7.out _ _ NN.out.n).mono ?_; rintro e w5 ⟨rfl, hb⟩; replace NN := Lib.hid (NN.out.step hb); replace hS := NN.out.cells; clear hb H7)
        | (go_at_call 9; refine (HA.out _ NN.out.bel).mono ?_; rintro e w6 ⟨rfl, hb⟩; replace NN := Lib.hid (NN.out.step hb); replace hS := NN.out.cells; clear hb HA))
    go_ret
    exact ⟨rfl, NN.out.bel⟩
theorem walk (x : Ca) (there : Bool) (w : World) (hx : FitC x) (hr : Bnd w) :
    Calls Tryz.prog 7 #[.agg #[.int .i64 x.c.k, .int .i64 x.c.lb, .int .i64 x.c.ep, .int .i64 x.c.tm, .string ⟨x.c.da.toArray⟩, .string ⟨x.c.nm.toArray⟩, .slice x.p x.n x.cap], .bool there] w fun e w' => e = .returned (.bool true) ∧ Below w.heap.size w w' := by
  cases hf : CalF.fewB [x] with
  | false => exact long x there w hr hf
  | true => exact few_ x there w hr hf
theorem own : ownKnob Tryz.prog.godebug = none := by kernel_rfl
theorem laidOut : laidOutB Tryz.prog = true := by kernel_rfl
set_option maxRecDepth 100000 in
theorem lifted (os : Os) (started : os.Started) (H : Type) (enc : TypeId × Value → H) :
    ReturnsInHanded {} Tryz.checked os 7 .any (fun w args => (Rows.modelNilSpec.pre enc Tryz.prog Tryz.f7 Rows.modelNilRow.domain false w args ∧ laidMetH Tryz.prog Rows.modelNilRow.laid w) ∧ sizedMet enc Tryz.prog Tryz.f7 (OpenSpec.ofChange Rows.modelNilSpec) false w args) (Rows.modelNilSpec.post enc Tryz.prog Tryz.f7 false true false false) := by
  refine returnsInHanded_of_change_and (C := Tryz.checked) (X := fun w _ => laidMetH Tryz.prog Rows.modelNilRow.laid w) (fun _ _ _ hh h => h.of_heap hh) own started (by kernel_rfl) Tryz.func7
    (ChangeSpec.witness_shaped (enc := enc) (C := Tryz.checked) (os := os) (X := fun w _ => laidMetH Tryz.prog Rows.modelNilRow.laid w) false (World.doorLaid Tryz.prog 400 os) #[.agg #[.int .i64 0, .int .i64 0, .int .i64 0, .int .i64 0, .string ByteArray.empty, .string ByteArray.empty, .slice none 0 0], .bool false] 8 rfl (World.shaped_of_RefB (by kernel_rfl) (by kernel_rfl)) (by kernel_rfl) (by kernel_rfl) (by kernel_rfl) (GeoL.door_met os _)) ?_
  intro W base args ds gs before hval0 hW _ hZ hL _
  have hr := GeoL.of_laid hL
  have hval : ∀ (j : Nat) t v, Tryz.f7.params[j]? = some t → args[j]? = some v → Value.okWide Tryz.prog W .any base t v := hval0
  have hW' := hW
  obtain ⟨p, q, hA0, hV, rfl, hfz, hnd⟩ := hW
  have hA : DataW.TrodAll enc Tryz.prog W 0 (fun _ => true) true Tryz.f7.params.toList args.toList ds p := hA0
  rw [Tryz.params7] at hA hval
  obtain ⟨v0, vs0, d0, ds0, p0, q0, hargs, rfl, rfl, h0, r0⟩ := trodAll_cons hA
  obtain ⟨v1, vs1, d1, ds1, p1, q1, rfl, rfl, rfl, h1, r1⟩ := trodAll_cons r0
  obtain ⟨rfl, rfl, rfl⟩ := trodAll_nil r1
  obtain rfl : args = #[v0, v1] := by cases args; simp_all
  obtain ⟨rfl, rfl⟩ := trodVars_none hV
  have k0 := h0
  have lt0 : ∀ x ∈ p0, x.block < W.heap.size := by obtain ⟨m, hm⟩ := k0; exact DataW.trod_lt m _ _ _ hm
  obtain ⟨a0, rfl, w0⟩ := CalR.open_call (hval 0 35 v0 rfl rfl) h0
  obtain ⟨a1, rfl, rfl, rfl⟩ := open_bool Tryz.underlying4 (hval 1 4 v1 rfl rfl) h1
  clear hA0 hval0
  refine (walk a0 a1 W w0 hr).mono fun e W' ⟨he, bel⟩ => ?_
  subst he
  exact ⟨_, rfl, _, _, _, [], _, [], hW', trodAll_mk1 (shut_bool Tryz.underlying4 _), (trodAll_cons_mk (Below.trod laidOut (by kernel_rfl) (of_decide_eq_true (by kernel_rfl)) k0 bel lt0) (trodAll_cons_mk (shut_bool Tryz.underlying4 a1) trodAll_mk0)), rfl, bel.frame _, fun h => by cases h⟩
theorem over : Rows.modelNilRow.holds Tryz.pinned (OpenSpec.ofChange Rows.modelNilSpec) :=
  OpenClaim.holds_of_wide 7 Tryz.f7 rfl rfl rfl rfl rfl rfl rfl ⟨rfl, rfl, rfl, rfl, rfl⟩ rfl rfl rfl rfl rfl (by kernel_rfl) Tryz.func7 (by kernel_rfl)
    (of_decide_eq_true (by kernel_rfl)) (by unfold Func.isWrapper; first | (rw [if_pos (by decide +kernel)]; kernel_rfl) | (rw [if_neg (by decide +kernel)]; exact ⟨rfl, rfl⟩))
    (fun os started H enc _ => lifted os started H enc)
/-- THE STATEMENT, proved. -/
theorem proved : Rows.ModelNilCardSaid :=
  Claim7.holds_tied_plain_at .later [] _ true _ _
    over (fun _ h => by cases h) (by kernel_rfl) (fun _ h => by cases h) modelNil_row_tie rfl ⟨rfl, rfl⟩ (by kernel_rfl) rfl
    (fun f fn hf hfn => by
      obtain rfl : f = 7 := Option.some.inj ((show Tryz.prog.funcNamed "keepsake/keepsakelaw24.ModelNil" = some 7 by kernel_rfl).symm.trans hf) |>.symm
      obtain rfl : fn = Tryz.f7 := (Option.some.inj (Tryz.func7.symm.trans hfn)).symm
      exact ⟨by kernel_rfl, fun j t ht => by
        rw [Tryz.params7] at ht
        have hm : t ∈ [35, 4] := by simpa using Array.mem_of_getElem? ht
        have hall : ([35, 4].all fun u => !Tryz.prog.wantsStandIn u) = true := by kernel_rfl
        exact (show Tryz.prog.wantsStandIn t = false by simpa using List.all_eq_true.1 hall t hm)⟩)
    (by kernel_rfl)
#print axioms proved
end Go.Proofs.YtopnodkdpehdoaaGreatDoor.modelNil
