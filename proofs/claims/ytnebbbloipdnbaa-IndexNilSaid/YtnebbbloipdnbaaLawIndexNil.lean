/- IndexNil: at any version: an index that is none, and one that no call made, has nothing and takes nothing. No conditions. -/
import Derived.Test.YtnebbbloipdnbaaIdxY
import Derived.Test.YtnebbbloipdnbaaIdxE
import Derived.Test.YtnebbbloipdnbaaRows
import Derived.WalkKit
import Derived.ProofKit
import Derived.OpenShut
import Derived.ShutString
import Derived.ChangeOld
import Derived.Below
namespace Go.Proofs.Ytnebbbloipdnbaa.indexNil
open Go.ChangeShapes Go.WideShapes Go.ChangeAt Go.RowKit
open Go.ChangeMaps (open_string shut_string)
set_option linter.unusedVariables false
open IdxN IdxM IdxC IdxD IdxH IdxI IdxJ IdxK IdxV IdxW
/-- What stands while the statement runs. -/
structure Nl (w : World) (s : Option Addr) (x : V) (W : World) : Prop where
  bel : Below w.heap.size w W
  non : Non W s
  box : Box w.heap.size x W
theorem Nl.step {w W W' : World} {s : Option Addr} {x : V} (h : Nl w s x W) (hb : Below W.heap.size W W') : Nl w s x W' := ⟨h.bel.trans (hb.mono h.bel.size), h.non.step hb, h.box.step hb⟩
def Bare (w : World) (e : Ending) (w' : World) : Prop := ∃ a c, e = .returned (.slice a 0 c) ∧ Below w.heap.size w w'
theorem bare {w w' : World} {e : Ending} (h : Cloned [] w e w') : Bare w e w' := by
  obtain ⟨v, rfl, hown, hb⟩ := h
  obtain ⟨a, c, rfl⟩ := own_slice_len hown
  exact ⟨a, c, rfl, hb⟩
set_option maxRecDepth 100000 in
set_option maxHeartbeats 4000000 in
theorem walk (x : V) (t : Bool) (w : World) :
    Calls Try.prog 6 #[.agg #[.int .i64 x.1, .int .i64 x.2.1, .int .i64 x.2.2], .bool t] w fun e w' => e = .returned (.bool true) ∧ Below w.heap.size w w' := by
  have HX := Lib.hid (box_new w x)
  have HB := Lib.hid (below_new w (.cells #[.int .i64 x.1, .int .i64 x.2.1, .int .i64 x.2.2] 27))
  have hE := fun W => run_eql_ver W (0, 0, 0) (0, 0, 0)
  have hd : decide (((0, 0, 0) : V) = (0, 0, 0)) = true := decide_eq_true rfl
  rw [hd] at hE
  dsimp only at hE
  obtain ⟨x0, x1, x2⟩ := x
  have HN := Lib.hid (fun s W (h : Non W s) => Newest s [] x0 x1 W (IdxW.Non.rd h) (by simp) Sorted.nil)
  have HO := Lib.hid (fun s W (h : Non W s) => Of s [] x0 x1 W (IdxW.Non.rd h) (by simp) Sorted.nil)
  have HA := Lib.hid (fun s W (h : Non W s) => IdxA.Add_none s (x0, x1, x2) W h)
  have HAl := Lib.hid (fun s W (h : Non W s) => (All s [] W (IdxW.Non.rd h) (by simp)).mono fun _ _ => bare)
  have HEp := Lib.hid (fun s W (h : Non W s) => (IdxE.Epoch s [] x1 W (IdxW.Non.rd h) (by simp) Sorted.nil).mono fun _ _ => bare)
  have HP := Lib.hid (fun s W (h : Non W s) => (Places s [] W (IdxW.Non.rd h) (by simp) Sorted.nil).mono (R' := fun e w' => e = .returned (.int .i64 0) ∧ Below W.heap.size W w') fun _ _ h => ⟨h.1, h.2⟩)
  have HC := Lib.hid (fun s W (h : Non W s) => IdxX.Copy_none s W h)
  rw [show newest [] x0 x1 = (z0, false) from rfl] at HN
  rw [show IdxM.of [] x0 x1 = (z0, false) from rfl] at HO
  dsimp only at HX HB HA
  clear hd
  go_enter Try.func6, Try.ntmps6
  cases t
  case' false =>
    go_upto_region 4 with (fail)
    generalize World.alloc w _ = W1 at *
    have NN : Hid (Nl w none (x0, x1, x2) W1) := Lib.hid ⟨HB.out, .inl rfl, HX.out⟩
    clear HX HB
    obtain ⟨k0, k1, k2⟩ := NN.out.box
    dsimp only at k0 k1 k2
  case' true =>
    go_upto_region 4 with (fail)
    generalize hW : World.alloc (World.alloc w _) _ = W2
    have NN : Hid (Nl w (some ⟨w.heap.size + 1, 0, none⟩) (x0, x1, x2) W2) := Lib.hid (by
      rw [← hW]
      have hb := below_new (w.alloc (.cells #[.int .i64 x0, .int .i64 x1, .int .i64 x2] 27)) (.cells #[.pointer none] 47)
      exact ⟨HB.out.trans (hb.mono HB.out.size), .inr ⟨_, rfl, heap_alloc2_new w _ _⟩, HX.out.step hb⟩)
    clear hW HX HB
    obtain ⟨k0, k1, k2⟩ := NN.out.box
    dsimp only at k0 k1 k2
  all_goals
    go_upto_region 5 with (first
      | (go_at_call 11; refine (HN.out _ _ NN.out.non).mono ?_; rintro e w2 ⟨rfl, hb⟩; have N2 := Lib.hid (NN.out.step hb); clear hb k0 k1 k2)
      | (refine wpList_store_row rfl 27 _ _ rfl w2.heap.size _ rfl rfl 27 _ (heap_alloc_new w2 _) infoV rfl (one3 z0) ?_))
    generalize hW : World.setRow _ _ _ = W3
    have b3 : Below w2.heap.size w2 W3 := by rw [← hW]; exact kept_new w2 _ _ _
    have g3 : W3.heap[w2.heap.size]? = some (.cells #[.int .i64 0, .int .i64 0, .int .i64 0] 27 (0, 0)) := by rw [← hW]; exact has_new w2 _ _ _
    have N3 := Lib.hid (N2.out.step b3)
    have G3 := Lib.hid g3
    clear hW b3 g3 N2 NN
    obtain ⟨k0, k1, k2⟩ := N3.out.box
    dsimp only at k0 k1 k2
    generalize w2.heap.size = X3 at *
    go_upto_region 6 with (first
      | (go_at_call 13; refine (HO.out _ _ N3.out.non).mono ?_; rintro e w4 ⟨rfl, hb⟩; have N4 := Lib.hid (N3.out.step hb); have G4 := Lib.hid ((hb.block _ (lt_of G3.out)).trans G3.out); clear hb k0 k1 k2)
      | (refine wpList_store_row rfl 27 _ _ rfl w4.heap.size _ rfl rfl 27 _ (heap_alloc_new w4 _) infoV rfl (one3 z0) ?_))
    generalize hW : World.setRow _ _ _ = W5
    have b5 : Below w4.heap.size w4 W5 := by rw [← hW]; exact kept_new w4 _ _ _
    have g5 : W5.heap[w4.heap.size]? = some (.cells #[.int .i64 0, .int .i64 0, .int .i64 0] 27 (0, 0)) := by rw [← hW]; exact has_new w4 _ _ _
    have N5 := Lib.hid (N4.out.step b5)
    have G5 := Lib.hid g5
    have G5' := Lib.hid ((b5.block _ (lt_of G4.out)).trans G4.out)
    clear hW b5 g5 N4 N3 G3 G4
    generalize w4.heap.size = X5 at *
    have HS : Hid (∀ W, Below W5.heap.size W5 W → W.cell? ⟨w.heap.size, 0, none⟩ = some (.int .i64 x0) ∧ W.cell? ⟨w.heap.size, 1, none⟩ = some (.int .i64 x1) ∧ W.cell? ⟨w.heap.size, 2, none⟩ = some (.int .i64 x2) ∧ W.cell? ⟨X3, 0, none⟩ = some (.int .i64 0) ∧ W.cell? ⟨X3, 1, none⟩ = some (.int .i64 0) ∧ W.cell? ⟨X3, 2, none⟩ = some (.int .i64 0) ∧ W.cell? ⟨X5, 0, none⟩ = some (.int .i64 0) ∧ W.cell? ⟨X5, 1, none⟩ = some (.int .i64 0) ∧ W.cell? ⟨X5, 2, none⟩ = some (.int .i64 0)) := Lib.hid fun W hb =>
      have c3 := (hb.block _ (lt_of G5'.out)).trans G5'.out
      have c5 := (hb.block _ (lt_of G5.out)).trans G5.out
      ⟨(N5.out.step hb).box.1, (N5.out.step hb).box.2.1, (N5.out.step hb).box.2.2, blk_cell c3 rfl, blk_cell c3 rfl, blk_cell c3 rfl, blk_cell c5 rfl, blk_cell c5 rfl, blk_cell c5 rfl⟩
    have hS0 := HS.out W5 (Below.refl _ _)
    have BB := Lib.hid ((Below.refl W5.heap.size W5).drew)
    go_region_held3 (fun W => W.cell? ⟨w.heap.size, 0, none⟩ = some (.int .i64 x0) ∧ W.cell? ⟨w.heap.size, 1, none⟩ = some (.int .i64 x1) ∧ W.cell? ⟨w.heap.size, 2, none⟩ = some (.int .i64 x2) ∧ W.cell? ⟨X3, 0, none⟩ = some (.int .i64 0) ∧ W.cell? ⟨X3, 1, none⟩ = some (.int .i64 0) ∧ W.cell? ⟨X3, 2, none⟩ = some (.int .i64 0) ∧ W.cell? ⟨X5, 0, none⟩ = some (.int .i64 0) ∧ W.cell? ⟨X5, 1, none⟩ = some (.int .i64 0) ∧ W.cell? ⟨X5, 2, none⟩ = some (.int .i64 0))
      (first | exact hS | exact hS0)
      (first
        | (go_at_call 10; refine (HA.out _ _ (N5.out.step BB.out).non).mono ?_; rintro e w6 ⟨rfl, k⟩; replace BB := Lib.hid (BB.out.trans (k.mono BB.out.size)); have hS := HS.out _ BB.out; clear k)
        | (go_at_call 17; refine (HAl.out _ _ (N5.out.step BB.out).non).mono ?_; rintro e w7 ⟨a7, c7, rfl, k⟩; replace BB := Lib.hid (BB.out.trans (k.mono BB.out.size)); have hS := HS.out _ BB.out; clear k)
        | (go_at_call 15; refine (HEp.out _ _ (N5.out.step BB.out).non).mono ?_; rintro e w8 ⟨a8, c8, rfl, k⟩; replace BB := Lib.hid (BB.out.trans (k.mono BB.out.size)); have hS := HS.out _ BB.out; clear k)
        | (go_at_call 19; refine (HP.out _ _ (N5.out.step BB.out).non).mono ?_; rintro e w9 ⟨rfl, k⟩; replace BB := Lib.hid (BB.out.trans (k.mono BB.out.size)); have hS := HS.out _ BB.out; clear k)
        | (go_at_call 21; refine (HC.out _ _ (N5.out.step BB.out).non).mono ?_; rintro e _ ⟨rfl, rfl⟩; have hS := HS.out _ BB.out)
        | (go_at_call 7; refine (IdxO.alive _).mono ?_; rintro e w10 ⟨rfl, k⟩; replace BB := Lib.hid (BB.out.trans (k.mono BB.out.size)); have hS := HS.out _ BB.out; clear k))
    clear hS
    go_wp2
    go_ret
    exact ⟨rfl, (N5.out.step BB.out).bel⟩
theorem own : ownKnob Try.prog.godebug = none := by kernel_rfl
theorem laidOut : laidOutB Try.prog = true := by kernel_rfl
set_option maxRecDepth 100000 in
theorem lifted (os : Os) (started : os.Started) (H : Type) (enc : TypeId × Value → H) :
    ReturnsInHanded {} Try.checked os 6 .any (Rows.indexNilSpec.pre6 enc Try.prog Try.f6 Rows.indexNilRow.domain false) (Rows.indexNilSpec.post enc Try.prog Try.f6 false true false false) := by
  refine returnsInHanded_of_change (C := Try.checked) own started (by kernel_rfl) Try.func6
    (ChangeSpec.witness6 (enc := enc) (C := Try.checked) false ⟨#[], #[.agg #[.int .i64 0, .int .i64 0, .int .i64 0], .bool false], []⟩ 8 (by kernel_rfl) (by kernel_rfl) (by kernel_rfl) (by kernel_rfl)) ?_
  intro W base args ds gs before hval0 hW hcnd _
  have hval : ∀ (j : Nat) t v, Try.f6.params[j]? = some t → args[j]? = some v → Value.okWide Try.prog W .any base t v := hval0
  have hW' := hW
  obtain ⟨p, q, hA0, hV, rfl, hfz, hnd⟩ := hW
  have hA : DataW.TrodAll enc Try.prog W 0 (fun _ => true) true Try.f6.params.toList args.toList ds p := hA0
  rw [Try.params6] at hA hval
  obtain ⟨v0, vs0, d0, ds0, p0, q0, hargs, rfl, rfl, h0, r0⟩ := trodAll_cons hA
  obtain ⟨v1, vs1, d1, ds1, p1, q1, rfl, rfl, rfl, h1, r1⟩ := trodAll_cons r0
  obtain ⟨rfl, rfl, rfl⟩ := trodAll_nil r1
  obtain rfl : args = #[v0, v1] := by cases args; simp_all
  obtain ⟨rfl, rfl⟩ := trodVars_none hV
  have k0 := h0
  have lt0 : ∀ x ∈ p0, x.block < W.heap.size := by obtain ⟨m, hm⟩ := k0; exact DataW.trod_lt m _ _ _ hm
  obtain ⟨a0, rfl⟩ := IdxY.open_ver (hval 0 27 v0 rfl rfl) h0
  obtain ⟨a1, rfl, rfl, rfl⟩ := open_bool Try.underlying4 (hval 1 4 v1 rfl rfl) h1
  clear hA0 hval0
  refine (walk a0 a1 W ).mono fun e W' ⟨he, bel⟩ => ?_
  subst he
  exact ⟨_, rfl, _, _, _, [], _, [], hW', trodAll_mk1 (shut_bool Try.underlying4 _), (trodAll_cons_mk (Below.trod laidOut (by kernel_rfl) (of_decide_eq_true (by kernel_rfl)) k0 bel lt0) (trodAll_cons_mk (shut_bool Try.underlying4 a1) trodAll_mk0)), rfl, bel.frame _, fun h => by cases h⟩
theorem over : Rows.indexNilRow.holds Try.pinned (OpenSpec.ofChange Rows.indexNilSpec) :=
  OpenClaim.holds_of_wide 6 Try.f6 rfl rfl rfl rfl rfl rfl rfl ⟨rfl, rfl, rfl, rfl, rfl⟩ rfl rfl rfl rfl rfl (by kernel_rfl) Try.func6 (by kernel_rfl)
    (of_decide_eq_true (by kernel_rfl)) (by unfold Func.isWrapper; first | (rw [if_pos (by decide +kernel)]; kernel_rfl) | (rw [if_neg (by decide +kernel)]; exact ⟨rfl, rfl⟩))
    (fun os started H enc _ => lifted os started H enc)
/-- THE STATEMENT, proved. -/
theorem proved : Rows.IndexNilSaid := over
#print axioms proved
end Go.Proofs.Ytnebbbloipdnbaa.indexNil
