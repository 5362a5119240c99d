/- RetainNil: at any record of at most 20,000 bytes (others: only the chapter's example), and whether there is a book that no call made or none: it refuses the record, tells nothing, and there is no copy of it. No conditions. -/
import Derived.Test.YteldohopagdodaaRetZ
import Derived.Test.YteldohopagdodaaRetF
import Derived.Test.YteldohopagdodaaRows
import Derived.WalkKit
import Derived.ProofKit
import Derived.OpenShut
import Derived.ShutString
import Derived.ChangeOld
import Derived.Below
namespace Go.Proofs.Yteldohopagdodaa.retainNil
open Go.ChangeShapes Go.WideShapes Go.ChangeAt Go.RowKit
open Go.ChangeMaps (open_string shut_string)
set_option linter.unusedVariables false
open RecN RecC RetN RetC RetR RetF RetZ
theorem few_one (r : Rec) (w : World) : Calls Try.prog 6 #[.slice (some ⟨w.heap.size, 0, none⟩) 1 1] (w.alloc (.cells #[.int .i64 r.k, .int .i64 r.ep, .int .i64 r.tm, .int .i64 r.ct, .int .i64 r.tg, .int .i64 r.un, .string ⟨r.rt.toArray⟩, .string ⟨r.nm.toArray⟩] 30)) fun e w' => e = .returned (.bool (fewB [r])) ∧ Below w.heap.size w w' := by
  have hb := below_new w (.cells #[.int .i64 r.k, .int .i64 r.ep, .int .i64 r.tm, .int .i64 r.ct, .int .i64 r.tg, .int .i64 r.un, .string ⟨r.rt.toArray⟩, .string ⟨r.nm.toArray⟩] 30)
  refine (Few _ 1 1 [r] _ (lies_block (heap_alloc_new w _) rfl) rfl (by decide)).mono ?_
  rintro e w' ⟨rfl, h⟩
  exact ⟨rfl, hb.trans (h.mono hb.size)⟩
set_option maxRecDepth 100000 in
theorem long (r : Rec) (there : Bool) (w : World) (hf : fewB [r] = false) :
    Calls Try.prog 4 #[.agg #[.int .i64 r.k, .int .i64 r.ep, .int .i64 r.tm, .int .i64 r.ct, .int .i64 r.tg, .int .i64 r.un, .string ⟨r.rt.toArray⟩, .string ⟨r.nm.toArray⟩], .bool there] w fun e w' => e = .returned (.bool true) ∧ Below w.heap.size w w' := by
  obtain ⟨W1, hW1⟩ : ∃ W1, W1 = w.alloc (.cells #[.int .i64 r.k, .int .i64 r.ep, .int .i64 r.tm, .int .i64 r.ct, .int .i64 r.tg, .int .i64 r.un, .string ⟨r.rt.toArray⟩, .string ⟨r.nm.toArray⟩] 30) := ⟨_, rfl⟩
  have SS : Hid (Ws w r W1) := Lib.hid (by rw [hW1]; exact ws_new w r)
  have HF := Lib.hid (few_one r W1)
  rw [hf] at HF
  obtain ⟨k0, k1, k2, k3, k4, k5, k6, k7⟩ := SS.out.k.cells
  clear hf
  go_enter Try.func4, Try.ntmps4
  go_upto_region 1 with (fail)
  rw [← hW1]
  clear hW1
  go_wp2_with (first
    | (go_at_call 6; refine HF.out.mono ?_; rintro e w2 ⟨rfl, hb⟩; replace SS := Lib.hid (SS.out.step hb); clear hb HF)
    | (go_at_call 7; refine (alive _).mono ?_; rintro e w3 ⟨rfl, hb⟩; replace SS := Lib.hid (SS.out.step hb); clear hb))
  go_ret
  exact ⟨rfl, SS.out.bel⟩
structure Wn (w : World) (r : Rec) (p : Option Addr) (W : World) : Prop where
  s : Ws w r W
  n : Non W p
theorem Wn.step {w W W' : World} {r : Rec} {p : Option Addr} (h : Wn w r p W) (hb : Below W.heap.size W W') : Wn w r p W' := ⟨h.s.step hb, h.n.step hb⟩
theorem Wn.drew {w W : World} {r : Rec} {p : Option Addr} (h : Wn w r p W) : Wn w r p W.drew := ⟨h.s.drew, h.n.step ((Below.refl _ _).drew)⟩
set_option maxRecDepth 100000 in
set_option maxHeartbeats 4000000 in
theorem few_ (r : Rec) (there : Bool) (w : World) (hf : fewB [r] = true) :
    Calls Try.prog 4 #[.agg #[.int .i64 r.k, .int .i64 r.ep, .int .i64 r.tm, .int .i64 r.ct, .int .i64 r.tg, .int .i64 r.un, .string ⟨r.rt.toArray⟩, .string ⟨r.nm.toArray⟩], .bool there] w fun e w' => e = .returned (.bool true) ∧ Below w.heap.size w w' := by
  obtain ⟨W1, hW1⟩ : ∃ W1, W1 = w.alloc (.cells #[.int .i64 r.k, .int .i64 r.ep, .int .i64 r.tm, .int .i64 r.ct, .int .i64 r.tg, .int .i64 r.un, .string ⟨r.rt.toArray⟩, .string ⟨r.nm.toArray⟩] 30) := ⟨_, rfl⟩
  have SS : Hid (Ws w r W1) := Lib.hid (by rw [hW1]; exact ws_new w r)
  have HF := Lib.hid (few_one r W1)
  rw [hf] at HF
  have H1 := Lib.hid (fun p W (h : Non W p) => May_none h r)
  have H2 := Lib.hid (fun p W (h : Non W p) => Apply_none h r)
  have H3 := Lib.hid (fun p W (h : Non W p) => Epoch_none h)
  have H4 := Lib.hid (fun p W (h : Non W p) => Now_none h)
  have H5 := Lib.hid (fun p W (h : Non W p) => Until_none h r.tg)
  have H6 := Lib.hid (fun p W (h : Non W p) => Held_none h r.tg)
  have H7 := Lib.hid (fun p W (h : Non W p) => Holds_none h)
  have H8 := Lib.hid (fun p W (h : Non W p) => Gone_none h r.tg)
  have H9 := Lib.hid (fun p W (h : Non W p) => Copy_none h)
  have HA := Lib.hid alive
  obtain ⟨k0, k1, k2, k3, k4, k5, k6, k7⟩ := SS.out.k.cells
  clear hf
  go_enter Try.func4, Try.ntmps4
  go_upto_region 1 with (fail)
  rw [← hW1]
  clear hW1
  cases there
  · go_upto_region 6 with (go_at_call 6; refine HF.out.mono ?_; rintro e w2 ⟨rfl, hb⟩; replace SS := Lib.hid (SS.out.step hb); clear hb HF k0 k1 k2 k3 k4 k5 k6 k7; obtain ⟨k0, k1, k2, k3, k4, k5, k6, k7⟩ := SS.out.k.cells)
    have NN : Hid (Wn w r none _) := Lib.hid ⟨SS.out.drew, .inl rfl⟩
    have hS := NN.out.s.k.cells
    go_region_held3 (fun W => W.cell? ⟨w.heap.size, 0, none⟩ = some (.int .i64 r.k) ∧ W.cell? ⟨w.heap.size, 1, none⟩ = some (.int .i64 r.ep) ∧ W.cell? ⟨w.heap.size, 2, none⟩ = some (.int .i64 r.tm) ∧ W.cell? ⟨w.heap.size, 3, none⟩ = some (.int .i64 r.ct) ∧ W.cell? ⟨w.heap.size, 4, none⟩ = some (.int .i64 r.tg) ∧ W.cell? ⟨w.heap.size, 5, none⟩ = some (.int .i64 r.un) ∧ W.cell? ⟨w.heap.size, 6, none⟩ = some (.string ⟨r.rt.toArray⟩) ∧ W.cell? ⟨w.heap.size, 7, none⟩ = some (.string ⟨r.nm.toArray⟩))
      (exact hS) (first
        | (go_at_call 12; refine (H1.out _ _ NN.out.n).mono ?_; rintro e w4 ⟨rfl, hb⟩; replace NN := Lib.hid (NN.out.step hb); replace hS := NN.out.s.k.cells; clear hb H1)
        | (go_at_call 11; refine (H2.out _ _ NN.out.n).mono ?_; rintro e w4 ⟨rfl, hb⟩; replace NN := Lib.hid (NN.out.step hb); replace hS := NN.out.s.k.cells; clear hb H2)
        | (go_at_call 13; refine (H3.out _ _ NN.out.n).mono ?_; rintro e _ ⟨rfl, rfl⟩; clear H3)
        | (go_at_call 14; refine (H4.out _ _ NN.out.n).mono ?_; rintro e _ ⟨rfl, rfl⟩; clear H4)
        | (go_at_call 8; refine (H5.out _ _ NN.out.n).mono ?_; rintro e _ ⟨rfl, rfl⟩; clear H5)
        | (go_at_call 10; refine (H6.out _ _ NN.out.n).mono ?_; rintro e _ ⟨rfl, rfl⟩; clear H6)
        | (go_at_call 15; refine (H7.out _ _ NN.out.n).mono ?_; rintro e _ ⟨rfl, rfl⟩; clear H7)
        | (go_at_call 9; refine (H8.out _ _ NN.out.n).mono ?_; rintro e _ ⟨rfl, rfl⟩; clear H8)
        | (go_at_call 16; refine (H9.out _ _ NN.out.n).mono ?_; rintro e _ ⟨rfl, rfl⟩; clear H9)
        | (go_at_call 7; refine (HA.out _).mono ?_; rintro e w5 ⟨rfl, hb⟩; replace NN := Lib.hid (NN.out.step hb); replace hS := NN.out.s.k.cells; clear hb HA))
    go_wp2
    go_ret
    exact ⟨rfl, NN.out.s.bel⟩
  · go_upto_region 6 with (go_at_call 6; refine HF.out.mono ?_; rintro e w2 ⟨rfl, hb⟩; replace SS := Lib.hid (SS.out.step hb); clear hb HF k0 k1 k2 k3 k4 k5 k6 k7; obtain ⟨k0, k1, k2, k3, k4, k5, k6, k7⟩ := SS.out.k.cells)
    generalize hW : World.alloc w2 _ = W3
    have b3 : Below w2.heap.size w2 W3 := by rw [← hW]; exact below_new w2 _
    have n3 : Non W3 (some ⟨w2.heap.size, 0, none⟩) := .inr ⟨_, rfl, by rw [← hW]; exact heap_alloc_new w2 _⟩
    have NN0 : Hid (Wn w r (some ⟨w2.heap.size, 0, none⟩) W3) := Lib.hid ⟨SS.out.step b3, n3⟩
    have NN := Lib.hid NN0.out.drew
    clear hW b3 n3 NN0 k0 k1 k2 k3 k4 k5 k6 k7 SS
    have hS := NN.out.s.k.cells
    go_region_held3 (fun W => W.cell? ⟨w.heap.size, 0, none⟩ = some (.int .i64 r.k) ∧ W.cell? ⟨w.heap.size, 1, none⟩ = some (.int .i64 r.ep) ∧ W.cell? ⟨w.heap.size, 2, none⟩ = some (.int .i64 r.tm) ∧ W.cell? ⟨w.heap.size, 3, none⟩ = some (.int .i64 r.ct) ∧ W.cell? ⟨w.heap.size, 4, none⟩ = some (.int .i64 r.tg) ∧ W.cell? ⟨w.heap.size, 5, none⟩ = some (.int .i64 r.un) ∧ W.cell? ⟨w.heap.size, 6, none⟩ = some (.string ⟨r.rt.toArray⟩) ∧ W.cell? ⟨w.heap.size, 7, none⟩ = some (.string ⟨r.nm.toArray⟩))
      (exact hS) (first
        | (go_at_call 12; refine (H1.out _ _ NN.out.n).mono ?_; rintro e w4 ⟨rfl, hb⟩; replace NN := Lib.hid (NN.out.step hb); replace hS := NN.out.s.k.cells; clear hb H1)
        | (go_at_call 11; refine (H2.out _ _ NN.out.n).mono ?_; rintro e w4 ⟨rfl, hb⟩; replace NN := Lib.hid (NN.out.step hb); replace hS := NN.out.s.k.cells; clear hb H2)
        | (go_at_call 13; refine (H3.out _ _ NN.out.n).mono ?_; rintro e _ ⟨rfl, rfl⟩; clear H3)
        | (go_at_call 14; refine (H4.out _ _ NN.out.n).mono ?_; rintro e _ ⟨rfl, rfl⟩; clear H4)
        | (go_at_call 8; refine (H5.out _ _ NN.out.n).mono ?_; rintro e _ ⟨rfl, rfl⟩; clear H5)
        | (go_at_call 10; refine (H6.out _ _ NN.out.n).mono ?_; rintro e _ ⟨rfl, rfl⟩; clear H6)
        | (go_at_call 15; refine (H7.out _ _ NN.out.n).mono ?_; rintro e _ ⟨rfl, rfl⟩; clear H7)
        | (go_at_call 9; refine (H8.out _ _ NN.out.n).mono ?_; rintro e _ ⟨rfl, rfl⟩; clear H8)
        | (go_at_call 16; refine (H9.out _ _ NN.out.n).mono ?_; rintro e _ ⟨rfl, rfl⟩; clear H9)
        | (go_at_call 7; refine (HA.out _).mono ?_; rintro e w5 ⟨rfl, hb⟩; replace NN := Lib.hid (NN.out.step hb); replace hS := NN.out.s.k.cells; clear hb HA))
    go_wp2
    go_ret
    exact ⟨rfl, NN.out.s.bel⟩
theorem walk (r : Rec) (there : Bool) (w : World) :
    Calls Try.prog 4 #[.agg #[.int .i64 r.k, .int .i64 r.ep, .int .i64 r.tm, .int .i64 r.ct, .int .i64 r.tg, .int .i64 r.un, .string ⟨r.rt.toArray⟩, .string ⟨r.nm.toArray⟩], .bool there] w fun e w' => e = .returned (.bool true) ∧ Below w.heap.size w w' := by
  cases hf : fewB [r] with
  | false => exact long r there w hf
  | true => exact few_ r there w hf
theorem own : ownKnob Try.prog.godebug = none := by kernel_rfl
theorem laidOut : laidOutB Try.prog = true := by kernel_rfl
set_option maxRecDepth 100000 in
theorem lifted (os : Os) (started : os.Started) (H : Type) (enc : TypeId × Value → H) :
    ReturnsInHanded {} Try.checked os 4 .any (Rows.retainNilSpec.pre6 enc Try.prog Try.f4 Rows.retainNilRow.domain false) (Rows.retainNilSpec.post enc Try.prog Try.f4 false true false false) := by
  refine returnsInHanded_of_change (C := Try.checked) own started (by kernel_rfl) Try.func4
    (ChangeSpec.witness6 (enc := enc) (C := Try.checked) false ⟨#[], #[.agg #[.int .i64 0, .int .i64 0, .int .i64 0, .int .i64 0, .int .i64 0, .int .i64 0, .string ByteArray.empty, .string ByteArray.empty], .bool false], []⟩ 8 (by kernel_rfl) (by kernel_rfl) (by kernel_rfl) (by kernel_rfl)) ?_
  intro W base args ds gs before hval0 hW hcnd _
  have hval : ∀ (j : Nat) t v, Try.f4.params[j]? = some t → args[j]? = some v → Value.okWide Try.prog W .any base t v := hval0
  have hW' := hW
  obtain ⟨p, q, hA0, hV, rfl, hfz, hnd⟩ := hW
  have hA : DataW.TrodAll enc Try.prog W 0 (fun _ => true) true Try.f4.params.toList args.toList ds p := hA0
  rw [Try.params4] at hA hval
  obtain ⟨v0, vs0, d0, ds0, p0, q0, hargs, rfl, rfl, h0, r0⟩ := trodAll_cons hA
  obtain ⟨v1, vs1, d1, ds1, p1, q1, rfl, rfl, rfl, h1, r1⟩ := trodAll_cons r0
  obtain ⟨rfl, rfl, rfl⟩ := trodAll_nil r1
  obtain rfl : args = #[v0, v1] := by cases args; simp_all
  obtain ⟨rfl, rfl⟩ := trodVars_none hV
  have k0 := h0
  have lt0 : ∀ x ∈ p0, x.block < W.heap.size := by obtain ⟨m, hm⟩ := k0; exact DataW.trod_lt m _ _ _ hm
  obtain ⟨a0, rfl⟩ := RecC.open_record (hval 0 30 v0 rfl rfl) h0
  obtain ⟨a1, rfl, rfl, rfl⟩ := open_bool Try.underlying4 (hval 1 4 v1 rfl rfl) h1
  clear hA0 hval0
  refine (walk a0 a1 W ).mono fun e W' ⟨he, bel⟩ => ?_
  subst he
  exact ⟨_, rfl, _, _, _, [], _, [], hW', trodAll_mk1 (shut_bool Try.underlying4 _), (trodAll_cons_mk (Below.trod laidOut (by kernel_rfl) (of_decide_eq_true (by kernel_rfl)) k0 bel lt0) (trodAll_cons_mk (shut_bool Try.underlying4 a1) trodAll_mk0)), rfl, bel.frame _, fun h => by cases h⟩
theorem over : Rows.retainNilRow.holds Try.pinned (OpenSpec.ofChange Rows.retainNilSpec) :=
  OpenClaim.holds_of_wide 4 Try.f4 rfl rfl rfl rfl rfl rfl rfl ⟨rfl, rfl, rfl, rfl, rfl⟩ rfl rfl rfl rfl rfl (by kernel_rfl) Try.func4 (by kernel_rfl)
    (of_decide_eq_true (by kernel_rfl)) (by unfold Func.isWrapper; first | (rw [if_pos (by decide +kernel)]; kernel_rfl) | (rw [if_neg (by decide +kernel)]; exact ⟨rfl, rfl⟩))
    (fun os started H enc _ => lifted os started H enc)
/-- THE STATEMENT, proved. -/
theorem proved : Rows.RetainNilSaid := over
#print axioms proved
end Go.Proofs.Yteldohopagdodaa.retainNil
