/- SegmentNil: at any act, of a pointer to none and of a segment that no call made: each call answers that there is nothing (with a cipher of more than 10,000 bytes, none counted above them: as the statement has it). The condition: the rounds' numbers lie in the program's variable (the card ties it to the program's text). -/
import Derived.Test.YtdkcebaehdkphaaGreatDoorLSegC
import Derived.Test.YtdkcebaehdkphaaGreatDoorLSegA
import Derived.Test.YtdkcebaehdkphaaGreatDoorPrfE
import Derived.Test.YtdkcebaehdkphaaGreatDoorSLaid
import Derived.Test.YtdkcebaehdkphaaGreatDoorRows
import Derived.Test.YtdkcebaehdkphaaGreatDoorTie
import Derived.Test.YtdkcebaehdkphaaGreatDoorCards
import Derived.WalkKit
import Derived.ProofKit
import Derived.OpenShut
import Derived.ShutString
import Derived.ChangeOld
import Derived.Below
import Derived.LaidMore
import Derived.SevenTiedAt
import Derived.Stop.Joined
namespace Go.Proofs.YtdkcebaehdkphaaGreatDoor.segmentNil
open Go.ChangeShapes Go.WideShapes Go.ChangeAt Go.RowKit
open Go.ChangeMaps (open_string shut_string)
set_option linter.unusedVariables false
open STurn PrfL PrfN PrfM PrfB PrfG PrgC PrgK PrgP MerQ SegN SegM SegR SegG SegH SegJ SegK SegL SegF
theorem same_zero (W : World) : Calls Tryz.prog 19 #[.agg zeroRaw.cells, .agg zeroRaw.cells] W fun e w' => e = .returned (.bool true) ∧ Below W.heap.size W w' := by
  have := PrfE.Same zeroRaw zeroRaw W ⟨rfl, fun h => absurd h (by decide)⟩ ⟨rfl, fun h => absurd h (by decide)⟩ ⟨rfl, fun h => absurd h (by decide)⟩ ⟨rfl, fun h => absurd h (by decide)⟩ (by decide) (by decide) (by decide) (by decide)
  rwa [show sameB zeroRaw zeroRaw = true by decide] at this
theorem infoA : (Tryz.prog.info? 34).map (·.size) = some 3 := by kernel_rfl
theorem oneA (a b : Int) (s : L) : (#[.int .i64 a, .int .i64 b, st s] : Array Value).all (·.oneCell') = true := by simp [Value.oneCell']
theorem lies_one (W : World) (a b : Int) (s : L) : LiesA (W.alloc (.cells #[.int .i64 a, .int .i64 b, st s] 34)) (some ⟨W.heap.size, 0, none⟩) [(a, b, s)] := fun _ =>
  ⟨_, _, rfl, by simp, fun i hi => by
    match i, hi with
    | 0, _ => exact ⟨blk_cell (heap_alloc_new W _) rfl, blk_cell (heap_alloc_new W _) rfl, blk_cell (heap_alloc_new W _) rfl⟩⟩
set_option maxRecDepth 100000 in
set_option maxHeartbeats 4000000 in
theorem no_ (x : A) (there : Bool) (w : World) (hf : FitA x) (hr : Rds w) (hfew : fewB [x] = false) : Calls Tryz.prog 5 #[.agg (ac x), .bool there] w fun e w' => e = .returned (.bool true) ∧ Below w.heap.size w w' := by
  obtain ⟨a, b, s⟩ := x
  dsimp only [ac]
  obtain ⟨W1, hW1⟩ : ∃ W1, W1 = w.alloc (.cells #[.int .i64 a, .int .i64 b, st s] 34) := ⟨_, rfl⟩
  have b1 : Below w.heap.size w W1 := by rw [hW1]; exact below_new w _
  have r1 : W1.heap[w.heap.size]? = some (.cells #[.int .i64 a, .int .i64 b, st s] 34 (0, 0)) := by rw [hW1]; exact heap_alloc_new w _
  have lr1 : w.heap.size < W1.heap.size := (Array.getElem?_eq_some_iff.1 r1).1
  have B1 := Lib.hid b1
  have HR := Lib.hid (fun W (hb : Below W1.heap.size W1 W) => (hb.block _ lr1).trans r1)
  have HF := Lib.hid (Few (some ⟨W1.heap.size, 0, none⟩) 1 1 [(a, b, s)] (W1.alloc (.cells #[.int .i64 a, .int .i64 b, st s] 34)) ⟨rfl, by decide, (fun x hx => by rw [List.mem_singleton] at hx; rw [hx]; exact hf), lies_one W1 a b s⟩)
  rw [hfew] at HF
  have HA := Lib.hid (fun W (hb : Below w.heap.size w W) => SegA.alive W (hr.step hb))
  clear hf hr hfew b1 r1
  go_enter Tryz.func5, Tryz.ntmps5
  go_upto_region 1 with (fail)
  rw [← hW1]
  clear hW1
  go_wp2_with (first
    | (refine wpList_load_row rfl 34 _ rfl w.heap.size rfl 34 _ (0, 0) _ (HR.out W1 (Below.refl _ _)) Tryz.underlying34 rfl infoA ?_)
    | (go_at_call 6; refine HF.out.mono ?_; rintro e w2 ⟨rfl, hb⟩; have b2 := (below_new W1 _).trans (hb.mono (by simp)); have B2 := Lib.hid (B1.out.trans (b2.mono B1.out.size)); have D2 := Lib.hid b2; clear hb b2)
    | (go_at_call 7; refine (HA.out _ B2.out).mono ?_; rintro e w3 ⟨rfl, hb⟩; have B3 := Lib.hid (B2.out.trans (hb.mono B2.out.size)); clear hb))
  go_ret
  exact ⟨rfl, B3.out⟩
set_option maxRecDepth 100000 in
set_option maxHeartbeats 4000000 in
theorem yes_true (x : A) (w : World) (hf : FitA x) (hr : Rds w) (hfew : fewB [x] = true) : Calls Tryz.prog 5 #[.agg (ac x), .bool true] w fun e w' => e = .returned (.bool true) ∧ Below w.heap.size w w' := by
  obtain ⟨a, b, s⟩ := x
  dsimp only [ac]
  obtain ⟨W1, hW1⟩ : ∃ W1, W1 = w.alloc (.cells #[.int .i64 a, .int .i64 b, st s] 34) := ⟨_, rfl⟩
  have b1 : Below w.heap.size w W1 := by rw [hW1]; exact below_new w _
  have r1 : W1.heap[w.heap.size]? = some (.cells #[.int .i64 a, .int .i64 b, st s] 34 (0, 0)) := by rw [hW1]; exact heap_alloc_new w _
  have lr1 : w.heap.size < W1.heap.size := (Array.getElem?_eq_some_iff.1 r1).1
  have B1 := Lib.hid b1
  have HR := Lib.hid (fun W (hb : Below W1.heap.size W1 W) => (hb.block _ lr1).trans r1)
  have HF := Lib.hid (Few (some ⟨W1.heap.size, 0, none⟩) 1 1 [(a, b, s)] (W1.alloc (.cells #[.int .i64 a, .int .i64 b, st s] 34)) ⟨rfl, by decide, (fun x hx => by rw [List.mem_singleton] at hx; rw [hx]; exact hf), lies_one W1 a b s⟩)
  rw [hfew] at HF
  have HA := Lib.hid (fun W (hb : Below w.heap.size w W) => SegA.alive W (hr.step hb))
  have HS := Lib.hid same_zero
  have hsl := hf.2.2
  clear hf hr hfew b1 r1
  go_enter Tryz.func5, Tryz.ntmps5
  go_upto_region 1 with (fail)
  rw [← hW1]
  clear hW1
  go_upto_region 6 with (first
    | (refine wpList_load_row rfl 34 _ rfl w.heap.size rfl 34 _ (0, 0) _ (HR.out W1 (Below.refl _ _)) Tryz.underlying34 rfl infoA ?_)
    | (go_at_call 6; refine HF.out.mono ?_; rintro e w2 ⟨rfl, hb⟩; have b2 := (below_new W1 _).trans (hb.mono (by simp)); have B2 := Lib.hid (B1.out.trans (b2.mono B1.out.size)); have D2 := Lib.hid b2; clear hb b2))
  have b3 : Below w2.heap.size w2 (w2.alloc (.cells #[.int .i64 0, .map none] 60)) := below_new w2 _
  have N3 : Hid (Nil (some ⟨w2.heap.size, 0, none⟩) (w2.alloc (.cells #[.int .i64 0, .map none] 60))) := Lib.hid (.inr ⟨_, rfl, heap_alloc_new w2 _⟩)
  generalize hq : (some ⟨w2.heap.size, 0, none⟩ : Option Addr) = q at *
  generalize (w2.alloc (.cells #[.int .i64 0, .map none] 60)) = w3 at *
  clear hq
  have B3 := Lib.hid (B2.out.trans (b3.mono B2.out.size))
  have D3 := Lib.hid (D2.out.trans (b3.mono D2.out.size))
  clear b3
  have HP := Lib.hid (Prove_nil N3.out a)
  obtain ⟨k0, k1, k2⟩ : w3.cell? ⟨w.heap.size, 0, none⟩ = some (.int .i64 a) ∧ w3.cell? ⟨w.heap.size, 1, none⟩ = some (.int .i64 b) ∧ w3.cell? ⟨w.heap.size, 2, none⟩ = some (st s) := ⟨blk_cell (HR.out _ D3.out) rfl, blk_cell (HR.out _ D3.out) rfl, blk_cell (HR.out _ D3.out) rfl⟩
  go_upto_region 7 with (first
    | (go_at_call 18; refine HP.out.mono ?_; rintro e w4 ⟨rfl, hb⟩; have B4 := Lib.hid hb; clear hb)
    | (refine wpList_store_row rfl 48 _ _ rfl w4.heap.size zeroRaw.cells rfl rfl 48 _ (heap_alloc_new w4 _) infoP rfl (oneP _) ?_))
  generalize hW : World.setRow _ _ _ = W5
  have b5 : Below w4.heap.size w4 W5 := by rw [← hW]; exact kept_new w4 _ _ _
  have G5 := Lib.hid (show PrgC.BoxP w4.heap.size zeroRaw W5 by rw [← hW]; exact has_new w4 _ _ _)
  have b35 : Below w3.heap.size w3 W5 := B4.out.trans (b5.mono B4.out.size)
  have B5 := Lib.hid (B3.out.trans (b35.mono B3.out.size))
  have D5 := Lib.hid (D3.out.trans (b35.mono D3.out.size))
  have N5 := Lib.hid (N3.out.step b35)
  clear hW b5 b35 k0 k1 k2
  obtain ⟨k0, k1, k2⟩ : W5.cell? ⟨w.heap.size, 0, none⟩ = some (.int .i64 a) ∧ W5.cell? ⟨w.heap.size, 1, none⟩ = some (.int .i64 b) ∧ W5.cell? ⟨w.heap.size, 2, none⟩ = some (st s) := ⟨blk_cell (HR.out _ D5.out) rfl, blk_cell (HR.out _ D5.out) rfl, blk_cell (HR.out _ D5.out) rfl⟩
  have HPu := Lib.hid (Put_nil N5.out (a, b, s))
  obtain ⟨c0, c1, c2, c3, c4, c5, c6, c7⟩ := G5.out.cells
  dsimp only [zeroRaw] at c0 c1 c2 c3 c4 c5 c6 c7
  dsimp only [zeroRaw, Raw.cells] at HS
  go_wp2_with (first
    | (go_at_call 9; refine HPu.out.mono ?_; rintro e _ ⟨rfl, rfl⟩)
    | (go_at_call 19; refine (HS.out _).mono ?_; rintro e w6 ⟨rfl, hb⟩; have B6 := Lib.hid (B5.out.trans (hb.mono B5.out.size)); have N6 := Lib.hid (N5.out.step hb); clear hb)
    | (go_at_call 12; refine (Leaves_nil N6.out).mono ?_; rintro e _ ⟨rfl, rfl⟩)
    | (go_at_call 13; refine (Count_nil N6.out).mono ?_; rintro e _ ⟨rfl, rfl⟩)
    | (go_at_call 14; refine (Epoch_nil N6.out).mono ?_; rintro e _ ⟨rfl, rfl⟩)
    | (go_at_call 15; refine (Root_nil N6.out).mono ?_; rintro e _ ⟨rfl, rfl⟩)
    | (go_at_call 7; refine (HA.out _ B6.out).mono ?_; rintro e w7 ⟨rfl, hb⟩; have B7 := Lib.hid (B6.out.trans (hb.mono B6.out.size)); clear hb))
  go_ret
  exact ⟨rfl, B7.out⟩
set_option maxRecDepth 100000 in
set_option maxHeartbeats 4000000 in
theorem yes_false (x : A) (w : World) (hf : FitA x) (hr : Rds w) (hfew : fewB [x] = true) : Calls Tryz.prog 5 #[.agg (ac x), .bool false] w fun e w' => e = .returned (.bool true) ∧ Below w.heap.size w w' := by
  obtain ⟨a, b, s⟩ := x
  dsimp only [ac]
  obtain ⟨W1, hW1⟩ : ∃ W1, W1 = w.alloc (.cells #[.int .i64 a, .int .i64 b, st s] 34) := ⟨_, rfl⟩
  have b1 : Below w.heap.size w W1 := by rw [hW1]; exact below_new w _
  have r1 : W1.heap[w.heap.size]? = some (.cells #[.int .i64 a, .int .i64 b, st s] 34 (0, 0)) := by rw [hW1]; exact heap_alloc_new w _
  have lr1 : w.heap.size < W1.heap.size := (Array.getElem?_eq_some_iff.1 r1).1
  have B1 := Lib.hid b1
  have HR := Lib.hid (fun W (hb : Below W1.heap.size W1 W) => (hb.block _ lr1).trans r1)
  have HF := Lib.hid (Few (some ⟨W1.heap.size, 0, none⟩) 1 1 [(a, b, s)] (W1.alloc (.cells #[.int .i64 a, .int .i64 b, st s] 34)) ⟨rfl, by decide, (fun x hx => by rw [List.mem_singleton] at hx; rw [hx]; exact hf), lies_one W1 a b s⟩)
  rw [hfew] at HF
  have HA := Lib.hid (fun W (hb : Below w.heap.size w W) => SegA.alive W (hr.step hb))
  have HS := Lib.hid same_zero
  have hsl := hf.2.2
  clear hf hr hfew b1 r1
  go_enter Tryz.func5, Tryz.ntmps5
  go_upto_region 1 with (fail)
  rw [← hW1]
  clear hW1
  go_upto_region 6 with (first
    | (refine wpList_load_row rfl 34 _ rfl w.heap.size rfl 34 _ (0, 0) _ (HR.out W1 (Below.refl _ _)) Tryz.underlying34 rfl infoA ?_)
    | (go_at_call 6; refine HF.out.mono ?_; rintro e w2 ⟨rfl, hb⟩; have b2 := (below_new W1 _).trans (hb.mono (by simp)); have B2 := Lib.hid (B1.out.trans (b2.mono B1.out.size)); have D2 := Lib.hid b2; clear hb b2))
  obtain ⟨w3, hw3⟩ : ∃ w3, w3 = w2 := ⟨_, rfl⟩
  have b3 : Below w2.heap.size w2 w3 := by rw [hw3]; exact Below.refl _ _
  obtain ⟨q, hq⟩ : ∃ q : Option Addr, q = none := ⟨_, rfl⟩
  have N3 : Hid (Nil q w3) := Lib.hid (.inl hq)
  rw [← hw3, ← hq]
  clear hw3
  clear hq
  have B3 := Lib.hid (B2.out.trans (b3.mono B2.out.size))
  have D3 := Lib.hid (D2.out.trans (b3.mono D2.out.size))
  clear b3
  have HP := Lib.hid (Prove_nil N3.out a)
  obtain ⟨k0, k1, k2⟩ : w3.cell? ⟨w.heap.size, 0, none⟩ = some (.int .i64 a) ∧ w3.cell? ⟨w.heap.size, 1, none⟩ = some (.int .i64 b) ∧ w3.cell? ⟨w.heap.size, 2, none⟩ = some (st s) := ⟨blk_cell (HR.out _ D3.out) rfl, blk_cell (HR.out _ D3.out) rfl, blk_cell (HR.out _ D3.out) rfl⟩
  go_upto_region 7 with (first
    | (go_at_call 18; refine HP.out.mono ?_; rintro e w4 ⟨rfl, hb⟩; have B4 := Lib.hid hb; clear hb)
    | (refine wpList_store_row rfl 48 _ _ rfl w4.heap.size zeroRaw.cells rfl rfl 48 _ (heap_alloc_new w4 _) infoP rfl (oneP _) ?_))
  generalize hW : World.setRow _ _ _ = W5
  have b5 : Below w4.heap.size w4 W5 := by rw [← hW]; exact kept_new w4 _ _ _
  have G5 := Lib.hid (show PrgC.BoxP w4.heap.size zeroRaw W5 by rw [← hW]; exact has_new w4 _ _ _)
  have b35 : Below w3.heap.size w3 W5 := B4.out.trans (b5.mono B4.out.size)
  have B5 := Lib.hid (B3.out.trans (b35.mono B3.out.size))
  have D5 := Lib.hid (D3.out.trans (b35.mono D3.out.size))
  have N5 := Lib.hid (N3.out.step b35)
  clear hW b5 b35 k0 k1 k2
  obtain ⟨k0, k1, k2⟩ : W5.cell? ⟨w.heap.size, 0, none⟩ = some (.int .i64 a) ∧ W5.cell? ⟨w.heap.size, 1, none⟩ = some (.int .i64 b) ∧ W5.cell? ⟨w.heap.size, 2, none⟩ = some (st s) := ⟨blk_cell (HR.out _ D5.out) rfl, blk_cell (HR.out _ D5.out) rfl, blk_cell (HR.out _ D5.out) rfl⟩
  have HPu := Lib.hid (Put_nil N5.out (a, b, s))
  obtain ⟨c0, c1, c2, c3, c4, c5, c6, c7⟩ := G5.out.cells
  dsimp only [zeroRaw] at c0 c1 c2 c3 c4 c5 c6 c7
  dsimp only [zeroRaw, Raw.cells] at HS
  go_wp2_with (first
    | (go_at_call 9; refine HPu.out.mono ?_; rintro e _ ⟨rfl, rfl⟩)
    | (go_at_call 19; refine (HS.out _).mono ?_; rintro e w6 ⟨rfl, hb⟩; have B6 := Lib.hid (B5.out.trans (hb.mono B5.out.size)); have N6 := Lib.hid (N5.out.step hb); clear hb)
    | (go_at_call 12; refine (Leaves_nil N6.out).mono ?_; rintro e _ ⟨rfl, rfl⟩)
    | (go_at_call 13; refine (Count_nil N6.out).mono ?_; rintro e _ ⟨rfl, rfl⟩)
    | (go_at_call 14; refine (Epoch_nil N6.out).mono ?_; rintro e _ ⟨rfl, rfl⟩)
    | (go_at_call 15; refine (Root_nil N6.out).mono ?_; rintro e _ ⟨rfl, rfl⟩)
    | (go_at_call 7; refine (HA.out _ B6.out).mono ?_; rintro e w7 ⟨rfl, hb⟩; have B7 := Lib.hid (B6.out.trans (hb.mono B6.out.size)); clear hb))
  go_ret
  exact ⟨rfl, B7.out⟩
theorem walk (x : A) (there : Bool) (w : World) (hf : FitA x) (hs : x.2.2.length ≤ reachBytes) (hr : Rds w) : Calls Tryz.prog 5 #[.agg (ac x), .bool there] w fun e w' => e = .returned (.bool true) ∧ Below w.heap.size w w' := by
  cases hfew : fewB [x] with
  | false => exact no_ x there w hf hr hfew
  | true =>
    cases there with
    | true => exact yes_true x w hf hr hfew
    | false => exact yes_false x w hf hr hfew
theorem own : ownKnob Tryz.prog.godebug = none := by kernel_rfl
theorem laidOut : laidOutB Tryz.prog = true := by kernel_rfl
set_option maxRecDepth 100000 in
theorem lifted (os : Os) (started : os.Started) (H : Type) (enc : TypeId × Value → H) :
    ReturnsInHanded {} Tryz.checked os 5 .any (fun w args => (Rows.segmentNilSpec.pre enc Tryz.prog Tryz.f5 Rows.segmentNilRow.domain false w args ∧ laidMetH Tryz.prog Rows.segmentNilRow.laid w) ∧ sizedMet enc Tryz.prog Tryz.f5 (OpenSpec.ofChange Rows.segmentNilSpec) false w args) (Rows.segmentNilSpec.post enc Tryz.prog Tryz.f5 false true false false) := by
  refine returnsInHanded_of_change_and (C := Tryz.checked) (X := fun w _ => laidMetH Tryz.prog Rows.segmentNilRow.laid w) (fun _ _ _ hh h => h.of_heap hh) own started (by kernel_rfl) Tryz.func5
    (ChangeSpec.witness_shaped (enc := enc) (C := Tryz.checked) (os := os) (X := fun w _ => laidMetH Tryz.prog Rows.segmentNilRow.laid w) false (World.doorLaid Tryz.prog 400 os) #[.agg #[.int .i64 0, .int .i64 0, .string ByteArray.empty], .bool false] 8 rfl (World.shaped_of_RefB (by kernel_rfl) (by kernel_rfl)) (by kernel_rfl) (by kernel_rfl) (by kernel_rfl) (SLaid.door_met os _)) ?_
  intro W base args ds gs before hval0 hW _ hZ hL _
  have hr := SLaid.of_laid hL
  have hval : ∀ (j : Nat) t v, Tryz.f5.params[j]? = some t → args[j]? = some v → Value.okWide Tryz.prog W .any base t v := hval0
  have hW' := hW
  obtain ⟨p, q, hA0, hV, rfl, hfz, hnd⟩ := hW
  have hA : DataW.TrodAll enc Tryz.prog W 0 (fun _ => true) true Tryz.f5.params.toList args.toList ds p := hA0
  rw [Tryz.params5] at hA hval
  obtain ⟨v0, vs0, d0, ds0, p0, q0, hargs, rfl, rfl, h0, r0⟩ := trodAll_cons hA
  obtain ⟨v1, vs1, d1, ds1, p1, q1, rfl, rfl, rfl, h1, r1⟩ := trodAll_cons r0
  obtain ⟨rfl, rfl, rfl⟩ := trodAll_nil r1
  obtain rfl : args = #[v0, v1] := by cases args; simp_all
  obtain ⟨rfl, rfl⟩ := trodVars_none hV
  have k0 := h0
  have lt0 : ∀ x ∈ p0, x.block < W.heap.size := by obtain ⟨m, hm⟩ := k0; exact DataW.trod_lt m _ _ _ hm
  obtain ⟨a0, rfl, w0, sz0⟩ := SegM.open_act (hval 0 34 v0 rfl rfl) h0
  obtain ⟨a1, rfl, rfl, rfl⟩ := open_bool Tryz.underlying4 (hval 1 4 v1 rfl rfl) h1
  have s0 := sz0 (fun n hn => by
    have := List.all_eq_true.1 hZ n (DataW.weights_mem_each (j := 0) (t := 34) (d := d0) (by rw [Tryz.params5]; rfl) rfl n hn)
    simpa using this)
  clear hA0 hval0
  refine (walk a0 a1 W w0 s0 hr).mono fun e W' ⟨he, bel⟩ => ?_
  subst he
  exact ⟨_, rfl, _, _, _, [], _, [], hW', trodAll_mk1 (shut_bool Tryz.underlying4 _), (trodAll_cons_mk (Below.trod laidOut (by kernel_rfl) (of_decide_eq_true (by kernel_rfl)) k0 bel lt0) (trodAll_cons_mk (shut_bool Tryz.underlying4 a1) trodAll_mk0)), rfl, bel.frame _, fun h => by cases h⟩
theorem over : Rows.segmentNilRow.holds Tryz.pinned (OpenSpec.ofChange Rows.segmentNilSpec) :=
  OpenClaim.holds_of_wide 5 Tryz.f5 rfl rfl rfl rfl rfl rfl rfl ⟨rfl, rfl, rfl, rfl, rfl⟩ rfl rfl rfl rfl rfl (by kernel_rfl) Tryz.func5 (by kernel_rfl)
    (of_decide_eq_true (by kernel_rfl)) (by unfold Func.isWrapper; first | (rw [if_pos (by decide +kernel)]; kernel_rfl) | (rw [if_neg (by decide +kernel)]; exact ⟨rfl, rfl⟩))
    (fun os started H enc _ => lifted os started H enc)
/-- THE STATEMENT, proved. -/
theorem proved : Rows.SegmentNilCardSaid :=
  Claim7.holds_tied_plain_at .later [] _ true _ false
    over (fun _ h => by cases h) (by kernel_rfl) (fun _ h => by cases h) segmentNil_row_tie rfl ⟨rfl, rfl⟩ (by kernel_rfl) rfl
    (fun f fn hf hfn => by
      obtain rfl : f = 5 := Option.some.inj ((show Tryz.prog.funcNamed "keepsake/keepsakelaw17.SegmentNil" = some 5 by kernel_rfl).symm.trans hf) |>.symm
      obtain rfl : fn = Tryz.f5 := (Option.some.inj (Tryz.func5.symm.trans hfn)).symm
      exact ⟨by kernel_rfl, fun j t ht => by
        rw [Tryz.params5] at ht
        have hm : t ∈ [34, 4] := by simpa using Array.mem_of_getElem? ht
        have hall : ([34, 4].all fun u => !Tryz.prog.wantsStandIn u) = true := by kernel_rfl
        exact (show Tryz.prog.wantsStandIn t = false by simpa using List.all_eq_true.1 hall t hm)⟩)
    (by kernel_rfl)
#print axioms proved
end Go.Proofs.YtdkcebaehdkphaaGreatDoor.segmentNil
