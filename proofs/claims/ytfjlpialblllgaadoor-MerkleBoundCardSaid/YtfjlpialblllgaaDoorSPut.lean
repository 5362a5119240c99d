/- What sha's 'Put' answers, and leaves: the walk of its text. -/
import Derived.Test.YtfjlpialblllgaaDoorSPutN
import Derived.Deep.RegionLaw
import Derived.BigRegion
import Derived.StillTailTactics
namespace Go.Proofs.YtfjlpialblllgaaDoor.SPut
open Go.RowKit
open SSpr SByt STurn SStep SHash
theorem of_nil (s : ByteArray) (w : World) : Calls Tryd.prog 28 #[.pointer none, .string s] w fun e w' => e = .returned (.int .i64 1) ∧ w = w' := by
  go_enter Tryd.func28, Tryd.ntmps28
  go_wp2_with (go_at_call 41; refine (isNone_nil _).mono ?_; rintro e w' ⟨rfl, rfl⟩)
  go_ret
  exact ⟨rfl, rfl⟩
theorem of_un (b : Nat) (s : ByteArray) (w : World) (h : w.cell? ⟨b, 0, none⟩ = some (.bool false)) : Calls Tryd.prog 28 #[.pointer (some ⟨b, 0, none⟩), .string s] w fun e w' => e = .returned (.int .i64 1) ∧ w = w' := by
  have H := Lib.hid h
  clear h
  go_enter Tryd.func28, Tryd.ntmps28
  go_wp2_with (go_at_call 41; refine (isNone_un b _ H.out).mono ?_; rintro e w' ⟨rfl, rfl⟩)
  go_ret
  exact ⟨rfl, rfl⟩
/-- How long the text in a slot is. -/
def strLen : Value → Nat | .string s => s.size | _ => 0
theorem sliceR (g k : Nat) (hk : k < 64) (W : World) : (Instr.sliceAt 68 (.pointer (some ⟨g, 9, none⟩)) (some (.int .i64 (k : Int))) none none).run Tryd.prog W = .ok (.slice (some ⟨g, 9 + k, none⟩) (64 - k) (64 - k)) W := by
  rw [run_sliceAt_array_l W _ _ und64 _ _ (by omega) (by rw [arr64]; omega), size64, arr64]
  simp [slicedAt, Addr.add_mid, show ¬ 64 = k from by omega]
theorem wpList_copy_str {P : Program} {w : World} {ops : Array Oper} {rest : List Oper} {o : Oper} {a : Act} {Q : Exit → Act → World → Prop} (hgd : o.guard = none) (d x : Operand) (dT sT : TypeId)
    (ho : o.op = .call { callee := .builtin .copy, args := #[d, x], argTypes := #[dT, sT] }) (elem : TypeId) (hu : P.underlying dT = some (.slice elem)) (hz : ∀ w, (Go.sizeOf elem).run P w = .ok 1 w)
    (b off dLen dCap n : Nat) (t : List UInt8) (hd : a.eval d = .slice (some ⟨b, off, none⟩) dLen dCap) (hx : a.eval x = .string ⟨t.toArray⟩) (hn : n = Nat.min t.length dLen)
    (hc : ∀ j, j < n → (w.cell? ⟨b, off + j, none⟩).isSome = true) (hf : ∀ j, j < n → w.frozen? ⟨b, off + j, none⟩ = false)
    (h : wpList P ops Q rest (a.put o.dst (goInt n)) (w.setCells b off (bl (t.take n)))) : wpList P ops Q (o :: rest) a w :=
  wpList_plain hgd fun _ hK => by
    have hrun : (Builtin.copy_ #[dT, sT] o.type #[.slice (some ⟨b, off, none⟩) dLen dCap, .string ⟨t.toArray⟩]).run P w = .ok (goInt n) (w.setCells b off (bl (t.take n))) := run_copy_str (P := P) w dT sT o.type elem b off dLen dCap n t hu hz hn hc hf
    unfold Oper.wp
    simp [execOp, ho, resolve, invoke, builtin, hd, hx, hrun, Result.andThen]
    exact hK _ _ h
theorem size5 (W : World) : (Go.sizeOf 5).run Tryd.prog W = .ok 1 W := by kernel_rfl
theorem there_of {w : World} {b : Nat} {cs : List Value} {t : TypeId} {o n : Nat} (h : w.heap[b]? = some (.cells cs.toArray t (0, 0))) (hl : o + n ≤ cs.length) : w.there b o n := fun j hj => by
  refine ⟨?_, blk_free h⟩
  rw [blk_cell h (show cs.toArray[o + j]? = some (cs[o + j]'(by omega)) from by simp)]
  rfl
theorem bytes_one (l : List UInt8) : (bytesRow l).all (·.oneCell') = true := by
  rw [Array.all_eq_true_iff_forall_mem]
  intro v hv
  simp only [bytesRow, List.mem_toArray, List.mem_map] at hv
  obtain ⟨x, _, rfl⟩ := hv
  rfl
/-- What Put leaves. -/
def Put_ (b : Nat) (l : List UInt8) (w : World) (e : Ending) (w' : World) : Prop := e = .returned (.int .i64 0) ∧ Has w' b l ∧ But b w w'
set_option maxRecDepth 100000 in
set_option linter.unusedSimpArgs false in
set_option maxHeartbeats 2000000 in
theorem any (b : Nat) (l s : List UInt8) (w : World) (h : Has w b l) (hr : Rds w) (hne : b ≠ 0) (hlen : l.length + s.length ≤ 1152921504606846976) :
    Calls Tryd.prog 28 #[.pointer (some ⟨b, 0, none⟩), .string ⟨s.toArray⟩] w (Put_ b (l ++ s) w) := by
  have HH := Lib.hid h
  have HM := Lib.hid h.made
  have HR := Lib.hid hr
  have HN := Lib.hid hne
  clear h hr hne
  go_enter Tryd.func28, Tryd.ntmps28
  go_wp2_with (go_at_call 41; refine (isNone_no b _ HM.out).mono ?_; rintro e w' ⟨rfl, rfl⟩)
  go_loopw [1] (fun t wr => ∃ L q : List UInt8, L ++ q = l ++ s ∧ t = .string ⟨q.toArray⟩ ∧ Has wr b L ∧ But b w wr) (fun t _ => strLen t)
  case atStart => exact ⟨l, s, rfl, rfl, HH.out, But.refl _ _⟩
  case round =>
    obtain ⟨L, q, hLq, rfl, hh, hbut⟩ := hrel
    have hlq : L.length + q.length ≤ 1152921504606846976 := by
      have := congrArg List.length hLq
      simp only [List.length_append] at this
      omega
    have HLQ := Lib.hid hLq
    have HX := Lib.hid hh
    have HB := Lib.hid hbut
    clear hLq hh hbut
    by_cases hq : 0 < q.length
    · have h73 := HX.out.size_
      have hlen2 : 0 < (q.length : Int) := by omega
      obtain ⟨k, hk⟩ : ∃ k, k = L.length % 64 := ⟨_, rfl⟩
      have hk64 : k < 64 := by omega
      have hkI : (L.length : Int) % 64 = (k : Int) := by omega
      have hkT : (L.length : Int).tmod 64 = (k : Int) := by rw [Int.tmod_eq_emod_of_nonneg (by omega)]; exact hkI
      have hsl := sliceR b k hk64
      obtain ⟨n, hn⟩ : ∃ n, n = Nat.min q.length (64 - k) := ⟨_, rfl⟩
      have hn1 : n ≤ q.length := by rw [hn]; exact Nat.min_le_left _ _
      have hn2 : n ≤ 64 - k := by rw [hn]; exact Nat.min_le_right _ _
      have hn0 : 0 < n := by rw [hn]; exact Nat.lt_min.2 ⟨hq, by omega⟩
      have HK := Lib.hid hk
      have HNN := Lib.hid hn
      clear hk hn
      go_upto_region 4 with (fail)
      have hsome : ∀ j, j < n → (wr.cell? ⟨b, 9 + k + j, none⟩).isSome = true := by
        intro j hj
        rw [blk_cell HX.out (show _ = some ((hCells (blocks st0 (L.length / 64) L) (rest L) L.length)[9 + k + j]'(by rw [hCells_length _ _ _ (rest_length L)]; omega)) from by simp)]
        rfl
      have hfree : ∀ j, j < n → wr.frozen? ⟨b, 9 + k + j, none⟩ = false := fun j _ => blk_free HX.out
      have HS := Lib.hid hsome
      have HF := Lib.hid hfree
      clear hsome hfree
      refine wp_region_still_tail 10 (by kernel_rfl) (by kernel_rfl) ?_
      simp only [List.take_succ_cons, List.take_zero, List.drop_succ_cons, List.drop_zero]
      change wpStill _ _ wr.drew _ _ _
      repeat still_step
      refine wpStill_nil ?_
      refine wpList_copy_str rfl _ _ 71 9 rfl 5 Tryd.underlying71 size5 b (9 + k) (64 - k) (64 - k) n q rfl rfl HNN.out HS.out HF.out ?_
      generalize hW1 : World.setCells _ _ _ _ = W1
      have hle := rest_length L
      have hX1 : W1.heap[b]? = some (.cells (hCells (blocks st0 (L.length / 64) L) (laid (rest L) k (q.take n)) L.length).toArray 70 (0, 0)) := by
        have htl : (q.take n).length = n := by rw [List.length_take, Nat.min_eq_left hn1]
        have h1 := setCells_blk (bl (q.take n)) (9 + k) (hCells (blocks st0 (L.length / 64) L) (rest L) L.length) wr.drew HX.out (by rw [bl_length, htl, hCells_length _ _ _ hle]; omega)
        rw [splice _ _ _ _ _ hle (by rw [htl]; omega)] at h1
        rw [← hW1]
        exact h1
      have hB1 : But b w W1 := by rw [← hW1]; exact (HB.out.drewN 1).setCells _ _
      clear hW1 hsl hkI hkT h73
      have htl : (q.take n).length = n := by rw [List.length_take, Nat.min_eq_left hn1]
      have HLD := Lib.hid (laid_length (rest L) k (q.take n) hle (by rw [htl]; omega))
      have HTL := Lib.hid htl
      have HX1 := Lib.hid hX1
      have HB1 := Lib.hid hB1
      have h73 : W1.cell? ⟨b, 73, none⟩ = some (.int .i64 L.length) := blk_cell hX1 (by simpa using hCells_size _ _ _ HLD.out)
      have hf73 := blk_free (i := 73) hX1
      clear hX1 hB1 htl hle
      obtain ⟨M, hM⟩ : ∃ M, M = L.length + n := ⟨_, rfl⟩
      have hwr : IntKind.i64.wrap ((L.length : Int) + (n : Int)) = (M : Int) := by rw [IntWalk.i64_in _ (by omega)]; omega
      have hss : ∀ W : World, (Instr.slice 9 (.string ⟨q.toArray⟩) (some (.int .i64 (n : Int))) none none).run Tryd.prog W = .ok (.string ⟨(q.drop n).toArray⟩) W := by
        intro W
        rw [run_slice_string_l (P := Tryd.prog) W 9 ⟨q.toArray⟩ Tryd.underlying9 .i64 (n : Int) (by omega) (show _ ≤ ((q.length : Nat) : Int) by omega)]
        rw [Int.toNat_natCast, ByteArray.extract_mk]
        rw [List.take_of_length_le (by rw [List.length_drop]; exact Nat.le_refl _)]
      have HMM := Lib.hid hM
      clear hM
      go_upto_region 5 with (fail)
      go_region
      generalize hW2 : World.drew _ = W2
      have hX2 : W2.heap[b]? = some (.cells (hCells (blocks st0 (L.length / 64) L) (laid (rest L) k (q.take n)) M).toArray 70 (0, 0)) := by
        have h1 := blk_set (i := 73) (u := .int .i64 (M : Int)) HX1.out
        rw [List.setIfInBounds_toArray, set_size _ _ _ _ HLD.out] at h1
        rw [← hW2]
        exact h1
      have hB2 : But b w W2 := by rw [← hW2]; exact (HB1.out.set_ 73 _).drewN 1
      clear hW2 hss hwr h73 hf73
      have h73 : W2.cell? ⟨b, 73, none⟩ = some (.int .i64 M) := blk_cell hX2 (by simpa using hCells_size _ _ _ HLD.out)
      have HX2 := Lib.hid hX2
      have HB2 := Lib.hid hB2
      clear hX2 hB2 HX1 HB1
      by_cases hfull : k + n = 64
      · have hmod : (M : Int) % 64 = 0 := by
          have h1 := HMM.out
          have h2 := HK.out
          omega
        clear hlen2 hq
        go_upto_region 7 with (fail)
        clear hmod h73
        have hnow : W2.rangeAt b 1 (stRow (blocks st0 (L.length / 64) L)).toList := fun j v hv => blk_cell HX2.out (by simpa using hCells_now _ _ _ j v hv)
        have hrest : W2.rangeAt b 9 (bytesRow (laid (rest L) k (q.take n))).toList := fun j v hv => blk_cell HX2.out (by simpa using hCells_rest _ _ _ j v hv)
        have hst := blocks_ok st0 st0_ok (L.length / 64) L
        have HT := Lib.hid (fun (W : World) (hr : Rds W) => turn (blocks st0 (L.length / 64) L) hst (laid (rest L) k (q.take n)) HLD.out W hr)
        have HI := Lib.hid (show (Tryd.prog.info? 68).map (·.size) = some (bytesRow (laid (rest L) k (q.take n))).toList.length by
          rw [Array.length_toList, bytesRow_size, HLD.out]; exact info51)
        have HF := Lib.hid (full L (q.take n) (by have h1 := HTL.out; have h2 := HK.out; omega))
        rw [← HK.out, HTL.out, ← HMM.out] at HF
        have HBL := Lib.hid (show b < W2.heap.size from (Array.getElem?_eq_some_iff.1 HX2.out).1)
        have HRW : Hid (Rds W2) := fun i hi => (World.cell?_of_block (w := w) (HB2.out.block _ HR.out.lt (fun e => HN.out e.symm))).trans (HR.out i hi)
        have HN0 := Lib.hid hnow
        have HN1 := Lib.hid hrest
        clear hnow hrest
        generalize laid (rest L) k (q.take n) = R at *
        generalize blocks st0 (L.length / 64) L = B at *
        refine wp_region_held_drew (S := fun _ => True) (by kernel_rfl) trivial (fun _ => ?_)
        refine wpAnyH_take (i := 0) (v := .pointer (some ⟨b, 0, none⟩)) (by rw [List.getElem?_toArray]; rfl) (by kernel_rfl) (by kernel_rfl) (by kernel_rfl) (by intro _ _ _ h; exact h) (Or.inl ⟨by rfl, fun W _ => by kernel_rfl⟩) trivial ?_
        try simp only [Act.put, List.setIfInBounds_toArray, List.set_cons_zero, List.set_cons_succ]
        refine wpAnyH_take (i := 1) (v := .pointer (some ⟨b, 0, none⟩)) (by rw [List.getElem?_toArray]; rfl) (by kernel_rfl) (by kernel_rfl) (by kernel_rfl) (by intro _ _ _ h; exact h) (Or.inl ⟨by rfl, fun W _ => by kernel_rfl⟩) trivial ?_
        try simp only [Act.put, List.setIfInBounds_toArray, List.set_cons_zero, List.set_cons_succ]
        refine wpAnyH_take (i := 2) (v := .pointer (some ⟨b, 0, none⟩)) (by rw [List.getElem?_toArray]; rfl) (by kernel_rfl) (by kernel_rfl) (by kernel_rfl) (by intro _ _ _ h; exact h) (Or.inl ⟨by rfl, fun W _ => by kernel_rfl⟩) trivial ?_
        try simp only [Act.put, List.setIfInBounds_toArray, List.set_cons_zero, List.set_cons_succ]
        refine wpAnyH_take (i := 3) (v := .pointer (some ⟨b, 0, none⟩)) (by rw [List.getElem?_toArray]; rfl) (by kernel_rfl) (by kernel_rfl) (by kernel_rfl) (by intro _ _ _ h; exact h) (Or.inl ⟨by rfl, fun W _ => by kernel_rfl⟩) trivial ?_
        try simp only [Act.put, List.setIfInBounds_toArray, List.set_cons_zero, List.set_cons_succ]
        refine wpAnyH_take (i := 4) (v := .pointer (some ⟨b, 1, none⟩)) (by rw [List.getElem?_toArray]; rfl) (by kernel_rfl) (by kernel_rfl) (by kernel_rfl) (by intro _ _ _ h; exact h) (Or.inl ⟨by rfl, fun W _ => by kernel_rfl⟩) trivial ?_
        try simp only [Act.put, List.setIfInBounds_toArray, List.set_cons_zero, List.set_cons_succ]
        refine wpAnyH_take (i := 6) (v := .pointer (some ⟨b, 0, none⟩)) (by rw [List.getElem?_toArray]; rfl) (by kernel_rfl) (by kernel_rfl) (by kernel_rfl) (by intro _ _ _ h; exact h) (Or.inl ⟨by rfl, fun W _ => by kernel_rfl⟩) trivial ?_
        try simp only [Act.put, List.setIfInBounds_toArray, List.set_cons_zero, List.set_cons_succ]
        refine wpAnyH_take (i := 7) (v := .pointer (some ⟨b, 0, none⟩)) (by rw [List.getElem?_toArray]; rfl) (by kernel_rfl) (by kernel_rfl) (by kernel_rfl) (by intro _ _ _ h; exact h) (Or.inl ⟨by rfl, fun W _ => by kernel_rfl⟩) trivial ?_
        try simp only [Act.put, List.setIfInBounds_toArray, List.set_cons_zero, List.set_cons_succ]
        refine wpAnyH_take (i := 8) (v := .pointer (some ⟨b, 9, none⟩)) (by rw [List.getElem?_toArray]; rfl) (by kernel_rfl) (by kernel_rfl) (by kernel_rfl) (by intro _ _ _ h; exact h) (Or.inl ⟨by rfl, fun W _ => by kernel_rfl⟩) trivial ?_
        try simp only [Act.put, List.setIfInBounds_toArray, List.set_cons_zero, List.set_cons_succ]
        refine wpAnyH_take (i := 11) (v := .agg (bytesRow (List.replicate 64 0))) (by rw [List.getElem?_toArray]; rfl) (by kernel_rfl) (by kernel_rfl) (by kernel_rfl) (by intro _ _ _ h; exact h) (Or.inl ⟨by rfl, fun W _ => by kernel_rfl⟩) trivial ?_
        try simp only [Act.put, List.setIfInBounds_toArray, List.set_cons_zero, List.set_cons_succ]
        have hz64 : (List.replicate 64 (0 : UInt8)).length = 64 := by simp
        generalize List.replicate 64 (0 : UInt8) = zz at *
        have HZI := Lib.hid (show (Tryd.prog.info? 68).map (·.size) = some (bytesRow zz).size by rw [bytesRow_size, hz64]; exact info51)
        have HZ := Lib.hid hz64
        have HZB := Lib.hid (show (bytesRow zz).size = 64 by rw [bytesRow_size, hz64])
        clear hz64
        refine wpAnyH_ready (rs := [5, 9]) (by kernel_rfl) (by simp) (AllReadyH.cons (by rw [List.getElem?_toArray]; rfl) (fun K hK => ?_) (AllReadyH.cons (by rw [List.getElem?_toArray]; rfl) (fun K hK => ?_) AllReadyH.nil))
        · rw [if_pos (by rfl)]
          refine wp_load_mid 65 _ rfl b 1 rfl (stRow B).toList _ HN0.out Tryd.underlying65 rfl (by exact info49) ?_
          refine hK.out _ _ trivial (fun _ => ?_)
          clear hK K
          try simp only [Act.put, List.setIfInBounds_toArray, List.set_cons_zero, List.set_cons_succ]
          refine wpAnyH_ready (rs := [9]) (by kernel_rfl) (by simp) (AllReadyH.cons (by rw [List.getElem?_toArray]; rfl) (fun K hK => ?_) AllReadyH.nil)
          rw [if_pos (by rfl)]
          refine wp_load_mid 68 _ rfl b 9 rfl (bytesRow R).toList _ HN1.out Tryd.underlying68 rfl HI.out ?_
          refine hK.out _ _ trivial (fun _ => ?_)
          clear hK K
          try simp only [Act.put, List.setIfInBounds_toArray, List.set_cons_zero, List.set_cons_succ]
          refine wpAnyH_ready (rs := [10]) (by kernel_rfl) (by simp) (AllReadyH.cons (by rw [List.getElem?_toArray]; rfl) (fun K hK => ?_) AllReadyH.nil)
          go_simp
          refine (HT.out W2.drew HRW.out).mono ?_
          rintro e w3 ⟨rfl, hb3⟩
          refine hK.out _ _ trivial (fun _ => ?_)
          clear hK K
          try simp only [Act.put, List.setIfInBounds_toArray, List.set_cons_zero, List.set_cons_succ]
          refine wpAnyH_take (i := 12) (v := .pointer (some ⟨b, 0, none⟩)) (by rw [List.getElem?_toArray]; rfl) (by kernel_rfl) (by kernel_rfl) (by kernel_rfl) (by intro _ _ _ h; exact h) (Or.inl ⟨by rfl, fun W _ => by kernel_rfl⟩) trivial ?_
          try simp only [Act.put, List.setIfInBounds_toArray, List.set_cons_zero, List.set_cons_succ]
          refine wpAnyH_take (i := 13) (v := .pointer (some ⟨b, 1, none⟩)) (by rw [List.getElem?_toArray]; rfl) (by kernel_rfl) (by kernel_rfl) (by kernel_rfl) (by intro _ _ _ h; exact h) (Or.inl ⟨by rfl, fun W _ => by kernel_rfl⟩) trivial ?_
          try simp only [Act.put, List.setIfInBounds_toArray, List.set_cons_zero, List.set_cons_succ]
          have g3 : w3.heap[b]? = some (.cells (hCells B R M).toArray 70 (0, 0)) := (hb3.block b HBL.out).trans HX2.out
          refine wpAnyH_ready (rs := [14]) (by kernel_rfl) (by simp) (AllReadyH.cons (by rw [List.getElem?_toArray]; rfl) (fun K hK => ?_) AllReadyH.nil)
          rw [if_pos (by rfl)]
          refine wp_store_mid 65 _ _ rfl b 1 (stRow (turnSt B R)) rfl rfl (there_of g3 (by rw [hCells_length _ _ _ HLD.out]; show 1 + 8 ≤ 74; omega)) (by exact info49) (all8 _ _ _ _ _ _ _ _) ?_
          refine hK.out _ _ trivial (fun _ => ?_)
          clear hK K
          try simp only [Act.put, List.setIfInBounds_toArray, List.set_cons_zero, List.set_cons_succ]
          refine wpAnyH_take (i := 15) (v := .pointer (some ⟨b, 0, none⟩)) (by rw [List.getElem?_toArray]; rfl) (by kernel_rfl) (by kernel_rfl) (by kernel_rfl) (by intro _ _ _ h; exact h) (Or.inl ⟨by rfl, fun W _ => by kernel_rfl⟩) trivial ?_
          try simp only [Act.put, List.setIfInBounds_toArray, List.set_cons_zero, List.set_cons_succ]
          refine wpAnyH_take (i := 16) (v := .pointer (some ⟨b, 9, none⟩)) (by rw [List.getElem?_toArray]; rfl) (by kernel_rfl) (by kernel_rfl) (by kernel_rfl) (by intro _ _ _ h; exact h) (Or.inl ⟨by rfl, fun W _ => by kernel_rfl⟩) trivial ?_
          try simp only [Act.put, List.setIfInBounds_toArray, List.set_cons_zero, List.set_cons_succ]
          have g4 := setCells_blk (stRow (turnSt B R)).toList 1 (hCells B R M) w3 g3 (by rw [hCells_length _ _ _ HLD.out]; show 1 + 8 ≤ 74; omega)
          rw [set_now] at g4
          refine wpAnyH_ready (rs := [17]) (by kernel_rfl) (by simp) (AllReadyH.cons (by rw [List.getElem?_toArray]; rfl) (fun K hK => ?_) AllReadyH.nil)
          rw [if_pos (by rfl)]
          refine wp_store_mid 68 _ _ rfl b 9 (bytesRow zz) rfl rfl (there_of g4 (by rw [hCells_length _ _ _ HLD.out, HZB.out]; omega)) HZI.out (bytes_one _) ?_
          refine hK.out _ _ trivial (fun _ => ?_)
          clear hK K
          try simp only [Act.put, List.setIfInBounds_toArray, List.set_cons_zero, List.set_cons_succ]
          have g5 := setCells_blk (bytesRow zz).toList 9 (hCells (turnSt B R) R M) _ g4 (by rw [hCells_length _ _ _ HLD.out, Array.length_toList, HZB.out]; omega)
          rw [bytes_bl, set_rest _ _ _ _ HLD.out HZ.out] at g5
          have g6 : But b w w3 := (show But b w W2.drew from ⟨HB2.out.os, HB2.out.tape, HB2.out.output, HB2.out.size, HB2.out.block⟩).trans (But.of_below hb3)
          have g7 := (g6.setCells 1 (stRow (turnSt B R)).toList).setCells 9 (bl zz)
          rw [← HF.out] at g5
          have G5 := Lib.hid g5
          have G7 := Lib.hid g7
          clear g3 g4 g5 g6 g7 hb3
          refine wpAnyH_done (by kernel_rfl) ?_ _
          go_wp2
          go_roundw
          case rel => exact ⟨L ++ q.take n, q.drop n, by rw [List.append_assoc, List.take_append_drop]; exact HLQ.out, rfl, G5.out, G7.out⟩
          case measure =>
            show (q.drop n).length < q.length
            rw [List.length_drop]
            omega
        · rw [if_pos (by rfl)]
          refine wp_load_mid 68 _ rfl b 9 rfl (bytesRow R).toList _ HN1.out Tryd.underlying68 rfl HI.out ?_
          refine hK.out _ _ trivial (fun _ => ?_)
          clear hK K
          try simp only [Act.put, List.setIfInBounds_toArray, List.set_cons_zero, List.set_cons_succ]
          refine wpAnyH_ready (rs := [5]) (by kernel_rfl) (by simp) (AllReadyH.cons (by rw [List.getElem?_toArray]; rfl) (fun K hK => ?_) AllReadyH.nil)
          rw [if_pos (by rfl)]
          refine wp_load_mid 65 _ rfl b 1 rfl (stRow B).toList _ HN0.out Tryd.underlying65 rfl (by exact info49) ?_
          refine hK.out _ _ trivial (fun _ => ?_)
          clear hK K
          try simp only [Act.put, List.setIfInBounds_toArray, List.set_cons_zero, List.set_cons_succ]
          refine wpAnyH_ready (rs := [10]) (by kernel_rfl) (by simp) (AllReadyH.cons (by rw [List.getElem?_toArray]; rfl) (fun K hK => ?_) AllReadyH.nil)
          go_simp
          refine (HT.out W2.drew HRW.out).mono ?_
          rintro e w3 ⟨rfl, hb3⟩
          refine hK.out _ _ trivial (fun _ => ?_)
          clear hK K
          try simp only [Act.put, List.setIfInBounds_toArray, List.set_cons_zero, List.set_cons_succ]
          refine wpAnyH_take (i := 12) (v := .pointer (some ⟨b, 0, none⟩)) (by rw [List.getElem?_toArray]; rfl) (by kernel_rfl) (by kernel_rfl) (by kernel_rfl) (by intro _ _ _ h; exact h) (Or.inl ⟨by rfl, fun W _ => by kernel_rfl⟩) trivial ?_
          try simp only [Act.put, List.setIfInBounds_toArray, List.set_cons_zero, List.set_cons_succ]
          refine wpAnyH_take (i := 13) (v := .pointer (some ⟨b, 1, none⟩)) (by rw [List.getElem?_toArray]; rfl) (by kernel_rfl) (by kernel_rfl) (by kernel_rfl) (by intro _ _ _ h; exact h) (Or.inl ⟨by rfl, fun W _ => by kernel_rfl⟩) trivial ?_
          try simp only [Act.put, List.setIfInBounds_toArray, List.set_cons_zero, List.set_cons_succ]
          have g3 : w3.heap[b]? = some (.cells (hCells B R M).toArray 70 (0, 0)) := (hb3.block b HBL.out).trans HX2.out
          refine wpAnyH_ready (rs := [14]) (by kernel_rfl) (by simp) (AllReadyH.cons (by rw [List.getElem?_toArray]; rfl) (fun K hK => ?_) AllReadyH.nil)
          rw [if_pos (by rfl)]
          refine wp_store_mid 65 _ _ rfl b 1 (stRow (turnSt B R)) rfl rfl (there_of g3 (by rw [hCells_length _ _ _ HLD.out]; show 1 + 8 ≤ 74; omega)) (by exact info49) (all8 _ _ _ _ _ _ _ _) ?_
          refine hK.out _ _ trivial (fun _ => ?_)
          clear hK K
          try simp only [Act.put, List.setIfInBounds_toArray, List.set_cons_zero, List.set_cons_succ]
          refine wpAnyH_take (i := 15) (v := .pointer (some ⟨b, 0, none⟩)) (by rw [List.getElem?_toArray]; rfl) (by kernel_rfl) (by kernel_rfl) (by kernel_rfl) (by intro _ _ _ h; exact h) (Or.inl ⟨by rfl, fun W _ => by kernel_rfl⟩) trivial ?_
          try simp only [Act.put, List.setIfInBounds_toArray, List.set_cons_zero, List.set_cons_succ]
          refine wpAnyH_take (i := 16) (v := .pointer (some ⟨b, 9, none⟩)) (by rw [List.getElem?_toArray]; rfl) (by kernel_rfl) (by kernel_rfl) (by kernel_rfl) (by intro _ _ _ h; exact h) (Or.inl ⟨by rfl, fun W _ => by kernel_rfl⟩) trivial ?_
          try simp only [Act.put, List.setIfInBounds_toArray, List.set_cons_zero, List.set_cons_succ]
          have g4 := setCells_blk (stRow (turnSt B R)).toList 1 (hCells B R M) w3 g3 (by rw [hCells_length _ _ _ HLD.out]; show 1 + 8 ≤ 74; omega)
          rw [set_now] at g4
          refine wpAnyH_ready (rs := [17]) (by kernel_rfl) (by simp) (AllReadyH.cons (by rw [List.getElem?_toArray]; rfl) (fun K hK => ?_) AllReadyH.nil)
          rw [if_pos (by rfl)]
          refine wp_store_mid 68 _ _ rfl b 9 (bytesRow zz) rfl rfl (there_of g4 (by rw [hCells_length _ _ _ HLD.out, HZB.out]; omega)) HZI.out (bytes_one _) ?_
          refine hK.out _ _ trivial (fun _ => ?_)
          clear hK K
          try simp only [Act.put, List.setIfInBounds_toArray, List.set_cons_zero, List.set_cons_succ]
          have g5 := setCells_blk (bytesRow zz).toList 9 (hCells (turnSt B R) R M) _ g4 (by rw [hCells_length _ _ _ HLD.out, Array.length_toList, HZB.out]; omega)
          rw [bytes_bl, set_rest _ _ _ _ HLD.out HZ.out] at g5
          have g6 : But b w w3 := (show But b w W2.drew from ⟨HB2.out.os, HB2.out.tape, HB2.out.output, HB2.out.size, HB2.out.block⟩).trans (But.of_below hb3)
          have g7 := (g6.setCells 1 (stRow (turnSt B R)).toList).setCells 9 (bl zz)
          rw [← HF.out] at g5
          have G5 := Lib.hid g5
          have G7 := Lib.hid g7
          clear g3 g4 g5 g6 g7 hb3
          refine wpAnyH_done (by kernel_rfl) ?_ _
          go_wp2
          go_roundw
          case rel => exact ⟨L ++ q.take n, q.drop n, by rw [List.append_assoc, List.take_append_drop]; exact HLQ.out, rfl, G5.out, G7.out⟩
          case measure =>
            show (q.drop n).length < q.length
            rw [List.length_drop]
            omega
      · have hmod : ((M : Int) % 64 == 0) = false := by
          have h1 := HMM.out
          have h2 := HK.out
          rw [beq_eq_false_iff_ne]
          omega
        go_wp2
        go_roundw
        case rel =>
          refine ⟨L ++ q.take n, q.drop n, by rw [List.append_assoc, List.take_append_drop]; exact HLQ.out, rfl, ?_, HB2.out⟩
          show W2.heap[b]? = _
          rw [less L (q.take n) (by have h1 := HTL.out; have h2 := HK.out; omega), HTL.out, ← HK.out, ← HMM.out]
          exact HX2.out
        case measure =>
          show (q.drop n).length < q.length
          rw [List.length_drop]
          omega
    · have hq0 : q = [] := List.eq_nil_of_length_eq_zero (by omega)
      go_wp2
      go_ret
      refine ⟨rfl, ?_, HB.out⟩
      have h1 := HLQ.out
      rw [hq0, List.append_nil] at h1
      rw [← h1]
      exact HX.out
end Go.Proofs.YtfjlpialblllgaaDoor.SPut
