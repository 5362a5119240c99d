/- What the document's answer for layer 2 says of a state's bytes, of the state of bytes, and of what stands behind a text: the walks of keepsakeref02.Text, Of and Pad. -/
import Derived.Test.YtkaeeedjkegdlaaDoorRRot
import Derived.Test.YtkaeeedjkegdlaaDoorSByt
import Derived.Test.YtkaeeedjkegdlaaDoorSStep
import Derived.Test.YtkaeeedjkegdlaaDoorRPut
import Derived.Test.YtkaeeedjkegdlaaDoorRGet
import Derived.Test.YtkaeeedjkegdlaaDoorRNou
namespace Go.Proofs.YtkaeeedjkegdlaaDoor.RTxt
open Go.RowKit
open SSpr SByt RRot
def tb (s : St) (j : Nat) : List UInt8 := ((stL s).take j).flatMap (be 4)
theorem tb_next (s : St) (j : Nat) (h : j < 8) : tb s (j + 1) = tb s j ++ be 4 ((stL s).getD j 0) := by
  have hl : j < (stL s).length := h
  unfold tb
  rw [List.take_succ_eq_append_getElem hl, List.flatMap_append]
  simp [List.getD, hl]
theorem tb_all (s : St) : tb s 8 = s.bytes := by
  simp [tb, stL, St.bytes, List.flatMap]
theorem iSt_at (s : St) (i : Nat) (h : i < 8) : (iSt s)[i]? = some (.int .i64 ((stL s).getD i 0 : Nat)) := by
  match i, h with
  | 0, _ => rfl
  | 1, _ => rfl
  | 2, _ => rfl
  | 3, _ => rfl
  | 4, _ => rfl
  | 5, _ => rfl
  | 6, _ => rfl
  | 7, _ => rfl
theorem Text (s : St) (hs : s.ok) (w : World) :
    Calls Tryd.prog 16 #[.agg (iSt s)] w fun e w' => e = .returned (.string ⟨s.bytes.toArray⟩) ∧ Below w.heap.size w w' := by
  have hat := iSt_at s
  have hlt := stL_lt s hs
  have hsz : (iSt s).size = 8 := rfl
  generalize iSt s = cs at *
  go_enter Tryd.func16, Tryd.ntmps16
  go_wp2
  go_loopw [3, 4] (fun t i wr => ∃ j : Nat, j ≤ 8 ∧ i = .int .i64 j ∧ t = .string ⟨(tb s j).toArray⟩ ∧ Below (w.heap.size + 1) (w.alloc (.cells cs 34)) wr) (fun _ i _ => 8 - (intOf i).toNat)
  case atStart => exact ⟨0, Nat.zero_le _, rfl, rfl, Below.refl _ _⟩
  case round =>
    obtain ⟨j, hj, rfl, rfl, hbel⟩ := hrel
    have hblk : wr.heap[w.heap.size]? = some (.cells cs 34 (0, 0)) := (hbel.block _ (by omega)).trans (heap_alloc_new w _)
    have HB := Lib.hid hbel
    by_cases hlt' : j < 8
    · have hv := blk_cell hblk (hat j hlt')
      have hl := hlt j
      have HN := Lib.hid (tb_next s j hlt')
      have htl : (tb s j).length ≤ 32 := by
        have h : ∀ k, (tb s k).length = 4 * ((stL s).take k).length := by
          intro k
          unfold tb
          generalize (stL s).take k = L
          induction L with
          | nil => rfl
          | cons x L ih => rw [List.flatMap_cons, List.length_append, ih, be_length, List.length_cons]; omega
        rw [h, List.length_take]
        have : (stL s).length = 8 := rfl
        omega
      clear hat hlt hblk hbel
      generalize (stL s).getD j 0 = x at *
      have hP : ∀ W, Calls Tryd.prog 37 #[.int .i64 x, .int .i64 4] W fun e w' => e = .returned (.tuple #[.string ⟨(be 4 x).toArray⟩, .int .i64 0]) ∧ Below W.heap.size W w' := by
        intro W
        have := RPut.any (x : Int) 4 W (by omega)
        rw [put_good _ _ (by omega) (by omega) (by omega) (by simp only [Int.reduceToNat, Int.reducePow]; omega)] at this
        exact this
      have HP := Lib.hid hP
      have hbl : (be 4 x).length ≤ 4 := by rw [be_length]; omega
      have hap : (⟨(tb s j).toArray⟩ ++ ⟨(be 4 x).toArray⟩ : ByteArray) = ⟨(tb s (j + 1)).toArray⟩ := by rw [HN.out, ByteArray.mk_append_mk]
      have HA := Lib.hid hap
      clear hP hap
      generalize be 4 x = y at *
      go_wp2_with (go_at_call 37; refine (HP.out _).mono ?_; rintro e w1 ⟨rfl, hb1⟩; have HB1 := Lib.hid (HB.out.trans (hb1.mono (by have := HB.out.size; simp at this; omega))); clear hb1)
      go_roundw
      case rel => exact ⟨j + 1, by omega, by go_num, by rw [HA.out], HB1.out⟩
      case measure => simp [intOf]; omega
    · have hk : j = 8 := by omega
      subst hk
      rw [tb_all]
      clear hat hlt hblk hbel
      go_wp2
      go_ret
      exact ⟨rfl, ((Below.refl w.heap.size w).alloc (Nat.le_refl _) _).trans (HB.out.mono (by omega))⟩
theorem Of (s : List UInt8) (hs : s.length = 32) (w : World) :
    Calls Tryd.prog 33 #[.string ⟨s.toArray⟩] w fun e w' => e = .returned (.agg (iSt (stOf s))) ∧ Below w.heap.size w w' := by
  have HS := Lib.hid hs
  clear hs
  go_enter Tryd.func33, Tryd.ntmps33
  go_wp2
  go_loopw [4] (fun i wr => ∃ j : Nat, j ≤ 8 ∧ i = .int .i64 j ∧ wr.heap[w.heap.size]? = some (.cells (iRow (SStep.srow s 0)) 34 (0, 0)) ∧ wr.heap[w.heap.size + 1]? = some (.cells (iRow (SStep.srow s j)) 34 (0, 0)) ∧ Below w.heap.size w wr) (fun i _ => 8 - (intOf i).toNat)
  case atStart => exact ⟨0, Nat.zero_le _, rfl, heap_alloc2_old w _ _, heap_alloc2_new w _ _, ((Below.refl _ _).alloc (Nat.le_refl _) _).alloc (by simp) _⟩
  case round =>
    obtain ⟨j, hj, rfl, hb1, hb2, hbel⟩ := hrel
    by_cases hlt : j < 8
    · have hv := blk_cell hb2 (iRow_at _ j (by rw [SStep.srow_len _ _ hj]; exact hlt))
      have hfz := blk_free (i := j) hb2
      have HB1 := Lib.hid hb1
      have HB2 := Lib.hid hb2
      have HN := Lib.hid (SStep.srow_next s j hlt)
      have hsl : ∀ W : World, (Instr.slice 9 (.string ⟨s.toArray⟩) (some (.int .i64 (4 * (j : Int)))) (some (.int .i64 (4 * (j : Int) + 4))) none).run Tryd.prog W = .ok (.string ⟨((s.drop (4 * j)).take 4).toArray⟩) W := by
        intro W
        have := run_slice_string (P := Tryd.prog) (w := W) 9 ⟨s.toArray⟩ .i64 .i64 (4 * (j : Int)) (4 * (j : Int) + 4) Tryd.underlying9 (by omega) (by omega) (show _ ≤ ((s.length : Nat) : Int) by rw [HS.out]; omega)
        rw [this]
        have e1 : (4 * (j : Int)).toNat = 4 * j := by omega
        have e2 : (4 * (j : Int) + 4).toNat = 4 * j + 4 := by omega
        rw [e1, e2, ByteArray.extract_mk, show 4 * j + 4 - 4 * j = 4 from by omega]
      have HG : Hid (∀ W, Calls Tryd.prog 42 #[.string ⟨((s.drop (4 * j)).take 4).toArray⟩] W fun e w' => e = .returned (.tuple #[.int .i64 (nth4 s j), .int .i64 0]) ∧ W = w') := by
        intro W
        have h := RGet.any ⟨((s.drop (4 * j)).take 4).toArray⟩ W
        rw [show ((⟨((s.drop (4 * j)).take 4).toArray⟩ : ByteArray)).data.toList = (s.drop (4 * j)).take 4 from rfl, (get_four (s.drop (4 * j)) (by rw [List.length_drop, HS.out]; omega)).1] at h
        exact h
      have hnl := four_lt (s.drop (4 * j))
      replace hnl : nth4 s j < 4294967296 := hnl
      generalize (s.drop (4 * j)).take 4 = x at *
      generalize nth4 s j = y at *
      clear hb1 hb2
      go_wp2_with (go_at_call 42; refine (HG.out _).mono ?_; rintro e w1 ⟨rfl, rfl⟩)
      go_roundw
      case rel =>
        refine ⟨j + 1, by omega, by go_num, ?_, ?_, hbel.setCell (by simp) _⟩
        · rw [Below.heap_setCell _ _ _ _ (by simp)]; exact HB1.out
        · rw [blk_set HB2.out, iRow_set, HN.out]
      case measure => simp [intOf]; omega
    · have hk : j = 8 := by omega
      subst hk
      have hss : iRow (SStep.srow s 8) = iSt (stOf s) := rfl
      rw [hss] at hb2
      have hz : (iRow (SStep.srow s 0)).size = 8 := by rw [iRow_size, SStep.srow_len _ _ (by omega)]
      have hone : (iSt (stOf s)).all (·.oneCell') = true := by rw [← hss]; exact iRow_one _
      generalize iRow (SStep.srow s 0) = zs at *
      have HB1 := Lib.hid hb1
      have HB2 := Lib.hid hb2
      have HZ : Hid (zs.size = (iSt (stOf s)).size) := hz
      have HO := Lib.hid hone
      clear hb1 hb2 hss hz hone
      go_wp2_with (first
        | (refine wpList_load_row rfl 34 _ rfl (w.heap.size + 1) rfl 34 _ (0, 0) _ HB2.out Tryd.underlying34 rfl (by exact info34) ?_)
        | (refine wpList_store_row rfl 34 _ _ rfl w.heap.size _ rfl rfl 34 _ HB1.out (by exact info34) HZ.out HO.out ?_))
      refine bodyPost_ret (v := .agg (iSt (stOf s)))
        (results_cell_row Tryd.results33 _ _ w.heap.size 34 _ (0, 0) _ rfl (setRow_same HB1.out) Tryd.underlying34 rfl (by exact info34)) rfl ⟨rfl, below_setRow hbel (Nat.le_refl _) _⟩
end Go.Proofs.YtkaeeedjkegdlaaDoor.RTxt
