/- What the document's answer for layer 2 says of a state's bytes, of the state of bytes, and of what stands behind a text: the walks of keepsakeref02.Text, Of and Pad. -/
import Derived.Test.YtfjlpialblllgaaDoorRRot
import Derived.Test.YtfjlpialblllgaaDoorSByt
import Derived.Test.YtfjlpialblllgaaDoorSStep
import Derived.Test.YtfjlpialblllgaaDoorRPut
import Derived.Test.YtfjlpialblllgaaDoorRGet
import Derived.Test.YtfjlpialblllgaaDoorRNou
namespace Go.Proofs.YtfjlpialblllgaaDoor.RTxt
open Go.RowKit
open SSpr SByt RRot
def tb (s : St) (j : Nat) : List UInt8 := ((stL s).take j).flatMap (be 4)
theorem tb_next (s : St) (j : Nat) (h : j < 8) : tb s (j + 1) = tb s j ++ be 4 ((stL s).getD j 0) := by
  have hl : j < (stL s).length := h
  unfold tb
  rw [List.take_succ_eq_append_getElem hl, List.flatMap_append]
  simp [List.getD, hl]
theorem tb_all (s : St) : tb s 8 = s.bytes := by
  simp [tb, stL, St.bytes, List.flatMap]
theorem iSt_at (s : St) (i : Nat) (h : i < 8) : (iSt s)[i]? = some (.int .i64 ((stL s).getD i 0 : Nat)) := by
  match i, h with
  | 0, _ => rfl
  | 1, _ => rfl
  | 2, _ => rfl
  | 3, _ => rfl
  | 4, _ => rfl
  | 5, _ => rfl
  | 6, _ => rfl
  | 7, _ => rfl
theorem Text (s : St) (hs : s.ok) (w : World) :
    Calls Tryd.prog 49 #[.agg (iSt s)] w fun e w' => e = .returned (.string ⟨s.bytes.toArray⟩) ∧ Below w.heap.size w w' := by
  have hat := iSt_at s
  have hlt := stL_lt s hs
  have hsz : (iSt s).size = 8 := rfl
  generalize iSt s = cs at *
  go_enter Tryd.func49, Tryd.ntmps49
  go_wp2
  go_loopw [3, 4] (fun t i wr => ∃ j : Nat, j ≤ 8 ∧ i = .int .i64 j ∧ t = .string ⟨(tb s j).toArray⟩ ∧ Below (w.heap.size + 1) (w.alloc (.cells cs 76)) wr) (fun _ i _ => 8 - (intOf i).toNat)
  case atStart => exact ⟨0, Nat.zero_le _, rfl, rfl, Below.refl _ _⟩
  case round =>
    obtain ⟨j, hj, rfl, rfl, hbel⟩ := hrel
    have hblk : wr.heap[w.heap.size]? = some (.cells cs 76 (0, 0)) := (hbel.block _ (by omega)).trans (heap_alloc_new w _)
    have HB := Lib.hid hbel
    by_cases hlt' : j < 8
    · have hv := blk_cell hblk (hat j hlt')
      have hl := hlt j
      have HN := Lib.hid (tb_next s j hlt')
      have htl : (tb s j).length ≤ 32 := by
        have h : ∀ k, (tb s k).length = 4 * ((stL s).take k).length := by
          intro k
          unfold tb
          generalize (stL s).take k = L
          induction L with
          | nil => rfl
          | cons x L ih => rw [List.flatMap_cons, List.length_append, ih, be_length, List.length_cons]; omega
        rw [h, List.length_take]
        have : (stL s).length = 8 := rfl
        omega
      clear hat hlt hblk hbel
      generalize (stL s).getD j 0 = x at *
      have hP : ∀ W, Calls Tryd.prog 66 #[.int .i64 x, .int .i64 4] W fun e w' => e = .returned (.tuple #[.string ⟨(be 4 x).toArray⟩, .int .i64 0]) ∧ Below W.heap.size W w' := by
        intro W
        have := RPut.any (x : Int) 4 W (by omega)
        rw [put_good _ _ (by omega) (by omega) (by omega) (by simp only [Int.reduceToNat, Int.reducePow]; omega)] at this
        exact this
      have HP := Lib.hid hP
      have hbl : (be 4 x).length ≤ 4 := by rw [be_length]; omega
      have hap : (⟨(tb s j).toArray⟩ ++ ⟨(be 4 x).toArray⟩ : ByteArray) = ⟨(tb s (j + 1)).toArray⟩ := by rw [HN.out, ByteArray.mk_append_mk]
      have HA := Lib.hid hap
      clear hP hap
      generalize be 4 x = y at *
      go_wp2_with (go_at_call 66; refine (HP.out _).mono ?_; rintro e w1 ⟨rfl, hb1⟩; have HB1 := Lib.hid (HB.out.trans (hb1.mono (by have := HB.out.size; simp at this; omega))); clear hb1)
      go_roundw
      case rel => exact ⟨j + 1, by omega, by go_num, by rw [HA.out], HB1.out⟩
      case measure => simp [intOf]; omega
    · have hk : j = 8 := by omega
      subst hk
      rw [tb_all]
      clear hat hlt hblk hbel
      go_wp2
      go_ret
      exact ⟨rfl, ((Below.refl w.heap.size w).alloc (Nat.le_refl _) _).trans (HB.out.mono (by omega))⟩
end Go.Proofs.YtfjlpialblllgaaDoor.RTxt
