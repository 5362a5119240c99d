/- What sha's 'bytes' and 'first' answer: the walks of their texts. -/
import Derived.Test.YtfjlpialblllgaaDoorSRot
import Derived.Test.YtfjlpialblllgaaDoorMem
namespace Go.Proofs.YtfjlpialblllgaaDoor.SByt
open Go.RowKit
/-- The eight numbers as a row. -/
def stL (s : St) : List Nat := [s.a, s.b, s.c, s.d, s.e, s.f, s.g, s.h]
theorem bytes_at (s : St) (j : Nat) (h : j < 32) : s.bytes.getD j 0 = UInt8.ofNat ((stL s).getD (j / 4) 0 / 2 ^ (24 - 8 * (j % 4))) := by
  have : j = 0 ∨ j = 1 ∨ j = 2 ∨ j = 3 ∨ j = 4 ∨ j = 5 ∨ j = 6 ∨ j = 7 ∨ j = 8 ∨ j = 9 ∨ j = 10 ∨ j = 11 ∨ j = 12 ∨ j = 13 ∨ j = 14 ∨ j = 15 ∨ j = 16 ∨ j = 17 ∨ j = 18 ∨ j = 19 ∨ j = 20 ∨ j = 21 ∨ j = 22 ∨ j = 23 ∨ j = 24 ∨ j = 25 ∨ j = 26 ∨ j = 27 ∨ j = 28 ∨ j = 29 ∨ j = 30 ∨ j = 31 := by omega
  rcases this with rfl | rfl | rfl | rfl | rfl | rfl | rfl | rfl | rfl | rfl | rfl | rfl | rfl | rfl | rfl | rfl | rfl | rfl | rfl | rfl | rfl | rfl | rfl | rfl | rfl | rfl | rfl | rfl | rfl | rfl | rfl | rfl <;> rfl
theorem stL_lt (s : St) (hs : s.ok) (i : Nat) : (stL s).getD i 0 < 4294967296 := by
  obtain ⟨h1, h2, h3, h4, h5, h6, h7, h8⟩ := hs
  match i with
  | 0 => exact h1
  | 1 => exact h2
  | 2 => exact h3
  | 3 => exact h4
  | 4 => exact h5
  | 5 => exact h6
  | 6 => exact h7
  | 7 => exact h8
  | n + 8 => exact Nat.succ_pos _
theorem stL_at (s : St) (i : Nat) (h : i < 8) : (#[.int .u32 s.a, .int .u32 s.b, .int .u32 s.c, .int .u32 s.d, .int .u32 s.e, .int .u32 s.f, .int .u32 s.g, .int .u32 s.h] : Array Value)[i]? = some (.int .u32 ((stL s).getD i 0 : Nat)) := by
  match i, h with
  | 0, _ => rfl
  | 1, _ => rfl
  | 2, _ => rfl
  | 3, _ => rfl
  | 4, _ => rfl
  | 5, _ => rfl
  | 6, _ => rfl
  | 7, _ => rfl
/-- The row behind 'j' rounds. -/
def row (s : St) (j : Nat) : List UInt8 := s.bytes.take j ++ List.replicate (32 - j) 0
theorem row_len (s : St) (j : Nat) (h : j ≤ 32) : (row s j).length = 32 := by simp [row, bytes_length]; omega
theorem row_next (s : St) (j : Nat) (h : j < 32) : (row s j).set j (s.bytes.getD j 0) = row s (j + 1) := by
  have hl := bytes_length s
  unfold row
  rw [List.set_append_right _ _ (by simp; omega), show 32 - j = (32 - (j + 1)) + 1 from by omega, List.replicate_succ]
  rw [List.length_take, Nat.min_eq_left (by omega), Nat.sub_self, List.set_cons_zero]
  rw [List.take_succ_eq_append_getElem (by omega), List.append_assoc]
  congr 2
  simp [List.getD, hl, h]
theorem bytes (s : St) (hs : s.ok) (w : World) :
    Calls Tryd.prog 44 #[.agg #[.int .u32 s.a, .int .u32 s.b, .int .u32 s.c, .int .u32 s.d, .int .u32 s.e, .int .u32 s.f, .int .u32 s.g, .int .u32 s.h]] w fun e w' => e = .returned (.string ⟨s.bytes.toArray⟩) ∧ Below w.heap.size w w' := by
  have hat := stL_at s
  have hlt := stL_lt s hs
  generalize hc : (#[.int .u32 s.a, .int .u32 s.b, .int .u32 s.c, .int .u32 s.d, .int .u32 s.e, .int .u32 s.f, .int .u32 s.g, .int .u32 s.h] : Array Value) = cs at *
  have hsz : cs.size = 8 := by rw [← hc]; rfl
  clear hc
  go_enter Tryd.func44, Tryd.ntmps44
  go_wp2
  go_loopw [5] (fun i wr => ∃ j : Nat, j ≤ 32 ∧ i = .int .i64 j ∧ wr.heap[w.heap.size]? = some (.cells cs 65 (0, 0)) ∧ wr.heap[w.heap.size + 1]? = some (.cells (bytesRow (row s j)) 102 (0, 0)) ∧ Below w.heap.size w wr) (fun i _ => 32 - (intOf i).toNat)
  case atStart => exact ⟨0, Nat.zero_le _, rfl, heap_alloc2_old w _ _, heap_alloc2_new w _ _, ((Below.refl _ _).alloc (Nat.le_refl _) _).alloc (by simp) _⟩
  case round =>
    obtain ⟨j, hj, rfl, hb1, hb2, hbel⟩ := hrel
    have hsz2 : (bytesRow (row s j)).size = 32 := by rw [bytesRow_size, row_len _ _ hj]
    by_cases hlt' : j < 32
    · have hv := blk_cell hb1 (hat (j / 4) (by omega))
      have hl := hlt (j / 4)
      have hfz := blk_free (i := j) hb2
      have hv2 := blk_cell hb2 (bytesRow_at _ j (by rw [row_len _ _ hj]; omega))
      have HN := Lib.hid (row_next s j hlt')
      have HA := Lib.hid (bytes_at s j hlt')
      have hB1 := Lib.hid hb1
      have hB2 := Lib.hid hb2
      clear hat hlt hb1 hb2
      generalize (stL s).getD (j / 4) 0 = x at *
      go_wp2
      go_roundw
      case rel =>
        have hv3 : (x : Int) / 2 ^ (24 - 8 * (j % 4)) % 256 = ((UInt8.ofNat (x / 2 ^ (24 - 8 * (j % 4)))).toNat : Int) := by
          rw [UInt8.toNat_ofNat']; simp
        refine ⟨j + 1, by omega, by go_num, ?_, ?_, hbel.setCell (Nat.le_succ _) _⟩
        · rw [Below.heap_setCell _ _ _ _ (by simp)]; exact hB1.out
        · rw [blk_set hB2.out, hv3, bytesRow_set, ← HA.out, HN.out]
      case measure => simp [intOf]; omega
    · have hk : j = 32 := by omega
      subst hk
      have hb' : wr.heap[w.heap.size + 1]? = some (.cells (bytesRow (s.bytes ++ [])) 102 (0, 0)) := by rw [hb2]; simp [row, List.take_of_length_le, bytes_length]
      have hcv := conv_row (P := Tryd.prog) (src := 71) (dst := 9) (cap := 32) Tryd.underlying71 Tryd.underlying5 Tryd.underlying9 hb' (bytes_length _)
      clear hb1 hb2 hb' hat hlt
      go_wp2
      go_ret
      exact ⟨rfl, hbel⟩
theorem first (w : World) :
    Calls Tryd.prog 40 #[] w fun e w' => e = .returned (.agg #[.int .u32 st0.a, .int .u32 st0.b, .int .u32 st0.c, .int .u32 st0.d, .int .u32 st0.e, .int .u32 st0.f, .int .u32 st0.g, .int .u32 st0.h]) ∧ Below w.heap.size w w' := by
  go_enter Tryd.func40, Tryd.ntmps40
  go_wp2
  refine bodyPost_ret (v := .agg #[.int .u32 st0.a, .int .u32 st0.b, .int .u32 st0.c, .int .u32 st0.d, .int .u32 st0.e, .int .u32 st0.f, .int .u32 st0.g, .int .u32 st0.h])
    (results_cell_row Tryd.results40 _ _ w.heap.size 65 _ (0, 0) _ rfl (heap_alloc_new w _) Tryd.underlying65 rfl (by kernel_rfl)) rfl ⟨rfl, (Below.refl _ _).alloc (Nat.le_refl _) _⟩
end Go.Proofs.YtfjlpialblllgaaDoor.SByt
