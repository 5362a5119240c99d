/- aes.filled, over each of the closures that it is handed: the state that has at each place what the closure tells. The condition: what the closure answers in each world that keeps what was there. -/
import Derived.Test.YtjlepjnfacmieaaAesS
import Derived.Test.YtjlepjnfacmieaaATab
namespace Go.Proofs.Ytjlepjnfacmieaa.AFill
open Go.RowKit
open AesM ATab
theorem info16 : (Try.prog.info? 76).map (·.size) = some 16 := by kernel_rfl
def fillTo (f : Nat → UInt8) (j : Nat) : List UInt8 := (List.range j).map f ++ List.replicate (16 - j) 0
theorem fillTo_len (f : Nat → UInt8) (j : Nat) (h : j ≤ 16) : (fillTo f j).length = 16 := by simp [fillTo]; omega
theorem fillTo_next (f : Nat → UInt8) (j : Nat) (h : j < 16) : (fillTo f j).set j (f j) = fillTo f (j + 1) := by
  unfold fillTo
  rw [List.set_append_right _ _ (by simp), show 16 - j = (16 - (j + 1)) + 1 from by omega, List.replicate_succ]
  simp only [List.length_map, List.length_range, Nat.sub_self, List.set_cons_zero]
  rw [List.range_succ, List.map_append, List.append_assoc]
  rfl
theorem fillTo_all (f : Nat → UInt8) : fillTo f 16 = fillL f := by simp [fillTo, fillL]
theorem over_add (p q r : Value) (f : Nat → UInt8) (w : World)
    (hc : ∀ (i : Nat) (W : World), i < 16 → Below w.heap.size w W → Calls Try.prog 48 #[.int .i64 i, p, q, r] W fun e w' => e = .returned (.int .u8 (f i).toNat) ∧ ∃ n, w' = W.drewN n) :
    Calls Try.prog 47 #[.func (.func 48) #[] #[p, q, r]] w fun e w' => e = .returned (.agg (bytesRow (fillL f))) ∧ Below w.heap.size w w' := by
  have HC := Lib.hid hc
  clear hc
  go_enter Try.func47, Try.ntmps47
  go_wp2_with fail
  go_loopw [5] (fun i wr => ∃ j : Nat, j ≤ 16 ∧ i = .int .i64 j ∧ wr.heap[w.heap.size]? = some (.cells (bytesRow (fillTo f 0)) 76 (0, 0)) ∧ wr.heap[w.heap.size + 1]? = some (.cells (bytesRow (fillTo f j)) 76 (0, 0)) ∧ Below w.heap.size w wr) (fun i _ => 16 - (intOf i).toNat)
  case atStart => exact ⟨0, Nat.zero_le _, rfl, heap_alloc2_old w _ _, heap_alloc2_new w _ _, ((Below.refl _ _).alloc (Nat.le_refl _) _).alloc (by simp) _⟩
  case round =>
    obtain ⟨j, hj, rfl, hb0, hb1, hbel⟩ := hrel
    by_cases hlt : j < 16
    · have hv := blk_cell hb1 (byte_at _ j (by rw [fillTo_len f j hj]; exact hlt))
      have hfz := blk_free (i := j) hb1
      have HD := Lib.hid (HC.out j wr hlt hbel)
      have HX := Lib.hid (fillTo_next f j hlt)
      have HB0 := Lib.hid hb0
      have HB1 := Lib.hid hb1
      clear hb0 hb1
      go_wp2_with fail
      refine HD.out.mono ?_
      rintro e w1 ⟨rfl, nd, rfl⟩
      go_wp2
      go_roundw
      case rel =>
        refine ⟨j + 1, by omega, by go_num, ?_, ?_, ?_⟩
        · rw [Below.heap_setCell _ _ _ _ (by simp)]; exact HB0.out
        · rw [blk_set (w := wr.drewN nd) HB1.out, bytesRow_set, HX.out]
        · exact (hbel.trans (below_drewN wr nd)).setCell (by simp) _
      case measure => simp [intOf]; omega
    · have hk : j = 16 := by omega
      subst hk
      rw [fillTo_all] at hb1
      have hs : (bytesRow (fillL f)).size = 16 := by rw [bytesRow_size, fillL_length]
      have hz : (bytesRow (fillTo f 0)).size = 16 := by rw [bytesRow_size, fillTo_len f 0 (by omega)]
      have hone := bytes_one (fillL f)
      obtain ⟨rs, hrs⟩ : ∃ rs, rs = bytesRow (fillL f) := ⟨_, rfl⟩
      obtain ⟨zs, hzs⟩ : ∃ zs, zs = bytesRow (fillTo f 0) := ⟨_, rfl⟩
      rw [← hrs] at hb1 hs hone
      rw [← hzs] at hb0 hz
      have HR := Lib.hid hrs
      have HB0 := Lib.hid hb0
      have HB1 := Lib.hid hb1
      have HI := Lib.hid (show (Try.prog.info? 76).map (·.size) = some rs.size by rw [hs]; exact info16)
      have HS := Lib.hid (show zs.size = rs.size by rw [hs, hz])
      have HO := Lib.hid hone
      clear hb0 hb1 hs hone hz hrs hzs
      go_wp2_with (first
        | (refine wpList_load_row rfl 76 _ rfl (w.heap.size + 1) rfl 76 _ (0, 0) _ HB1.out Try.underlying76 rfl HI.out ?_)
        | (refine wpList_store_row rfl 76 _ _ rfl w.heap.size _ rfl rfl 76 _ HB0.out HI.out HS.out HO.out ?_))
      refine bodyPost_ret (v := .agg rs)
        (results_cell_row Try.results47 _ _ w.heap.size 76 _ (0, 0) _ rfl (setRow_same HB0.out) Try.underlying76 rfl HI.out) rfl ⟨by rw [HR.out], below_setRow hbel (Nat.le_refl _) _⟩
theorem over_swapped (p q : Value) (f : Nat → UInt8) (w : World)
    (hc : ∀ (i : Nat) (W : World), i < 16 → Below w.heap.size w W → Calls Try.prog 49 #[.int .i64 i, p, q] W fun e w' => e = .returned (.int .u8 (f i).toNat) ∧ ∃ n, w' = W.drewN n) :
    Calls Try.prog 47 #[.func (.func 49) #[] #[p, q]] w fun e w' => e = .returned (.agg (bytesRow (fillL f))) ∧ Below w.heap.size w w' := by
  have HC := Lib.hid hc
  clear hc
  go_enter Try.func47, Try.ntmps47
  go_wp2_with fail
  go_loopw [5] (fun i wr => ∃ j : Nat, j ≤ 16 ∧ i = .int .i64 j ∧ wr.heap[w.heap.size]? = some (.cells (bytesRow (fillTo f 0)) 76 (0, 0)) ∧ wr.heap[w.heap.size + 1]? = some (.cells (bytesRow (fillTo f j)) 76 (0, 0)) ∧ Below w.heap.size w wr) (fun i _ => 16 - (intOf i).toNat)
  case atStart => exact ⟨0, Nat.zero_le _, rfl, heap_alloc2_old w _ _, heap_alloc2_new w _ _, ((Below.refl _ _).alloc (Nat.le_refl _) _).alloc (by simp) _⟩
  case round =>
    obtain ⟨j, hj, rfl, hb0, hb1, hbel⟩ := hrel
    by_cases hlt : j < 16
    · have hv := blk_cell hb1 (byte_at _ j (by rw [fillTo_len f j hj]; exact hlt))
      have hfz := blk_free (i := j) hb1
      have HD := Lib.hid (HC.out j wr hlt hbel)
      have HX := Lib.hid (fillTo_next f j hlt)
      have HB0 := Lib.hid hb0
      have HB1 := Lib.hid hb1
      clear hb0 hb1
      go_wp2_with fail
      refine HD.out.mono ?_
      rintro e w1 ⟨rfl, nd, rfl⟩
      go_wp2
      go_roundw
      case rel =>
        refine ⟨j + 1, by omega, by go_num, ?_, ?_, ?_⟩
        · rw [Below.heap_setCell _ _ _ _ (by simp)]; exact HB0.out
        · rw [blk_set (w := wr.drewN nd) HB1.out, bytesRow_set, HX.out]
        · exact (hbel.trans (below_drewN wr nd)).setCell (by simp) _
      case measure => simp [intOf]; omega
    · have hk : j = 16 := by omega
      subst hk
      rw [fillTo_all] at hb1
      have hs : (bytesRow (fillL f)).size = 16 := by rw [bytesRow_size, fillL_length]
      have hz : (bytesRow (fillTo f 0)).size = 16 := by rw [bytesRow_size, fillTo_len f 0 (by omega)]
      have hone := bytes_one (fillL f)
      obtain ⟨rs, hrs⟩ : ∃ rs, rs = bytesRow (fillL f) := ⟨_, rfl⟩
      obtain ⟨zs, hzs⟩ : ∃ zs, zs = bytesRow (fillTo f 0) := ⟨_, rfl⟩
      rw [← hrs] at hb1 hs hone
      rw [← hzs] at hb0 hz
      have HR := Lib.hid hrs
      have HB0 := Lib.hid hb0
      have HB1 := Lib.hid hb1
      have HI := Lib.hid (show (Try.prog.info? 76).map (·.size) = some rs.size by rw [hs]; exact info16)
      have HS := Lib.hid (show zs.size = rs.size by rw [hs, hz])
      have HO := Lib.hid hone
      clear hb0 hb1 hs hone hz hrs hzs
      go_wp2_with (first
        | (refine wpList_load_row rfl 76 _ rfl (w.heap.size + 1) rfl 76 _ (0, 0) _ HB1.out Try.underlying76 rfl HI.out ?_)
        | (refine wpList_store_row rfl 76 _ _ rfl w.heap.size _ rfl rfl 76 _ HB0.out HI.out HS.out HO.out ?_))
      refine bodyPost_ret (v := .agg rs)
        (results_cell_row Try.results47 _ _ w.heap.size 76 _ (0, 0) _ rfl (setRow_same HB0.out) Try.underlying76 rfl HI.out) rfl ⟨by rw [HR.out], below_setRow hbel (Nat.le_refl _) _⟩
theorem over_turned (p q : Value) (f : Nat → UInt8) (w : World)
    (hc : ∀ (i : Nat) (W : World), i < 16 → Below w.heap.size w W → Calls Try.prog 50 #[.int .i64 i, p, q] W fun e w' => e = .returned (.int .u8 (f i).toNat) ∧ ∃ n, w' = W.drewN n) :
    Calls Try.prog 47 #[.func (.func 50) #[] #[p, q]] w fun e w' => e = .returned (.agg (bytesRow (fillL f))) ∧ Below w.heap.size w w' := by
  have HC := Lib.hid hc
  clear hc
  go_enter Try.func47, Try.ntmps47
  go_wp2_with fail
  go_loopw [5] (fun i wr => ∃ j : Nat, j ≤ 16 ∧ i = .int .i64 j ∧ wr.heap[w.heap.size]? = some (.cells (bytesRow (fillTo f 0)) 76 (0, 0)) ∧ wr.heap[w.heap.size + 1]? = some (.cells (bytesRow (fillTo f j)) 76 (0, 0)) ∧ Below w.heap.size w wr) (fun i _ => 16 - (intOf i).toNat)
  case atStart => exact ⟨0, Nat.zero_le _, rfl, heap_alloc2_old w _ _, heap_alloc2_new w _ _, ((Below.refl _ _).alloc (Nat.le_refl _) _).alloc (by simp) _⟩
  case round =>
    obtain ⟨j, hj, rfl, hb0, hb1, hbel⟩ := hrel
    by_cases hlt : j < 16
    · have hv := blk_cell hb1 (byte_at _ j (by rw [fillTo_len f j hj]; exact hlt))
      have hfz := blk_free (i := j) hb1
      have HD := Lib.hid (HC.out j wr hlt hbel)
      have HX := Lib.hid (fillTo_next f j hlt)
      have HB0 := Lib.hid hb0
      have HB1 := Lib.hid hb1
      clear hb0 hb1
      go_wp2_with fail
      refine HD.out.mono ?_
      rintro e w1 ⟨rfl, nd, rfl⟩
      go_wp2
      go_roundw
      case rel =>
        refine ⟨j + 1, by omega, by go_num, ?_, ?_, ?_⟩
        · rw [Below.heap_setCell _ _ _ _ (by simp)]; exact HB0.out
        · rw [blk_set (w := wr.drewN nd) HB1.out, bytesRow_set, HX.out]
        · exact (hbel.trans (below_drewN wr nd)).setCell (by simp) _
      case measure => simp [intOf]; omega
    · have hk : j = 16 := by omega
      subst hk
      rw [fillTo_all] at hb1
      have hs : (bytesRow (fillL f)).size = 16 := by rw [bytesRow_size, fillL_length]
      have hz : (bytesRow (fillTo f 0)).size = 16 := by rw [bytesRow_size, fillTo_len f 0 (by omega)]
      have hone := bytes_one (fillL f)
      obtain ⟨rs, hrs⟩ : ∃ rs, rs = bytesRow (fillL f) := ⟨_, rfl⟩
      obtain ⟨zs, hzs⟩ : ∃ zs, zs = bytesRow (fillTo f 0) := ⟨_, rfl⟩
      rw [← hrs] at hb1 hs hone
      rw [← hzs] at hb0 hz
      have HR := Lib.hid hrs
      have HB0 := Lib.hid hb0
      have HB1 := Lib.hid hb1
      have HI := Lib.hid (show (Try.prog.info? 76).map (·.size) = some rs.size by rw [hs]; exact info16)
      have HS := Lib.hid (show zs.size = rs.size by rw [hs, hz])
      have HO := Lib.hid hone
      clear hb0 hb1 hs hone hz hrs hzs
      go_wp2_with (first
        | (refine wpList_load_row rfl 76 _ rfl (w.heap.size + 1) rfl 76 _ (0, 0) _ HB1.out Try.underlying76 rfl HI.out ?_)
        | (refine wpList_store_row rfl 76 _ _ rfl w.heap.size _ rfl rfl 76 _ HB0.out HI.out HS.out HO.out ?_))
      refine bodyPost_ret (v := .agg rs)
        (results_cell_row Try.results47 _ _ w.heap.size 76 _ (0, 0) _ rfl (setRow_same HB0.out) Try.underlying76 rfl HI.out) rfl ⟨by rw [HR.out], below_setRow hbel (Nat.le_refl _) _⟩
end Go.Proofs.Ytjlepjnfacmieaa.AFill
