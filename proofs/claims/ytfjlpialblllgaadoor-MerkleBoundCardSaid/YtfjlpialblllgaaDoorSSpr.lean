/- What sha's 'spread' answers: the walk of its text. -/
import Derived.Test.YtfjlpialblllgaaDoorSNumb
import Derived.Deep.RegionHeld3
import Derived.IntWalk
namespace Go.Proofs.YtfjlpialblllgaaDoor.SSpr
open Go.RowKit
/-- The cells of a row of numbers of 32 bits. -/
def wRow (l : List Nat) : Array Value := (l.map fun x : Nat => Value.int .u32 x).toArray
theorem wRow_size (l : List Nat) : (wRow l).size = l.length := by simp [wRow]
theorem wRow_at (l : List Nat) (i : Nat) (h : i < l.length) : (wRow l)[i]? = some (.int .u32 (l.getD i 0 : Nat)) := by simp [wRow, h, List.getD]
theorem wRow_set (l : List Nat) (i : Nat) (x : Nat) : (wRow l).setIfInBounds i (.int .u32 (x : Int)) = wRow (l.set i x) := by
  simp [wRow, List.map_set]
/-- The row behind 'i' rounds. -/
def wrow (b : List UInt8) (i : Nat) : List Nat := ws b i ++ List.replicate (64 - i) 0
theorem wrow_len (b : List UInt8) (i : Nat) (h : i ≤ 64) : (wrow b i).length = 64 := by simp [wrow, ws_length]; omega
theorem wrow_next (b : List UInt8) (i : Nat) (h : i < 64) (x : Nat) (hx : x = if i < 16 then num ((b.drop (4 * i)).take 4) else nextW (ws b i)) : (wrow b i).set i x = wrow b (i + 1) := by
  have hl := ws_length b i
  unfold wrow
  rw [List.set_append_right _ _ (by omega), show 64 - i = (64 - (i + 1)) + 1 from by omega, List.replicate_succ, hl, Nat.sub_self, List.set_cons_zero, ws, hx, List.append_assoc]
  rfl
theorem wrow_getD (b : List UInt8) (i j : Nat) (h : j < i) : (wrow b i).getD j 0 = (ws b i).getD j 0 := by
  have hl := ws_length b i
  simp [wrow, List.getD, List.getElem?_append_left, hl, h]
theorem four (b : List UInt8) (i : Nat) (h : 4 * i + 4 ≤ b.length) : (b.drop (4 * i)).take 4 = [b.getD (4 * i) 0, b.getD (4 * i + 1) 0, b.getD (4 * i + 2) 0, b.getD (4 * i + 3) 0] := by
  apply List.ext_getElem?
  intro k
  match k with
  | 0 => simp [List.getD, show 4 * i < b.length from by omega]
  | 1 => simp [List.getD, show 4 * i + 1 < b.length from by omega]
  | 2 => simp [List.getD, show 4 * i + 2 < b.length from by omega]
  | 3 => simp [List.getD, show 4 * i + 3 < b.length from by omega]
  | k + 4 => simp [List.getElem?_take]; omega
theorem byte_at (b : List UInt8) (i : Nat) (h : i < b.length) : (bytesRow b)[i]? = some (.int .u8 (b.getD i 0).toNat) := by
  rw [bytesRow_at b i h]; simp [List.getD, h]
theorem s0 (x : Nat) (w : World) (hx : x < 4294967296) : Calls Tryd.prog 75 #[.int .u32 x, .int .i64 7, .int .i64 18, .int .i64 3] w fun e w' => e = .returned (.int .u32 (half x 7 18 3 : Nat)) ∧ ∃ n, w' = w.drewN n :=
  SRot.half_ x 7 18 3 w hx (by omega) (by omega) (by omega) (by omega) (by omega) (by omega)
theorem s1 (x : Nat) (w : World) (hx : x < 4294967296) : Calls Tryd.prog 75 #[.int .u32 x, .int .i64 17, .int .i64 19, .int .i64 10] w fun e w' => e = .returned (.int .u32 (half x 17 19 10 : Nat)) ∧ ∃ n, w' = w.drewN n :=
  SRot.half_ x 17 19 10 w hx (by omega) (by omega) (by omega) (by omega) (by omega) (by omega)
theorem info71 : (Tryd.prog.info? 97).map (·.size) = some 64 := by kernel_rfl
theorem wRow_one (l : List Nat) : (wRow l).all (·.oneCell') = true := by
  rw [Array.all_eq_true_iff_forall_mem]
  intro v hv
  simp only [wRow, List.mem_toArray, List.mem_map] at hv
  obtain ⟨x, _, rfl⟩ := hv
  rfl
theorem arr64 : Tryd.prog.arrayLen 68 = 64 := by kernel_rfl
theorem und64 : Tryd.prog.underlying 68 = some (.array (Tryd.prog.arrayLen 68) (Tryd.prog.elem 68)) := by kernel_rfl
theorem size64 (W : World) : (sizeOf (Tryd.prog.elem 68)).run Tryd.prog W = .ok 1 W := by kernel_rfl
theorem slice4 (g : Nat) (j : Nat) (hj : j < 16) (W : World) : (Instr.sliceAt 68 (.pointer (some ⟨g, 0, none⟩)) (some (.int .i64 (4 * (j : Int)))) (some (.int .i64 (4 * (j : Int) + 4))) none).run Tryd.prog W = .ok (.slice (some ⟨g, 4 * j, none⟩) 4 (64 - 4 * j)) W := by
  rw [run_sliceAt_array_lh W _ _ und64 _ _ _ _ (by omega) (by omega) (by rw [arr64]; omega), size64, arr64]
  have e1 : (4 * (j : Int)).toNat = 4 * j := by omega
  have e2 : (4 * (j : Int) + 4).toNat = 4 * j + 4 := by omega
  have ha : (⟨g, 0, none⟩ : Addr).add (4 * j) = ⟨g, 4 * j, none⟩ := by unfold Addr.add; split <;> simp_all
  simp [slicedAt, e1, e2, ha, show ¬ 64 = 4 * j from by omega]
set_option maxRecDepth 100000 in
theorem spread (b : List UInt8) (hb : b.length = 64) (w : World) :
    Calls Tryd.prog 61 #[.agg (bytesRow b)] w fun e w' => e = .returned (.agg (wRow (ws b 64))) ∧ Below w.heap.size w w' := by
  have hat := byte_at b
  have hsz : (bytesRow b).size = 64 := by rw [bytesRow_size, hb]
  generalize bytesRow b = cs at *
  go_enter Tryd.func61, Tryd.ntmps61
  go_wp2
  go_loopw [6] (fun i wr => ∃ j : Nat, j ≤ 16 ∧ i = .int .i64 j ∧ wr.heap[w.heap.size]? = some (.cells cs 68 (0, 0)) ∧ wr.heap[w.heap.size + 1]? = some (.cells (wRow (List.replicate 64 0)) 97 (0, 0)) ∧ wr.heap[w.heap.size + 1 + 1]? = some (.cells (wRow (wrow b j)) 97 (0, 0)) ∧ Below w.heap.size w wr) (fun i _ => 16 - (intOf i).toNat)
  case atStart => exact ⟨0, Nat.zero_le _, rfl, alloc3_0 w _ _ _, alloc3_1 w _ _ _, alloc3_2 w _ _ _, below_alloc3 w _ _ _⟩
  case round =>
    obtain ⟨j, hj, rfl, hb1, hb2, hb3, hbel⟩ := hrel
    by_cases hlt : j < 16
    · have hsz2 : (wRow (wrow b j)).size = 64 := by rw [wRow_size, wrow_len _ _ (by omega)]
      have hv := blk_cell hb3 (wRow_at _ j (by rw [wrow_len _ _ (by omega)]; omega))
      have hfz := blk_free (i := j) hb3
      have HP := Lib.hid (fun W h0 h1 h2 h3 => SNumb.number w.heap.size (4 * j) (64 - 4 * j) (b.getD (4 * j) 0) (b.getD (4 * j + 1) 0) (b.getD (4 * j + 2) 0) (b.getD (4 * j + 3) 0) W h0 h1 h2 h3)
      have c0 := blk_cell hb1 (hat (4 * j) (by omega))
      have c1 := blk_cell hb1 (hat (4 * j + 1) (by omega))
      have c2 := blk_cell hb1 (hat (4 * j + 2) (by omega))
      have c3 := blk_cell hb1 (hat (4 * j + 3) (by omega))
      have HN := Lib.hid (wrow_next b j (by omega) (num ((b.drop (4 * j)).take 4)) (by rw [if_pos hlt]))
      rw [four b j (by omega)] at HN
      generalize b.getD (4 * j) 0 = x0 at *
      generalize b.getD (4 * j + 1) 0 = x1 at *
      generalize b.getD (4 * j + 2) 0 = x2 at *
      generalize b.getD (4 * j + 3) 0 = x3 at *
      have hsl := slice4 w.heap.size j hlt
      have hB1 := Lib.hid hb1
      have hB2 := Lib.hid hb2
      have hB3 := Lib.hid hb3
      clear hat hb1 hb2 hb3
      go_wp2_with fail
      refine (HP.out _ c0 c1 c2 c3).mono ?_
      rintro e w' ⟨rfl, nd, rfl⟩
      clear c0 c1 c2 c3
      go_wp2
      go_roundw
      case rel =>
        refine ⟨j + 1, by omega, by go_num, ?_, ?_, ?_, ?_⟩
        · rw [Below.heap_setCell _ _ _ _ (by simp; omega)]; exact hB1.out
        · rw [Below.heap_setCell _ _ _ _ (by simp)]; exact hB2.out
        · rw [blk_set (w := wr.drewN nd) hB3.out, wRow_set, HN.out]
        · exact (hbel.trans (below_drewN wr nd)).setCell (by simp; omega) _
      case measure => simp [intOf]; omega
    · have hk : j = 16 := by omega
      subst hk
      rw [show ((16 : Nat) : Int) = 16 from rfl]
      go_wp2
      clear hb1 hat
      have hrow : wr.heap[w.heap.size + 1 + 1]? = some (.cells (wRow (wrow b 16)) 97 (0, 0)) := hb3
      clear hb3
      obtain ⟨wq, hwq⟩ : ∃ wq : World, wq = wr := ⟨_, rfl⟩
      rw [← hwq] at hb2 hrow hbel ⊢
      clear hwq
      go_loopw [5] (fun i wr => ∃ j : Nat, 16 ≤ j ∧ j ≤ 64 ∧ i = .int .i64 j ∧ wr.heap[w.heap.size + 1]? = some (.cells (wRow (List.replicate 64 0)) 97 (0, 0)) ∧ wr.heap[w.heap.size + 1 + 1]? = some (.cells (wRow (wrow b j)) 97 (0, 0)) ∧ Below w.heap.size w wr) (fun i _ => 64 - (intOf i).toNat)
      case atStart => exact ⟨16, Nat.le_refl _, by omega, rfl, hb2, hrow, hbel⟩
      case round =>
        clear hb2 hrow hbel
        obtain ⟨j, hj0, hj, rfl, hb2, hb3, hbel⟩ := hrel
        by_cases hlt : j < 64
        · have hl := wrow_len b j hj
          have hw := ws_getD_lt b j
          have c16 := blk_cell hb3 (wRow_at _ (j - 16) (by omega))
          have c15 := blk_cell hb3 (wRow_at _ (j - 15) (by omega))
          have c7 := blk_cell hb3 (wRow_at _ (j - 7) (by omega))
          have c2 := blk_cell hb3 (wRow_at _ (j - 2) (by omega))
          have HN := Lib.hid (wrow_next b j hlt _ (by rw [if_neg (by omega), nextW, ws_length]))
          have cj := blk_cell hb3 (wRow_at _ j (by omega))
          have hfz := blk_free (i := j) hb3
          rw [wrow_getD _ _ _ (by omega)] at c16 c15 c7 c2
          have b16 := hw (j - 16)
          have b15 := hw (j - 15)
          have b7 := hw (j - 7)
          have b2 := hw (j - 2)
          generalize (ws b j).getD (j - 16) 0 = x16 at *
          generalize (ws b j).getD (j - 15) 0 = x15 at *
          generalize (ws b j).getD (j - 7) 0 = x7 at *
          generalize (ws b j).getD (j - 2) 0 = x2 at *
          have hs0 := half_lt x15 7 18 3 b15
          have hs1 := half_lt x2 17 19 10 b2
          have H0 := Lib.hid (fun W => s0 x15 W b15)
          have H1 := Lib.hid (fun W => s1 x2 W b2)
          generalize half x15 7 18 3 = y0 at *
          generalize half x2 17 19 10 = y1 at *
          have hB2 := Lib.hid hb2
          have hB3 := Lib.hid hb3
          clear hw hl hb2 hb3
          obtain ⟨p16, q16⟩ : ∃ p, p = j - 16 := ⟨_, rfl⟩
          obtain ⟨p15, q15⟩ : ∃ p, p = j - 15 := ⟨_, rfl⟩
          obtain ⟨p7, q7⟩ : ∃ p, p = j - 7 := ⟨_, rfl⟩
          obtain ⟨p2, q2⟩ : ∃ p, p = j - 2 := ⟨_, rfl⟩
          rw [← q16] at c16
          rw [← q15] at c15
          rw [← q7] at c7
          rw [← q2] at c2
          have e16 : IntKind.i64.wrap ((j : Int) - 16) = (p16 : Int) := by rw [IntWalk.i64_in _ (by omega)]; omega
          have e15 : IntKind.i64.wrap ((j : Int) - 15) = (p15 : Int) := by rw [IntWalk.i64_in _ (by omega)]; omega
          have e7 : IntKind.i64.wrap ((j : Int) - 7) = (p7 : Int) := by rw [IntWalk.i64_in _ (by omega)]; omega
          have e2 : IntKind.i64.wrap ((j : Int) - 2) = (p2 : Int) := by rw [IntWalk.i64_in _ (by omega)]; omega
          have g16 : (p16 : Int) < 64 := by omega
          have g15 : (p15 : Int) < 64 := by omega
          have g7 : (p7 : Int) < 64 := by omega
          have g2 : (p2 : Int) < 64 := by omega
          have gj : (j : Int) < 64 := by omega
          have z16 : (0 : Int) ≤ (p16 : Int) := by omega
          have z15 : (0 : Int) ≤ (p15 : Int) := by omega
          have z7 : (0 : Int) ≤ (p7 : Int) := by omega
          have z2 : (0 : Int) ≤ (p2 : Int) := by omega
          have zj : (0 : Int) ≤ (j : Int) := by omega
          have N16 : p16 ≠ j := by omega
          have N15 : p15 ≠ j := by omega
          have N7 : p7 ≠ j := by omega
          have N2 : p2 ≠ j := by omega
          clear q16 q15 q7 q2
          go_wp2
          go_region_held3 (fun w' => w'.cell? ⟨w.heap.size + 1 + 1, p16, none⟩ = some (.int .u32 x16) ∧ w'.cell? ⟨w.heap.size + 1 + 1, p15, none⟩ = some (.int .u32 x15) ∧ w'.cell? ⟨w.heap.size + 1 + 1, p7, none⟩ = some (.int .u32 x7) ∧ w'.cell? ⟨w.heap.size + 1 + 1, p2, none⟩ = some (.int .u32 x2))
            (first | exact ⟨c16, c15, c7, c2⟩ | exact ⟨cell_far N16 c16, cell_far N15 c15, cell_far N7 c7, cell_far N2 c2⟩)
            (first | (go_at_call 75; (with_reducible refine (H0.out _).mono ?_); rintro e w1 ⟨rfl, n1, rfl⟩) | (go_at_call 75; (with_reducible refine (H1.out _).mono ?_); rintro e w2 ⟨rfl, n2, rfl⟩))
          go_wp2
          go_roundw
          case rel =>
            have hv : ((((x16 : Int) + y0) % 4294967296 + x7) % 4294967296 + y1) % 4294967296 = (((x16 + y0 + x7 + y1) % 4294967296 : Nat) : Int) := by omega
            refine ⟨j + 1, by omega, by omega, by go_num, ?_, ?_, ?_⟩
            · rw [Below.heap_setCell _ _ _ _ (by simp)]; exact hB2.out
            · rw [blk_set (w := wr.drewN _) hB3.out, hv, wRow_set, HN.out]
            · exact (hbel.trans (below_drewN wr _)).setCell (by simp; omega) _
          case measure => simp [intOf]; omega
        · have hk : j = 64 := by omega
          subst hk
          have hz : (wRow (wrow b 64)) = wRow (ws b 64) := by simp [wrow]
          rw [hz] at hb3
          have hs1 : (wRow (ws b 64)).size = 64 := by rw [wRow_size, ws_length]
          have hs2 : (wRow (List.replicate 64 0)).size = 64 := by rw [wRow_size, List.length_replicate]
          have hone := wRow_one (ws b 64)
          generalize wRow (List.replicate 64 0) = zs at *
          obtain ⟨rs, hrs⟩ : ∃ rs, rs = wRow (ws b 64) := ⟨_, rfl⟩
          rw [← hrs] at hb3 hs1 hone
          have HR := Lib.hid hrs
          have HB2 := Lib.hid hb2
          have HB3 := Lib.hid hb3
          have HI := Lib.hid (show (Tryd.prog.info? 97).map (·.size) = some rs.size by rw [hs1]; exact info71)
          have HS := Lib.hid (show zs.size = rs.size by rw [hs1, hs2])
          have HO := Lib.hid hone
          clear hb2 hb3 hs1 hs2 hone hz hsz hrs
          go_wp2_with (first
            | (refine wpList_load_row rfl 97 _ rfl (w.heap.size + 1 + 1) rfl 97 _ (0, 0) _ HB3.out Tryd.underlying97 rfl HI.out ?_)
            | (refine wpList_store_row rfl 97 _ _ rfl (w.heap.size + 1) _ rfl rfl 97 _ HB2.out HI.out HS.out HO.out ?_))
          refine bodyPost_ret (v := .agg rs)
            (results_cell_row Tryd.results61 _ _ (w.heap.size + 1) 97 _ (0, 0) _ rfl (setRow_same HB2.out) Tryd.underlying97 rfl HI.out) rfl ⟨by rw [HR.out], below_setRow hbel (by omega) _⟩
end Go.Proofs.YtfjlpialblllgaaDoor.SSpr
