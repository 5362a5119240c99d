/- SRot SNumb SByt SSpr STurn SStep: one behind the other. -/
import Derived.Test.YtoilcieineejiaaGreatDoorLShn
import Derived.Test.YtoilcieineejiaaGreatDoorRows
import Derived.WalkKit
import Derived.Laws.BitsAllLaws
import Derived.Lib.Hide
import Derived.Outline
import Derived.Deep.QuietTactic
import Derived.BigQuiet
import Derived.Test.YtoilcieineejiaaGreatDoorLMem
import Derived.Deep.RegionHeld3
import Derived.IntWalk
import Derived.Deep.DeepCutAuto
import Derived.Deep.MidRow
import Derived.Deep.RegionWith
import Derived.Laws.Cover3
/- What math/bits.RotateLeft32 answers at a negative count, and sha's 'turned' and 'half': the walks of their texts. -/
namespace Go.Proofs.YtoilcieineejiaaGreatDoor.SRot
open Go.RowKit
theorem and31 (n m : Nat) (h1 : 1 ≤ m) (h0 : 1 ≤ n) (h2 : n + m = 32) : bits .and .u64 (IntKind.u64.wrap (-(n : Int))) 31 = (m : Int) := by
  have e : IntKind.u64.wrap (-(n : Int)) = ((18446744073709551616 - n : Nat) : Int) := by
    rw [IntKind.wrap_u64]
    omega
  rw [e, show (31 : Int) = ((31 : Nat) : Int) from rfl, u64_and_nat _ _ (by omega) (by omega), nat_mask5]
  omega
theorem or_ro (x n m : Nat) (hx : x < 4294967296) (h : n + m = 32) : bits .or .u32 ((x : Int) * 2 ^ m % 4294967296) ((x : Int) / 2 ^ n) = ((ro x n : Nat) : Int) := by
  have e1 : ((x : Int) * 2 ^ m % 4294967296) = ((x * 2 ^ m % 4294967296 : Nat) : Int) := by simp
  have e2 : ((x : Int) / 2 ^ n) = ((x / 2 ^ n : Nat) : Int) := by simp
  rw [e1, e2, u32_or_nat _ _ (Nat.mod_lt _ (by omega)) (Nat.lt_of_le_of_lt (Nat.div_le_self _ _) hx), ro, show 32 - n = m from by omega, Nat.or_comm]
theorem rot (x n : Nat) (w : World) (hx : x < 4294967296) (h1 : 1 ≤ n) (h2 : n ≤ 31) :
    Calls Tryz.prog 159 #[.int .u32 x, .int .i64 (-(n : Int))] w fun e w' => e = .returned (.int .u32 (ro x n : Nat)) ∧ w = w' := by
  obtain ⟨m, hm, h3, h4⟩ : ∃ m, n + m = 32 ∧ 1 ≤ m ∧ m ≤ 31 := ⟨32 - n, by omega⟩
  have ha := and31 n m h3 h1 hm
  have hs : (32 : Int) - (m : Int) = (n : Int) := by omega
  have HM := Lib.hid hm
  clear hm
  go_enter Tryz.func159, Tryz.ntmps159
  go_wp2
  go_ret
  rw [or_ro x n m hx HM.out]
  exact ⟨rfl, rfl⟩
theorem quiet_eq {P : Program} {f : FuncId} {args : Array Value} {w : World} {n : Nat} {v : Value}
    (h : Calls P f args (w.drewN n) fun e w' => e = .returned v ∧ w.drewN n = w') : Calls P f args (w.drewN n) fun e w'' => e = .returned v ∧ ∃ m, w'' = w.drewN m :=
  h.mono fun _ _ ⟨he, hm⟩ => ⟨he, n, hm.symm⟩
theorem turned (x i j k : Nat) (w : World) (hx : x < 4294967296) (h1 : 1 ≤ i) (h2 : i ≤ 31) (h3 : 1 ≤ j) (h4 : j ≤ 31) (h5 : 1 ≤ k) (h6 : k ≤ 31) :
    Calls Tryz.prog 152 #[.int .u32 x, .int .i64 i, .int .i64 j, .int .i64 k] w fun e w' => e = .returned (.int .u32 (three x i j k : Nat)) ∧ w = w' := by
  have r1 := ro_lt x i hx
  have r2 := ro_lt x j hx
  have r3 := ro_lt x k hx
  have e1 := u32_xor_nat _ _ r1 r2
  have e2 := u32_xor_nat _ _ (xor_lt _ _ r1 r2) r3
  go_enter Tryz.func152, Tryz.ntmps152
  go_wp2_with fail
  refine (rot x i _ hx h1 h2).mono ?_
  rintro e w' ⟨rfl, rfl⟩
  go_wp2_with fail
  refine (rot x j _ hx h3 h4).mono ?_
  rintro e w' ⟨rfl, rfl⟩
  go_wp2_with fail
  refine (rot x k _ hx h5 h6).mono ?_
  rintro e w' ⟨rfl, rfl⟩
  go_wp2
  go_ret
  exact ⟨rfl, rfl⟩
theorem half_ (x i j k : Nat) (w : World) (hx : x < 4294967296) (h1 : 1 ≤ i) (h2 : i ≤ 31) (h3 : 1 ≤ j) (h4 : j ≤ 31) (h5 : 1 ≤ k) (h6 : k ≤ 31) :
    Calls Tryz.prog 158 #[.int .u32 x, .int .i64 i, .int .i64 j, .int .i64 k] w fun e w' => e = .returned (.int .u32 (half x i j k : Nat)) ∧ ∃ n, w' = w.drewN n := by
  have r1 := ro_lt x i hx
  have r2 := ro_lt x j hx
  have r3 : x / 2 ^ k < 4294967296 := Nat.lt_of_le_of_lt (Nat.div_le_self _ _) hx
  have e1 := u32_xor_nat _ _ r1 r2
  have e2 := u32_xor_nat _ _ (xor_lt _ _ r1 r2) r3
  rw [show ((x / 2 ^ k : Nat) : Int) = (x : Int) / 2 ^ k from by simp] at e2
  go_enter Tryz.func158, Tryz.ntmps158
  go_wp2
  go_quiet ((go_at_call 159; exact quiet_eq (rot x _ _ hx (by assumption) (by assumption))))
  go_wp2
  go_ret
  exact ⟨rfl, _, rfl⟩
end Go.Proofs.YtoilcieineejiaaGreatDoor.SRot
/- What sha's 'number' answers for four bytes that lie in memory: the walk of its text. -/
namespace Go.Proofs.YtoilcieineejiaaGreatDoor.SNumb
open Go.RowKit
theorem or_four (a b c d : Nat) (ha : a < 256) (hb : b < 256) (hc : c < 256) (hd : d < 256) :
    bits .or .u32 (bits .or .u32 (bits .or .u32 ((a : Int) * 16777216) ((b : Int) * 65536)) ((c : Int) * 256)) (d : Int) = ((a * 16777216 + b * 65536 + c * 256 + d : Nat) : Int) := by
  rw [show (a : Int) * 16777216 = ((a * 16777216 : Nat) : Int) from by simp, show (b : Int) * 65536 = ((b * 65536 : Nat) : Int) from by simp, show (c : Int) * 256 = ((c * 256 : Nat) : Int) from by simp]
  rw [u32_or_nat _ _ (by omega) (by omega), nat_join 24 _ _ (by omega) (by omega)]
  rw [u32_or_nat _ _ (by omega) (by omega), nat_join 16 _ _ (by omega) (by omega)]
  rw [u32_or_nat _ _ (by omega) (by omega), nat_join 8 _ _ (by omega) (by omega)]
theorem num_four (x0 x1 x2 x3 : UInt8) : num [x0, x1, x2, x3] = x0.toNat * 16777216 + x1.toNat * 65536 + x2.toNat * 256 + x3.toNat := by
  simp [num]; omega
theorem number (b off c : Nat) (x0 x1 x2 x3 : UInt8) (w : World) (h0 : w.cell? ⟨b, off, none⟩ = some (.int .u8 x0.toNat)) (h1 : w.cell? ⟨b, off + 1, none⟩ = some (.int .u8 x1.toNat))
    (h2 : w.cell? ⟨b, off + 2, none⟩ = some (.int .u8 x2.toNat)) (h3 : w.cell? ⟨b, off + 3, none⟩ = some (.int .u8 x3.toNat)) :
    Calls Tryz.prog 157 #[.slice (some ⟨b, off, none⟩) 4 c] w fun e w' => e = .returned (.int .u32 (num [x0, x1, x2, x3] : Nat)) ∧ ∃ n, w' = w.drewN n := by
  have b0 := x0.toNat_lt
  have b1 := x1.toNat_lt
  have b2 := x2.toNat_lt
  have b3 := x3.toNat_lt
  go_enter Tryz.func157, Tryz.ntmps157
  go_wp2
  go_quiet (fail)
  go_wp2
  rw [or_four _ _ _ _ b0 b1 b2 b3, ← num_four]
  go_ret
  exact ⟨rfl, _, rfl⟩
end Go.Proofs.YtoilcieineejiaaGreatDoor.SNumb
/- What sha's 'bytes' and 'first' answer: the walks of their texts. -/
namespace Go.Proofs.YtoilcieineejiaaGreatDoor.SByt
open Go.RowKit
/-- The eight numbers as a row. -/
def stL (s : St) : List Nat := [s.a, s.b, s.c, s.d, s.e, s.f, s.g, s.h]
theorem bytes_at (s : St) (j : Nat) (h : j < 32) : s.bytes.getD j 0 = UInt8.ofNat ((stL s).getD (j / 4) 0 / 2 ^ (24 - 8 * (j % 4))) := by
  have : j = 0 ∨ j = 1 ∨ j = 2 ∨ j = 3 ∨ j = 4 ∨ j = 5 ∨ j = 6 ∨ j = 7 ∨ j = 8 ∨ j = 9 ∨ j = 10 ∨ j = 11 ∨ j = 12 ∨ j = 13 ∨ j = 14 ∨ j = 15 ∨ j = 16 ∨ j = 17 ∨ j = 18 ∨ j = 19 ∨ j = 20 ∨ j = 21 ∨ j = 22 ∨ j = 23 ∨ j = 24 ∨ j = 25 ∨ j = 26 ∨ j = 27 ∨ j = 28 ∨ j = 29 ∨ j = 30 ∨ j = 31 := by omega
  rcases this with rfl | rfl | rfl | rfl | rfl | rfl | rfl | rfl | rfl | rfl | rfl | rfl | rfl | rfl | rfl | rfl | rfl | rfl | rfl | rfl | rfl | rfl | rfl | rfl | rfl | rfl | rfl | rfl | rfl | rfl | rfl | rfl <;> rfl
theorem stL_lt (s : St) (hs : s.ok) (i : Nat) : (stL s).getD i 0 < 4294967296 := by
  obtain ⟨h1, h2, h3, h4, h5, h6, h7, h8⟩ := hs
  match i with
  | 0 => exact h1
  | 1 => exact h2
  | 2 => exact h3
  | 3 => exact h4
  | 4 => exact h5
  | 5 => exact h6
  | 6 => exact h7
  | 7 => exact h8
  | n + 8 => exact Nat.succ_pos _
theorem stL_at (s : St) (i : Nat) (h : i < 8) : (#[.int .u32 s.a, .int .u32 s.b, .int .u32 s.c, .int .u32 s.d, .int .u32 s.e, .int .u32 s.f, .int .u32 s.g, .int .u32 s.h] : Array Value)[i]? = some (.int .u32 ((stL s).getD i 0 : Nat)) := by
  match i, h with
  | 0, _ => rfl
  | 1, _ => rfl
  | 2, _ => rfl
  | 3, _ => rfl
  | 4, _ => rfl
  | 5, _ => rfl
  | 6, _ => rfl
  | 7, _ => rfl
/-- The row behind 'j' rounds. -/
def row (s : St) (j : Nat) : List UInt8 := s.bytes.take j ++ List.replicate (32 - j) 0
theorem row_len (s : St) (j : Nat) (h : j ≤ 32) : (row s j).length = 32 := by simp [row, bytes_length]; omega
theorem row_next (s : St) (j : Nat) (h : j < 32) : (row s j).set j (s.bytes.getD j 0) = row s (j + 1) := by
  have hl := bytes_length s
  unfold row
  rw [List.set_append_right _ _ (by simp; omega), show 32 - j = (32 - (j + 1)) + 1 from by omega, List.replicate_succ]
  rw [List.length_take, Nat.min_eq_left (by omega), Nat.sub_self, List.set_cons_zero]
  rw [List.take_succ_eq_append_getElem (by omega), List.append_assoc]
  congr 2
  simp [List.getD, hl, h]
theorem bytes (s : St) (hs : s.ok) (w : World) :
    Calls Tryz.prog 139 #[.agg #[.int .u32 s.a, .int .u32 s.b, .int .u32 s.c, .int .u32 s.d, .int .u32 s.e, .int .u32 s.f, .int .u32 s.g, .int .u32 s.h]] w fun e w' => e = .returned (.string ⟨s.bytes.toArray⟩) ∧ Below w.heap.size w w' := by
  have hat := stL_at s
  have hlt := stL_lt s hs
  generalize hc : (#[.int .u32 s.a, .int .u32 s.b, .int .u32 s.c, .int .u32 s.d, .int .u32 s.e, .int .u32 s.f, .int .u32 s.g, .int .u32 s.h] : Array Value) = cs at *
  have hsz : cs.size = 8 := by rw [← hc]; rfl
  clear hc
  go_enter Tryz.func139, Tryz.ntmps139
  go_wp2
  go_loopw [5] (fun i wr => ∃ j : Nat, j ≤ 32 ∧ i = .int .i64 j ∧ wr.heap[w.heap.size]? = some (.cells cs 180 (0, 0)) ∧ wr.heap[w.heap.size + 1]? = some (.cells (bytesRow (row s j)) 194 (0, 0)) ∧ Below w.heap.size w wr) (fun i _ => 32 - (intOf i).toNat)
  case atStart => exact ⟨0, Nat.zero_le _, rfl, heap_alloc2_old w _ _, heap_alloc2_new w _ _, ((Below.refl _ _).alloc (Nat.le_refl _) _).alloc (by simp) _⟩
  case round =>
    obtain ⟨j, hj, rfl, hb1, hb2, hbel⟩ := hrel
    have hsz2 : (bytesRow (row s j)).size = 32 := by rw [bytesRow_size, row_len _ _ hj]
    by_cases hlt' : j < 32
    · have hv := blk_cell hb1 (hat (j / 4) (by omega))
      have hl := hlt (j / 4)
      have hfz := blk_free (i := j) hb2
      have hv2 := blk_cell hb2 (bytesRow_at _ j (by rw [row_len _ _ hj]; omega))
      have HN := Lib.hid (row_next s j hlt')
      have HA := Lib.hid (bytes_at s j hlt')
      have hB1 := Lib.hid hb1
      have hB2 := Lib.hid hb2
      clear hat hlt hb1 hb2
      generalize (stL s).getD (j / 4) 0 = x at *
      go_wp2
      go_roundw
      case rel =>
        have hv3 : (x : Int) / 2 ^ (24 - 8 * (j % 4)) % 256 = ((UInt8.ofNat (x / 2 ^ (24 - 8 * (j % 4)))).toNat : Int) := by
          rw [UInt8.toNat_ofNat']; simp
        refine ⟨j + 1, by omega, by go_num, ?_, ?_, hbel.setCell (Nat.le_succ _) _⟩
        · rw [Below.heap_setCell _ _ _ _ (by simp)]; exact hB1.out
        · rw [blk_set hB2.out, hv3, bytesRow_set, ← HA.out, HN.out]
      case measure => simp [intOf]; omega
    · have hk : j = 32 := by omega
      subst hk
      have hb' : wr.heap[w.heap.size + 1]? = some (.cells (bytesRow (s.bytes ++ [])) 194 (0, 0)) := by rw [hb2]; simp [row, List.take_of_length_le, bytes_length]
      have hcv := conv_row (P := Tryz.prog) (src := 114) (dst := 9) (cap := 32) Tryz.underlying114 Tryz.underlying5 Tryz.underlying9 hb' (bytes_length _)
      clear hb1 hb2 hb' hat hlt
      go_wp2
      go_ret
      exact ⟨rfl, hbel⟩
theorem first (w : World) :
    Calls Tryz.prog 135 #[] w fun e w' => e = .returned (.agg #[.int .u32 st0.a, .int .u32 st0.b, .int .u32 st0.c, .int .u32 st0.d, .int .u32 st0.e, .int .u32 st0.f, .int .u32 st0.g, .int .u32 st0.h]) ∧ Below w.heap.size w w' := by
  go_enter Tryz.func135, Tryz.ntmps135
  go_wp2
  refine bodyPost_ret (v := .agg #[.int .u32 st0.a, .int .u32 st0.b, .int .u32 st0.c, .int .u32 st0.d, .int .u32 st0.e, .int .u32 st0.f, .int .u32 st0.g, .int .u32 st0.h])
    (results_cell_row Tryz.results135 _ _ w.heap.size 180 _ (0, 0) _ rfl (heap_alloc_new w _) Tryz.underlying180 rfl (by kernel_rfl)) rfl ⟨rfl, (Below.refl _ _).alloc (Nat.le_refl _) _⟩
end Go.Proofs.YtoilcieineejiaaGreatDoor.SByt
/- What sha's 'spread' answers: the walk of its text. -/
namespace Go.Proofs.YtoilcieineejiaaGreatDoor.SSpr
open Go.RowKit
/-- The cells of a row of numbers of 32 bits. -/
def wRow (l : List Nat) : Array Value := (l.map fun x : Nat => Value.int .u32 x).toArray
theorem wRow_size (l : List Nat) : (wRow l).size = l.length := by simp [wRow]
theorem wRow_at (l : List Nat) (i : Nat) (h : i < l.length) : (wRow l)[i]? = some (.int .u32 (l.getD i 0 : Nat)) := by simp [wRow, h, List.getD]
theorem wRow_set (l : List Nat) (i : Nat) (x : Nat) : (wRow l).setIfInBounds i (.int .u32 (x : Int)) = wRow (l.set i x) := by
  simp [wRow, List.map_set]
/-- The row behind 'i' rounds. -/
def wrow (b : List UInt8) (i : Nat) : List Nat := ws b i ++ List.replicate (64 - i) 0
theorem wrow_len (b : List UInt8) (i : Nat) (h : i ≤ 64) : (wrow b i).length = 64 := by simp [wrow, ws_length]; omega
theorem wrow_next (b : List UInt8) (i : Nat) (h : i < 64) (x : Nat) (hx : x = if i < 16 then num ((b.drop (4 * i)).take 4) else nextW (ws b i)) : (wrow b i).set i x = wrow b (i + 1) := by
  have hl := ws_length b i
  unfold wrow
  rw [List.set_append_right _ _ (by omega), show 64 - i = (64 - (i + 1)) + 1 from by omega, List.replicate_succ, hl, Nat.sub_self, List.set_cons_zero, ws, hx, List.append_assoc]
  rfl
theorem wrow_getD (b : List UInt8) (i j : Nat) (h : j < i) : (wrow b i).getD j 0 = (ws b i).getD j 0 := by
  have hl := ws_length b i
  simp [wrow, List.getD, List.getElem?_append_left, hl, h]
theorem four (b : List UInt8) (i : Nat) (h : 4 * i + 4 ≤ b.length) : (b.drop (4 * i)).take 4 = [b.getD (4 * i) 0, b.getD (4 * i + 1) 0, b.getD (4 * i + 2) 0, b.getD (4 * i + 3) 0] := by
  apply List.ext_getElem?
  intro k
  match k with
  | 0 => simp [List.getD, show 4 * i < b.length from by omega]
  | 1 => simp [List.getD, show 4 * i + 1 < b.length from by omega]
  | 2 => simp [List.getD, show 4 * i + 2 < b.length from by omega]
  | 3 => simp [List.getD, show 4 * i + 3 < b.length from by omega]
  | k + 4 => simp [List.getElem?_take]; omega
theorem byte_at (b : List UInt8) (i : Nat) (h : i < b.length) : (bytesRow b)[i]? = some (.int .u8 (b.getD i 0).toNat) := by
  rw [bytesRow_at b i h]; simp [List.getD, h]
theorem s0 (x : Nat) (w : World) (hx : x < 4294967296) : Calls Tryz.prog 158 #[.int .u32 x, .int .i64 7, .int .i64 18, .int .i64 3] w fun e w' => e = .returned (.int .u32 (half x 7 18 3 : Nat)) ∧ ∃ n, w' = w.drewN n :=
  SRot.half_ x 7 18 3 w hx (by omega) (by omega) (by omega) (by omega) (by omega) (by omega)
theorem s1 (x : Nat) (w : World) (hx : x < 4294967296) : Calls Tryz.prog 158 #[.int .u32 x, .int .i64 17, .int .i64 19, .int .i64 10] w fun e w' => e = .returned (.int .u32 (half x 17 19 10 : Nat)) ∧ ∃ n, w' = w.drewN n :=
  SRot.half_ x 17 19 10 w hx (by omega) (by omega) (by omega) (by omega) (by omega) (by omega)
theorem info71 : (Tryz.prog.info? 191).map (·.size) = some 64 := by kernel_rfl
theorem wRow_one (l : List Nat) : (wRow l).all (·.oneCell') = true := by
  rw [Array.all_eq_true_iff_forall_mem]
  intro v hv
  simp only [wRow, List.mem_toArray, List.mem_map] at hv
  obtain ⟨x, _, rfl⟩ := hv
  rfl
theorem arr64 : Tryz.prog.arrayLen 183 = 64 := by kernel_rfl
theorem und64 : Tryz.prog.underlying 183 = some (.array (Tryz.prog.arrayLen 183) (Tryz.prog.elem 183)) := by kernel_rfl
theorem size64 (W : World) : (sizeOf (Tryz.prog.elem 183)).run Tryz.prog W = .ok 1 W := by kernel_rfl
theorem slice4 (g : Nat) (j : Nat) (hj : j < 16) (W : World) : (Instr.sliceAt 183 (.pointer (some ⟨g, 0, none⟩)) (some (.int .i64 (4 * (j : Int)))) (some (.int .i64 (4 * (j : Int) + 4))) none).run Tryz.prog W = .ok (.slice (some ⟨g, 4 * j, none⟩) 4 (64 - 4 * j)) W := by
  rw [run_sliceAt_array_lh W _ _ und64 _ _ _ _ (by omega) (by omega) (by rw [arr64]; omega), size64, arr64]
  have e1 : (4 * (j : Int)).toNat = 4 * j := by omega
  have e2 : (4 * (j : Int) + 4).toNat = 4 * j + 4 := by omega
  have ha : (⟨g, 0, none⟩ : Addr).add (4 * j) = ⟨g, 4 * j, none⟩ := by unfold Addr.add; split <;> simp_all
  simp [slicedAt, e1, e2, ha, show ¬ 64 = 4 * j from by omega]
set_option maxRecDepth 100000 in
theorem spread (b : List UInt8) (hb : b.length = 64) (w : World) :
    Calls Tryz.prog 151 #[.agg (bytesRow b)] w fun e w' => e = .returned (.agg (wRow (ws b 64))) ∧ Below w.heap.size w w' := by
  have hat := byte_at b
  have hsz : (bytesRow b).size = 64 := by rw [bytesRow_size, hb]
  generalize bytesRow b = cs at *
  go_enter Tryz.func151, Tryz.ntmps151
  go_wp2
  go_loopw [6] (fun i wr => ∃ j : Nat, j ≤ 16 ∧ i = .int .i64 j ∧ wr.heap[w.heap.size]? = some (.cells cs 183 (0, 0)) ∧ wr.heap[w.heap.size + 1]? = some (.cells (wRow (List.replicate 64 0)) 191 (0, 0)) ∧ wr.heap[w.heap.size + 1 + 1]? = some (.cells (wRow (wrow b j)) 191 (0, 0)) ∧ Below w.heap.size w wr) (fun i _ => 16 - (intOf i).toNat)
  case atStart => exact ⟨0, Nat.zero_le _, rfl, alloc3_0 w _ _ _, alloc3_1 w _ _ _, alloc3_2 w _ _ _, below_alloc3 w _ _ _⟩
  case round =>
    obtain ⟨j, hj, rfl, hb1, hb2, hb3, hbel⟩ := hrel
    by_cases hlt : j < 16
    · have hsz2 : (wRow (wrow b j)).size = 64 := by rw [wRow_size, wrow_len _ _ (by omega)]
      have hv := blk_cell hb3 (wRow_at _ j (by rw [wrow_len _ _ (by omega)]; omega))
      have hfz := blk_free (i := j) hb3
      have HP := Lib.hid (fun W h0 h1 h2 h3 => SNumb.number w.heap.size (4 * j) (64 - 4 * j) (b.getD (4 * j) 0) (b.getD (4 * j + 1) 0) (b.getD (4 * j + 2) 0) (b.getD (4 * j + 3) 0) W h0 h1 h2 h3)
      have c0 := blk_cell hb1 (hat (4 * j) (by omega))
      have c1 := blk_cell hb1 (hat (4 * j + 1) (by omega))
      have c2 := blk_cell hb1 (hat (4 * j + 2) (by omega))
      have c3 := blk_cell hb1 (hat (4 * j + 3) (by omega))
      have HN := Lib.hid (wrow_next b j (by omega) (num ((b.drop (4 * j)).take 4)) (by rw [if_pos hlt]))
      rw [four b j (by omega)] at HN
      generalize b.getD (4 * j) 0 = x0 at *
      generalize b.getD (4 * j + 1) 0 = x1 at *
      generalize b.getD (4 * j + 2) 0 = x2 at *
      generalize b.getD (4 * j + 3) 0 = x3 at *
      have hsl := slice4 w.heap.size j hlt
      have hB1 := Lib.hid hb1
      have hB2 := Lib.hid hb2
      have hB3 := Lib.hid hb3
      clear hat hb1 hb2 hb3
      go_wp2_with fail
      refine (HP.out _ c0 c1 c2 c3).mono ?_
      rintro e w' ⟨rfl, nd, rfl⟩
      clear c0 c1 c2 c3
      go_wp2
      go_roundw
      case rel =>
        refine ⟨j + 1, by omega, by go_num, ?_, ?_, ?_, ?_⟩
        · rw [Below.heap_setCell _ _ _ _ (by simp; omega)]; exact hB1.out
        · rw [Below.heap_setCell _ _ _ _ (by simp)]; exact hB2.out
        · rw [blk_set (w := wr.drewN nd) hB3.out, wRow_set, HN.out]
        · exact (hbel.trans (below_drewN wr nd)).setCell (by simp; omega) _
      case measure => simp [intOf]; omega
    · have hk : j = 16 := by omega
      subst hk
      rw [show ((16 : Nat) : Int) = 16 from rfl]
      go_wp2
      clear hb1 hat
      have hrow : wr.heap[w.heap.size + 1 + 1]? = some (.cells (wRow (wrow b 16)) 191 (0, 0)) := hb3
      clear hb3
      obtain ⟨wq, hwq⟩ : ∃ wq : World, wq = wr := ⟨_, rfl⟩
      rw [← hwq] at hb2 hrow hbel ⊢
      clear hwq
      go_loopw [5] (fun i wr => ∃ j : Nat, 16 ≤ j ∧ j ≤ 64 ∧ i = .int .i64 j ∧ wr.heap[w.heap.size + 1]? = some (.cells (wRow (List.replicate 64 0)) 191 (0, 0)) ∧ wr.heap[w.heap.size + 1 + 1]? = some (.cells (wRow (wrow b j)) 191 (0, 0)) ∧ Below w.heap.size w wr) (fun i _ => 64 - (intOf i).toNat)
      case atStart => exact ⟨16, Nat.le_refl _, by omega, rfl, hb2, hrow, hbel⟩
      case round =>
        clear hb2 hrow hbel
        obtain ⟨j, hj0, hj, rfl, hb2, hb3, hbel⟩ := hrel
        by_cases hlt : j < 64
        · have hl := wrow_len b j hj
          have hw := ws_getD_lt b j
          have c16 := blk_cell hb3 (wRow_at _ (j - 16) (by omega))
          have c15 := blk_cell hb3 (wRow_at _ (j - 15) (by omega))
          have c7 := blk_cell hb3 (wRow_at _ (j - 7) (by omega))
          have c2 := blk_cell hb3 (wRow_at _ (j - 2) (by omega))
          have HN := Lib.hid (wrow_next b j hlt _ (by rw [if_neg (by omega), nextW, ws_length]))
          have cj := blk_cell hb3 (wRow_at _ j (by omega))
          have hfz := blk_free (i := j) hb3
          rw [wrow_getD _ _ _ (by omega)] at c16 c15 c7 c2
          have b16 := hw (j - 16)
          have b15 := hw (j - 15)
          have b7 := hw (j - 7)
          have b2 := hw (j - 2)
          generalize (ws b j).getD (j - 16) 0 = x16 at *
          generalize (ws b j).getD (j - 15) 0 = x15 at *
          generalize (ws b j).getD (j - 7) 0 = x7 at *
          generalize (ws b j).getD (j - 2) 0 = x2 at *
          have hs0 := half_lt x15 7 18 3 b15
          have hs1 := half_lt x2 17 19 10 b2
          have H0 := Lib.hid (fun W => s0 x15 W b15)
          have H1 := Lib.hid (fun W => s1 x2 W b2)
          generalize half x15 7 18 3 = y0 at *
          generalize half x2 17 19 10 = y1 at *
          have hB2 := Lib.hid hb2
          have hB3 := Lib.hid hb3
          clear hw hl hb2 hb3
          obtain ⟨p16, q16⟩ : ∃ p, p = j - 16 := ⟨_, rfl⟩
          obtain ⟨p15, q15⟩ : ∃ p, p = j - 15 := ⟨_, rfl⟩
          obtain ⟨p7, q7⟩ : ∃ p, p = j - 7 := ⟨_, rfl⟩
          obtain ⟨p2, q2⟩ : ∃ p, p = j - 2 := ⟨_, rfl⟩
          rw [← q16] at c16
          rw [← q15] at c15
          rw [← q7] at c7
          rw [← q2] at c2
          have e16 : IntKind.i64.wrap ((j : Int) - 16) = (p16 : Int) := by rw [IntWalk.i64_in _ (by omega)]; omega
          have e15 : IntKind.i64.wrap ((j : Int) - 15) = (p15 : Int) := by rw [IntWalk.i64_in _ (by omega)]; omega
          have e7 : IntKind.i64.wrap ((j : Int) - 7) = (p7 : Int) := by rw [IntWalk.i64_in _ (by omega)]; omega
          have e2 : IntKind.i64.wrap ((j : Int) - 2) = (p2 : Int) := by rw [IntWalk.i64_in _ (by omega)]; omega
          have g16 : (p16 : Int) < 64 := by omega
          have g15 : (p15 : Int) < 64 := by omega
          have g7 : (p7 : Int) < 64 := by omega
          have g2 : (p2 : Int) < 64 := by omega
          have gj : (j : Int) < 64 := by omega
          have z16 : (0 : Int) ≤ (p16 : Int) := by omega
          have z15 : (0 : Int) ≤ (p15 : Int) := by omega
          have z7 : (0 : Int) ≤ (p7 : Int) := by omega
          have z2 : (0 : Int) ≤ (p2 : Int) := by omega
          have zj : (0 : Int) ≤ (j : Int) := by omega
          have N16 : p16 ≠ j := by omega
          have N15 : p15 ≠ j := by omega
          have N7 : p7 ≠ j := by omega
          have N2 : p2 ≠ j := by omega
          clear q16 q15 q7 q2
          go_wp2
          go_region_held3 (fun w' => w'.cell? ⟨w.heap.size + 1 + 1, p16, none⟩ = some (.int .u32 x16) ∧ w'.cell? ⟨w.heap.size + 1 + 1, p15, none⟩ = some (.int .u32 x15) ∧ w'.cell? ⟨w.heap.size + 1 + 1, p7, none⟩ = some (.int .u32 x7) ∧ w'.cell? ⟨w.heap.size + 1 + 1, p2, none⟩ = some (.int .u32 x2))
            (first | exact ⟨c16, c15, c7, c2⟩ | exact ⟨cell_far N16 c16, cell_far N15 c15, cell_far N7 c7, cell_far N2 c2⟩)
            (first | (go_at_call 158; (with_reducible refine (H0.out _).mono ?_); rintro e w1 ⟨rfl, n1, rfl⟩) | (go_at_call 158; (with_reducible refine (H1.out _).mono ?_); rintro e w2 ⟨rfl, n2, rfl⟩))
          go_wp2
          go_roundw
          case rel =>
            have hv : ((((x16 : Int) + y0) % 4294967296 + x7) % 4294967296 + y1) % 4294967296 = (((x16 + y0 + x7 + y1) % 4294967296 : Nat) : Int) := by omega
            refine ⟨j + 1, by omega, by omega, by go_num, ?_, ?_, ?_⟩
            · rw [Below.heap_setCell _ _ _ _ (by simp)]; exact hB2.out
            · rw [blk_set (w := wr.drewN _) hB3.out, hv, wRow_set, HN.out]
            · exact (hbel.trans (below_drewN wr _)).setCell (by simp; omega) _
          case measure => simp [intOf]; omega
        · have hk : j = 64 := by omega
          subst hk
          have hz : (wRow (wrow b 64)) = wRow (ws b 64) := by simp [wrow]
          rw [hz] at hb3
          have hs1 : (wRow (ws b 64)).size = 64 := by rw [wRow_size, ws_length]
          have hs2 : (wRow (List.replicate 64 0)).size = 64 := by rw [wRow_size, List.length_replicate]
          have hone := wRow_one (ws b 64)
          generalize wRow (List.replicate 64 0) = zs at *
          obtain ⟨rs, hrs⟩ : ∃ rs, rs = wRow (ws b 64) := ⟨_, rfl⟩
          rw [← hrs] at hb3 hs1 hone
          have HR := Lib.hid hrs
          have HB2 := Lib.hid hb2
          have HB3 := Lib.hid hb3
          have HI := Lib.hid (show (Tryz.prog.info? 191).map (·.size) = some rs.size by rw [hs1]; exact info71)
          have HS := Lib.hid (show zs.size = rs.size by rw [hs1, hs2])
          have HO := Lib.hid hone
          clear hb2 hb3 hs1 hs2 hone hz hsz hrs
          go_wp2_with (first
            | (refine wpList_load_row rfl 191 _ rfl (w.heap.size + 1 + 1) rfl 191 _ (0, 0) _ HB3.out Tryz.underlying191 rfl HI.out ?_)
            | (refine wpList_store_row rfl 191 _ _ rfl (w.heap.size + 1) _ rfl rfl 191 _ HB2.out HI.out HS.out HO.out ?_))
          refine bodyPost_ret (v := .agg rs)
            (results_cell_row Tryz.results151 _ _ (w.heap.size + 1) 191 _ (0, 0) _ rfl (setRow_same HB2.out) Tryz.underlying191 rfl HI.out) rfl ⟨by rw [HR.out], below_setRow hbel (by omega) _⟩
end Go.Proofs.YtoilcieineejiaaGreatDoor.SSpr
/- What sha's 'turn' answers, where the rounds' numbers lie in the program's variable: the walk of its text. -/
namespace Go.Proofs.YtoilcieineejiaaGreatDoor.STurn
open Go.RowKit
open SSpr SByt
/-- The rounds' numbers lie in the program's variable. -/
def Rds (w : World) : Prop := ∀ i, i < 64 → w.cell? ⟨3, i, none⟩ = some (.int .u32 (kList.getD i 0 : Nat))
theorem Rds.lt {w : World} (h : Rds w) : 3 < w.heap.size := World.block_lt_of_cell? w _ (h 0 (by omega))
theorem Rds.below {w w' : World} (h : Rds w) {B : Nat} (hb : Below B w w') (hB : 3 < B) : Rds w' := fun i hi => (hb.cell (p := ⟨_, i, none⟩) hB).trans (h i hi)
theorem Rds.step {w w' : World} (h : Rds w) (hb : Below w.heap.size w w') : Rds w' := h.below hb h.lt
theorem info49 : (Tryz.prog.info? 180).map (·.size) = some 8 := by kernel_rfl
theorem info51 : (Tryz.prog.info? 183).map (·.size) = some 64 := by kernel_rfl
/-- The cells of a state. -/
def stRow (s : St) : Array Value := #[.int .u32 s.a, .int .u32 s.b, .int .u32 s.c, .int .u32 s.d, .int .u32 s.e, .int .u32 s.f, .int .u32 s.g, .int .u32 s.h]
theorem notN (E : Nat) (h : E < 4294967296) : 4294967295 ^^^ E = 4294967295 - E := by
  apply Nat.eq_of_testBit_eq
  intro i
  have e : 4294967295 - E = 2 ^ 32 - (E + 1) := by omega
  rw [e, Nat.testBit_xor, show (4294967295 : Nat) = 2 ^ 32 - 1 from rfl, Nat.testBit_two_pow_sub_one, Nat.testBit_two_pow_sub_succ (by omega)]
  by_cases hi : i < 32
  · simp [hi]
  · have : E.testBit i = false := Nat.testBit_lt_two_pow (Nat.lt_of_lt_of_le (show E < 2 ^ 32 from h) (Nat.pow_le_pow_right (n := 2) (by decide) (by omega : 32 ≤ i)))
    simp [hi, this]
theorem sub_lt' (E : Nat) : 4294967295 - E < 4294967296 := by omega
theorem ch (E F G : Nat) (hE : E < 4294967296) (hF : F < 4294967296) (hG : G < 4294967296) :
    bits .xor .u32 (bits .and .u32 (E : Int) (F : Int)) (bits .and .u32 (bits .xor .u32 (if IntKind.u32.signed = true then -1 else IntKind.u32.max) (E : Int)) (G : Int)) = (((E &&& F) ^^^ ((4294967295 - E) &&& G) : Nat) : Int) := by
  rw [show (if IntKind.u32.signed = true then -1 else IntKind.u32.max : Int) = ((4294967295 : Nat) : Int) from by decide]
  rw [u32_xor_nat _ _ (by omega) hE, notN E hE, u32_and_nat _ _ hE hF, u32_and_nat _ _ (sub_lt' E) hG, u32_xor_nat _ _ (and_lt _ _ hF) (and_lt _ _ hG)]
theorem maj (A B C : Nat) (hA : A < 4294967296) (hB : B < 4294967296) (hC : C < 4294967296) :
    bits .xor .u32 (bits .xor .u32 (bits .and .u32 (A : Int) (B : Int)) (bits .and .u32 (A : Int) (C : Int))) (bits .and .u32 (B : Int) (C : Int)) = (((A &&& B) ^^^ (A &&& C) ^^^ (B &&& C) : Nat) : Int) := by
  rw [u32_and_nat _ _ hA hB, u32_and_nat _ _ hA hC, u32_and_nat _ _ hB hC, u32_xor_nat _ _ (and_lt _ _ hB) (and_lt _ _ hC), u32_xor_nat _ _ (xor_lt _ _ (and_lt _ _ hB) (and_lt _ _ hC)) (and_lt _ _ hC)]
theorem vint {k : IntKind} {a b : Int} (h : a = b) : Value.int k a = Value.int k b := by rw [h]
theorem all8 (a b c d e f g h : Int) : (#[.int .u32 a, .int .u32 b, .int .u32 c, .int .u32 d, .int .u32 e, .int .u32 f, .int .u32 g, .int .u32 h] : Array Value).all (·.oneCell') = true := by
  simp [Value.oneCell']
theorem t1 (x : Nat) (w : World) (hx : x < 4294967296) : Calls Tryz.prog 152 #[.int .u32 x, .int .i64 6, .int .i64 11, .int .i64 25] w fun e w' => e = .returned (.int .u32 (three x 6 11 25 : Nat)) ∧ w = w' :=
  SRot.turned x 6 11 25 w hx (by omega) (by omega) (by omega) (by omega) (by omega) (by omega)
theorem t2 (x : Nat) (w : World) (hx : x < 4294967296) : Calls Tryz.prog 152 #[.int .u32 x, .int .i64 2, .int .i64 13, .int .i64 22] w fun e w' => e = .returned (.int .u32 (three x 2 13 22 : Nat)) ∧ w = w' :=
  SRot.turned x 2 13 22 w hx (by omega) (by omega) (by omega) (by omega) (by omega) (by omega)
set_option maxRecDepth 100000 in
set_option maxHeartbeats 1000000 in
theorem turn (s : St) (hs : s.ok) (b : List UInt8) (hb : b.length = 64) (w : World) (hr : Rds w) :
    Calls Tryz.prog 137 #[.agg #[.int .u32 s.a, .int .u32 s.b, .int .u32 s.c, .int .u32 s.d, .int .u32 s.e, .int .u32 s.f, .int .u32 s.g, .int .u32 s.h], .agg (bytesRow b)] w fun e w' => e = .returned (.agg (stRow (turnSt s b))) ∧ Below w.heap.size w w' := by
  have hsp := fun W => spread b hb W
  have hL0 := ws_length b 64
  have hL1 := ws_getD_lt b 64
  have hT : turnSt s b = s.plus (rnds kList (ws b 64) s 64) := rfl
  generalize ws b 64 = L at *
  have HT := Lib.hid hT
  have hat := wRow_at L
  have hsz : (wRow L).size = 64 := by rw [wRow_size, hL0]
  have hone := wRow_one L
  have HI71 := Lib.hid (show (Tryz.prog.info? 191).map (·.size) = some (wRow L).size by rw [hsz]; exact info71)
  generalize wRow L = rs at *
  have HSp := Lib.hid hsp
  have HO := Lib.hid hone
  have HSZ := Lib.hid hsz
  have HL := Lib.hid hL0
  clear hsp hT hone hsz hL0
  have HC := Lib.hid (show (Tryz.prog.info? 183).map (·.size) = some (bytesRow b).size by rw [bytesRow_size, hb]; exact info51)
  generalize bytesRow b = cs at *
  have HR := Lib.hid hr
  clear hr
  go_enter Tryz.func137, Tryz.ntmps137
  go_upto_region 1 with (fail)
  generalize hW : World.alloc (World.alloc (World.alloc w _) _) _ = W1
  have f0 : W1.heap[w.heap.size]? = some (.cells (stRow s) 180 (0, 0)) := by rw [← hW]; exact alloc3_0 w _ _ _
  have f1 : W1.heap[w.heap.size + 1]? = some (.cells cs 183 (0, 0)) := by rw [← hW]; exact alloc3_1 w _ _ _
  have f2 : ∃ zs : Array Value, zs.size = 8 ∧ W1.heap[w.heap.size + 1 + 1]? = some (.cells zs 180 (0, 0)) := ⟨_, rfl, by rw [← hW]; exact alloc3_2 w _ _ _⟩
  have fB : Below w.heap.size w W1 := by rw [← hW]; exact below_alloc3 w _ _ _
  have fS : W1.heap.size = w.heap.size + 1 + 1 + 1 := by rw [← hW]; simp
  obtain ⟨zs, hzs, f2⟩ := f2
  have F0 := Lib.hid f0
  have F1 := Lib.hid f1
  have F2 := Lib.hid f2
  have FB := Lib.hid fB
  have FS := Lib.hid fS
  have HR1 := Lib.hid (HR.out.step fB)
  have HZ := Lib.hid hzs
  clear hW f0 f1 f2 fB fS hzs HR
  go_upto_region 2 with (first
    | (refine wpList_load_row rfl 183 _ rfl (w.heap.size + 1) rfl 183 _ (0, 0) _ F1.out Tryz.underlying183 rfl HC.out ?_)
    | (go_at_call 151; refine (HSp.out _).mono ?_; rintro e w1 ⟨rfl, hb1⟩; have HB1 := Lib.hid hb1; clear hb1)
    | (refine wpList_store_row rfl 191 _ _ rfl w1.heap.size _ rfl rfl 191 _ (heap_alloc_new w1 _) HI71.out (by rw [HSZ.out]; rfl) HO.out ?_))
  generalize hW : World.setRow (World.alloc w1 _) _ _ = W2
  have hb1 : Below w.heap.size W1 w1 := HB1.out.mono (by rw [FS.out]; omega)
  have k0 : W2.heap[w.heap.size]? = some (.cells (stRow s) 180 (0, 0)) := by
    rw [← hW, setRow_far (by have := HB1.out.size; rw [FS.out] at this; omega), Below.heap_alloc _ _ _ (by have := HB1.out.size; rw [FS.out] at this; omega), HB1.out.block _ (by rw [FS.out]; omega)]
    exact F0.out
  have k2 : W2.heap[w.heap.size + 1 + 1]? = some (.cells zs 180 (0, 0)) := by
    rw [← hW, setRow_far (by have := HB1.out.size; rw [FS.out] at this; omega), Below.heap_alloc _ _ _ (by have := HB1.out.size; rw [FS.out] at this; omega), HB1.out.block _ (by rw [FS.out]; omega)]
    exact F2.out
  have k5 : W2.heap[w1.heap.size]? = some (.cells rs 191 (0, 0)) := by rw [← hW]; exact setRow_same (heap_alloc_new w1 _)
  have kB : Below w.heap.size w W2 := by
    have hs1 := HB1.out.size
    rw [FS.out] at hs1
    rw [← hW]
    exact below_setRow ((FB.out.trans hb1).alloc (by omega) _) (by omega) _
  have kR : Rds W2 := by
    have hs1 := HB1.out.size
    have hlt := HR1.out.lt
    rw [← hW]
    exact HR1.out.step (below_setRow (HB1.out.alloc hs1 _) hs1 _)
  clear hW hb1 HB1 FS FB F0 F1 F2 HR1
  have l0 : W2.cell? ⟨w.heap.size, 0, none⟩ = some (.int .u32 s.a) := blk_cell k0 rfl
  have l1 : W2.cell? ⟨w.heap.size, 1, none⟩ = some (.int .u32 s.b) := blk_cell k0 rfl
  have l2 : W2.cell? ⟨w.heap.size, 2, none⟩ = some (.int .u32 s.c) := blk_cell k0 rfl
  have l3 : W2.cell? ⟨w.heap.size, 3, none⟩ = some (.int .u32 s.d) := blk_cell k0 rfl
  have l4 : W2.cell? ⟨w.heap.size, 4, none⟩ = some (.int .u32 s.e) := blk_cell k0 rfl
  have l5 : W2.cell? ⟨w.heap.size, 5, none⟩ = some (.int .u32 s.f) := blk_cell k0 rfl
  have l6 : W2.cell? ⟨w.heap.size, 6, none⟩ = some (.int .u32 s.g) := blk_cell k0 rfl
  have l7 : W2.cell? ⟨w.heap.size, 7, none⟩ = some (.int .u32 s.h) := blk_cell k0 rfl
  have K2 := Lib.hid k2
  have K5 := Lib.hid k5
  have KB := Lib.hid kB
  have KR := Lib.hid kR
  clear k0 k2 k5 kB kR
  go_quiet (fail)
  go_wp2
  have M0 := Lib.hid (show W2.cell? ⟨w.heap.size, 0, none⟩ = some (.int .u32 s.a) ∧ W2.cell? ⟨w.heap.size, 1, none⟩ = some (.int .u32 s.b) ∧ W2.cell? ⟨w.heap.size, 2, none⟩ = some (.int .u32 s.c) ∧ W2.cell? ⟨w.heap.size, 3, none⟩ = some (.int .u32 s.d) ∧ W2.cell? ⟨w.heap.size, 4, none⟩ = some (.int .u32 s.e) ∧ W2.cell? ⟨w.heap.size, 5, none⟩ = some (.int .u32 s.f) ∧ W2.cell? ⟨w.heap.size, 6, none⟩ = some (.int .u32 s.g) ∧ W2.cell? ⟨w.heap.size, 7, none⟩ = some (.int .u32 s.h) from ⟨l0, l1, l2, l3, l4, l5, l6, l7⟩)
  clear l0 l1 l2 l3 l4 l5 l6 l7
  go_loopw [6, 7, 8, 9, 10, 11, 12, 13, 35] (fun a b c d e f g h i wr => ∃ j : Nat, j ≤ 64 ∧ a = .int .u32 (rnds kList L s j).a ∧ b = .int .u32 (rnds kList L s j).b ∧ c = .int .u32 (rnds kList L s j).c ∧ d = .int .u32 (rnds kList L s j).d ∧ e = .int .u32 (rnds kList L s j).e ∧ f = .int .u32 (rnds kList L s j).f ∧ g = .int .u32 (rnds kList L s j).g ∧ h = .int .u32 (rnds kList L s j).h ∧ i = .int .i64 j ∧ ∃ n, wr = W2.drewN n) (fun _ _ _ _ _ _ _ _ i _ => 64 - (intOf i).toNat)
  case atStart => exact ⟨0, Nat.zero_le _, rfl, rfl, rfl, rfl, rfl, rfl, rfl, rfl, rfl, _, rfl⟩
  case round =>
    obtain ⟨j, hj, rfl, rfl, rfl, rfl, rfl, rfl, rfl, rfl, rfl, nw, hwr⟩ := hrel
    have HW := Lib.hid hwr
    by_cases hlt : j < 64
    · have ck : wr.cell? ⟨3, j, none⟩ = some (.int .u32 (kList.getD j 0 : Nat)) := by rw [hwr]; exact KR.out j hlt
      have cw : wr.cell? ⟨w1.heap.size, j, none⟩ = some (.int .u32 (L.getD j 0 : Nat)) := by rw [hwr]; exact blk_cell K5.out (hat j (by rw [HL.out]; exact hlt))
      clear hwr
      have hok := rnds_ok kList L s hs j
      have HX := Lib.hid (show rnds kList L s (j + 1) = rnd (kList.getD j 0) (L.getD j 0) (rnds kList L s j) from rfl)
      have hk := kList_lt j
      have hw := hL1 j
      generalize rnds kList L s j = r at *
      generalize kList.getD j 0 = x at *
      generalize L.getD j 0 = y at *
      obtain ⟨A, B, C, D, E, F, G, H⟩ := r
      obtain ⟨hA, hB, hC, hD, hE, hF, hG, hH⟩ := hok
      simp only at hA hB hC hD hE hF hG hH
      have HT1 := Lib.hid (fun W => t1 E W hE)
      have HT2 := Lib.hid (fun W => t2 A W hA)
      have ht1 := three_lt E 6 11 25 hE
      have ht2 := three_lt A 2 13 22 hA
      have HQ := Lib.hid (show three E 6 11 25 = three E 6 11 25 ∧ three A 2 13 22 = three A 2 13 22 from ⟨rfl, rfl⟩)
      clear hat hL1 ht1 ht2
      go_wp2_with fail
      go_quiet ((go_at_call 152; exact SRot.quiet_eq (HT1.out _)))
      go_wp2_with (go_at_call 152; refine (HT2.out _).mono ?_; rintro e w' ⟨rfl, rfl⟩)
      rw [ch E F G hE hF hG, maj A B C hA hB hC]
      rw [show rnd x y ⟨A, B, C, D, E, F, G, H⟩ = ⟨((H + three E 6 11 25 + ((E &&& F) ^^^ ((4294967295 - E) &&& G)) + x + y) % 4294967296 + (three A 2 13 22 + ((A &&& B) ^^^ (A &&& C) ^^^ (B &&& C))) % 4294967296) % 4294967296, A, B, C, (D + (H + three E 6 11 25 + ((E &&& F) ^^^ ((4294967295 - E) &&& G)) + x + y) % 4294967296) % 4294967296, E, F, G⟩ from rfl] at HX
      generalize (E &&& F) ^^^ ((4294967295 - E) &&& G) = q1 at *
      generalize (A &&& B) ^^^ (A &&& C) ^^^ (B &&& C) = q2 at *
      generalize three E 6 11 25 = q3 at *
      generalize three A 2 13 22 = q4 at *
      go_roundw
      case rel =>
        refine ⟨j + 1, by omega, ?_, ?_, ?_, ?_, ?_, ?_, ?_, ?_, by go_num, nw + nq, ?_⟩
        · rw [HX.out]; exact vint (by dsimp only; omega)
        · rw [HX.out]
        · rw [HX.out]
        · rw [HX.out]
        · rw [HX.out]; exact vint (by dsimp only; omega)
        · rw [HX.out]
        · rw [HX.out]
        · rw [HX.out]
        · rw [HW.out, World.drewN_drewN]
      case measure => simp [intOf]; omega
    · have hk : j = 64 := by omega
      subst hk
      have hok := rnds_ok kList L s hs 64
      generalize rnds kList L s 64 = r at *
      have K2' : Hid (wr.heap[w.heap.size + 1 + 1]? = some (.cells zs 180 (0, 0))) := by rw [hwr]; exact K2.out
      have KB' : Hid (Below w.heap.size w wr) := by rw [hwr]; exact KB.out.trans (below_drewN _ _)
      have M' : Hid _ := M0
      obtain ⟨l0, l1, l2, l3, l4, l5, l6, l7⟩ := M0.out
      replace l0 : wr.cell? ⟨w.heap.size, 0, none⟩ = some (.int .u32 s.a) := by rw [hwr]; exact l0
      replace l1 : wr.cell? ⟨w.heap.size, 1, none⟩ = some (.int .u32 s.b) := by rw [hwr]; exact l1
      replace l2 : wr.cell? ⟨w.heap.size, 2, none⟩ = some (.int .u32 s.c) := by rw [hwr]; exact l2
      replace l3 : wr.cell? ⟨w.heap.size, 3, none⟩ = some (.int .u32 s.d) := by rw [hwr]; exact l3
      replace l4 : wr.cell? ⟨w.heap.size, 4, none⟩ = some (.int .u32 s.e) := by rw [hwr]; exact l4
      replace l5 : wr.cell? ⟨w.heap.size, 5, none⟩ = some (.int .u32 s.f) := by rw [hwr]; exact l5
      replace l6 : wr.cell? ⟨w.heap.size, 6, none⟩ = some (.int .u32 s.g) := by rw [hwr]; exact l6
      replace l7 : wr.cell? ⟨w.heap.size, 7, none⟩ = some (.int .u32 s.h) := by rw [hwr]; exact l7
      obtain ⟨A, B, C, D, E, F, G, H⟩ := r
      obtain ⟨hA, hB, hC, hD, hE, hF, hG, hH⟩ := hok
      obtain ⟨gA, gB, gC, gD, gE, gF, gG, gH⟩ := hs
      simp only at hA hB hC hD hE hF hG hH
      clear hwr HW hat hL1
      go_wp2_with (refine wpList_store_row rfl 180 _ _ rfl (w.heap.size + 1 + 1) _ rfl rfl 180 _ K2'.out (by exact info49) (by rw [HZ.out]; rfl) (all8 _ _ _ _ _ _ _ _) ?_)
      have hv : stRow (turnSt s b) = #[.int .u32 (((s.a : Int) + A) % 4294967296), .int .u32 (((s.b : Int) + B) % 4294967296), .int .u32 (((s.c : Int) + C) % 4294967296), .int .u32 (((s.d : Int) + D) % 4294967296), .int .u32 (((s.e : Int) + E) % 4294967296), .int .u32 (((s.f : Int) + F) % 4294967296), .int .u32 (((s.g : Int) + G) % 4294967296), .int .u32 (((s.h : Int) + H) % 4294967296)] := by
        rw [HT.out]; simp [stRow, St.plus]
      refine bodyPost_ret (v := .agg _)
        (results_cell_row Tryz.results137 _ _ (w.heap.size + 1 + 1) 180 _ (0, 0) _ rfl (setRow_same K2'.out) Tryz.underlying180 rfl (by exact info49)) rfl ⟨by rw [hv], below_setRow KB'.out (by omega) _⟩
end Go.Proofs.YtoilcieineejiaaGreatDoor.STurn
/- What sha's 'Step' answers: the walk of its text. -/
namespace Go.Proofs.YtoilcieineejiaaGreatDoor.SStep
open Go.RowKit
open SSpr SByt STurn
/-- What Step answers: the state's bytes and the error's number. -/
def step (s b : List UInt8) : List UInt8 × Int := if s.length = 32 ∧ b.length = 64 then ((turnSt (stOf s) b).bytes, 0) else ([], 2)
/-- The numbers behind 'j' rounds. -/
def srow (s : List UInt8) (j : Nat) : List Nat := (List.range j).map (nth4 s) ++ List.replicate (8 - j) 0
theorem srow_len (s : List UInt8) (j : Nat) (h : j ≤ 8) : (srow s j).length = 8 := by simp [srow]; omega
theorem srow_next (s : List UInt8) (j : Nat) (h : j < 8) : (srow s j).set j (nth4 s j) = srow s (j + 1) := by
  unfold srow
  rw [List.set_append_right _ _ (by simp), show 8 - j = (8 - (j + 1)) + 1 from by omega, List.replicate_succ]
  simp [List.range_succ]
theorem cells8 {w : World} {g : Nat} {t : TypeId} {s : St} (h : w.heap[g]? = some (.cells (stRow s) t (0, 0))) :
    w.cell? ⟨g, 0, none⟩ = some (.int .u32 s.a) ∧ w.cell? ⟨g, 1, none⟩ = some (.int .u32 s.b) ∧ w.cell? ⟨g, 2, none⟩ = some (.int .u32 s.c) ∧ w.cell? ⟨g, 3, none⟩ = some (.int .u32 s.d) ∧ w.cell? ⟨g, 4, none⟩ = some (.int .u32 s.e) ∧ w.cell? ⟨g, 5, none⟩ = some (.int .u32 s.f) ∧ w.cell? ⟨g, 6, none⟩ = some (.int .u32 s.g) ∧ w.cell? ⟨g, 7, none⟩ = some (.int .u32 s.h) :=
  ⟨blk_cell h rfl, blk_cell h rfl, blk_cell h rfl, blk_cell h rfl, blk_cell h rfl, blk_cell h rfl, blk_cell h rfl, blk_cell h rfl⟩
end Go.Proofs.YtoilcieineejiaaGreatDoor.SStep
