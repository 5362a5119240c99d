/- What the document's answer for layer 2 turns a number to: the walk of keepsakeref02.turn; its first state and its rounds' numbers. -/
import Derived.Test.YtfjlpialblllgaaDoorSSpr
import Derived.Deep.DeepCutAuto
namespace Go.Proofs.YtfjlpialblllgaaDoor.RRot
open Go.RowKit
open SSpr
/-- The cells of a row of ints. -/
def iRow (l : List Nat) : Array Value := (l.map fun x : Nat => Value.int .i64 x).toArray
theorem iRow_size (l : List Nat) : (iRow l).size = l.length := by simp [iRow]
theorem iRow_at (l : List Nat) (i : Nat) (h : i < l.length) : (iRow l)[i]? = some (.int .i64 (l.getD i 0 : Nat)) := by simp [iRow, h, List.getD]
theorem iRow_set (l : List Nat) (i : Nat) (x : Nat) : (iRow l).setIfInBounds i (.int .i64 (x : Int)) = iRow (l.set i x) := by
  simp [iRow, List.map_set]
theorem iRow_one (l : List Nat) : (iRow l).all (·.oneCell') = true := by
  rw [Array.all_eq_true_iff_forall_mem]
  intro v hv
  simp only [iRow, List.mem_toArray, List.mem_map] at hv
  obtain ⟨x, _, rfl⟩ := hv
  rfl
theorem mul_lt (x m : Nat) (hx : x < 4294967296) (hm : m ≤ 31) : x * 2 ^ m < 9223372036854775808 := by
  have h1 : 2 ^ m ≤ 2 ^ 31 := Nat.pow_le_pow_right (by omega) hm
  have h2 : x * 2 ^ m ≤ x * 2 ^ 31 := Nat.mul_le_mul_left _ h1
  have h3 : (2 : Nat) ^ 31 = 2147483648 := rfl
  omega
theorem or_mod (a b : Nat) (ha : a < 4294967296) : (a ||| b) % 4294967296 = a ||| b % 4294967296 := by
  rw [show (4294967296 : Nat) = 2 ^ 32 from rfl, Nat.or_mod_two_pow, Nat.mod_eq_of_lt (a := a) (by simpa using ha)]
theorem i64_or (a b : Nat) (ha : a < 9223372036854775808) (hb : b < 9223372036854775808) : bits .or .i64 (a : Int) (b : Int) = ((a ||| b : Nat) : Int) := by
  have hx : a ||| b < 2 ^ 63 := Nat.or_lt_two_pow (by omega) (by omega)
  show IntKind.i64.wrap ((BitVec.ofInt 64 (a : Int) ||| BitVec.ofInt 64 (b : Int)).toNat : Int) = _
  rw [BitVec.toNat_or, ofInt_u64 a (by omega), ofInt_u64 b (by omega), IntWalk.i64_in _ (by omega)]
theorem i64_xor (a b : Nat) (ha : a < 9223372036854775808) (hb : b < 9223372036854775808) : bits .xor .i64 (a : Int) (b : Int) = ((a ^^^ b : Nat) : Int) := by
  have hx : a ^^^ b < 2 ^ 63 := Nat.xor_lt_two_pow (by omega) (by omega)
  show IntKind.i64.wrap ((BitVec.ofInt 64 (a : Int) ^^^ BitVec.ofInt 64 (b : Int)).toNat : Int) = _
  rw [BitVec.toNat_xor, ofInt_u64 a (by omega), ofInt_u64 b (by omega), IntWalk.i64_in _ (by omega)]
theorem i64_and (a b : Nat) (ha : a < 9223372036854775808) (hb : b < 9223372036854775808) : bits .and .i64 (a : Int) (b : Int) = ((a &&& b : Nat) : Int) := by
  have hx : a &&& b < 2 ^ 63 := Nat.and_lt_two_pow _ (by omega)
  show IntKind.i64.wrap ((BitVec.ofInt 64 (a : Int) &&& BitVec.ofInt 64 (b : Int)).toNat : Int) = _
  rw [BitVec.toNat_and, ofInt_u64 a (by omega), ofInt_u64 b (by omega), IntWalk.i64_in _ (by omega)]
theorem val (x n m : Nat) (hx : x < 4294967296) (h : n + m = 32) (hm : m ≤ 31) : (bits .or .i64 ((x : Int) / 2 ^ n) (wrap64 ((x : Int) * 2 ^ m))).tmod 4294967296 = ((ro x n : Nat) : Int) := by
  have hml := mul_lt x m hx hm
  have hd : x / 2 ^ n < 4294967296 := Nat.lt_of_le_of_lt (Nat.div_le_self _ _) hx
  have e1 : ((x : Int) / 2 ^ n) = ((x / 2 ^ n : Nat) : Int) := by simp
  have e2 : wrap64 ((x : Int) * 2 ^ m) = ((x * 2 ^ m : Nat) : Int) := by
    have e3 : ((x : Int) * 2 ^ m) = ((x * 2 ^ m : Nat) : Int) := by simp
    rw [e3]
    unfold wrap64
    omega
  rw [e1, e2, i64_or _ _ (by omega) hml, Int.tmod_eq_emod_of_nonneg (by omega)]
  have e4 : ((x / 2 ^ n ||| x * 2 ^ m : Nat) : Int) % 4294967296 = (((x / 2 ^ n ||| x * 2 ^ m) % 4294967296 : Nat) : Int) := by omega
  rw [e4, or_mod _ _ hd, ro, show 32 - n = m from by omega]
theorem turn (x n : Nat) (w : World) (hx : x < 4294967296) (h1 : 1 ≤ n) (h2 : n ≤ 31) :
    Calls Tryd.prog 68 #[.int .i64 x, .int .i64 n] w fun e w' => e = .returned (.int .i64 (ro x n : Nat)) ∧ ∃ k, w' = w.drewN k := by
  obtain ⟨m, hm, h3, h4⟩ : ∃ m, n + m = 32 ∧ 1 ≤ m ∧ m ≤ 31 := ⟨32 - n, by omega⟩
  have hs : IntKind.i64.wrap (32 - (n : Int)) = (m : Int) := by rw [IntWalk.i64_in _ (by omega)]; omega
  have HM := Lib.hid hm
  clear hm
  go_enter Tryd.func68, Tryd.ntmps68
  go_wp2
  go_quiet (fail)
  go_wp2
  rw [val x n m hx HM.out h4]
  go_ret
  exact ⟨rfl, _, rfl⟩
theorem info34 : (Tryd.prog.info? 76).map (·.size) = some 8 := by kernel_rfl
theorem info55 : (Tryd.prog.info? 78).map (·.size) = some 64 := by kernel_rfl
/-- The cells of a state of ints. -/
def iSt (s : St) : Array Value := #[.int .i64 s.a, .int .i64 s.b, .int .i64 s.c, .int .i64 s.d, .int .i64 s.e, .int .i64 s.f, .int .i64 s.g, .int .i64 s.h]
theorem Begin (w : World) :
    Calls Tryd.prog 46 #[] w fun e w' => e = .returned (.agg (iSt st0)) ∧ Below w.heap.size w w' := by
  go_enter Tryd.func46, Tryd.ntmps46
  go_wp2
  refine bodyPost_ret (v := .agg (iSt st0))
    (results_cell_row Tryd.results46 _ _ w.heap.size 76 _ (0, 0) _ rfl (heap_alloc_new w _) Tryd.underlying76 rfl (by kernel_rfl)) rfl ⟨rfl, (Below.refl _ _).alloc (Nat.le_refl _) _⟩
set_option maxRecDepth 100000 in
theorem Rounds (w : World) :
    Calls Tryd.prog 47 #[] w fun e w' => e = .returned (.agg (iRow kList)) ∧ Below w.heap.size w w' := by
  go_enter Tryd.func47, Tryd.ntmps47
  go_upto_region 1 with (fail)
  go_wp2_with (first
    | (refine wpList_build rfl 78 _ rfl (by kernel_rfl) ?_)
    | (refine wpList_store_row rfl 78 _ _ rfl w.heap.size (iRow kList) rfl (by kernel_rfl) 78 _ (heap_alloc_new w _) (by kernel_rfl) (by kernel_rfl) (iRow_one _) ?_))
  refine bodyPost_ret (v := .agg (iRow kList))
    (results_cell_row Tryd.results47 _ _ w.heap.size 78 _ (0, 0) _ rfl (setRow_same (heap_alloc_new w _)) Tryd.underlying78 rfl (by kernel_rfl)) rfl ⟨rfl, below_setRow ((Below.refl _ _).alloc (Nat.le_refl _) _) (Nat.le_refl _) _⟩
end Go.Proofs.YtfjlpialblllgaaDoor.RRot
