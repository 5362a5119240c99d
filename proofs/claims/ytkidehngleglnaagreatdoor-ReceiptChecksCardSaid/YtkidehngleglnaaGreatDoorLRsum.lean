/- RRot RTxt RStp RSum RMac RMacs: one behind the other. -/
import Derived.Test.YtkidehngleglnaaGreatDoorLStep
import Derived.Deep.DeepCutAuto
import Derived.Test.YtkidehngleglnaaGreatDoorLRef
import Derived.Test.YtkidehngleglnaaGreatDoorLRef
import Derived.Test.YtkidehngleglnaaGreatDoorLRef
import Derived.StillTailTactics
import Derived.Test.YtkidehngleglnaaGreatDoorLHash
import Derived.Test.YtkidehngleglnaaGreatDoorHmac
/- What the document's answer for layer 2 turns a number to: the walk of keepsakeref02.turn; its first state and its rounds' numbers. -/
namespace Go.Proofs.YtkidehngleglnaaGreatDoor.RRot
open Go.RowKit
open SSpr
/-- The cells of a row of ints. -/
def iRow (l : List Nat) : Array Value := (l.map fun x : Nat => Value.int .i64 x).toArray
theorem iRow_size (l : List Nat) : (iRow l).size = l.length := by simp [iRow]
theorem iRow_at (l : List Nat) (i : Nat) (h : i < l.length) : (iRow l)[i]? = some (.int .i64 (l.getD i 0 : Nat)) := by simp [iRow, h, List.getD]
theorem iRow_set (l : List Nat) (i : Nat) (x : Nat) : (iRow l).setIfInBounds i (.int .i64 (x : Int)) = iRow (l.set i x) := by
  simp [iRow, List.map_set]
theorem iRow_one (l : List Nat) : (iRow l).all (·.oneCell') = true := by
  rw [Array.all_eq_true_iff_forall_mem]
  intro v hv
  simp only [iRow, List.mem_toArray, List.mem_map] at hv
  obtain ⟨x, _, rfl⟩ := hv
  rfl
theorem mul_lt (x m : Nat) (hx : x < 4294967296) (hm : m ≤ 31) : x * 2 ^ m < 9223372036854775808 := by
  have h1 : 2 ^ m ≤ 2 ^ 31 := Nat.pow_le_pow_right (by omega) hm
  have h2 : x * 2 ^ m ≤ x * 2 ^ 31 := Nat.mul_le_mul_left _ h1
  have h3 : (2 : Nat) ^ 31 = 2147483648 := rfl
  omega
theorem or_mod (a b : Nat) (ha : a < 4294967296) : (a ||| b) % 4294967296 = a ||| b % 4294967296 := by
  rw [show (4294967296 : Nat) = 2 ^ 32 from rfl, Nat.or_mod_two_pow, Nat.mod_eq_of_lt (a := a) (by simpa using ha)]
theorem i64_or (a b : Nat) (ha : a < 9223372036854775808) (hb : b < 9223372036854775808) : bits .or .i64 (a : Int) (b : Int) = ((a ||| b : Nat) : Int) := by
  have hx : a ||| b < 2 ^ 63 := Nat.or_lt_two_pow (by omega) (by omega)
  show IntKind.i64.wrap ((BitVec.ofInt 64 (a : Int) ||| BitVec.ofInt 64 (b : Int)).toNat : Int) = _
  rw [BitVec.toNat_or, ofInt_u64 a (by omega), ofInt_u64 b (by omega), IntWalk.i64_in _ (by omega)]
theorem i64_xor (a b : Nat) (ha : a < 9223372036854775808) (hb : b < 9223372036854775808) : bits .xor .i64 (a : Int) (b : Int) = ((a ^^^ b : Nat) : Int) := by
  have hx : a ^^^ b < 2 ^ 63 := Nat.xor_lt_two_pow (by omega) (by omega)
  show IntKind.i64.wrap ((BitVec.ofInt 64 (a : Int) ^^^ BitVec.ofInt 64 (b : Int)).toNat : Int) = _
  rw [BitVec.toNat_xor, ofInt_u64 a (by omega), ofInt_u64 b (by omega), IntWalk.i64_in _ (by omega)]
theorem i64_and (a b : Nat) (ha : a < 9223372036854775808) (hb : b < 9223372036854775808) : bits .and .i64 (a : Int) (b : Int) = ((a &&& b : Nat) : Int) := by
  have hx : a &&& b < 2 ^ 63 := Nat.and_lt_two_pow _ (by omega)
  show IntKind.i64.wrap ((BitVec.ofInt 64 (a : Int) &&& BitVec.ofInt 64 (b : Int)).toNat : Int) = _
  rw [BitVec.toNat_and, ofInt_u64 a (by omega), ofInt_u64 b (by omega), IntWalk.i64_in _ (by omega)]
theorem val (x n m : Nat) (hx : x < 4294967296) (h : n + m = 32) (hm : m ≤ 31) : (bits .or .i64 ((x : Int) / 2 ^ n) (wrap64 ((x : Int) * 2 ^ m))).tmod 4294967296 = ((ro x n : Nat) : Int) := by
  have hml := mul_lt x m hx hm
  have hd : x / 2 ^ n < 4294967296 := Nat.lt_of_le_of_lt (Nat.div_le_self _ _) hx
  have e1 : ((x : Int) / 2 ^ n) = ((x / 2 ^ n : Nat) : Int) := by simp
  have e2 : wrap64 ((x : Int) * 2 ^ m) = ((x * 2 ^ m : Nat) : Int) := by
    have e3 : ((x : Int) * 2 ^ m) = ((x * 2 ^ m : Nat) : Int) := by simp
    rw [e3]
    unfold wrap64
    omega
  rw [e1, e2, i64_or _ _ (by omega) hml, Int.tmod_eq_emod_of_nonneg (by omega)]
  have e4 : ((x / 2 ^ n ||| x * 2 ^ m : Nat) : Int) % 4294967296 = (((x / 2 ^ n ||| x * 2 ^ m) % 4294967296 : Nat) : Int) := by omega
  rw [e4, or_mod _ _ hd, ro, show 32 - n = m from by omega]
theorem turn (x n : Nat) (w : World) (hx : x < 4294967296) (h1 : 1 ≤ n) (h2 : n ≤ 31) :
    Calls Tryz.prog 96 #[.int .i64 x, .int .i64 n] w fun e w' => e = .returned (.int .i64 (ro x n : Nat)) ∧ ∃ k, w' = w.drewN k := by
  obtain ⟨m, hm, h3, h4⟩ : ∃ m, n + m = 32 ∧ 1 ≤ m ∧ m ≤ 31 := ⟨32 - n, by omega⟩
  have hs : IntKind.i64.wrap (32 - (n : Int)) = (m : Int) := by rw [IntWalk.i64_in _ (by omega)]; omega
  have HM := Lib.hid hm
  clear hm
  go_enter Tryz.func96, Tryz.ntmps96
  go_wp2
  go_quiet (fail)
  go_wp2
  rw [val x n m hx HM.out h4]
  go_ret
  exact ⟨rfl, _, rfl⟩
theorem info34 : (Tryz.prog.info? 104).map (·.size) = some 8 := by kernel_rfl
theorem info55 : (Tryz.prog.info? 106).map (·.size) = some 64 := by kernel_rfl
/-- The cells of a state of ints. -/
def iSt (s : St) : Array Value := #[.int .i64 s.a, .int .i64 s.b, .int .i64 s.c, .int .i64 s.d, .int .i64 s.e, .int .i64 s.f, .int .i64 s.g, .int .i64 s.h]
theorem Begin (w : World) :
    Calls Tryz.prog 74 #[] w fun e w' => e = .returned (.agg (iSt st0)) ∧ Below w.heap.size w w' := by
  go_enter Tryz.func74, Tryz.ntmps74
  go_wp2
  refine bodyPost_ret (v := .agg (iSt st0))
    (results_cell_row Tryz.results74 _ _ w.heap.size 104 _ (0, 0) _ rfl (heap_alloc_new w _) Tryz.underlying104 rfl (by kernel_rfl)) rfl ⟨rfl, (Below.refl _ _).alloc (Nat.le_refl _) _⟩
set_option maxRecDepth 100000 in
theorem Rounds (w : World) :
    Calls Tryz.prog 75 #[] w fun e w' => e = .returned (.agg (iRow kList)) ∧ Below w.heap.size w w' := by
  go_enter Tryz.func75, Tryz.ntmps75
  go_upto_region 1 with (fail)
  go_wp2_with (first
    | (refine wpList_build rfl 106 _ rfl (by kernel_rfl) ?_)
    | (refine wpList_store_row rfl 106 _ _ rfl w.heap.size (iRow kList) rfl (by kernel_rfl) 106 _ (heap_alloc_new w _) (by kernel_rfl) (by kernel_rfl) (iRow_one _) ?_))
  refine bodyPost_ret (v := .agg (iRow kList))
    (results_cell_row Tryz.results75 _ _ w.heap.size 106 _ (0, 0) _ rfl (setRow_same (heap_alloc_new w _)) Tryz.underlying106 rfl (by kernel_rfl)) rfl ⟨rfl, below_setRow ((Below.refl _ _).alloc (Nat.le_refl _) _) (Nat.le_refl _) _⟩
end Go.Proofs.YtkidehngleglnaaGreatDoor.RRot
/- What the document's answer for layer 2 says of a state's bytes, of the state of bytes, and of what stands behind a text: the walks of keepsakeref02.Text, Of and Pad. -/
namespace Go.Proofs.YtkidehngleglnaaGreatDoor.RTxt
open Go.RowKit
open SSpr SByt RRot
def tb (s : St) (j : Nat) : List UInt8 := ((stL s).take j).flatMap (be 4)
theorem tb_next (s : St) (j : Nat) (h : j < 8) : tb s (j + 1) = tb s j ++ be 4 ((stL s).getD j 0) := by
  have hl : j < (stL s).length := h
  unfold tb
  rw [List.take_succ_eq_append_getElem hl, List.flatMap_append]
  simp [List.getD, hl]
theorem tb_all (s : St) : tb s 8 = s.bytes := by
  simp [tb, stL, St.bytes, List.flatMap]
theorem iSt_at (s : St) (i : Nat) (h : i < 8) : (iSt s)[i]? = some (.int .i64 ((stL s).getD i 0 : Nat)) := by
  match i, h with
  | 0, _ => rfl
  | 1, _ => rfl
  | 2, _ => rfl
  | 3, _ => rfl
  | 4, _ => rfl
  | 5, _ => rfl
  | 6, _ => rfl
  | 7, _ => rfl
theorem Text (s : St) (hs : s.ok) (w : World) :
    Calls Tryz.prog 77 #[.agg (iSt s)] w fun e w' => e = .returned (.string ⟨s.bytes.toArray⟩) ∧ Below w.heap.size w w' := by
  have hat := iSt_at s
  have hlt := stL_lt s hs
  have hsz : (iSt s).size = 8 := rfl
  generalize iSt s = cs at *
  go_enter Tryz.func77, Tryz.ntmps77
  go_wp2
  go_loopw [3, 4] (fun t i wr => ∃ j : Nat, j ≤ 8 ∧ i = .int .i64 j ∧ t = .string ⟨(tb s j).toArray⟩ ∧ Below (w.heap.size + 1) (w.alloc (.cells cs 104)) wr) (fun _ i _ => 8 - (intOf i).toNat)
  case atStart => exact ⟨0, Nat.zero_le _, rfl, rfl, Below.refl _ _⟩
  case round =>
    obtain ⟨j, hj, rfl, rfl, hbel⟩ := hrel
    have hblk : wr.heap[w.heap.size]? = some (.cells cs 104 (0, 0)) := (hbel.block _ (by omega)).trans (heap_alloc_new w _)
    have HB := Lib.hid hbel
    by_cases hlt' : j < 8
    · have hv := blk_cell hblk (hat j hlt')
      have hl := hlt j
      have HN := Lib.hid (tb_next s j hlt')
      have htl : (tb s j).length ≤ 32 := by
        have h : ∀ k, (tb s k).length = 4 * ((stL s).take k).length := by
          intro k
          unfold tb
          generalize (stL s).take k = L
          induction L with
          | nil => rfl
          | cons x L ih => rw [List.flatMap_cons, List.length_append, ih, be_length, List.length_cons]; omega
        rw [h, List.length_take]
        have : (stL s).length = 8 := rfl
        omega
      clear hat hlt hblk hbel
      generalize (stL s).getD j 0 = x at *
      have hP : ∀ W, Calls Tryz.prog 23 #[.int .i64 x, .int .i64 4] W fun e w' => e = .returned (.tuple #[.string ⟨(be 4 x).toArray⟩, .int .i64 0]) ∧ Below W.heap.size W w' := by
        intro W
        have := RPut.any (x : Int) 4 W (by omega)
        rw [put_good _ _ (by omega) (by omega) (by omega) (by simp only [Int.reduceToNat, Int.reducePow]; omega)] at this
        exact this
      have HP := Lib.hid hP
      have hbl : (be 4 x).length ≤ 4 := by rw [be_length]; omega
      have hap : (⟨(tb s j).toArray⟩ ++ ⟨(be 4 x).toArray⟩ : ByteArray) = ⟨(tb s (j + 1)).toArray⟩ := by rw [HN.out, ByteArray.mk_append_mk]
      have HA := Lib.hid hap
      clear hP hap
      generalize be 4 x = y at *
      go_wp2_with (go_at_call 23; refine (HP.out _).mono ?_; rintro e w1 ⟨rfl, hb1⟩; have HB1 := Lib.hid (HB.out.trans (hb1.mono (by have := HB.out.size; simp at this; omega))); clear hb1)
      go_roundw
      case rel => exact ⟨j + 1, by omega, by go_num, by rw [HA.out], HB1.out⟩
      case measure => simp [intOf]; omega
    · have hk : j = 8 := by omega
      subst hk
      rw [tb_all]
      clear hat hlt hblk hbel
      go_wp2
      go_ret
      exact ⟨rfl, ((Below.refl w.heap.size w).alloc (Nat.le_refl _) _).trans (HB.out.mono (by omega))⟩
end Go.Proofs.YtkidehngleglnaaGreatDoor.RTxt
/- What the document's answer for layer 2 turns a state to by a block: the walk of keepsakeref02.step. -/
namespace Go.Proofs.YtkidehngleglnaaGreatDoor.RStp
open Go.RowKit
open SSpr SByt STurn RRot RTxt
theorem or_xor (a b : Nat) (h : a &&& b = 0) : a ||| b = a ^^^ b := by
  apply Nat.eq_of_testBit_eq
  intro i
  have hi : (a &&& b).testBit i = false := by rw [h]; exact Nat.zero_testBit i
  rw [Nat.testBit_and] at hi
  rw [Nat.testBit_or, Nat.testBit_xor]
  cases ha : a.testBit i <;> cases hb : b.testBit i <;> simp_all
theorem ch_or (E F G : Nat) (h : E < 4294967296) : (E &&& F) ||| ((4294967295 - E) &&& G) = (E &&& F) ^^^ ((4294967295 - E) &&& G) := by
  apply or_xor
  rw [← notN E h]
  apply Nat.eq_of_testBit_eq
  intro i
  rw [Nat.zero_testBit, Nat.testBit_and, Nat.testBit_and, Nat.testBit_and, Nat.testBit_xor]
  by_cases hi : i < 32
  · rw [show (4294967295 : Nat) = 2 ^ 32 - 1 from rfl, Nat.testBit_two_pow_sub_one]
    cases E.testBit i <;> simp [hi]
  · have : E.testBit i = false := Nat.testBit_lt_two_pow (Nat.lt_of_lt_of_le (show E < 2 ^ 32 from h) (Nat.pow_le_pow_right (n := 2) (by decide) (by omega : 32 ≤ i)))
    simp [this]
theorem maj_or (A B C : Nat) : (A &&& B) ||| (A &&& C) ||| (B &&& C) = (A &&& B) ^^^ (A &&& C) ^^^ (B &&& C) := by
  apply Nat.eq_of_testBit_eq
  intro i
  simp only [Nat.testBit_or, Nat.testBit_and, Nat.testBit_xor]
  cases A.testBit i <;> cases B.testBit i <;> cases C.testBit i <;> rfl
theorem alloc4 (w : World) (A B C D : Obj) : ((((w.alloc A).alloc B).alloc C).alloc D).heap[w.heap.size]? = some A ∧ ((((w.alloc A).alloc B).alloc C).alloc D).heap[w.heap.size + 1]? = some B ∧
    ((((w.alloc A).alloc B).alloc C).alloc D).heap[w.heap.size + 1 + 1]? = some C ∧ ((((w.alloc A).alloc B).alloc C).alloc D).heap[w.heap.size + 1 + 1 + 1]? = some D ∧ Below w.heap.size w ((((w.alloc A).alloc B).alloc C).alloc D) ∧ ((((w.alloc A).alloc B).alloc C).alloc D).heap.size = w.heap.size + 1 + 1 + 1 + 1 := by
  have hs : (((w.alloc A).alloc B).alloc C).heap.size = w.heap.size + 1 + 1 + 1 := by simp
  refine ⟨?_, ?_, ?_, ?_, ?_, by simp⟩
  · rw [heap_alloc_old _ _ (by rw [hs]; omega)]; exact alloc3_0 w A B C
  · rw [heap_alloc_old _ _ (by rw [hs]; omega)]; exact alloc3_1 w A B C
  · rw [heap_alloc_old _ _ (by rw [hs]; omega)]; exact alloc3_2 w A B C
  · rw [← hs]; exact heap_alloc_new _ _
  · exact (below_alloc3 w A B C).alloc (by rw [hs]; omega) _
/-- The numbers behind 'j' rounds of the last loop. -/
def mix (s r : St) (j : Nat) : List Nat := (List.range 8).map fun i => if i < j then ((stL r).getD i 0 + (stL s).getD i 0) % 4294967296 else (stL r).getD i 0
theorem mix_len (s r : St) (j : Nat) : (mix s r j).length = 8 := by simp [mix]
theorem mix_zero (s r : St) : iRow (mix s r 0) = iSt r := rfl
theorem mix_all (s r : St) : iRow (mix s r 8) = iSt (s.plus r) := by
  have h : mix s r 8 = stL (s.plus r) := by
    simp [mix, stL, St.plus, List.range_succ, List.getD, Nat.add_comm]
  rw [h]
  rfl
theorem mix_at (s r : St) (j : Nat) (h : j < 8) : (mix s r j).getD j 0 = (stL r).getD j 0 := by
  simp [mix, List.getD, h]
theorem mix_next (s r : St) (j : Nat) (h : j < 8) : (mix s r j).set j (((stL r).getD j 0 + (stL s).getD j 0) % 4294967296) = mix s r (j + 1) := by
  apply List.ext_getElem?
  intro i
  rw [List.getElem?_set]
  by_cases hij : j = i
  · subst hij
    simp [mix, h]
  · rw [if_neg hij]
    by_cases hi : i < 8
    · simp only [mix, List.getElem?_map, List.getElem?_range hi, Option.map_some]
      by_cases h2 : i < j
      · rw [if_pos h2, if_pos (by omega)]
      · rw [if_neg h2, if_neg (by omega)]
    · rw [List.getElem?_eq_none (by rw [mix_len]; omega), List.getElem?_eq_none (by rw [mix_len]; omega)]
theorem iSt_size (s : St) : (iSt s).size = 8 := rfl
theorem iSt_one (s : St) : (iSt s).all (·.oneCell') = true := iRow_one (stL s)
theorem all8i (a b c d e f g h : Int) : (#[.int .i64 a, .int .i64 b, .int .i64 c, .int .i64 d, .int .i64 e, .int .i64 f, .int .i64 g, .int .i64 h] : Array Value).all (·.oneCell') = true := by
  simp [Value.oneCell']
theorem t6 (x : Nat) (w : World) (hx : x < 4294967296) : Calls Tryz.prog 96 #[.int .i64 x, .int .i64 6] w fun e w' => e = .returned (.int .i64 (ro x 6 : Nat)) ∧ ∃ k, w' = w.drewN k := RRot.turn x 6 w hx (by omega) (by omega)
theorem t11 (x : Nat) (w : World) (hx : x < 4294967296) : Calls Tryz.prog 96 #[.int .i64 x, .int .i64 11] w fun e w' => e = .returned (.int .i64 (ro x 11 : Nat)) ∧ ∃ k, w' = w.drewN k := RRot.turn x 11 w hx (by omega) (by omega)
theorem t25 (x : Nat) (w : World) (hx : x < 4294967296) : Calls Tryz.prog 96 #[.int .i64 x, .int .i64 25] w fun e w' => e = .returned (.int .i64 (ro x 25 : Nat)) ∧ ∃ k, w' = w.drewN k := RRot.turn x 25 w hx (by omega) (by omega)
theorem t2 (x : Nat) (w : World) (hx : x < 4294967296) : Calls Tryz.prog 96 #[.int .i64 x, .int .i64 2] w fun e w' => e = .returned (.int .i64 (ro x 2 : Nat)) ∧ ∃ k, w' = w.drewN k := RRot.turn x 2 w hx (by omega) (by omega)
theorem t13 (x : Nat) (w : World) (hx : x < 4294967296) : Calls Tryz.prog 96 #[.int .i64 x, .int .i64 13] w fun e w' => e = .returned (.int .i64 (ro x 13 : Nat)) ∧ ∃ k, w' = w.drewN k := RRot.turn x 13 w hx (by omega) (by omega)
theorem t22 (x : Nat) (w : World) (hx : x < 4294967296) : Calls Tryz.prog 96 #[.int .i64 x, .int .i64 22] w fun e w' => e = .returned (.int .i64 (ro x 22 : Nat)) ∧ ∃ k, w' = w.drewN k := RRot.turn x 22 w hx (by omega) (by omega)
theorem t7 (x : Nat) (w : World) (hx : x < 4294967296) : Calls Tryz.prog 96 #[.int .i64 x, .int .i64 7] w fun e w' => e = .returned (.int .i64 (ro x 7 : Nat)) ∧ ∃ k, w' = w.drewN k := RRot.turn x 7 w hx (by omega) (by omega)
theorem t18 (x : Nat) (w : World) (hx : x < 4294967296) : Calls Tryz.prog 96 #[.int .i64 x, .int .i64 18] w fun e w' => e = .returned (.int .i64 (ro x 18 : Nat)) ∧ ∃ k, w' = w.drewN k := RRot.turn x 18 w hx (by omega) (by omega)
theorem t17 (x : Nat) (w : World) (hx : x < 4294967296) : Calls Tryz.prog 96 #[.int .i64 x, .int .i64 17] w fun e w' => e = .returned (.int .i64 (ro x 17 : Nat)) ∧ ∃ k, w' = w.drewN k := RRot.turn x 17 w hx (by omega) (by omega)
theorem t19 (x : Nat) (w : World) (hx : x < 4294967296) : Calls Tryz.prog 96 #[.int .i64 x, .int .i64 19] w fun e w' => e = .returned (.int .i64 (ro x 19 : Nat)) ∧ ∃ k, w' = w.drewN k := RRot.turn x 19 w hx (by omega) (by omega)
set_option maxRecDepth 100000 in
set_option maxHeartbeats 2000000 in
theorem step (s : St) (hs : s.ok) (b : List UInt8) (hb : b.length = 64) (w : World) :
    Calls Tryz.prog 76 #[.agg (iSt s), .string ⟨b.toArray⟩, .agg (iRow kList)] w fun e w' => e = .returned (.agg (iSt (turnSt s b))) ∧ Below w.heap.size w w' := by
  have HB := Lib.hid hb
  clear hb
  obtain ⟨ks, hks⟩ : ∃ ks, ks = iRow kList := ⟨_, rfl⟩
  obtain ⟨ss, hss⟩ : ∃ ss, ss = iSt s := ⟨_, rfl⟩
  rw [← hks, ← hss]
  have HK := Lib.hid hks
  have HS := Lib.hid hss
  clear hks hss
  go_enter Tryz.func76, Tryz.ntmps76
  go_upto_region 2 with (fail)
  generalize hW : World.alloc (World.alloc (World.alloc (World.alloc w _) _) _) _ = W1
  obtain ⟨f0, f1, f2, f3, fB, fS⟩ : W1.heap[w.heap.size]? = some (.cells ss 104 (0, 0)) ∧ W1.heap[w.heap.size + 1]? = some (.cells ks 106 (0, 0)) ∧
    W1.heap[w.heap.size + 1 + 1]? = some (.cells (iRow (List.replicate 8 0)) 104 (0, 0)) ∧ W1.heap[w.heap.size + 1 + 1 + 1]? = some (.cells (iRow (wrow b 0)) 106 (0, 0)) ∧ Below w.heap.size w W1 ∧ W1.heap.size = w.heap.size + 1 + 1 + 1 + 1 := by
    rw [← hW]; exact alloc4 w _ _ _ _
  have F0 := Lib.hid f0
  have F1 := Lib.hid f1
  have F2 := Lib.hid f2
  have F3 := Lib.hid f3
  have FB := Lib.hid fB
  have FS := Lib.hid fS
  clear hW f0 f1 f2 f3 fB fS
  go_wp2
  go_loopw [8] (fun i wr => ∃ j : Nat, j ≤ 64 ∧ i = .int .i64 j ∧ wr.heap[w.heap.size + 1 + 1 + 1]? = some (.cells (iRow (wrow b j)) 106 (0, 0)) ∧ Below (w.heap.size + 1 + 1 + 1) W1 wr) (fun i _ => 64 - (intOf i).toNat)
  case atStart => exact ⟨0, Nat.zero_le _, rfl, F3.out, Below.refl _ _⟩
  case round =>
    obtain ⟨j, hj, rfl, hb3, hbel⟩ := hrel
    have HB3 := Lib.hid hb3
    have HBe := Lib.hid hbel
    clear hb3 hbel
    by_cases hlt : j < 64
    · have hl := wrow_len b j hj
      have cj := blk_cell HB3.out (iRow_at _ j (by omega))
      have hfz := blk_free (i := j) HB3.out
      by_cases h16 : j < 16
      · have hsl : ∀ W : World, (Instr.slice 9 (.string ⟨b.toArray⟩) (some (.int .i64 (4 * (j : Int)))) (some (.int .i64 (4 * (j : Int) + 4))) none).run Tryz.prog W = .ok (.string ⟨((b.drop (4 * j)).take 4).toArray⟩) W := by
          intro W
          have := run_slice_string (P := Tryz.prog) (w := W) 9 ⟨b.toArray⟩ .i64 .i64 (4 * (j : Int)) (4 * (j : Int) + 4) Tryz.underlying9 (by omega) (by omega) (show _ ≤ ((b.length : Nat) : Int) by rw [HB.out]; omega)
          rw [this]
          have e1 : (4 * (j : Int)).toNat = 4 * j := by omega
          have e2 : (4 * (j : Int) + 4).toNat = 4 * j + 4 := by omega
          rw [e1, e2, ByteArray.extract_mk, show 4 * j + 4 - 4 * j = 4 from by omega]
        have HG : Hid (∀ W, Calls Tryz.prog 27 #[.string ⟨((b.drop (4 * j)).take 4).toArray⟩] W fun e w' => e = .returned (.tuple #[.int .i64 (num ((b.drop (4 * j)).take 4)), .int .i64 0]) ∧ W = w') := by
          intro W
          have h := RGet.any ⟨((b.drop (4 * j)).take 4).toArray⟩ W
          rw [show ((⟨((b.drop (4 * j)).take 4).toArray⟩ : ByteArray)).data.toList = (b.drop (4 * j)).take 4 from rfl, (get_four (b.drop (4 * j)) (by rw [List.length_drop, HB.out]; omega)).1] at h
          exact h
        have HN := Lib.hid (wrow_next b j hlt (num ((b.drop (4 * j)).take 4)) (by rw [if_pos h16]))
        generalize (b.drop (4 * j)).take 4 = x at *
        generalize num x = y at *
        clear hl
        go_wp2_with (go_at_call 27; refine (HG.out _).mono ?_; rintro e w1 ⟨rfl, rfl⟩)
        go_roundw
        case rel => exact ⟨j + 1, by omega, by go_num, by rw [blk_set HB3.out, iRow_set, HN.out], HBe.out.setCell (Nat.le_refl _) _⟩
        case measure => simp [intOf]; omega
      · have hw := ws_getD_lt b j
        have c16 := blk_cell HB3.out (iRow_at _ (j - 16) (by omega))
        have c15 := blk_cell HB3.out (iRow_at _ (j - 15) (by omega))
        have c7 := blk_cell HB3.out (iRow_at _ (j - 7) (by omega))
        have c2 := blk_cell HB3.out (iRow_at _ (j - 2) (by omega))
        have HN := Lib.hid (wrow_next b j hlt _ (by rw [if_neg h16, nextW, ws_length]))
        rw [wrow_getD _ _ _ (by omega)] at c16 c15 c7 c2
        have b16 := hw (j - 16)
        have b15 := hw (j - 15)
        have b7 := hw (j - 7)
        have b2 := hw (j - 2)
        generalize (ws b j).getD (j - 16) 0 = x16 at *
        generalize (ws b j).getD (j - 15) 0 = x15 at *
        generalize (ws b j).getD (j - 7) 0 = x7 at *
        generalize (ws b j).getD (j - 2) 0 = x2 at *
        have r1 := ro_lt x15 7 b15
        have r2 := ro_lt x15 18 b15
        have r3 := ro_lt x2 17 b2
        have r4 := ro_lt x2 19 b2
        have d8 : x15 / 8 < 4294967296 := Nat.lt_of_le_of_lt (Nat.div_le_self _ _) b15
        have d1024 : x2 / 1024 < 4294967296 := Nat.lt_of_le_of_lt (Nat.div_le_self _ _) b2
        have hs0 := half_lt x15 7 18 3 b15
        have hs1 := half_lt x2 17 19 10 b2
        have q1 := i64_xor _ _ (show ro x15 7 < 9223372036854775808 by omega) (show ro x15 18 < 9223372036854775808 by omega)
        have q2 : bits .xor .i64 ((ro x15 7 ^^^ ro x15 18 : Nat) : Int) (wrap64 ((x15 : Int) / 8)) = ((half x15 7 18 3 : Nat) : Int) := by
          have h := i64_xor (ro x15 7 ^^^ ro x15 18) (x15 / 8) (by have := xor_lt _ _ r1 r2; omega) (by omega)
          rw [show ((x15 / 8 : Nat) : Int) = wrap64 ((x15 : Int) / 8) from by unfold wrap64; omega] at h
          exact h
        have q3 := i64_xor _ _ (show ro x2 17 < 9223372036854775808 by omega) (show ro x2 19 < 9223372036854775808 by omega)
        have q4 : bits .xor .i64 ((ro x2 17 ^^^ ro x2 19 : Nat) : Int) (wrap64 ((x2 : Int) / 1024)) = ((half x2 17 19 10 : Nat) : Int) := by
          have h := i64_xor (ro x2 17 ^^^ ro x2 19) (x2 / 1024) (by have := xor_lt _ _ r3 r4; omega) (by omega)
          rw [show ((x2 / 1024 : Nat) : Int) = wrap64 ((x2 : Int) / 1024) from by unfold wrap64; omega] at h
          exact h
        have T1 := Lib.hid (fun W => t7 x15 W b15)
        have T2 := Lib.hid (fun W => t18 x15 W b15)
        have T3 := Lib.hid (fun W => t17 x2 W b2)
        have T4 := Lib.hid (fun W => t19 x2 W b2)
        generalize half x15 7 18 3 = y0 at *
        generalize half x2 17 19 10 = y1 at *
        obtain ⟨p16, u16⟩ : ∃ p, p = j - 16 := ⟨_, rfl⟩
        obtain ⟨p15, u15⟩ : ∃ p, p = j - 15 := ⟨_, rfl⟩
        obtain ⟨p7, u7⟩ : ∃ p, p = j - 7 := ⟨_, rfl⟩
        obtain ⟨p2, u2⟩ : ∃ p, p = j - 2 := ⟨_, rfl⟩
        rw [← u16] at c16
        rw [← u15] at c15
        rw [← u7] at c7
        rw [← u2] at c2
        have e16 : IntKind.i64.wrap ((j : Int) - 16) = (p16 : Int) := by rw [IntWalk.i64_in _ (by omega)]; omega
        have e15 : IntKind.i64.wrap ((j : Int) - 15) = (p15 : Int) := by rw [IntWalk.i64_in _ (by omega)]; omega
        have e7 : IntKind.i64.wrap ((j : Int) - 7) = (p7 : Int) := by rw [IntWalk.i64_in _ (by omega)]; omega
        have e2 : IntKind.i64.wrap ((j : Int) - 2) = (p2 : Int) := by rw [IntWalk.i64_in _ (by omega)]; omega
        obtain ⟨m1, v1⟩ : ∃ m, m = x16 + y0 := ⟨_, rfl⟩
        obtain ⟨m2, v2⟩ : ∃ m, m = m1 + x7 := ⟨_, rfl⟩
        obtain ⟨m3, v3⟩ : ∃ m, m = m2 + y1 := ⟨_, rfl⟩
        have k1 : IntKind.i64.wrap ((x16 : Int) + (y0 : Int)) = (m1 : Int) := by rw [IntWalk.i64_in _ (by omega)]; omega
        have k2 : IntKind.i64.wrap ((m1 : Int) + (x7 : Int)) = (m2 : Int) := by rw [IntWalk.i64_in _ (by omega)]; omega
        have k3 : IntKind.i64.wrap ((m2 : Int) + (y1 : Int)) = (m3 : Int) := by rw [IntWalk.i64_in _ (by omega)]; omega
        have k4 : (m3 : Int).tmod 4294967296 = ((m3 % 4294967296 : Nat) : Int) := by rw [Int.tmod_eq_emod_of_nonneg (by omega)]; omega
        have HV : Hid (x16 + y0 + x7 + y1 = m3) := by show _ = _; omega
        have g16 : (p16 : Int) < 64 := by omega
        have g15 : (p15 : Int) < 64 := by omega
        have g7 : (p7 : Int) < 64 := by omega
        have g2 : (p2 : Int) < 64 := by omega
        have gj : (j : Int) < 64 := by omega
        have z16 : (0 : Int) ≤ (p16 : Int) := by omega
        have z15 : (0 : Int) ≤ (p15 : Int) := by omega
        have z7 : (0 : Int) ≤ (p7 : Int) := by omega
        have z2 : (0 : Int) ≤ (p2 : Int) := by omega
        have zj : (0 : Int) ≤ (j : Int) := by omega
        clear u16 u15 u7 u2 v1 v2 v3 hw hl r1 r2 r3 r4 d8 d1024 hs0 hs1 b16 b15 b7 b2
        go_wp2
        go_quiet (fail)
        go_upto_region 10 with (first
          | (go_at_call 96; (with_reducible refine (T1.out _).mono ?_); rintro e w1 ⟨rfl, k1', rfl⟩)
          | (go_at_call 96; (with_reducible refine (T2.out _).mono ?_); rintro e w1 ⟨rfl, k2', rfl⟩)
          | (go_at_call 96; (with_reducible refine (T3.out _).mono ?_); rintro e w1 ⟨rfl, k3', rfl⟩)
          | (go_at_call 96; (with_reducible refine (T4.out _).mono ?_); rintro e w1 ⟨rfl, k4', rfl⟩))
        generalize hN : World.drewN wr _ = wq
        have hq : ∃ N, wq = wr.drewN N := ⟨_, hN.symm⟩
        clear hN
        obtain ⟨N, hN⟩ := hq
        have a16 : wq.cell? ⟨w.heap.size + 1 + 1 + 1, p16, none⟩ = some (.int .i64 x16) := by rw [hN]; exact c16
        have a7 : wq.cell? ⟨w.heap.size + 1 + 1 + 1, p7, none⟩ = some (.int .i64 x7) := by rw [hN]; exact c7
        have aj : ∃ v, wq.cell? ⟨w.heap.size + 1 + 1 + 1, j, none⟩ = some v := ⟨_, by rw [hN]; exact cj⟩
        obtain ⟨av, aj⟩ := aj
        have af : wq.frozen? ⟨w.heap.size + 1 + 1 + 1, j, none⟩ = false := by rw [hN]; exact hfz
        have HB3' : Hid (wq.heap[w.heap.size + 1 + 1 + 1]? = some (.cells (iRow (wrow b j)) 106 (0, 0))) := by show _ = _; rw [hN]; exact HB3.out
        have HBe' : Hid (Below (w.heap.size + 1 + 1 + 1) W1 wq) := by rw [hN]; exact HBe.out.trans (below_drewN _ _)
        clear hN c16 c15 c7 c2 cj hfz HB3 HBe
        refine wp_region_still_tail 16 (by kernel_rfl) (by kernel_rfl) ?_
        simp only [List.take_succ_cons, List.take_zero, List.drop_succ_cons, List.drop_zero]
        change wpStill _ _ wq.drew _ _ _
        repeat still_step
        refine wpStill_nil ?_
        change wpList _ _ _ _ _ wq.drew
        go_wp2
        go_roundw
        case rel =>
          have hn := HN.out
          rw [HV.out] at hn
          refine ⟨j + 1, by omega, by go_num, ?_, ?_⟩
          · have hv : (m3 : Int) % 4294967296 = ((m3 % 4294967296 : Nat) : Int) := by omega
            rw [hv, show ∀ X : World, X.drew.heap = X.heap from fun _ => rfl, blk_set HB3'.out, iRow_set, hn]
          · exact (HBe'.out.setCell (Nat.le_refl _) _).drew
        case measure => simp [intOf]; omega
    · have hk : j = 64 := by omega
      subst hk
      have hz : wrow b 64 = ws b 64 := by simp [wrow]
      have HB4 : Hid (wr.heap[w.heap.size + 1 + 1 + 1]? = some (.cells (iRow (ws b 64)) 106 (0, 0))) := by have := HB3.out; rw [hz] at this; exact this
      have hSS : wr.heap[w.heap.size]? = some (.cells ss 104 (0, 0)) := (HBe.out.block _ (by omega)).trans F0.out
      have hKK : wr.heap[w.heap.size + 1]? = some (.cells ks 106 (0, 0)) := (HBe.out.block _ (by omega)).trans F1.out
      have hRR : wr.heap[w.heap.size + 1 + 1]? = some (.cells (iRow (List.replicate 8 0)) 104 (0, 0)) := (HBe.out.block _ (by omega)).trans F2.out
      have hWW : Below w.heap.size w wr := FB.out.trans (HBe.out.mono (by omega))
      have HSS := Lib.hid hSS
      have HKK := Lib.hid hKK
      have HRR := Lib.hid hRR
      have HWW := Lib.hid hWW
      have HL := Lib.hid (ws_length b 64)
      have hL1 := ws_getD_lt b 64
      have hT : turnSt s b = s.plus (rnds kList (ws b 64) s 64) := rfl
      generalize ws b 64 = L at *
      have HT := Lib.hid hT
      have HL1 := Lib.hid hL1
      have HI : Hid ((Tryz.prog.info? 104).map (·.size) = some ss.size) := by rw [HS.out]; exact info34
      have HO : Hid (ss.all (·.oneCell') = true) := by rw [HS.out]; exact iRow_one (stL s)
      have HZ : Hid (ss.size = 8) := by rw [HS.out]; rfl
      clear hz hSS hKK hRR hWW hL1 hT HB3 HBe F0 F1 F2 F3 FB FS hlt hj
      go_upto_region 12 with (first
        | (refine wpList_load_row rfl 104 _ rfl w.heap.size rfl 104 _ (0, 0) _ HSS.out Tryz.underlying104 rfl HI.out ?_)
        | (refine wpList_store_row rfl 104 _ _ rfl wr.heap.size _ rfl rfl 104 _ (heap_alloc_new wr _) HI.out (by rw [HZ.out]; rfl) HO.out ?_))
      generalize hW2 : World.setRow _ _ _ = W2
      generalize hg : wr.heap.size = g at *
      have l1 : w.heap.size + 1 + 1 + 1 < g := by rw [← hg]; exact (Array.getElem?_eq_some_iff.1 HB4.out).1
      have old : ∀ k, k < g → W2.heap[k]? = wr.heap[k]? := fun k hk => by
        rw [← hW2, setRow_far (by omega), Below.heap_alloc _ _ _ (by omega)]
      have K0 := Lib.hid ((old _ (by omega)).trans HSS.out)
      have K1 := Lib.hid ((old _ (by omega)).trans HKK.out)
      have K2 := Lib.hid ((old _ (by omega)).trans HRR.out)
      have K3 := Lib.hid ((old _ (by omega)).trans HB4.out)
      have KX : Hid (W2.heap[g]? = some (.cells (iSt (rnds kList L s 0)) 104 (0, 0))) := by
        show _ = _
        rw [← hW2, ← hg, show iSt (rnds kList L s 0) = ss from HS.out.symm]
        exact setRow_same (heap_alloc_new wr _)
      have KB : Hid (Below w.heap.size w W2) := by
        rw [← hW2, ← hg]
        exact below_setRow (HWW.out.alloc HWW.out.size _) HWW.out.size _
      have LG := Lib.hid l1
      clear hW2 hg old HSS HKK HRR HB4 HWW HI HO HZ l1
      go_wp2
      go_loopw [14] (fun i wr => ∃ j : Nat, j ≤ 64 ∧ i = .int .i64 j ∧ wr.heap[g]? = some (.cells (iSt (rnds kList L s j)) 104 (0, 0)) ∧ Below g W2 wr) (fun i _ => 64 - (intOf i).toNat)
      case atStart => exact ⟨0, Nat.zero_le _, rfl, KX.out, Below.refl _ _⟩
      case round =>
        obtain ⟨j, hj, rfl, hbx, hbel⟩ := hrel
        have HBX := Lib.hid hbx
        have HBE := Lib.hid hbel
        clear hbx hbel
        by_cases hlt : j < 64
        · have hok := rnds_ok kList L s hs j
          have HXN := Lib.hid (show rnds kList L s (j + 1) = rnd (kList.getD j 0) (L.getD j 0) (rnds kList L s j) from rfl)
          have hk := kList_lt j
          have hw := HL1.out j
          have ck := blk_cell ((HBE.out.block _ (by have := LG.out; omega)).trans K1.out) (by rw [HK.out]; exact iRow_at kList j hlt)
          have cw := blk_cell ((HBE.out.block _ LG.out).trans K3.out) (iRow_at L j (by rw [HL.out]; exact hlt))
          generalize rnds kList L s j = r at *
          generalize kList.getD j 0 = x at *
          generalize L.getD j 0 = y at *
          obtain ⟨A, B, C, D, E, F, G, H⟩ := r
          obtain ⟨hA, hB, hC, hD, hE, hF, hG, hH⟩ := hok
          simp only at hA hB hC hD hE hF hG hH
          have l0 : wr.cell? ⟨g, 0, none⟩ = some (.int .i64 A) := blk_cell HBX.out rfl
          have l1 : wr.cell? ⟨g, 1, none⟩ = some (.int .i64 B) := blk_cell HBX.out rfl
          have l2 : wr.cell? ⟨g, 2, none⟩ = some (.int .i64 C) := blk_cell HBX.out rfl
          have l3 : wr.cell? ⟨g, 3, none⟩ = some (.int .i64 D) := blk_cell HBX.out rfl
          have l4 : wr.cell? ⟨g, 4, none⟩ = some (.int .i64 E) := blk_cell HBX.out rfl
          have l5 : wr.cell? ⟨g, 5, none⟩ = some (.int .i64 F) := blk_cell HBX.out rfl
          have l6 : wr.cell? ⟨g, 6, none⟩ = some (.int .i64 G) := blk_cell HBX.out rfl
          have l7 : wr.cell? ⟨g, 7, none⟩ = some (.int .i64 H) := blk_cell HBX.out rfl
          have rE6 := ro_lt E 6 hE
          have rE11 := ro_lt E 11 hE
          have rE25 := ro_lt E 25 hE
          have rA2 := ro_lt A 2 hA
          have rA13 := ro_lt A 13 hA
          have rA22 := ro_lt A 22 hA
          have hP := three_lt E 6 11 25 hE
          have hP2 := three_lt A 2 13 22 hA
          have q1 := i64_xor (ro E 6) (ro E 11) (by omega) (by omega)
          have q2 : bits .xor .i64 ((ro E 6 ^^^ ro E 11 : Nat) : Int) ((ro E 25 : Nat) : Int) = ((three E 6 11 25 : Nat) : Int) := i64_xor (ro E 6 ^^^ ro E 11) (ro E 25) (by have := xor_lt _ _ rE6 rE11; omega) (by omega)
          have q3 := i64_xor (ro A 2) (ro A 13) (by omega) (by omega)
          have q4 : bits .xor .i64 ((ro A 2 ^^^ ro A 13 : Nat) : Int) ((ro A 22 : Nat) : Int) = ((three A 2 13 22 : Nat) : Int) := i64_xor (ro A 2 ^^^ ro A 13) (ro A 22) (by have := xor_lt _ _ rA2 rA13; omega) (by omega)
          have n1 := i64_and E F (by omega) (by omega)
          have eN : IntKind.i64.wrap (4294967295 - (E : Int)) = ((4294967295 - E : Nat) : Int) := by rw [IntWalk.i64_in _ (by omega)]; omega
          have n2 := i64_and (4294967295 - E) G (by omega) (by omega)
          have hEF := and_lt E F hF
          have hEG := and_lt (4294967295 - E) G hG
          have n3 := i64_or (E &&& F) ((4294967295 - E) &&& G) (by omega) (by omega)
          rw [ch_or E F G hE] at n3
          have hQ := xor_lt _ _ hEF hEG
          have o1 := i64_and A B (by omega) (by omega)
          have o2 := i64_and A C (by omega) (by omega)
          have o3 := i64_and B C (by omega) (by omega)
          have hAB := and_lt A B hB
          have hAC := and_lt A C hC
          have hBC := and_lt B C hC
          have o4 := i64_or (A &&& B) (A &&& C) (by omega) (by omega)
          have hO := or_lt _ _ hAB hAC
          have o5 := i64_or ((A &&& B) ||| (A &&& C)) (B &&& C) (by omega) (by omega)
          rw [maj_or] at o5
          have hQ2 := xor_lt _ _ (xor_lt _ _ hAB hAC) hBC
          have T1 := Lib.hid (fun W => t6 E W hE)
          have T2 := Lib.hid (fun W => t11 E W hE)
          have T3 := Lib.hid (fun W => t25 E W hE)
          have T4 := Lib.hid (fun W => t2 A W hA)
          have T5 := Lib.hid (fun W => t13 A W hA)
          have T6 := Lib.hid (fun W => t22 A W hA)
          rw [show rnd x y ⟨A, B, C, D, E, F, G, H⟩ = ⟨((H + three E 6 11 25 + ((E &&& F) ^^^ ((4294967295 - E) &&& G)) + x + y) % 4294967296 + (three A 2 13 22 + ((A &&& B) ^^^ (A &&& C) ^^^ (B &&& C))) % 4294967296) % 4294967296, A, B, C, (D + (H + three E 6 11 25 + ((E &&& F) ^^^ ((4294967295 - E) &&& G)) + x + y) % 4294967296) % 4294967296, E, F, G⟩ from rfl] at HXN
          generalize (E &&& F) ^^^ ((4294967295 - E) &&& G) = Q at *
          generalize (A &&& B) ^^^ (A &&& C) ^^^ (B &&& C) = Q2 at *
          generalize three E 6 11 25 = P at *
          generalize three A 2 13 22 = P2 at *
          obtain ⟨m1, v1⟩ : ∃ m, m = H + P := ⟨_, rfl⟩
          obtain ⟨m2, v2⟩ : ∃ m, m = m1 + Q := ⟨_, rfl⟩
          obtain ⟨m3, v3⟩ : ∃ m, m = m2 + x := ⟨_, rfl⟩
          obtain ⟨m4, v4⟩ : ∃ m, m = m3 + y := ⟨_, rfl⟩
          have k1 : IntKind.i64.wrap ((H : Int) + (P : Int)) = (m1 : Int) := by rw [IntWalk.i64_in _ (by omega)]; omega
          have k2 : IntKind.i64.wrap ((m1 : Int) + (Q : Int)) = (m2 : Int) := by rw [IntWalk.i64_in _ (by omega)]; omega
          have k3 : IntKind.i64.wrap ((m2 : Int) + (x : Int)) = (m3 : Int) := by rw [IntWalk.i64_in _ (by omega)]; omega
          have k4 : IntKind.i64.wrap ((m3 : Int) + (y : Int)) = (m4 : Int) := by rw [IntWalk.i64_in _ (by omega)]; omega
          have HV : Hid (H + P + Q + x + y = m4) := by show _ = _; omega
          have hm4 : m4 < 30000000000 := by omega
          have gj : (j : Int) < 64 := by omega
          have zj : (0 : Int) ≤ (j : Int) := by omega
          clear v1 v2 v3 v4 rE6 rE11 rE25 rA2 rA13 rA22 hP hQ hEF hEG hAB hAC hBC hO
          go_upto_region 15 with (fail)
          go_quiet (fail)
          clear l0 l1 l2 l3 l4 l5 l6 l7
          generalize hN : World.drewN wr nq = wq
          have cq1 : wq.cell? ⟨w.heap.size + 1, j, none⟩ = some (.int .i64 x) := by rw [← hN]; exact ck
          have cq2 : wq.cell? ⟨w.heap.size + 1 + 1 + 1, j, none⟩ = some (.int .i64 y) := by rw [← hN]; exact cw
          have HBX' : Hid (wq.heap[g]? = some (.cells (iSt ⟨A, B, C, D, E, F, G, H⟩) 104 (0, 0))) := by show _ = _; rw [← hN]; exact HBX.out
          have HBE' : Hid (Below g W2 wq) := by rw [← hN]; exact HBE.out.trans (below_drewN _ _)
          clear hN ck cw HBX HBE
          go_upto_region 16 with (fail)
          go_quiet ((go_at_call 96; (first | (with_reducible exact Calls.quiet_of (T1.out _)) | (with_reducible exact Calls.quiet_of (T2.out _)) | (with_reducible exact Calls.quiet_of (T3.out _)))))
          clear cq1 cq2 q1 q2 n1 n2 n3 eN k1 k2 k3 k4
          have ha : ((m4 : Int) + ((P2 : Int) + (Q2 : Int))) % 4294967296 = (((m4 % 4294967296 + (P2 + Q2) % 4294967296) % 4294967296 : Nat) : Int) := by omega
          have hd : ((D : Int) + (m4 : Int)) % 4294967296 = (((D + m4 % 4294967296) % 4294967296 : Nat) : Int) := by omega
          have HA := Lib.hid ha
          have HD := Lib.hid hd
          have HI := Lib.hid info34
          clear ha hd
          go_wp2_with (first
            | (go_at_call 96; (with_reducible refine (T4.out _).mono ?_); rintro e w1 ⟨rfl, k4', rfl⟩)
            | (go_at_call 96; (with_reducible refine (T5.out _).mono ?_); rintro e w1 ⟨rfl, k5', rfl⟩)
            | (go_at_call 96; (with_reducible refine (T6.out _).mono ?_); rintro e w1 ⟨rfl, k6', rfl⟩)
            | (refine wpList_store_row rfl 104 _ _ rfl g _ rfl rfl 104 _ HBX'.out (by exact HI.out) rfl (all8i _ _ _ _ _ _ _ _) ?_))
          go_roundw
          case rel =>
            refine ⟨j + 1, by omega, by go_num, ?_, below_setRow (HBE'.out.trans (below_drewN _ _)) (Nat.le_refl _) _⟩
            rw [HA.out, HD.out, HXN.out, HV.out]
            exact setRow_same (w := wq.drewN _) HBX'.out
          case measure => simp [intOf]; omega
        · have hk : j = 64 := by omega
          subst hk
          have hok := rnds_ok kList L s hs 64
          have HT' := HT.out
          generalize rnds kList L s 64 = r at *
          have C0 : Hid (wr.heap[w.heap.size]? = some (.cells ss 104 (0, 0))) := (HBE.out.block _ (by have := LG.out; omega)).trans K0.out
          have C2 : Hid (wr.heap[w.heap.size + 1 + 1]? = some (.cells (iRow (List.replicate 8 0)) 104 (0, 0))) := (HBE.out.block _ (by have := LG.out; omega)).trans K2.out
          have CX : Hid (wr.heap[g]? = some (.cells (iRow (mix s r 0)) 104 (0, 0))) := by show _ = _; rw [mix_zero]; exact HBX.out
          have CB : Hid (Below w.heap.size w wr) := KB.out.trans (HBE.out.mono (by have := LG.out; omega))
          have hrlt := stL_lt r hok
          have hslt := stL_lt s hs
          have HT2 := Lib.hid HT'
          clear HT' HT hok K0 K1 K2 K3 KX KB HBX HBE hj hlt
          rw [show ((64 : Nat) : Int) = 64 from rfl]
          go_upto_region 19 with (fail)
          generalize hwx : wr = wx at *
          clear hwx
          go_wp2
          go_loopw [25] (fun i wr => ∃ j : Nat, j ≤ 8 ∧ i = .int .i64 j ∧ wr.heap[g]? = some (.cells (iRow (mix s r j)) 104 (0, 0)) ∧ Below g wx wr) (fun i _ => 8 - (intOf i).toNat)
          case atStart => exact ⟨0, Nat.zero_le _, rfl, CX.out, Below.refl _ _⟩
          case round =>
            obtain ⟨j, hj, rfl, hbx, hbel⟩ := hrel
            have HBX := Lib.hid hbx
            have HBE := Lib.hid hbel
            clear hbx hbel
            by_cases hlt : j < 8
            · have cx := blk_cell HBX.out (iRow_at _ j (by rw [mix_len]; exact hlt))
              rw [mix_at s r j hlt] at cx
              have cs := blk_cell ((HBE.out.block _ (by have := LG.out; omega)).trans C0.out) (show ss[j]? = some (.int .i64 ((stL s).getD j 0 : Nat)) by rw [HS.out]; exact iSt_at s j hlt)
              have hfz := blk_free (i := j) HBX.out
              have b1 := hrlt j
              have b2 := hslt j
              have HN := Lib.hid (mix_next s r j hlt)
              generalize (stL r).getD j 0 = x at *
              generalize (stL s).getD j 0 = y at *
              obtain ⟨m, hm⟩ : ∃ m, m = x + y := ⟨_, rfl⟩
              have k1 : IntKind.i64.wrap ((x : Int) + (y : Int)) = (m : Int) := by rw [IntWalk.i64_in _ (by omega)]; omega
              have k4 : (m : Int).tmod 4294967296 = ((m % 4294967296 : Nat) : Int) := by rw [Int.tmod_eq_emod_of_nonneg (by omega)]; omega
              have HM := Lib.hid hm
              have gj : (j : Int) < 8 := by omega
              have zj : (0 : Int) ≤ (j : Int) := by omega
              clear hm hrlt hslt
              go_upto_region 22 with (fail)
              refine wp_region_still_tail 10 (by kernel_rfl) (by kernel_rfl) ?_
              simp only [List.take_succ_cons, List.take_zero, List.drop_succ_cons, List.drop_zero]
              change wpStill _ _ wr.drew _ _ _
              repeat still_step
              refine wpStill_nil ?_
              change wpList _ _ _ _ _ wr.drew
              go_wp2
              go_roundw
              case rel =>
                have hn := HN.out
                rw [← HM.out] at hn
                refine ⟨j + 1, by omega, by go_num, ?_, ?_⟩
                · have hv : (m : Int) % 4294967296 = ((m % 4294967296 : Nat) : Int) := by omega
                  rw [hv, show ∀ X : World, X.drew.heap = X.heap from fun _ => rfl, blk_set HBX.out, iRow_set, hn]
                · exact (HBE.out.setCell (Nat.le_refl _) _).drew
              case measure => simp [intOf]; omega
            · have hk : j = 8 := by omega
              subst hk
              have D2 : Hid (wr.heap[w.heap.size + 1 + 1]? = some (.cells (iRow (List.replicate 8 0)) 104 (0, 0))) := (HBE.out.block _ (by have := LG.out; omega)).trans C2.out
              have DX := HBX.out
              rw [mix_all, ← HT2.out] at DX
              have HDX := Lib.hid DX
              have DB := Lib.hid (CB.out.trans (HBE.out.mono (by have := LG.out; omega)))
              have HO := Lib.hid (iSt_one (turnSt s b))
              have HZ : Hid ((iRow (List.replicate 8 0)).size = (iSt (turnSt s b)).size) := (iRow_size _).trans (iSt_size _).symm
              have HI : Hid ((Tryz.prog.info? 104).map (·.size) = some (iSt (turnSt s b)).size) := info34.trans (congrArg some (iSt_size _).symm)
              clear DX HBX HBE C0 C2 CX CB hrlt hslt
              go_wp2_with (first
                | (refine wpList_load_row rfl 104 _ rfl g rfl 104 _ (0, 0) _ HDX.out Tryz.underlying104 rfl HI.out ?_)
                | (refine wpList_store_row rfl 104 _ _ rfl (w.heap.size + 1 + 1) _ rfl rfl 104 _ D2.out HI.out HZ.out HO.out ?_))
              refine bodyPost_ret (v := .agg (iSt (turnSt s b)))
                (results_cell_row Tryz.results76 _ _ (w.heap.size + 1 + 1) 104 _ (0, 0) _ rfl (setRow_same D2.out) Tryz.underlying104 rfl HI.out) rfl ⟨rfl, below_setRow DB.out (by omega) _⟩
end Go.Proofs.YtkidehngleglnaaGreatDoor.RStp
/- What the document's answer for layer 2 says of a step, of what stands behind a text, and of a text's sum: the walks of keepsakeref02.Step, Pad and Sum. -/
namespace Go.Proofs.YtkidehngleglnaaGreatDoor.RSum
open Go.RowKit
open SSpr SByt STurn RRot RTxt RStp
/-- How long the text in a slot is. -/
def strLen : Value → Nat | .string s => s.size | _ => 0
theorem Pad (n : Nat) (w : World) (h : n ≤ 576460752303423488) :
    Calls Tryz.prog 73 #[.int .i64 n] w fun e w' => e = .returned (.string ⟨(pad n).toArray⟩) ∧ Below w.heap.size w w' := by
  obtain ⟨k, hk, hk2⟩ : ∃ k : Nat, k = (64 - (n + 9) % 64) % 64 ∧ k < 64 := ⟨_, rfl, by omega⟩
  have hpad : pad n = (128 :: List.replicate k 0) ++ be 8 (8 * n) := by rw [pad, hk]; rfl
  have HQ := Lib.hid hpad
  have HK := Lib.hid hk
  have hP : ∀ W, Calls Tryz.prog 23 #[.int .i64 (8 * (n : Int)), .int .i64 8] W fun e w' => e = .returned (.tuple #[.string ⟨(be 8 (8 * n)).toArray⟩, .int .i64 0]) ∧ Below W.heap.size W w' := by
    intro W
    have := RPut.any (8 * (n : Int)) 8 W (by omega)
    rw [put_good _ _ (by omega) (by omega) (by omega) (by simp only [Int.reduceToNat, Int.reducePow]; omega)] at this
    have e : (8 * (n : Int)).toNat = 8 * n := by omega
    rw [e] at this
    exact this
  have hbl : (be 8 (8 * n)).length ≤ 8 := by rw [be_length]; omega
  have HP := Lib.hid hP
  have hcv : ∀ W : World, (convert 65 9 (.slice (some ⟨W.heap.size, 0, none⟩) 1 1)).run Tryz.prog (W.alloc (.cells #[.int .u8 128] 5)) = .ok (.string ⟨#[128]⟩) (W.alloc (.cells #[.int .u8 128] 5)) := by
    intro W
    exact conv_row (l := [128]) (m := []) Tryz.underlying65 Tryz.underlying5 Tryz.underlying9 (by rw [heap_alloc_new]; rfl) rfl
  clear hP hpad hk
  generalize be 8 (8 * n) = y at *
  go_enter Tryz.func73, Tryz.ntmps73
  go_wp2
  clear hcv
  go_loopw [3] (fun t wr => ∃ j : Nat, j ≤ k ∧ t = .string ⟨(128 :: List.replicate j 0).toArray⟩ ∧ Below w.heap.size w wr) (fun t _ => 70 - strLen t)
  case atStart => exact ⟨0, Nat.zero_le _, rfl, (Below.refl _ _).alloc (Nat.le_refl _) _⟩
  case round =>
    obtain ⟨j, hj, rfl, hbel⟩ := hrel
    have HB := Lib.hid hbel
    clear hbel
    obtain ⟨z, hz⟩ : ∃ z : List UInt8, z = 128 :: List.replicate j 0 := ⟨_, rfl⟩
    have hzl : z.length = j + 1 := by rw [hz]; simp
    rw [← hz]
    by_cases hlt : j < k
    · have hc : (((n : Int) + (z.length : Int)) % 64 != 56) = true := by rw [bne_iff_ne]; have := HK.out; omega
      have HZ : Hid ((⟨z.toArray⟩ ++ ⟨#[0]⟩ : ByteArray) = ⟨(128 :: List.replicate (j + 1) 0).toArray⟩) := by
        show _ = _
        rw [hz, show (⟨#[0]⟩ : ByteArray) = ⟨([0] : List UInt8).toArray⟩ from rfl, ByteArray.mk_append_mk, List.replicate_succ']
        simp
      have hz64 : z.length ≤ 64 := by omega
      have HZL := Lib.hid hzl
      clear hz hzl
      go_wp2_with (go_at_call 14; refine (RNou.noughts 1 _ (by omega)).mono ?_; rintro e w1 ⟨rfl, hb1⟩; have HB1 := Lib.hid (HB.out.trans (hb1.mono HB.out.size)); clear hb1)
      go_roundw
      case rel => exact ⟨j + 1, by omega, by rw [← HZ.out], HB1.out⟩
      case measure =>
        have := HZL.out
        have e : (⟨z.toArray⟩ ++ ⟨(List.replicate 1 0).toArray⟩ : ByteArray).size = z.length + 1 := by rw [ByteArray.size_append]; rfl
        show 70 - (⟨z.toArray⟩ ++ ⟨(List.replicate 1 0).toArray⟩ : ByteArray).size < 70 - z.length
        omega
    · have hjk : j = k := by omega
      subst hjk
      have hc : (((n : Int) + (z.length : Int)) % 64 != 56) = false := by rw [bne_eq_false_iff_eq]; have := HK.out; omega
      have HZ : Hid ((⟨z.toArray⟩ ++ ⟨y.toArray⟩ : ByteArray) = ⟨(pad n).toArray⟩) := by
        show _ = _
        rw [HQ.out, hz, ByteArray.mk_append_mk]
      have hz64 : z.length ≤ 64 := by omega
      clear hz hzl
      go_wp2_with (go_at_call 23; refine (HP.out _).mono ?_; rintro e w1 ⟨rfl, hb1⟩; have HB1 := Lib.hid (HB.out.trans (hb1.mono HB.out.size)); clear hb1)
      rw [HZ.out]
      go_ret
      exact ⟨rfl, HB1.out⟩
theorem still_load {P : Program} {ops : Array Oper} {o : Oper} {a : Act} {w : World} {K : Act → Prop} (hgd : o.guard = none) (ty : TypeId) (x : Operand) (ho : o.op = .load ty x)
    (b off : Nat) (hx : a.eval x = .pointer (some ⟨b, off, none⟩)) (cs : List Value) (d : TypeDesc) (hc : w.rangeAt b off cs)
    (hu : P.underlying ty = some d) (hd : d.isRow = true) (hi : (P.info? ty).map (·.size) = some cs.length) (h : K (a.put o.dst (.agg cs.toArray))) :
    if Region.wanted o (yielded ops a.tmps) then o.still P a w K else K (a.put o.dst undef) := by
  have hw : Region.wanted o (yielded ops a.tmps) = true := by simp [Region.wanted, hgd]
  rw [if_pos hw]
  unfold Oper.still execOp
  simp only [ho, hx, Instr.loadAt, Instr.sureAddr, Sem.run_bind, Sem.run_pure, Result.andThen_ok, run_loadVar_mid w b off ty cs d hc hu hd hi]
  exact ⟨rfl, h⟩
set_option maxRecDepth 100000 in
set_option maxHeartbeats 1000000 in
theorem Sum (l : List UInt8) (w : World) (h : l.length ≤ 281474976710656) :
    Calls Tryz.prog 59 #[.string ⟨l.toArray⟩] w fun e w' => e = .returned (.string ⟨(sum l).toArray⟩) ∧ Below w.heap.size w w' := by
  have HPad := Lib.hid (fun W => Pad l.length W (by omega))
  have hm := pad_mod l.length
  have hpl := pad_length l.length
  have HS : Hid (sum l = (blocks st0 ((l ++ pad l.length).length / 64) (l ++ pad l.length)).bytes) := by rw [sum, List.length_append]; rfl
  have hp2 : (pad l.length).length ≤ 80 := by omega
  generalize pad l.length = p at *
  have hap : (⟨l.toArray⟩ ++ ⟨p.toArray⟩ : ByteArray) = ⟨(l ++ p).toArray⟩ := by rw [ByteArray.mk_append_mk]
  have hal : (l ++ p).length ≤ 281474976710800 := by rw [List.length_append]; omega
  have ham : (l ++ p).length % 64 = 0 := by rw [List.length_append]; exact hm
  obtain ⟨k, hk⟩ : ∃ k, (l ++ p).length = 64 * k := ⟨(l ++ p).length / 64, by omega⟩
  have HD : Hid ((l ++ p).length / 64 = k) := by rw [hk]; show 64 * k / 64 = k; omega
  generalize hA : l ++ p = A at *
  clear hA hm hpl ham
  have HK := Lib.hid hk
  have HAp := Lib.hid hap
  clear hk hap
  have HIk := Lib.hid (show (Tryz.prog.info? 106).map (·.size) = some (iRow kList).size by rw [iRow_size]; exact info55)
  have HOk := Lib.hid (iRow_one kList)
  have HZk := Lib.hid (show (iRow kList).size = 64 from rfl)
  go_enter Tryz.func59, Tryz.ntmps59
  go_upto_region 2 with (go_at_call 73; refine (HPad.out _).mono ?_; rintro e w1 ⟨rfl, hb1⟩; have HB1 := Lib.hid hb1; clear hb1)
  rw [HAp.out]
  go_upto_region 3 with (first
    | (go_at_call 74; refine (Begin _).mono ?_; rintro e w2 ⟨rfl, hb2⟩; have HB2 := Lib.hid (HB1.out.trans (hb2.mono HB1.out.size)); clear hb2)
    | (go_at_call 75; refine (Rounds _).mono ?_; rintro e w3 ⟨rfl, hb3⟩; have HB3 := Lib.hid (HB2.out.trans (hb3.mono HB2.out.size)); clear hb3)
    | (refine wpList_store_row rfl 104 _ _ rfl w3.heap.size _ rfl rfl 104 _ (heap_alloc2_old w3 _ _) (by exact info34) rfl (iSt_one _) ?_)
    | (refine wpList_store_row rfl 106 _ _ rfl (w3.heap.size + 1) _ rfl rfl 106 _ ((setRow_far (by omega)).trans (heap_alloc2_new w3 _ _)) HIk.out (by rw [HZk.out]; rfl) HOk.out ?_))
  generalize hW : World.setRow _ _ (iRow kList) = W
  have KX : Hid (W.heap[w3.heap.size]? = some (.cells (iSt (blocks st0 0 A)) 104 (0, 0))) := by
    show _ = _
    rw [← hW, setRow_far (by omega)]
    exact setRow_same (heap_alloc2_old w3 _ _)
  have KK : Hid (W.heap[w3.heap.size + 1]? = some (.cells (iRow kList) 106 (0, 0))) := by
    show _ = _
    rw [← hW]
    exact setRow_same ((setRow_far (by omega)).trans (heap_alloc2_new w3 _ _))
  have KB : Hid (Below w.heap.size w W) := by
    rw [← hW]
    have hs := HB3.out.size
    exact below_setRow (below_setRow ((HB3.out.alloc hs _).alloc (by simp; omega) _) hs _) (by omega) _
  have hgw := HB3.out.size
  clear hW HB1 HB2 HB3
  generalize w3.heap.size = g at *
  go_wp2
  go_loopw [6] (fun i wr => ∃ j : Nat, j ≤ k ∧ i = .int .i64 (64 * j : Nat) ∧ wr.heap[g]? = some (.cells (iSt (blocks st0 j A)) 104 (0, 0)) ∧ wr.heap[g + 1]? = some (.cells (iRow kList) 106 (0, 0)) ∧ Below w.heap.size w wr) (fun i _ => A.length - (intOf i).toNat)
  case atStart => exact ⟨0, Nat.zero_le _, rfl, KX.out, KK.out, KB.out⟩
  case round =>
    obtain ⟨j, hj, rfl, hbx, hbk, hbel⟩ := hrel
    have HBX := Lib.hid hbx
    have HBK := Lib.hid hbk
    have HBE := Lib.hid hbel
    clear hbx hbk hbel
    by_cases hlt : j < k
    · have hlt2 : ((64 * j : Nat) : Int) < (A.length : Int) := by have := HK.out; omega
      have hok := blocks_ok st0 st0_ok j A
      have hbl : ((A.drop (64 * j)).take 64).length = 64 := by have := HK.out; simp; omega
      have HSt := Lib.hid (fun W => RStp.step (blocks st0 j A) hok ((A.drop (64 * j)).take 64) hbl W)
      have HBN := Lib.hid (blocks_last st0 j A)
      obtain ⟨u, hu⟩ : ∃ u, u = 64 * j + 64 := ⟨_, rfl⟩
      have hkw : IntKind.i64.wrap (((64 * j : Nat) : Int) + 64) = (u : Int) := by rw [IntWalk.i64_in _ (by omega)]; omega
      have hsl : ∀ W : World, (Instr.slice 9 (.string ⟨A.toArray⟩) (some (.int .i64 ((64 * j : Nat) : Int))) (some (.int .i64 (u : Int))) none).run Tryz.prog W = .ok (.string ⟨((A.drop (64 * j)).take 64).toArray⟩) W := by
        intro W
        have := run_slice_string (P := Tryz.prog) (w := W) 9 ⟨A.toArray⟩ .i64 .i64 ((64 * j : Nat) : Int) (u : Int) Tryz.underlying9 (by omega) (by omega) (show _ ≤ ((A.length : Nat) : Int) by have := HK.out; omega)
        rw [this]
        rw [Int.toNat_natCast, Int.toNat_natCast, ByteArray.extract_mk, show u - 64 * j = 64 from by omega]
      have hr1 : wr.drew.rangeAt g 0 (iSt (blocks st0 j A)).toList := fun q v hv => by
        have := blk_cell HBX.out (show (iSt (blocks st0 j A))[q]? = some v by simpa using hv)
        rw [Nat.zero_add]; exact this
      have hr2 : wr.drew.rangeAt (g + 1) 0 (iRow kList).toList := fun q v hv => by
        have := blk_cell HBK.out (show (iRow kList)[q]? = some v by simpa using hv)
        rw [Nat.zero_add]; exact this
      have HR1 := Lib.hid hr1
      have HR2 := Lib.hid hr2
      have HU := Lib.hid hu
      have hglt := (Array.getElem?_eq_some_iff.1 HBK.out).1
      have HGL := Lib.hid hglt
      clear hr1 hr2 hok hbl hu hglt
      generalize hv : 64 * j = v at *
      have HV := Lib.hid hv
      clear hv
      generalize (A.drop v).take 64 = blk at *
      generalize blocks st0 j A = B at *
      go_upto_region 6 with (fail)
      refine wp_region_still_tail 7 (by kernel_rfl) (by kernel_rfl) ?_
      simp only [List.take_succ_cons, List.take_zero, List.drop_succ_cons, List.drop_zero]
      change wpStill _ _ wr.drew _ _ _
      refine wpStill_step (fun K hK => ?_)
      refine still_load rfl 104 _ rfl g 0 rfl (iSt B).toList _ HR1.out Tryz.underlying104 rfl (by exact info34) ?_
      refine hK _ ?_
      clear hK K
      still_step
      still_step
      still_step
      still_step
      still_step
      refine wpStill_step (fun K hK => ?_)
      refine still_load rfl 106 _ rfl (g + 1) 0 rfl (iRow kList).toList _ HR2.out Tryz.underlying106 rfl (by rw [Array.length_toList]; exact HIk.out) ?_
      refine hK _ ?_
      clear hK K
      refine wpStill_nil ?_
      change wpList _ _ _ _ _ wr.drew
      rw [Array.toArray_toList, Array.toArray_toList]
      clear hsl hkw
      have HS4 : Hid ((iSt B).size = (iSt (turnSt B blk)).size) := (iSt_size _).trans (iSt_size _).symm
      have HI4 : Hid ((Tryz.prog.info? 104).map (·.size) = some (iSt (turnSt B blk)).size) := info34.trans (congrArg some (iSt_size _).symm)
      have HO4 := Lib.hid (iSt_one (turnSt B blk))
      obtain ⟨B2, hB2⟩ : ∃ B2, B2 = blocks st0 (j + 1) A := ⟨_, rfl⟩
      rw [← HBN.out, ← hB2] at HS4 HI4 HO4 HSt
      have HE := Lib.hid hB2
      clear HBN hB2
      go_wp2_with (first
        | (go_at_call 76; refine (HSt.out _).mono ?_; rintro e w4 ⟨rfl, hb4⟩; have HX4 := Lib.hid ((hb4.block g (by have := HGL.out; show g < wr.heap.size; omega)).trans HBX.out); have HK4 := Lib.hid ((hb4.block (g + 1) (by have := HGL.out; show g + 1 < wr.heap.size; omega)).trans HBK.out); have HB4 := Lib.hid ((show Below w.heap.size w wr.drew from HBE.out.drew).trans (hb4.mono HBE.out.size)); clear hb4)
        | (refine wpList_store_row rfl 104 _ _ rfl g _ rfl rfl 104 _ HX4.out HI4.out HS4.out HO4.out ?_))
      go_roundw
      case rel => exact ⟨j + 1, by omega, by have := HV.out; exact vint (by omega), by rw [← HE.out]; exact setRow_same HX4.out, (setRow_far (by omega)).trans HK4.out, below_setRow HB4.out hgw _⟩
      case measure => have := HV.out; simp [intOf]; omega
    · have hjk : j = k := by omega
      subst hjk
      have hge : ¬ ((64 * j : Nat) : Int) < (A.length : Int) := by have := HK.out; omega
      have hs := HS.out
      rw [HD.out] at hs
      have HE := Lib.hid hs
      have HTx := Lib.hid (fun W => Text (blocks st0 j A) (blocks_ok st0 st0_ok j A) W)
      have HI4 : Hid ((Tryz.prog.info? 104).map (·.size) = some (iSt (blocks st0 j A)).size) := info34.trans (congrArg some (iSt_size _).symm)
      clear hs hlt
      generalize 64 * j = v at *
      generalize blocks st0 j A = B at *
      go_wp2_with (first
        | (refine wpList_load_row rfl 104 _ rfl g rfl 104 _ (0, 0) _ HBX.out Tryz.underlying104 rfl HI4.out ?_)
        | (go_at_call 77; refine (HTx.out _).mono ?_; rintro e w4 ⟨rfl, hb4⟩))
      go_ret
      exact ⟨by rw [HE.out]; rfl, HBE.out.trans (hb4.mono HBE.out.size)⟩
end Go.Proofs.YtkidehngleglnaaGreatDoor.RSum
/- What keepsakeref03's functions answer: the walks of their texts. -/
namespace Go.Proofs.YtkidehngleglnaaGreatDoor.RMac
open Go.RowKit
theorem noughts (h : List UInt8) (hh : h.length ≤ 64) (n : Int) (hn : n = 64 - (h.length : Int)) (w : World) :
    Calls Tryz.prog 14 #[.int .i64 n] w fun e w' => e = .returned (.string ⟨(List.replicate (64 - h.length) 0).toArray⟩) ∧ Below w.heap.size w w' := by
  subst hn
  rw [show (64 - (h.length : Int)) = ((64 - h.length : Nat) : Int) from by omega]
  exact RNou.noughts (64 - h.length) w (by omega)
theorem Key (k : List UInt8) (w : World) (hl : k.length ≤ 1000) :
    Calls Tryz.prog 97 #[.string ⟨k.toArray⟩] w fun e w' => e = .returned (.string ⟨(keyBlock k).toArray⟩) ∧ Below w.heap.size w w' := by
  have HE : Hid ((⟨(keyHead k).toArray⟩ ++ ⟨(List.replicate (64 - (keyHead k).length) 0).toArray⟩ : ByteArray) = ⟨(keyBlock k).toArray⟩) := by
    show _ = _
    rw [ByteArray.mk_append_mk]; rfl
  have HN := Lib.hid (fun n hn W => noughts (keyHead k) (keyHead_le k) n hn W)
  have hzl : (List.replicate (64 - (keyHead k).length) (0 : UInt8)).length ≤ 64 := by rw [List.length_replicate]; omega
  generalize List.replicate (64 - (keyHead k).length) (0 : UInt8) = z at *
  by_cases h : (64 : Int) < (k.length : Int)
  · have e : keyHead k = sum k := if_pos (by omega)
    have H1 := Lib.hid (fun W => RSum.Sum k W (by omega))
    rw [e] at HE HN
    have hs := sum_length k
    generalize sum k = s at *
    generalize keyBlock k = b at *
    clear e
    go_enter Tryz.func97, Tryz.ntmps97
    go_wp2_with (go_at_call 59; refine (H1.out _).mono ?_; rintro e w1 ⟨rfl, hb1⟩; have HB1 := Lib.hid hb1; clear hb1)
    refine (HN.out _ (by omega) _).mono ?_
    rintro e w2 ⟨rfl, hb2⟩
    have HB2 := Lib.hid (HB1.out.trans (hb2.mono HB1.out.size))
    clear hb2
    go_wp2
    rw [HE.out]
    go_ret
    exact ⟨rfl, HB2.out⟩
  · have e : keyHead k = k := if_neg (by omega)
    rw [e] at HE HN
    generalize keyBlock k = b at *
    clear e
    go_enter Tryz.func97, Tryz.ntmps97
    go_wp2_with fail
    refine (HN.out _ rfl _).mono ?_
    rintro e w2 ⟨rfl, hb2⟩
    have HB2 := Lib.hid hb2
    clear hb2
    go_wp2
    rw [HE.out]
    go_ret
    exact ⟨rfl, HB2.out⟩
theorem i64_xor8 (a n : UInt8) : bits .xor .i64 (a.toNat : Int) (n.toNat : Int) = ((a ^^^ n).toNat : Int) := by
  have ha := a.toNat_lt
  have hn := n.toNat_lt
  rw [RRot.i64_xor _ _ (by omega) (by omega), UInt8.toNat_xor]
theorem one_cell (x : UInt8) : #[Value.int .u8 (x.toNat : Int)] = bytesRow ([x] ++ []) := by simp [bytesRow]
theorem take_next (b : List UInt8) (n : UInt8) (j : Nat) (h : j < b.length) : (heldBy b n).take (j + 1) = (heldBy b n).take j ++ [b.getD j 0 ^^^ n] := by
  rw [List.take_succ_eq_append_getElem (by rw [heldBy_length]; exact h)]
  simp [heldBy, List.getD, h]
set_option maxRecDepth 100000 in
theorem held (k : List UInt8) (n : UInt8) (w : World) (hl : k.length ≤ 1000) :
    Calls Tryz.prog 78 #[.string ⟨k.toArray⟩, .int .i64 n.toNat] w fun e w' => e = .returned (.string ⟨(heldBy (keyBlock k) n).toArray⟩) ∧ Below w.heap.size w w' := by
  have H := Lib.hid (fun W => Key k W hl)
  have hb := keyBlock_length k
  generalize keyBlock k = b at *
  go_enter Tryz.func78, Tryz.ntmps78
  go_wp2_with (go_at_call 97; refine (H.out _).mono ?_; rintro e w1 ⟨rfl, hb1⟩; have HB1 := Lib.hid hb1; clear hb1)
  go_loopw [6, 7] (fun s i wr => ∃ j : Nat, j ≤ 64 ∧ i = .int .i64 j ∧ s = .string ⟨((heldBy b n).take j).toArray⟩ ∧ Below w.heap.size w wr) (fun _ i _ => 64 - (intOf i).toNat)
  case atStart => exact ⟨0, Nat.zero_le _, rfl, rfl, HB1.out⟩
  case round =>
    obtain ⟨j, hj, rfl, rfl, hbel⟩ := hrel
    by_cases hlt : j < 64
    · have hh : j < (⟨b.toArray⟩ : ByteArray).size := by show j < b.length; omega
      have hv : bits .xor .i64 (wrap64 (((⟨b.toArray⟩ : ByteArray)[j]'hh).toNat : Int)) (n.toNat : Int) % 256 = ((b.getD j 0 ^^^ n).toNat : Int) := by
        rw [show (⟨b.toArray⟩ : ByteArray)[j]'hh = b.getD j 0 from by
          have hj2 : j < b.length := by omega
          simp only [List.getD, List.getElem?_eq_getElem hj2, Option.getD_some]
          rfl]
        have h1 := (b.getD j 0).toNat_lt
        have h2 := (b.getD j 0 ^^^ n).toNat_lt
        rw [IntWalk.wrap64_in _ (by omega), i64_xor8]
        omega
      have hcv : (convert 65 9 (.slice (some ⟨wr.heap.size, 0, none⟩) 1 1)).run Tryz.prog (wr.alloc (.cells #[.int .u8 (bits .xor .i64 (wrap64 (((⟨b.toArray⟩ : ByteArray)[j]'hh).toNat : Int)) (n.toNat : Int) % 256)] 5)) =
          .ok (.string ⟨[b.getD j 0 ^^^ n].toArray⟩) (wr.alloc (.cells #[.int .u8 (bits .xor .i64 (wrap64 (((⟨b.toArray⟩ : ByteArray)[j]'hh).toNat : Int)) (n.toNat : Int) % 256)] 5)) :=
        conv_row Tryz.underlying65 Tryz.underlying5 Tryz.underlying9 (by rw [heap_alloc_new, hv, one_cell]) rfl
      have hs : (⟨((heldBy b n).take j).toArray⟩ ++ ⟨[b.getD j 0 ^^^ n].toArray⟩ : ByteArray) = ⟨((heldBy b n).take (j + 1)).toArray⟩ := by
        rw [ByteArray.mk_append_mk, take_next b n j (by omega)]
      have Hs := Lib.hid hs
      have Hl : ((heldBy b n).take j).length ≤ 64 := by rw [List.length_take]; omega
      clear hs hv
      generalize b.getD j 0 ^^^ n = x at *
      generalize (heldBy b n).take j = y at *
      go_wp2
      go_roundw
      case rel => exact ⟨j + 1, by omega, by go_num, by rw [Hs.out], hbel.alloc hbel.size _⟩
      case measure => simp [intOf]; omega
    · have hk : j = 64 := by omega
      subst hk
      rw [List.take_of_length_le (by rw [heldBy_length]; omega)]
      go_wp2
      go_ret
      exact ⟨rfl, hbel⟩
end Go.Proofs.YtkidehngleglnaaGreatDoor.RMac
/- What keepsakeref03's 'Inner', 'Outer' and 'Mac' answer: the walks of their texts. -/
namespace Go.Proofs.YtkidehngleglnaaGreatDoor.RMacs
open Go.RowKit
theorem Inner (k m : List UInt8) (w : World) (hk : k.length ≤ 500) (hm : m.length ≤ 500) :
    Calls Tryz.prog 79 #[.string ⟨k.toArray⟩, .string ⟨m.toArray⟩] w fun e w' => e = .returned (.string ⟨(innerOf k m).toArray⟩) ∧ Below w.heap.size w w' := by
  have HX : Hid (∀ W, Calls Tryz.prog 78 #[.string ⟨k.toArray⟩, .int .i64 54] W fun e w' => e = .returned (.string ⟨(heldBy (keyBlock k) 54).toArray⟩) ∧ Below W.heap.size W w') :=
    Lib.hid (fun W => RMac.held k 54 W (by omega))
  have HE : Hid ((⟨(heldBy (keyBlock k) 54).toArray⟩ ++ ⟨m.toArray⟩ : ByteArray) = ⟨(innerOf k m).toArray⟩) := by
    show _ = _
    rw [ByteArray.mk_append_mk]; rfl
  have hxl : (heldBy (keyBlock k) 54).length = 64 := by rw [heldBy_length, keyBlock_length]
  generalize heldBy (keyBlock k) 54 = x at *
  generalize innerOf k m = y at *
  go_enter Tryz.func79, Tryz.ntmps79
  go_wp2_with fail
  refine (HX.out _).mono ?_
  rintro e w1 ⟨rfl, hb1⟩
  have HB1 := Lib.hid hb1
  clear hb1
  go_wp2
  rw [HE.out]
  go_ret
  exact ⟨rfl, HB1.out⟩
theorem Outer (k m : List UInt8) (w : World) (hk : k.length ≤ 500) (hm : m.length ≤ 500) :
    Calls Tryz.prog 60 #[.string ⟨k.toArray⟩, .string ⟨m.toArray⟩] w fun e w' => e = .returned (.string ⟨(outerOf k m).toArray⟩) ∧ Below w.heap.size w w' := by
  have HX : Hid (∀ W, Calls Tryz.prog 78 #[.string ⟨k.toArray⟩, .int .i64 92] W fun e w' => e = .returned (.string ⟨(heldBy (keyBlock k) 92).toArray⟩) ∧ Below W.heap.size W w') :=
    Lib.hid (fun W => RMac.held k 92 W (by omega))
  have HI := Lib.hid (fun W => Inner k m W hk hm)
  have hil := inner_length k m
  have HS := Lib.hid (fun W => RSum.Sum (innerOf k m) W (by omega))
  have HE : Hid ((⟨(heldBy (keyBlock k) 92).toArray⟩ ++ ⟨(sum (innerOf k m)).toArray⟩ : ByteArray) = ⟨(outerOf k m).toArray⟩) := by
    show _ = _
    rw [ByteArray.mk_append_mk]; rfl
  have hxl : (heldBy (keyBlock k) 92).length = 64 := by rw [heldBy_length, keyBlock_length]
  have hsl := sum_length (innerOf k m)
  generalize heldBy (keyBlock k) 92 = x at *
  generalize sum (innerOf k m) = z at *
  generalize innerOf k m = y at *
  generalize outerOf k m = o at *
  go_enter Tryz.func60, Tryz.ntmps60
  go_wp2_with fail
  refine (HX.out _).mono ?_
  rintro e w1 ⟨rfl, hb1⟩
  have HB1 := Lib.hid hb1
  clear hb1
  go_wp2_with fail
  refine (HI.out _).mono ?_
  rintro e w2 ⟨rfl, hb2⟩
  have HB2 := Lib.hid (HB1.out.trans (hb2.mono HB1.out.size))
  clear hb2
  go_wp2_with fail
  refine (HS.out _).mono ?_
  rintro e w3 ⟨rfl, hb3⟩
  have HB3 := Lib.hid (HB2.out.trans (hb3.mono HB2.out.size))
  clear hb3
  go_wp2
  rw [HE.out]
  go_ret
  exact ⟨rfl, HB3.out⟩
theorem Mac (k m : List UInt8) (w : World) (hk : k.length ≤ 500) (hm : m.length ≤ 500) :
    Calls Tryz.prog 40 #[.string ⟨k.toArray⟩, .string ⟨m.toArray⟩] w fun e w' => e = .returned (.string ⟨(macOf k m).toArray⟩) ∧ Below w.heap.size w w' := by
  have HI := Lib.hid (fun W => Outer k m W hk hm)
  have hol := outer_length k m
  have HS : Hid (∀ W, Calls Tryz.prog 59 #[.string ⟨(outerOf k m).toArray⟩] W fun e w' => e = .returned (.string ⟨(macOf k m).toArray⟩) ∧ Below W.heap.size W w') :=
    Lib.hid (fun W => RSum.Sum (outerOf k m) W (by omega))
  generalize macOf k m = z at *
  generalize outerOf k m = o at *
  go_enter Tryz.func40, Tryz.ntmps40
  go_wp2_with fail
  refine (HI.out _).mono ?_
  rintro e w1 ⟨rfl, hb1⟩
  have HB1 := Lib.hid hb1
  clear hb1
  go_wp2_with fail
  refine (HS.out _).mono ?_
  rintro e w2 ⟨rfl, hb2⟩
  have HB2 := Lib.hid (HB1.out.trans (hb2.mono HB1.out.size))
  clear hb2
  go_wp2
  go_ret
  exact ⟨rfl, HB2.out⟩
end Go.Proofs.YtkidehngleglnaaGreatDoor.RMacs
