/- RRot RTxt RStp RSum RMac RMacs: one behind the other. -/
import Derived.Test.YtkidehngleglnaaDoorLStep
import Derived.Deep.DeepCutAuto
import Derived.Test.YtkidehngleglnaaDoorLRef
import Derived.Test.YtkidehngleglnaaDoorLRef
import Derived.Test.YtkidehngleglnaaDoorLRef
import Derived.StillTailTactics
import Derived.Test.YtkidehngleglnaaDoorLHash
import Derived.Test.YtkidehngleglnaaDoorHmac
/- What the document's answer for layer 2 turns a number to: the walk of keepsakeref02.turn; its first state and its rounds' numbers. -/
namespace Go.Proofs.YtkidehngleglnaaDoor.RRot
open Go.RowKit
open SSpr
/-- The cells of a row of ints. -/
def iRow (l : List Nat) : Array Value := (l.map fun x : Nat => Value.int .i64 x).toArray
theorem iRow_size (l : List Nat) : (iRow l).size = l.length := by simp [iRow]
theorem iRow_at (l : List Nat) (i : Nat) (h : i < l.length) : (iRow l)[i]? = some (.int .i64 (l.getD i 0 : Nat)) := by simp [iRow, h, List.getD]
theorem iRow_set (l : List Nat) (i : Nat) (x : Nat) : (iRow l).setIfInBounds i (.int .i64 (x : Int)) = iRow (l.set i x) := by
  simp [iRow, List.map_set]
theorem iRow_one (l : List Nat) : (iRow l).all (·.oneCell') = true := by
  rw [Array.all_eq_true_iff_forall_mem]
  intro v hv
  simp only [iRow, List.mem_toArray, List.mem_map] at hv
  obtain ⟨x, _, rfl⟩ := hv
  rfl
theorem mul_lt (x m : Nat) (hx : x < 4294967296) (hm : m ≤ 31) : x * 2 ^ m < 9223372036854775808 := by
  have h1 : 2 ^ m ≤ 2 ^ 31 := Nat.pow_le_pow_right (by omega) hm
  have h2 : x * 2 ^ m ≤ x * 2 ^ 31 := Nat.mul_le_mul_left _ h1
  have h3 : (2 : Nat) ^ 31 = 2147483648 := rfl
  omega
theorem or_mod (a b : Nat) (ha : a < 4294967296) : (a ||| b) % 4294967296 = a ||| b % 4294967296 := by
  rw [show (4294967296 : Nat) = 2 ^ 32 from rfl, Nat.or_mod_two_pow, Nat.mod_eq_of_lt (a := a) (by simpa using ha)]
theorem i64_or (a b : Nat) (ha : a < 9223372036854775808) (hb : b < 9223372036854775808) : bits .or .i64 (a : Int) (b : Int) = ((a ||| b : Nat) : Int) := by
  have hx : a ||| b < 2 ^ 63 := Nat.or_lt_two_pow (by omega) (by omega)
  show IntKind.i64.wrap ((BitVec.ofInt 64 (a : Int) ||| BitVec.ofInt 64 (b : Int)).toNat : Int) = _
  rw [BitVec.toNat_or, ofInt_u64 a (by omega), ofInt_u64 b (by omega), IntWalk.i64_in _ (by omega)]
theorem i64_xor (a b : Nat) (ha : a < 9223372036854775808) (hb : b < 9223372036854775808) : bits .xor .i64 (a : Int) (b : Int) = ((a ^^^ b : Nat) : Int) := by
  have hx : a ^^^ b < 2 ^ 63 := Nat.xor_lt_two_pow (by omega) (by omega)
  show IntKind.i64.wrap ((BitVec.ofInt 64 (a : Int) ^^^ BitVec.ofInt 64 (b : Int)).toNat : Int) = _
  rw [BitVec.toNat_xor, ofInt_u64 a (by omega), ofInt_u64 b (by omega), IntWalk.i64_in _ (by omega)]
theorem i64_and (a b : Nat) (ha : a < 9223372036854775808) (hb : b < 9223372036854775808) : bits .and .i64 (a : Int) (b : Int) = ((a &&& b : Nat) : Int) := by
  have hx : a &&& b < 2 ^ 63 := Nat.and_lt_two_pow _ (by omega)
  show IntKind.i64.wrap ((BitVec.ofInt 64 (a : Int) &&& BitVec.ofInt 64 (b : Int)).toNat : Int) = _
  rw [BitVec.toNat_and, ofInt_u64 a (by omega), ofInt_u64 b (by omega), IntWalk.i64_in _ (by omega)]
theorem val (x n m : Nat) (hx : x < 4294967296) (h : n + m = 32) (hm : m ≤ 31) : (bits .or .i64 ((x : Int) / 2 ^ n) (wrap64 ((x : Int) * 2 ^ m))).tmod 4294967296 = ((ro x n : Nat) : Int) := by
  have hml := mul_lt x m hx hm
  have hd : x / 2 ^ n < 4294967296 := Nat.lt_of_le_of_lt (Nat.div_le_self _ _) hx
  have e1 : ((x : Int) / 2 ^ n) = ((x / 2 ^ n : Nat) : Int) := by simp
  have e2 : wrap64 ((x : Int) * 2 ^ m) = ((x * 2 ^ m : Nat) : Int) := by
    have e3 : ((x : Int) * 2 ^ m) = ((x * 2 ^ m : Nat) : Int) := by simp
    rw [e3]
    unfold wrap64
    omega
  rw [e1, e2, i64_or _ _ (by omega) hml, Int.tmod_eq_emod_of_nonneg (by omega)]
  have e4 : ((x / 2 ^ n ||| x * 2 ^ m : Nat) : Int) % 4294967296 = (((x / 2 ^ n ||| x * 2 ^ m) % 4294967296 : Nat) : Int) := by omega
  rw [e4, or_mod _ _ hd, ro, show 32 - n = m from by omega]
/-- The cells of a state of ints. -/
def iSt (s : St) : Array Value := #[.int .i64 s.a, .int .i64 s.b, .int .i64 s.c, .int .i64 s.d, .int .i64 s.e, .int .i64 s.f, .int .i64 s.g, .int .i64 s.h]
end Go.Proofs.YtkidehngleglnaaDoor.RRot
/- What the document's answer for layer 2 says of a state's bytes, of the state of bytes, and of what stands behind a text: the walks of keepsakeref02.Text, Of and Pad. -/
namespace Go.Proofs.YtkidehngleglnaaDoor.RTxt
open Go.RowKit
open SSpr SByt RRot
def tb (s : St) (j : Nat) : List UInt8 := ((stL s).take j).flatMap (be 4)
theorem tb_next (s : St) (j : Nat) (h : j < 8) : tb s (j + 1) = tb s j ++ be 4 ((stL s).getD j 0) := by
  have hl : j < (stL s).length := h
  unfold tb
  rw [List.take_succ_eq_append_getElem hl, List.flatMap_append]
  simp [List.getD, hl]
theorem tb_all (s : St) : tb s 8 = s.bytes := by
  simp [tb, stL, St.bytes, List.flatMap]
theorem iSt_at (s : St) (i : Nat) (h : i < 8) : (iSt s)[i]? = some (.int .i64 ((stL s).getD i 0 : Nat)) := by
  match i, h with
  | 0, _ => rfl
  | 1, _ => rfl
  | 2, _ => rfl
  | 3, _ => rfl
  | 4, _ => rfl
  | 5, _ => rfl
  | 6, _ => rfl
  | 7, _ => rfl
end Go.Proofs.YtkidehngleglnaaDoor.RTxt
/- What the document's answer for layer 2 turns a state to by a block: the walk of keepsakeref02.step. -/
namespace Go.Proofs.YtkidehngleglnaaDoor.RStp
open Go.RowKit
open SSpr SByt STurn RRot RTxt
theorem or_xor (a b : Nat) (h : a &&& b = 0) : a ||| b = a ^^^ b := by
  apply Nat.eq_of_testBit_eq
  intro i
  have hi : (a &&& b).testBit i = false := by rw [h]; exact Nat.zero_testBit i
  rw [Nat.testBit_and] at hi
  rw [Nat.testBit_or, Nat.testBit_xor]
  cases ha : a.testBit i <;> cases hb : b.testBit i <;> simp_all
theorem ch_or (E F G : Nat) (h : E < 4294967296) : (E &&& F) ||| ((4294967295 - E) &&& G) = (E &&& F) ^^^ ((4294967295 - E) &&& G) := by
  apply or_xor
  rw [← notN E h]
  apply Nat.eq_of_testBit_eq
  intro i
  rw [Nat.zero_testBit, Nat.testBit_and, Nat.testBit_and, Nat.testBit_and, Nat.testBit_xor]
  by_cases hi : i < 32
  · rw [show (4294967295 : Nat) = 2 ^ 32 - 1 from rfl, Nat.testBit_two_pow_sub_one]
    cases E.testBit i <;> simp [hi]
  · have : E.testBit i = false := Nat.testBit_lt_two_pow (Nat.lt_of_lt_of_le (show E < 2 ^ 32 from h) (Nat.pow_le_pow_right (n := 2) (by decide) (by omega : 32 ≤ i)))
    simp [this]
theorem maj_or (A B C : Nat) : (A &&& B) ||| (A &&& C) ||| (B &&& C) = (A &&& B) ^^^ (A &&& C) ^^^ (B &&& C) := by
  apply Nat.eq_of_testBit_eq
  intro i
  simp only [Nat.testBit_or, Nat.testBit_and, Nat.testBit_xor]
  cases A.testBit i <;> cases B.testBit i <;> cases C.testBit i <;> rfl
theorem alloc4 (w : World) (A B C D : Obj) : ((((w.alloc A).alloc B).alloc C).alloc D).heap[w.heap.size]? = some A ∧ ((((w.alloc A).alloc B).alloc C).alloc D).heap[w.heap.size + 1]? = some B ∧
    ((((w.alloc A).alloc B).alloc C).alloc D).heap[w.heap.size + 1 + 1]? = some C ∧ ((((w.alloc A).alloc B).alloc C).alloc D).heap[w.heap.size + 1 + 1 + 1]? = some D ∧ Below w.heap.size w ((((w.alloc A).alloc B).alloc C).alloc D) ∧ ((((w.alloc A).alloc B).alloc C).alloc D).heap.size = w.heap.size + 1 + 1 + 1 + 1 := by
  have hs : (((w.alloc A).alloc B).alloc C).heap.size = w.heap.size + 1 + 1 + 1 := by simp
  refine ⟨?_, ?_, ?_, ?_, ?_, by simp⟩
  · rw [heap_alloc_old _ _ (by rw [hs]; omega)]; exact alloc3_0 w A B C
  · rw [heap_alloc_old _ _ (by rw [hs]; omega)]; exact alloc3_1 w A B C
  · rw [heap_alloc_old _ _ (by rw [hs]; omega)]; exact alloc3_2 w A B C
  · rw [← hs]; exact heap_alloc_new _ _
  · exact (below_alloc3 w A B C).alloc (by rw [hs]; omega) _
/-- The numbers behind 'j' rounds of the last loop. -/
def mix (s r : St) (j : Nat) : List Nat := (List.range 8).map fun i => if i < j then ((stL r).getD i 0 + (stL s).getD i 0) % 4294967296 else (stL r).getD i 0
theorem mix_len (s r : St) (j : Nat) : (mix s r j).length = 8 := by simp [mix]
theorem mix_zero (s r : St) : iRow (mix s r 0) = iSt r := rfl
theorem mix_all (s r : St) : iRow (mix s r 8) = iSt (s.plus r) := by
  have h : mix s r 8 = stL (s.plus r) := by
    simp [mix, stL, St.plus, List.range_succ, List.getD, Nat.add_comm]
  rw [h]
  rfl
theorem mix_at (s r : St) (j : Nat) (h : j < 8) : (mix s r j).getD j 0 = (stL r).getD j 0 := by
  simp [mix, List.getD, h]
theorem mix_next (s r : St) (j : Nat) (h : j < 8) : (mix s r j).set j (((stL r).getD j 0 + (stL s).getD j 0) % 4294967296) = mix s r (j + 1) := by
  apply List.ext_getElem?
  intro i
  rw [List.getElem?_set]
  by_cases hij : j = i
  · subst hij
    simp [mix, h]
  · rw [if_neg hij]
    by_cases hi : i < 8
    · simp only [mix, List.getElem?_map, List.getElem?_range hi, Option.map_some]
      by_cases h2 : i < j
      · rw [if_pos h2, if_pos (by omega)]
      · rw [if_neg h2, if_neg (by omega)]
    · rw [List.getElem?_eq_none (by rw [mix_len]; omega), List.getElem?_eq_none (by rw [mix_len]; omega)]
theorem iSt_size (s : St) : (iSt s).size = 8 := rfl
theorem iSt_one (s : St) : (iSt s).all (·.oneCell') = true := iRow_one (stL s)
theorem all8i (a b c d e f g h : Int) : (#[.int .i64 a, .int .i64 b, .int .i64 c, .int .i64 d, .int .i64 e, .int .i64 f, .int .i64 g, .int .i64 h] : Array Value).all (·.oneCell') = true := by
  simp [Value.oneCell']
end Go.Proofs.YtkidehngleglnaaDoor.RStp
/- What the document's answer for layer 2 says of a step, of what stands behind a text, and of a text's sum: the walks of keepsakeref02.Step, Pad and Sum. -/
namespace Go.Proofs.YtkidehngleglnaaDoor.RSum
open Go.RowKit
open SSpr SByt STurn RRot RTxt RStp
/-- How long the text in a slot is. -/
def strLen : Value → Nat | .string s => s.size | _ => 0
theorem still_load {P : Program} {ops : Array Oper} {o : Oper} {a : Act} {w : World} {K : Act → Prop} (hgd : o.guard = none) (ty : TypeId) (x : Operand) (ho : o.op = .load ty x)
    (b off : Nat) (hx : a.eval x = .pointer (some ⟨b, off, none⟩)) (cs : List Value) (d : TypeDesc) (hc : w.rangeAt b off cs)
    (hu : P.underlying ty = some d) (hd : d.isRow = true) (hi : (P.info? ty).map (·.size) = some cs.length) (h : K (a.put o.dst (.agg cs.toArray))) :
    if Region.wanted o (yielded ops a.tmps) then o.still P a w K else K (a.put o.dst undef) := by
  have hw : Region.wanted o (yielded ops a.tmps) = true := by simp [Region.wanted, hgd]
  rw [if_pos hw]
  unfold Oper.still execOp
  simp only [ho, hx, Instr.loadAt, Instr.sureAddr, Sem.run_bind, Sem.run_pure, Result.andThen_ok, run_loadVar_mid w b off ty cs d hc hu hd hi]
  exact ⟨rfl, h⟩
end Go.Proofs.YtkidehngleglnaaDoor.RSum
/- What keepsakeref03's functions answer: the walks of their texts. -/
namespace Go.Proofs.YtkidehngleglnaaDoor.RMac
open Go.RowKit
theorem noughts (h : List UInt8) (hh : h.length ≤ 64) (n : Int) (hn : n = 64 - (h.length : Int)) (w : World) :
    Calls Tryd.prog 19 #[.int .i64 n] w fun e w' => e = .returned (.string ⟨(List.replicate (64 - h.length) 0).toArray⟩) ∧ Below w.heap.size w w' := by
  subst hn
  rw [show (64 - (h.length : Int)) = ((64 - h.length : Nat) : Int) from by omega]
  exact RNou.noughts (64 - h.length) w (by omega)
theorem i64_xor8 (a n : UInt8) : bits .xor .i64 (a.toNat : Int) (n.toNat : Int) = ((a ^^^ n).toNat : Int) := by
  have ha := a.toNat_lt
  have hn := n.toNat_lt
  rw [RRot.i64_xor _ _ (by omega) (by omega), UInt8.toNat_xor]
theorem one_cell (x : UInt8) : #[Value.int .u8 (x.toNat : Int)] = bytesRow ([x] ++ []) := by simp [bytesRow]
theorem take_next (b : List UInt8) (n : UInt8) (j : Nat) (h : j < b.length) : (heldBy b n).take (j + 1) = (heldBy b n).take j ++ [b.getD j 0 ^^^ n] := by
  rw [List.take_succ_eq_append_getElem (by rw [heldBy_length]; exact h)]
  simp [heldBy, List.getD, h]
end Go.Proofs.YtkidehngleglnaaDoor.RMac
/- What keepsakeref03's 'Inner', 'Outer' and 'Mac' answer: the walks of their texts. -/
namespace Go.Proofs.YtkidehngleglnaaDoor.RMacs
open Go.RowKit
end Go.Proofs.YtkidehngleglnaaDoor.RMacs
