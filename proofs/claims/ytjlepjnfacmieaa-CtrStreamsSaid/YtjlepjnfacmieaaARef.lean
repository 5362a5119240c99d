/- What the document's answers for layer 5 say of products and stand-ins: the walks of keepsakeref05.Mul, power, bit, One and Sub. -/
import Derived.Test.YtjlepjnfacmieaaADbl
import Derived.IntWalk
namespace Go.Proofs.Ytjlepjnfacmieaa.ARef
open Go.RowKit
open AesM ADbl
theorem x64 (a b : Nat) (ha : a < 65536) (hb : b < 65536) : bits .xor .i64 (a : Int) (b : Int) = ((a ^^^ b : Nat) : Int) := by
  have hc : a ^^^ b < 65536 := Nat.xor_lt_two_pow (n := 16) ha hb
  show IntKind.i64.wrap ((BitVec.ofInt 64 (a : Int) ^^^ BitVec.ofInt 64 (b : Int)).toNat : Int) = _
  rw [BitVec.toNat_xor, BitVec.toNat_ofInt, BitVec.toNat_ofInt]
  have e1 : ((a : Int) % ((2 ^ 64 : Nat) : Int)).toNat = a := by omega
  have e2 : ((b : Int) % ((2 ^ 64 : Nat) : Int)).toNat = b := by omega
  rw [e1, e2, IntWalk.i64_in _ (by omega)]
theorem tm (b i : Nat) : (((b : Int) / 2 ^ i).tmod 2 == 1) = decide (b / 2 ^ i % 2 = 1) := by
  have e : ((b : Int) / 2 ^ i) = ((b / 2 ^ i : Nat) : Int) := by simp
  rw [e]
  generalize b / 2 ^ i = q
  rw [Int.tmod_eq_emod_of_nonneg (by omega)]
  by_cases h : q % 2 = 1
  · rw [decide_eq_true h, beq_iff_eq]; omega
  · rw [decide_eq_false h, beq_eq_false_iff_ne]; omega
theorem wsh (a i : Nat) (h : a * 2 ^ i < 65536) : wrap64 ((a : Int) * 2 ^ i) = ((a * 2 ^ i : Nat) : Int) := by
  have e : ((a : Int) * 2 ^ i) = ((a * 2 ^ i : Nat) : Int) := by simp
  rw [e]
  generalize a * 2 ^ i = q at *
  exact IntWalk.wrap64_in _ ⟨by omega, by omega⟩
theorem step1 (a j n : Nat) (hl : n < 65536) (hs : a * 2 ^ j < 65536) : bits .xor .i64 (n : Int) (wrap64 ((a : Int) * 2 ^ j)) = ((n ^^^ a * 2 ^ j : Nat) : Int) := by
  rw [wsh a j hs, x64 _ _ hl hs]
set_option maxRecDepth 100000 in
theorem Mul (a b : Nat) (w : World) (ha : a < 256) : Calls Try.prog 31 #[.int .i64 a, .int .i64 b] w fun e w' => e = .returned (.int .i64 (rmul a b : Nat)) ∧ w = w' := by
  go_enter Try.func31, Try.ntmps31
  go_wp2_with fail
  go_loop [5, 6] (fun n i => ∃ j : Nat, j ≤ 8 ∧ i = .int .i64 j ∧ n = .int .i64 (rTo a b j : Nat)) (fun _ i => 8 - (intOf i).toNat)
  case atStart => exact ⟨0, Nat.zero_le _, rfl, rfl⟩
  case round =>
    obtain ⟨j, hj, rfl, rfl⟩ := hrel
    by_cases hlt : j < 8
    · have hl := rTo_lt a b j ha hj
      have hs : a * 2 ^ j < 65536 := Nat.lt_of_le_of_lt (Nat.mul_le_mul (show a ≤ 255 by omega) (Nat.pow_le_pow_right (by decide) (show j ≤ 7 by omega))) (by decide)
      have HX := Lib.hid (step1 a j _ hl hs)
      have hP : rTo a b (j + 1) = if b / 2 ^ j % 2 = 1 then rTo a b j ^^^ a * 2 ^ j else rTo a b j := rfl
      have ht := tm b j
      generalize rTo a b j = n at *
      by_cases hc : b / 2 ^ j % 2 = 1
      · rw [if_pos hc] at hP
        rw [decide_eq_true hc] at ht
        have HP := Lib.hid hP
        clear hP hc hl hs
        go_wp2
        go_round
        case rel => exact ⟨j + 1, by omega, by go_num, by rw [HP.out, HX.out]⟩
        case measure => simp [intOf]; omega
      · rw [if_neg hc] at hP
        rw [decide_eq_false hc] at ht
        have HP := Lib.hid hP
        clear hP hc hl hs
        go_wp2
        go_round
        case rel => exact ⟨j + 1, by omega, by go_num, by rw [HP.out]⟩
        case measure => simp [intOf]; omega
    · have hk : j = 8 := by omega
      subst hk
      have hl := rTo_lt a b 8 ha hj
      have HM : Hid (rmul a b = dTo (rTo a b 8) 8) := rfl
      generalize rTo a b 8 = n0 at *
      have HL := Lib.hid hl
      clear hl
      go_wp2_with fail
      go_loop [5, 7] (fun n i => ∃ j : Nat, j ≤ 8 ∧ i = .int .i64 (15 - (j : Int)) ∧ n = .int .i64 (dTo n0 j : Nat)) (fun _ i => (intOf i).toNat)
      case atStart => exact ⟨0, Nat.zero_le _, rfl, rfl⟩
      case round =>
        obtain ⟨j, hj, rfl, rfl⟩ := hrel
        by_cases hlt : j < 8
        · have hl := dTo_lt n0 j HL.out (by omega)
          have hs : 283 * 2 ^ (7 - j) < 65536 := Nat.lt_of_le_of_lt (Nat.mul_le_mul (Nat.le_refl _) (Nat.pow_le_pow_right (by decide) (show 7 - j ≤ 7 by omega))) (by decide)
          have HX := Lib.hid (show bits .xor .i64 ((dTo n0 j : Nat) : Int) (wrap64 (283 * 2 ^ (7 - j))) = _ from step1 283 (7 - j) _ hl hs)
          have hP : dTo n0 (j + 1) = if dTo n0 j / 2 ^ (15 - j) % 2 = 1 then dTo n0 j ^^^ 283 * 2 ^ (7 - j) else dTo n0 j := rfl
          have ht := tm (dTo n0 j) (15 - j)
          generalize dTo n0 j = n at *
          obtain ⟨q, hq⟩ : ∃ q, q = 15 - j := ⟨_, rfl⟩
          obtain ⟨r, hr⟩ : ∃ r, r = 7 - j := ⟨_, rfl⟩
          rw [← hq] at ht hP
          rw [← hr] at hP HX
          have e1 : (15 : Int) - (j : Int) = (q : Int) := by omega
          rw [e1]
          have e2 : IntKind.i64.wrap ((q : Int) - 8) = (r : Int) := by rw [IntWalk.i64_in _ (by omega)]; omega
          have g1 : (8 : Int) ≤ (q : Int) := by omega
          have g2 : (q : Int) ≤ 15 := by omega
          have g3 : (0 : Int) ≤ (r : Int) := by omega
          have g4 : (r : Int) < 8 := by omega
          have HQ := Lib.hid hq
          by_cases hc : n / 2 ^ q % 2 = 1
          · rw [if_pos hc] at hP
            rw [decide_eq_true hc] at ht
            have HP := Lib.hid hP
            clear hP hc hl hs hq hr e1
            go_wp2
            go_round
            case rel => exact ⟨j + 1, by omega, by have h := HQ.out; go_num, by rw [HP.out, HX.out]⟩
            case measure => simp [intOf]; omega
          · rw [if_neg hc] at hP
            rw [decide_eq_false hc] at ht
            have HP := Lib.hid hP
            clear hP hc hl hs hq hr e1
            go_wp2
            go_round
            case rel => exact ⟨j + 1, by omega, by have h := HQ.out; go_num, by rw [HP.out]⟩
            case measure => simp [intOf]; omega
        · have hk : j = 8 := by omega
          subst hk
          go_wp2
          go_ret
          rw [HM.out]
          exact ⟨rfl, rfl⟩
theorem MulB (a b : UInt8) (w : World) : Calls Try.prog 31 #[.int .i64 a.toNat, .int .i64 b.toNat] w fun e w' => e = .returned (.int .i64 (mulB a b).toNat) ∧ w = w' := by
  rw [← rmul_eq]
  exact Mul _ _ w a.toNat_lt
theorem rbit_le (n i : Nat) : rbit n i ≤ 1 := by unfold rbit; omega
theorem xTo_le (b i k : Nat) : xTo b i k ≤ k + 2 := by
  induction k with
  | zero => rw [xTo]; have h1 := rbit_le 99 i; have h2 := rbit_le b i; omega
  | succ k ih => rw [xTo]; have h1 := rbit_le b ((i + (k + 4)) % 8); omega
theorem last (n x p : Nat) (hn : n ≤ 1024) (hp : p ≤ 128) : wrap64 ((n : Int) + wrap64 ((x : Int) % 2 * (p : Int))) = ((n + x % 2 * p : Nat) : Int) := by
  have e : ((x : Int) % 2 * (p : Int)) = ((x % 2 * p : Nat) : Int) := by simp
  have h : x % 2 * p ≤ 1 * 128 := Nat.mul_le_mul (by omega) hp
  rw [e]
  generalize x % 2 * p = q at *
  rw [IntWalk.wrap64_in (q : Int) ⟨by omega, by omega⟩, IntWalk.wrap64_in _ ⟨by omega, by omega⟩]
  omega
theorem subTo_le (b i : Nat) (h : i ≤ 8) : subTo b i ≤ i * 128 := by
  induction i with
  | zero => exact Nat.le_refl 0
  | succ i ih =>
    rw [subTo]
    have h1 : xTo b i 4 % 2 * 2 ^ i ≤ 1 * 2 ^ 7 := Nat.mul_le_mul (by omega) (Nat.pow_le_pow_right (by decide) (by omega))
    have h2 := ih (by omega)
    omega
end Go.Proofs.Ytjlepjnfacmieaa.ARef
