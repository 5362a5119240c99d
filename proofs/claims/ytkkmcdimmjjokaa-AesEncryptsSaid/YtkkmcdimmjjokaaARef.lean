/- What the document's answers for layer 5 say of products and stand-ins: the walks of keepsakeref05.Mul, power, bit, One and Sub. -/
import Derived.Test.YtkkmcdimmjjokaaADbl
import Derived.IntWalk
namespace Go.Proofs.Ytkkmcdimmjjokaa.ARef
open Go.RowKit
open AesM ADbl
theorem x64 (a b : Nat) (ha : a < 65536) (hb : b < 65536) : bits .xor .i64 (a : Int) (b : Int) = ((a ^^^ b : Nat) : Int) := by
  have hc : a ^^^ b < 65536 := Nat.xor_lt_two_pow (n := 16) ha hb
  show IntKind.i64.wrap ((BitVec.ofInt 64 (a : Int) ^^^ BitVec.ofInt 64 (b : Int)).toNat : Int) = _
  rw [BitVec.toNat_xor, BitVec.toNat_ofInt, BitVec.toNat_ofInt]
  have e1 : ((a : Int) % ((2 ^ 64 : Nat) : Int)).toNat = a := by omega
  have e2 : ((b : Int) % ((2 ^ 64 : Nat) : Int)).toNat = b := by omega
  rw [e1, e2, IntWalk.i64_in _ (by omega)]
theorem tm (b i : Nat) : (((b : Int) / 2 ^ i).tmod 2 == 1) = decide (b / 2 ^ i % 2 = 1) := by
  have e : ((b : Int) / 2 ^ i) = ((b / 2 ^ i : Nat) : Int) := by simp
  rw [e]
  generalize b / 2 ^ i = q
  rw [Int.tmod_eq_emod_of_nonneg (by omega)]
  by_cases h : q % 2 = 1
  · rw [decide_eq_true h, beq_iff_eq]; omega
  · rw [decide_eq_false h, beq_eq_false_iff_ne]; omega
theorem wsh (a i : Nat) (h : a * 2 ^ i < 65536) : wrap64 ((a : Int) * 2 ^ i) = ((a * 2 ^ i : Nat) : Int) := by
  have e : ((a : Int) * 2 ^ i) = ((a * 2 ^ i : Nat) : Int) := by simp
  rw [e]
  generalize a * 2 ^ i = q at *
  exact IntWalk.wrap64_in _ ⟨by omega, by omega⟩
theorem step1 (a j n : Nat) (hl : n < 65536) (hs : a * 2 ^ j < 65536) : bits .xor .i64 (n : Int) (wrap64 ((a : Int) * 2 ^ j)) = ((n ^^^ a * 2 ^ j : Nat) : Int) := by
  rw [wsh a j hs, x64 _ _ hl hs]
set_option maxRecDepth 100000 in
theorem Mul (a b : Nat) (w : World) (ha : a < 256) : Calls Try.prog 9 #[.int .i64 a, .int .i64 b] w fun e w' => e = .returned (.int .i64 (rmul a b : Nat)) ∧ w = w' := by
  go_enter Try.func9, Try.ntmps9
  go_wp2_with fail
  go_loop [5, 6] (fun n i => ∃ j : Nat, j ≤ 8 ∧ i = .int .i64 j ∧ n = .int .i64 (rTo a b j : Nat)) (fun _ i => 8 - (intOf i).toNat)
  case atStart => exact ⟨0, Nat.zero_le _, rfl, rfl⟩
  case round =>
    obtain ⟨j, hj, rfl, rfl⟩ := hrel
    by_cases hlt : j < 8
    · have hl := rTo_lt a b j ha hj
      have hs : a * 2 ^ j < 65536 := Nat.lt_of_le_of_lt (Nat.mul_le_mul (show a ≤ 255 by omega) (Nat.pow_le_pow_right (by decide) (show j ≤ 7 by omega))) (by decide)
      have HX := Lib.hid (step1 a j _ hl hs)
      have hP : rTo a b (j + 1) = if b / 2 ^ j % 2 = 1 then rTo a b j ^^^ a * 2 ^ j else rTo a b j := rfl
      have ht := tm b j
      generalize rTo a b j = n at *
      by_cases hc : b / 2 ^ j % 2 = 1
      · rw [if_pos hc] at hP
        rw [decide_eq_true hc] at ht
        have HP := Lib.hid hP
        clear hP hc hl hs
        go_wp2
        go_round
        case rel => exact ⟨j + 1, by omega, by go_num, by rw [HP.out, HX.out]⟩
        case measure => simp [intOf]; omega
      · rw [if_neg hc] at hP
        rw [decide_eq_false hc] at ht
        have HP := Lib.hid hP
        clear hP hc hl hs
        go_wp2
        go_round
        case rel => exact ⟨j + 1, by omega, by go_num, by rw [HP.out]⟩
        case measure => simp [intOf]; omega
    · have hk : j = 8 := by omega
      subst hk
      have hl := rTo_lt a b 8 ha hj
      have HM : Hid (rmul a b = dTo (rTo a b 8) 8) := rfl
      generalize rTo a b 8 = n0 at *
      have HL := Lib.hid hl
      clear hl
      go_wp2_with fail
      go_loop [5, 7] (fun n i => ∃ j : Nat, j ≤ 8 ∧ i = .int .i64 (15 - (j : Int)) ∧ n = .int .i64 (dTo n0 j : Nat)) (fun _ i => (intOf i).toNat)
      case atStart => exact ⟨0, Nat.zero_le _, rfl, rfl⟩
      case round =>
        obtain ⟨j, hj, rfl, rfl⟩ := hrel
        by_cases hlt : j < 8
        · have hl := dTo_lt n0 j HL.out (by omega)
          have hs : 283 * 2 ^ (7 - j) < 65536 := Nat.lt_of_le_of_lt (Nat.mul_le_mul (Nat.le_refl _) (Nat.pow_le_pow_right (by decide) (show 7 - j ≤ 7 by omega))) (by decide)
          have HX := Lib.hid (show bits .xor .i64 ((dTo n0 j : Nat) : Int) (wrap64 (283 * 2 ^ (7 - j))) = _ from step1 283 (7 - j) _ hl hs)
          have hP : dTo n0 (j + 1) = if dTo n0 j / 2 ^ (15 - j) % 2 = 1 then dTo n0 j ^^^ 283 * 2 ^ (7 - j) else dTo n0 j := rfl
          have ht := tm (dTo n0 j) (15 - j)
          generalize dTo n0 j = n at *
          obtain ⟨q, hq⟩ : ∃ q, q = 15 - j := ⟨_, rfl⟩
          obtain ⟨r, hr⟩ : ∃ r, r = 7 - j := ⟨_, rfl⟩
          rw [← hq] at ht hP
          rw [← hr] at hP HX
          have e1 : (15 : Int) - (j : Int) = (q : Int) := by omega
          rw [e1]
          have e2 : IntKind.i64.wrap ((q : Int) - 8) = (r : Int) := by rw [IntWalk.i64_in _ (by omega)]; omega
          have g1 : (8 : Int) ≤ (q : Int) := by omega
          have g2 : (q : Int) ≤ 15 := by omega
          have g3 : (0 : Int) ≤ (r : Int) := by omega
          have g4 : (r : Int) < 8 := by omega
          have HQ := Lib.hid hq
          by_cases hc : n / 2 ^ q % 2 = 1
          · rw [if_pos hc] at hP
            rw [decide_eq_true hc] at ht
            have HP := Lib.hid hP
            clear hP hc hl hs hq hr e1
            go_wp2
            go_round
            case rel => exact ⟨j + 1, by omega, by have h := HQ.out; go_num, by rw [HP.out, HX.out]⟩
            case measure => simp [intOf]; omega
          · rw [if_neg hc] at hP
            rw [decide_eq_false hc] at ht
            have HP := Lib.hid hP
            clear hP hc hl hs hq hr e1
            go_wp2
            go_round
            case rel => exact ⟨j + 1, by omega, by have h := HQ.out; go_num, by rw [HP.out]⟩
            case measure => simp [intOf]; omega
        · have hk : j = 8 := by omega
          subst hk
          go_wp2
          go_ret
          rw [HM.out]
          exact ⟨rfl, rfl⟩
theorem MulB (a b : UInt8) (w : World) : Calls Try.prog 9 #[.int .i64 a.toNat, .int .i64 b.toNat] w fun e w' => e = .returned (.int .i64 (mulB a b).toNat) ∧ w = w' := by
  rw [← rmul_eq]
  exact Mul _ _ w a.toNat_lt
theorem power (n q : Nat) (w : World) (h : n ≤ 8) (hq : q = 2 ^ n) : Calls Try.prog 27 #[.int .i64 n] w fun e w' => e = .returned (.int .i64 q) ∧ w = w' := by
  have HQ := Lib.hid hq
  clear hq
  go_enter Try.func27, Try.ntmps27
  go_wp2_with fail
  go_loop [3, 4] (fun x i => ∃ j : Nat, j ≤ n ∧ i = .int .i64 j ∧ ∃ p : Nat, p = 2 ^ j ∧ x = .int .i64 p) (fun _ i => n - (intOf i).toNat)
  case atStart => exact ⟨0, Nat.zero_le _, rfl, 1, rfl, rfl⟩
  case round =>
    obtain ⟨j, hj, rfl, p, hp, rfl⟩ := hrel
    have hl : p ≤ 256 := by rw [hp]; exact Nat.pow_le_pow_right (n := 2) (by decide) (show j ≤ 8 by omega)
    have HP := Lib.hid hp
    clear hp
    by_cases hlt : j < n
    · go_wp2
      go_round
      case rel => exact ⟨j + 1, by omega, by go_num, 2 * p, by rw [HP.out, Nat.pow_succ, Nat.mul_comm], by go_num⟩
      case measure => simp [intOf]; omega
    · have hk : j = n := by omega
      subst hk
      go_wp2
      go_ret
      rw [HQ.out, ← HP.out]
      exact ⟨rfl, rfl⟩
theorem bit (n i : Nat) (w : World) (hi : i < 8) (hn : n < 256) : Calls Try.prog 26 #[.int .i64 n, .int .i64 i] w fun e w' => e = .returned (.int .i64 (rbit n i : Nat)) ∧ w = w' := by
  have HP := Lib.hid (fun W => power i (2 ^ i) W (by omega) rfl)
  have hp0 : 0 < 2 ^ i := Nat.two_pow_pos i
  have hp1 : 2 ^ i ≤ 256 := Nat.pow_le_pow_right (n := 2) (by decide) (show i ≤ 8 by omega)
  have HR : Hid (rbit n i = n / 2 ^ i % 2) := rfl
  generalize 2 ^ i = p at *
  go_enter Try.func26, Try.ntmps26
  go_wp2_with (go_at_call 27; refine (HP.out _).mono ?_; rintro e w' ⟨rfl, rfl⟩)
  go_ret
  have e : (wrap64 ((n : Int) / (p : Int))).tmod 2 = ((rbit n i : Nat) : Int) := by
    have e1 : ((n : Int) / (p : Int)) = ((n / p : Nat) : Int) := by simp
    have e2 : n / p ≤ n := Nat.div_le_self _ _
    rw [HR.out, e1]
    generalize n / p = q at *
    rw [IntWalk.wrap64_in _ ⟨by omega, by omega⟩, Int.tmod_eq_emod_of_nonneg (by omega)]
    omega
  rw [← e]
  exact ⟨rfl, rfl⟩
set_option maxRecDepth 100000 in
theorem One (a : UInt8) (w : World) : Calls Try.prog 25 #[.int .i64 a.toNat] w fun e w' => e = .returned (.int .i64 (one a : Nat)) ∧ w = w' := by
  have HO := Lib.hid (one_hit a)
  have HM := Lib.hid (mul_hit a)
  have HL := Lib.hid (hit_lt a)
  have HB := Lib.hid (fun (n : Nat) (hn : n < 256) (W : World) => (show Calls Try.prog 9 #[.int .i64 a.toNat, .int .i64 n] W fun e w' => e = .returned (.int .i64 (mulB a (UInt8.ofNat n)).toNat) ∧ W = w' by
    have h := MulB a (UInt8.ofNat n) W
    rw [UInt8.toNat_ofNat', Nat.mod_eq_of_lt hn] at h
    exact h))
  go_enter Try.func25, Try.ntmps25
  go_wp2_with fail
  go_loop [3] (fun i => ∃ j : Nat, j ≤ 256 ∧ j ≤ hit a ∧ i = .int .i64 j) (fun i => 256 - (intOf i).toNat)
  case atStart => exact ⟨0, Nat.zero_le _, Nat.zero_le _, rfl⟩
  case round =>
    obtain ⟨j, hj, hh, rfl⟩ := hrel
    by_cases hlt : j < 256
    · have hb := HB.out j hlt
      have hm := HM.out j hlt
      by_cases hc : j = hit a
      · have h1 : mulB a (UInt8.ofNat j) = 1 := hm.2 hc
        rw [h1] at hb
        have HC := Lib.hid hc
        have HB2 := Lib.hid hb
        clear hm hc h1 hh hb
        go_wp2_with (go_at_call 9; refine (HB2.out _).mono ?_; rintro e w' ⟨rfl, rfl⟩)
        go_ret
        have e : one a = j := by
          have hne : a ≠ 0 := fun h => by
            have h2 := HC.out
            rw [h] at h2
            have h3 : hit 0 = 256 := rfl
            omega
          rw [HO.out, if_neg hne]
          exact HC.out.symm
        rw [e]
        exact ⟨rfl, rfl⟩
      · have h1 : mulB a (UInt8.ofNat j) ≠ 1 := fun h => hc (hm.1 h)
        have h2 : (((mulB a (UInt8.ofNat j)).toNat : Int) == 1) = false := by
          rw [beq_eq_false_iff_ne]
          intro h3
          exact h1 (UInt8.toNat_inj.1 (by have h4 : (1 : UInt8).toNat = 1 := rfl; omega))
        have h3 : j < hit a := by omega
        have HB2 := Lib.hid hb
        clear hm hc h1 hh hb
        generalize ((mulB a (UInt8.ofNat j)).toNat : Int) = z at *
        go_wp2_with (go_at_call 9; refine (HB2.out _).mono ?_; rintro e w' ⟨rfl, rfl⟩)
        go_round
        case rel => exact ⟨j + 1, by omega, h3, by go_num⟩
        case measure => simp [intOf]; omega
    · have e : one a = 0 := by
        by_cases h0 : a = 0
        · rw [HO.out, if_pos h0]
        · have := HL.out h0
          omega
      have HE := Lib.hid e
      clear e hh
      go_wp2
      go_ret
      rw [HE.out]
      exact ⟨rfl, rfl⟩
theorem rbit_le (n i : Nat) : rbit n i ≤ 1 := by unfold rbit; omega
theorem xTo_le (b i k : Nat) : xTo b i k ≤ k + 2 := by
  induction k with
  | zero => rw [xTo]; have h1 := rbit_le 99 i; have h2 := rbit_le b i; omega
  | succ k ih => rw [xTo]; have h1 := rbit_le b ((i + (k + 4)) % 8); omega
theorem last (n x p : Nat) (hn : n ≤ 1024) (hp : p ≤ 128) : wrap64 ((n : Int) + wrap64 ((x : Int) % 2 * (p : Int))) = ((n + x % 2 * p : Nat) : Int) := by
  have e : ((x : Int) % 2 * (p : Int)) = ((x % 2 * p : Nat) : Int) := by simp
  have h : x % 2 * p ≤ 1 * 128 := Nat.mul_le_mul (by omega) hp
  rw [e]
  generalize x % 2 * p = q at *
  rw [IntWalk.wrap64_in (q : Int) ⟨by omega, by omega⟩, IntWalk.wrap64_in _ ⟨by omega, by omega⟩]
  omega
theorem subTo_le (b i : Nat) (h : i ≤ 8) : subTo b i ≤ i * 128 := by
  induction i with
  | zero => exact Nat.le_refl 0
  | succ i ih =>
    rw [subTo]
    have h1 : xTo b i 4 % 2 * 2 ^ i ≤ 1 * 2 ^ 7 := Nat.mul_le_mul (by omega) (Nat.pow_le_pow_right (by decide) (by omega))
    have h2 := ih (by omega)
    omega
set_option maxRecDepth 100000 in
theorem Sub (a : UInt8) (w : World) : Calls Try.prog 11 #[.int .i64 a.toNat] w fun e w' => e = .returned (.int .i64 (boxL.getD a.toNat 0).toNat) ∧ w = w' := by
  have h0 := sub_one a.toNat a.toNat_lt
  rw [UInt8.ofNat_toNat] at h0
  have HS := Lib.hid h0
  have HO := Lib.hid (One a)
  have ho : one a < 256 := (recL.getD a.toNat 0).toNat_lt
  generalize one a = b at *
  have HBl := Lib.hid ho
  clear h0
  go_enter Try.func11, Try.ntmps11
  go_wp2_with (go_at_call 25; refine (HO.out _).mono ?_; rintro e w' ⟨rfl, rfl⟩)
  go_loop [4, 5, 6, 7] (fun n i _ _ => ∃ j : Nat, j ≤ 8 ∧ i = .int .i64 j ∧ n = .int .i64 (subTo b j : Nat)) (fun _ i _ _ => 8 - (intOf i).toNat)
  case atStart => exact ⟨0, Nat.zero_le _, rfl, rfl⟩
  case round =>
    obtain ⟨j, hj, rfl, rfl⟩ := hrel
    by_cases hlt : j < 8
    · have hl := subTo_le b j hj
      have HT : Hid (subTo b (j + 1) = subTo b j + xTo b j 4 % 2 * 2 ^ j) := rfl
      have HA := Lib.hid (fun W => bit 99 j W hlt (by omega))
      have HB := Lib.hid (fun W => bit b j W hlt HBl.out)
      have hx0 : Hid (xTo b j 0 = rbit 99 j + rbit b j) := rfl
      have r1 := rbit_le 99 j
      have r2 := rbit_le b j
      generalize subTo b j = n at *
      generalize rbit 99 j = p at *
      generalize rbit b j = q at *
      go_wp2_with (first
        | (go_at_call 26; refine (HA.out _).mono ?_; rintro e w' ⟨rfl, rfl⟩; clear HA)
        | (go_at_call 26; refine (HB.out _).mono ?_; rintro e w' ⟨rfl, rfl⟩))
      have hX : ∀ k, Hid (xTo b j (k + 1) = xTo b j k + rbit b ((j + (k + 4)) % 8)) := fun k => rfl
      have HX := Lib.hid hX
      clear hX r1 r2
      go_loop [6, 7] (fun x i => ∃ k : Nat, k ≤ 4 ∧ i = .int .i64 ((k : Int) + 4) ∧ x = .int .i64 (xTo b j k : Nat)) (fun _ i => 8 - (intOf i).toNat)
      case atStart => exact ⟨0, Nat.zero_le _, rfl, by rw [hx0.out]; go_num⟩
      case round =>
        obtain ⟨k, hk, rfl, rfl⟩ := hrel
        have hxl := xTo_le b j k
        by_cases hk4 : k < 4
        · have HB2 := Lib.hid (fun W => bit b ((j + (k + 4)) % 8) W (Nat.mod_lt _ (by omega)) HBl.out)
          have HY := HX.out k
          have hr := rbit_le b ((j + (k + 4)) % 8)
          have hm : ((j : Int) + ((k : Int) + 4)).tmod 8 = (((j + (k + 4)) % 8 : Nat) : Int) := by rw [Int.tmod_eq_emod_of_nonneg (by omega)]; omega
          generalize (j + (k + 4)) % 8 = m at *
          generalize rbit b m = y at *
          generalize xTo b j k = x at *
          go_wp2_with (go_at_call 26; refine (HB2.out _).mono ?_; rintro e w' ⟨rfl, rfl⟩)
          go_round
          case rel => exact ⟨k + 1, by omega, by go_num, by rw [HY.out]; go_num⟩
          case measure => simp [intOf]; omega
        · have hk : k = 4 := by omega
          subst hk
          have HP := Lib.hid (fun W => power j (2 ^ j) W (by omega) rfl)
          have hp : 2 ^ j ≤ 128 := Nat.pow_le_pow_right (n := 2) (by decide) (show j ≤ 7 by omega)
          generalize 2 ^ j = p2 at *
          generalize xTo b j 4 = x at *
          go_wp2_with (go_at_call 27; refine (HP.out _).mono ?_; rintro e w' ⟨rfl, rfl⟩)
          go_round
          case rel => exact ⟨j + 1, by omega, by go_num, by rw [HT.out, last n x p2 (by omega) hp]⟩
          case measure => simp [intOf]; omega
    · have hk : j = 8 := by omega
      subst hk
      rw [HS.out]
      go_wp2
      go_ret
      exact ⟨rfl, rfl⟩
end Go.Proofs.Ytkkmcdimmjjokaa.ARef
