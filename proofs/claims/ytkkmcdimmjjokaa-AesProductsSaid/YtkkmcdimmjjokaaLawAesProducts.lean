/- AesProducts: of any three bytes, products may be turned about, parted and put together, a byte times 1 is itself, times 0 it is 0, and each but 0 has just one with which its product is 1. No condition. -/
import Derived.Test.YtkkmcdimmjjokaaAAlive
import Derived.Test.YtkkmcdimmjjokaaRows
import Derived.WalkKit
import Derived.ProofKit
import Derived.OpenShut
import Derived.ShutString
import Derived.ChangeOld
import Derived.Below
namespace Go.Proofs.Ytkkmcdimmjjokaa.aesProducts
open Go.ChangeShapes Go.WideShapes Go.ChangeAt Go.RowKit
open Go.ChangeMaps (open_string shut_string)
set_option linter.unusedVariables false
open AesM ADbl AEnc ANew ATab
theorem cnt_next (a : UInt8) (j : Nat) : (if hit a < j + 1 then 1 else 0 : Nat) = (if j = hit a then 1 else 0) + (if hit a < j then 1 else 0) := by
  by_cases h1 : j = hit a
  · rw [if_pos (by omega), if_pos h1, if_neg (by omega)]
  · rw [if_neg h1]
    by_cases h2 : hit a < j
    · rw [if_pos (by omega), if_pos h2]
    · rw [if_neg (by omega), if_neg h2]
set_option maxRecDepth 100000 in
theorem bytes (a b c : UInt8) (w : World) :
    Calls Try.prog 7 #[.int .u8 a.toNat, .int .u8 b.toNat, .int .u8 c.toNat] w fun e w' => e = .returned (.bool true) ∧ Below w.heap.size w w' := by
  have P1 := Lib.hid (fun W => Mul a b W)
  have P2 := Lib.hid (fun W => Mul b a W)
  have P3 := Lib.hid (fun W => Mul b c W)
  have P4 := Lib.hid (fun W => Mul a (mulB b c) W)
  have P6 := Lib.hid (fun W => Mul (mulB a b) c W)
  have P7 := Lib.hid (fun W => Mul a (b ^^^ c) W)
  have P9 := Lib.hid (fun W => Mul a c W)
  have P10 := Lib.hid (fun W => (show Calls Try.prog 8 #[.int .u8 a.toNat, .int .u8 1] W _ from Mul a 1 W))
  have P11 := Lib.hid (fun W => (show Calls Try.prog 8 #[.int .u8 a.toNat, .int .u8 0] W _ from Mul a 0 W))
  rw [mul_comm' b a] at P2
  rw [← mul_assoc'] at P6
  rw [mul_xor_r, ← x8, ← x8] at P7
  rw [mul_one'] at P10
  rw [mul_zero'] at P11
  have HB := Lib.hid (fun (n : Nat) (hn : n < 256) (W : World) => (show Calls Try.prog 8 #[.int .u8 a.toNat, .int .u8 n] W fun e w' => e = .returned (.int .u8 (mulB a (UInt8.ofNat n)).toNat) ∧ W = w' by
    have h := Mul a (UInt8.ofNat n) W
    rw [UInt8.toNat_ofNat', Nat.mod_eq_of_lt hn] at h
    exact h))
  generalize mulB a (mulB b c) = z at *
  generalize mulB a b = x at *
  generalize mulB b c = y at *
  generalize mulB a c = v at *
  go_enter Try.func7, Try.ntmps7
  go_wp2_with fail
  refine (P1.out _).mono ?_
  rintro e w' ⟨rfl, rfl⟩
  go_wp2_with fail
  refine (P2.out _).mono ?_
  rintro e w' ⟨rfl, rfl⟩
  go_wp2_with fail
  refine (P3.out _).mono ?_
  rintro e w' ⟨rfl, rfl⟩
  go_wp2_with fail
  refine (P4.out _).mono ?_
  rintro e w' ⟨rfl, rfl⟩
  go_wp2_with fail
  refine (P1.out _).mono ?_
  rintro e w' ⟨rfl, rfl⟩
  go_wp2_with fail
  refine (P6.out _).mono ?_
  rintro e w' ⟨rfl, rfl⟩
  go_wp2_with fail
  refine (P7.out _).mono ?_
  rintro e w' ⟨rfl, rfl⟩
  go_wp2_with fail
  refine (P1.out _).mono ?_
  rintro e w' ⟨rfl, rfl⟩
  go_wp2_with fail
  refine (P9.out _).mono ?_
  rintro e w' ⟨rfl, rfl⟩
  go_wp2_with fail
  refine (P10.out _).mono ?_
  rintro e w' ⟨rfl, rfl⟩
  go_wp2_with fail
  refine (P11.out _).mono ?_
  rintro e w' ⟨rfl, rfl⟩
  go_wp2_with fail
  go_loop [7, 55] (fun n i => ∃ j m : Nat, j ≤ 256 ∧ i = .int .i64 j ∧ Hid (m = if hit a < j then 1 else 0) ∧ n = .int .i64 m) (fun _ i => 256 - (intOf i).toNat)
  case atStart => exact ⟨0, 0, Nat.zero_le _, rfl, by show _ = _; rw [if_neg (by omega)], rfl⟩
  case round =>
    obtain ⟨j, m, hj, rfl, hm, rfl⟩ := hrel
    have HC := Lib.hid (cnt_next a j)
    have hm1 : (m : Int) ≤ 1 := by
      have h := hm.out
      split at h <;> omega
    by_cases hlt : j < 256
    · have HP := Lib.hid (HB.out j hlt)
      have hq := mul_hit a j hlt
      have hj8 : (j : Int) % 256 = (j : Int) := by omega
      by_cases hc : j = hit a
      · have h1 : mulB a (UInt8.ofNat j) = 1 := hq.2 hc
        rw [h1] at HP
        rw [if_pos hc, ← hm.out] at HC
        clear hq hc h1
        go_wp2_with (go_at_call 8; refine (HP.out _).mono ?_; rintro e w' ⟨rfl, rfl⟩)
        go_round
        case rel => exact ⟨j + 1, m + 1, by omega, by go_num, by show _ = _; rw [HC.out]; omega, by go_num⟩
        case measure => simp [intOf]; omega
      · have h1 : mulB a (UInt8.ofNat j) ≠ 1 := fun h => hc (hq.1 h)
        have h2 : (((mulB a (UInt8.ofNat j)).toNat : Int) == 1) = false := by
          rw [beq_eq_false_iff_ne]
          intro h3
          exact h1 (UInt8.toNat_inj.1 (by have h4 : (1 : UInt8).toNat = 1 := rfl; omega))
        rw [if_neg hc, ← hm.out] at HC
        clear hq hc h1
        generalize ((mulB a (UInt8.ofNat j)).toNat : Int) = q at *
        go_wp2_with (go_at_call 8; refine (HP.out _).mono ?_; rintro e w' ⟨rfl, rfl⟩)
        go_round
        case rel => exact ⟨j + 1, m, by omega, by go_num, by show _ = _; rw [HC.out]; omega, rfl⟩
        case measure => simp [intOf]; omega
    · have hk : j = 256 := by omega
      subst hk
      by_cases h0 : a = 0
      · have hm0 : m = 0 := by rw [hm.out, h0]; rfl
        subst hm0
        have ha0 : ((a.toNat : Int) != 0) = false := by rw [h0]; rfl
        have ha1 : ((a.toNat : Int) == 0) = true := by rw [h0]; rfl
        clear hm HC h0 hm1
        go_wp2_with (go_at_call 14; refine (AAlive.any _).mono ?_; rintro e w5 ⟨rfl, hb5⟩; have HB5 := Lib.hid hb5; clear hb5)
        go_ret
        exact ⟨rfl, HB5.out⟩
      · have hm0 : m = 1 := by rw [hm.out, if_pos (hit_lt a h0)]
        subst hm0
        have hn : a.toNat ≠ 0 := fun h => h0 (UInt8.toNat_inj.1 h)
        have ha0 : ((a.toNat : Int) != 0) = true := by rw [bne_iff_ne]; omega
        have ha1 : ((a.toNat : Int) == 0) = false := by rw [beq_eq_false_iff_ne]; omega
        clear hm HC h0 hn hm1
        go_wp2_with (go_at_call 14; refine (AAlive.any _).mono ?_; rintro e w5 ⟨rfl, hb5⟩; have HB5 := Lib.hid hb5; clear hb5)
        go_ret
        exact ⟨rfl, HB5.out⟩
theorem byte_of {a : Int} (h : (Lit.int .u8 a).wf = true) : ∃ b : UInt8, a = (b.toNat : Int) := by
  have h2 := bounds_u8 h
  exact ⟨UInt8.ofNat a.toNat, by rw [UInt8.toNat_ofNat']; omega⟩
theorem walk (a0 a1 a2 : Int) (w : World) (w0 : (Lit.int .u8 a0).wf = true) (w1 : (Lit.int .u8 a1).wf = true) (w2 : (Lit.int .u8 a2).wf = true) :
    Calls Try.prog 7 #[.int .u8 a0, .int .u8 a1, .int .u8 a2] w fun e w' => e = .returned (.bool true) ∧ Below w.heap.size w w' := by
  obtain ⟨a, rfl⟩ := byte_of w0
  obtain ⟨b, rfl⟩ := byte_of w1
  obtain ⟨c, rfl⟩ := byte_of w2
  exact bytes a b c w
theorem own : ownKnob Try.prog.godebug = none := by kernel_rfl
theorem laidOut : laidOutB Try.prog = true := by kernel_rfl
set_option maxRecDepth 100000 in
theorem lifted (os : Os) (started : os.Started) (H : Type) (enc : TypeId × Value → H) :
    ReturnsInHanded {} Try.checked os 7 .any (Rows.aesProductsSpec.pre6 enc Try.prog Try.f7 Rows.aesProductsRow.domain false) (Rows.aesProductsSpec.post enc Try.prog Try.f7 false true false false) := by
  refine returnsInHanded_of_change (C := Try.checked) own started (by kernel_rfl) Try.func7
    (ChangeSpec.witness6 (enc := enc) (C := Try.checked) false ⟨#[], #[.int .u8 0, .int .u8 0, .int .u8 0], []⟩ 8 (by kernel_rfl) (by kernel_rfl) (by kernel_rfl) (by kernel_rfl)) ?_
  intro W base args ds gs before hval0 hW hcnd _
  have hval : ∀ (j : Nat) t v, Try.f7.params[j]? = some t → args[j]? = some v → Value.okWide Try.prog W .any base t v := hval0
  have hW' := hW
  obtain ⟨p, q, hA0, hV, rfl, hfz, hnd⟩ := hW
  have hA : DataW.TrodAll enc Try.prog W 0 (fun _ => true) true Try.f7.params.toList args.toList ds p := hA0
  rw [Try.params7] at hA hval
  obtain ⟨v0, vs0, d0, ds0, p0, q0, hargs, rfl, rfl, h0, r0⟩ := trodAll_cons hA
  obtain ⟨v1, vs1, d1, ds1, p1, q1, rfl, rfl, rfl, h1, r1⟩ := trodAll_cons r0
  obtain ⟨v2, vs2, d2, ds2, p2, q2, rfl, rfl, rfl, h2, r2⟩ := trodAll_cons r1
  obtain ⟨rfl, rfl, rfl⟩ := trodAll_nil r2
  obtain rfl : args = #[v0, v1, v2] := by cases args; simp_all
  obtain ⟨rfl, rfl⟩ := trodVars_none hV
  obtain ⟨a0, rfl, rfl, rfl, w0⟩ := open_int Try.underlying5 (hval 0 5 v0 rfl rfl) h0
  obtain ⟨a1, rfl, rfl, rfl, w1⟩ := open_int Try.underlying5 (hval 1 5 v1 rfl rfl) h1
  obtain ⟨a2, rfl, rfl, rfl, w2⟩ := open_int Try.underlying5 (hval 2 5 v2 rfl rfl) h2
  clear hA0 hval0
  refine (walk a0 a1 a2 W w0 w1 w2).mono fun e W' ⟨he, bel⟩ => ?_
  subst he
  exact ⟨_, rfl, _, _, _, [], _, [], hW', trodAll_mk1 (shut_bool Try.underlying4 _), (trodAll_cons_mk (shut_int Try.underlying5 w0) (trodAll_cons_mk (shut_int Try.underlying5 w1) (trodAll_cons_mk (shut_int Try.underlying5 w2) trodAll_mk0))), rfl, bel.frame _, fun h => by cases h⟩
theorem over : Rows.aesProductsRow.holds Try.pinned (OpenSpec.ofChange Rows.aesProductsSpec) :=
  OpenClaim.holds_of_wide 7 Try.f7 rfl rfl rfl rfl rfl rfl rfl ⟨rfl, rfl, rfl, rfl, rfl⟩ rfl rfl rfl rfl rfl (by kernel_rfl) Try.func7 (by kernel_rfl)
    (of_decide_eq_true (by kernel_rfl)) (by unfold Func.isWrapper; first | (rw [if_pos (by decide +kernel)]; kernel_rfl) | (rw [if_neg (by decide +kernel)]; exact ⟨rfl, rfl⟩))
    (fun os started H enc _ => lifted os started H enc)
/-- THE STATEMENT, proved. -/
theorem proved : Rows.AesProductsSaid := over
#print axioms proved
end Go.Proofs.Ytkkmcdimmjjokaa.aesProducts
