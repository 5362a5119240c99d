/- What the document's answer for layer 2 takes for a prime: the walks of keepsakeref02.is, prime, pow and digit. -/
import Derived.Test.YtkaeeedjkegdlaaDoorRootN
import Derived.Test.YtkaeeedjkegdlaaDoorRRot
import Derived.Test.YtkaeeedjkegdlaaDoorSlice
namespace Go.Proofs.YtkaeeedjkegdlaaDoor.RPri
open Go.RowKit
open RootN
theorem free_stop (f p d : Nat) (h : ¬ d * d ≤ p) : free f p d = true := by
  cases f with
  | zero => rfl
  | succ f => rw [free, if_neg h]
theorem free_hit (f p d : Nat) (h : d * d ≤ p) (h0 : p % d = 0) (hf : 0 < f) : free f p d = false := by
  cases f with
  | zero => omega
  | succ f => rw [free, if_pos h, if_pos h0]
theorem free_next (f p d : Nat) (h : d * d ≤ p) (h0 : ¬ p % d = 0) (hf : 0 < f) : free f p d = free (f - 1) p (d + 1) := by
  cases f with
  | zero => omega
  | succ f => rw [free, if_pos h, if_neg h0]; rfl
theorem sq_le (d p : Nat) (h2 : 2 ≤ d) (h : d * d ≤ p) : d + d ≤ p := Nat.le_trans (by have := Nat.mul_le_mul_right d h2; omega) h
theorem is (p : Nat) (w : World) (hp : p ≤ 1000) :
    Calls Tryd.prog 55 #[.int .i64 p] w fun e w' => e = .returned (.bool (isp p)) ∧ w = w' := by
  go_enter Tryd.func55, Tryd.ntmps55
  go_wp2_with fail

  go_loop [3] (fun i => ∃ d : Nat, 2 ≤ d ∧ d ≤ 1000 ∧ i = .int .i64 d ∧ Hid (isp p = free (p - d) p d)) (fun i => 1001 - (intOf i).toNat)
  case atStart => exact ⟨2, by omega, by omega, rfl, rfl⟩
  case round =>
    obtain ⟨d, hd, hd1, rfl, hok⟩ := hrel
    by_cases hsq : d * d ≤ p
    · have hle := sq_le d p hd hsq
      have q1 : ((d : Int) * (d : Int)) ≤ (p : Int) := by exact_mod_cast hsq
      by_cases h0 : p % d = 0
      · have HP := Lib.hid (hok.out.trans (free_hit _ _ _ hsq h0 (by omega)))
        have q0 : ((p : Int)).tmod (d : Int) = 0 := by rw [← Int.ofNat_tmod]; omega
        go_wp2_with fail
        go_ret
        rw [HP.out]
        exact ⟨rfl, rfl⟩
      · have HP := Lib.hid (hok.out.trans (free_next _ _ _ hsq h0 (by omega)))
        go_wp2_with fail
        go_round
        case rel => exact ⟨d + 1, by omega, by omega, by go_num, by rw [Nat.sub_sub] at HP; exact HP⟩
        case measure => simp [intOf]; omega
    · have HP := Lib.hid (hok.out.trans (free_stop _ _ _ hsq))
      have hw : wrap64 ((d : Int) * (d : Int)) = ((d * d : Nat) : Int) := by
        have h := Nat.mul_le_mul hd1 hd1
        rw [← Int.natCast_mul]
        exact IntWalk.wrap64_in ((d * d : Nat) : Int) (by omega)
      have q1 : (((d * d : Nat) : Int) ≤ (p : Int)) = False := by simp only [eq_iff_iff, iff_false]; omega
      go_wp2_with fail
      go_ret
      rw [HP.out]
      exact ⟨rfl, rfl⟩
theorem pow (n : Nat) (w : World) (hn : n ≤ 40) :
    Calls Tryd.prog 53 #[.int .i64 n] w fun e w' => e = .returned (.int .i64 ((2 ^ n : Nat) : Int)) ∧ w = w' := by
  go_enter Tryd.func53, Tryd.ntmps53
  go_wp2_with fail
  go_loop [3, 4] (fun x i => ∃ (j y : Nat), j ≤ n ∧ i = .int .i64 j ∧ x = .int .i64 y ∧ Hid (y = 2 ^ j)) (fun _ i => n - (intOf i).toNat)
  case atStart => exact ⟨0, 1, Nat.zero_le _, rfl, rfl, rfl⟩
  case round =>
    obtain ⟨j, y, hj, rfl, rfl, hy⟩ := hrel
    by_cases hlt : j < n
    · have h1 : y * 2 = 2 ^ (j + 1) := by rw [hy.out, Nat.pow_succ]
      have h2 : y ≤ 1099511627776 := by
        rw [hy.out]
        exact Nat.pow_le_pow_right (by omega) (show j ≤ 40 by omega)
      have H1 := Lib.hid h1
      clear h1
      go_wp2_with fail
      go_round
      case rel => exact ⟨j + 1, 2 * y, by omega, by go_num, by go_num, by rw [Nat.mul_comm]; exact H1⟩
      case measure => simp [intOf]; omega
    · obtain rfl : n = j := by omega
      go_wp2_with fail
      go_ret
      rw [hy.out]
      exact ⟨rfl, rfl⟩
/-- Numbers as ints. -/
def zs (l : List Nat) : List Int := l.map fun x : Nat => (x : Int)
theorem zs_at (l : List Nat) (i : Nat) : (zs l).getD i 0 = ((l.getD i 0 : Nat) : Int) := by
  simp only [zs, List.getD, List.getElem?_map]
  cases l[i]? <;> rfl
theorem digit (a : Option Addr) (n c i : Nat) (l : List Nat) (w : World) (h : Row w w.heap.size a n (zs l)) (hn : n ≤ 1000) (hi : i ≤ 1000) :
    Calls Tryd.prog 64 #[.slice a n c, .int .i64 i] w fun e w' => e = .returned (.int .i64 ((l.getD i 0 : Nat) : Int)) ∧ w = w' := by
  have hl : l.length = n := by simpa [zs] using h.1
  by_cases hlt : i < n
  · obtain ⟨b1, o1, rfl, hb1, hc1⟩ := h.2 (by omega)
    have hx := hc1 i hlt
    rw [zs_at] at hx
    clear hc1 hb1 h hl
    generalize l.getD i 0 = x at *
    go_enter Tryd.func64, Tryd.ntmps64
    go_wp2
    go_ret
    exact ⟨rfl, rfl⟩
  · have hz : l.getD i 0 = 0 := by simp [List.getD, show l.length ≤ i from by omega]
    rw [hz]
    clear h hl hz
    go_enter Tryd.func64, Tryd.ntmps64
    go_wp2
    go_ret
    exact ⟨rfl, rfl⟩
theorem prime (n : Nat) (w : World) (hn : n < 64) :
    Calls Tryd.prog 40 #[.int .i64 n] w fun e w' => e = .returned (.int .i64 ((ps.getD (n + 1) 0 : Nat) : Int)) ∧ w = w' := by
  go_enter Tryd.func40, Tryd.ntmps40
  go_wp2_with fail
  go_loop [3, 4] (fun p k => ∃ (j y : Nat), j ≤ n + 1 ∧ k = .int .i64 j ∧ p = .int .i64 y ∧ Hid (y = ps.getD j 0)) (fun _ k => n + 1 - (intOf k).toNat)
  case atStart => exact ⟨0, 1, Nat.zero_le _, rfl, rfl, rfl⟩
  case round =>
    obtain ⟨j, y, hj, rfl, rfl, hy⟩ := hrel
    by_cases hlt : j ≤ n
    · obtain ⟨g1, g2, g3, g4, g5⟩ := ps_good j (by omega)
      rw [← hy.out] at g2 g4 g5
      obtain ⟨z, hz⟩ : ∃ z, z = ps.getD (j + 1) 0 := ⟨_, rfl⟩
      rw [← hz] at g1 g2 g3 g5
      have G1 := Lib.hid g1
      have G5 := Lib.hid g5
      have HZ := Lib.hid hz
      clear g1 g5 hz hy
      go_wp2_with fail
      go_loop [3] (fun p => ∃ x : Nat, y + 1 ≤ x ∧ x ≤ z ∧ p = .int .i64 x) (fun p => z - (intOf p).toNat)
      case atStart => exact ⟨y + 1, Nat.le_refl _, by omega, by go_num⟩
      case round =>
        obtain ⟨x, hx, hxz, rfl⟩ := hrel
        have his := is x w (by omega)
        by_cases hxe : x < z
        · have h0 := G5.out (x - y - 1) (by omega)
          rw [show y + 1 + (x - y - 1) = x from by omega] at h0
          rw [h0] at his
          have HIS := Lib.hid his
          clear his h0
          go_wp2_with (go_at_call 55; refine HIS.out.mono ?_; rintro e w' ⟨rfl, rfl⟩)
          go_round
          case rel => exact ⟨x + 1, by omega, by omega, by go_num⟩
          case measure => simp [intOf]; omega
        · obtain rfl : x = z := by omega
          rw [G1.out] at his
          have HIS := Lib.hid his
          clear his
          go_wp2_with (go_at_call 55; refine HIS.out.mono ?_; rintro e w' ⟨rfl, rfl⟩)
          go_round
          case rel => exact ⟨j + 1, x, by omega, by go_num, rfl, HZ⟩
          case measure => simp [intOf]; omega
    · obtain rfl : j = n + 1 := by omega
      go_wp2_with fail
      go_ret
      rw [hy.out]
      exact ⟨rfl, rfl⟩
end Go.Proofs.YtkaeeedjkegdlaaDoor.RPri
