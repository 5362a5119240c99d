/- What keepsakeref01.Ints answers of any two rows of numbers: whether they are the same. -/
import Derived.Test.YteinbhhocnjjoaaDoorRInts
namespace Go.Proofs.YteinbhhocnjjoaaDoor.DInts
open Go.RowKit
theorem unlike (a b : Option Addr) (n c d : Nat) (l m : List Int) (w : World) (B : Nat) (ha : Row w B a n l) (hb : Row w B b n m) (hne : l ≠ m) (hn : n ≤ 9223372036854775807) :
    Calls Tryd.prog 16 #[.slice a n c, .slice b n d] w fun e w' => e = .returned (.bool false) ∧ ∃ k, w' = w.drewN k := by
  have HA := Lib.hid ha
  have HB := Lib.hid hb
  have HN : Hid (¬ ∀ t, t < n → l.getD t 0 = m.getD t 0) := by
    show ¬ _
    intro hall
    apply hne
    refine List.ext_getElem (by rw [ha.1, hb.1]) fun i h1 h2 => ?_
    have := hall i (by have := ha.1; omega)
    simpa [List.getD, h1, h2] using this
  clear ha hb hne
  go_enter Tryd.func16, Tryd.ntmps16
  go_wp2_with fail
  go_loopw [5] (fun i wr => ∃ k j : Nat, k ≤ n ∧ i = .int .i64 k ∧ wr = w.drewN j ∧ ∀ t, t < k → l.getD t 0 = m.getD t 0) (fun i _ => n - (intOf i).toNat)
  case atStart => exact ⟨0, 0, Nat.zero_le _, rfl, rfl, fun t ht => absurd ht (by omega)⟩
  case round =>
    obtain ⟨k, j, hk, rfl, rfl, hall⟩ := hrel
    have HAL := Lib.hid hall
    clear hall
    by_cases hlt : k < n
    · obtain ⟨b1, o1, rfl, hb1, hc1⟩ := HA.out.2 (by omega)
      obtain ⟨b2, o2, rfl, hb2, hc2⟩ := HB.out.2 (by omega)
      have hx := hc1 k hlt
      have hy := hc2 k hlt
      clear hc1 hc2 hb1 hb2
      have HNX : Hid (l.getD k 0 = m.getD k 0 → ∀ t, t < k + 1 → l.getD t 0 = m.getD t 0) := by
        show _ → _
        intro he t ht
        by_cases h2 : t < k
        · exact HAL.out t h2
        · obtain rfl : t = k := by omega
          exact he
      by_cases he : l.getD k 0 = m.getD k 0
      · have HQ := Lib.hid (HNX.out he)
        rw [← he] at hy
        clear he HNX
        generalize l.getD k 0 = x at *
        have hne : (x != x) = false := by simp
        have q1 : (k : Int) < (n : Int) := by omega
        have q0 : (0 : Int) ≤ (k : Int) := by omega
        go_wp2_with fail
        go_quiet (fail)
        go_wp2_with fail
        go_roundw
        case rel => exact ⟨k + 1, _, by omega, by go_num, rfl, HQ.out⟩
        case measure => simp [intOf]; omega
      · have hne : (l.getD k 0 != m.getD k 0) = true := by rw [bne_iff_ne]; exact he
        clear he HNX
        generalize l.getD k 0 = x at *
        generalize m.getD k 0 = y at *
        have q1 : (k : Int) < (n : Int) := by omega
        have q0 : (0 : Int) ≤ (k : Int) := by omega
        go_wp2_with fail
        go_quiet (fail)
        go_wp2_with fail
        go_ret
        exact ⟨rfl, _, World.drewN_drewN _ _ _⟩
    · obtain rfl : k = n := by omega
      exact absurd HAL.out HN.out
/-- THE CONTRACT of keepsakeref01.Ints. -/
theorem any (a b : Option Addr) (n m c d : Nat) (l r : List Int) (w : World) (B : Nat) (ha : Row w B a n l) (hb : Row w B b m r) (hn : n ≤ 1000000) :
    Calls Tryd.prog 16 #[.slice a n c, .slice b m d] w fun e w' => e = .returned (.bool (decide (l = r))) ∧ ∃ k, w' = w.drewN k := by
  by_cases h : n = m
  · subst h
    by_cases hlr : l = r
    · subst hlr
      rw [decide_eq_true rfl]
      exact RInts.same a b n c d l w B ha hb (by omega)
    · rw [decide_eq_false hlr]
      exact unlike a b n c d l r w B ha hb hlr (by omega)
  · rw [decide_eq_false (fun e => h (by rw [← ha.1, ← hb.1, e]))]
    exact (RInts.other a b n m c d w (by rw [bne_iff_ne]; omega)).mono fun e w' ⟨h1, h2⟩ => ⟨h1, 0, h2.symm⟩
end Go.Proofs.YteinbhhocnjjoaaDoor.DInts
