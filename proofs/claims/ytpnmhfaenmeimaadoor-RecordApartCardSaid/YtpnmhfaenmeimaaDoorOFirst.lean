/- octet.first, over each of the closures that it is handed: it goes over the numbers below n, and answers the first error that the closure tells. -/
import Derived.Test.YtpnmhfaenmeimaaDoorSlice
import Derived.Test.YtpnmhfaenmeimaaDoorRows
namespace Go.Proofs.YtpnmhfaenmeimaaDoor.OFirst
open Go.RowKit
/-- All went well, and 'I n' stands; or an error was told, and 'Bad' stands. -/
def Post (I : Nat → World → Prop) (Bad : Int → World → Prop) (n : Nat) (e : Ending) (w' : World) : Prop :=
  (e = .returned (.int .i64 0) ∧ I n w') ∨ ∃ c : Int, c ≠ 0 ∧ e = .returned (.int .i64 c) ∧ Bad c w'
/-- One call of the closure. -/
def Step (I : Nat → World → Prop) (Bad : Int → World → Prop) (i : Nat) (e : Ending) (w' : World) : Prop :=
  ∃ c : Int, e = .returned (.int .i64 c) ∧ ((c = 0 ∧ I (i + 1) w') ∨ (c ≠ 0 ∧ Bad c w'))
theorem over_pack (n : Nat) (hn : n ≤ 140737488355328) (p q r : Value) (I : Nat → World → Prop) (Bad : Int → World → Prop)
    (hc : ∀ i W, i < n → I i W → Calls Tryd.prog 36 #[.int .i64 i, p, q, r] W (Step I Bad i)) (w : World) (h0 : I 0 w) :
    Calls Tryd.prog 35 #[.int .i64 n, .func (.func 36) #[] #[p, q, r]] w (Post I Bad n) := by
  have HC := Lib.hid hc
  have H0 := Lib.hid h0
  clear hc h0
  go_enter Tryd.func35, Tryd.ntmps35
  go_wp2_with fail
  go_loopw [8] (fun i wr => ∃ k : Nat, k ≤ n ∧ i = .int .i64 k ∧ I k wr) (fun i _ => n - (intOf i).toNat)
  case atStart => exact ⟨0, Nat.zero_le _, rfl, H0.out⟩
  case round =>
    obtain ⟨k, hk, rfl, hI⟩ := hrel
    by_cases hlt : k < n
    · have HI := Lib.hid hI
      clear hI
      go_wp2_with fail
      refine (HC.out k _ hlt HI.out).mono ?_
      rintro e w1 ⟨c, rfl, hr⟩
      rcases hr with ⟨rfl, hI1⟩ | ⟨hne, hB⟩
      · have HI1 := Lib.hid hI1
        clear hI1
        go_wp2_with fail
        go_roundw
        case rel => exact ⟨k + 1, by omega, by go_num, HI1.out⟩
        case measure => simp [intOf]; omega
      · have hb : (c != 0) = true := by rw [bne_iff_ne]; exact hne
        have HB := Lib.hid hB
        have HN := Lib.hid hne
        clear hB hne
        go_wp2_with fail
        go_ret
        exact .inr ⟨c, HN.out, rfl, HB.out⟩
    · obtain rfl : k = n := by omega
      have HI := Lib.hid hI
      clear hI
      go_wp2_with fail
      go_ret
      exact .inl ⟨rfl, HI.out⟩
theorem over_unpack1 (n : Nat) (hn : n ≤ 140737488355328) (p q : Value) (I : Nat → World → Prop) (Bad : Int → World → Prop)
    (hc : ∀ i W, i < n → I i W → Calls Tryd.prog 52 #[.int .i64 i, p, q] W (Step I Bad i)) (w : World) (h0 : I 0 w) :
    Calls Tryd.prog 35 #[.int .i64 n, .func (.func 52) #[] #[p, q]] w (Post I Bad n) := by
  have HC := Lib.hid hc
  have H0 := Lib.hid h0
  clear hc h0
  go_enter Tryd.func35, Tryd.ntmps35
  go_wp2_with fail
  go_loopw [8] (fun i wr => ∃ k : Nat, k ≤ n ∧ i = .int .i64 k ∧ I k wr) (fun i _ => n - (intOf i).toNat)
  case atStart => exact ⟨0, Nat.zero_le _, rfl, H0.out⟩
  case round =>
    obtain ⟨k, hk, rfl, hI⟩ := hrel
    by_cases hlt : k < n
    · have HI := Lib.hid hI
      clear hI
      go_wp2_with fail
      refine (HC.out k _ hlt HI.out).mono ?_
      rintro e w1 ⟨c, rfl, hr⟩
      rcases hr with ⟨rfl, hI1⟩ | ⟨hne, hB⟩
      · have HI1 := Lib.hid hI1
        clear hI1
        go_wp2_with fail
        go_roundw
        case rel => exact ⟨k + 1, by omega, by go_num, HI1.out⟩
        case measure => simp [intOf]; omega
      · have hb : (c != 0) = true := by rw [bne_iff_ne]; exact hne
        have HB := Lib.hid hB
        have HN := Lib.hid hne
        clear hB hne
        go_wp2_with fail
        go_ret
        exact .inr ⟨c, HN.out, rfl, HB.out⟩
    · obtain rfl : k = n := by omega
      have HI := Lib.hid hI
      clear hI
      go_wp2_with fail
      go_ret
      exact .inl ⟨rfl, HI.out⟩
theorem over_unpack2 (n : Nat) (hn : n ≤ 140737488355328) (p q r : Value) (I : Nat → World → Prop) (Bad : Int → World → Prop)
    (hc : ∀ i W, i < n → I i W → Calls Tryd.prog 53 #[.int .i64 i, p, q, r] W (Step I Bad i)) (w : World) (h0 : I 0 w) :
    Calls Tryd.prog 35 #[.int .i64 n, .func (.func 53) #[] #[p, q, r]] w (Post I Bad n) := by
  have HC := Lib.hid hc
  have H0 := Lib.hid h0
  clear hc h0
  go_enter Tryd.func35, Tryd.ntmps35
  go_wp2_with fail
  go_loopw [8] (fun i wr => ∃ k : Nat, k ≤ n ∧ i = .int .i64 k ∧ I k wr) (fun i _ => n - (intOf i).toNat)
  case atStart => exact ⟨0, Nat.zero_le _, rfl, H0.out⟩
  case round =>
    obtain ⟨k, hk, rfl, hI⟩ := hrel
    by_cases hlt : k < n
    · have HI := Lib.hid hI
      clear hI
      go_wp2_with fail
      refine (HC.out k _ hlt HI.out).mono ?_
      rintro e w1 ⟨c, rfl, hr⟩
      rcases hr with ⟨rfl, hI1⟩ | ⟨hne, hB⟩
      · have HI1 := Lib.hid hI1
        clear hI1
        go_wp2_with fail
        go_roundw
        case rel => exact ⟨k + 1, by omega, by go_num, HI1.out⟩
        case measure => simp [intOf]; omega
      · have hb : (c != 0) = true := by rw [bne_iff_ne]; exact hne
        have HB := Lib.hid hB
        have HN := Lib.hid hne
        clear hB hne
        go_wp2_with fail
        go_ret
        exact .inr ⟨c, HN.out, rfl, HB.out⟩
    · obtain rfl : k = n := by omega
      have HI := Lib.hid hI
      clear hI
      go_wp2_with fail
      go_ret
      exact .inl ⟨rfl, HI.out⟩
end Go.Proofs.YtpnmhfaenmeimaaDoor.OFirst
