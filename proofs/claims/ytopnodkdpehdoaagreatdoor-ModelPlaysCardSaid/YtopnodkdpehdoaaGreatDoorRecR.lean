/- The document's Name, Right, Few: the walks of their texts. No conditions. -/
import Derived.Test.YtopnodkdpehdoaaGreatDoorLRek
namespace Go.Proofs.YtopnodkdpehdoaaGreatDoor.RecR
open Go.RowKit
open RecN RecC RecM RecP
set_option maxRecDepth 100000 in
theorem Name_no (s : List UInt8) (h : ¬ (1 ≤ s.length ∧ s.length ≤ 16)) (w : World) :
    Calls Tryz.prog 55 #[.string ⟨s.toArray⟩] w fun r w' => r = .returned (.bool false) ∧ w = w' := by
  have hz := size_mk s
  by_cases h0 : (s.length : Int) < 1
  · go_enter Tryz.func55, Tryz.ntmps55
    go_wp2
    go_ret
    exact ⟨rfl, rfl⟩
  · have h2 : (16 : Int) < (s.length : Int) := by omega
    go_enter Tryz.func55, Tryz.ntmps55
    go_wp2
    go_ret
    exact ⟨rfl, rfl⟩
set_option maxRecDepth 100000 in
theorem Name_some (s : List UInt8) (h : 1 ≤ s.length ∧ s.length ≤ 16) (q : Bool) (hq : isName s = q) (w : World) :
    Calls Tryz.prog 55 #[.string ⟨s.toArray⟩] w fun r w' => r = .returned (.bool q) ∧ w = w' := by
  have hz := size_mk s
  have h1 : ¬ (s.length : Int) < 1 := by omega
  have h2 : ¬ (16 : Int) < (s.length : Int) := by omega
  have HQ := Lib.hid hq
  have HH := Lib.hid h
  clear hq h
  go_enter Tryz.func55, Tryz.ntmps55
  go_wp2_with fail
  go_loopw [3, 4, 5] (fun i _ _ wr => ∃ k : Nat, k ≤ s.length ∧ i = .int .i64 k ∧ (s.take k).all letter = true ∧ w = wr) (fun i _ _ _ => s.length - (intOf i).toNat)
  case atStart => exact ⟨0, Nat.zero_le _, rfl, rfl, rfl⟩
  case round =>
    obtain ⟨k, hk, rfl, ha, rfl⟩ := hrel
    have HA := Lib.hid ha
    clear ha
    by_cases hlt : k < s.length
    · have hkl : (k : Int) < (s.length : Int) := by omega
      have hix := idx s k hlt
      have HS := Lib.hid (all_succ s k hlt)
      have HN : Hid (letter s[k] = false → isName s = false) := Lib.hid (name_no hlt)
      have HV : Hid (letter s[k] = (decide (97 ≤ s[k].toNat ∧ s[k].toNat ≤ 122) || decide (48 ≤ s[k].toNat ∧ s[k].toNat ≤ 57))) := Lib.hid rfl
      generalize letter s[k] = q2 at *
      generalize s[k].toNat = n at *
      by_cases a1 : (97 : Int) ≤ (n : Int)
      · have a3 : (48 : Int) ≤ (n : Int) := by omega
        have a4 : ¬ (n : Int) ≤ 57 := by omega
        by_cases a2 : (n : Int) ≤ 122
        · have hv := HV.out
          rw [dt (show 97 ≤ n ∧ n ≤ 122 by omega), Bool.true_or] at hv
          subst hv
          go_wp2_with fail
          go_roundw
          case rel => exact ⟨k + 1, by omega, by go_num, by rw [HS.out, HA.out]; rfl, trivial⟩
          case measure => simp [intOf]; omega
        · have hv := HV.out
          rw [df (show ¬ (97 ≤ n ∧ n ≤ 122) by omega), df (show ¬ (48 ≤ n ∧ n ≤ 57) by omega)] at hv
          subst hv
          have := HN.out rfl
          rw [HQ.out] at this
          subst this
          go_wp2_with fail
          go_ret
          exact ⟨rfl, rfl⟩
      · by_cases a3 : (48 : Int) ≤ (n : Int)
        · by_cases a4 : (n : Int) ≤ 57
          · have hv := HV.out
            rw [dt (show 48 ≤ n ∧ n ≤ 57 by omega), Bool.or_true] at hv
            subst hv
            go_wp2_with fail
            go_roundw
            case rel => exact ⟨k + 1, by omega, by go_num, by rw [HS.out, HA.out]; rfl, trivial⟩
            case measure => simp [intOf]; omega
          · have hv := HV.out
            rw [df (show ¬ (97 ≤ n ∧ n ≤ 122) by omega), df (show ¬ (48 ≤ n ∧ n ≤ 57) by omega)] at hv
            subst hv
            have := HN.out rfl
            rw [HQ.out] at this
            subst this
            go_wp2_with fail
            go_ret
            exact ⟨rfl, rfl⟩
        · have hv := HV.out
          rw [df (show ¬ (97 ≤ n ∧ n ≤ 122) by omega), df (show ¬ (48 ≤ n ∧ n ≤ 57) by omega)] at hv
          subst hv
          have := HN.out rfl
          rw [HQ.out] at this
          subst this
          go_wp2_with fail
          go_ret
          exact ⟨rfl, rfl⟩
    · obtain rfl : k = s.length := by omega
      have hkl : ¬ ((s.length : Nat) : Int) < (s.length : Int) := by omega
      have ha := HA.out
      rw [List.take_length] at ha
      have := name_yes HH.out ha
      rw [HQ.out] at this
      subst this
      clear ha HA
      go_wp2_with fail
      go_ret
      exact ⟨rfl, rfl⟩
/-- What the document's Name answers. -/
theorem Name (s : List UInt8) (w : World) :
    Calls Tryz.prog 55 #[.string ⟨s.toArray⟩] w fun r w' => r = .returned (.bool (isName s)) ∧ w = w' := by
  by_cases h : 1 ≤ s.length ∧ s.length ≤ 16
  · exact Name_some s h _ rfl w
  · rw [name_len_no h]
    exact Name_no s h w
def fewB (r : Rec) : Bool := decide (r.rt.length ≤ 5000 ∧ r.nm.length ≤ 5000)
end Go.Proofs.YtopnodkdpehdoaaGreatDoor.RecR
