/- record.within, isLetter, isDigit, isTarget, Name, widths, and the document's Name: the walks of their texts. No conditions but those that each lemma names. -/
import Derived.Test.YteldohopagdodaaRecM
import Derived.Deep.RegionHeld3
import Derived.Laws.ResultCell
namespace Go.Proofs.Yteldohopagdodaa.RecP
open Go.RowKit
open RecN RecC RecM
/-- Is a number from 0 to another? -/
def ins (n a : Int) : Bool := decide (0 ≤ n ∧ n ≤ a)
theorem ins_yes {n a : Int} (h0 : 0 ≤ n) (h1 : n ≤ a) : ins n a = true := decide_eq_true ⟨h0, h1⟩
theorem ins_lo {n a : Int} (h : ¬ 0 ≤ n) : ins n a = false := decide_eq_false (fun hh => h hh.1)
theorem ins_hi {n a : Int} (h : ¬ n ≤ a) : ins n a = false := decide_eq_false (fun hh => h hh.2)
/-- What record.within answers. -/
theorem within (n a : Int) (w : World) :
    Calls Try.prog 61 #[.int .i64 n, .int .i64 a] w fun r w' => r = .returned (.bool (ins n a)) ∧ w = w' := by
  by_cases h0 : 0 ≤ n
  · by_cases h1 : n ≤ a
    · rw [ins_yes h0 h1]
      go_enter Try.func61, Try.ntmps61
      go_wp2
      go_ret
      exact ⟨rfl, rfl⟩
    · rw [ins_hi h1]
      go_enter Try.func61, Try.ntmps61
      go_wp2
      go_ret
      exact ⟨rfl, rfl⟩
  · rw [ins_lo h0]
    go_enter Try.func61, Try.ntmps61
    go_wp2
    go_ret
    exact ⟨rfl, rfl⟩
def low_ (b : UInt8) : Bool := decide (97 ≤ b.toNat ∧ b.toNat ≤ 122)
def dig_ (b : UInt8) : Bool := decide (48 ≤ b.toNat ∧ b.toNat ≤ 57)
theorem letter_eq (b : UInt8) : letter b = (low_ b || dig_ b) := rfl
theorem isLetter (b : UInt8) (w : World) :
    Calls Try.prog 70 #[.int .u8 ((b.toNat : Nat) : Int)] w fun r w' => r = .returned (.bool (low_ b)) ∧ w = w' := by
  unfold low_
  generalize b.toNat = n
  by_cases h0 : (97 : Int) ≤ (n : Int)
  · by_cases h1 : (n : Int) ≤ 122
    · rw [dt (show 97 ≤ n ∧ n ≤ 122 by omega)]
      go_enter Try.func70, Try.ntmps70
      go_wp2
      go_ret
      exact ⟨rfl, rfl⟩
    · rw [df (show ¬ (97 ≤ n ∧ n ≤ 122) by omega)]
      go_enter Try.func70, Try.ntmps70
      go_wp2
      go_ret
      exact ⟨rfl, rfl⟩
  · rw [df (show ¬ (97 ≤ n ∧ n ≤ 122) by omega)]
    go_enter Try.func70, Try.ntmps70
    go_wp2
    go_ret
    exact ⟨rfl, rfl⟩
theorem isDigit (b : UInt8) (w : World) :
    Calls Try.prog 71 #[.int .u8 ((b.toNat : Nat) : Int)] w fun r w' => r = .returned (.bool (dig_ b)) ∧ w = w' := by
  unfold dig_
  generalize b.toNat = n
  by_cases h0 : (48 : Int) ≤ (n : Int)
  · by_cases h1 : (n : Int) ≤ 57
    · rw [dt (show 48 ≤ n ∧ n ≤ 57 by omega)]
      go_enter Try.func71, Try.ntmps71
      go_wp2
      go_ret
      exact ⟨rfl, rfl⟩
    · rw [df (show ¬ (48 ≤ n ∧ n ≤ 57) by omega)]
      go_enter Try.func71, Try.ntmps71
      go_wp2
      go_ret
      exact ⟨rfl, rfl⟩
  · rw [df (show ¬ (48 ≤ n ∧ n ≤ 57) by omega)]
    go_enter Try.func71, Try.ntmps71
    go_wp2
    go_ret
    exact ⟨rfl, rfl⟩
theorem all_succ (s : List UInt8) (k : Nat) (h : k < s.length) : (s.take (k + 1)).all letter = ((s.take k).all letter && letter s[k]) := by
  rw [List.take_succ_eq_append_getElem h, List.all_append]
  simp
theorem idx (s : List UInt8) (k : Nat) (h : k < s.length) (W : World) : (Instr.index 9 (.string ⟨s.toArray⟩) (.int .i64 ((k : Nat) : Int))).run Try.prog W = .ok (.int .u8 ((s[k].toNat : Nat) : Int)) W := by
  rw [run_index_string (P := Try.prog) (w := W) 9 ⟨s.toArray⟩ .i64 (k : Int) Try.underlying9, dif_pos ⟨by omega, by rw [size_mk]; omega⟩]
  rfl
theorem name_yes {s : List UInt8} (h : 1 ≤ s.length ∧ s.length ≤ 16) (ha : s.all letter = true) : isName s = true := by
  rw [isName, dt h, ha]; rfl
theorem name_no {s : List UInt8} {k : Nat} (hk : k < s.length) (hb : letter s[k] = false) : isName s = false := by
  have : s.all letter = false := by
    rw [Bool.eq_false_iff]
    intro hh
    rw [List.all_eq_true] at hh
    have := hh s[k] (List.getElem_mem hk)
    rw [hb] at this
    cases this
  rw [isName, this, Bool.and_false]
theorem name_len_no {s : List UInt8} (h : ¬ (1 ≤ s.length ∧ s.length ≤ 16)) : isName s = false := by
  rw [isName, df h, Bool.false_and]
set_option maxRecDepth 100000 in
theorem Name_no (s : List UInt8) (h : ¬ (1 ≤ s.length ∧ s.length ≤ 16)) (w : World) :
    Calls Try.prog 63 #[.string ⟨s.toArray⟩] w fun r w' => r = .returned (.bool false) ∧ w = w' := by
  have hz := size_mk s
  by_cases h0 : s = []
  · go_enter Try.func63, Try.ntmps63
    go_wp2
    go_ret
    exact ⟨rfl, rfl⟩
  · have h1 : (s == []) = false := by simpa using h0
    have h2 : (16 : Int) < (s.length : Int) := by
      have : s.length ≠ 0 := fun hh => h0 (List.length_eq_zero_iff.1 hh)
      omega
    go_enter Try.func63, Try.ntmps63
    go_wp2
    go_ret
    exact ⟨rfl, rfl⟩
set_option maxRecDepth 100000 in
theorem Name_some (s : List UInt8) (h : 1 ≤ s.length ∧ s.length ≤ 16) (q : Bool) (hq : isName s = q) (w : World) :
    Calls Try.prog 63 #[.string ⟨s.toArray⟩] w fun r w' => r = .returned (.bool q) ∧ w = w' := by
  have hz := size_mk s
  have h1 : (s == []) = false := by
    have : s ≠ [] := fun hh => by rw [hh] at h; simp at h
    simpa using this
  have h2 : ¬ (16 : Int) < (s.length : Int) := by omega
  have HQ := Lib.hid hq
  have HH := Lib.hid h
  clear hq h
  go_enter Try.func63, Try.ntmps63
  go_wp2_with fail
  go_loopw [3, 13] (fun _ i wr => ∃ k : Nat, k ≤ s.length ∧ i = .int .i64 k ∧ (s.take k).all letter = true ∧ w = wr) (fun _ i _ => s.length - (intOf i).toNat)
  case atStart => exact ⟨0, Nat.zero_le _, rfl, rfl, rfl⟩
  case round =>
    obtain ⟨k, hk, rfl, ha, rfl⟩ := hrel
    have HA := Lib.hid ha
    clear ha
    by_cases hlt : k < s.length
    · have hkl : (k : Int) < (s.length : Int) := by omega
      have hix := idx s k hlt
      have HL := Lib.hid (fun W => isLetter s[k] W)
      have HD := Lib.hid (fun W => isDigit s[k] W)
      have HS := Lib.hid (all_succ s k hlt)
      have HN : Hid (letter s[k] = false → isName s = false) := Lib.hid (name_no hlt)
      rw [letter_eq] at HS HN
      generalize s[k] = b at *
      generalize low_ b = q1 at *
      generalize dig_ b = q2 at *
      cases q1
      · cases q2
        · have := HN.out rfl
          rw [HQ.out] at this
          subst this
          go_wp2_with (first
            | (go_at_call 70; refine (HL.out _).mono ?_; rintro r _ ⟨rfl, rfl⟩; clear HL)
            | (go_at_call 71; refine (HD.out _).mono ?_; rintro r _ ⟨rfl, rfl⟩; clear HD))
          go_ret
          exact ⟨rfl, rfl⟩
        · go_wp2_with (first
            | (go_at_call 70; refine (HL.out _).mono ?_; rintro r _ ⟨rfl, rfl⟩; clear HL)
            | (go_at_call 71; refine (HD.out _).mono ?_; rintro r _ ⟨rfl, rfl⟩; clear HD))
          go_roundw
          case rel => exact ⟨k + 1, by omega, by go_num, by rw [HS.out, HA.out]; rfl, trivial⟩
          case measure => simp [intOf]; omega
      · go_wp2_with (first
          | (go_at_call 70; refine (HL.out _).mono ?_; rintro r _ ⟨rfl, rfl⟩; clear HL)
          | (go_at_call 71; refine (HD.out _).mono ?_; rintro r _ ⟨rfl, rfl⟩; clear HD))
        go_roundw
        case rel => exact ⟨k + 1, by omega, by go_num, by rw [HS.out, HA.out]; rfl, trivial⟩
        case measure => simp [intOf]; omega
    · obtain rfl : k = s.length := by omega
      have hkl : ¬ ((s.length : Nat) : Int) < (s.length : Int) := by omega
      have ha := HA.out
      rw [List.take_length] at ha
      have := name_yes HH.out ha
      rw [HQ.out] at this
      subst this
      clear ha HA
      go_wp2_with fail
      go_ret
      exact ⟨rfl, rfl⟩
/-- What record.Name answers. -/
theorem Name (s : List UInt8) (w : World) :
    Calls Try.prog 63 #[.string ⟨s.toArray⟩] w fun r w' => r = .returned (.bool (isName s)) ∧ w = w' := by
  by_cases h : 1 ≤ s.length ∧ s.length ≤ 16
  · exact Name_some s h _ rfl w
  · rw [name_len_no h]
    exact Name_no s h w
/-- What record.isTarget answers. -/
theorem isTarget (r : Rec) (h0 : 0 ≤ r.ep) (h1 : r.ep ≤ 4294967295) (w : World) :
    Calls Try.prog 62 #[.agg #[.int .i64 r.k, .int .i64 r.ep, .int .i64 r.tm, .int .i64 r.ct, .int .i64 r.tg, .int .i64 r.un, .string ⟨r.rt.toArray⟩, .string ⟨r.nm.toArray⟩]] w fun e w' => e = .returned (.bool (decide (aim r))) ∧ Below w.heap.size w w' := by
  obtain ⟨W1, hW1⟩ : ∃ W1, W1 = w.alloc (.cells #[.int .i64 r.k, .int .i64 r.ep, .int .i64 r.tm, .int .i64 r.ct, .int .i64 r.tg, .int .i64 r.un, .string ⟨r.rt.toArray⟩, .string ⟨r.nm.toArray⟩] 30) := ⟨_, rfl⟩
  have SS : Hid (Ws w r W1) := Lib.hid (by rw [hW1]; exact ws_new w r)
  obtain ⟨k0, k1, k2, k3, k4, k5, k6, k7⟩ := SS.out.k.cells
  have HI := Lib.hid (fun W => within r.tg (r.ep - 1) W)
  have he : ins r.tg (r.ep - 1) = decide (aim r) := by
    unfold ins
    rw [decide_eq_decide]
    unfold aim
    omega
  rw [he] at HI
  clear he
  generalize decide (aim r) = q at *
  go_enter Try.func62, Try.ntmps62
  go_upto_region 1 with (fail)
  rw [← hW1]
  clear hW1
  go_wp2_with (go_at_call 61; refine (HI.out _).mono ?_; rintro e _ ⟨rfl, rfl⟩)
  go_ret
  exact ⟨rfl, SS.out.bel⟩
end Go.Proofs.Yteldohopagdodaa.RecP
