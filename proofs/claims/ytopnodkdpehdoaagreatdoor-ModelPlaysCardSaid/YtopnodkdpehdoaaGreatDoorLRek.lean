/- RecM RecP RecS RecK: one behind the other. -/
import Derived.Test.YtopnodkdpehdoaaGreatDoorRecC
import Derived.Lib.ItoaNum
import Derived.Lib.Join
import Derived.Deep.RegionHeld3
import Derived.Laws.ResultCell
import Derived.BigRegion
/- Plain mathematics: what a record's kind says of it, and a record in words. No program is reached here; no conditions but those that each lemma names. -/
namespace Go.Proofs.YtopnodkdpehdoaaGreatDoor.RecM
open RecN RecC
/-- What the kind says of the record. -/
def said (r : Rec) : Rec :=
  if r.k = 1 then ⟨r.k, r.ep, r.tm, r.ct, 0, 0, r.rt, []⟩
  else if r.k = 2 ∨ r.k = 5 then ⟨r.k, r.ep, r.tm, 0, r.tg, r.un, [], []⟩
  else if r.k = 3 then ⟨r.k, r.ep, r.tm, 0, r.tg, 0, [], r.nm⟩
  else if r.k = 4 then ⟨r.k, r.ep, r.tm, 0, 0, 0, [], r.nm⟩
  else ⟨r.k, r.ep, r.tm, 0, 0, 0, [], []⟩
theorem said1 {r : Rec} (h : r.k = 1) : said r = ⟨r.k, r.ep, r.tm, r.ct, 0, 0, r.rt, []⟩ := if_pos h
theorem said2 {r : Rec} (h : r.k = 2 ∨ r.k = 5) : said r = ⟨r.k, r.ep, r.tm, 0, r.tg, r.un, [], []⟩ := by
  rw [said, if_neg (by omega), if_pos h]
theorem said3 {r : Rec} (h : r.k = 3) : said r = ⟨r.k, r.ep, r.tm, 0, r.tg, 0, [], r.nm⟩ := by
  rw [said, if_neg (by omega), if_neg (by omega), if_pos h]
theorem said4 {r : Rec} (h : r.k = 4) : said r = ⟨r.k, r.ep, r.tm, 0, 0, 0, [], r.nm⟩ := by
  rw [said, if_neg (by omega), if_neg (by omega), if_neg (by omega), if_pos h]
theorem said0 {r : Rec} (h : r.k ≠ 1 ∧ r.k ≠ 2 ∧ r.k ≠ 3 ∧ r.k ≠ 4 ∧ r.k ≠ 5) : said r = ⟨r.k, r.ep, r.tm, 0, 0, 0, [], []⟩ := by
  rw [said, if_neg (by omega), if_neg (by omega), if_neg (by omega), if_neg (by omega)]
/-- What the kind asks of what it says. -/
def asks (r : Rec) : Prop := (r.k = 1 ∧ 0 ≤ r.ct ∧ r.ct ≤ 4096 ∧ r.rt.length = 32) ∨ (r.k = 2 ∧ aim r ∧ RecN.due r) ∨ (r.k = 3 ∧ aim r ∧ isName r.nm = true) ∨ (r.k = 4 ∧ isName r.nm = true) ∨ (r.k = 5 ∧ aim r ∧ RecN.due r)
instance (r : Rec) : Decidable (asks r) := inferInstanceAs (Decidable (_ ∨ _ ∨ _ ∨ _ ∨ _))
def may (r : Rec) : Prop := low r ∧ asks r
instance (r : Rec) : Decidable (may r) := inferInstanceAs (Decidable (_ ∧ _))
/-- A record may be, if it is what its kind says of it, and that may be said. -/
theorem right_iff (r : Rec) : right r ↔ r = said r ∧ may r := by
  unfold right may fit asks fit1 fit2 fit3 fit4
  constructor
  · rintro ⟨hl, h⟩
    rcases h with ⟨hk, b1, b2, b3, b4, b5, b6⟩ | ⟨hk, b1, b2, b3, b4, b5⟩ | ⟨hk, b1, b2, b3, b4, b5⟩ | ⟨hk, b1, b2, b3, b4, b5⟩ | ⟨hk, b1, b2, b3, b4, b5⟩
    · exact ⟨by rw [said1 hk]; exact same rfl rfl rfl rfl b4 b5 rfl b6, hl, .inl ⟨hk, b1, b2, b3⟩⟩
    · exact ⟨by rw [said2 (.inl hk)]; exact same rfl rfl rfl b3 rfl rfl b4 b5, hl, .inr (.inl ⟨hk, b1, b2⟩)⟩
    · exact ⟨by rw [said3 hk]; exact same rfl rfl rfl b4 rfl b3 b5 rfl, hl, .inr (.inr (.inl ⟨hk, b1, b2⟩))⟩
    · exact ⟨by rw [said4 hk]; exact same rfl rfl rfl b4 b2 b3 b5 rfl, hl, .inr (.inr (.inr (.inl ⟨hk, b1⟩)))⟩
    · exact ⟨by rw [said2 (.inr hk)]; exact same rfl rfl rfl b3 rfl rfl b4 b5, hl, .inr (.inr (.inr (.inr ⟨hk, b1, b2⟩)))⟩
  · rintro ⟨e, hl, h⟩
    rw [eq_iff] at e
    obtain ⟨e1, e2, e3, e4, e5, e6, e7, e8⟩ := e
    refine ⟨hl, ?_⟩
    rcases h with ⟨hk, b1, b2, b3⟩ | ⟨hk, b1, b2⟩ | ⟨hk, b1, b2⟩ | ⟨hk, b1⟩ | ⟨hk, b1, b2⟩
    · rw [said1 hk] at e5 e6 e8
      exact .inl ⟨hk, b1, b2, b3, e5, e6, e8⟩
    · rw [said2 (.inl hk)] at e4 e7 e8
      exact .inr (.inl ⟨hk, b1, b2, e4, e7, e8⟩)
    · rw [said3 hk] at e4 e6 e7
      exact .inr (.inr (.inl ⟨hk, b1, b2, e6, e4, e7⟩))
    · rw [said4 hk] at e4 e5 e6 e7
      exact .inr (.inr (.inr (.inl ⟨hk, b1, e5, e6, e4, e7⟩)))
    · rw [said2 (.inr hk)] at e4 e7 e8
      exact .inr (.inr (.inr (.inr ⟨hk, b1, b2, e4, e7, e8⟩)))
/-- A number from 0 on in decimal digits. -/
def dec (n : Int) : List UInt8 := Lib.decDigits n.toNat
theorem itoa_dec {n : Int} (h : 0 ≤ n) : Lib.itoa n = dec n := by rw [Lib.itoa, if_neg (by omega)]; rfl
theorem digits_len : ∀ (k u : Nat), u < 10 ^ k → (Lib.decDigits u).length ≤ k ∨ k = 0
  | 0, _, _ => .inr rfl
  | k + 1, u, h => by
    by_cases hu : u < 10
    · rw [Lib.decDigits_one hu]; left; simp
    · rw [Lib.decDigits, dif_neg hu, List.length_append]
      rw [Nat.pow_succ] at h
      rcases digits_len k (u / 10) (by omega) with hh | hh
      · left; simp; omega
      · subst hh; simp at h; omega
theorem dec_len {n : Int} (h0 : 0 ≤ n) (h1 : n ≤ 1099511627776) : (dec n).length ≤ 13 := by
  rcases digits_len 13 n.toNat (by omega) with h | h
  · exact h
  · omega
def wClose : List UInt8 := [99, 108, 111, 115, 101]
def wRetain : List UInt8 := [114, 101, 116, 97, 105, 110]
def wHold : List UInt8 := [104, 111, 108, 100]
def wRelease : List UInt8 := [114, 101, 108, 101, 97, 115, 101]
def wPurge : List UInt8 := [112, 117, 114, 103, 101]
def wAt : List UInt8 := [97, 116]
/-- A record in words. -/
def words (r : Rec) : List (List UInt8) :=
  if r.k = 1 then [wClose, dec r.ep, dec r.ct]
  else if r.k = 2 then [wRetain, dec r.tg, dec r.un]
  else if r.k = 3 then [wHold, r.nm, dec r.tg]
  else if r.k = 4 then [wRelease, r.nm]
  else [wPurge, dec r.tg, dec r.un]
def told (r : Rec) : List UInt8 := Lib.join (words r ++ [wAt, dec r.tm]) [32]
def shown (r : Rec) : List UInt8 := if right r then told r else []
/-- As the document says it. -/
def front (r : Rec) : List UInt8 :=
  if r.k = 1 then wClose ++ [32] ++ dec r.ep ++ [32] ++ dec r.ct
  else if r.k = 2 then wRetain ++ [32] ++ dec r.tg ++ [32] ++ dec r.un
  else if r.k = 3 then wHold ++ [32] ++ r.nm ++ [32] ++ dec r.tg
  else if r.k = 4 then wRelease ++ [32] ++ r.nm
  else wPurge ++ [32] ++ dec r.tg ++ [32] ++ dec r.un
theorem told_front (r : Rec) : told r = front r ++ ([32] ++ wAt ++ [32]) ++ dec r.tm := by
  unfold told words front
  split
  · simp [Lib.join_cons, Lib.joinTail]
  split
  · simp [Lib.join_cons, Lib.joinTail]
  split
  · simp [Lib.join_cons, Lib.joinTail]
  split
  · simp [Lib.join_cons, Lib.joinTail]
  · simp [Lib.join_cons, Lib.joinTail]
theorem told_some (r : Rec) : told r ≠ [] := by
  rw [told_front]
  intro h
  have := congrArg List.length h
  simp [wAt] at this
theorem words_count (r : Rec) : (words r).length ≤ 3 := by
  unfold words
  repeat' split
  all_goals simp
theorem front_len {r : Rec} (h : right r) : (front r).length ≤ 60 := by
  obtain ⟨h1, h2, h3, h4, h5, h6, _, h8⟩ := bounds h
  have d1 := dec_len h2.1 (by omega)
  have d2 := dec_len h4.1 (by omega)
  have d3 := dec_len h5.1 (by omega)
  have d4 := dec_len h6.1 (by omega)
  unfold front
  repeat' split
  all_goals
    simp [wClose, wRetain, wHold, wRelease, wPurge]
    omega
theorem told_len {r : Rec} (h : right r) : (told r).length ≤ 100 := by
  have h1 := front_len h
  have h2 := (bounds h).2.2.1
  have h3 := dec_len h2.1 h2.2
  rw [told_front]
  simp [wAt]
  omega
/-- The chapter's example. -/
def ex : Rec := ⟨3, 4, 9, 0, 2, 0, [], [97]⟩
theorem ex_right : right ex := by decide
theorem ex_told : told ex = [104, 111, 108, 100, 32, 97, 32, 50, 32, 97, 116, 32, 57] := by
  rw [told_front]
  show wHold ++ [32] ++ [97] ++ [32] ++ Lib.decDigits 2 ++ ([32] ++ wAt ++ [32]) ++ Lib.decDigits 9 = _
  rw [Lib.decDigits_one (by decide), Lib.decDigits_one (by decide)]
  decide
end Go.Proofs.YtopnodkdpehdoaaGreatDoor.RecM
/- record.within, isLetter, isDigit, isTarget, Name, widths, and the document's Name: the walks of their texts. No conditions but those that each lemma names. -/
namespace Go.Proofs.YtopnodkdpehdoaaGreatDoor.RecP
open Go.RowKit
open RecN RecC RecM
/-- Is a number from 0 to another? -/
def ins (n a : Int) : Bool := decide (0 ≤ n ∧ n ≤ a)
theorem ins_yes {n a : Int} (h0 : 0 ≤ n) (h1 : n ≤ a) : ins n a = true := decide_eq_true ⟨h0, h1⟩
theorem ins_lo {n a : Int} (h : ¬ 0 ≤ n) : ins n a = false := decide_eq_false (fun hh => h hh.1)
theorem ins_hi {n a : Int} (h : ¬ n ≤ a) : ins n a = false := decide_eq_false (fun hh => h hh.2)
/-- What record.within answers. -/
theorem within (n a : Int) (w : World) :
    Calls Tryz.prog 133 #[.int .i64 n, .int .i64 a] w fun r w' => r = .returned (.bool (ins n a)) ∧ w = w' := by
  by_cases h0 : 0 ≤ n
  · by_cases h1 : n ≤ a
    · rw [ins_yes h0 h1]
      go_enter Tryz.func133, Tryz.ntmps133
      go_wp2
      go_ret
      exact ⟨rfl, rfl⟩
    · rw [ins_hi h1]
      go_enter Tryz.func133, Tryz.ntmps133
      go_wp2
      go_ret
      exact ⟨rfl, rfl⟩
  · rw [ins_lo h0]
    go_enter Tryz.func133, Tryz.ntmps133
    go_wp2
    go_ret
    exact ⟨rfl, rfl⟩
def low_ (b : UInt8) : Bool := decide (97 ≤ b.toNat ∧ b.toNat ≤ 122)
def dig_ (b : UInt8) : Bool := decide (48 ≤ b.toNat ∧ b.toNat ≤ 57)
theorem letter_eq (b : UInt8) : letter b = (low_ b || dig_ b) := rfl
theorem isLetter (b : UInt8) (w : World) :
    Calls Tryz.prog 119 #[.int .u8 ((b.toNat : Nat) : Int)] w fun r w' => r = .returned (.bool (low_ b)) ∧ w = w' := by
  unfold low_
  generalize b.toNat = n
  by_cases h0 : (97 : Int) ≤ (n : Int)
  · by_cases h1 : (n : Int) ≤ 122
    · rw [dt (show 97 ≤ n ∧ n ≤ 122 by omega)]
      go_enter Tryz.func119, Tryz.ntmps119
      go_wp2
      go_ret
      exact ⟨rfl, rfl⟩
    · rw [df (show ¬ (97 ≤ n ∧ n ≤ 122) by omega)]
      go_enter Tryz.func119, Tryz.ntmps119
      go_wp2
      go_ret
      exact ⟨rfl, rfl⟩
  · rw [df (show ¬ (97 ≤ n ∧ n ≤ 122) by omega)]
    go_enter Tryz.func119, Tryz.ntmps119
    go_wp2
    go_ret
    exact ⟨rfl, rfl⟩
theorem isDigit (b : UInt8) (w : World) :
    Calls Tryz.prog 120 #[.int .u8 ((b.toNat : Nat) : Int)] w fun r w' => r = .returned (.bool (dig_ b)) ∧ w = w' := by
  unfold dig_
  generalize b.toNat = n
  by_cases h0 : (48 : Int) ≤ (n : Int)
  · by_cases h1 : (n : Int) ≤ 57
    · rw [dt (show 48 ≤ n ∧ n ≤ 57 by omega)]
      go_enter Tryz.func120, Tryz.ntmps120
      go_wp2
      go_ret
      exact ⟨rfl, rfl⟩
    · rw [df (show ¬ (48 ≤ n ∧ n ≤ 57) by omega)]
      go_enter Tryz.func120, Tryz.ntmps120
      go_wp2
      go_ret
      exact ⟨rfl, rfl⟩
  · rw [df (show ¬ (48 ≤ n ∧ n ≤ 57) by omega)]
    go_enter Tryz.func120, Tryz.ntmps120
    go_wp2
    go_ret
    exact ⟨rfl, rfl⟩
theorem all_succ (s : List UInt8) (k : Nat) (h : k < s.length) : (s.take (k + 1)).all letter = ((s.take k).all letter && letter s[k]) := by
  rw [List.take_succ_eq_append_getElem h, List.all_append]
  simp
theorem idx (s : List UInt8) (k : Nat) (h : k < s.length) (W : World) : (Instr.index 9 (.string ⟨s.toArray⟩) (.int .i64 ((k : Nat) : Int))).run Tryz.prog W = .ok (.int .u8 ((s[k].toNat : Nat) : Int)) W := by
  rw [run_index_string (P := Tryz.prog) (w := W) 9 ⟨s.toArray⟩ .i64 (k : Int) Tryz.underlying9, dif_pos ⟨by omega, by rw [size_mk]; omega⟩]
  rfl
theorem name_yes {s : List UInt8} (h : 1 ≤ s.length ∧ s.length ≤ 16) (ha : s.all letter = true) : isName s = true := by
  rw [isName, dt h, ha]; rfl
theorem name_no {s : List UInt8} {k : Nat} (hk : k < s.length) (hb : letter s[k] = false) : isName s = false := by
  have : s.all letter = false := by
    rw [Bool.eq_false_iff]
    intro hh
    rw [List.all_eq_true] at hh
    have := hh s[k] (List.getElem_mem hk)
    rw [hb] at this
    cases this
  rw [isName, this, Bool.and_false]
theorem name_len_no {s : List UInt8} (h : ¬ (1 ≤ s.length ∧ s.length ≤ 16)) : isName s = false := by
  rw [isName, df h, Bool.false_and]
set_option maxRecDepth 100000 in
theorem Name_no (s : List UInt8) (h : ¬ (1 ≤ s.length ∧ s.length ≤ 16)) (w : World) :
    Calls Tryz.prog 108 #[.string ⟨s.toArray⟩] w fun r w' => r = .returned (.bool false) ∧ w = w' := by
  have hz := size_mk s
  by_cases h0 : s = []
  · go_enter Tryz.func108, Tryz.ntmps108
    go_wp2
    go_ret
    exact ⟨rfl, rfl⟩
  · have h1 : (s == []) = false := by simpa using h0
    have h2 : (16 : Int) < (s.length : Int) := by
      have : s.length ≠ 0 := fun hh => h0 (List.length_eq_zero_iff.1 hh)
      omega
    go_enter Tryz.func108, Tryz.ntmps108
    go_wp2
    go_ret
    exact ⟨rfl, rfl⟩
set_option maxRecDepth 100000 in
theorem Name_some (s : List UInt8) (h : 1 ≤ s.length ∧ s.length ≤ 16) (q : Bool) (hq : isName s = q) (w : World) :
    Calls Tryz.prog 108 #[.string ⟨s.toArray⟩] w fun r w' => r = .returned (.bool q) ∧ w = w' := by
  have hz := size_mk s
  have h1 : (s == []) = false := by
    have : s ≠ [] := fun hh => by rw [hh] at h; simp at h
    simpa using this
  have h2 : ¬ (16 : Int) < (s.length : Int) := by omega
  have HQ := Lib.hid hq
  have HH := Lib.hid h
  clear hq h
  go_enter Tryz.func108, Tryz.ntmps108
  go_wp2_with fail
  go_loopw [3, 13] (fun _ i wr => ∃ k : Nat, k ≤ s.length ∧ i = .int .i64 k ∧ (s.take k).all letter = true ∧ w = wr) (fun _ i _ => s.length - (intOf i).toNat)
  case atStart => exact ⟨0, Nat.zero_le _, rfl, rfl, rfl⟩
  case round =>
    obtain ⟨k, hk, rfl, ha, rfl⟩ := hrel
    have HA := Lib.hid ha
    clear ha
    by_cases hlt : k < s.length
    · have hkl : (k : Int) < (s.length : Int) := by omega
      have hix := idx s k hlt
      have HL := Lib.hid (fun W => isLetter s[k] W)
      have HD := Lib.hid (fun W => isDigit s[k] W)
      have HS := Lib.hid (all_succ s k hlt)
      have HN : Hid (letter s[k] = false → isName s = false) := Lib.hid (name_no hlt)
      rw [letter_eq] at HS HN
      generalize s[k] = b at *
      generalize low_ b = q1 at *
      generalize dig_ b = q2 at *
      cases q1
      · cases q2
        · have := HN.out rfl
          rw [HQ.out] at this
          subst this
          go_wp2_with (first
            | (go_at_call 119; refine (HL.out _).mono ?_; rintro r _ ⟨rfl, rfl⟩; clear HL)
            | (go_at_call 120; refine (HD.out _).mono ?_; rintro r _ ⟨rfl, rfl⟩; clear HD))
          go_ret
          exact ⟨rfl, rfl⟩
        · go_wp2_with (first
            | (go_at_call 119; refine (HL.out _).mono ?_; rintro r _ ⟨rfl, rfl⟩; clear HL)
            | (go_at_call 120; refine (HD.out _).mono ?_; rintro r _ ⟨rfl, rfl⟩; clear HD))
          go_roundw
          case rel => exact ⟨k + 1, by omega, by go_num, by rw [HS.out, HA.out]; rfl, trivial⟩
          case measure => simp [intOf]; omega
      · go_wp2_with (first
          | (go_at_call 119; refine (HL.out _).mono ?_; rintro r _ ⟨rfl, rfl⟩; clear HL)
          | (go_at_call 120; refine (HD.out _).mono ?_; rintro r _ ⟨rfl, rfl⟩; clear HD))
        go_roundw
        case rel => exact ⟨k + 1, by omega, by go_num, by rw [HS.out, HA.out]; rfl, trivial⟩
        case measure => simp [intOf]; omega
    · obtain rfl : k = s.length := by omega
      have hkl : ¬ ((s.length : Nat) : Int) < (s.length : Int) := by omega
      have ha := HA.out
      rw [List.take_length] at ha
      have := name_yes HH.out ha
      rw [HQ.out] at this
      subst this
      clear ha HA
      go_wp2_with fail
      go_ret
      exact ⟨rfl, rfl⟩
/-- What record.Name answers. -/
theorem Name (s : List UInt8) (w : World) :
    Calls Tryz.prog 108 #[.string ⟨s.toArray⟩] w fun r w' => r = .returned (.bool (isName s)) ∧ w = w' := by
  by_cases h : 1 ≤ s.length ∧ s.length ≤ 16
  · exact Name_some s h _ rfl w
  · rw [name_len_no h]
    exact Name_no s h w
/-- What record.isTarget answers. -/
theorem isTarget (r : Rec) (h0 : 0 ≤ r.ep) (h1 : r.ep ≤ 4294967295) (w : World) :
    Calls Tryz.prog 134 #[.agg #[.int .i64 r.k, .int .i64 r.ep, .int .i64 r.tm, .int .i64 r.ct, .int .i64 r.tg, .int .i64 r.un, .string ⟨r.rt.toArray⟩, .string ⟨r.nm.toArray⟩]] w fun e w' => e = .returned (.bool (decide (aim r))) ∧ Below w.heap.size w w' := by
  obtain ⟨W1, hW1⟩ : ∃ W1, W1 = w.alloc (.cells #[.int .i64 r.k, .int .i64 r.ep, .int .i64 r.tm, .int .i64 r.ct, .int .i64 r.tg, .int .i64 r.un, .string ⟨r.rt.toArray⟩, .string ⟨r.nm.toArray⟩] 82) := ⟨_, rfl⟩
  have SS : Hid (Ws w r W1) := Lib.hid (by rw [hW1]; exact ws_new w r)
  obtain ⟨k0, k1, k2, k3, k4, k5, k6, k7⟩ := SS.out.k.cells
  have HI := Lib.hid (fun W => within r.tg (r.ep - 1) W)
  have he : ins r.tg (r.ep - 1) = decide (aim r) := by
    unfold ins
    rw [decide_eq_decide]
    unfold aim
    omega
  rw [he] at HI
  clear he
  generalize decide (aim r) = q at *
  go_enter Tryz.func134, Tryz.ntmps134
  go_upto_region 1 with (fail)
  rw [← hW1]
  clear hW1
  go_wp2_with (go_at_call 133; refine (HI.out _).mono ?_; rintro e _ ⟨rfl, rfl⟩)
  go_ret
  exact ⟨rfl, SS.out.bel⟩
end Go.Proofs.YtopnodkdpehdoaaGreatDoor.RecP
/- record.said: the walk of its text. No conditions. -/
namespace Go.Proofs.YtopnodkdpehdoaaGreatDoor.RecS
open Go.RowKit
open RecN RecC RecM RecP
/-- What stands behind said's first lines: the record, the result's block, what is said so far. -/
structure Three (w : World) (r : Rec) (cs : Array Value) (W : World) : Prop where
  bel : Below w.heap.size w W
  k : Bk W w.heap.size r
  z : W.heap[w.heap.size + 1]? = some (.cells #[.int .i64 0, .int .i64 0, .int .i64 0, .int .i64 0, .int .i64 0, .int .i64 0, .string ⟨#[]⟩, .string ⟨#[]⟩] 82 (0, 0))
  s : W.heap[w.heap.size + 2]? = some (.cells cs 82 (0, 0))
theorem Three.new (w W1 W2 : World) (r : Rec) (cs : Array Value) (h1 : W1 = w.alloc (.cells #[.int .i64 r.k, .int .i64 r.ep, .int .i64 r.tm, .int .i64 r.ct, .int .i64 r.tg, .int .i64 r.un, .string ⟨r.rt.toArray⟩, .string ⟨r.nm.toArray⟩] 82)) (h2 : W2 = W1.alloc (.cells #[.int .i64 0, .int .i64 0, .int .i64 0, .int .i64 0, .int .i64 0, .int .i64 0, .string ⟨#[]⟩, .string ⟨#[]⟩] 82)) : Three w r cs (W2.alloc (.cells cs 82)) := by
  have hs1 : W1.heap.size = w.heap.size + 1 := by rw [h1]; simp
  have hs2 : W2.heap.size = w.heap.size + 2 := by rw [h2]; simp [hs1]
  have SS : Ws w r W2 := by rw [h2, h1]; exact (ws_new w r).step (below_new _ _)
  have NN : W2.heap[w.heap.size + 1]? = some (.cells #[.int .i64 0, .int .i64 0, .int .i64 0, .int .i64 0, .int .i64 0, .int .i64 0, .string ⟨#[]⟩, .string ⟨#[]⟩] 82 (0, 0)) := by rw [h2, ← hs1]; exact heap_alloc_new W1 _
  have TT := SS.step (below_new W2 (.cells cs 82))
  exact ⟨TT.bel, TT.k, ((below_new W2 _).block _ (lt_of_some NN)).trans NN, by rw [← hs2]; exact heap_alloc_new W2 _⟩
theorem Three.set {w W : World} {r : Rec} {cs : Array Value} (h : Three w r cs W) (i : Nat) (v : Value) : Three w r (cs.setIfInBounds i v) (W.setCell ⟨w.heap.size + 2, i, none⟩ v) :=
  ⟨h.bel.setCell (p := ⟨w.heap.size + 2, i, none⟩) (by simp) v, by
    show _ = _
    rw [heap_setCell_other _ _ _ _ (by simp)]
    exact h.k, by
    rw [heap_setCell_other _ _ _ _ (by simp)]
    exact h.z, blk_set h.s⟩
theorem Three.drew {w W : World} {r : Rec} {cs : Array Value} (h : Three w r cs W) : Three w r cs W.drew := ⟨h.bel.drew, h.k, h.z, h.s⟩
theorem Three.cells {w W : World} {r : Rec} {cs : Array Value} (h : Three w r cs W) : W.cell? ⟨w.heap.size, 0, none⟩ = some (.int .i64 r.k) ∧ W.cell? ⟨w.heap.size, 1, none⟩ = some (.int .i64 r.ep) ∧ W.cell? ⟨w.heap.size, 2, none⟩ = some (.int .i64 r.tm) ∧ W.cell? ⟨w.heap.size, 3, none⟩ = some (.int .i64 r.ct) ∧ W.cell? ⟨w.heap.size, 4, none⟩ = some (.int .i64 r.tg) ∧ W.cell? ⟨w.heap.size, 5, none⟩ = some (.int .i64 r.un) ∧ W.cell? ⟨w.heap.size, 6, none⟩ = some (.string ⟨r.rt.toArray⟩) ∧ W.cell? ⟨w.heap.size, 7, none⟩ = some (.string ⟨r.nm.toArray⟩) := h.k.cells
theorem Three.free {w W : World} {r : Rec} {cs : Array Value} (h : Three w r cs W) (i : Nat) : W.frozen? ⟨w.heap.size + 2, i, none⟩ = false := blk_free h.s
theorem cells8 {W : World} {X : Nat} {a b c d e f g h : Value} {t : TypeId} (hh : W.heap[X]? = some (.cells #[a, b, c, d, e, f, g, h] t (0, 0))) : W.cell? ⟨X, 0, none⟩ = some a ∧ W.cell? ⟨X, 1, none⟩ = some b ∧ W.cell? ⟨X, 2, none⟩ = some c ∧ W.cell? ⟨X, 3, none⟩ = some d ∧ W.cell? ⟨X, 4, none⟩ = some e ∧ W.cell? ⟨X, 5, none⟩ = some f ∧ W.cell? ⟨X, 6, none⟩ = some g ∧ W.cell? ⟨X, 7, none⟩ = some h :=
  ⟨blk_cell hh rfl, blk_cell hh rfl, blk_cell hh rfl, blk_cell hh rfl, blk_cell hh rfl, blk_cell hh rfl, blk_cell hh rfl, blk_cell hh rfl⟩
set_option maxRecDepth 100000 in
theorem said_0 (r : Rec) (hk : r.k ≠ 1 ∧ r.k ≠ 2 ∧ r.k ≠ 3 ∧ r.k ≠ 4 ∧ r.k ≠ 5) (w : World) :
    Calls Tryz.prog 128 #[.agg #[.int .i64 r.k, .int .i64 r.ep, .int .i64 r.tm, .int .i64 r.ct, .int .i64 r.tg, .int .i64 r.un, .string ⟨r.rt.toArray⟩, .string ⟨r.nm.toArray⟩]] w fun e w' => e = .returned (.agg #[.int .i64 r.k, .int .i64 r.ep, .int .i64 r.tm, .int .i64 0, .int .i64 0, .int .i64 0, .string ⟨#[]⟩, .string ⟨#[]⟩]) ∧ Below w.heap.size w w' := by
  obtain ⟨W1, hW1⟩ : ∃ W1, W1 = w.alloc (.cells #[.int .i64 r.k, .int .i64 r.ep, .int .i64 r.tm, .int .i64 r.ct, .int .i64 r.tg, .int .i64 r.un, .string ⟨r.rt.toArray⟩, .string ⟨r.nm.toArray⟩] 82) := ⟨_, rfl⟩
  obtain ⟨W2, hW2⟩ : ∃ W2, W2 = W1.alloc (.cells #[.int .i64 0, .int .i64 0, .int .i64 0, .int .i64 0, .int .i64 0, .int .i64 0, .string ⟨#[]⟩, .string ⟨#[]⟩] 82) := ⟨_, rfl⟩
  have hs1 : W1.heap.size = w.heap.size + 1 := by rw [hW1]; simp
  have hs2 : W2.heap.size = w.heap.size + 2 := by rw [hW2]; simp [hs1]
  have TT := Lib.hid (Three.new w W1 W2 r #[.int .i64 r.k, .int .i64 r.ep, .int .i64 r.tm, .int .i64 0, .int .i64 0, .int .i64 0, .string ⟨#[]⟩, .string ⟨#[]⟩] hW1 hW2)
  have SS : Hid (Ws w r W2) := Lib.hid (by rw [hW2, hW1]; exact (ws_new w r).step (below_new _ _))
  obtain ⟨k0, k1, k2, k3, k4, k5, k6, k7⟩ := SS.out.k.cells
  have t1 : (r.k == 1) = false := by rw [beq_eq_false_iff_ne]; omega
  have t2 : (r.k == 2) = false := by rw [beq_eq_false_iff_ne]; omega
  have t5 : (r.k == 5) = false := by rw [beq_eq_false_iff_ne]; omega
  have t3 : (r.k == 3) = false := by rw [beq_eq_false_iff_ne]; omega
  have t4 : (r.k == 4) = false := by rw [beq_eq_false_iff_ne]; omega
  clear hk
  go_enter Tryz.func128, Tryz.ntmps128
  go_upto_region 1 with (fail)
  rw [← hW1, ← hW2]
  clear hW1 hW2 hs1
  go_upto_region 2 with (fail)
  generalize World.alloc W2 _ = W3 at *
  clear SS k0 k1 k2 k3 k4 k5 k6 k7
  obtain ⟨k0, k1, k2, k3, k4, k5, k6, k7⟩ := TT.out.cells
  go_upto_region 12 with (fail)
  have g := TT.out.s
  obtain ⟨s0, s1, s2, s3, s4, s5, s6, s7⟩ := cells8 g
  go_wp2_with (refine wpList_store_row rfl 82 _ _ rfl (w.heap.size + 1) _ rfl rfl 82 _ TT.out.z infoR rfl (by simp [Value.oneCell']) ?_)
  refine bodyPost_ret (v := .agg #[.int .i64 r.k, .int .i64 r.ep, .int .i64 r.tm, .int .i64 0, .int .i64 0, .int .i64 0, .string ⟨#[]⟩, .string ⟨#[]⟩])
    (results_cell_row Tryz.results128 _ _ (w.heap.size + 1) 82 _ (0, 0) _ rfl (setRow_same TT.out.z) Tryz.underlying82 rfl infoR) rfl
    ⟨rfl, below_setRow TT.out.bel (by omega) _⟩
set_option maxRecDepth 100000 in
theorem said_4 (r : Rec) (hk : r.k = 4) (w : World) :
    Calls Tryz.prog 128 #[.agg #[.int .i64 r.k, .int .i64 r.ep, .int .i64 r.tm, .int .i64 r.ct, .int .i64 r.tg, .int .i64 r.un, .string ⟨r.rt.toArray⟩, .string ⟨r.nm.toArray⟩]] w fun e w' => e = .returned (.agg #[.int .i64 r.k, .int .i64 r.ep, .int .i64 r.tm, .int .i64 0, .int .i64 0, .int .i64 0, .string ⟨#[]⟩, .string ⟨r.nm.toArray⟩]) ∧ Below w.heap.size w w' := by
  obtain ⟨W1, hW1⟩ : ∃ W1, W1 = w.alloc (.cells #[.int .i64 r.k, .int .i64 r.ep, .int .i64 r.tm, .int .i64 r.ct, .int .i64 r.tg, .int .i64 r.un, .string ⟨r.rt.toArray⟩, .string ⟨r.nm.toArray⟩] 82) := ⟨_, rfl⟩
  obtain ⟨W2, hW2⟩ : ∃ W2, W2 = W1.alloc (.cells #[.int .i64 0, .int .i64 0, .int .i64 0, .int .i64 0, .int .i64 0, .int .i64 0, .string ⟨#[]⟩, .string ⟨#[]⟩] 82) := ⟨_, rfl⟩
  have hs1 : W1.heap.size = w.heap.size + 1 := by rw [hW1]; simp
  have hs2 : W2.heap.size = w.heap.size + 2 := by rw [hW2]; simp [hs1]
  have TT := Lib.hid (Three.new w W1 W2 r #[.int .i64 r.k, .int .i64 r.ep, .int .i64 r.tm, .int .i64 0, .int .i64 0, .int .i64 0, .string ⟨#[]⟩, .string ⟨#[]⟩] hW1 hW2)
  have SS : Hid (Ws w r W2) := Lib.hid (by rw [hW2, hW1]; exact (ws_new w r).step (below_new _ _))
  obtain ⟨k0, k1, k2, k3, k4, k5, k6, k7⟩ := SS.out.k.cells
  have t1 : (r.k == 1) = false := by rw [hk]; rfl
  have t2 : (r.k == 2) = false := by rw [hk]; rfl
  have t5 : (r.k == 5) = false := by rw [hk]; rfl
  have t3 : (r.k == 3) = false := by rw [hk]; rfl
  have t4 : (r.k == 4) = true := by rw [hk]; rfl
  clear hk
  go_enter Tryz.func128, Tryz.ntmps128
  go_upto_region 1 with (fail)
  rw [← hW1, ← hW2]
  clear hW1 hW2 hs1
  go_upto_region 2 with (fail)
  generalize World.alloc W2 _ = W3 at *
  clear SS k0 k1 k2 k3 k4 k5 k6 k7
  obtain ⟨k0, k1, k2, k3, k4, k5, k6, k7⟩ := TT.out.cells
  have f7 := TT.out.free 7
  have c7 := (cells8 TT.out.s).2.2.2.2.2.2.2
  go_upto_region 12 with (fail)
  have TU := Lib.hid (TT.out.set 7 (.string ⟨r.nm.toArray⟩))
  generalize World.setCell W3 _ _ = W4 at *
  clear TT k0 k1 k2 k3 k4 k5 k6 k7 f7 c7
  have TT := TU
  clear TU
  obtain ⟨s0, s1, s2, s3, s4, s5, s6, s7⟩ := cells8 TT.out.s
  go_wp2_with (refine wpList_store_row rfl 82 _ _ rfl (w.heap.size + 1) _ rfl rfl 82 _ TT.out.z infoR rfl (by simp [Value.oneCell']) ?_)
  refine bodyPost_ret (v := .agg #[.int .i64 r.k, .int .i64 r.ep, .int .i64 r.tm, .int .i64 0, .int .i64 0, .int .i64 0, .string ⟨#[]⟩, .string ⟨r.nm.toArray⟩])
    (results_cell_row Tryz.results128 _ _ (w.heap.size + 1) 82 _ (0, 0) _ rfl (setRow_same TT.out.z) Tryz.underlying82 rfl infoR) rfl
    ⟨rfl, below_setRow TT.out.bel (by omega) _⟩
set_option maxRecDepth 100000 in
theorem said_3 (r : Rec) (hk : r.k = 3) (w : World) :
    Calls Tryz.prog 128 #[.agg #[.int .i64 r.k, .int .i64 r.ep, .int .i64 r.tm, .int .i64 r.ct, .int .i64 r.tg, .int .i64 r.un, .string ⟨r.rt.toArray⟩, .string ⟨r.nm.toArray⟩]] w fun e w' => e = .returned (.agg #[.int .i64 r.k, .int .i64 r.ep, .int .i64 r.tm, .int .i64 0, .int .i64 r.tg, .int .i64 0, .string ⟨#[]⟩, .string ⟨r.nm.toArray⟩]) ∧ Below w.heap.size w w' := by
  obtain ⟨W1, hW1⟩ : ∃ W1, W1 = w.alloc (.cells #[.int .i64 r.k, .int .i64 r.ep, .int .i64 r.tm, .int .i64 r.ct, .int .i64 r.tg, .int .i64 r.un, .string ⟨r.rt.toArray⟩, .string ⟨r.nm.toArray⟩] 82) := ⟨_, rfl⟩
  obtain ⟨W2, hW2⟩ : ∃ W2, W2 = W1.alloc (.cells #[.int .i64 0, .int .i64 0, .int .i64 0, .int .i64 0, .int .i64 0, .int .i64 0, .string ⟨#[]⟩, .string ⟨#[]⟩] 82) := ⟨_, rfl⟩
  have hs1 : W1.heap.size = w.heap.size + 1 := by rw [hW1]; simp
  have hs2 : W2.heap.size = w.heap.size + 2 := by rw [hW2]; simp [hs1]
  have TT := Lib.hid (Three.new w W1 W2 r #[.int .i64 r.k, .int .i64 r.ep, .int .i64 r.tm, .int .i64 0, .int .i64 0, .int .i64 0, .string ⟨#[]⟩, .string ⟨#[]⟩] hW1 hW2)
  have SS : Hid (Ws w r W2) := Lib.hid (by rw [hW2, hW1]; exact (ws_new w r).step (below_new _ _))
  obtain ⟨k0, k1, k2, k3, k4, k5, k6, k7⟩ := SS.out.k.cells
  have t1 : (r.k == 1) = false := by rw [hk]; rfl
  have t2 : (r.k == 2) = false := by rw [hk]; rfl
  have t5 : (r.k == 5) = false := by rw [hk]; rfl
  have t3 : (r.k == 3) = true := by rw [hk]; rfl
  clear hk
  go_enter Tryz.func128, Tryz.ntmps128
  go_upto_region 1 with (fail)
  rw [← hW1, ← hW2]
  clear hW1 hW2 hs1
  go_upto_region 2 with (fail)
  generalize World.alloc W2 _ = W3 at *
  clear SS k0 k1 k2 k3 k4 k5 k6 k7
  obtain ⟨k0, k1, k2, k3, k4, k5, k6, k7⟩ := TT.out.cells
  have f4 := TT.out.free 4
  have c4 := (cells8 TT.out.s).2.2.2.2.1
  go_upto_region 11 with (fail)
  have TU := Lib.hid (TT.out.set 4 (.int .i64 r.tg))
  generalize World.setCell W3 _ _ = W4 at *
  clear TT k0 k1 k2 k3 k4 k5 k6 k7 f4 c4
  have TT := TU
  clear TU
  obtain ⟨k0, k1, k2, k3, k4, k5, k6, k7⟩ := TT.out.cells
  have f7 := TT.out.free 7
  have c7 := (cells8 TT.out.s).2.2.2.2.2.2.2
  go_upto_region 12 with (fail)
  have TU := Lib.hid (TT.out.set 7 (.string ⟨r.nm.toArray⟩))
  generalize World.setCell W4 _ _ = W5 at *
  clear TT k0 k1 k2 k3 k4 k5 k6 k7 f7 c7
  have TT := TU
  clear TU
  obtain ⟨s0, s1, s2, s3, s4, s5, s6, s7⟩ := cells8 TT.out.s
  go_wp2_with (refine wpList_store_row rfl 82 _ _ rfl (w.heap.size + 1) _ rfl rfl 82 _ TT.out.z infoR rfl (by simp [Value.oneCell']) ?_)
  refine bodyPost_ret (v := .agg #[.int .i64 r.k, .int .i64 r.ep, .int .i64 r.tm, .int .i64 0, .int .i64 r.tg, .int .i64 0, .string ⟨#[]⟩, .string ⟨r.nm.toArray⟩])
    (results_cell_row Tryz.results128 _ _ (w.heap.size + 1) 82 _ (0, 0) _ rfl (setRow_same TT.out.z) Tryz.underlying82 rfl infoR) rfl
    ⟨rfl, below_setRow TT.out.bel (by omega) _⟩
set_option maxRecDepth 100000 in
theorem said_1 (r : Rec) (hk : r.k = 1) (w : World) :
    Calls Tryz.prog 128 #[.agg #[.int .i64 r.k, .int .i64 r.ep, .int .i64 r.tm, .int .i64 r.ct, .int .i64 r.tg, .int .i64 r.un, .string ⟨r.rt.toArray⟩, .string ⟨r.nm.toArray⟩]] w fun e w' => e = .returned (.agg #[.int .i64 r.k, .int .i64 r.ep, .int .i64 r.tm, .int .i64 r.ct, .int .i64 0, .int .i64 0, .string ⟨r.rt.toArray⟩, .string ⟨#[]⟩]) ∧ Below w.heap.size w w' := by
  obtain ⟨W1, hW1⟩ : ∃ W1, W1 = w.alloc (.cells #[.int .i64 r.k, .int .i64 r.ep, .int .i64 r.tm, .int .i64 r.ct, .int .i64 r.tg, .int .i64 r.un, .string ⟨r.rt.toArray⟩, .string ⟨r.nm.toArray⟩] 82) := ⟨_, rfl⟩
  obtain ⟨W2, hW2⟩ : ∃ W2, W2 = W1.alloc (.cells #[.int .i64 0, .int .i64 0, .int .i64 0, .int .i64 0, .int .i64 0, .int .i64 0, .string ⟨#[]⟩, .string ⟨#[]⟩] 82) := ⟨_, rfl⟩
  have hs1 : W1.heap.size = w.heap.size + 1 := by rw [hW1]; simp
  have hs2 : W2.heap.size = w.heap.size + 2 := by rw [hW2]; simp [hs1]
  have TT := Lib.hid (Three.new w W1 W2 r #[.int .i64 r.k, .int .i64 r.ep, .int .i64 r.tm, .int .i64 0, .int .i64 0, .int .i64 0, .string ⟨#[]⟩, .string ⟨#[]⟩] hW1 hW2)
  have SS : Hid (Ws w r W2) := Lib.hid (by rw [hW2, hW1]; exact (ws_new w r).step (below_new _ _))
  obtain ⟨k0, k1, k2, k3, k4, k5, k6, k7⟩ := SS.out.k.cells
  have t1 : (r.k == 1) = true := by rw [hk]; rfl
  clear hk
  go_enter Tryz.func128, Tryz.ntmps128
  go_upto_region 1 with (fail)
  rw [← hW1, ← hW2]
  clear hW1 hW2 hs1
  go_upto_region 2 with (fail)
  generalize World.alloc W2 _ = W3 at *
  clear SS k0 k1 k2 k3 k4 k5 k6 k7
  obtain ⟨k0, k1, k2, k3, k4, k5, k6, k7⟩ := TT.out.cells
  have TU := Lib.hid (TT.out.set 3 (.int .i64 r.ct))
  have TV := Lib.hid (TT.out.set 6 (.string ⟨r.rt.toArray⟩))
  obtain ⟨s0, s1, s2, s3, s4, s5, s6, s7⟩ := cells8 TT.out.s
  obtain ⟨u0, u1, u2, u3, u4, u5, u6, u7⟩ := cells8 TU.out.s
  obtain ⟨v0, v1, v2, v3, v4, v5, v6, v7⟩ := cells8 TV.out.s
  have fa := TT.out.free 3
  have fb := TT.out.free 6
  have fu := TU.out.free 6
  have fv := TV.out.free 3
  obtain ⟨l0, l1, l2, l3, l4, l5, l6, l7⟩ := TU.out.cells
  go_upto_region 8 with (fail)
  go_region
  have TW := Lib.hid ((TU.out.set 6 (.string ⟨r.rt.toArray⟩)).drew)
  clear TT TU TV s0 s1 s2 s3 s4 s5 s6 s7 u0 u1 u2 u3 u4 u5 u6 u7 v0 v1 v2 v3 v4 v5 v6 v7 l0 l1 l2 l3 l4 l5 l6 l7 k0 k1 k2 k3 k4 k5 k6 k7 fa fb fu fv
  generalize World.drew _ = W4 at *
  have TT := TW
  clear TW
  go_upto_region 12 with (fail)
  obtain ⟨s0, s1, s2, s3, s4, s5, s6, s7⟩ := cells8 TT.out.s
  go_wp2_with (refine wpList_store_row rfl 82 _ _ rfl (w.heap.size + 1) _ rfl rfl 82 _ TT.out.z infoR rfl (by simp [Value.oneCell']) ?_)
  refine bodyPost_ret (v := .agg #[.int .i64 r.k, .int .i64 r.ep, .int .i64 r.tm, .int .i64 r.ct, .int .i64 0, .int .i64 0, .string ⟨r.rt.toArray⟩, .string ⟨#[]⟩])
    (results_cell_row Tryz.results128 _ _ (w.heap.size + 1) 82 _ (0, 0) _ rfl (setRow_same TT.out.z) Tryz.underlying82 rfl infoR) rfl
    ⟨rfl, below_setRow TT.out.bel (by omega) _⟩
set_option maxRecDepth 100000 in
theorem said_2 (r : Rec) (hk : r.k = 2) (w : World) :
    Calls Tryz.prog 128 #[.agg #[.int .i64 r.k, .int .i64 r.ep, .int .i64 r.tm, .int .i64 r.ct, .int .i64 r.tg, .int .i64 r.un, .string ⟨r.rt.toArray⟩, .string ⟨r.nm.toArray⟩]] w fun e w' => e = .returned (.agg #[.int .i64 r.k, .int .i64 r.ep, .int .i64 r.tm, .int .i64 0, .int .i64 r.tg, .int .i64 r.un, .string ⟨#[]⟩, .string ⟨#[]⟩]) ∧ Below w.heap.size w w' := by
  obtain ⟨W1, hW1⟩ : ∃ W1, W1 = w.alloc (.cells #[.int .i64 r.k, .int .i64 r.ep, .int .i64 r.tm, .int .i64 r.ct, .int .i64 r.tg, .int .i64 r.un, .string ⟨r.rt.toArray⟩, .string ⟨r.nm.toArray⟩] 82) := ⟨_, rfl⟩
  obtain ⟨W2, hW2⟩ : ∃ W2, W2 = W1.alloc (.cells #[.int .i64 0, .int .i64 0, .int .i64 0, .int .i64 0, .int .i64 0, .int .i64 0, .string ⟨#[]⟩, .string ⟨#[]⟩] 82) := ⟨_, rfl⟩
  have hs1 : W1.heap.size = w.heap.size + 1 := by rw [hW1]; simp
  have hs2 : W2.heap.size = w.heap.size + 2 := by rw [hW2]; simp [hs1]
  have TT := Lib.hid (Three.new w W1 W2 r #[.int .i64 r.k, .int .i64 r.ep, .int .i64 r.tm, .int .i64 0, .int .i64 0, .int .i64 0, .string ⟨#[]⟩, .string ⟨#[]⟩] hW1 hW2)
  have SS : Hid (Ws w r W2) := Lib.hid (by rw [hW2, hW1]; exact (ws_new w r).step (below_new _ _))
  obtain ⟨k0, k1, k2, k3, k4, k5, k6, k7⟩ := SS.out.k.cells
  have t1 : (r.k == 1) = false := by rw [hk]; rfl
  have t2 : (r.k == 2) = true := by rw [hk]; rfl
  clear hk
  go_enter Tryz.func128, Tryz.ntmps128
  go_upto_region 1 with (fail)
  rw [← hW1, ← hW2]
  clear hW1 hW2 hs1
  go_upto_region 2 with (fail)
  generalize World.alloc W2 _ = W3 at *
  clear SS k0 k1 k2 k3 k4 k5 k6 k7
  obtain ⟨k0, k1, k2, k3, k4, k5, k6, k7⟩ := TT.out.cells
  have TU := Lib.hid (TT.out.set 4 (.int .i64 r.tg))
  have TV := Lib.hid (TT.out.set 5 (.int .i64 r.un))
  obtain ⟨s0, s1, s2, s3, s4, s5, s6, s7⟩ := cells8 TT.out.s
  obtain ⟨u0, u1, u2, u3, u4, u5, u6, u7⟩ := cells8 TU.out.s
  obtain ⟨v0, v1, v2, v3, v4, v5, v6, v7⟩ := cells8 TV.out.s
  have fa := TT.out.free 4
  have fb := TT.out.free 5
  have fu := TU.out.free 5
  have fv := TV.out.free 4
  obtain ⟨l0, l1, l2, l3, l4, l5, l6, l7⟩ := TU.out.cells
  go_upto_region 9 with (fail)
  go_region
  have TW := Lib.hid ((TU.out.set 5 (.int .i64 r.un)).drew)
  clear TT TU TV s0 s1 s2 s3 s4 s5 s6 s7 u0 u1 u2 u3 u4 u5 u6 u7 v0 v1 v2 v3 v4 v5 v6 v7 l0 l1 l2 l3 l4 l5 l6 l7 k0 k1 k2 k3 k4 k5 k6 k7 fa fb fu fv
  generalize World.drew _ = W4 at *
  have TT := TW
  clear TW
  go_upto_region 12 with (fail)
  obtain ⟨s0, s1, s2, s3, s4, s5, s6, s7⟩ := cells8 TT.out.s
  go_wp2_with (refine wpList_store_row rfl 82 _ _ rfl (w.heap.size + 1) _ rfl rfl 82 _ TT.out.z infoR rfl (by simp [Value.oneCell']) ?_)
  refine bodyPost_ret (v := .agg #[.int .i64 r.k, .int .i64 r.ep, .int .i64 r.tm, .int .i64 0, .int .i64 r.tg, .int .i64 r.un, .string ⟨#[]⟩, .string ⟨#[]⟩])
    (results_cell_row Tryz.results128 _ _ (w.heap.size + 1) 82 _ (0, 0) _ rfl (setRow_same TT.out.z) Tryz.underlying82 rfl infoR) rfl
    ⟨rfl, below_setRow TT.out.bel (by omega) _⟩
set_option maxRecDepth 100000 in
theorem said_5 (r : Rec) (hk : r.k = 5) (w : World) :
    Calls Tryz.prog 128 #[.agg #[.int .i64 r.k, .int .i64 r.ep, .int .i64 r.tm, .int .i64 r.ct, .int .i64 r.tg, .int .i64 r.un, .string ⟨r.rt.toArray⟩, .string ⟨r.nm.toArray⟩]] w fun e w' => e = .returned (.agg #[.int .i64 r.k, .int .i64 r.ep, .int .i64 r.tm, .int .i64 0, .int .i64 r.tg, .int .i64 r.un, .string ⟨#[]⟩, .string ⟨#[]⟩]) ∧ Below w.heap.size w w' := by
  obtain ⟨W1, hW1⟩ : ∃ W1, W1 = w.alloc (.cells #[.int .i64 r.k, .int .i64 r.ep, .int .i64 r.tm, .int .i64 r.ct, .int .i64 r.tg, .int .i64 r.un, .string ⟨r.rt.toArray⟩, .string ⟨r.nm.toArray⟩] 82) := ⟨_, rfl⟩
  obtain ⟨W2, hW2⟩ : ∃ W2, W2 = W1.alloc (.cells #[.int .i64 0, .int .i64 0, .int .i64 0, .int .i64 0, .int .i64 0, .int .i64 0, .string ⟨#[]⟩, .string ⟨#[]⟩] 82) := ⟨_, rfl⟩
  have hs1 : W1.heap.size = w.heap.size + 1 := by rw [hW1]; simp
  have hs2 : W2.heap.size = w.heap.size + 2 := by rw [hW2]; simp [hs1]
  have TT := Lib.hid (Three.new w W1 W2 r #[.int .i64 r.k, .int .i64 r.ep, .int .i64 r.tm, .int .i64 0, .int .i64 0, .int .i64 0, .string ⟨#[]⟩, .string ⟨#[]⟩] hW1 hW2)
  have SS : Hid (Ws w r W2) := Lib.hid (by rw [hW2, hW1]; exact (ws_new w r).step (below_new _ _))
  obtain ⟨k0, k1, k2, k3, k4, k5, k6, k7⟩ := SS.out.k.cells
  have t1 : (r.k == 1) = false := by rw [hk]; rfl
  have t2 : (r.k == 2) = false := by rw [hk]; rfl
  have t5 : (r.k == 5) = true := by rw [hk]; rfl
  clear hk
  go_enter Tryz.func128, Tryz.ntmps128
  go_upto_region 1 with (fail)
  rw [← hW1, ← hW2]
  clear hW1 hW2 hs1
  go_upto_region 2 with (fail)
  generalize World.alloc W2 _ = W3 at *
  clear SS k0 k1 k2 k3 k4 k5 k6 k7
  obtain ⟨k0, k1, k2, k3, k4, k5, k6, k7⟩ := TT.out.cells
  have TU := Lib.hid (TT.out.set 4 (.int .i64 r.tg))
  have TV := Lib.hid (TT.out.set 5 (.int .i64 r.un))
  obtain ⟨s0, s1, s2, s3, s4, s5, s6, s7⟩ := cells8 TT.out.s
  obtain ⟨u0, u1, u2, u3, u4, u5, u6, u7⟩ := cells8 TU.out.s
  obtain ⟨v0, v1, v2, v3, v4, v5, v6, v7⟩ := cells8 TV.out.s
  have fa := TT.out.free 4
  have fb := TT.out.free 5
  have fu := TU.out.free 5
  have fv := TV.out.free 4
  obtain ⟨l0, l1, l2, l3, l4, l5, l6, l7⟩ := TU.out.cells
  go_upto_region 9 with (fail)
  go_region
  have TW := Lib.hid ((TU.out.set 5 (.int .i64 r.un)).drew)
  clear TT TU TV s0 s1 s2 s3 s4 s5 s6 s7 u0 u1 u2 u3 u4 u5 u6 u7 v0 v1 v2 v3 v4 v5 v6 v7 l0 l1 l2 l3 l4 l5 l6 l7 k0 k1 k2 k3 k4 k5 k6 k7 fa fb fu fv
  generalize World.drew _ = W4 at *
  have TT := TW
  clear TW
  go_upto_region 12 with (fail)
  obtain ⟨s0, s1, s2, s3, s4, s5, s6, s7⟩ := cells8 TT.out.s
  go_wp2_with (refine wpList_store_row rfl 82 _ _ rfl (w.heap.size + 1) _ rfl rfl 82 _ TT.out.z infoR rfl (by simp [Value.oneCell']) ?_)
  refine bodyPost_ret (v := .agg #[.int .i64 r.k, .int .i64 r.ep, .int .i64 r.tm, .int .i64 0, .int .i64 r.tg, .int .i64 r.un, .string ⟨#[]⟩, .string ⟨#[]⟩])
    (results_cell_row Tryz.results128 _ _ (w.heap.size + 1) 82 _ (0, 0) _ rfl (setRow_same TT.out.z) Tryz.underlying82 rfl infoR) rfl
    ⟨rfl, below_setRow TT.out.bel (by omega) _⟩
/-- What record.said answers. -/
theorem said (r : Rec) (w : World) :
    Calls Tryz.prog 128 #[.agg #[.int .i64 r.k, .int .i64 r.ep, .int .i64 r.tm, .int .i64 r.ct, .int .i64 r.tg, .int .i64 r.un, .string ⟨r.rt.toArray⟩, .string ⟨r.nm.toArray⟩]] w fun e w' => e = .returned (.agg #[.int .i64 (RecM.said r).k, .int .i64 (RecM.said r).ep, .int .i64 (RecM.said r).tm, .int .i64 (RecM.said r).ct, .int .i64 (RecM.said r).tg, .int .i64 (RecM.said r).un, .string ⟨(RecM.said r).rt.toArray⟩, .string ⟨(RecM.said r).nm.toArray⟩]) ∧ Below w.heap.size w w' := by
  by_cases h1 : r.k = 1
  · rw [said1 h1]; exact said_1 r h1 w
  by_cases h2 : r.k = 2
  · rw [said2 (.inl h2)]; exact said_2 r h2 w
  by_cases h5 : r.k = 5
  · rw [said2 (.inr h5)]; exact said_5 r h5 w
  by_cases h3 : r.k = 3
  · rw [said3 h3]; exact said_3 r h3 w
  by_cases h4 : r.k = 4
  · rw [said4 h4]; exact said_4 r h4 w
  have h0 : r.k ≠ 1 ∧ r.k ≠ 2 ∧ r.k ≠ 3 ∧ r.k ≠ 4 ∧ r.k ≠ 5 := ⟨h1, h2, h3, h4, h5⟩
  rw [said0 h0]; exact said_0 r h0 w
end Go.Proofs.YtopnodkdpehdoaaGreatDoor.RecS
/- record.may, record.Check: the walks of their texts. No conditions. -/
namespace Go.Proofs.YtopnodkdpehdoaaGreatDoor.RecK
open Go.RowKit
open RecN RecC RecM RecP RecS
set_option maxRecDepth 100000 in
theorem may_low (r : Rec) (hl : ¬ low r) (w : World) :
    Calls Tryz.prog 129 #[.agg #[.int .i64 r.k, .int .i64 r.ep, .int .i64 r.tm, .int .i64 r.ct, .int .i64 r.tg, .int .i64 r.un, .string ⟨r.rt.toArray⟩, .string ⟨r.nm.toArray⟩]] w fun e w' => e = .returned (.bool false) ∧ Below w.heap.size w w' := by
  obtain ⟨W1, hW1⟩ : ∃ W1, W1 = w.alloc (.cells #[.int .i64 r.k, .int .i64 r.ep, .int .i64 r.tm, .int .i64 r.ct, .int .i64 r.tg, .int .i64 r.un, .string ⟨r.rt.toArray⟩, .string ⟨r.nm.toArray⟩] 82) := ⟨_, rfl⟩
  have SS : Hid (Ws w r W1) := Lib.hid (by rw [hW1]; exact ws_new w r)
  obtain ⟨k0, k1, k2, k3, k4, k5, k6, k7⟩ := SS.out.k.cells
  have HE := Lib.hid (fun W => within r.ep 4294967295 W)
  have HM := Lib.hid (fun W => within r.tm 1099511627776 W)
  have hq : ins r.ep 4294967295 = false ∨ (ins r.ep 4294967295 = true ∧ ins r.tm 1099511627776 = false) := by
    cases he : ins r.ep 4294967295
    · exact .inl rfl
    · refine .inr ⟨rfl, ?_⟩
      rw [Bool.eq_false_iff]
      intro hm
      have h1 := of_decide_eq_true he
      have h2 := of_decide_eq_true hm
      exact hl ⟨h1.1, h1.2, h2.1, h2.2⟩
  clear hl
  go_enter Tryz.func129, Tryz.ntmps129
  go_upto_region 1 with (fail)
  rw [← hW1]
  clear hW1
  rcases hq with hq | ⟨hq, hm⟩
  · rw [hq] at HE
    clear hq
    go_wp2_with (first
      | (go_at_call 133; refine (HE.out _).mono ?_; rintro e _ ⟨rfl, rfl⟩; clear HE)
      | (go_at_call 133; refine (HM.out _).mono ?_; rintro e _ ⟨rfl, rfl⟩; clear HM))
    go_ret
    exact ⟨rfl, SS.out.bel⟩
  · rw [hq] at HE
    rw [hm] at HM
    clear hq hm
    go_wp2_with (first
      | (go_at_call 133; refine (HE.out _).mono ?_; rintro e _ ⟨rfl, rfl⟩; clear HE)
      | (go_at_call 133; refine (HM.out _).mono ?_; rintro e _ ⟨rfl, rfl⟩; clear HM))
    go_ret
    exact ⟨rfl, SS.out.bel⟩
set_option maxRecDepth 100000 in
theorem may_0 (r : Rec) (hl : low r) (hk : r.k ≠ 1 ∧ r.k ≠ 2 ∧ r.k ≠ 3 ∧ r.k ≠ 4 ∧ r.k ≠ 5) (w : World) :
    Calls Tryz.prog 129 #[.agg #[.int .i64 r.k, .int .i64 r.ep, .int .i64 r.tm, .int .i64 r.ct, .int .i64 r.tg, .int .i64 r.un, .string ⟨r.rt.toArray⟩, .string ⟨r.nm.toArray⟩]] w fun e w' => e = .returned (.bool false) ∧ Below w.heap.size w w' := by
  obtain ⟨W1, hW1⟩ : ∃ W1, W1 = w.alloc (.cells #[.int .i64 r.k, .int .i64 r.ep, .int .i64 r.tm, .int .i64 r.ct, .int .i64 r.tg, .int .i64 r.un, .string ⟨r.rt.toArray⟩, .string ⟨r.nm.toArray⟩] 82) := ⟨_, rfl⟩
  have SS : Hid (Ws w r W1) := Lib.hid (by rw [hW1]; exact ws_new w r)
  have hz := size_mk r.rt
  obtain ⟨k0, k1, k2, k3, k4, k5, k6, k7⟩ := SS.out.k.cells
  have HE := Lib.hid (fun W => within r.ep 4294967295 W)
  have HM := Lib.hid (fun W => within r.tm 1099511627776 W)
  rw [ins_yes hl.1 hl.2.1] at HE
  rw [ins_yes hl.2.2.1 hl.2.2.2] at HM
  have t1 : (r.k == 1) = false := by rw [beq_eq_false_iff_ne]; omega
  have t2 : (r.k == 2) = false := by rw [beq_eq_false_iff_ne]; omega
  have t5 : (r.k == 5) = false := by rw [beq_eq_false_iff_ne]; omega
  have t3 : (r.k == 3) = false := by rw [beq_eq_false_iff_ne]; omega
  have t4 : (r.k == 4) = false := by rw [beq_eq_false_iff_ne]; omega
  clear hl hk
  go_enter Tryz.func129, Tryz.ntmps129
  go_upto_region 1 with (fail)
  rw [← hW1]
  clear hW1
  go_wp2_with (first
      | (go_at_call 133; refine (HE.out _).mono ?_; rintro e _ ⟨rfl, rfl⟩; clear HE)
      | (go_at_call 133; refine (HM.out _).mono ?_; rintro e _ ⟨rfl, rfl⟩; clear HM))
  go_ret
  exact ⟨rfl, SS.out.bel⟩
set_option maxRecDepth 100000 in
theorem may_1 (r : Rec) (hl : low r) (hk : r.k = 1) (w : World) :
    Calls Tryz.prog 129 #[.agg #[.int .i64 r.k, .int .i64 r.ep, .int .i64 r.tm, .int .i64 r.ct, .int .i64 r.tg, .int .i64 r.un, .string ⟨r.rt.toArray⟩, .string ⟨r.nm.toArray⟩]] w fun e w' => e = .returned (.bool (ins r.ct 4096 && decide (r.rt.length = 32))) ∧ Below w.heap.size w w' := by
  obtain ⟨W1, hW1⟩ : ∃ W1, W1 = w.alloc (.cells #[.int .i64 r.k, .int .i64 r.ep, .int .i64 r.tm, .int .i64 r.ct, .int .i64 r.tg, .int .i64 r.un, .string ⟨r.rt.toArray⟩, .string ⟨r.nm.toArray⟩] 82) := ⟨_, rfl⟩
  have SS : Hid (Ws w r W1) := Lib.hid (by rw [hW1]; exact ws_new w r)
  have hz := size_mk r.rt
  obtain ⟨k0, k1, k2, k3, k4, k5, k6, k7⟩ := SS.out.k.cells
  have HE := Lib.hid (fun W => within r.ep 4294967295 W)
  have HM := Lib.hid (fun W => within r.tm 1099511627776 W)
  rw [ins_yes hl.1 hl.2.1] at HE
  rw [ins_yes hl.2.2.1 hl.2.2.2] at HM
  have t1 : (r.k == 1) = true := by rw [hk]; rfl
  have HC := Lib.hid (fun W => within r.ct 4096 W)
  have t0 : ((r.rt.length : Int) == 32) = decide (r.rt.length = 32) := by
    rw [Bool.eq_iff_iff, beq_iff_eq, decide_eq_true_eq]
    omega
  generalize ins r.ct 4096 = q1 at *
  generalize decide (r.rt.length = 32) = q2 at *
  clear hl hk
  go_enter Tryz.func129, Tryz.ntmps129
  go_upto_region 1 with (fail)
  rw [← hW1]
  clear hW1
  cases q1 <;> cases q2
  all_goals
    go_wp2_with (first
      | (go_at_call 133; refine (HE.out _).mono ?_; rintro e _ ⟨rfl, rfl⟩; clear HE)
      | (go_at_call 133; refine (HM.out _).mono ?_; rintro e _ ⟨rfl, rfl⟩; clear HM)
      | (go_at_call 133; refine (HC.out _).mono ?_; rintro e _ ⟨rfl, rfl⟩; clear HC))
    go_ret
    exact ⟨rfl, SS.out.bel⟩
set_option maxRecDepth 100000 in
theorem may_2 (r : Rec) (hl : low r) (hk : r.k = 2) (w : World) :
    Calls Tryz.prog 129 #[.agg #[.int .i64 r.k, .int .i64 r.ep, .int .i64 r.tm, .int .i64 r.ct, .int .i64 r.tg, .int .i64 r.un, .string ⟨r.rt.toArray⟩, .string ⟨r.nm.toArray⟩]] w fun e w' => e = .returned (.bool (decide (aim r) && ins r.un 1099511627776)) ∧ Below w.heap.size w w' := by
  obtain ⟨W1, hW1⟩ : ∃ W1, W1 = w.alloc (.cells #[.int .i64 r.k, .int .i64 r.ep, .int .i64 r.tm, .int .i64 r.ct, .int .i64 r.tg, .int .i64 r.un, .string ⟨r.rt.toArray⟩, .string ⟨r.nm.toArray⟩] 82) := ⟨_, rfl⟩
  have SS : Hid (Ws w r W1) := Lib.hid (by rw [hW1]; exact ws_new w r)
  have hz := size_mk r.rt
  obtain ⟨k0, k1, k2, k3, k4, k5, k6, k7⟩ := SS.out.k.cells
  have HE := Lib.hid (fun W => within r.ep 4294967295 W)
  have HM := Lib.hid (fun W => within r.tm 1099511627776 W)
  rw [ins_yes hl.1 hl.2.1] at HE
  rw [ins_yes hl.2.2.1 hl.2.2.2] at HM
  have t1 : (r.k == 1) = false := by rw [hk]; rfl
  have t2 : (r.k == 2) = true := by rw [hk]; rfl
  have HT := Lib.hid (fun W => isTarget r hl.1 hl.2.1 W)
  have HU := Lib.hid (fun W => within r.un 1099511627776 W)
  generalize decide (aim r) = q1 at *
  generalize ins r.un 1099511627776 = q2 at *
  clear hl hk
  go_enter Tryz.func129, Tryz.ntmps129
  go_upto_region 1 with (fail)
  rw [← hW1]
  clear hW1
  cases q1 <;> cases q2
  all_goals
    go_wp2_with (first
      | (go_at_call 133; refine (HE.out _).mono ?_; rintro e _ ⟨rfl, rfl⟩; clear HE)
      | (go_at_call 133; refine (HM.out _).mono ?_; rintro e _ ⟨rfl, rfl⟩; clear HM)
      | (go_at_call 134; refine (HT.out _).mono ?_; rintro e w2 ⟨rfl, hb⟩; replace SS := Lib.hid (SS.out.step hb); obtain ⟨k0, k1, k2, k3, k4, k5, k6, k7⟩ := SS.out.k.cells; clear hb HT)
      | (go_at_call 133; refine (HU.out _).mono ?_; rintro e _ ⟨rfl, rfl⟩; clear HU))
    go_ret
    exact ⟨rfl, SS.out.bel⟩
set_option maxRecDepth 100000 in
theorem may_5 (r : Rec) (hl : low r) (hk : r.k = 5) (w : World) :
    Calls Tryz.prog 129 #[.agg #[.int .i64 r.k, .int .i64 r.ep, .int .i64 r.tm, .int .i64 r.ct, .int .i64 r.tg, .int .i64 r.un, .string ⟨r.rt.toArray⟩, .string ⟨r.nm.toArray⟩]] w fun e w' => e = .returned (.bool (decide (aim r) && ins r.un 1099511627776)) ∧ Below w.heap.size w w' := by
  obtain ⟨W1, hW1⟩ : ∃ W1, W1 = w.alloc (.cells #[.int .i64 r.k, .int .i64 r.ep, .int .i64 r.tm, .int .i64 r.ct, .int .i64 r.tg, .int .i64 r.un, .string ⟨r.rt.toArray⟩, .string ⟨r.nm.toArray⟩] 82) := ⟨_, rfl⟩
  have SS : Hid (Ws w r W1) := Lib.hid (by rw [hW1]; exact ws_new w r)
  have hz := size_mk r.rt
  obtain ⟨k0, k1, k2, k3, k4, k5, k6, k7⟩ := SS.out.k.cells
  have HE := Lib.hid (fun W => within r.ep 4294967295 W)
  have HM := Lib.hid (fun W => within r.tm 1099511627776 W)
  rw [ins_yes hl.1 hl.2.1] at HE
  rw [ins_yes hl.2.2.1 hl.2.2.2] at HM
  have t1 : (r.k == 1) = false := by rw [hk]; rfl
  have t2 : (r.k == 2) = false := by rw [hk]; rfl
  have t5 : (r.k == 5) = true := by rw [hk]; rfl
  have HT := Lib.hid (fun W => isTarget r hl.1 hl.2.1 W)
  have HU := Lib.hid (fun W => within r.un 1099511627776 W)
  generalize decide (aim r) = q1 at *
  generalize ins r.un 1099511627776 = q2 at *
  clear hl hk
  go_enter Tryz.func129, Tryz.ntmps129
  go_upto_region 1 with (fail)
  rw [← hW1]
  clear hW1
  cases q1 <;> cases q2
  all_goals
    go_wp2_with (first
      | (go_at_call 133; refine (HE.out _).mono ?_; rintro e _ ⟨rfl, rfl⟩; clear HE)
      | (go_at_call 133; refine (HM.out _).mono ?_; rintro e _ ⟨rfl, rfl⟩; clear HM)
      | (go_at_call 134; refine (HT.out _).mono ?_; rintro e w2 ⟨rfl, hb⟩; replace SS := Lib.hid (SS.out.step hb); obtain ⟨k0, k1, k2, k3, k4, k5, k6, k7⟩ := SS.out.k.cells; clear hb HT)
      | (go_at_call 133; refine (HU.out _).mono ?_; rintro e _ ⟨rfl, rfl⟩; clear HU))
    go_ret
    exact ⟨rfl, SS.out.bel⟩
set_option maxRecDepth 100000 in
theorem may_3 (r : Rec) (hl : low r) (hk : r.k = 3) (w : World) :
    Calls Tryz.prog 129 #[.agg #[.int .i64 r.k, .int .i64 r.ep, .int .i64 r.tm, .int .i64 r.ct, .int .i64 r.tg, .int .i64 r.un, .string ⟨r.rt.toArray⟩, .string ⟨r.nm.toArray⟩]] w fun e w' => e = .returned (.bool (decide (aim r) && isName r.nm)) ∧ Below w.heap.size w w' := by
  obtain ⟨W1, hW1⟩ : ∃ W1, W1 = w.alloc (.cells #[.int .i64 r.k, .int .i64 r.ep, .int .i64 r.tm, .int .i64 r.ct, .int .i64 r.tg, .int .i64 r.un, .string ⟨r.rt.toArray⟩, .string ⟨r.nm.toArray⟩] 82) := ⟨_, rfl⟩
  have SS : Hid (Ws w r W1) := Lib.hid (by rw [hW1]; exact ws_new w r)
  have hz := size_mk r.rt
  obtain ⟨k0, k1, k2, k3, k4, k5, k6, k7⟩ := SS.out.k.cells
  have HE := Lib.hid (fun W => within r.ep 4294967295 W)
  have HM := Lib.hid (fun W => within r.tm 1099511627776 W)
  rw [ins_yes hl.1 hl.2.1] at HE
  rw [ins_yes hl.2.2.1 hl.2.2.2] at HM
  have t1 : (r.k == 1) = false := by rw [hk]; rfl
  have t2 : (r.k == 2) = false := by rw [hk]; rfl
  have t5 : (r.k == 5) = false := by rw [hk]; rfl
  have t3 : (r.k == 3) = true := by rw [hk]; rfl
  have HT := Lib.hid (fun W => isTarget r hl.1 hl.2.1 W)
  have HN := Lib.hid (fun W => Name r.nm W)
  generalize decide (aim r) = q1 at *
  generalize isName r.nm = q2 at *
  clear hl hk
  go_enter Tryz.func129, Tryz.ntmps129
  go_upto_region 1 with (fail)
  rw [← hW1]
  clear hW1
  cases q1 <;> cases q2
  all_goals
    go_wp2_with (first
      | (go_at_call 133; refine (HE.out _).mono ?_; rintro e _ ⟨rfl, rfl⟩; clear HE)
      | (go_at_call 133; refine (HM.out _).mono ?_; rintro e _ ⟨rfl, rfl⟩; clear HM)
      | (go_at_call 134; refine (HT.out _).mono ?_; rintro e w2 ⟨rfl, hb⟩; replace SS := Lib.hid (SS.out.step hb); obtain ⟨k0, k1, k2, k3, k4, k5, k6, k7⟩ := SS.out.k.cells; clear hb HT)
      | (go_at_call 108; refine (HN.out _).mono ?_; rintro e _ ⟨rfl, rfl⟩; clear HN))
    go_ret
    exact ⟨rfl, SS.out.bel⟩
set_option maxRecDepth 100000 in
theorem may_4 (r : Rec) (hl : low r) (hk : r.k = 4) (w : World) :
    Calls Tryz.prog 129 #[.agg #[.int .i64 r.k, .int .i64 r.ep, .int .i64 r.tm, .int .i64 r.ct, .int .i64 r.tg, .int .i64 r.un, .string ⟨r.rt.toArray⟩, .string ⟨r.nm.toArray⟩]] w fun e w' => e = .returned (.bool (isName r.nm)) ∧ Below w.heap.size w w' := by
  obtain ⟨W1, hW1⟩ : ∃ W1, W1 = w.alloc (.cells #[.int .i64 r.k, .int .i64 r.ep, .int .i64 r.tm, .int .i64 r.ct, .int .i64 r.tg, .int .i64 r.un, .string ⟨r.rt.toArray⟩, .string ⟨r.nm.toArray⟩] 82) := ⟨_, rfl⟩
  have SS : Hid (Ws w r W1) := Lib.hid (by rw [hW1]; exact ws_new w r)
  have hz := size_mk r.rt
  obtain ⟨k0, k1, k2, k3, k4, k5, k6, k7⟩ := SS.out.k.cells
  have HE := Lib.hid (fun W => within r.ep 4294967295 W)
  have HM := Lib.hid (fun W => within r.tm 1099511627776 W)
  rw [ins_yes hl.1 hl.2.1] at HE
  rw [ins_yes hl.2.2.1 hl.2.2.2] at HM
  have t1 : (r.k == 1) = false := by rw [hk]; rfl
  have t2 : (r.k == 2) = false := by rw [hk]; rfl
  have t5 : (r.k == 5) = false := by rw [hk]; rfl
  have t3 : (r.k == 3) = false := by rw [hk]; rfl
  have t4 : (r.k == 4) = true := by rw [hk]; rfl
  have HN := Lib.hid (fun W => Name r.nm W)
  generalize isName r.nm = q2 at *
  clear hl hk
  go_enter Tryz.func129, Tryz.ntmps129
  go_upto_region 1 with (fail)
  rw [← hW1]
  clear hW1
  cases q2
  all_goals
    go_wp2_with (first
      | (go_at_call 133; refine (HE.out _).mono ?_; rintro e _ ⟨rfl, rfl⟩; clear HE)
      | (go_at_call 133; refine (HM.out _).mono ?_; rintro e _ ⟨rfl, rfl⟩; clear HM)
      | (go_at_call 108; refine (HN.out _).mono ?_; rintro e _ ⟨rfl, rfl⟩; clear HN))
    go_ret
    exact ⟨rfl, SS.out.bel⟩
theorem asks_1 {r : Rec} (hk : r.k = 1) : asks r ↔ ((0 ≤ r.ct ∧ r.ct ≤ 4096) ∧ r.rt.length = 32) := by
  unfold asks
  refine ⟨fun h => ?_, fun h => .inl ⟨hk, h.1.1, h.1.2, h.2⟩⟩
  rcases h with h | h | h | h | h
  · exact ⟨⟨h.2.1, h.2.2.1⟩, h.2.2.2⟩
  all_goals (exfalso; have := h.1; omega)
theorem asks_2 {r : Rec} (hk : r.k = 2) : asks r ↔ (aim r ∧ (0 ≤ r.un ∧ r.un ≤ 1099511627776)) := by
  unfold asks
  refine ⟨fun h => ?_, fun h => .inr (.inl ⟨hk, h.1, h.2⟩)⟩
  rcases h with h | h | h | h | h
  all_goals first | exact h.2 | (exfalso; have := h.1; omega)
theorem asks_5 {r : Rec} (hk : r.k = 5) : asks r ↔ (aim r ∧ (0 ≤ r.un ∧ r.un ≤ 1099511627776)) := by
  unfold asks
  refine ⟨fun h => ?_, fun h => .inr (.inr (.inr (.inr ⟨hk, h.1, h.2⟩)))⟩
  rcases h with h | h | h | h | h
  all_goals first | exact h.2 | (exfalso; have := h.1; omega)
theorem asks_3 {r : Rec} (hk : r.k = 3) : asks r ↔ (aim r ∧ isName r.nm = true) := by
  unfold asks
  refine ⟨fun h => ?_, fun h => .inr (.inr (.inl ⟨hk, h.1, h.2⟩))⟩
  rcases h with h | h | h | h | h
  all_goals first | exact h.2 | (exfalso; have := h.1; omega)
theorem asks_4 {r : Rec} (hk : r.k = 4) : asks r ↔ (isName r.nm = true) := by
  unfold asks
  refine ⟨fun h => ?_, fun h => .inr (.inr (.inr (.inl ⟨hk, h⟩)))⟩
  rcases h with h | h | h | h | h
  all_goals first | exact h.2 | (exfalso; have := h.1; omega)
theorem asks_0 {r : Rec} (hk : r.k ≠ 1 ∧ r.k ≠ 2 ∧ r.k ≠ 3 ∧ r.k ≠ 4 ∧ r.k ≠ 5) : asks r ↔ False := by
  unfold asks
  refine ⟨fun h => ?_, False.elim⟩
  rcases h with h | h | h | h | h
  all_goals (have := h.1; omega)
theorem dec_may (r : Rec) (p : Prop) [Decidable p] (hl : low r) (h : asks r ↔ p) : decide (RecM.may r) = decide p := by
  rw [decide_eq_decide]
  unfold RecM.may
  rw [h]
  exact ⟨fun hh => hh.2, fun hh => ⟨hl, hh⟩⟩
/-- What record.may answers. -/
theorem may (r : Rec) (w : World) :
    Calls Tryz.prog 129 #[.agg #[.int .i64 r.k, .int .i64 r.ep, .int .i64 r.tm, .int .i64 r.ct, .int .i64 r.tg, .int .i64 r.un, .string ⟨r.rt.toArray⟩, .string ⟨r.nm.toArray⟩]] w fun e w' => e = .returned (.bool (decide (RecM.may r))) ∧ Below w.heap.size w w' := by
  by_cases hl : low r
  · by_cases h1 : r.k = 1
    · rw [dec_may r ((0 ≤ r.ct ∧ r.ct ≤ 4096) ∧ r.rt.length = 32) hl (asks_1 h1), Bool.decide_and]
      exact may_1 r hl h1 w
    by_cases h2 : r.k = 2
    · rw [dec_may r (aim r ∧ (0 ≤ r.un ∧ r.un ≤ 1099511627776)) hl (asks_2 h2), Bool.decide_and]
      exact may_2 r hl h2 w
    by_cases h5 : r.k = 5
    · rw [dec_may r (aim r ∧ (0 ≤ r.un ∧ r.un ≤ 1099511627776)) hl (asks_5 h5), Bool.decide_and]
      exact may_5 r hl h5 w
    by_cases h3 : r.k = 3
    · rw [dec_may r (aim r ∧ isName r.nm = true) hl (asks_3 h3), Bool.decide_and, Bool.decide_eq_true]
      exact may_3 r hl h3 w
    by_cases h4 : r.k = 4
    · rw [dec_may r (isName r.nm = true) hl (asks_4 h4), Bool.decide_eq_true]
      exact may_4 r hl h4 w
    have h0 : r.k ≠ 1 ∧ r.k ≠ 2 ∧ r.k ≠ 3 ∧ r.k ≠ 4 ∧ r.k ≠ 5 := ⟨h1, h2, h3, h4, h5⟩
    rw [dec_may r False hl (asks_0 h0)]
    exact may_0 r hl h0 w
  · rw [df (fun h : RecM.may r => hl h.1)]
    exact may_low r hl w
set_option maxRecDepth 100000 in
set_option maxHeartbeats 4000000 in
theorem Check_same (r : Rec) (q : Bool) (hs : RecM.said r = r) (hq : decide (RecM.may r) = q) (w : World) :
    Calls Tryz.prog 121 #[.agg #[.int .i64 r.k, .int .i64 r.ep, .int .i64 r.tm, .int .i64 r.ct, .int .i64 r.tg, .int .i64 r.un, .string ⟨r.rt.toArray⟩, .string ⟨r.nm.toArray⟩]] w fun e w' => e = .returned (.int .i64 (if q then 0 else 2)) ∧ Below w.heap.size w w' := by
  obtain ⟨W1, hW1⟩ : ∃ W1, W1 = w.alloc (.cells #[.int .i64 r.k, .int .i64 r.ep, .int .i64 r.tm, .int .i64 r.ct, .int .i64 r.tg, .int .i64 r.un, .string ⟨r.rt.toArray⟩, .string ⟨r.nm.toArray⟩] 82) := ⟨_, rfl⟩
  have SS : Hid (Ws w r W1) := Lib.hid (by rw [hW1]; exact ws_new w r)
  have HS := Lib.hid (fun W => RecS.said r W)
  rw [hs] at HS
  have HY := Lib.hid (fun W => may r W)
  rw [hq] at HY
  have hne := fun W => run_neq_rec W r r true (dt rfl)
  clear hs hq
  go_enter Tryz.func121, Tryz.ntmps121
  go_upto_region 1 with (fail)
  rw [← hW1]
  clear hW1
  replace SS := Lib.hid SS.out.drew
  have hS := SS.out.k.cells
  cases q
  all_goals
    go_region_held3 (fun W => W.cell? ⟨w.heap.size, 0, none⟩ = some (.int .i64 r.k) ∧ W.cell? ⟨w.heap.size, 1, none⟩ = some (.int .i64 r.ep) ∧ W.cell? ⟨w.heap.size, 2, none⟩ = some (.int .i64 r.tm) ∧ W.cell? ⟨w.heap.size, 3, none⟩ = some (.int .i64 r.ct) ∧ W.cell? ⟨w.heap.size, 4, none⟩ = some (.int .i64 r.tg) ∧ W.cell? ⟨w.heap.size, 5, none⟩ = some (.int .i64 r.un) ∧ W.cell? ⟨w.heap.size, 6, none⟩ = some (.string ⟨r.rt.toArray⟩) ∧ W.cell? ⟨w.heap.size, 7, none⟩ = some (.string ⟨r.nm.toArray⟩))
      (exact hS)
      (first
        | (go_at_call 128; refine (HS.out _).mono ?_; rintro e w2 ⟨rfl, hb⟩; replace SS := Lib.hid (SS.out.step hb); replace hS := SS.out.k.cells; clear hb)
        | (go_at_call 129; refine (HY.out _).mono ?_; rintro e w3 ⟨rfl, hb⟩; replace SS := Lib.hid (SS.out.step hb); replace hS := SS.out.k.cells; clear hb))
    go_wp2
    go_ret
    exact ⟨rfl, SS.out.bel⟩
set_option maxRecDepth 100000 in
set_option maxHeartbeats 4000000 in
theorem Check_other (r : Rec) (hs : ¬ r = RecM.said r) (w : World) :
    Calls Tryz.prog 121 #[.agg #[.int .i64 r.k, .int .i64 r.ep, .int .i64 r.tm, .int .i64 r.ct, .int .i64 r.tg, .int .i64 r.un, .string ⟨r.rt.toArray⟩, .string ⟨r.nm.toArray⟩]] w fun e w' => e = .returned (.int .i64 2) ∧ Below w.heap.size w w' := by
  obtain ⟨W1, hW1⟩ : ∃ W1, W1 = w.alloc (.cells #[.int .i64 r.k, .int .i64 r.ep, .int .i64 r.tm, .int .i64 r.ct, .int .i64 r.tg, .int .i64 r.un, .string ⟨r.rt.toArray⟩, .string ⟨r.nm.toArray⟩] 82) := ⟨_, rfl⟩
  have SS : Hid (Ws w r W1) := Lib.hid (by rw [hW1]; exact ws_new w r)
  have HS := Lib.hid (fun W => RecS.said r W)
  generalize RecM.said r = s at *
  have hne := fun W => run_neq_rec W r s false (df hs)
  clear hs
  go_enter Tryz.func121, Tryz.ntmps121
  go_upto_region 1 with (fail)
  rw [← hW1]
  clear hW1
  replace SS := Lib.hid SS.out.drew
  have hS := SS.out.k.cells
  refine wp_region_held_drew (S := fun W => W.cell? ⟨w.heap.size, 0, none⟩ = some (.int .i64 r.k) ∧ W.cell? ⟨w.heap.size, 1, none⟩ = some (.int .i64 r.ep) ∧ W.cell? ⟨w.heap.size, 2, none⟩ = some (.int .i64 r.tm) ∧ W.cell? ⟨w.heap.size, 3, none⟩ = some (.int .i64 r.ct) ∧ W.cell? ⟨w.heap.size, 4, none⟩ = some (.int .i64 r.tg) ∧ W.cell? ⟨w.heap.size, 5, none⟩ = some (.int .i64 r.un) ∧ W.cell? ⟨w.heap.size, 6, none⟩ = some (.string ⟨r.rt.toArray⟩) ∧ W.cell? ⟨w.heap.size, 7, none⟩ = some (.string ⟨r.nm.toArray⟩)) (by kernel_rfl) hS (fun _ => ?_)
  change wpAnyH _ _ _ _ _ _ #[false, false, false, false, false, false, false, false, false] _ _
  refine wpAnyH_take (i := 0) (v := ?vx1) (by rw [List.getElem?_toArray]; rfl) (by kernel_rfl) (by kernel_rfl) (by kernel_rfl) (by intro _ _ _ h; exact h) (Or.inl ⟨by rfl, ?hyx1⟩) (by assumption) ?restx1
  case hyx1 => (intro W hSW; (try dsimp only at hSW); go_simp; try with_reducible rfl)
  try simp only [Act.put, List.setIfInBounds_toArray, List.set_cons_zero, List.set_cons_succ]
  refine wpAnyH_take (i := 1) (v := ?vx2) (by rw [List.getElem?_toArray]; rfl) (by kernel_rfl) (by kernel_rfl) (by kernel_rfl) (by intro _ _ _ h; exact h) (Or.inl ⟨by rfl, ?hyx2⟩) (by assumption) ?restx2
  case hyx2 => (intro W hSW; (try dsimp only at hSW); go_simp; try with_reducible rfl)
  try simp only [Act.put, List.setIfInBounds_toArray, List.set_cons_zero, List.set_cons_succ]
  refine wpAnyH_ready (rs := [2]) (by kernel_rfl) (by simp) (AllReadyH.cons (by rw [List.getElem?_toArray]; rfl) (fun K hK => ?_) AllReadyH.nil)
  go_simp
  refine (HS.out _).mono ?_
  rintro e w12 ⟨rfl, hb⟩
  replace SS := Lib.hid (SS.out.step hb)
  replace hS := SS.out.k.cells
  clear hb
  refine hK.out _ _ hS (fun _ => ?_)
  clear hK K
  try simp only [List.setIfInBounds_toArray, List.set_cons_zero, List.set_cons_succ]
  refine wpAnyH_take (i := 3) (v := ?vx4) (by rw [List.getElem?_toArray]; rfl) (by kernel_rfl) (by kernel_rfl) (by kernel_rfl) (by intro _ _ _ h; exact h) (Or.inl ⟨by rfl, ?hyx4⟩) (by assumption) ?restx4
  case hyx4 => (intro W hSW; (try dsimp only at hSW); go_simp; try with_reducible rfl)
  try simp only [Act.put, List.setIfInBounds_toArray, List.set_cons_zero, List.set_cons_succ]
  refine wpAnyH_take (i := 4) (v := ?vx5) (by rw [List.getElem?_toArray]; rfl) (by kernel_rfl) (by kernel_rfl) (by kernel_rfl) (by intro _ _ _ h; exact h) (Or.inl ⟨by rfl, ?hyx5⟩) (by assumption) ?restx5
  case hyx5 => (intro W hSW; (try dsimp only at hSW); go_simp; try with_reducible rfl)
  try simp only [Act.put, List.setIfInBounds_toArray, List.set_cons_zero, List.set_cons_succ]
  refine wpAnyH_take (i := 5) (v := undef) (by rw [List.getElem?_toArray]; rfl) (by kernel_rfl) (by kernel_rfl) (by kernel_rfl) (by intro _ _ _ h; exact h) (Or.inr ⟨by rfl, rfl⟩) (by assumption) ?restx6
  try simp only [Act.put, List.setIfInBounds_toArray, List.set_cons_zero, List.set_cons_succ]
  refine wpAnyH_take (i := 6) (v := undef) (by rw [List.getElem?_toArray]; rfl) (by kernel_rfl) (by kernel_rfl) (by kernel_rfl) (by intro _ _ _ h; exact h) (Or.inr ⟨by rfl, rfl⟩) (by assumption) ?restx7
  try simp only [Act.put, List.setIfInBounds_toArray, List.set_cons_zero, List.set_cons_succ]
  refine wpAnyH_take (i := 7) (v := undef) (by rw [List.getElem?_toArray]; rfl) (by kernel_rfl) (by kernel_rfl) (by kernel_rfl) (by intro _ _ _ h; exact h) (Or.inr ⟨by rfl, rfl⟩) (by assumption) ?restx8
  try simp only [Act.put, List.setIfInBounds_toArray, List.set_cons_zero, List.set_cons_succ]
  refine wpAnyH_take (i := 8) (v := ?vx9) (by rw [List.getElem?_toArray]; rfl) (by kernel_rfl) (by kernel_rfl) (by kernel_rfl) (by intro _ _ _ h; exact h) (Or.inl ⟨by rfl, ?hyx9⟩) (by assumption) ?restx9
  case hyx9 => (intro W hSW; (try dsimp only at hSW); go_simp; try with_reducible rfl)
  try simp only [Act.put, List.setIfInBounds_toArray, List.set_cons_zero, List.set_cons_succ]
  refine wpAnyH_done (by kernel_rfl) ?_ _
  go_wp2
  go_ret
  exact ⟨rfl, SS.out.bel⟩
def check (r : Rec) : Int := if right r then 0 else 2
/-- What record.Check answers. -/
theorem Check (r : Rec) (w : World) :
    Calls Tryz.prog 121 #[.agg #[.int .i64 r.k, .int .i64 r.ep, .int .i64 r.tm, .int .i64 r.ct, .int .i64 r.tg, .int .i64 r.un, .string ⟨r.rt.toArray⟩, .string ⟨r.nm.toArray⟩]] w fun e w' => e = .returned (.int .i64 (check r)) ∧ Below w.heap.size w w' := by
  by_cases hs : r = RecM.said r
  · have := Check_same r _ hs.symm rfl w
    by_cases hm : RecM.may r
    · rw [dt hm] at this
      rw [check, if_pos ((right_iff r).2 ⟨hs, hm⟩)]
      exact this
    · rw [df hm] at this
      rw [check, if_neg (fun h => hm ((right_iff r).1 h).2)]
      exact this
  · rw [check, if_neg (fun h => hs ((right_iff r).1 h).1)]
    exact Check_other r hs w
theorem check_yes {r : Rec} (h : right r) : check r = 0 := if_pos h
theorem check_no {r : Rec} (h : ¬ right r) : check r = 2 := if_neg h
end Go.Proofs.YtopnodkdpehdoaaGreatDoor.RecK
