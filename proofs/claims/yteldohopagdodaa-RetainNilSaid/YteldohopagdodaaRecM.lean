/- Plain mathematics: what a record's kind says of it, and a record in words. No program is reached here; no conditions but those that each lemma names. -/
import Derived.Test.YteldohopagdodaaRecC
import Derived.Lib.ItoaNum
import Derived.Lib.Join
namespace Go.Proofs.Yteldohopagdodaa.RecM
open RecN RecC
/-- What the kind says of the record. -/
def said (r : Rec) : Rec :=
  if r.k = 1 then ⟨r.k, r.ep, r.tm, r.ct, 0, 0, r.rt, []⟩
  else if r.k = 2 ∨ r.k = 5 then ⟨r.k, r.ep, r.tm, 0, r.tg, r.un, [], []⟩
  else if r.k = 3 then ⟨r.k, r.ep, r.tm, 0, r.tg, 0, [], r.nm⟩
  else if r.k = 4 then ⟨r.k, r.ep, r.tm, 0, 0, 0, [], r.nm⟩
  else ⟨r.k, r.ep, r.tm, 0, 0, 0, [], []⟩
theorem said1 {r : Rec} (h : r.k = 1) : said r = ⟨r.k, r.ep, r.tm, r.ct, 0, 0, r.rt, []⟩ := if_pos h
theorem said2 {r : Rec} (h : r.k = 2 ∨ r.k = 5) : said r = ⟨r.k, r.ep, r.tm, 0, r.tg, r.un, [], []⟩ := by
  rw [said, if_neg (by omega), if_pos h]
theorem said3 {r : Rec} (h : r.k = 3) : said r = ⟨r.k, r.ep, r.tm, 0, r.tg, 0, [], r.nm⟩ := by
  rw [said, if_neg (by omega), if_neg (by omega), if_pos h]
theorem said4 {r : Rec} (h : r.k = 4) : said r = ⟨r.k, r.ep, r.tm, 0, 0, 0, [], r.nm⟩ := by
  rw [said, if_neg (by omega), if_neg (by omega), if_neg (by omega), if_pos h]
theorem said0 {r : Rec} (h : r.k ≠ 1 ∧ r.k ≠ 2 ∧ r.k ≠ 3 ∧ r.k ≠ 4 ∧ r.k ≠ 5) : said r = ⟨r.k, r.ep, r.tm, 0, 0, 0, [], []⟩ := by
  rw [said, if_neg (by omega), if_neg (by omega), if_neg (by omega), if_neg (by omega)]
/-- What the kind asks of what it says. -/
def asks (r : Rec) : Prop := (r.k = 1 ∧ 0 ≤ r.ct ∧ r.ct ≤ 4096 ∧ r.rt.length = 32) ∨ (r.k = 2 ∧ aim r ∧ RecN.due r) ∨ (r.k = 3 ∧ aim r ∧ isName r.nm = true) ∨ (r.k = 4 ∧ isName r.nm = true) ∨ (r.k = 5 ∧ aim r ∧ RecN.due r)
instance (r : Rec) : Decidable (asks r) := inferInstanceAs (Decidable (_ ∨ _ ∨ _ ∨ _ ∨ _))
def may (r : Rec) : Prop := low r ∧ asks r
instance (r : Rec) : Decidable (may r) := inferInstanceAs (Decidable (_ ∧ _))
/-- A record may be, if it is what its kind says of it, and that may be said. -/
theorem right_iff (r : Rec) : right r ↔ r = said r ∧ may r := by
  unfold right may fit asks fit1 fit2 fit3 fit4
  constructor
  · rintro ⟨hl, h⟩
    rcases h with ⟨hk, b1, b2, b3, b4, b5, b6⟩ | ⟨hk, b1, b2, b3, b4, b5⟩ | ⟨hk, b1, b2, b3, b4, b5⟩ | ⟨hk, b1, b2, b3, b4, b5⟩ | ⟨hk, b1, b2, b3, b4, b5⟩
    · exact ⟨by rw [said1 hk]; exact same rfl rfl rfl rfl b4 b5 rfl b6, hl, .inl ⟨hk, b1, b2, b3⟩⟩
    · exact ⟨by rw [said2 (.inl hk)]; exact same rfl rfl rfl b3 rfl rfl b4 b5, hl, .inr (.inl ⟨hk, b1, b2⟩)⟩
    · exact ⟨by rw [said3 hk]; exact same rfl rfl rfl b4 rfl b3 b5 rfl, hl, .inr (.inr (.inl ⟨hk, b1, b2⟩))⟩
    · exact ⟨by rw [said4 hk]; exact same rfl rfl rfl b4 b2 b3 b5 rfl, hl, .inr (.inr (.inr (.inl ⟨hk, b1⟩)))⟩
    · exact ⟨by rw [said2 (.inr hk)]; exact same rfl rfl rfl b3 rfl rfl b4 b5, hl, .inr (.inr (.inr (.inr ⟨hk, b1, b2⟩)))⟩
  · rintro ⟨e, hl, h⟩
    rw [eq_iff] at e
    obtain ⟨e1, e2, e3, e4, e5, e6, e7, e8⟩ := e
    refine ⟨hl, ?_⟩
    rcases h with ⟨hk, b1, b2, b3⟩ | ⟨hk, b1, b2⟩ | ⟨hk, b1, b2⟩ | ⟨hk, b1⟩ | ⟨hk, b1, b2⟩
    · rw [said1 hk] at e5 e6 e8
      exact .inl ⟨hk, b1, b2, b3, e5, e6, e8⟩
    · rw [said2 (.inl hk)] at e4 e7 e8
      exact .inr (.inl ⟨hk, b1, b2, e4, e7, e8⟩)
    · rw [said3 hk] at e4 e6 e7
      exact .inr (.inr (.inl ⟨hk, b1, b2, e6, e4, e7⟩))
    · rw [said4 hk] at e4 e5 e6 e7
      exact .inr (.inr (.inr (.inl ⟨hk, b1, e5, e6, e4, e7⟩)))
    · rw [said2 (.inr hk)] at e4 e7 e8
      exact .inr (.inr (.inr (.inr ⟨hk, b1, b2, e4, e7, e8⟩)))
/-- A number from 0 on in decimal digits. -/
def dec (n : Int) : List UInt8 := Lib.decDigits n.toNat
theorem itoa_dec {n : Int} (h : 0 ≤ n) : Lib.itoa n = dec n := by rw [Lib.itoa, if_neg (by omega)]; rfl
theorem digits_len : ∀ (k u : Nat), u < 10 ^ k → (Lib.decDigits u).length ≤ k ∨ k = 0
  | 0, _, _ => .inr rfl
  | k + 1, u, h => by
    by_cases hu : u < 10
    · rw [Lib.decDigits_one hu]; left; simp
    · rw [Lib.decDigits, dif_neg hu, List.length_append]
      rw [Nat.pow_succ] at h
      rcases digits_len k (u / 10) (by omega) with hh | hh
      · left; simp; omega
      · subst hh; simp at h; omega
theorem dec_len {n : Int} (h0 : 0 ≤ n) (h1 : n ≤ 1099511627776) : (dec n).length ≤ 13 := by
  rcases digits_len 13 n.toNat (by omega) with h | h
  · exact h
  · omega
def wClose : List UInt8 := [99, 108, 111, 115, 101]
def wRetain : List UInt8 := [114, 101, 116, 97, 105, 110]
def wHold : List UInt8 := [104, 111, 108, 100]
def wRelease : List UInt8 := [114, 101, 108, 101, 97, 115, 101]
def wPurge : List UInt8 := [112, 117, 114, 103, 101]
def wAt : List UInt8 := [97, 116]
/-- A record in words. -/
def words (r : Rec) : List (List UInt8) :=
  if r.k = 1 then [wClose, dec r.ep, dec r.ct]
  else if r.k = 2 then [wRetain, dec r.tg, dec r.un]
  else if r.k = 3 then [wHold, r.nm, dec r.tg]
  else if r.k = 4 then [wRelease, r.nm]
  else [wPurge, dec r.tg, dec r.un]
def told (r : Rec) : List UInt8 := Lib.join (words r ++ [wAt, dec r.tm]) [32]
def shown (r : Rec) : List UInt8 := if right r then told r else []
/-- As the document says it. -/
def front (r : Rec) : List UInt8 :=
  if r.k = 1 then wClose ++ [32] ++ dec r.ep ++ [32] ++ dec r.ct
  else if r.k = 2 then wRetain ++ [32] ++ dec r.tg ++ [32] ++ dec r.un
  else if r.k = 3 then wHold ++ [32] ++ r.nm ++ [32] ++ dec r.tg
  else if r.k = 4 then wRelease ++ [32] ++ r.nm
  else wPurge ++ [32] ++ dec r.tg ++ [32] ++ dec r.un
theorem told_front (r : Rec) : told r = front r ++ ([32] ++ wAt ++ [32]) ++ dec r.tm := by
  unfold told words front
  split
  · simp [Lib.join_cons, Lib.joinTail]
  split
  · simp [Lib.join_cons, Lib.joinTail]
  split
  · simp [Lib.join_cons, Lib.joinTail]
  split
  · simp [Lib.join_cons, Lib.joinTail]
  · simp [Lib.join_cons, Lib.joinTail]
theorem told_some (r : Rec) : told r ≠ [] := by
  rw [told_front]
  intro h
  have := congrArg List.length h
  simp [wAt] at this
theorem words_count (r : Rec) : (words r).length ≤ 3 := by
  unfold words
  repeat' split
  all_goals simp
theorem front_len {r : Rec} (h : right r) : (front r).length ≤ 60 := by
  obtain ⟨h1, h2, h3, h4, h5, h6, _, h8⟩ := bounds h
  have d1 := dec_len h2.1 (by omega)
  have d2 := dec_len h4.1 (by omega)
  have d3 := dec_len h5.1 (by omega)
  have d4 := dec_len h6.1 (by omega)
  unfold front
  repeat' split
  all_goals
    simp [wClose, wRetain, wHold, wRelease, wPurge]
    omega
theorem told_len {r : Rec} (h : right r) : (told r).length ≤ 100 := by
  have h1 := front_len h
  have h2 := (bounds h).2.2.1
  have h3 := dec_len h2.1 h2.2
  rw [told_front]
  simp [wAt]
  omega
/-- The chapter's example. -/
def ex : Rec := ⟨3, 4, 9, 0, 2, 0, [], [97]⟩
theorem ex_right : right ex := by decide
theorem ex_told : told ex = [104, 111, 108, 100, 32, 97, 32, 50, 32, 97, 116, 32, 57] := by
  rw [told_front]
  show wHold ++ [32] ++ [97] ++ [32] ++ Lib.decDigits 2 ++ ([32] ++ wAt ++ [32]) ++ Lib.decDigits 9 = _
  rw [Lib.decDigits_one (by decide), Lib.decDigits_one (by decide)]
  decide
end Go.Proofs.Yteldohopagdodaa.RecM
