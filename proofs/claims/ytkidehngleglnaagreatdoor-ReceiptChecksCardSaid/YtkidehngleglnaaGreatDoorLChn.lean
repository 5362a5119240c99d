/- ChnN ChnM ChnC ChnD: one behind the other. -/
import Derived.Test.YtkidehngleglnaaGreatDoorLRec
import Derived.Test.YtkidehngleglnaaGreatDoorEvoN
import Derived.Deep.Slices
import Derived.Deep.Grids
import Derived.Deep.Fields
import Derived.Deep.MidRow
import Derived.Laws.AppendOwn
import Derived.WalkArith
/- Plain mathematics: records that follow on each other, their tags, and rows of sealed records. No program is reached here; no conditions but those that each lemma names. -/
namespace Go.Proofs.YtkidehngleglnaaGreatDoor.ChnN
open RecN RecC EvoN
/-- A record with its tag. -/
abbrev Sd := Rec × List UInt8
instance : DecidableEq Rec := fun _ _ => inferInstance
/-- The tag ahead of the first one. -/
def zeros : List UInt8 := List.replicate 32 0
theorem zeros_len : zeros.length = 32 := rfl
/-- What is said of a record. -/
def sayOk (was : List UInt8) (n : Int) (r : Rec) : Prop := was.length = 32 ∧ (0 ≤ n ∧ n ≤ 4294967295) ∧ right r
instance (was : List UInt8) (n : Int) (r : Rec) : Decidable (sayOk was n r) := inferInstanceAs (Decidable (_ ∧ (_ ∧ _) ∧ _))
def say (was : List UInt8) (n : Int) (r : Rec) : List UInt8 := was ++ (be 4 n.toNat ++ RecN.bytes r)
def says (was : List UInt8) (n : Int) (r : Rec) : List UInt8 × Bool := if sayOk was n r then (say was n r, true) else ([], false)
theorem says_yes {was : List UInt8} {n : Int} {r : Rec} (h : sayOk was n r) : says was n r = (say was n r, true) := if_pos h
theorem says_no {was : List UInt8} {n : Int} {r : Rec} (h : ¬ sayOk was n r) : says was n r = ([], false) := if_neg h
theorem be4_inj {a b : Nat} (ha : a < 4294967296) (hb : b < 4294967296) (h : be 4 a = be 4 b) : a = b := by
  have h1 := num_be 4 a
  have h2 := num_be 4 b
  rw [h, h2] at h1
  have e : (256 : Nat) ^ 4 = 4294967296 := by decide
  rw [e] at h1
  omega
theorem say_len {was : List UInt8} {n : Int} {r : Rec} (h : sayOk was n r) : (say was n r).length = 73 + r.rt.length + r.nm.length := by
  rw [say, List.length_append, List.length_append, h.1, be_length, bytes_len h.2.2]
  omega
/-- What is said of unlike records, or of unlike places, or behind unlike tags, is unlike. -/
theorem say_inj {was was' : List UInt8} {n n' : Int} {r r' : Rec} (h : sayOk was n r) (h' : sayOk was' n' r') (e : say was n r = say was' n' r') : was = was' ∧ n = n' ∧ r = r' := by
  obtain ⟨e1, e2⟩ := List.append_inj e (by rw [h.1, h'.1])
  obtain ⟨e3, e4⟩ := List.append_inj e2 (by rw [be_length, be_length])
  have e5 := be4_inj (by have := h.2.1; omega) (by have := h'.2.1; omega) e3
  exact ⟨e1, by have := h.2.1; have := h'.2.1; omega, bytes_inj h.2.2 h'.2.2 e4⟩
/-- A tag. -/
def mkey (k : List UInt8) : List UInt8 := macOf k (saidOf lMac [])
def tagOf (k was : List UInt8) (n : Int) (r : Rec) : List UInt8 := macOf (mkey k) (say was n r)
def tagged (k was : List UInt8) (n : Int) (r : Rec) : List UInt8 × Bool := if k.length = 32 ∧ sayOk was n r then (tagOf k was n r, true) else ([], false)
theorem tagged_yes {k was : List UInt8} {n : Int} {r : Rec} (hk : k.length = 32) (h : sayOk was n r) : tagged k was n r = (tagOf k was n r, true) := if_pos ⟨hk, h⟩
theorem tagged_no {k was : List UInt8} {n : Int} {r : Rec} (h : ¬ (k.length = 32 ∧ sayOk was n r)) : tagged k was n r = ([], false) := if_neg h
theorem tag_len (k was : List UInt8) (n : Int) (r : Rec) : (tagOf k was n r).length = 32 := mac_length _ _
/-- The key of an epoch. -/
def keyAt (root : List UInt8) (f e : Int) : List UInt8 := nextN (macOf root (saidOf lSeal [f])) (e - f).toNat
theorem key_len (root : List UInt8) (f e : Int) : (keyAt root f e).length = 32 := nextN_length (first_length _ _) _
/-- The open epoch behind these records. -/
def opn (f : Int) (l : List Rec) : Int := f + ((l.filter fun r => decide (r.k = 1)).length : Int)
theorem opn_nil (f : Int) : opn f [] = f := by simp [opn]
theorem opn_snoc (f : Int) (l : List Rec) (r : Rec) : opn f (l ++ [r]) = if r.k = 1 then opn f l + 1 else opn f l := by
  unfold opn
  rw [List.filter_append, List.length_append]
  by_cases h : r.k = 1
  · rw [if_pos h]
    simp [h]
    omega
  · rw [if_neg h]
    simp [h]
theorem opn_more (f : Int) (l m : List Rec) : opn f l ≤ opn f (l ++ m) := by
  unfold opn
  rw [List.filter_append, List.length_append]
  omega
theorem opn_take (f : Int) (l : List Rec) {i j : Nat} (h : i ≤ j) : opn f (l.take i) ≤ opn f (l.take j) := by
  have e := List.take_append_drop i (l.take j)
  rw [List.take_take, Nat.min_eq_left h] at e
  rw [← e]
  exact opn_more _ _ _
theorem opn_whole (f : Int) (l : List Rec) (i : Nat) : opn f (l.take i) ≤ opn f l := by
  conv => rhs; rw [← List.take_append_drop i l]
  exact opn_more _ _ _
theorem opn_ge (f : Int) (l : List Rec) : f ≤ opn f l := by unfold opn; omega
/-- The Time of the last one. -/
def lastTm (l : List Rec) : Int := match l.getLast? with | none => 0 | some r => r.tm
theorem lastTm_nil : lastTm [] = 0 := rfl
theorem lastTm_snoc (l : List Rec) (r : Rec) : lastTm (l ++ [r]) = r.tm := by unfold lastTm; rw [List.getLast?_concat]
/-- Does a record follow on these? -/
def fits (f : Int) (p : List Rec) (r : Rec) : Prop := right r ∧ r.ep = opn f p ∧ lastTm p ≤ r.tm
instance (f : Int) (p : List Rec) (r : Rec) : Decidable (fits f p r) := inferInstanceAs (Decidable (_ ∧ _ ∧ _))
/-- What Follow tells, from a place on: the open epoch, how many follow, do all. -/
def fol (f : Int) : List Rec → List Rec → Int × Nat × Bool
  | p, [] => (opn f p, p.length, true)
  | p, r :: l => if fits f p r then fol f (p ++ [r]) l else (opn f p, p.length, false)
theorem fol_nil (f : Int) (p : List Rec) : fol f p [] = (opn f p, p.length, true) := rfl
theorem fol_yes {f : Int} {p : List Rec} {r : Rec} {l : List Rec} (h : fits f p r) : fol f p (r :: l) = fol f (p ++ [r]) l := if_pos h
theorem fol_no {f : Int} {p : List Rec} {r : Rec} {l : List Rec} (h : ¬ fits f p r) : fol f p (r :: l) = (opn f p, p.length, false) := if_neg h
/-- One round: from place i to the next one. -/
theorem fol_step {f : Int} {l : List Rec} {i : Nat} (h : i < l.length) : fol f (l.take i) (l.drop i) = if fits f (l.take i) l[i] then fol f (l.take (i + 1)) (l.drop (i + 1)) else (opn f (l.take i), i, false) := by
  rw [List.drop_eq_getElem_cons h]
  by_cases hf : fits f (l.take i) l[i]
  · rw [fol_yes hf, if_pos hf, List.take_succ_eq_append_getElem h]
  · rw [fol_no hf, if_neg hf, List.length_take, Nat.min_eq_left (Nat.le_of_lt h)]
theorem fol_end (f : Int) (l : List Rec) : fol f (l.take l.length) (l.drop l.length) = (opn f l, l.length, true) := by
  rw [List.drop_length, List.take_length, fol_nil]
/-- Records that all follow on each other. -/
def chainTo (f : Int) (l : List Rec) : Prop := ∀ i (h : i < l.length), fits f (l.take i) l[i]
theorem fol_chain {f : Int} : ∀ {l p : List Rec}, (fol f p l).2.2 = true → ∀ i (h : i < l.length), fits f (p ++ l.take i) l[i]
  | [], _, _, i, h => absurd h (by simp)
  | r :: l, p, hf, i, h => by
    by_cases hr : fits f p r
    · rw [fol_yes hr] at hf
      match i, h with
      | 0, _ => simpa using hr
      | i + 1, h =>
        have := fol_chain hf i (by simpa using h)
        simpa [List.append_assoc] using this
    · rw [fol_no hr] at hf
      cases hf
theorem chain_of {f : Int} {l : List Rec} (h : (fol f [] l).2.2 = true) : chainTo f l := fun i hi => by
  have := fol_chain h i hi
  rwa [List.nil_append] at this
theorem fol_of_chain {f : Int} {l : List Rec} (h : chainTo f l) : fol f [] l = (opn f l, l.length, true) := by
  have key : ∀ i, i ≤ l.length → fol f [] l = fol f (l.take i) (l.drop i) := by
    intro i
    induction i with
    | zero => intro _; simp
    | succ i ih =>
      intro hi
      rw [ih (by omega), fol_step (by omega), if_pos (h i (by omega))]
  rw [key l.length (Nat.le_refl _), fol_end]
/-- The last tag. -/
def lastT (s : List Sd) : List UInt8 := match s.getLast? with | none => zeros | some x => x.2
theorem lastT_nil : lastT [] = zeros := rfl
theorem lastT_snoc (s : List Sd) (x : Sd) : lastT (s ++ [x]) = x.2 := by unfold lastT; rw [List.getLast?_concat]
/-- The tags that these records have. -/
def tg (root : List UInt8) (f : Int) (p : List Sd) (r : Rec) : List UInt8 := tagOf (keyAt root f r.ep) (lastT p) (p.length : Int) r
def sealR (root : List UInt8) (f : Int) : List Sd → List Rec → List Sd
  | p, [] => p
  | p, r :: l => sealR root f (p ++ [(r, tg root f p r)]) l
theorem seal_len (root : List UInt8) (f : Int) : ∀ (l : List Rec) (p : List Sd), (sealR root f p l).length = p.length + l.length
  | [], p => by simp [sealR]
  | r :: l, p => by rw [sealR, seal_len root f l]; simp; omega
theorem seal_recs (root : List UInt8) (f : Int) : ∀ (l : List Rec) (p : List Sd), (sealR root f p l).map (·.1) = p.map (·.1) ++ l
  | [], p => by simp [sealR]
  | r :: l, p => by rw [sealR, seal_recs root f l]; simp
/-- Each tag is the one that is to be. -/
def tagsOk (root : List UInt8) (f : Int) (s : List Sd) : Prop := ∀ i (h : i < s.length), s[i].2 = tg root f (s.take i) s[i].1
theorem tagsOk_nil (root : List UInt8) (f : Int) : tagsOk root f [] := fun i h => absurd h (by simp)
theorem tagsOk_snoc {root : List UInt8} {f : Int} {s : List Sd} {x : Sd} (h : tagsOk root f s) (hx : x.2 = tg root f s x.1) : tagsOk root f (s ++ [x]) := by
  intro i hi
  rw [List.length_append, List.length_singleton] at hi
  by_cases he : i < s.length
  · rw [List.getElem_append_left he, List.take_append_of_le_length (by omega)]
    exact h i he
  · obtain rfl : i = s.length := by omega
    rw [List.getElem_append_right (Nat.le_refl _)]
    simp [hx]
theorem seal_ok (root : List UInt8) (f : Int) : ∀ (l : List Rec) (p : List Sd), tagsOk root f p → tagsOk root f (sealR root f p l)
  | [], _, h => h
  | r :: l, p, h => by
    rw [sealR]
    exact seal_ok root f l _ (tagsOk_snoc h rfl)
theorem tagsOk_take {root : List UInt8} {f : Int} {s : List Sd} (h : tagsOk root f s) (n : Nat) : tagsOk root f (s.take n) := by
  intro i hi
  rw [List.length_take] at hi
  rw [List.getElem_take, List.take_take, Nat.min_eq_left (by omega)]
  exact h i (by omega)
theorem lastT_len {root : List UInt8} {f : Int} {s : List Sd} (h : tagsOk root f s) : (lastT s).length = 32 := by
  unfold lastT
  cases hl : s.getLast? with
  | none => rfl
  | some x =>
    obtain ⟨i, hi, rfl⟩ : ∃ i, ∃ hi : i < s.length, s[i] = x := by
      have := List.mem_of_getLast? hl
      exact List.getElem_of_mem this
    show (s[i].2).length = 32
    rw [h i hi]
    exact tag_len _ _ _ _
/-- The first place whose tag is not the one that is to be, from a place on; none: the end's. -/
def chk (root : List UInt8) (f : Int) : List Sd → List Sd → Nat × Bool
  | p, [] => (p.length, true)
  | p, x :: l => if x.2 = tg root f p x.1 then chk root f (p ++ [x]) l else (p.length, false)
theorem chk_step {root : List UInt8} {f : Int} {s : List Sd} {i : Nat} (h : i < s.length) : chk root f (s.take i) (s.drop i) = if s[i].2 = tg root f (s.take i) s[i].1 then chk root f (s.take (i + 1)) (s.drop (i + 1)) else (i, false) := by
  rw [List.drop_eq_getElem_cons h, chk]
  by_cases hf : s[i].2 = tg root f (s.take i) s[i].1
  · rw [if_pos hf, if_pos hf, List.take_succ_eq_append_getElem h]
  · rw [if_neg hf, if_neg hf, List.length_take, Nat.min_eq_left (Nat.le_of_lt h)]
theorem chk_end (root : List UInt8) (f : Int) (s : List Sd) : chk root f (s.take s.length) (s.drop s.length) = (s.length, true) := by
  rw [List.drop_length, List.take_length, chk]
theorem chk_to {root : List UInt8} {f : Int} {s : List Sd} {n : Nat} (hn : n ≤ s.length) (h : ∀ i (hi : i < s.length), i < n → s[i].2 = tg root f (s.take i) s[i].1) : chk root f [] s = chk root f (s.take n) (s.drop n) := by
  have key : ∀ i, i ≤ n → chk root f [] s = chk root f (s.take i) (s.drop i) := by
    intro i
    induction i with
    | zero => intro _; simp
    | succ i ih =>
      intro hi
      rw [ih (by omega), chk_step (by omega), if_pos (h i (by omega) (by omega))]
  exact key n (Nat.le_refl _)
theorem chk_ok {root : List UInt8} {f : Int} {s : List Sd} (h : tagsOk root f s) : chk root f [] s = (s.length, true) := by
  rw [chk_to (Nat.le_refl _) (fun i hi _ => h i hi), chk_end]
theorem ok_of_chk {root : List UInt8} {f : Int} : ∀ {l p : List Sd}, (chk root f p l).2 = true → ∀ i (h : i < l.length), l[i].2 = tg root f (p ++ l.take i) l[i].1
  | [], _, _, i, h => absurd h (by simp)
  | x :: l, p, hf, i, h => by
    rw [chk] at hf
    by_cases hx : x.2 = tg root f p x.1
    · rw [if_pos hx] at hf
      match i, h with
      | 0, _ => simpa using hx
      | i + 1, h =>
        have := ok_of_chk hf i (by simpa using h)
        simpa [List.append_assoc] using this
    · rw [if_neg hx] at hf
      cases hf
theorem tags_of_chk {root : List UInt8} {f : Int} {s : List Sd} (h : (chk root f [] s).2 = true) : tagsOk root f s := fun i hi => by
  have := ok_of_chk h i hi
  rwa [List.nil_append] at this
/-- A tag that is turned is told, at its place. -/
theorem chk_turned {root : List UInt8} {f : Int} {s : List Sd} {i : Nat} {t : List UInt8} (h : tagsOk root f s) (hi : i < s.length) (ht : t ≠ s[i].2) : chk root f [] (s.set i (s[i].1, t)) = (i, false) := by
  have hl : (s.set i (s[i].1, t)).length = s.length := by simp
  rw [chk_to (n := i) (by omega) (fun j hj hji => by
    rw [List.getElem_set_ne (by omega), List.take_set_of_le (by omega)]
    exact h j (by omega)), chk_step (by omega), if_neg (by
    rw [List.getElem_set_self, List.take_set_of_le (by omega)]
    show ¬ t = tg root f (s.take i) s[i].1
    rw [← h i hi]
    exact ht)]
end Go.Proofs.YtkidehngleglnaaGreatDoor.ChnN
/- Plain mathematics: two rows of sealed records held against each other, what is forged, and the rows' sums. No program is reached here; no conditions but those that each lemma names. -/
namespace Go.Proofs.YtkidehngleglnaaGreatDoor.ChnM
open RecN RecC EvoN ChnN
def recs (s : List Sd) : List Rec := s.map (·.1)
theorem recs_take (s : List Sd) (i : Nat) : recs (s.take i) = (recs s).take i := by unfold recs; rw [List.map_take]
theorem recs_len (s : List Sd) : (recs s).length = s.length := by simp [recs]
theorem recs_at (s : List Sd) (i : Nat) (h : i < s.length) : (recs s)[i]'(by rw [recs_len]; exact h) = s[i].1 := by simp [recs]
/-- A row that is right. -/
structure Good (root : List UInt8) (f : Int) (s : List Sd) : Prop where
  ch : chainTo f (recs s)
  tg : tagsOk root f s
theorem Good.at_ {root : List UInt8} {f : Int} {s : List Sd} (h : Good root f s) {i : Nat} (hi : i < s.length) : right s[i].1 ∧ s[i].1.ep = opn f ((recs s).take i) := by
  have := h.ch i (by rw [recs_len]; exact hi)
  rw [recs_at s i hi] at this
  exact ⟨this.1, this.2.1⟩
/-- What was sealed is right. -/
theorem good_seal {root : List UInt8} {f : Int} {l : List Rec} (h : chainTo f l) : Good root f (sealR root f [] l) := by
  refine ⟨?_, seal_ok root f l [] (tagsOk_nil root f)⟩
  unfold recs
  rw [seal_recs]
  exact h
/-- The first place of the second row at which the two are not the same, from a place on. -/
def partAt : List Sd → List Sd → Nat → Option Nat
  | _, [], _ => none
  | [], _ :: _, n => some n
  | x :: m, y :: t, n => if x = y then partAt m t (n + 1) else some n
theorem part_end (m : List Sd) (n : Nat) : partAt m [] n = none := by cases m <;> rfl
theorem part_step {m t : List Sd} {i : Nat} (h : i < t.length) : partAt (m.drop i) (t.drop i) i = if m[i]? = some t[i] then partAt (m.drop (i + 1)) (t.drop (i + 1)) (i + 1) else some i := by
  rw [List.drop_eq_getElem_cons h]
  by_cases hm : i < m.length
  · rw [List.drop_eq_getElem_cons hm, partAt, List.getElem?_eq_getElem hm]
    by_cases e : m[i] = t[i]
    · rw [if_pos e, if_pos (by rw [e])]
    · rw [if_neg e, if_neg (fun hh => e (Option.some.inj hh))]
  · rw [List.drop_of_length_le (by omega), partAt, List.getElem?_eq_none (by omega), if_neg (by simp)]
theorem part_none : ∀ {m t : List Sd} {n : Nat}, partAt m t n = none → t.length ≤ m.length ∧ m.take t.length = t
  | m, [], _, _ => by simp
  | [], _ :: _, _, h => by cases h
  | x :: m, y :: t, n, h => by
    rw [partAt] at h
    by_cases e : x = y
    · rw [if_pos e] at h
      have := part_none h
      subst e
      simp only [List.length_cons, List.take_succ_cons]
      exact ⟨by omega, by rw [this.2]⟩
    · rw [if_neg e] at h
      cases h
theorem part_some : ∀ {m t : List Sd} {n k : Nat}, partAt m t n = some k → ∃ j, k = n + j ∧ j < t.length ∧ j ≤ m.length ∧ m.take j = t.take j ∧ m[j]? ≠ t[j]?
  | m, [], n, k, h => by rw [part_end] at h; cases h
  | [], y :: t, n, k, h => by
    cases h
    exact ⟨0, rfl, by simp, by simp, by simp, by simp⟩
  | x :: m, y :: t, n, k, h => by
    rw [partAt] at h
    by_cases e : x = y
    · rw [if_pos e] at h
      obtain ⟨j, h1, h2, h3, h4, h5⟩ := part_some h
      subst e
      exact ⟨j + 1, by omega, by simp; omega, by simp; omega, by simp [h4], by simpa using h5⟩
    · rw [if_neg e] at h
      cases h
      exact ⟨0, rfl, by simp, by simp, by simp, by simpa using e⟩
/-- What is forged. -/
def forge (m t : List Sd) (b : Int) : Int × List UInt8 × List UInt8 × Bool :=
  match partAt m t 0 with
  | none => (0, [], [], false)
  | some k =>
    match t[k]? with
    | none => (0, [], [], false)
    | some y => if sayOk (lastT (t.take k)) (k : Int) y.1 ∧ y.1.ep < b then (y.1.ep, say (lastT (t.take k)) (k : Int) y.1, y.2, true) else (0, [], [], false)
theorem forge_none {m t : List Sd} {b : Int} (h : partAt m t 0 = none) : forge m t b = (0, [], [], false) := by rw [forge, h]
theorem forge_some {m t : List Sd} {b : Int} {k : Nat} (h : partAt m t 0 = some k) (hk : k < t.length) : forge m t b = if sayOk (lastT (t.take k)) (k : Int) t[k].1 ∧ t[k].1.ep < b then (t[k].1.ep, say (lastT (t.take k)) (k : Int) t[k].1, t[k].2, true) else (0, [], [], false) := by
  rw [forge, h]
  simp only [List.getElem?_eq_getElem hk]
/-- Is one row's place of an epoch from b on, or the other's, too? -/
def cond (a c : List Sd) (b : Int) (i : Nat) : Bool :=
  match a[i]? with
  | none => true
  | some x => decide (b ≤ x.1.ep) || decide (c[i]? = some x)
def side (a c : List Sd) (b : Int) (n : Nat) : Bool := (List.range n).all (cond a c b)
theorem side_zero (a c : List Sd) (b : Int) : side a c b 0 = true := rfl
theorem side_succ (a c : List Sd) (b : Int) (n : Nat) : side a c b (n + 1) = (side a c b n && cond a c b n) := by
  unfold side
  rw [List.range_succ, List.all_append]
  simp
def sameB (m t : List Sd) (b : Int) : Bool := side m t b m.length && side t m b t.length
theorem side_true {a c : List Sd} {b : Int} (h : ∀ i, cond a c b i = true) (n : Nat) : side a c b n = true := by
  unfold side
  rw [List.all_eq_true]
  exact fun i _ => h i
theorem same_true {m t : List Sd} {b : Int} (h : ∀ i, cond m t b i = true) (h' : ∀ i, cond t m b i = true) : sameB m t b = true := by
  rw [sameB, side_true h, side_true h']; rfl
theorem same_false {m t : List Sd} {b : Int} {i : Nat} (hi : i < t.length) (h : cond t m b i = false) : sameB m t b = false := by
  have : side t m b t.length = false := by
    rw [Bool.eq_false_iff]
    intro hh
    unfold side at hh
    rw [List.all_eq_true] at hh
    have := hh i (List.mem_range.2 hi)
    rw [h] at this
    cases this
  rw [sameB, this, Bool.and_false]
/-- The epochs of a right row, from a place on. -/
theorem ep_from {root : List UInt8} {f : Int} {s : List Sd} (h : Good root f s) {k i : Nat} (hk : k ≤ i) {x : Sd} (hx : s[i]? = some x) : opn f ((recs s).take k) ≤ x.1.ep := by
  obtain ⟨hi, rfl⟩ := List.getElem?_eq_some_iff.1 hx
  rw [(h.at_ hi).2]
  exact opn_take f (recs s) hk
/-- The same records, or a forged tag. -/
theorem sound_same {root : List UInt8} {f b : Int} {m t : List Sd} (hm : Good root f m) (ht : Good root f t) (hb : b ≤ opn f (recs t)) (hl : t.length ≤ 100000) : (forge m t b).2.2.2 = !sameB m t b := by
  cases hp : partAt m t 0 with
  | none =>
    obtain ⟨h1, h2⟩ := part_none hp
    rw [forge_none hp, same_true]
    · rfl
    · intro i
      unfold cond
      cases hx : m[i]? with
      | none => rfl
      | some x =>
        show (decide (b ≤ x.1.ep) || decide (t[i]? = some x)) = true
        by_cases hi : i < t.length
        · have e : t[i]? = some x := by
            rw [← h2, List.getElem?_take, if_pos hi, hx]
          rw [dt e, Bool.or_true]
        · have := ep_from hm (k := t.length) (by omega) hx
          rw [← recs_take, h2] at this
          rw [dt (show b ≤ x.1.ep by omega), Bool.true_or]
    · intro i
      unfold cond
      cases hx : t[i]? with
      | none => rfl
      | some x =>
        show (decide (b ≤ x.1.ep) || decide (m[i]? = some x)) = true
        have e : m[i]? = some x := by
          rw [← h2, List.getElem?_take] at hx
          split at hx
          · exact hx
          · cases hx
        rw [dt e, Bool.or_true]
  | some k =>
    obtain ⟨j, e, hk, hkm, h4, h5⟩ := part_some hp
    rw [Nat.zero_add] at e
    subst e
    rw [forge_some hp hk]
    have hok : sayOk (lastT (t.take k)) (k : Int) t[k].1 := ⟨lastT_len (tagsOk_take ht.tg k), by omega, (ht.at_ hk).1⟩
    by_cases hlt : t[k].1.ep < b
    · rw [if_pos ⟨hok, hlt⟩, same_false hk (by
        unfold cond
        rw [List.getElem?_eq_getElem hk]
        show (decide (b ≤ t[k].1.ep) || decide (m[k]? = some t[k])) = false
        rw [df (by omega), df (fun hh => h5 (by rw [hh, List.getElem?_eq_getElem hk]))]
        rfl)]
      rfl
    · rw [if_neg (fun hh => hlt hh.2), same_true]
      · rfl
      · intro i
        unfold cond
        cases hx : m[i]? with
        | none => rfl
        | some x =>
          show (decide (b ≤ x.1.ep) || decide (t[i]? = some x)) = true
          by_cases hi : i < k
          · have e : t[i]? = some x := by
              have := congrArg (·[i]?) h4
              simp only [List.getElem?_take, if_pos hi] at this
              rw [← this, hx]
            rw [dt e, Bool.or_true]
          · have := ep_from hm (k := k) (by omega) hx
            rw [← recs_take, h4, recs_take, ← (ht.at_ hk).2] at this
            rw [dt (show b ≤ x.1.ep by omega), Bool.true_or]
      · intro i
        unfold cond
        cases hx : t[i]? with
        | none => rfl
        | some x =>
          show (decide (b ≤ x.1.ep) || decide (m[i]? = some x)) = true
          by_cases hi : i < k
          · have e : m[i]? = some x := by
              have := congrArg (·[i]?) h4
              simp only [List.getElem?_take, if_pos hi] at this
              rw [this, hx]
            rw [dt e, Bool.or_true]
          · have := ep_from ht (k := k) (by omega) hx
            rw [← (ht.at_ hk).2] at this
            rw [dt (show b ≤ x.1.ep by omega), Bool.true_or]
/-- What is told as forged is of the second row, has its tag, and none of the first row is it. -/
theorem sound_forged {root : List UInt8} {f b : Int} {m t : List Sd} (hm : Good root f m) (ht : Good root f t) (_hl : t.length ≤ 100000) (hl' : m.length ≤ 100000) (h : (forge m t b).2.2.2 = true) :
    ∃ k, ∃ hk : k < t.length, forge m t b = (t[k].1.ep, say (lastT (t.take k)) (k : Int) t[k].1, t[k].2, true) ∧ t[k].1.ep < b ∧ f ≤ t[k].1.ep ∧ t[k].1.ep ≤ opn f (recs t) ∧
      t[k].2 = macOf (mkey (keyAt root f t[k].1.ep)) (say (lastT (t.take k)) (k : Int) t[k].1) ∧
      ∀ i (hi : i < m.length), say (lastT (m.take i)) (i : Int) m[i].1 ≠ say (lastT (t.take k)) (k : Int) t[k].1 := by
  cases hp : partAt m t 0 with
  | none =>
    rw [forge_none hp] at h
    cases h
  | some k =>
    obtain ⟨j, e, hk, hkm, h4, h5⟩ := part_some hp
    rw [Nat.zero_add] at e
    subst e
    rw [forge_some hp hk] at h ⊢
    by_cases hc : sayOk (lastT (t.take k)) (k : Int) t[k].1 ∧ t[k].1.ep < b
    · have hlk : (t.take k).length = k := by rw [List.length_take]; omega
      have htg : ∀ r, tg root f (t.take k) r = tagOf (keyAt root f r.ep) (lastT (t.take k)) (k : Int) r := fun r => by rw [tg, hlk]
      refine ⟨k, hk, if_pos hc, hc.2, by rw [(ht.at_ hk).2]; exact opn_ge _ _, by rw [(ht.at_ hk).2]; exact opn_whole _ _ _, by rw [ht.tg k hk, htg]; rfl, fun i hi he => ?_⟩
      have hmi : sayOk (lastT (m.take i)) (i : Int) m[i].1 := ⟨lastT_len (tagsOk_take hm.tg i), by omega, (hm.at_ hi).1⟩
      obtain ⟨_, e2, e3⟩ := say_inj hmi hc.1 he
      obtain rfl : i = k := by omega
      refine h5 ?_
      rw [List.getElem?_eq_getElem hi, List.getElem?_eq_getElem hk]
      have e4 : m[i].2 = t[i].2 := by rw [hm.tg i hi, ht.tg i hk, h4, e3]
      exact congrArg some (Prod.ext e3 e4)
    · rw [if_neg hc] at h
      cases h
/-- The sum of a row. -/
def sums (s : List Sd) : List UInt8 := s.foldl (fun a x => sum (a ++ x.2)) (sum [])
theorem sums_nil : sums [] = sum [] := rfl
theorem sums_snoc (s : List Sd) (x : Sd) : sums (s ++ [x]) = sum (sums s ++ x.2) := by unfold sums; rw [List.foldl_append]; rfl
theorem sums_succ (s : List Sd) {i : Nat} (h : i < s.length) : sums (s.take (i + 1)) = sum (sums (s.take i) ++ s[i].2) := by rw [List.take_succ_eq_append_getElem h, sums_snoc]
theorem sums_len (s : List Sd) : (sums s).length = 32 := by
  rcases List.eq_nil_or_concat s with rfl | ⟨p, x, rfl⟩
  · exact sum_length _
  · rw [List.concat_eq_append, sums_snoc]; exact sum_length _
/-- What stands behind so many rounds over two rows: have they the same tags so far, were two unlike texts with one sum met. -/
def tagsB (a b : List Sd) (n : Nat) : Bool := (List.range n).all fun i => decide ((a[i]?).map (·.2) = (b[i]?).map (·.2))
def msg (s : List Sd) (i : Nat) : List UInt8 := sums (s.take i) ++ ((s[i]?).map (·.2)).getD []
def metB (a b : List Sd) (n : Nat) : Bool := (List.range n).any fun i => decide (msg a i ≠ msg b i ∧ sum (msg a i) = sum (msg b i))
theorem tagsB_succ (a b : List Sd) (n : Nat) : tagsB a b (n + 1) = (tagsB a b n && decide ((a[n]?).map (·.2) = (b[n]?).map (·.2))) := by
  unfold tagsB
  rw [List.range_succ, List.all_append]
  simp
theorem metB_succ (a b : List Sd) (n : Nat) : metB a b (n + 1) = (metB a b n || decide (msg a n ≠ msg b n ∧ sum (msg a n) = sum (msg b n))) := by
  unfold metB
  rw [List.range_succ, List.any_append]
  simp
theorem msg_at (s : List Sd) {i : Nat} (h : i < s.length) : msg s i = sums (s.take i) ++ s[i].2 := by
  rw [msg, List.getElem?_eq_getElem h]; rfl
/-- The same tags give the same sums. -/
theorem sums_same {a b : List Sd} (hl : a.length = b.length) : ∀ n, n ≤ a.length → tagsB a b n = true → sums (a.take n) = sums (b.take n)
  | 0, _, _ => by simp
  | n + 1, hn, h => by
    rw [tagsB_succ, Bool.and_eq_true, decide_eq_true_eq, List.getElem?_eq_getElem (by omega), List.getElem?_eq_getElem (by omega)] at h
    have e : a[n].2 = b[n].2 := Option.some.inj h.2
    rw [sums_succ a (by omega), sums_succ b (by omega), sums_same hl n (by omega) h.1, e]
/-- Unlike tags give unlike sums, or two unlike texts with one sum were met. -/
theorem sums_apart {a b : List Sd} (hl : a.length = b.length) : ∀ n, n ≤ a.length → metB a b n = false → sums (a.take n) = sums (b.take n) → tagsB a b n = true
  | 0, _, _, _ => rfl
  | n + 1, hn, hm, h => by
    rw [metB_succ, Bool.or_eq_false_iff, decide_eq_false_iff_not] at hm
    rw [sums_succ a (by omega), sums_succ b (by omega)] at h
    have e : msg a n = msg b n := by
      refine Decidable.byContradiction fun hne => hm.2 ⟨hne, ?_⟩
      rw [msg_at a (by omega), msg_at b (by omega)]
      exact h
    rw [msg_at a (by omega), msg_at b (by omega)] at e
    obtain ⟨e1, e2⟩ := List.append_inj e (by rw [sums_len, sums_len])
    rw [tagsB_succ, sums_apart hl n (by omega) hm.1 e1, List.getElem?_eq_getElem (by omega), List.getElem?_eq_getElem (by omega)]
    simp [e2]
end Go.Proofs.YtkidehngleglnaaGreatDoor.ChnM
/- Rows of records, and of sealed records, in memory: what they read as; two sealed records held against each other; rows that come in; one appended. No conditions but those that each lemma names. -/
namespace Go.Proofs.YtkidehngleglnaaGreatDoor.ChnC
set_option linter.unusedVariables false
open Go.RowKit Go.ChangeShapes Go.WideShapes
open RecN RecC ChnN ChnM
section
variable {α : Type} {f : α → List Value} {n : Nat} (hf : ∀ x, (f x).length = n)
include hf
theorem fm_len (l : List α) : (l.flatMap f).length = l.length * n := by
  induction l with
  | nil => simp
  | cons x l ih => rw [List.flatMap_cons, List.length_append, ih, hf, List.length_cons, Nat.succ_mul]; omega
theorem fm_at (l : List α) : ∀ i (h : i < l.length) (j : Nat), j < n → (l.flatMap f)[i * n + j]? = (f l[i])[j]? := by
  induction l with
  | nil => intro i h; simp at h
  | cons x l ih =>
    intro i h j hj
    rw [List.flatMap_cons]
    cases i with
    | zero => rw [Nat.zero_mul, Nat.zero_add, List.getElem?_append_left (by rw [hf]; exact hj)]; rfl
    | succ i =>
      rw [List.getElem?_append_right (by rw [hf, Nat.succ_mul]; omega), hf, show (i + 1) * n + j - n = i * n + j by rw [Nat.succ_mul]; omega]
      exact ih i (by simpa using h) j hj
end
/-- A record, and a sealed one, as cells. -/
def rcL (r : Rec) : List Value := [.int .i64 r.k, .int .i64 r.ep, .int .i64 r.tm, .int .i64 r.ct, .int .i64 r.tg, .int .i64 r.un, .string ⟨r.rt.toArray⟩, .string ⟨r.nm.toArray⟩]
def scL (x : Sd) : List Value := [.int .i64 x.1.k, .int .i64 x.1.ep, .int .i64 x.1.tm, .int .i64 x.1.ct, .int .i64 x.1.tg, .int .i64 x.1.un, .string ⟨x.1.rt.toArray⟩, .string ⟨x.1.nm.toArray⟩, .string ⟨x.2.toArray⟩]
theorem rc_len (r : Rec) : (rcL r).length = 8 := rfl
theorem sc_len (x : Sd) : (scL x).length = 9 := rfl
def rr (l : List Rec) : List Value := l.flatMap rcL
def ss (l : List Sd) : List Value := l.flatMap scL
theorem rr_len (l : List Rec) : (rr l).length = l.length * 8 := fm_len rc_len l
theorem ss_len (l : List Sd) : (ss l).length = l.length * 9 := fm_len sc_len l
theorem rr_app (l m : List Rec) : rr (l ++ m) = rr l ++ rr m := by simp [rr]
theorem ss_app (l m : List Sd) : ss (l ++ m) = ss l ++ ss m := by simp [ss]
theorem rr_nil : rr [] = [] := rfl
theorem ss_nil : ss [] = [] := rfl
theorem rr_one (r : Rec) : rr [r] = rcL r := by simp [rr]
theorem ss_one (x : Sd) : ss [x] = scL x := by simp [ss]
theorem rc_one (r : Rec) : ∀ u ∈ rcL r, u.oneCell' = true := by
  intro u hu
  simp only [rcL, List.mem_cons, List.not_mem_nil, or_false] at hu
  rcases hu with rfl | rfl | rfl | rfl | rfl | rfl | rfl | rfl <;> rfl
theorem sc_one (x : Sd) : ∀ u ∈ scL x, u.oneCell' = true := by
  intro u hu
  simp only [scL, List.mem_cons, List.not_mem_nil, or_false] at hu
  rcases hu with rfl | rfl | rfl | rfl | rfl | rfl | rfl | rfl | rfl <;> rfl
/-- A row reads as these cells. -/
def Lies (W : World) (a : Option Addr) (cs : List Value) : Prop := 0 < cs.length → ∃ g o, a = some ⟨g, o, none⟩ ∧ g < W.heap.size ∧ ∀ j u, cs[j]? = some u → W.cell? ⟨g, o + j, none⟩ = some u
theorem Lies.nil (W : World) (a : Option Addr) : Lies W a [] := fun h => absurd h (by simp)
theorem Lies.step {W W' : World} {a : Option Addr} {cs : List Value} (h : Lies W a cs) (hb : Below W.heap.size W W') : Lies W' a cs := fun h0 => by
  obtain ⟨g, o, e, hg, hc⟩ := h h0
  exact ⟨g, o, e, Nat.lt_of_lt_of_le hg hb.size, fun j u hj => (hb.cell (p := ⟨g, o + j, none⟩) hg).trans (hc j u hj)⟩
theorem Lies.pre {W : World} {a : Option Addr} {cs c1 c2 : List Value} (h : Lies W a cs) (e : cs = c1 ++ c2) : Lies W a c1 := fun h0 => by
  obtain ⟨g, o, ea, hg, hc⟩ := h (by rw [e, List.length_append]; omega)
  refine ⟨g, o, ea, hg, fun j u hj => hc j u ?_⟩
  rw [e, List.getElem?_append_left (List.getElem?_eq_some_iff.1 hj).1]
  exact hj
theorem Lies.take {W : World} {a : Option Addr} {l : List Sd} (h : Lies W a (ss l)) (i : Nat) : Lies W a (ss (l.take i)) :=
  h.pre (c2 := ss (l.drop i)) (by rw [← ss_app, List.take_append_drop])
/-- A row of the call's own reads as it does. -/
theorem own_lies {W : World} {base size : Nat} {e : TypeId} {a : Option Addr} {n c : Nat} {cs : List Value} (h : W.ownsRow base e size (.slice a n c) n cs) : Lies W a cs := fun h0 => by
  have hl := h.1
  rcases h.2 with ⟨_, hn⟩ | ⟨g, cap, cur, hv, _, hg, _⟩
  · subst hn
    rw [Nat.zero_mul] at hl
    omega
  · injection hv with hv
    subst hv
    refine ⟨g, 0, rfl, (Array.getElem?_eq_some_iff.1 hg).1, fun j u hj => ?_⟩
    have := h.cells (g := g) rfl j u hj
    rwa [add_off] at this
theorem own_kept {w w' : World} {base : Nat} {e : TypeId} {size : Nat} {v : Value} {n : Nat} {xs : List Value} (h : w.ownsRow base e size v n xs) (hk : ∀ k, v.ownBlock = some k → w'.heap[k]? = w.heap[k]?) : w'.ownsRow base e size v n xs := by
  refine ⟨h.1, ?_⟩
  rcases h.2 with hn | ⟨g, cap, cur, rfl, hb, hg, rest⟩
  · exact .inl hn
  · exact .inr ⟨g, cap, cur, rfl, hb, (hk g rfl).trans hg, rest⟩
theorem own_step {w w' : World} {base : Nat} {e : TypeId} {size : Nat} {v : Value} {n : Nat} {xs : List Value} (h : w.ownsRow base e size v n xs) (hb : Below w.heap.size w w') : w'.ownsRow base e size v n xs :=
  own_kept h fun k hk => hb.block k (h.lt k hk).2
theorem own_slice {w : World} {base n : Nat} {e : TypeId} {size : Nat} {v : Value} {xs : List Value} (h : w.ownsRow base e size v (n + 1) xs) : ∃ p c, v = .slice p (n + 1) c := by
  rcases h.2 with ⟨_, h0⟩ | ⟨g, cap, cur, hv, _⟩
  · omega
  · exact ⟨_, _, hv⟩
/-- One record, one sealed record, amid a block. -/
def At8 (W : World) (g p : Nat) (r : Rec) : Prop := W.cell? ⟨g, p, none⟩ = some (.int .i64 r.k) ∧ W.cell? ⟨g, p + 1, none⟩ = some (.int .i64 r.ep) ∧ W.cell? ⟨g, p + 2, none⟩ = some (.int .i64 r.tm) ∧ W.cell? ⟨g, p + 3, none⟩ = some (.int .i64 r.ct) ∧ W.cell? ⟨g, p + 4, none⟩ = some (.int .i64 r.tg) ∧ W.cell? ⟨g, p + 5, none⟩ = some (.int .i64 r.un) ∧ W.cell? ⟨g, p + 6, none⟩ = some (.string ⟨r.rt.toArray⟩) ∧ W.cell? ⟨g, p + 7, none⟩ = some (.string ⟨r.nm.toArray⟩)
def At9 (W : World) (g p : Nat) (x : Sd) : Prop := W.cell? ⟨g, p, none⟩ = some (.int .i64 x.1.k) ∧ W.cell? ⟨g, p + 1, none⟩ = some (.int .i64 x.1.ep) ∧ W.cell? ⟨g, p + 2, none⟩ = some (.int .i64 x.1.tm) ∧ W.cell? ⟨g, p + 3, none⟩ = some (.int .i64 x.1.ct) ∧ W.cell? ⟨g, p + 4, none⟩ = some (.int .i64 x.1.tg) ∧ W.cell? ⟨g, p + 5, none⟩ = some (.int .i64 x.1.un) ∧ W.cell? ⟨g, p + 6, none⟩ = some (.string ⟨x.1.rt.toArray⟩) ∧ W.cell? ⟨g, p + 7, none⟩ = some (.string ⟨x.1.nm.toArray⟩) ∧ W.cell? ⟨g, p + 8, none⟩ = some (.string ⟨x.2.toArray⟩)
theorem At8.step {W W' : World} {B g p : Nat} {r : Rec} (h : At8 W g p r) (hg : g < B) (hb : Below B W W') : At8 W' g p r := by
  obtain ⟨h0, h1, h2, h3, h4, h5, h6, h7⟩ := h
  have k : ∀ q v, W.cell? ⟨g, q, none⟩ = some v → W'.cell? ⟨g, q, none⟩ = some v := fun q v e => (hb.cell (p := ⟨g, q, none⟩) hg).trans e
  exact ⟨k _ _ h0, k _ _ h1, k _ _ h2, k _ _ h3, k _ _ h4, k _ _ h5, k _ _ h6, k _ _ h7⟩
theorem At9.step {W W' : World} {B g p : Nat} {x : Sd} (h : At9 W g p x) (hg : g < B) (hb : Below B W W') : At9 W' g p x := by
  obtain ⟨h0, h1, h2, h3, h4, h5, h6, h7, h8⟩ := h
  have k : ∀ q v, W.cell? ⟨g, q, none⟩ = some v → W'.cell? ⟨g, q, none⟩ = some v := fun q v e => (hb.cell (p := ⟨g, q, none⟩) hg).trans e
  exact ⟨k _ _ h0, k _ _ h1, k _ _ h2, k _ _ h3, k _ _ h4, k _ _ h5, k _ _ h6, k _ _ h7, k _ _ h8⟩
theorem at8_of {W : World} {g o : Nat} {l : List Rec} (h : ∀ j u, (rr l)[j]? = some u → W.cell? ⟨g, o + j, none⟩ = some u) (i : Nat) (hi : i < l.length) : At8 W g (o + i * 8) l[i] := by
  have k : ∀ j u, j < 8 → (rcL l[i])[j]? = some u → W.cell? ⟨g, o + i * 8 + j, none⟩ = some u := fun j u hj hu => by
    rw [Nat.add_assoc]
    exact h _ _ ((fm_at rc_len l i hi j hj).trans hu)
  exact ⟨k 0 _ (by omega) rfl, k 1 _ (by omega) rfl, k 2 _ (by omega) rfl, k 3 _ (by omega) rfl, k 4 _ (by omega) rfl, k 5 _ (by omega) rfl, k 6 _ (by omega) rfl, k 7 _ (by omega) rfl⟩
theorem at9_of {W : World} {g o : Nat} {l : List Sd} (h : ∀ j u, (ss l)[j]? = some u → W.cell? ⟨g, o + j, none⟩ = some u) (i : Nat) (hi : i < l.length) : At9 W g (o + i * 9) l[i] := by
  have k : ∀ j u, j < 9 → (scL l[i])[j]? = some u → W.cell? ⟨g, o + i * 9 + j, none⟩ = some u := fun j u hj hu => by
    rw [Nat.add_assoc]
    exact h _ _ ((fm_at sc_len l i hi j hj).trans hu)
  exact ⟨k 0 _ (by omega) rfl, k 1 _ (by omega) rfl, k 2 _ (by omega) rfl, k 3 _ (by omega) rfl, k 4 _ (by omega) rfl, k 5 _ (by omega) rfl, k 6 _ (by omega) rfl, k 7 _ (by omega) rfl, k 8 _ (by omega) rfl⟩
theorem Lies.at8 {W : World} {a : Option Addr} {l : List Rec} (h : Lies W a (rr l)) (h0 : 0 < l.length) : ∃ g o, a = some ⟨g, o, none⟩ ∧ g < W.heap.size ∧ ∀ i (hi : i < l.length), At8 W g (o + i * 8) l[i] := by
  obtain ⟨g, o, e, hg, hc⟩ := h (by rw [rr_len]; omega)
  exact ⟨g, o, e, hg, at8_of hc⟩
theorem Lies.at9 {W : World} {a : Option Addr} {l : List Sd} (h : Lies W a (ss l)) (h0 : 0 < l.length) : ∃ g o, a = some ⟨g, o, none⟩ ∧ g < W.heap.size ∧ ∀ i (hi : i < l.length), At9 W g (o + i * 9) l[i] := by
  obtain ⟨g, o, e, hg, hc⟩ := h (by rw [ss_len]; omega)
  exact ⟨g, o, e, hg, at9_of hc⟩
/-- A sealed record in a block. -/
def Bs (W : World) (X : Nat) (x : Sd) : Prop := W.heap[X]? = some (.cells #[.int .i64 x.1.k, .int .i64 x.1.ep, .int .i64 x.1.tm, .int .i64 x.1.ct, .int .i64 x.1.tg, .int .i64 x.1.un, .string ⟨x.1.rt.toArray⟩, .string ⟨x.1.nm.toArray⟩, .string ⟨x.2.toArray⟩] 45 (0, 0))
theorem Bs.lt {W : World} {X : Nat} {x : Sd} (h : Bs W X x) : X < W.heap.size := lt_of_some h
theorem Bs.step {W W' : World} {X : Nat} {x : Sd} (h : Bs W X x) (hb : Below W.heap.size W W') : Bs W' X x := (hb.block _ h.lt).trans h
theorem Bs.cells {W : World} {X : Nat} {x : Sd} (h : Bs W X x) : At9 W X 0 x :=
  ⟨blk_cell h rfl, blk_cell h rfl, blk_cell h rfl, blk_cell h rfl, blk_cell h rfl, blk_cell h rfl, blk_cell h rfl, blk_cell h rfl, blk_cell h rfl⟩
theorem infoS : (Tryz.prog.info? 45).map (·.size) = some 9 := by kernel_rfl
theorem one9 (x : Sd) : (#[.int .i64 x.1.k, .int .i64 x.1.ep, .int .i64 x.1.tm, .int .i64 x.1.ct, .int .i64 x.1.tg, .int .i64 x.1.un, .string ⟨x.1.rt.toArray⟩, .string ⟨x.1.nm.toArray⟩, .string ⟨x.2.toArray⟩] : Array Value).all (·.oneCell') = true := by simp [Value.oneCell']
theorem cSd : Tryz.prog.cellsOf 45 = 9 := by kernel_rfl
theorem fields_sd : Tryz.prog.fieldsOf 45 = #[{ name := "Record", type := 23, offset := 0, embedded := false, tag := "", pkgPath := "", byteOffset := 0 }, { name := "Tag", type := 9, offset := 8, embedded := false, tag := "", pkgPath := "", byteOffset := 80 }] := by kernel_rfl
theorem under_sd : Tryz.prog.underlying 45 = some (.struct (Tryz.prog.fieldsOf 45)) := by kernel_rfl
theorem stood_sd : Tryz.prog.stoodInHeld 45 = false := by kernel_rfl
theorem sd_iff {a b : Sd} : a = b ↔ a.1 = b.1 ∧ a.2 = b.2 := ⟨fun h => by rw [h]; exact ⟨rfl, rfl⟩, fun ⟨h1, h2⟩ => Prod.ext h1 h2⟩
theorem info_sd : ((Tryz.prog.info? 45).map fun i => (i.zero, i.size, i.bytes)) = some (some (.agg #[.int .i64 0, .int .i64 0, .int .i64 0, .int .i64 0, .int .i64 0, .int .i64 0, .string ⟨#[]⟩, .string ⟨#[]⟩, .string ⟨#[]⟩]), 9, 96) := by kernel_rfl
theorem info_rec : ((Tryz.prog.info? 23).map fun i => (i.zero, i.size, i.bytes)) = some (some (.agg #[.int .i64 0, .int .i64 0, .int .i64 0, .int .i64 0, .int .i64 0, .int .i64 0, .string ⟨#[]⟩, .string ⟨#[]⟩]), 8, 80) := by kernel_rfl
end Go.Proofs.YtkidehngleglnaaGreatDoor.ChnC
/- Sealed records: two held against each other; rows that come in; records appended to a row of the call's own. The conditions: that what came in came as a Go program's values. -/
namespace Go.Proofs.YtkidehngleglnaaGreatDoor.ChnD
set_option linter.unusedVariables false
open Go.RowKit Go.ChangeShapes Go.WideShapes
open RecN RecC ChnN ChnM ChnC
theorem run_in_rec2 (W : World) (a b : Rec) : (Op.equalIn 9999 23 (.agg #[.int .i64 a.k, .int .i64 a.ep, .int .i64 a.tm, .int .i64 a.ct, .int .i64 a.tg, .int .i64 a.un, .string ⟨a.rt.toArray⟩, .string ⟨a.nm.toArray⟩]) (.agg #[.int .i64 b.k, .int .i64 b.ep, .int .i64 b.tm, .int .i64 b.ct, .int .i64 b.tg, .int .i64 b.un, .string ⟨b.rt.toArray⟩, .string ⟨b.nm.toArray⟩])).run Tryz.prog W = .ok (decide (a = b)) W := by
  have hh : ∀ x y : Int, (Op.equalIn 9998 3 (.int .i64 x) (.int .i64 y)).run Tryz.prog W = .ok (x == y) W := fun x y => run_equalIn_int W 9997 3 .i64 .i64 x y Tryz.underlying3
  have hs : ∀ x y : List UInt8, (Op.equalIn 9998 9 (.string ⟨x.toArray⟩) (.string ⟨y.toArray⟩)).run Tryz.prog W = .ok (x == y) W := fun x y => by
    have := run_equalIn_string W 9997 9 ⟨x.toArray⟩ ⟨y.toArray⟩ Tryz.underlying9
    rw [ByteArray.toList_mk, ByteArray.toList_mk] at this
    exact this
  have p0 : ∀ r : Rec, (part 3 #[.int .i64 r.k, .int .i64 r.ep, .int .i64 r.tm, .int .i64 r.ct, .int .i64 r.tg, .int .i64 r.un, .string ⟨r.rt.toArray⟩, .string ⟨r.nm.toArray⟩] 0).run Tryz.prog W = .ok (.int .i64 r.k) W := fun r => by simp [part, isAgg, run_underlying Tryz.underlying3]
  have p1 : ∀ r : Rec, (part 3 #[.int .i64 r.k, .int .i64 r.ep, .int .i64 r.tm, .int .i64 r.ct, .int .i64 r.tg, .int .i64 r.un, .string ⟨r.rt.toArray⟩, .string ⟨r.nm.toArray⟩] 1).run Tryz.prog W = .ok (.int .i64 r.ep) W := fun r => by simp [part, isAgg, run_underlying Tryz.underlying3]
  have p2 : ∀ r : Rec, (part 3 #[.int .i64 r.k, .int .i64 r.ep, .int .i64 r.tm, .int .i64 r.ct, .int .i64 r.tg, .int .i64 r.un, .string ⟨r.rt.toArray⟩, .string ⟨r.nm.toArray⟩] 2).run Tryz.prog W = .ok (.int .i64 r.tm) W := fun r => by simp [part, isAgg, run_underlying Tryz.underlying3]
  have p3 : ∀ r : Rec, (part 3 #[.int .i64 r.k, .int .i64 r.ep, .int .i64 r.tm, .int .i64 r.ct, .int .i64 r.tg, .int .i64 r.un, .string ⟨r.rt.toArray⟩, .string ⟨r.nm.toArray⟩] 3).run Tryz.prog W = .ok (.int .i64 r.ct) W := fun r => by simp [part, isAgg, run_underlying Tryz.underlying3]
  have p4 : ∀ r : Rec, (part 3 #[.int .i64 r.k, .int .i64 r.ep, .int .i64 r.tm, .int .i64 r.ct, .int .i64 r.tg, .int .i64 r.un, .string ⟨r.rt.toArray⟩, .string ⟨r.nm.toArray⟩] 4).run Tryz.prog W = .ok (.int .i64 r.tg) W := fun r => by simp [part, isAgg, run_underlying Tryz.underlying3]
  have p5 : ∀ r : Rec, (part 3 #[.int .i64 r.k, .int .i64 r.ep, .int .i64 r.tm, .int .i64 r.ct, .int .i64 r.tg, .int .i64 r.un, .string ⟨r.rt.toArray⟩, .string ⟨r.nm.toArray⟩] 5).run Tryz.prog W = .ok (.int .i64 r.un) W := fun r => by simp [part, isAgg, run_underlying Tryz.underlying3]
  have p6 : ∀ r : Rec, (part 9 #[.int .i64 r.k, .int .i64 r.ep, .int .i64 r.tm, .int .i64 r.ct, .int .i64 r.tg, .int .i64 r.un, .string ⟨r.rt.toArray⟩, .string ⟨r.nm.toArray⟩] 6).run Tryz.prog W = .ok (.string ⟨r.rt.toArray⟩) W := fun r => by simp [part, isAgg, run_underlying Tryz.underlying9]
  have p7 : ∀ r : Rec, (part 9 #[.int .i64 r.k, .int .i64 r.ep, .int .i64 r.tm, .int .i64 r.ct, .int .i64 r.tg, .int .i64 r.un, .string ⟨r.rt.toArray⟩, .string ⟨r.nm.toArray⟩] 7).run Tryz.prog W = .ok (.string ⟨r.nm.toArray⟩) W := fun r => by simp [part, isAgg, run_underlying Tryz.underlying9]
  rw [run_equalIn_struct W 9998 _ _ _ under_rec stood_rec, fields_rec]
  simp only [Op.eqFields, Sem.run_bind, Sem.run_ite, p0, p1, p2, p3, p4, p5, p6, p7, hh, hs, Result.andThen_ok]
  by_cases h1 : a.k = b.k
  rotate_left 1
  · simp [h1, eq_iff]
  by_cases h2 : a.ep = b.ep
  rotate_left 1
  · simp [h1, h2, eq_iff]
  by_cases h3 : a.tm = b.tm
  rotate_left 1
  · simp [h1, h2, h3, eq_iff]
  by_cases h4 : a.ct = b.ct
  rotate_left 1
  · simp [h1, h2, h3, h4, eq_iff]
  by_cases h5 : a.tg = b.tg
  rotate_left 1
  · simp [h1, h2, h3, h4, h5, eq_iff]
  by_cases h6 : a.un = b.un
  rotate_left 1
  · simp [h1, h2, h3, h4, h5, h6, eq_iff]
  by_cases h7 : a.rt = b.rt
  rotate_left 1
  · simp [h1, h2, h3, h4, h5, h6, h7, eq_iff]
  by_cases h8 : a.nm = b.nm
  rotate_left 1
  · simp [h1, h2, h3, h4, h5, h6, h7, h8, eq_iff]
  simp [h1, h2, h3, h4, h5, h6, h7, h8, eq_iff]
theorem part_rec (W : World) (x : Sd) : (part 23 #[.int .i64 x.1.k, .int .i64 x.1.ep, .int .i64 x.1.tm, .int .i64 x.1.ct, .int .i64 x.1.tg, .int .i64 x.1.un, .string ⟨x.1.rt.toArray⟩, .string ⟨x.1.nm.toArray⟩, .string ⟨x.2.toArray⟩] 0).run Tryz.prog W = .ok (.agg #[.int .i64 x.1.k, .int .i64 x.1.ep, .int .i64 x.1.tm, .int .i64 x.1.ct, .int .i64 x.1.tg, .int .i64 x.1.un, .string ⟨x.1.rt.toArray⟩, .string ⟨x.1.nm.toArray⟩]) W := by
  obtain ⟨i0, hi, _, hz1, _⟩ := info_parts info_rec
  have hagg : (isAgg 23).run Tryz.prog W = .ok true W := by
    unfold isAgg
    rw [Sem.run_bind, run_underlying under_rec W]
    rfl
  simp [part, Sem.run_bind, hagg, sizeOf, typeInfo, hi, hz1]
theorem part_tag (W : World) (x : Sd) : (part 9 #[.int .i64 x.1.k, .int .i64 x.1.ep, .int .i64 x.1.tm, .int .i64 x.1.ct, .int .i64 x.1.tg, .int .i64 x.1.un, .string ⟨x.1.rt.toArray⟩, .string ⟨x.1.nm.toArray⟩, .string ⟨x.2.toArray⟩] 8).run Tryz.prog W = .ok (.string ⟨x.2.toArray⟩) W := by simp [part, isAgg, run_underlying Tryz.underlying9]
theorem run_in_sd (W : World) (a b : Sd) : (Op.equalIn 10000 45 (.agg #[.int .i64 a.1.k, .int .i64 a.1.ep, .int .i64 a.1.tm, .int .i64 a.1.ct, .int .i64 a.1.tg, .int .i64 a.1.un, .string ⟨a.1.rt.toArray⟩, .string ⟨a.1.nm.toArray⟩, .string ⟨a.2.toArray⟩]) (.agg #[.int .i64 b.1.k, .int .i64 b.1.ep, .int .i64 b.1.tm, .int .i64 b.1.ct, .int .i64 b.1.tg, .int .i64 b.1.un, .string ⟨b.1.rt.toArray⟩, .string ⟨b.1.nm.toArray⟩, .string ⟨b.2.toArray⟩])).run Tryz.prog W = .ok (decide (a = b)) W := by
  have hs : ∀ x y : List UInt8, (Op.equalIn 9999 9 (.string ⟨x.toArray⟩) (.string ⟨y.toArray⟩)).run Tryz.prog W = .ok (x == y) W := fun x y => by
    have := run_equalIn_string W 9998 9 ⟨x.toArray⟩ ⟨y.toArray⟩ Tryz.underlying9
    rw [ByteArray.toList_mk, ByteArray.toList_mk] at this
    exact this
  rw [run_equalIn_struct W 9999 _ _ _ under_sd stood_sd, fields_sd]
  simp only [Op.eqFields, Sem.run_bind, Sem.run_ite, part_rec, part_tag, run_in_rec2, hs, Result.andThen_ok]
  by_cases h1 : a.1 = b.1
  rotate_left 1
  · simp [h1, sd_iff]
  by_cases h2 : a.2 = b.2
  rotate_left 1
  · simp [h1, h2, sd_iff]
  simp [h1, h2, sd_iff]
/-- Two sealed records held against each other. -/
theorem run_neq_sd (a b : Sd) (q : Bool) (h : decide (a = b) = q) (W : World) : (binOp .neq 45 (.agg #[.int .i64 a.1.k, .int .i64 a.1.ep, .int .i64 a.1.tm, .int .i64 a.1.ct, .int .i64 a.1.tg, .int .i64 a.1.un, .string ⟨a.1.rt.toArray⟩, .string ⟨a.1.nm.toArray⟩, .string ⟨a.2.toArray⟩]) (.agg #[.int .i64 b.1.k, .int .i64 b.1.ep, .int .i64 b.1.tm, .int .i64 b.1.ct, .int .i64 b.1.tg, .int .i64 b.1.un, .string ⟨b.1.rt.toArray⟩, .string ⟨b.1.nm.toArray⟩, .string ⟨b.2.toArray⟩])).run Tryz.prog W = .ok (.bool (!q)) W := by
  rw [run_neq_struct, run_in_sd W a b, Result.andThen_ok, h]
theorem run_eql_sd (a b : Sd) (q : Bool) (h : decide (a = b) = q) (W : World) : (binOp .eql 45 (.agg #[.int .i64 a.1.k, .int .i64 a.1.ep, .int .i64 a.1.tm, .int .i64 a.1.ct, .int .i64 a.1.tg, .int .i64 a.1.un, .string ⟨a.1.rt.toArray⟩, .string ⟨a.1.nm.toArray⟩, .string ⟨a.2.toArray⟩]) (.agg #[.int .i64 b.1.k, .int .i64 b.1.ep, .int .i64 b.1.tm, .int .i64 b.1.ct, .int .i64 b.1.tg, .int .i64 b.1.un, .string ⟨b.1.rt.toArray⟩, .string ⟨b.1.nm.toArray⟩, .string ⟨b.2.toArray⟩])).run Tryz.prog W = .ok (.bool q) W := by
  rw [run_eql_struct, run_in_sd W a b, Result.andThen_ok, h]
theorem cell_row {W : World} {b : Nat} {cs : Array Value} {t : TypeId} (h : W.heap[b]? = some (.cells cs t (0, 0))) : ∀ j u, cs.toList[j]? = some u → W.cell? ((⟨b, 0, none⟩ : Addr).add j) = some u := fun j u hj => by
  rw [add_off, Nat.zero_add]
  exact blk_cell h (by rw [← Array.getElem?_toList]; exact hj)
/-- A sealed record appended to a row of the call's own. -/
theorem append_sd {ops : Array Oper} {rest : List Oper} {o : Oper} {a : Act} {Q : Exit → Act → World → Prop} (W : World) (hgd : o.guard = none) (s x : Operand)
    (ho : o.op = .call { callee := .builtin .append, args := #[s, x], argTypes := #[46, 46] }) (base c n : Nat) (p : Option Addr) (l : List Sd) (v : Sd) (hln : l.length = n) (hs : a.eval s = .slice p n c) (hn : n ≤ 100000) (hb : base ≤ W.heap.size)
    (b : Nat) (hx : a.eval x = .slice (some ⟨b, 0, none⟩) 1 1) (hv : Bs W b v) (hown : W.ownsRow base 45 9 (.slice p n c) n (ss l))
    (h : ∀ p' c' w', w'.ownsRow base 45 9 (.slice p' (n + 1) c') (n + 1) (ss (l ++ [v])) → Below base W w' → (∀ k, (Value.slice p n c).ownBlock ≠ some k → k < W.heap.size → w'.heap[k]? = W.heap[k]?) → wpList Tryz.prog ops Q rest (a.put o.dst (.slice p' (n + 1) c')) w') :
    wpList Tryz.prog ops Q (o :: rest) a W := by
  obtain ⟨i0, hi, hz0, hz1, hz2⟩ := info_parts info_sd
  refine wpList_append_own _ hgd s x 46 ho base 45 i0 (.agg #[.int .i64 0, .int .i64 0, .int .i64 0, .int .i64 0, .int .i64 0, .int .i64 0, .string ⟨#[]⟩, .string ⟨#[]⟩, .string ⟨#[]⟩]) 9 96 Tryz.underlying46 hi hz0 hz1 hz2 rfl (by decide) _ _ _ hs hown ⟨b, 0, none⟩ 1 1 (scL v) hx rfl (cell_row hv) (sc_one v) (by unfold maxLen; omega) (by omega) hb ?_
  intro v' w1 h1 hgrow _
  obtain ⟨p', c', rfl⟩ := own_slice h1
  refine h p' c' w1 (by rw [ss_app, ss_one]; exact h1) ?_ (fun k hk hlt => hgrow.block k hlt (fun e => hk e.symm))
  exact Below.grown (Below.refl _ W |>.mono hb) hgrow hb (fun k hk => (hown.lt k hk).1)
set_option maxRecDepth 100000 in
theorem rec_cells {H : Type} {enc : TypeId × Value → H} {W : World} {fuel : Nat} {cs : List Value} {x : DataW H × List MemPlace} (h : DataW.trod enc Tryz.prog W 0 (fun _ => true) true fuel 23 cs = some x) : ∃ r : Rec, cs = rcL r := by
  obtain ⟨xs, n, _, _, hl, hxl, hel⟩ := DataW.trod_struct Tryz.underlying23 h
  rw [cRec] at hl
  have e0 : DataW.trod enc Tryz.prog W 0 (fun _ => true) true n 3 ((cs.drop 0).take (Tryz.prog.cellsOf 3)) = xs[0]? := hel 0 _ rfl
  have e1 : DataW.trod enc Tryz.prog W 0 (fun _ => true) true n 3 ((cs.drop 1).take (Tryz.prog.cellsOf 3)) = xs[1]? := hel 1 _ rfl
  have e2 : DataW.trod enc Tryz.prog W 0 (fun _ => true) true n 3 ((cs.drop 2).take (Tryz.prog.cellsOf 3)) = xs[2]? := hel 2 _ rfl
  have e3 : DataW.trod enc Tryz.prog W 0 (fun _ => true) true n 3 ((cs.drop 3).take (Tryz.prog.cellsOf 3)) = xs[3]? := hel 3 _ rfl
  have e4 : DataW.trod enc Tryz.prog W 0 (fun _ => true) true n 3 ((cs.drop 4).take (Tryz.prog.cellsOf 3)) = xs[4]? := hel 4 _ rfl
  have e5 : DataW.trod enc Tryz.prog W 0 (fun _ => true) true n 3 ((cs.drop 5).take (Tryz.prog.cellsOf 3)) = xs[5]? := hel 5 _ rfl
  have e6 : DataW.trod enc Tryz.prog W 0 (fun _ => true) true n 9 ((cs.drop 6).take (Tryz.prog.cellsOf 9)) = xs[6]? := hel 6 _ rfl
  have e7 : DataW.trod enc Tryz.prog W 0 (fun _ => true) true n 9 ((cs.drop 7).take (Tryz.prog.cellsOf 9)) = xs[7]? := hel 7 _ rfl
  rw [cInt] at e0 e1 e2 e3 e4 e5
  rw [cStr] at e6 e7
  match xs, hxl with
  | [y0, y1, y2, y3, y4, y5, y6, y7], _ =>
    match cs, hl with
    | [v0, v1, v2, v3, v4, v5, v6, v7], _ =>
      obtain ⟨k, h0, _, _⟩ := DataW.trod_int Tryz.underlying3 e0
      obtain ⟨ep, h1, _, _⟩ := DataW.trod_int Tryz.underlying3 e1
      obtain ⟨tm, h2, _, _⟩ := DataW.trod_int Tryz.underlying3 e2
      obtain ⟨ct, h3, _, _⟩ := DataW.trod_int Tryz.underlying3 e3
      obtain ⟨tg, h4, _, _⟩ := DataW.trod_int Tryz.underlying3 e4
      obtain ⟨un, h5, _, _⟩ := DataW.trod_int Tryz.underlying3 e5
      obtain ⟨⟨⟨rt⟩⟩, h6, _, _⟩ := DataW.trod_string Tryz.underlying9 e6
      obtain ⟨⟨⟨nm⟩⟩, h7, _, _⟩ := DataW.trod_string Tryz.underlying9 e7
      simp at h0 h1 h2 h3 h4 h5 h6 h7
      subst h0 h1 h2 h3 h4 h5 h6 h7
      exact ⟨⟨k, ep, tm, ct, tg, un, rt, nm⟩, rfl⟩
set_option maxRecDepth 100000 in
theorem sd_cells {H : Type} {enc : TypeId × Value → H} {W : World} {fuel : Nat} {cs : List Value} {x : DataW H × List MemPlace} (h : DataW.trod enc Tryz.prog W 0 (fun _ => true) true fuel 45 cs = some x) : ∃ v : Sd, cs = scL v ∧ v.2.length ≤ maxLen := by
  obtain ⟨xs, n, _, _, hl, hxl, hel⟩ := DataW.trod_struct Tryz.underlying45 h
  rw [cSd] at hl
  have e0 : DataW.trod enc Tryz.prog W 0 (fun _ => true) true n 23 ((cs.drop 0).take (Tryz.prog.cellsOf 23)) = xs[0]? := hel 0 _ rfl
  have e1 : DataW.trod enc Tryz.prog W 0 (fun _ => true) true n 9 ((cs.drop 8).take (Tryz.prog.cellsOf 9)) = xs[1]? := hel 1 _ rfl
  rw [cRec] at e0
  rw [cStr] at e1
  match xs, hxl with
  | [y0, y1], _ =>
    match cs, hl with
    | [v0, v1, v2, v3, v4, v5, v6, v7, v8], _ =>
      obtain ⟨r, hr⟩ := rec_cells e0
      obtain ⟨⟨⟨t⟩⟩, h1, _, w1⟩ := DataW.trod_string Tryz.underlying9 e1
      simp [rcL] at hr h1
      obtain ⟨rfl, rfl, rfl, rfl, rfl, rfl, rfl, rfl⟩ := hr
      subst h1
      exact ⟨(r, t), rfl, by simpa [ByteArray.size] using w1⟩
/-- A row of sealed records that came in. -/
def Came (W : World) (a : Option Addr) (n c : Nat) (l : List Sd) : Prop := l.length = n ∧ n ≤ maxLen ∧ n ≤ c ∧ (∀ x ∈ l, x.2.length ≤ maxLen) ∧ Lies W a (ss l)
theorem lies_of {W : World} {g o : Nat} {l : List Sd} (hg : g < W.heap.size) (h : ∀ i (hi : i < l.length) j u, (scL l[i])[j]? = some u → W.cell? ⟨g, o + i * 9 + j, none⟩ = some u) : Lies W (some ⟨g, o, none⟩) (ss l) := fun _ => by
  refine ⟨g, o, rfl, hg, fun j u hj => ?_⟩
  have hlt : j < l.length * 9 := by rw [← ss_len]; exact (List.getElem?_eq_some_iff.1 hj).1
  have hi : j / 9 < l.length := by omega
  have e : j = j / 9 * 9 + j % 9 := by omega
  rw [e] at hj
  unfold ss at hj
  rw [fm_at sc_len l (j / 9) hi (j % 9) (by omega)] at hj
  have := h (j / 9) hi (j % 9) u hj
  rw [e, ← Nat.add_assoc]
  exact this
set_option maxRecDepth 100000 in
theorem open_sds {H : Type} {enc : TypeId × Value → H} {W : World} {v : Value} {d : DataW H} {p : List MemPlace}
    (h : DataW.Trod enc Tryz.prog W 0 (fun _ => true) true 46 v d p) : ∃ a n cap l, v.cells.toList = [.slice a n cap] ∧ Came W a n cap l := by
  obtain ⟨fuel, hf⟩ := h
  rcases Go.Deep.open_slice Tryz.underlying46 hf with ⟨hcs, _⟩ | ⟨a, len, cap, m, n, D, Pl, hcs, _, hl, hm, hmm, hd, hi⟩
  · exact ⟨none, 0, 0, [], hcs, rfl, Nat.zero_le _, Nat.le_refl _, (fun x hx => by simp at hx), Lies.nil _ _⟩
  · have hml : len ≤ m := by simp at hmm; omega
    have each : ∀ i, ∃ x : Sd, i < len → x.2.length ≤ maxLen ∧ ∀ j u, (scL x)[j]? = some u → W.cell? (a.add (i * 9 + j)) = some u := by
      intro i
      by_cases hil : i < len
      · obtain ⟨cs', hc, ht⟩ := hi i (by omega)
        obtain ⟨x, hx, hfit⟩ := sd_cells ht
        rw [cSd] at hc
        obtain ⟨_, hlen, hat⟩ := World.cells?_some hc
        refine ⟨x, fun _ => ⟨hfit, fun j u hj => ?_⟩⟩
        have hj9 : j < 9 := by rw [← sc_len x]; exact (List.getElem?_eq_some_iff.1 hj).1
        have := hat j (by omega)
        rw [hx, Go.Deep.add_add] at this
        rw [this]
        exact hj
      · exact ⟨(zero, []), fun h => absurd h hil⟩
    obtain ⟨z, hz⟩ := Classical.axiomOfChoice each
    have hll : ((List.range len).map z).length = len := by simp
    refine ⟨some a, len, cap, (List.range len).map z, hcs, hll, by omega, hl, (fun x hx => ?_), fun h0 => ?_⟩
    · obtain ⟨i, hi, rfl⟩ := List.mem_map.1 hx
      exact (hz i (List.mem_range.1 hi)).1
    have h0' : 0 < len := by rw [ss_len, hll] at h0; omega
    obtain ⟨g, o, spot⟩ := a
    have hc0 := (hz 0 h0').2 0 _ rfl
    have hspot : spot = none := by simpa [Addr.add] using World.cell?_spot hc0
    subst hspot
    refine lies_of (World.block_lt_of_cell? W _ (by simpa [Addr.add] using hc0)) (fun i hi j u hj => ?_) h0
    rw [hll] at hi
    simp only [List.getElem_map, List.getElem_range] at hj
    have := (hz i hi).2 j u hj
    rw [add_off] at this
    rw [Nat.add_assoc]
    exact this
/-- The first k of a row. -/
theorem cut_s (q off n c k : Nat) (h0 : 0 < c) (hk : k ≤ c) (W : World) : (Instr.slice 46 (.slice (some ⟨q, off, none⟩) n c) none (some (.int .i64 (k : Int))) none).run Tryz.prog W = .ok (.slice (some ⟨q, off, none⟩) k c) W := by
  rw [run_slice_h (ht := by kernel_rfl) (h0 := by omega) (h2 := by omega)]
  simp [go_sem, sliced, show ¬ c = 0 by omega]
end Go.Proofs.YtkidehngleglnaaGreatDoor.ChnD
