/- Plain mathematics: a book: until when epochs must be kept, what is held, what was purged; which record it takes, and what it is then. No program is reached here; no conditions but those that each lemma names. -/
import Derived.Test.YteldohopagdodaaRecN
import Derived.Sort.KeysCollected
namespace Go.Proofs.Yteldohopagdodaa.RetN
set_option linter.unusedVariables false
open RecN
abbrev L := List UInt8
/-- A book. -/
structure St where
  first : Int
  ep : Int
  now : Int
  un : Int → Int
  hs : List (L × Int)
  gone : Int → Bool
def new (f : Int) : St := ⟨f, f, 0, fun _ => 0, [], fun _ => false⟩
def upd {α : Type} (f : Int → α) (i : Int) (v : α) : Int → α := fun j => if j = i then v else f j
theorem upd_at {α : Type} (f : Int → α) (i : Int) (v : α) : upd f i v i = v := if_pos rfl
theorem upd_other {α : Type} (f : Int → α) {i j : Int} (v : α) (h : j ≠ i) : upd f i v j = f j := if_neg h
/-- Which epoch a name holds. -/
def lk : List (L × Int) → L → Option Int
  | [], _ => none
  | p :: l, n => if p.1 = n then some p.2 else lk l n
/-- No name twice. -/
def Once (l : List (L × Int)) : Prop := (l.map (·.1)).Nodup
theorem lk_mem {l : List (L × Int)} {n : L} {e : Int} (h : lk l n = some e) : (n, e) ∈ l := by
  induction l with
  | nil => simp [lk] at h
  | cons p l ih =>
    unfold lk at h
    by_cases hp : p.1 = n
    · rw [if_pos hp] at h
      injection h with h
      rw [← hp, ← h]
      exact List.mem_cons_self
    · rw [if_neg hp] at h
      exact List.mem_cons_of_mem _ (ih h)
theorem mem_look {l : List (L × Int)} (ho : Once l) {n : L} {e : Int} (h : (n, e) ∈ l) : lk l n = some e := by
  induction l with
  | nil => simp at h
  | cons p l ih =>
    unfold Once at ho
    rw [List.map_cons, List.nodup_cons] at ho
    unfold lk
    rcases List.mem_cons.1 h with hh | hh
    · rw [← hh, if_pos rfl]
    · rw [if_neg (fun e1 => ho.1 (by rw [e1]; exact List.mem_map.2 ⟨_, hh, rfl⟩))]
      exact ih ho.2 hh
theorem lk_some {l : List (L × Int)} {n : L} : (lk l n).isSome = true ↔ n ∈ l.map (·.1) := by
  induction l with
  | nil => simp [lk]
  | cons p l ih =>
    unfold lk
    rw [List.map_cons, List.mem_cons]
    by_cases hp : p.1 = n
    · rw [if_pos hp]; simp [hp]
    · rw [if_neg hp, ih]
      exact ⟨.inr, fun h => h.resolve_left (fun e => hp e.symm)⟩
theorem lk_snoc (l : List (L × Int)) (m : L) (e : Int) (h : lk l m = none) (n : L) : lk (l ++ [(m, e)]) n = if n = m then some e else lk l n := by
  induction l with
  | nil =>
    by_cases hn : n = m
    · simp [lk, hn]
    · rw [if_neg hn]; simp [lk, Ne.symm hn]
  | cons p l ih =>
    unfold lk at h
    by_cases hp : p.1 = m
    · rw [if_pos hp] at h; cases h
    · rw [if_neg hp] at h
      rw [List.cons_append]
      unfold lk
      by_cases hq : p.1 = n
      · rw [if_pos hq, if_pos hq, if_neg (fun e => hp (hq.trans e))]
      · rw [if_neg hq, if_neg hq]
        exact ih h
theorem once_snoc {l : List (L × Int)} (ho : Once l) {m : L} (e : Int) (h : lk l m = none) : Once (l ++ [(m, e)]) := by
  unfold Once at *
  rw [List.map_append, List.nodup_append]
  refine ⟨ho, by simp, fun a ha b hb => ?_⟩
  simp at hb
  subst hb
  intro e1
  subst e1
  have := lk_some.2 ha
  rw [h] at this
  cases this
/-- All but the hold of this name. -/
def del (l : List (L × Int)) (m : L) : List (L × Int) := l.filter fun p => decide (p.1 ≠ m)
theorem once_del {l : List (L × Int)} (ho : Once l) (m : L) : Once (del l m) := by
  unfold Once del at *
  exact ho.sublist (List.Sublist.map _ List.filter_sublist)
theorem lk_del (l : List (L × Int)) (m n : L) : lk (del l m) n = if n = m then none else lk l n := by
  induction l with
  | nil => simp [del, lk]
  | cons p l ih =>
    unfold del at *
    by_cases hp : p.1 = m
    · rw [List.filter_cons_of_neg (by simp [hp]), ih]
      by_cases hn : n = m
      · rw [if_pos hn, if_pos hn]
      · rw [if_neg hn, if_neg hn]
        conv => rhs; unfold lk
        rw [if_neg (fun e => hn (e.symm.trans hp))]
    · rw [List.filter_cons_of_pos (by simp [hp])]
      unfold lk
      by_cases hq : p.1 = n
      · rw [if_pos hq, if_pos hq, if_neg (fun e => hp (hq.trans e))]
      · rw [if_neg hq, if_neg hq]
        exact ih
theorem del_none {l : List (L × Int)} {m : L} (h : lk l m = none) : del l m = l := by
  unfold del
  rw [List.filter_eq_self]
  intro p hp
  simp only [ne_eq, decide_not, Bool.not_eq_eq_eq_not, Bool.not_true, decide_eq_false_iff_not]
  intro e
  have := lk_some.2 (List.mem_map.2 ⟨p, hp, e⟩)
  rw [h] at this
  cases this
theorem del_len {l : List (L × Int)} (ho : Once l) (m : L) : (del l m).length + (if (lk l m).isSome then 1 else 0) = l.length := by
  induction l with
  | nil => simp [del, lk]
  | cons p l ih =>
    have h2 : Once l := by unfold Once at *; rw [List.map_cons, List.nodup_cons] at ho; exact ho.2
    have h1 : p.1 ∉ l.map (·.1) := by unfold Once at ho; rw [List.map_cons, List.nodup_cons] at ho; exact ho.1
    by_cases hp : p.1 = m
    · have hn : lk l m = none := by
        cases hl : lk l m with
        | none => rfl
        | some x => exact absurd (lk_some.1 (by rw [hl]; rfl)) (hp ▸ h1)
      have hd : del (p :: l) m = l := by
        unfold del
        rw [List.filter_cons_of_neg (by simp [hp])]
        exact del_none hn
      rw [hd]
      unfold lk
      rw [if_pos hp]
      simp
    · have hd : del (p :: l) m = p :: del l m := by
        unfold del
        rw [List.filter_cons_of_pos (by simp [hp])]
      have := ih h2
      rw [hd]
      unfold lk
      rw [if_neg hp, List.length_cons, List.length_cons]
      omega
theorem del_le (l : List (L × Int)) (m : L) : (del l m).length ≤ l.length := List.length_filter_le _ _
/-- The names that hold an epoch. -/
def pick (l : List (L × Int)) (e : Int) : List L := (l.filter fun p => decide (p.2 = e)).map (·.1)
theorem pick_mem {l : List (L × Int)} (ho : Once l) {e : Int} {n : L} : n ∈ pick l e ↔ lk l n = some e := by
  unfold pick
  rw [List.mem_map]
  constructor
  · rintro ⟨p, hp, rfl⟩
    rw [List.mem_filter, decide_eq_true_eq] at hp
    exact mem_look ho (by rw [← hp.2]; exact hp.1)
  · intro h
    exact ⟨(n, e), by rw [List.mem_filter]; exact ⟨lk_mem h, by simp⟩, rfl⟩
theorem pick_once {l : List (L × Int)} (ho : Once l) (e : Int) : (pick l e).Nodup := by
  unfold pick Once at *
  exact ho.sublist (List.Sublist.map _ List.filter_sublist)
theorem pick_le (l : List (L × Int)) (e : Int) : (pick l e).length ≤ l.length := by
  unfold pick
  rw [List.length_map]
  exact List.length_filter_le _ _
/-- .. rising. -/
def heldL (l : List (L × Int)) (e : Int) : List L := (pick l e).mergeSort leB
theorem held_len (l : List (L × Int)) (e : Int) : (heldL l e).length = (pick l e).length := by unfold heldL; simp
theorem held_le (l : List (L × Int)) (e : Int) : (heldL l e).length ≤ l.length := by rw [held_len]; exact pick_le l e
/-- What was collected of a map's entries, in whatever order: those that hold the epoch and are no longer to come. -/
def Got (l : List (L × Int)) (e : Int) (left : Lit → Bool) (ss : List L) : Prop := ss.Nodup ∧ ∀ x, x ∈ ss ↔ (lk l x = some e ∧ left (.string x) = false)
theorem Got.start {l : List (L × Int)} {e : Int} {left : Lit → Bool} (h : ∀ x, left (.string x) = (lk l x).isSome) : Got l e left [] :=
  ⟨List.nodup_nil, fun x => by rw [h x]; cases hx : lk l x <;> simp⟩
theorem Got.yes {l : List (L × Int)} {e : Int} {left : Lit → Bool} {ss : List L} (h : Got l e left ss) {x : L} (hl : left (.string x) = true) (hx : lk l x = some e) : Got l e (fun z => left z && !z.sameKey (.string x)) (ss ++ [x]) := by
  have hnew : x ∉ ss := fun hm => by have := ((h.2 x).1 hm).2; rw [hl] at this; cases this
  refine ⟨List.nodup_append.2 ⟨h.1, by simp, fun a ha b hb => by simp at hb; subst hb; exact fun e => hnew (e ▸ ha)⟩, fun y => ?_⟩
  by_cases hy : y = x
  · subst hy; simp [hx, Lit.sameKey]
  · simp [h.2 y, hy, Lit.sameKey]
theorem Got.no {l : List (L × Int)} {e : Int} {left : Lit → Bool} {ss : List L} (h : Got l e left ss) {x : L} (hx : lk l x ≠ some e) : Got l e (fun z => left z && !z.sameKey (.string x)) ss := by
  refine ⟨h.1, fun y => ?_⟩
  by_cases hy : y = x
  · subst hy; simp [hx, h.2 y]
  · simp [h.2 y, hy, Lit.sameKey]
theorem Got.perm {l : List (L × Int)} (ho : Once l) {e : Int} {left : Lit → Bool} {ss : List L} (h : Got l e left ss) (hl : ∀ z, left z = false) : ss.mergeSort leB = heldL l e := by
  unfold heldL
  refine mergeSort_of_perm ((List.perm_ext_iff_of_nodup h.1 (pick_once ho e)).2 fun x => ?_)
  rw [h.2 x, hl, pick_mem ho]
  simp
/-- Why a record that means this epoch is refused. -/
def mean (s : St) (t : Int) : Int := if t < s.first then 7 else if s.gone t = true then 13 else 0
def mayR (s : St) (r : Rec) : Int := if mean s r.tg ≠ 0 then mean s r.tg else if r.un < s.un r.tg then 12 else 0
def mayH (s : St) (r : Rec) : Int := if mean s r.tg ≠ 0 then mean s r.tg else if (lk s.hs r.nm).isSome = true then 19 else if 64 ≤ s.hs.length then 5 else 0
def mayL (s : St) (r : Rec) : Int := if (lk s.hs r.nm).isSome = true then 0 else 7
def mayP (s : St) (r : Rec) : Int := if mean s r.tg ≠ 0 then mean s r.tg else if r.tm < s.un r.tg then 9 else if 0 < (heldL s.hs r.tg).length then 10 else if r.un ≠ s.un r.tg then 2 else 0
def mayK (s : St) (r : Rec) : Int := if r.k = 2 then mayR s r else if r.k = 3 then mayH s r else if r.k = 4 then mayL s r else if r.k = 5 then mayP s r else 0
/-- Why a record is refused; 0: it is not. -/
def may (s : St) (r : Rec) : Int := if ¬ right r then 2 else if r.ep ≠ s.ep ∨ r.tm < s.now then 16 else mayK s r
/-- What a book is that has taken a record. -/
def take (s : St) (r : Rec) : St :=
  if r.k = 1 then { s with ep := s.ep + 1, now := r.tm }
  else if r.k = 2 then { s with un := upd s.un r.tg r.un, now := r.tm }
  else if r.k = 3 then { s with hs := s.hs ++ [(r.nm, r.tg)], now := r.tm }
  else if r.k = 4 then { s with hs := del s.hs r.nm, now := r.tm }
  else if r.k = 5 then { s with gone := upd s.gone r.tg true, now := r.tm }
  else { s with now := r.tm }
def apply (s : St) (r : Rec) : St := if may s r = 0 then take s r else s
theorem may_ok {s : St} {r : Rec} (h : may s r = 0) : right r ∧ r.ep = s.ep ∧ s.now ≤ r.tm ∧ mayK s r = 0 := by
  unfold may at h
  by_cases h1 : right r
  · rw [if_neg (fun e => e h1)] at h
    by_cases h2 : r.ep ≠ s.ep ∨ r.tm < s.now
    · rw [if_pos h2] at h; omega
    · rw [if_neg h2] at h
      exact ⟨h1, by omega, by omega, h⟩
  · rw [if_pos h1] at h; omega
theorem mean_ok {s : St} {t : Int} (h : mean s t = 0) : s.first ≤ t ∧ s.gone t = false := by
  unfold mean at h
  by_cases h1 : t < s.first
  · rw [if_pos h1] at h; omega
  · rw [if_neg h1] at h
    cases h2 : s.gone t with
    | true => rw [if_pos h2] at h; omega
    | false => exact ⟨by omega, rfl⟩
theorem may2 {s : St} {r : Rec} (h : may s r = 0) (hk : r.k = 2) : mean s r.tg = 0 ∧ s.un r.tg ≤ r.un := by
  have := (may_ok h).2.2.2
  unfold mayK at this
  rw [if_pos hk] at this
  unfold mayR at this
  by_cases h1 : mean s r.tg ≠ 0
  · rw [if_pos h1] at this; exact absurd this h1
  · rw [if_neg h1] at this
    by_cases h2 : r.un < s.un r.tg
    · rw [if_pos h2] at this; omega
    · exact ⟨by omega, by omega⟩
theorem may3 {s : St} {r : Rec} (h : may s r = 0) (hk : r.k = 3) : mean s r.tg = 0 ∧ lk s.hs r.nm = none ∧ s.hs.length < 64 := by
  have := (may_ok h).2.2.2
  unfold mayK at this
  rw [if_neg (by omega), if_pos hk] at this
  unfold mayH at this
  by_cases h1 : mean s r.tg ≠ 0
  · rw [if_pos h1] at this; exact absurd this h1
  · rw [if_neg h1] at this
    cases h2 : lk s.hs r.nm with
    | some x => rw [h2, if_pos (show (some x).isSome = true from rfl)] at this; omega
    | none =>
      rw [h2, if_neg (by simp)] at this
      by_cases h3 : 64 ≤ s.hs.length
      · rw [if_pos h3] at this; omega
      · exact ⟨by omega, rfl, by omega⟩
theorem may4 {s : St} {r : Rec} (h : may s r = 0) (hk : r.k = 4) : (lk s.hs r.nm).isSome = true := by
  have := (may_ok h).2.2.2
  unfold mayK at this
  rw [if_neg (by omega), if_neg (by omega), if_pos hk] at this
  unfold mayL at this
  by_cases h1 : (lk s.hs r.nm).isSome = true
  · exact h1
  · rw [if_neg h1] at this; omega
theorem may5 {s : St} {r : Rec} (h : may s r = 0) (hk : r.k = 5) : mean s r.tg = 0 ∧ s.un r.tg ≤ r.tm ∧ (heldL s.hs r.tg).length = 0 ∧ r.un = s.un r.tg := by
  have := (may_ok h).2.2.2
  unfold mayK at this
  rw [if_neg (by omega), if_neg (by omega), if_neg (by omega), if_pos hk] at this
  unfold mayP at this
  by_cases h1 : mean s r.tg ≠ 0
  · rw [if_pos h1] at this; exact absurd this h1
  · rw [if_neg h1] at this
    by_cases h2 : r.tm < s.un r.tg
    · rw [if_pos h2] at this; omega
    · rw [if_neg h2] at this
      by_cases h3 : 0 < (heldL s.hs r.tg).length
      · rw [if_pos h3] at this; omega
      · rw [if_neg h3] at this
        by_cases h4 : r.un ≠ s.un r.tg
        · rw [if_pos h4] at this; omega
        · exact ⟨by omega, by omega, by omega, by omega⟩
/-- A time never becomes less; what was purged stays so. -/
theorem longer (s : St) (r : Rec) (e : Int) : s.un e ≤ (apply s r).un e ∧ (s.gone e = true → (apply s r).gone e = true) := by
  unfold apply
  by_cases h : may s r = 0
  · rw [if_pos h]
    unfold take
    by_cases h1 : r.k = 1
    · rw [if_pos h1]; exact ⟨Int.le_refl _, id⟩
    rw [if_neg h1]
    by_cases h2 : r.k = 2
    · rw [if_pos h2]
      refine ⟨?_, id⟩
      show s.un e ≤ upd s.un r.tg r.un e
      by_cases he : e = r.tg
      · rw [he, upd_at]; exact (may2 h h2).2
      · rw [upd_other _ _ he]; exact Int.le_refl _
    rw [if_neg h2]
    by_cases h3 : r.k = 3
    · rw [if_pos h3]; exact ⟨Int.le_refl _, id⟩
    rw [if_neg h3]
    by_cases h4 : r.k = 4
    · rw [if_pos h4]; exact ⟨Int.le_refl _, id⟩
    rw [if_neg h4]
    by_cases h5 : r.k = 5
    · rw [if_pos h5]
      refine ⟨Int.le_refl _, fun hg => ?_⟩
      show upd s.gone r.tg true e = true
      by_cases he : e = r.tg
      · rw [he, upd_at]
      · rw [upd_other _ _ he]; exact hg
    · rw [if_neg h5]; exact ⟨Int.le_refl _, id⟩
  · rw [if_neg h]; exact ⟨Int.le_refl _, id⟩
/-- An epoch is purged only where the time is past, and no hold has it. -/
theorem kept {s : St} {r : Rec} (h : may s r = 0) (hk : r.k = 5) : s.un r.tg ≤ r.tm ∧ (heldL s.hs r.tg).length = 0 ∧ s.gone r.tg = false ∧ r.un = s.un r.tg ∧ (apply s r).gone r.tg = true := by
  obtain ⟨h1, h2, h3, h4⟩ := may5 h hk
  refine ⟨h2, h3, (mean_ok h1).2, h4, ?_⟩
  unfold apply
  rw [if_pos h]
  unfold take
  rw [if_neg (by omega), if_neg (by omega), if_neg (by omega), if_neg (by omega), if_pos hk]
  exact upd_at _ _ _
/-- So many numbers in a range, none twice. -/
theorem pigeon : ∀ (M : Nat) (l : List Int), l.Nodup → (∀ x ∈ l, 0 ≤ x ∧ x < (M : Int)) → l.length ≤ M
  | 0, l, _, h => by
    cases l with
    | nil => simp
    | cons x l => have := h x List.mem_cons_self; omega
  | M + 1, l, hn, h => by
    have := pigeon M (l.erase (M : Int)) (hn.erase _) (fun x hx => by
      rw [hn.mem_erase_iff] at hx
      have := h x hx.2
      have := hx.1
      omega)
    rw [List.length_erase] at this
    split at this <;> omega
end Go.Proofs.Yteldohopagdodaa.RetN
