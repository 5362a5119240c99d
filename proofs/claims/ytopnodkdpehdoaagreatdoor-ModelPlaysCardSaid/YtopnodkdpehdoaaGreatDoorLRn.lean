/- RetN DbN: one behind the other. -/
import Derived.Test.YtopnodkdpehdoaaGreatDoorLOct
import Derived.Sort.KeysCollected
/- Plain mathematics: a book: until when epochs must be kept, what is held, what was purged; which record it takes, and what it is then. No program is reached here; no conditions but those that each lemma names. -/
namespace Go.Proofs.YtopnodkdpehdoaaGreatDoor.RetN
set_option linter.unusedVariables false
open RecN
abbrev L := List UInt8
/-- A book. -/
structure St where
  first : Int
  ep : Int
  now : Int
  un : Int → Int
  hs : List (L × Int)
  gone : Int → Bool
def new (f : Int) : St := ⟨f, f, 0, fun _ => 0, [], fun _ => false⟩
def upd {α : Type} (f : Int → α) (i : Int) (v : α) : Int → α := fun j => if j = i then v else f j
theorem upd_at {α : Type} (f : Int → α) (i : Int) (v : α) : upd f i v i = v := if_pos rfl
theorem upd_other {α : Type} (f : Int → α) {i j : Int} (v : α) (h : j ≠ i) : upd f i v j = f j := if_neg h
/-- Which epoch a name holds. -/
def lk : List (L × Int) → L → Option Int
  | [], _ => none
  | p :: l, n => if p.1 = n then some p.2 else lk l n
/-- No name twice. -/
def Once (l : List (L × Int)) : Prop := (l.map (·.1)).Nodup
theorem lk_mem {l : List (L × Int)} {n : L} {e : Int} (h : lk l n = some e) : (n, e) ∈ l := by
  induction l with
  | nil => simp [lk] at h
  | cons p l ih =>
    unfold lk at h
    by_cases hp : p.1 = n
    · rw [if_pos hp] at h
      injection h with h
      rw [← hp, ← h]
      exact List.mem_cons_self
    · rw [if_neg hp] at h
      exact List.mem_cons_of_mem _ (ih h)
theorem mem_look {l : List (L × Int)} (ho : Once l) {n : L} {e : Int} (h : (n, e) ∈ l) : lk l n = some e := by
  induction l with
  | nil => simp at h
  | cons p l ih =>
    unfold Once at ho
    rw [List.map_cons, List.nodup_cons] at ho
    unfold lk
    rcases List.mem_cons.1 h with hh | hh
    · rw [← hh, if_pos rfl]
    · rw [if_neg (fun e1 => ho.1 (by rw [e1]; exact List.mem_map.2 ⟨_, hh, rfl⟩))]
      exact ih ho.2 hh
theorem lk_some {l : List (L × Int)} {n : L} : (lk l n).isSome = true ↔ n ∈ l.map (·.1) := by
  induction l with
  | nil => simp [lk]
  | cons p l ih =>
    unfold lk
    rw [List.map_cons, List.mem_cons]
    by_cases hp : p.1 = n
    · rw [if_pos hp]; simp [hp]
    · rw [if_neg hp, ih]
      exact ⟨.inr, fun h => h.resolve_left (fun e => hp e.symm)⟩
theorem lk_snoc (l : List (L × Int)) (m : L) (e : Int) (h : lk l m = none) (n : L) : lk (l ++ [(m, e)]) n = if n = m then some e else lk l n := by
  induction l with
  | nil =>
    by_cases hn : n = m
    · simp [lk, hn]
    · rw [if_neg hn]; simp [lk, Ne.symm hn]
  | cons p l ih =>
    unfold lk at h
    by_cases hp : p.1 = m
    · rw [if_pos hp] at h; cases h
    · rw [if_neg hp] at h
      rw [List.cons_append]
      unfold lk
      by_cases hq : p.1 = n
      · rw [if_pos hq, if_pos hq, if_neg (fun e => hp (hq.trans e))]
      · rw [if_neg hq, if_neg hq]
        exact ih h
theorem once_snoc {l : List (L × Int)} (ho : Once l) {m : L} (e : Int) (h : lk l m = none) : Once (l ++ [(m, e)]) := by
  unfold Once at *
  rw [List.map_append, List.nodup_append]
  refine ⟨ho, by simp, fun a ha b hb => ?_⟩
  simp at hb
  subst hb
  intro e1
  subst e1
  have := lk_some.2 ha
  rw [h] at this
  cases this
/-- All but the hold of this name. -/
def del (l : List (L × Int)) (m : L) : List (L × Int) := l.filter fun p => decide (p.1 ≠ m)
theorem once_del {l : List (L × Int)} (ho : Once l) (m : L) : Once (del l m) := by
  unfold Once del at *
  exact ho.sublist (List.Sublist.map _ List.filter_sublist)
theorem lk_del (l : List (L × Int)) (m n : L) : lk (del l m) n = if n = m then none else lk l n := by
  induction l with
  | nil => simp [del, lk]
  | cons p l ih =>
    unfold del at *
    by_cases hp : p.1 = m
    · rw [List.filter_cons_of_neg (by simp [hp]), ih]
      by_cases hn : n = m
      · rw [if_pos hn, if_pos hn]
      · rw [if_neg hn, if_neg hn]
        conv => rhs; unfold lk
        rw [if_neg (fun e => hn (e.symm.trans hp))]
    · rw [List.filter_cons_of_pos (by simp [hp])]
      unfold lk
      by_cases hq : p.1 = n
      · rw [if_pos hq, if_pos hq, if_neg (fun e => hp (hq.trans e))]
      · rw [if_neg hq, if_neg hq]
        exact ih
theorem del_none {l : List (L × Int)} {m : L} (h : lk l m = none) : del l m = l := by
  unfold del
  rw [List.filter_eq_self]
  intro p hp
  simp only [ne_eq, decide_not, Bool.not_eq_eq_eq_not, Bool.not_true, decide_eq_false_iff_not]
  intro e
  have := lk_some.2 (List.mem_map.2 ⟨p, hp, e⟩)
  rw [h] at this
  cases this
theorem del_len {l : List (L × Int)} (ho : Once l) (m : L) : (del l m).length + (if (lk l m).isSome then 1 else 0) = l.length := by
  induction l with
  | nil => simp [del, lk]
  | cons p l ih =>
    have h2 : Once l := by unfold Once at *; rw [List.map_cons, List.nodup_cons] at ho; exact ho.2
    have h1 : p.1 ∉ l.map (·.1) := by unfold Once at ho; rw [List.map_cons, List.nodup_cons] at ho; exact ho.1
    by_cases hp : p.1 = m
    · have hn : lk l m = none := by
        cases hl : lk l m with
        | none => rfl
        | some x => exact absurd (lk_some.1 (by rw [hl]; rfl)) (hp ▸ h1)
      have hd : del (p :: l) m = l := by
        unfold del
        rw [List.filter_cons_of_neg (by simp [hp])]
        exact del_none hn
      rw [hd]
      unfold lk
      rw [if_pos hp]
      simp
    · have hd : del (p :: l) m = p :: del l m := by
        unfold del
        rw [List.filter_cons_of_pos (by simp [hp])]
      have := ih h2
      rw [hd]
      unfold lk
      rw [if_neg hp, List.length_cons, List.length_cons]
      omega
theorem del_le (l : List (L × Int)) (m : L) : (del l m).length ≤ l.length := List.length_filter_le _ _
/-- The names that hold an epoch. -/
def pick (l : List (L × Int)) (e : Int) : List L := (l.filter fun p => decide (p.2 = e)).map (·.1)
theorem pick_mem {l : List (L × Int)} (ho : Once l) {e : Int} {n : L} : n ∈ pick l e ↔ lk l n = some e := by
  unfold pick
  rw [List.mem_map]
  constructor
  · rintro ⟨p, hp, rfl⟩
    rw [List.mem_filter, decide_eq_true_eq] at hp
    exact mem_look ho (by rw [← hp.2]; exact hp.1)
  · intro h
    exact ⟨(n, e), by rw [List.mem_filter]; exact ⟨lk_mem h, by simp⟩, rfl⟩
theorem pick_once {l : List (L × Int)} (ho : Once l) (e : Int) : (pick l e).Nodup := by
  unfold pick Once at *
  exact ho.sublist (List.Sublist.map _ List.filter_sublist)
theorem pick_le (l : List (L × Int)) (e : Int) : (pick l e).length ≤ l.length := by
  unfold pick
  rw [List.length_map]
  exact List.length_filter_le _ _
/-- .. rising. -/
def heldL (l : List (L × Int)) (e : Int) : List L := (pick l e).mergeSort leB
theorem held_len (l : List (L × Int)) (e : Int) : (heldL l e).length = (pick l e).length := by unfold heldL; simp
theorem held_le (l : List (L × Int)) (e : Int) : (heldL l e).length ≤ l.length := by rw [held_len]; exact pick_le l e
/-- What was collected of a map's entries, in whatever order: those that hold the epoch and are no longer to come. -/
def Got (l : List (L × Int)) (e : Int) (left : Lit → Bool) (ss : List L) : Prop := ss.Nodup ∧ ∀ x, x ∈ ss ↔ (lk l x = some e ∧ left (.string x) = false)
theorem Got.start {l : List (L × Int)} {e : Int} {left : Lit → Bool} (h : ∀ x, left (.string x) = (lk l x).isSome) : Got l e left [] :=
  ⟨List.nodup_nil, fun x => by rw [h x]; cases hx : lk l x <;> simp⟩
theorem Got.yes {l : List (L × Int)} {e : Int} {left : Lit → Bool} {ss : List L} (h : Got l e left ss) {x : L} (hl : left (.string x) = true) (hx : lk l x = some e) : Got l e (fun z => left z && !z.sameKey (.string x)) (ss ++ [x]) := by
  have hnew : x ∉ ss := fun hm => by have := ((h.2 x).1 hm).2; rw [hl] at this; cases this
  refine ⟨List.nodup_append.2 ⟨h.1, by simp, fun a ha b hb => by simp at hb; subst hb; exact fun e => hnew (e ▸ ha)⟩, fun y => ?_⟩
  by_cases hy : y = x
  · subst hy; simp [hx, Lit.sameKey]
  · simp [h.2 y, hy, Lit.sameKey]
theorem Got.no {l : List (L × Int)} {e : Int} {left : Lit → Bool} {ss : List L} (h : Got l e left ss) {x : L} (hx : lk l x ≠ some e) : Got l e (fun z => left z && !z.sameKey (.string x)) ss := by
  refine ⟨h.1, fun y => ?_⟩
  by_cases hy : y = x
  · subst hy; simp [hx, h.2 y]
  · simp [h.2 y, hy, Lit.sameKey]
theorem Got.perm {l : List (L × Int)} (ho : Once l) {e : Int} {left : Lit → Bool} {ss : List L} (h : Got l e left ss) (hl : ∀ z, left z = false) : ss.mergeSort leB = heldL l e := by
  unfold heldL
  refine mergeSort_of_perm ((List.perm_ext_iff_of_nodup h.1 (pick_once ho e)).2 fun x => ?_)
  rw [h.2 x, hl, pick_mem ho]
  simp
/-- Why a record that means this epoch is refused. -/
def mean (s : St) (t : Int) : Int := if t < s.first then 7 else if s.gone t = true then 13 else 0
def mayR (s : St) (r : Rec) : Int := if mean s r.tg ≠ 0 then mean s r.tg else if r.un < s.un r.tg then 12 else 0
def mayH (s : St) (r : Rec) : Int := if mean s r.tg ≠ 0 then mean s r.tg else if (lk s.hs r.nm).isSome = true then 19 else if 64 ≤ s.hs.length then 5 else 0
def mayL (s : St) (r : Rec) : Int := if (lk s.hs r.nm).isSome = true then 0 else 7
def mayP (s : St) (r : Rec) : Int := if mean s r.tg ≠ 0 then mean s r.tg else if r.tm < s.un r.tg then 9 else if 0 < (heldL s.hs r.tg).length then 10 else if r.un ≠ s.un r.tg then 2 else 0
def mayK (s : St) (r : Rec) : Int := if r.k = 2 then mayR s r else if r.k = 3 then mayH s r else if r.k = 4 then mayL s r else if r.k = 5 then mayP s r else 0
/-- Why a record is refused; 0: it is not. -/
def may (s : St) (r : Rec) : Int := if ¬ right r then 2 else if r.ep ≠ s.ep ∨ r.tm < s.now then 16 else mayK s r
/-- What a book is that has taken a record. -/
def take (s : St) (r : Rec) : St :=
  if r.k = 1 then { s with ep := s.ep + 1, now := r.tm }
  else if r.k = 2 then { s with un := upd s.un r.tg r.un, now := r.tm }
  else if r.k = 3 then { s with hs := s.hs ++ [(r.nm, r.tg)], now := r.tm }
  else if r.k = 4 then { s with hs := del s.hs r.nm, now := r.tm }
  else if r.k = 5 then { s with gone := upd s.gone r.tg true, now := r.tm }
  else { s with now := r.tm }
def apply (s : St) (r : Rec) : St := if may s r = 0 then take s r else s
theorem may_ok {s : St} {r : Rec} (h : may s r = 0) : right r ∧ r.ep = s.ep ∧ s.now ≤ r.tm ∧ mayK s r = 0 := by
  unfold may at h
  by_cases h1 : right r
  · rw [if_neg (fun e => e h1)] at h
    by_cases h2 : r.ep ≠ s.ep ∨ r.tm < s.now
    · rw [if_pos h2] at h; omega
    · rw [if_neg h2] at h
      exact ⟨h1, by omega, by omega, h⟩
  · rw [if_pos h1] at h; omega
theorem mean_ok {s : St} {t : Int} (h : mean s t = 0) : s.first ≤ t ∧ s.gone t = false := by
  unfold mean at h
  by_cases h1 : t < s.first
  · rw [if_pos h1] at h; omega
  · rw [if_neg h1] at h
    cases h2 : s.gone t with
    | true => rw [if_pos h2] at h; omega
    | false => exact ⟨by omega, rfl⟩
theorem may2 {s : St} {r : Rec} (h : may s r = 0) (hk : r.k = 2) : mean s r.tg = 0 ∧ s.un r.tg ≤ r.un := by
  have := (may_ok h).2.2.2
  unfold mayK at this
  rw [if_pos hk] at this
  unfold mayR at this
  by_cases h1 : mean s r.tg ≠ 0
  · rw [if_pos h1] at this; exact absurd this h1
  · rw [if_neg h1] at this
    by_cases h2 : r.un < s.un r.tg
    · rw [if_pos h2] at this; omega
    · exact ⟨by omega, by omega⟩
theorem may3 {s : St} {r : Rec} (h : may s r = 0) (hk : r.k = 3) : mean s r.tg = 0 ∧ lk s.hs r.nm = none ∧ s.hs.length < 64 := by
  have := (may_ok h).2.2.2
  unfold mayK at this
  rw [if_neg (by omega), if_pos hk] at this
  unfold mayH at this
  by_cases h1 : mean s r.tg ≠ 0
  · rw [if_pos h1] at this; exact absurd this h1
  · rw [if_neg h1] at this
    cases h2 : lk s.hs r.nm with
    | some x => rw [h2, if_pos (show (some x).isSome = true from rfl)] at this; omega
    | none =>
      rw [h2, if_neg (by simp)] at this
      by_cases h3 : 64 ≤ s.hs.length
      · rw [if_pos h3] at this; omega
      · exact ⟨by omega, rfl, by omega⟩
theorem may4 {s : St} {r : Rec} (h : may s r = 0) (hk : r.k = 4) : (lk s.hs r.nm).isSome = true := by
  have := (may_ok h).2.2.2
  unfold mayK at this
  rw [if_neg (by omega), if_neg (by omega), if_pos hk] at this
  unfold mayL at this
  by_cases h1 : (lk s.hs r.nm).isSome = true
  · exact h1
  · rw [if_neg h1] at this; omega
theorem may5 {s : St} {r : Rec} (h : may s r = 0) (hk : r.k = 5) : mean s r.tg = 0 ∧ s.un r.tg ≤ r.tm ∧ (heldL s.hs r.tg).length = 0 ∧ r.un = s.un r.tg := by
  have := (may_ok h).2.2.2
  unfold mayK at this
  rw [if_neg (by omega), if_neg (by omega), if_neg (by omega), if_pos hk] at this
  unfold mayP at this
  by_cases h1 : mean s r.tg ≠ 0
  · rw [if_pos h1] at this; exact absurd this h1
  · rw [if_neg h1] at this
    by_cases h2 : r.tm < s.un r.tg
    · rw [if_pos h2] at this; omega
    · rw [if_neg h2] at this
      by_cases h3 : 0 < (heldL s.hs r.tg).length
      · rw [if_pos h3] at this; omega
      · rw [if_neg h3] at this
        by_cases h4 : r.un ≠ s.un r.tg
        · rw [if_pos h4] at this; omega
        · exact ⟨by omega, by omega, by omega, by omega⟩
/-- A time never becomes less; what was purged stays so. -/
theorem longer (s : St) (r : Rec) (e : Int) : s.un e ≤ (apply s r).un e ∧ (s.gone e = true → (apply s r).gone e = true) := by
  unfold apply
  by_cases h : may s r = 0
  · rw [if_pos h]
    unfold take
    by_cases h1 : r.k = 1
    · rw [if_pos h1]; exact ⟨Int.le_refl _, id⟩
    rw [if_neg h1]
    by_cases h2 : r.k = 2
    · rw [if_pos h2]
      refine ⟨?_, id⟩
      show s.un e ≤ upd s.un r.tg r.un e
      by_cases he : e = r.tg
      · rw [he, upd_at]; exact (may2 h h2).2
      · rw [upd_other _ _ he]; exact Int.le_refl _
    rw [if_neg h2]
    by_cases h3 : r.k = 3
    · rw [if_pos h3]; exact ⟨Int.le_refl _, id⟩
    rw [if_neg h3]
    by_cases h4 : r.k = 4
    · rw [if_pos h4]; exact ⟨Int.le_refl _, id⟩
    rw [if_neg h4]
    by_cases h5 : r.k = 5
    · rw [if_pos h5]
      refine ⟨Int.le_refl _, fun hg => ?_⟩
      show upd s.gone r.tg true e = true
      by_cases he : e = r.tg
      · rw [he, upd_at]
      · rw [upd_other _ _ he]; exact hg
    · rw [if_neg h5]; exact ⟨Int.le_refl _, id⟩
  · rw [if_neg h]; exact ⟨Int.le_refl _, id⟩
/-- An epoch is purged only where the time is past, and no hold has it. -/
theorem kept {s : St} {r : Rec} (h : may s r = 0) (hk : r.k = 5) : s.un r.tg ≤ r.tm ∧ (heldL s.hs r.tg).length = 0 ∧ s.gone r.tg = false ∧ r.un = s.un r.tg ∧ (apply s r).gone r.tg = true := by
  obtain ⟨h1, h2, h3, h4⟩ := may5 h hk
  refine ⟨h2, h3, (mean_ok h1).2, h4, ?_⟩
  unfold apply
  rw [if_pos h]
  unfold take
  rw [if_neg (by omega), if_neg (by omega), if_neg (by omega), if_neg (by omega), if_pos hk]
  exact upd_at _ _ _
/-- So many numbers in a range, none twice. -/
theorem pigeon : ∀ (M : Nat) (l : List Int), l.Nodup → (∀ x ∈ l, 0 ≤ x ∧ x < (M : Int)) → l.length ≤ M
  | 0, l, _, h => by
    cases l with
    | nil => simp
    | cons x l => have := h x List.mem_cons_self; omega
  | M + 1, l, hn, h => by
    have := pigeon M (l.erase (M : Int)) (hn.erase _) (fun x hx => by
      rw [hn.mem_erase_iff] at hx
      have := h x hx.2
      have := hx.1
      omega)
    rw [List.length_erase] at this
    split at this <;> omega
end Go.Proofs.YtopnodkdpehdoaaGreatDoor.RetN
/- Plain mathematics: the document's book, which is the row of records that it took: that it tells, and refuses, what the other one does. No program is reached here; no conditions but those that each lemma names. -/
namespace Go.Proofs.YtopnodkdpehdoaaGreatDoor.DbN
set_option linter.unusedVariables false
set_option linter.unusedSimpArgs false
open RecN RetN
theorem rev_ind {α : Type} {p : List α → Prop} (h0 : p []) (h1 : ∀ l x, p l → p (l ++ [x])) (l : List α) : p l := by
  have h : ∀ m : List α, p m.reverse := fun m => by
    induction m with
    | nil => exact h0
    | cons x m ih => rw [List.reverse_cons]; exact h1 _ _ ih
  have := h l.reverse
  rwa [List.reverse_reverse] at this
def dEp (f : Int) (l : List Rec) : Int := l.foldl (fun n x => if x.k = 1 then n + 1 else n) f
def dNow (l : List Rec) : Int := (l.map (·.tm)).getLastD 0
def dUn (l : List Rec) (e : Int) : Int := l.foldl (fun n x => if x.k = 2 ∧ x.tg = e then x.un else n) 0
def dGone (l : List Rec) (e : Int) : Bool := l.any fun x => decide (x.k = 5 ∧ x.tg = e)
def hold1 (n : L) (v : Int) (x : Rec) : Int := if x.k = 4 ∧ x.nm = n then -1 else if x.k = 3 ∧ x.nm = n then x.tg else v
def dHold (l : List Rec) (n : L) : Int := l.foldl (hold1 n) (-1)
theorem dEp_snoc (f : Int) (l : List Rec) (x : Rec) : dEp f (l ++ [x]) = if x.k = 1 then dEp f l + 1 else dEp f l := by unfold dEp; rw [List.foldl_append]; rfl
theorem dNow_snoc (l : List Rec) (x : Rec) : dNow (l ++ [x]) = x.tm := by unfold dNow; rw [List.map_append]; simp
theorem dUn_snoc (l : List Rec) (x : Rec) (e : Int) : dUn (l ++ [x]) e = if x.k = 2 ∧ x.tg = e then x.un else dUn l e := by unfold dUn; rw [List.foldl_append]; rfl
theorem dGone_snoc (l : List Rec) (x : Rec) (e : Int) : dGone (l ++ [x]) e = (dGone l e || decide (x.k = 5 ∧ x.tg = e)) := by unfold dGone; rw [List.any_append]; simp
theorem dHold_snoc (l : List Rec) (x : Rec) (n : L) : dHold (l ++ [x]) n = hold1 n (dHold l n) x := by unfold dHold; rw [List.foldl_append]; rfl
/-- The row of records has led to this book. -/
structure Rel (f : Int) (l : List Rec) (s : St) : Prop where
  first : s.first = f
  ep : s.ep = dEp f l
  now : s.now = dNow l
  un : ∀ e, s.un e = dUn l e
  gone : ∀ e, s.gone e = dGone l e
  hold : ∀ n, dHold l n = (lk s.hs n).getD (-1)
  pos : ∀ n e, lk s.hs n = some e → 0 ≤ e
  once : Once s.hs
theorem rel_new (f : Int) : Rel f [] (new f) := ⟨rfl, rfl, rfl, fun _ => rfl, fun _ => rfl, fun _ => rfl, fun n e h => by simp [new, lk] at h, by simp [Once, new]⟩
theorem Rel.next {f : Int} {l : List Rec} {s : St} (h : Rel f l s) {x : Rec} (hm : may s x = 0) : Rel f (l ++ [x]) (take s x) := by
  obtain ⟨a1, a2, a3, a4, a5, a6, a7, a8⟩ := h
  have hb := (bounds (may_ok hm).1).1
  have hr := (may_ok hm).1
  unfold take
  by_cases h1 : x.k = 1
  · rw [if_pos h1]
    refine ⟨a1, ?_, (dNow_snoc l x).symm, fun e => ?_, fun e => ?_, fun n => ?_, a7, a8⟩
    · rw [dEp_snoc, if_pos h1, ← a2]
    · rw [dUn_snoc, if_neg (fun e => by omega)]; exact a4 e
    · rw [dGone_snoc, decide_eq_false (fun e => by omega), Bool.or_false]; exact a5 e
    · rw [dHold_snoc]; unfold hold1; rw [if_neg (fun e => by omega), if_neg (fun e => by omega)]; exact a6 n
  rw [if_neg h1]
  have he : dEp f (l ++ [x]) = dEp f l := by rw [dEp_snoc, if_neg h1]
  by_cases h2 : x.k = 2
  · rw [if_pos h2]
    refine ⟨a1, a2.trans he.symm, (dNow_snoc l x).symm, fun e => ?_, fun e => ?_, fun n => ?_, a7, a8⟩
    · rw [dUn_snoc]
      show upd s.un x.tg x.un e = _
      by_cases hx : x.tg = e
      · rw [if_pos ⟨h2, hx⟩, ← hx, upd_at]
      · rw [if_neg (fun h => hx h.2), upd_other _ _ (Ne.symm hx)]; exact a4 e
    · rw [dGone_snoc, decide_eq_false (fun e => by omega), Bool.or_false]; exact a5 e
    · rw [dHold_snoc]; unfold hold1; rw [if_neg (fun e => by omega), if_neg (fun e => by omega)]; exact a6 n
  rw [if_neg h2]
  have hu : ∀ e, dUn (l ++ [x]) e = dUn l e := fun e => by rw [dUn_snoc, if_neg (fun h => h2 h.1)]
  by_cases h3 : x.k = 3
  · rw [if_pos h3]
    obtain ⟨m1, m2, m3⟩ := may3 hm h3
    have ht : 0 ≤ x.tg := (bounds hr).2.2.2.2.1.1
    refine ⟨a1, a2.trans he.symm, (dNow_snoc l x).symm, fun e => (a4 e).trans (hu e).symm, fun e => ?_, fun n => ?_, fun n e hn => ?_, once_snoc a8 _ m2⟩
    · rw [dGone_snoc, decide_eq_false (fun e => by omega), Bool.or_false]; exact a5 e
    · rw [dHold_snoc, lk_snoc _ _ _ m2]
      unfold hold1
      rw [if_neg (fun e => by omega)]
      by_cases hx : n = x.nm
      · rw [if_pos hx, if_pos ⟨h3, hx.symm⟩]; rfl
      · rw [if_neg hx, if_neg (fun h => hx h.2.symm)]; exact a6 n
    · rw [lk_snoc _ _ _ m2] at hn
      by_cases hx : n = x.nm
      · rw [if_pos hx] at hn; injection hn with hn; omega
      · rw [if_neg hx] at hn; exact a7 n e hn
  rw [if_neg h3]
  by_cases h4 : x.k = 4
  · rw [if_pos h4]
    refine ⟨a1, a2.trans he.symm, (dNow_snoc l x).symm, fun e => (a4 e).trans (hu e).symm, fun e => ?_, fun n => ?_, fun n e hn => ?_, once_del a8 _⟩
    · rw [dGone_snoc, decide_eq_false (fun e => by omega), Bool.or_false]; exact a5 e
    · rw [dHold_snoc, lk_del]
      unfold hold1
      by_cases hx : n = x.nm
      · rw [if_pos hx, if_pos ⟨h4, hx.symm⟩]; rfl
      · rw [if_neg hx, if_neg (fun h => hx h.2.symm), if_neg (fun h => by omega)]; exact a6 n
    · rw [lk_del] at hn
      by_cases hx : n = x.nm
      · rw [if_pos hx] at hn; cases hn
      · rw [if_neg hx] at hn; exact a7 n e hn
  rw [if_neg h4]
  by_cases h5 : x.k = 5
  · rw [if_pos h5]
    refine ⟨a1, a2.trans he.symm, (dNow_snoc l x).symm, fun e => (a4 e).trans (hu e).symm, fun e => ?_, fun n => ?_, a7, a8⟩
    · rw [dGone_snoc]
      show upd s.gone x.tg true e = _
      by_cases hx : x.tg = e
      · rw [decide_eq_true ⟨h5, hx⟩, Bool.or_true, ← hx, upd_at]
      · rw [decide_eq_false (fun h => hx h.2), Bool.or_false, upd_other _ _ (Ne.symm hx)]; exact a5 e
    · rw [dHold_snoc]; unfold hold1; rw [if_neg (fun e => by omega), if_neg (fun e => by omega)]; exact a6 n
  · omega
/-- A name laid into a rising row. -/
def ins (n : L) : List L → List L
  | [] => [n]
  | m :: t => if n < m then n :: m :: t else m :: ins n t
theorem mem_ins (n m : L) (l : List L) : m ∈ ins n l ↔ m = n ∨ m ∈ l := by
  induction l with
  | nil => simp [ins]
  | cons x l ih =>
    unfold ins
    by_cases h : n < x
    · rw [if_pos h]; simp
    · rw [if_neg h, List.mem_cons, ih, List.mem_cons]
      exact ⟨fun h => h.elim (fun h => .inr (.inl h)) (fun h => h.elim .inl (fun h => .inr (.inr h))), fun h => h.elim (fun h => .inr (.inl h)) (fun h => h.elim .inl (fun h => .inr (.inr h)))⟩
theorem lt_of {a b : L} (h : ¬ a < b) (hn : b ≠ a) : b < a := by
  rcases List.le_iff_lt_or_eq.1 (List.not_lt.1 h) with h1 | h1
  · exact h1
  · exact absurd h1 hn
theorem ins_rising {n : L} {l : List L} (h : l.Pairwise (· < ·)) (hn : n ∉ l) : (ins n l).Pairwise (· < ·) := by
  induction l with
  | nil => simp [ins]
  | cons x l ih =>
    obtain ⟨h1, h2⟩ := List.pairwise_cons.1 h
    unfold ins
    by_cases hx : n < x
    · rw [if_pos hx]
      refine List.pairwise_cons.2 ⟨fun y hy => ?_, h⟩
      rcases List.mem_cons.1 hy with rfl | hy
      · exact hx
      · exact List.lt_trans hx (h1 y hy)
    · rw [if_neg hx]
      refine List.pairwise_cons.2 ⟨fun y hy => ?_, ih h2 (fun e => hn (List.mem_cons_of_mem _ e))⟩
      rcases (mem_ins n y l).1 hy with rfl | hy
      · exact lt_of hx (fun e => hn (by rw [← e]; exact List.mem_cons_self))
      · exact h1 y hy
def names1 (l : List Rec) (out : List L) (x : Rec) : List L := if x.k ≠ 3 ∨ dHold l x.nm < 0 ∨ x.nm ∈ out then out else ins x.nm out
def namesTo (l p : List Rec) : List L := p.foldl (names1 l) []
/-- All names that hold something, rising. -/
def dNames (l : List Rec) : List L := namesTo l l
theorem namesTo_snoc (l p : List Rec) (x : Rec) : namesTo l (p ++ [x]) = names1 l (namesTo l p) x := by unfold namesTo; rw [List.foldl_append]; rfl
theorem names_rising (l p : List Rec) : (namesTo l p).Pairwise (· < ·) := by
  induction p using rev_ind with
  | h0 => simp [namesTo]
  | h1 p x ih =>
    rw [namesTo_snoc]
    unfold names1
    by_cases h : x.k ≠ 3 ∨ dHold l x.nm < 0 ∨ x.nm ∈ namesTo l p
    · rw [if_pos h]; exact ih
    · rw [if_neg h]; exact ins_rising ih (fun e => h (.inr (.inr e)))
theorem names_mem (l p : List Rec) (n : L) : n ∈ namesTo l p ↔ (∃ x ∈ p, x.k = 3 ∧ x.nm = n) ∧ 0 ≤ dHold l n := by
  induction p using rev_ind with
  | h0 => simp [namesTo]
  | h1 p x ih =>
    rw [namesTo_snoc]
    unfold names1
    by_cases h : x.k ≠ 3 ∨ dHold l x.nm < 0 ∨ x.nm ∈ namesTo l p
    · rw [if_pos h, ih]
      refine ⟨fun ⟨⟨y, hy, h1⟩, h2⟩ => ⟨⟨y, List.mem_append_left _ hy, h1⟩, h2⟩, fun ⟨⟨y, hy, h1, h2⟩, h3⟩ => ?_⟩
      rcases List.mem_append.1 hy with hy | hy
      · exact ⟨⟨y, hy, h1, h2⟩, h3⟩
      · obtain rfl : y = x := by simpa using hy
        rcases h with h | h | h
        · exact absurd h1 h
        · rw [h2] at h; omega
        · rw [h2] at h; exact ih.1 h
    · rw [if_neg h, mem_ins, ih]
      constructor
      · rintro (rfl | ⟨⟨y, hy, h1⟩, h2⟩)
        · exact ⟨⟨x, by simp, Classical.not_not.1 (fun e => h (.inl e)), rfl⟩, by have : ¬ dHold l x.nm < 0 := fun e => h (.inr (.inl e)); omega⟩
        · exact ⟨⟨y, List.mem_append_left _ hy, h1⟩, h2⟩
      · rintro ⟨⟨y, hy, h1, h2⟩, h3⟩
        rcases List.mem_append.1 hy with hy | hy
        · exact .inr ⟨⟨y, hy, h1, h2⟩, h3⟩
        · obtain rfl : y = x := by simpa using hy
          exact .inl h2.symm
theorem hold_some (l : List Rec) (n : L) (h : 0 ≤ dHold l n) : ∃ x ∈ l, x.k = 3 ∧ x.nm = n := by
  induction l using rev_ind with
  | h0 => simp [dHold] at h
  | h1 p x ih =>
    rw [dHold_snoc] at h
    unfold hold1 at h
    by_cases h4 : x.k = 4 ∧ x.nm = n
    · rw [if_pos h4] at h; omega
    · rw [if_neg h4] at h
      by_cases h3 : x.k = 3 ∧ x.nm = n
      · exact ⟨x, by simp, h3⟩
      · rw [if_neg h3] at h
        obtain ⟨y, hy, k⟩ := ih h
        exact ⟨y, List.mem_append_left _ hy, k⟩
theorem Rel.some_ {f : Int} {l : List Rec} {s : St} (h : Rel f l s) (n : L) : 0 ≤ dHold l n ↔ (lk s.hs n).isSome = true := by
  rw [h.hold n]
  cases hx : lk s.hs n with
  | none => simp
  | some e => have := h.pos n e hx; simpa using this
theorem Rel.is_ {f : Int} {l : List Rec} {s : St} (h : Rel f l s) (n : L) (e : Int) (he : 0 ≤ e) : dHold l n = e ↔ lk s.hs n = some e := by
  rw [h.hold n]
  cases hx : lk s.hs n with
  | none => simp; omega
  | some d => simp
theorem rising_le {l : List L} (h : l.Pairwise (· < ·)) : l.Pairwise (fun a b => leB a b = true) := h.imp fun {a b} hab => by
  simp only [leB, decide_eq_true_eq]
  exact List.le_of_lt hab
theorem rising_nodup {l : List L} (h : l.Pairwise (· < ·)) : l.Nodup := h.imp fun {a b} hab => by
    intro e
    rw [e] at hab
    exact List.lt_irrefl _ hab
theorem sorted_is {l m : List L} (h : l.Pairwise (· < ·)) (hm : m.Nodup) (hh : ∀ x, x ∈ l ↔ x ∈ m) : m.mergeSort leB = l := by
  have hp : l.Perm m := (List.perm_ext_iff_of_nodup (rising_nodup h) hm).2 hh
  rw [← mergeSort_of_perm hp]
  exact List.mergeSort_of_pairwise (rising_le h)
theorem Rel.names {f : Int} {l : List Rec} {s : St} (h : Rel f l s) : dNames l = (s.hs.map (·.1)).mergeSort leB :=
  (sorted_is (names_rising l l) h.once fun n => by
    rw [names_mem, ← lk_some, ← h.some_ n]
    exact ⟨fun h => h.2, fun hn => ⟨hold_some l n hn, hn⟩⟩).symm
theorem Rel.count {f : Int} {l : List Rec} {s : St} (h : Rel f l s) : (dNames l).length = s.hs.length := by rw [h.names]; simp
/-- The names that hold an epoch, rising. -/
def dHeld (l : List Rec) (e : Int) : List L := (dNames l).filter fun n => decide (dHold l n = e)
theorem Rel.held {f : Int} {l : List Rec} {s : St} (h : Rel f l s) (e : Int) : dHeld l e = heldL s.hs e := by
  unfold heldL
  refine (sorted_is (l := dHeld l e) ((names_rising l l).sublist List.filter_sublist) (pick_once h.once e) fun n => ?_).symm
  unfold dHeld
  rw [List.mem_filter, decide_eq_true_eq, pick_mem h.once]
  have hn : n ∈ dNames l ↔ 0 ≤ dHold l n := by
    unfold dNames
    rw [names_mem]
    exact ⟨fun h => h.2, fun hn => ⟨hold_some l n hn, hn⟩⟩
  rw [hn]
  constructor
  · rintro ⟨h1, h2⟩
    exact (h.is_ n e (by omega)).1 h2
  · intro h1
    have := h.pos n e h1
    exact ⟨by rw [(h.is_ n e this).2 h1]; exact this, (h.is_ n e this).2 h1⟩
/-- Why a record is refused, as the document says it. -/
def dMay (f : Int) (l : List Rec) (r : Rec) : Int :=
  if ¬ right r then 2 else if r.ep ≠ dEp f l ∨ r.tm < dNow l then 16 else if r.k = 1 then 0
  else if r.k = 4 then (if dHold l r.nm < 0 then 7 else 0)
  else if r.tg < f then 7 else if dGone l r.tg = true then 13
  else if r.k = 2 ∧ r.un < dUn l r.tg then 12 else if r.k = 3 ∧ 0 ≤ dHold l r.nm then 19 else if r.k = 3 ∧ 64 ≤ (dNames l).length then 5
  else if r.k = 5 ∧ r.tm < dUn l r.tg then 9 else if r.k = 5 ∧ 0 < (dHeld l r.tg).length then 10 else if r.k = 5 ∧ r.un ≠ dUn l r.tg then 2 else 0
theorem Rel.may_ {f : Int} {l : List Rec} {s : St} (h : Rel f l s) (r : Rec) : dMay f l r = may s r := by
  unfold dMay may
  by_cases hr : right r
  · rw [if_neg (show ¬ ¬ right r from fun e => e hr), if_neg (show ¬ ¬ right r from fun e => e hr), ← h.ep, ← h.now]
    by_cases hc : r.ep ≠ s.ep ∨ r.tm < s.now
    · rw [if_pos hc, if_pos hc]
    rw [if_neg hc, if_neg hc]
    have hb := (bounds hr).1
    unfold mayK
    by_cases h1 : r.k = 1
    · rw [if_pos h1, if_neg (show ¬ r.k = 2 by omega), if_neg (show ¬ r.k = 3 by omega), if_neg (show ¬ r.k = 4 by omega), if_neg (show ¬ r.k = 5 by omega)]
    rw [if_neg h1]
    by_cases h4 : r.k = 4
    · rw [if_pos h4, if_neg (show ¬ r.k = 2 by omega), if_neg (show ¬ r.k = 3 by omega), if_pos h4]
      unfold mayL
      have hs := h.some_ r.nm
      by_cases h0 : dHold l r.nm < 0
      · rw [if_pos h0, if_neg (fun e => by have := hs.2 e; omega)]
      · rw [if_neg h0, if_pos (hs.1 (by omega))]
    rw [if_neg h4, ← h.first, ← h.gone, ← h.un, h.count, h.held]
    have hmean : ∀ x : Int, (if mean s r.tg ≠ 0 then mean s r.tg else x) = if r.tg < s.first then 7 else if s.gone r.tg = true then 13 else x := fun x => by
      unfold mean
      by_cases c1 : r.tg < s.first
      · rw [if_pos c1, if_pos c1]; rfl
      · rw [if_neg c1, if_neg c1]
        by_cases c2 : s.gone r.tg = true
        · rw [if_pos c2, if_pos c2]; rfl
        · rw [if_neg c2, if_neg c2]; rfl
    by_cases h2 : r.k = 2
    · rw [if_pos h2]
      unfold mayR
      rw [hmean]
      have n3 : ¬ r.k = 3 := by omega
      have n5 : ¬ r.k = 5 := by omega
      simp only [h2, n3, n5, true_and, false_and, if_false]
      rfl
    rw [if_neg h2]
    by_cases h3 : r.k = 3
    · rw [if_pos h3]
      unfold mayH
      rw [hmean]
      have n5 : ¬ r.k = 5 := by omega
      have hs := h.some_ r.nm
      simp only [h2, h3, n5, true_and, false_and, if_false, hs]
      rfl
    rw [if_neg h3, if_neg h4]
    have h5 : r.k = 5 := by omega
    rw [if_pos h5]
    unfold mayP
    rw [hmean]
    simp only [h2, h3, h5, true_and, false_and, if_false]
    rfl
  · rw [if_pos hr, if_pos hr]
end Go.Proofs.YtopnodkdpehdoaaGreatDoor.DbN
