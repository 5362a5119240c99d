/- PrfN PrgN: one behind the other. -/
import Derived.Test.YtdkcebaehdkphaaGreatDoorPrfL
import Derived.Test.YtdkcebaehdkphaaGreatDoorLMerY
/- Proofs of a place by a tree: the proof of a place, what a proof tells; that what is proved is told, and that who tells something else names a leaf that does not stand there. Mathematics alone; no conditions but those that each lemma names. -/
namespace Go.Proofs.YtdkcebaehdkphaaGreatDoor.PrfN
open PrfL MerQ MerM MerN MerC MerR MerU MerV MerX MerW
theorem hs_32 (l : List Lf) : all32 (hs l) = true := all32_of fun x hx => by
  obtain ⟨y, _, rfl⟩ := List.mem_map.1 hx
  exact lh_length y
theorem hs_at (l : List Lf) {i : Nat} (hi : i < l.length) : (hs l).getD i [] = lh (l.getD i no) := by
  rw [getD_at _ _ (by rw [hs_length]; exact hi), at_d _ hi]
  exact List.getElem_map ..
/-- A proof of a place. -/
structure Pf where
  found : Bool
  at_ : Int
  here : Lf
  ahead : Lf
  up : List L
  left : List L
deriving DecidableEq
def noPf : Pf := ⟨false, 0, no, no, [], []⟩
/-- The leaves' root. -/
abbrev rt (l : List Lf) : L := MerN.root nd (sum []) (hs l)
/-- The proof of a place: of its leaf, or of none. -/
def prove (l : List Lf) (b : Int) : Pf :=
  let n := plc l b
  let f := decide (n < l.length ∧ (l.getD n no).1 = b)
  ⟨f, (n : Int), if n < l.length then l.getD n no else no, if f = false ∧ 0 < n then l.getD (n - 1) no else no,
    if n < l.length then pathN nd (hs l) n else [], if f = false ∧ 0 < n then pathN nd (hs l) (n - 1) else []⟩
/-- Does a path lead a leaf to the root? -/
def leads (r : L) (n i : Int) (x : Lf) (p : List L) : Bool := okL x && checkB r n i (lh x) p
/-- Is what stands at the place right, of a proof of none? -/
def hereB (r : L) (n b : Int) (p : Pf) : Bool := if p.at_ < n then decide (b < p.here.1) && leads r n p.at_ p.here p.up else decide (p.here = no) && decide (p.up = [])
/-- Is what stands ahead of it right? -/
def aheadB (r : L) (n b : Int) (p : Pf) : Bool := if 0 < p.at_ then decide (p.ahead.1 < b) && leads r n (p.at_ - 1) p.ahead p.left else decide (p.ahead = no) && decide (p.left = [])
def foundB (r : L) (n b : Int) (p : Pf) : Bool := decide (p.ahead = no) && decide (p.left = []) && decide (p.here.1 = b) && leads r n p.at_ p.here p.up
def noneB (r : L) (n b : Int) (p : Pf) : Bool := decide (0 ≤ p.at_ ∧ p.at_ ≤ n) && hereB r n b p && aheadB r n b p && !(decide (n = 0) && !decide (r = sum []))
/-- What a proof tells. -/
def tells (r : L) (n b : Int) (p : Pf) : L × Bool × Nat :=
  if 0 ≤ n ∧ n ≤ 4096 ∧ 0 ≤ b ∧ b ≤ 4095 then
    if p.found = true then (if foundB r n b p = true then (p.here.2, true, 0) else ([], false, 17))
    else if noneB r n b p = true then ([], false, 0) else ([], false, 17)
  else ([], false, 2)
theorem leads_in {r : L} {n i : Int} {x : Lf} {p : List L} (h : leads r n i x p = true) : okL x = true ∧ (0 ≤ i ∧ i < n) ∧ checkB r n i (lh x) p = true := by
  unfold leads at h
  rw [Bool.and_eq_true] at h
  have := (check_in h.2).1
  unfold mayBe at this
  rw [Bool.and_eq_true, decide_eq_true_eq, decide_eq_true_eq] at this
  exact ⟨h.1, this.2, h.2⟩
/-- A leaf's own path leads to the root. -/
theorem leads_own {l : List Lf} (h : right l = true) {i : Nat} (hi : i < l.length) : leads (rt l) (l.length : Int) (i : Int) (l.getD i no) (pathN nd (hs l) i) = true := by
  have hf := right_few h
  have := own_check (ls := hs l) (k := i) (by rw [hs_length]; exact hi) (by rw [hs_length]; omega) (hs_32 l)
  rw [hs_length, hs_at l hi] at this
  unfold leads
  rw [right_at h hi, this]
  rfl
/-- WHAT IS PROVED IS TOLD. -/
theorem proved {l : List Lf} (h : right l = true) {b : Int} (hb : 0 ≤ b ∧ b ≤ 4095) : tells (rt l) (l.length : Int) b (prove l b) = ((own l b).1, (own l b).2, 0) := by
  have hf := right_few h
  have hle := plc_le l b
  unfold tells
  rw [if_pos (by omega)]
  by_cases c : plc l b < l.length ∧ (l.getD (plc l b) no).1 = b
  · have ep : prove l b = ⟨true, (plc l b : Int), l.getD (plc l b) no, no, pathN nd (hs l) (plc l b), []⟩ := by
      unfold prove
      simp only [decide_eq_true c, if_pos c.1, Bool.true_eq_false, false_and, if_false]
    have eo : own l b = ((l.getD (plc l b) no).2, true) := by unfold own; rw [if_pos c]
    rw [ep, eo]
    have : foundB (rt l) (l.length : Int) b ⟨true, (plc l b : Int), l.getD (plc l b) no, no, pathN nd (hs l) (plc l b), []⟩ = true := by
      unfold foundB
      simp only [leads_own h c.1, c.2, decide_true, Bool.and_self]
    rw [if_pos rfl, if_pos this]
  · have ep : prove l b = ⟨false, (plc l b : Int), if plc l b < l.length then l.getD (plc l b) no else no, if 0 < plc l b then l.getD (plc l b - 1) no else no,
        if plc l b < l.length then pathN nd (hs l) (plc l b) else [], if 0 < plc l b then pathN nd (hs l) (plc l b - 1) else []⟩ := by
      unfold prove
      simp only [decide_eq_false c, true_and]
    have eo : own l b = ([], false) := by unfold own; rw [if_neg c]
    rw [ep, eo]
    have h1 : hereB (rt l) (l.length : Int) b (prove l b) = true := by
      rw [ep]
      unfold hereB
      by_cases k : plc l b < l.length
      · have := plc_ge l b k
        have hne : ¬ (l.getD (plc l b) no).1 = b := fun e => c ⟨k, e⟩
        simp only [if_pos k, if_pos (show ((plc l b : Nat) : Int) < (l.length : Int) by omega), leads_own h k, decide_eq_true (show b < (l.getD (plc l b) no).1 by omega), Bool.and_self]
      · simp only [if_neg k, if_neg (show ¬ ((plc l b : Nat) : Int) < (l.length : Int) by omega), decide_true, Bool.and_self]
    have h2 : aheadB (rt l) (l.length : Int) b (prove l b) = true := by
      rw [ep]
      unfold aheadB
      by_cases k : 0 < plc l b
      · have h3 := plc_lt l b (i := plc l b - 1) (by omega)
        have h4 := leads_own h (i := plc l b - 1) (by omega)
        rw [show ((plc l b - 1 : Nat) : Int) = (plc l b : Int) - 1 by omega] at h4
        simp only [if_pos k, if_pos (show (0 : Int) < ((plc l b : Nat) : Int) by omega), h4, decide_eq_true h3, Bool.and_self]
      · simp only [if_neg k, if_neg (show ¬ (0 : Int) < ((plc l b : Nat) : Int) by omega), decide_true, Bool.and_self]
    have h0 : noneB (rt l) (l.length : Int) b (prove l b) = true := by
      unfold noneB
      rw [h1, h2]
      have e : (prove l b).at_ = (plc l b : Int) := rfl
      rw [e, decide_eq_true (show (0 : Int) ≤ (plc l b : Int) ∧ (plc l b : Int) ≤ (l.length : Int) by omega)]
      by_cases hz : l.length = 0
      · have el : l = [] := List.eq_nil_of_length_eq_zero hz
        subst el
        have : rt [] = sum [] := rfl
        rw [this]
        simp
      · rw [decide_eq_false (show ¬ ((l.length : Nat) : Int) = 0 by omega)]
        rfl
    rw [ep] at h0
    rw [if_neg (by simp), if_pos h0]
/-- Another leaf is named at a place: its path leads to the root, and it is said otherwise than the one that stands there. -/
def named (l : List Lf) (i : Int) (x : Lf) (q : List L) : Bool := leads (rt l) (l.length : Int) i x q && !decide (said x = said (l.getD i.toNat no))
theorem named_no {l : List Lf} (h : right l = true) {i : Int} {x : Lf} {q : List L} (hl : leads (rt l) (l.length : Int) i x q = true) (hn : named l i x q = false) : ∃ k : Nat, i = (k : Int) ∧ k < l.length ∧ x = l.getD k no := by
  obtain ⟨h1, h2, _⟩ := leads_in hl
  refine ⟨i.toNat, by omega, by omega, said_inj h1 (right_at h (by omega)) ?_⟩
  unfold named at hn
  rw [hl] at hn
  simpa using hn
/-- WHO TELLS SOMETHING ELSE names another leaf: at the place, or ahead of it. -/
theorem sound {l : List Lf} (h : right l = true) {b : Int} {p : Pf} {s : L} {f : Bool} (ht : tells (rt l) (l.length : Int) b p = (s, f, 0)) (hne : (s, f) ≠ own l b) :
    (p.at_ < (l.length : Int) ∧ named l p.at_ p.here p.up = true) ∨ (p.found = false ∧ 0 < p.at_ ∧ named l (p.at_ - 1) p.ahead p.left = true) := by
  have hr := right_rise h
  unfold tells at ht
  split at ht
  · split at ht
    · rename_i hf
      split at ht
      · rename_i hk
        unfold foundB at hk
        rw [Bool.and_eq_true, Bool.and_eq_true, decide_eq_true_eq] at hk
        have hle := leads_in hk.2
        refine .inl ⟨hle.2.1.2, ?_⟩
        cases hn : named l p.at_ p.here p.up with
        | true => rfl
        | false =>
          obtain ⟨k, _, hkl, hx⟩ := named_no h hk.2 hn
          have ho := (own_yes (b := b) hr hkl (by rw [← hx]; exact hk.1.2)).2
          rw [← hx] at ho
          rw [ho] at hne
          simp only [Prod.mk.injEq] at ht
          exact absurd (by rw [← ht.1, ← ht.2.1]) hne
      · simp at ht
    · rename_i hf
      split at ht
      · rename_i hk
        unfold noneB at hk
        rw [Bool.and_eq_true, Bool.and_eq_true, Bool.and_eq_true, decide_eq_true_eq] at hk
        obtain ⟨⟨⟨⟨ha0, ha1⟩, hh⟩, ha⟩, _⟩ := hk
        simp only [Prod.mk.injEq] at ht
        cases hn : named l p.at_ p.here p.up with
        | true =>
          have : leads (rt l) (l.length : Int) p.at_ p.here p.up = true := by
            unfold named at hn
            rw [Bool.and_eq_true] at hn
            exact hn.1
          exact .inl ⟨(leads_in this).2.1.2, rfl⟩
        | false =>
          cases hm : named l (p.at_ - 1) p.ahead p.left with
          | true =>
            have : leads (rt l) (l.length : Int) (p.at_ - 1) p.ahead p.left = true := by
              unfold named at hm
              rw [Bool.and_eq_true] at hm
              exact hm.1
            have := (leads_in this).2.1.1
            exact .inr ⟨by simpa using hf, by omega, rfl⟩
          | false =>
            refine absurd ?_ hne
            rw [← ht.1, ← ht.2.1]
            refine (own_no fun i hi e => ?_).symm
            unfold hereB at hh
            unfold aheadB at ha
            by_cases c1 : p.at_ < (l.length : Int)
            · rw [if_pos c1, Bool.and_eq_true, decide_eq_true_eq] at hh
              obtain ⟨k, hk, hkl, hx⟩ := named_no h hh.2 hn
              have g1 : i < k := by
                by_cases g : i < k
                · exact g
                · have : (l.getD k no).1 ≤ (l.getD i no).1 := by
                    by_cases g' : k = i
                    · rw [g']; exact Int.le_refl _
                    · exact Int.le_of_lt (rise_at hr (by omega) hi)
                  rw [← hx] at this
                  omega
              rw [if_pos (by omega), Bool.and_eq_true, decide_eq_true_eq] at ha
              obtain ⟨j, hj, hjl, hy⟩ := named_no h ha.2 hm
              have : (l.getD i no).1 ≤ (l.getD j no).1 := by
                by_cases g' : i = j
                · rw [g']; exact Int.le_refl _
                · exact Int.le_of_lt (rise_at hr (by omega) hjl)
              rw [← hy] at this
              omega
            · rw [if_pos (by omega), Bool.and_eq_true, decide_eq_true_eq] at ha
              obtain ⟨j, hj, hjl, hy⟩ := named_no h ha.2 hm
              have : (l.getD i no).1 ≤ (l.getD j no).1 := by
                by_cases g' : i = j
                · rw [g']; exact Int.le_refl _
                · exact Int.le_of_lt (rise_at hr (by omega) hjl)
              rw [← hy] at this
              omega
      · simp at ht
  · simp at ht
/-- Two unlike texts with one sum, of a leaf that is named: of both as they are said; else the tree's. -/
theorem named_same {l : List Lf} {i : Int} {x : Lf} {q : List L} (hn : named l i x q = true) (he : lh x = lh (l.getD i.toNat no)) : (0 :: said x) ≠ (0 :: said (l.getD i.toNat no)) ∧ sum (0 :: said x) = sum (0 :: said (l.getD i.toNat no)) := by
  unfold named at hn
  rw [Bool.and_eq_true] at hn
  refine ⟨fun e => ?_, he⟩
  have h2 := hn.2
  rw [decide_eq_true (List.cons.inj e).2] at h2
  simp at h2
theorem named_tree {l : List Lf} {i : Int} {x : Lf} {q : List L} (hn : named l i x q = true) (he : lh x ≠ lh (l.getD i.toNat no)) : clashB (hs l) i (lh x) q = true := by
  unfold named at hn
  rw [Bool.and_eq_true] at hn
  obtain ⟨_, h2, h3⟩ := leads_in hn.1
  unfold clashB
  rw [hs_32, hs_length, h3, hs_at l (by omega), decide_eq_false he]
  rfl
end Go.Proofs.YtdkcebaehdkphaaGreatDoor.PrfN
/- Proofs of a place as the program goes through them: the leaves that a proof names, what it leaves unsaid; that what it proves is what a proof tells. Mathematics alone; no conditions but those that each lemma names. -/
namespace Go.Proofs.YtdkcebaehdkphaaGreatDoor.PrgN
open PrfL PrfN MerQ
/-- A leaf that a proof names, and where; how its place must stand to the one that is asked. -/
structure Seat where
  at_ : Int
  side : Int
  leaf : Lf
  path : List L
def noSeat : Seat := ⟨0, 0, no, []⟩
def hereP (n : Int) (p : Pf) : Bool := decide (p.at_ < n)
def aheadP (p : Pf) : Bool := !p.found && decide (0 < p.at_)
/-- The proof without what is not said in one of so many leaves. -/
def bareP (n : Int) (p : Pf) : Pf := ⟨p.found, p.at_, if hereP n p = true then p.here else no, if aheadP p = true then p.ahead else no, if hereP n p = true then p.up else [], if aheadP p = true then p.left else []⟩
def hereS (p : Pf) : Seat := ⟨p.at_, if p.found = true then 0 else 1, p.here, p.up⟩
def aheadS (p : Pf) : Seat := ⟨p.at_ - 1, -1, p.ahead, p.left⟩
def seatsP (n : Int) (p : Pf) : List Seat := (if hereP n p = true then [hereS p] else []) ++ (if aheadP p = true then [aheadS p] else [])
def cmpZ (a b : Int) : Int := if a < b then -1 else if b < a then 1 else 0
def leadsS (r : L) (n : Int) (s : Seat) : Bool := leads r n s.at_ s.leaf s.path
def asideS (b : Int) (s : Seat) : Bool := decide (cmpZ s.leaf.1 b = s.side)
def lastP (n : Int) (p : Pf) : Int := if p.found = true then n - 1 else n
def allS (f : Seat → Bool) (l : List Seat) : Bool := l.all f
def provesB (r : L) (n b : Int) (p : Pf) : Bool :=
  decide (0 ≤ p.at_ ∧ p.at_ ≤ lastP n p) && decide (p = bareP n p) && (if n = 0 then decide (r = sum []) else allS (leadsS r n) (seatsP n p) && allS (asideS b) (seatsP n p))
def toldP (p : Pf) : L := if p.found = true then p.here.2 else []
theorem cmp_less {a b : Int} : cmpZ a b = -1 ↔ a < b := by unfold cmpZ; split <;> (try split) <;> omega
theorem cmp_more {a b : Int} : cmpZ a b = 1 ↔ b < a := by unfold cmpZ; split <;> (try split) <;> omega
theorem cmp_same {a b : Int} : cmpZ a b = 0 ↔ a = b := by unfold cmpZ; split <;> (try split) <;> omega
theorem leads_lt {r : L} {n i : Int} {x : Lf} {p : List L} (h : leads r n i x p = true) : 0 ≤ i ∧ i < n := (leads_in h).2.1
theorem found_iff (r : L) (n b : Int) (p : Pf) (hf : p.found = true) : provesB r n b p = foundB r n b p := by
  obtain ⟨f, i, h, a, u, l⟩ := p
  dsimp only at hf
  subst hf
  rw [Bool.eq_iff_iff]
  unfold provesB foundB bareP seatsP lastP hereP aheadP hereS allS leadsS asideS
  by_cases h1 : i < n
  · by_cases h0 : n = 0
    · have hno : ∀ x q, leads r n i x q = false := fun x q => by
        cases hl : leads r n i x q with
        | false => rfl
        | true => have := leads_lt hl; omega
      constructor
      · intro h
        rw [Bool.and_eq_true, Bool.and_eq_true, decide_eq_true_eq] at h
        have := h.1.1
        unfold lastP at this
        rw [if_pos rfl] at this
        dsimp only at this
        omega
      · intro h
        rw [hno] at h
        simp at h
    · simp [h1, h0, cmp_same]
      constructor
      · rintro ⟨⟨h2, h3⟩, h4, h5⟩
        exact ⟨⟨h3, h5⟩, h4⟩
      · rintro ⟨⟨h3, h5⟩, h4⟩
        have := leads_lt h4
        exact ⟨⟨by omega, h3⟩, h4, h5⟩
  · have hno : ∀ x q, leads r n i x q = false := fun x q => by
      cases hl : leads r n i x q with
      | false => rfl
      | true => have := leads_lt hl; omega
    simp [h1, hno]
    intro h2 h3
    omega
theorem none_iff (r : L) (n b : Int) (p : Pf) (hf : p.found = false) (hn : 0 ≤ n) : provesB r n b p = noneB r n b p := by
  obtain ⟨f, i, h, a, u, l⟩ := p
  dsimp only at hf
  subst hf
  rw [Bool.eq_iff_iff]
  unfold provesB noneB hereB aheadB bareP seatsP lastP hereP aheadP hereS aheadS allS leadsS asideS
  by_cases h0 : n = 0
  · by_cases hi : 0 ≤ i ∧ i ≤ n
    · have : i = 0 := by omega
      subst this
      simp [h0]
      intro _
      constructor
      · rintro ⟨h1, h2, h3, h4⟩
        exact ⟨⟨h1, h3⟩, h2, h4⟩
      · rintro ⟨⟨h1, h3⟩, h2, h4⟩
        exact ⟨h1, h2, h3, h4⟩
    · have : ¬ (0 ≤ i ∧ i ≤ 0) := by omega
      simp [h0, this]
  · by_cases hi : 0 ≤ i ∧ i ≤ n
    · by_cases h1 : i < n <;> by_cases h2 : 0 < i <;> simp [h0, h1, h2, cmp_less, cmp_more, hi.1, hi.2] <;> (try omega)
      all_goals (intros; constructor <;> (intro hh; simp_all))
    · simp [hi]
theorem proves_tells {r : L} {n b : Int} {p : Pf} (hn : 0 ≤ n ∧ n ≤ 4096) (hb : 0 ≤ b ∧ b ≤ 4095) : tells r n b p = if provesB r n b p = true then (toldP p, p.found, 0) else ([], false, 17) := by
  unfold tells toldP
  rw [if_pos (by omega)]
  cases hf : p.found with
  | true => rw [if_pos rfl, if_pos rfl, found_iff r n b p hf]
  | false => simp only [Bool.false_eq_true, if_false]; rw [none_iff r n b p hf hn.1]
end Go.Proofs.YtdkcebaehdkphaaGreatDoor.PrgN
