/- What is told of a row of versions: the newest one, of an epoch, of places, in their order; by halves and one by one. Mathematics alone; no conditions but those that each lemma names. -/
import Derived.Test.YtnebbbloipdnbaaIdxN
namespace Go.Proofs.Ytnebbbloipdnbaa.IdxM
open IdxN
/-- The last one of those that are asked for, or none. -/
def Top (m q : V → Prop) (x : V × Bool) : Prop := (x = (z0, false) ∧ ∀ u, m u → ¬ q u) ∨ (x.2 = true ∧ m x.1 ∧ q x.1 ∧ ∀ u, m u → q u → u = x.1 ∨ Lt u x.1)
theorem Top.one {m m' q q' : V → Prop} {x y : V × Bool} (hx : Top m q x) (hy : Top m' q' y) (hm : ∀ u, m u ↔ m' u) (hq : ∀ u, m u → (q u ↔ q' u)) : x = y := by
  rcases hx with ⟨rfl, hx⟩ | ⟨x2, xm, xq, hx⟩
  · rcases hy with ⟨rfl, _⟩ | ⟨_, ym, yq, _⟩
    · rfl
    · exact absurd ((hq _ ((hm _).2 ym)).2 yq) (hx _ ((hm _).2 ym))
  · rcases hy with ⟨rfl, hy⟩ | ⟨y2, ym, yq, hy⟩
    · exact absurd ((hq _ xm).1 xq) (hy _ ((hm _).1 xm))
    · refine Prod.ext ?_ (x2.trans y2.symm)
      rcases hx _ ((hm _).2 ym) ((hq _ ((hm _).2 ym)).2 yq) with h | h
      · exact h.symm
      · rcases hy _ ((hm _).1 xm) ((hq _ xm).1 xq) with k | k
        · exact k
        · exact absurd k (Lt.asymm h)
def soon (lba ep : Int) : V → Bool := fun v => decide (v.1 < lba ∨ (v.1 = lba ∧ v.2.1 ≤ ep))
theorem soon_yes {lba ep : Int} {v : V} (h : soon lba ep v = true) : v.1 < lba ∨ (v.1 = lba ∧ v.2.1 ≤ ep) := of_decide_eq_true h
theorem soon_no {lba ep : Int} {v : V} (h : soon lba ep v = false) : ¬ (v.1 < lba ∨ (v.1 = lba ∧ v.2.1 ≤ ep)) := of_decide_eq_false h
theorem soon_mono {r : List V} (h : Sorted r) (lba ep : Int) : Mono (soon lba ep) r := h.mono fun a b hab hb => by
  unfold soon Lt at *
  rw [decide_eq_true_iff] at *
  omega
def newest (r : List V) (lba ep : Int) : V × Bool :=
  if cut (soon lba ep) r = 0 then (z0, false) else if (r.getD (cut (soon lba ep) r - 1) z0).1 = lba then (r.getD (cut (soon lba ep) r - 1) z0, true) else (z0, false)
theorem newest_top {r : List V} (h : Sorted r) (lba ep : Int) : Top (· ∈ r) (fun u => u.1 = lba ∧ u.2.1 ≤ ep) (newest r lba ep) := by
  have hm := soon_mono h lba ep
  have hle := cut_le (soon lba ep) r
  unfold newest
  split
  · rename_i h0
    refine .inl ⟨rfl, fun u hu hq => ?_⟩
    obtain ⟨i, hi, rfl⟩ := List.getElem_of_mem hu
    have := soon_no (cut_past hm i hi (by omega))
    omega
  · rename_i h0
    have hk : cut (soon lba ep) r - 1 < r.length := by omega
    have e : r.getD (cut (soon lba ep) r - 1) z0 = r[cut (soon lba ep) r - 1] := by simp [List.getD, hk]
    have hin := soon_yes (cut_at (q := soon lba ep) _ hk (by omega))
    rw [e]
    split
    · rename_i h1
      refine .inr ⟨rfl, List.getElem_mem _, ⟨h1, by dsimp only; omega⟩, fun u hu hq => ?_⟩
      obtain ⟨i, hi, rfl⟩ := List.getElem_of_mem hu
      by_cases hlt : i < cut (soon lba ep) r
      · by_cases he : i = cut (soon lba ep) r - 1
        · subst he; exact .inl rfl
        · exact .inr (h.lt hi hk (by omega))
      · have := soon_no (cut_past hm i hi (by omega))
        omega
    · rename_i h1
      refine .inl ⟨rfl, fun u hu hq => ?_⟩
      obtain ⟨i, hi, rfl⟩ := List.getElem_of_mem hu
      by_cases hlt : i < cut (soon lba ep) r
      · by_cases he : i = cut (soon lba ep) r - 1
        · subst he; exact h1 hq.1
        · have := h.lt hi hk (by omega)
          unfold Lt at this
          omega
      · have := soon_no (cut_past hm i hi (by omega))
        omega
/-- The newest one of just this epoch. -/
def of (r : List V) (lba ep : Int) : V × Bool := if (newest r lba ep).2 = true ∧ (newest r lba ep).1.2.1 = ep then newest r lba ep else (z0, false)
theorem of_top {r : List V} (h : Sorted r) (lba ep : Int) : Top (· ∈ r) (fun u => u.1 = lba ∧ ep ≤ u.2.1 ∧ u.2.1 ≤ ep) (of r lba ep) := by
  have ht := newest_top h lba ep
  unfold of
  rcases ht with ⟨e, hn⟩ | ⟨h2, hm, hq, ha⟩
  · rw [e]
    simp only [Bool.false_eq_true, false_and, if_false]
    exact .inl ⟨rfl, fun u hu hq => hn u hu ⟨hq.1, hq.2.2⟩⟩
  · rw [h2]
    by_cases he : (newest r lba ep).1.2.1 = ep
    · simp only [he, and_self, if_true]
      exact .inr ⟨h2, hm, ⟨hq.1, by omega, by omega⟩, fun u hu k => ha u hu ⟨k.1, k.2.2⟩⟩
    · simp only [he, and_false, if_false]
      refine .inl ⟨rfl, fun u hu k => ?_⟩
      rcases ha u hu ⟨k.1, k.2.2⟩ with e | e
      · subst e; omega
      · unfold Lt at e; omega
/-- One by one, as the document goes. -/
def fits (lba a b : Int) (best : V × Bool) (v : V) : Bool := decide (v.1 = lba ∧ a ≤ v.2.1 ∧ v.2.1 ≤ b) && (!best.2 || lt best.1 v)
def next (lba a b : Int) (best : V × Bool) (v : V) : V × Bool := if fits lba a b best v then (v, true) else best
def newestR (l : List V) (lba a b : Int) : V × Bool := l.foldl (next lba a b) (z0, false)
theorem newestR_snoc (l : List V) (v : V) (lba a b : Int) : newestR (l ++ [v]) lba a b = next lba a b (newestR l lba a b) v := by unfold newestR; rw [List.foldl_append]; rfl
theorem next_top {m : V → Prop} {lba a b : Int} {x : V × Bool} (h : Top m (fun u => u.1 = lba ∧ a ≤ u.2.1 ∧ u.2.1 ≤ b) x) (v : V) : Top (fun u => m u ∨ u = v) (fun u => u.1 = lba ∧ a ≤ u.2.1 ∧ u.2.1 ≤ b) (next lba a b x v) := by
  unfold next fits lt
  by_cases hv : v.1 = lba ∧ a ≤ v.2.1 ∧ v.2.1 ≤ b
  · rcases h with ⟨rfl, hn⟩ | ⟨h2, hm, hq, ha⟩
    · simp only [hv, and_self, decide_true, Bool.not_false, Bool.true_or, Bool.and_self, if_true]
      refine .inr ⟨rfl, .inr rfl, hv, fun u hu k => ?_⟩
      rcases hu with hu | rfl
      · exact absurd k (hn u hu)
      · exact .inl rfl
    · rw [h2]
      by_cases hl : Lt x.1 v
      · simp only [hv, hl, and_self, decide_true, Bool.not_true, Bool.or_true, Bool.and_self, if_true]
        refine .inr ⟨rfl, .inr rfl, hv, fun u hu k => ?_⟩
        rcases hu with hu | rfl
        · rcases ha u hu k with rfl | h3
          · exact .inr hl
          · exact .inr (h3.trans hl)
        · exact .inl rfl
      · simp only [hv, hl, and_self, decide_true, decide_false, Bool.not_true, Bool.or_self, Bool.and_false, Bool.false_eq_true, if_false]
        refine .inr ⟨h2, .inl hm, hq, fun u hu k => ?_⟩
        rcases hu with hu | rfl
        · exact ha u hu k
        · rcases Lt.three u x.1 with h3 | h3 | h3
          · exact .inr h3
          · exact .inl h3
          · exact absurd h3 hl
  · have hd : decide (v.1 = lba ∧ a ≤ v.2.1 ∧ v.2.1 ≤ b) = false := decide_eq_false hv
    rw [hd]
    simp only [Bool.false_and, Bool.false_eq_true, if_false]
    rcases h with ⟨rfl, hn⟩ | ⟨h2, hm, hq, ha⟩
    · refine .inl ⟨rfl, fun u hu k => ?_⟩
      rcases hu with hu | rfl
      · exact hn u hu k
      · exact hv k
    · refine .inr ⟨h2, .inl hm, hq, fun u hu k => ?_⟩
      rcases hu with hu | rfl
      · exact ha u hu k
      · exact absurd k hv
theorem Top.cong {m m' q : V → Prop} {x : V × Bool} (h : Top m q x) (k : ∀ u, m u ↔ m' u) : Top m' q x := by
  have e : m = m' := funext fun u => propext (k u)
  subst e
  exact h
theorem foldl_top (l : List V) {lba a b : Int} : ∀ {m : V → Prop} {x : V × Bool}, Top m (fun u => u.1 = lba ∧ a ≤ u.2.1 ∧ u.2.1 ≤ b) x → Top (fun u => m u ∨ u ∈ l) (fun u => u.1 = lba ∧ a ≤ u.2.1 ∧ u.2.1 ≤ b) (l.foldl (next lba a b) x) := by
  induction l with
  | nil => intro m x h; exact h.cong (by simp)
  | cons y l ih =>
    intro m x h
    rw [List.foldl_cons]
    exact (ih (next_top h y)).cong (fun u => by rw [List.mem_cons, or_assoc])
theorem newestR_top (l : List V) (lba a b : Int) : Top (· ∈ l) (fun u => u.1 = lba ∧ a ≤ u.2.1 ∧ u.2.1 ≤ b) (newestR l lba a b) := by
  have h0 : Top (fun _ => False) (fun u => u.1 = lba ∧ a ≤ u.2.1 ∧ u.2.1 ≤ b) (z0, false) := .inl ⟨rfl, fun _ h => h.elim⟩
  exact (foldl_top l h0).cong (by simp)
theorem rel_newest {r l : List V} (h : Rel r l) (lba ep : Int) : newest r lba ep = newestR l lba 0 ep :=
  (newest_top h.s lba ep).one (newestR_top l lba 0 ep) h.mem fun u hu => by
    have := (may_iff u).1 (h.may u ((h.mem u).1 hu))
    omega
theorem rel_of {r l : List V} (h : Rel r l) (lba ep : Int) : of r lba ep = newestR l lba ep ep := (of_top h.s lba ep).one (newestR_top l lba ep ep) h.mem fun _ _ => Iff.rfl
theorem Top.mem {m q : V → Prop} {x : V × Bool} (h : Top m q x) (k : x.2 = true) : m x.1 ∧ q x.1 := by
  rcases h with ⟨rfl, _⟩ | ⟨_, h1, h2, _⟩
  · cases k
  · exact ⟨h1, h2⟩
theorem Top.none {m q : V → Prop} {x : V × Bool} (h : Top m q x) (k : x.2 = false) : x = (z0, false) := by
  rcases h with ⟨h, _⟩ | ⟨h, _⟩
  · exact h
  · rw [h] at k; cases k
/-- P14.5. -/
theorem asOf_yes {r : List V} (lba ep : Int) (hs : (of r lba ep).2 = true) : of r lba ep = newest r lba ep := by
  unfold of at hs ⊢
  split
  · rfl
  · rename_i hn
    rw [if_neg hn] at hs
    cases hs
theorem asOf_no {r : List V} (h : Sorted r) (lba ep : Int) (hs : (of r lba ep).2 = false) : newest r lba (ep - 1) = newest r lba ep :=
  (newest_top h lba (ep - 1)).one (newest_top h lba ep) (fun _ => Iff.rfl) fun u hu => by
    have ht := of_top h lba ep
    rcases ht with ⟨_, hn⟩ | ⟨h2, _⟩
    · have := hn u hu
      omega
    · rw [h2] at hs; cases hs
/-- The places that have one, rising. -/
def upto (lba : Int) : V → Bool := fun v => decide (v.1 ≤ lba)
def plc : List V → List Int
  | [] => []
  | v :: t => if (plc t).head? = some v.1 then plc t else v.1 :: plc t
theorem plc_head (v : V) (t : List V) : (plc (v :: t)).head? = some v.1 := by
  unfold plc
  split
  · rename_i h; exact h
  · rfl
theorem plc_step (v : V) (t : List V) (h : Sorted (v :: t)) : plc (v :: t) = v.1 :: plc ((v :: t).drop (cut (upto v.1) (v :: t))) := by
  induction t generalizing v with
  | nil => simp [plc, cut, upto]
  | cons u t ih =>
    unfold Sorted at h
    have hvu := (List.pairwise_cons.1 h).1 u (by simp)
    have ht := (List.pairwise_cons.1 h).2
    have e1 : cut (upto v.1) (v :: u :: t) = cut (upto v.1) (u :: t) + 1 := by
      unfold cut
      rw [List.takeWhile_cons_of_pos (by simp [upto]), List.length_cons]
    rw [e1, List.drop_succ_cons]
    have hp : plc (v :: u :: t) = if (plc (u :: t)).head? = some v.1 then plc (u :: t) else v.1 :: plc (u :: t) := rfl
    rw [hp, plc_head]
    by_cases e : u.1 = v.1
    · rw [e, if_pos rfl, ih u ht, e]
    · rw [if_neg (fun h => e (Option.some.inj h))]
      have : cut (upto v.1) (u :: t) = 0 := by
        unfold cut
        rw [List.takeWhile_cons_of_neg]
        · rfl
        · unfold upto
          unfold Lt at hvu
          simp
          omega
      rw [this, List.drop_zero]
theorem mem_plc (r : List V) (x : Int) : x ∈ plc r ↔ ∃ v ∈ r, v.1 = x := by
  induction r with
  | nil => simp [plc]
  | cons v t ih =>
    unfold plc
    split
    · rename_i h
      rw [ih]
      constructor
      · rintro ⟨u, hu, e⟩
        exact ⟨u, by simp [hu], e⟩
      · rintro ⟨u, hu, e⟩
        rw [List.mem_cons] at hu
        rcases hu with rfl | hu
        · have := List.mem_of_mem_head? (by rw [h]; rfl : u.1 ∈ (plc t).head?)
          rw [← e]
          have := ih.1 (e ▸ this)
          rw [e]
          exact this
        · exact ⟨u, hu, e⟩
    · rw [List.mem_cons, ih]
      constructor
      · rintro (h | ⟨u, hu, e⟩)
        · exact ⟨v, by simp, h.symm⟩
        · exact ⟨u, by simp [hu], e⟩
      · rintro ⟨u, hu, e⟩
        rw [List.mem_cons] at hu
        rcases hu with rfl | hu
        · exact .inl e.symm
        · exact .inr ⟨u, hu, e⟩
theorem plc_rises {r : List V} (h : Sorted r) : (plc r).Pairwise (· < ·) := by
  unfold Sorted at h
  induction r with
  | nil => exact List.Pairwise.nil
  | cons v t ih =>
    rw [List.pairwise_cons] at h
    unfold plc
    split
    · exact ih h.2
    · rename_i hh
      rw [List.pairwise_cons]
      refine ⟨fun x hx => ?_, ih h.2⟩
      have hge : ∀ y, y ∈ plc t → v.1 ≤ y := fun y hy => by
        obtain ⟨u, hu, rfl⟩ := (mem_plc t y).1 hy
        have := h.1 u hu
        unfold Lt at this
        omega
      cases hp : plc t with
      | nil => rw [hp] at hx; simp at hx
      | cons y ys =>
        have hy := hge y (by rw [hp]; simp)
        have hne : v.1 ≠ y := fun e => hh (by rw [hp, e]; rfl)
        have hr := ih h.2
        rw [hp, List.pairwise_cons] at hr
        rw [hp, List.mem_cons] at hx
        rcases hx with rfl | hx
        · omega
        · have := hr.1 x hx
          omega
theorem plc_nodup {r : List V} (h : Sorted r) : (plc r).Nodup := (plc_rises h).imp fun h => by omega
theorem plc_length (r : List V) : (plc r).length ≤ r.length := by
  induction r with
  | nil => simp [plc]
  | cons v t ih =>
    unfold plc
    split
    · simp only [List.length_cons]; omega
    · simp only [List.length_cons]; omega
theorem Sorted.drop {r : List V} (h : Sorted r) (n : Nat) : Sorted (r.drop n) := List.Pairwise.sublist (List.drop_sublist _ _) h
/-- Of an epoch, by places rising. -/
def pick (f : Int → V × Bool) (x : Int) : Option V := if (f x).2 then some (f x).1 else none
def eps (r : List V) (ep : Int) : List V := (plc r).filterMap (pick fun x => of r x ep)
def ups : List Int := (List.range 4096).map (fun i : Nat => (i : Int))
def epsR (l : List V) (ep : Int) : List V := ups.filterMap (pick fun x => newestR l x ep ep)
theorem ups_rises : ups.Pairwise (· < ·) := by
  unfold ups
  rw [List.pairwise_map]
  exact List.pairwise_lt_range.imp fun h => by omega
theorem mem_ups (x : Int) : x ∈ ups ↔ 0 ≤ x ∧ x ≤ 4095 := by
  unfold ups
  rw [List.mem_map]
  constructor
  · rintro ⟨i, hi, rfl⟩
    rw [List.mem_range] at hi
    omega
  · intro h
    exact ⟨x.toNat, by rw [List.mem_range]; omega, by omega⟩
theorem picks_sorted {f : Int → V × Bool} {l : List Int} (hl : l.Pairwise (· < ·)) (hf : ∀ x, (f x).2 = true → (f x).1.1 = x) : Sorted (l.filterMap (pick f)) := by
  unfold Sorted
  refine List.Pairwise.filterMap (R := (· < ·)) (pick f) (fun a a' haa b hb b' hb' => ?_) hl
  unfold pick at hb hb'
  split at hb
  · split at hb'
    · rename_i h1 h2
      obtain rfl := Option.some.inj hb
      obtain rfl := Option.some.inj hb'
      have e1 := hf a h1
      have e2 := hf a' h2
      exact .inl (by omega)
    · cases hb'
  · cases hb
theorem mem_picks {f : Int → V × Bool} {l : List Int} (v : V) (hf : ∀ x, (f x).2 = true → (f x).1.1 = x) : v ∈ l.filterMap (pick f) ↔ v.1 ∈ l ∧ f v.1 = (v, true) := by
  rw [List.mem_filterMap]
  constructor
  · rintro ⟨x, hx, h⟩
    unfold pick at h
    split at h
    · rename_i h2
      obtain rfl := Option.some.inj h
      have := hf x h2
      rw [this]
      exact ⟨hx, Prod.ext rfl h2⟩
    · cases h
  · rintro ⟨h, k⟩
    refine ⟨v.1, h, ?_⟩
    unfold pick
    rw [k]
    rfl
theorem rel_eps {r l : List V} (h : Rel r l) (ep : Int) : eps r ep = epsR l ep := by
  have f1 : ∀ x, (of r x ep).2 = true → (of r x ep).1.1 = x := fun x hx => ((of_top h.s x ep).mem hx).2.1
  have f2 : ∀ x, (newestR l x ep ep).2 = true → (newestR l x ep ep).1.1 = x := fun x hx => ((newestR_top l x ep ep).mem hx).2.1
  refine same (picks_sorted (plc_rises h.s) f1) (picks_sorted ups_rises f2) fun v => ?_
  unfold eps epsR
  rw [mem_picks v f1, mem_picks v f2, rel_of h]
  constructor
  · rintro ⟨_, k⟩
    refine ⟨?_, k⟩
    have hm := ((newestR_top l v.1 ep ep).mem (by rw [k])).1
    rw [k] at hm
    have := (may_iff v).1 (h.may v hm)
    rw [mem_ups]
    omega
  · rintro ⟨_, k⟩
    refine ⟨?_, k⟩
    have hm := ((newestR_top l v.1 ep ep).mem (by rw [k])).1
    rw [k] at hm
    exact (mem_plc r v.1).2 ⟨v, (h.mem v).2 hm, rfl⟩
/-- How many places, one by one. -/
def met (l : List V) (k : Nat) (x : Int) : Bool := (l.take k).any fun v => v.1 == x
def firsts (l : List V) : Nat → List Int
  | 0 => []
  | i + 1 => if met l i (l.getD i z0).1 then firsts l i else firsts l i ++ [(l.getD i z0).1]
theorem met_iff (l : List V) (k : Nat) (x : Int) : met l k x = true ↔ ∃ v ∈ l.take k, v.1 = x := by
  unfold met
  rw [List.any_eq_true]
  constructor
  · rintro ⟨v, hv, h⟩
    exact ⟨v, hv, by simpa using h⟩
  · rintro ⟨v, hv, h⟩
    exact ⟨v, hv, by simpa using h⟩
theorem met_succ (l : List V) (k : Nat) (x : Int) (h : k < l.length) : met l (k + 1) x = (met l k x || ((l.getD k z0).1 == x)) := by
  unfold met
  rw [List.take_succ_eq_append_getElem h, List.any_append]
  simp [List.getD, h]
theorem firsts_spec (l : List V) : ∀ i, i ≤ l.length → (firsts l i).Nodup ∧ ∀ x, x ∈ firsts l i ↔ ∃ v ∈ l.take i, v.1 = x := by
  intro i
  induction i with
  | zero => intro _; simp [firsts]
  | succ i ih =>
    intro hi
    obtain ⟨hn, hm⟩ := ih (by omega)
    have ht : l.take (i + 1) = l.take i ++ [l[i]] := List.take_succ_eq_append_getElem (by omega)
    have hg : l.getD i z0 = l[i] := by simp [List.getD, show i < l.length by omega]
    unfold firsts
    rw [hg, ht]
    split
    · rename_i h
      refine ⟨hn, fun x => ?_⟩
      rw [hm]
      constructor
      · rintro ⟨v, hv, e⟩
        exact ⟨v, List.mem_append_left _ hv, e⟩
      · rintro ⟨v, hv, e⟩
        rw [List.mem_append, List.mem_singleton] at hv
        rcases hv with hv | rfl
        · exact ⟨v, hv, e⟩
        · rw [← e]
          exact (met_iff _ _ _).1 h
    · rename_i h
      refine ⟨?_, fun x => ?_⟩
      · rw [List.nodup_append]
        refine ⟨hn, by simp, fun a ha b hb => ?_⟩
        rw [List.mem_singleton] at hb
        subst hb
        rintro rfl
        exact h ((met_iff _ _ _).2 ((hm _).1 ha))
      · rw [List.mem_append, List.mem_singleton, hm]
        constructor
        · rintro (⟨v, hv, e⟩ | rfl)
          · exact ⟨v, List.mem_append_left _ hv, e⟩
          · exact ⟨l[i], List.mem_append_right _ (by simp), rfl⟩
        · rintro ⟨v, hv, e⟩
          rw [List.mem_append, List.mem_singleton] at hv
          rcases hv with hv | rfl
          · exact .inl ⟨v, hv, e⟩
          · exact .inr e.symm
theorem nodup_le {α : Type} [BEq α] [LawfulBEq α] {a b : List α} (ha : a.Nodup) (h : ∀ x, x ∈ a → x ∈ b) : a.length ≤ b.length := by
  induction a generalizing b with
  | nil => simp
  | cons x a ih =>
    rw [List.nodup_cons] at ha
    have hx := h x (by simp)
    have := ih (b := b.erase x) ha.2 fun y hy => (List.mem_erase_of_ne (by rintro rfl; exact ha.1 hy)).2 (h y (by simp [hy]))
    rw [List.length_erase_of_mem hx] at this
    have := List.length_pos_of_mem hx
    simp only [List.length_cons]
    omega
theorem rel_places {r l : List V} (h : Rel r l) : (firsts l l.length).length = (plc r).length := by
  obtain ⟨hn, hm⟩ := firsts_spec l l.length (Nat.le_refl _)
  have hs : ∀ x, x ∈ firsts l l.length ↔ x ∈ plc r := fun x => by
    rw [hm, mem_plc, List.take_length]
    constructor
    · rintro ⟨v, hv, e⟩; exact ⟨v, (h.mem v).2 hv, e⟩
    · rintro ⟨v, hv, e⟩; exact ⟨v, (h.mem v).1 hv, e⟩
  exact Nat.le_antisymm (nodup_le hn fun x hx => (hs x).1 hx) (nodup_le (plc_nodup h.s) fun x hx => (hs x).2 hx)
theorem firsts_length (l : List V) : ∀ i, (firsts l i).length ≤ i := by
  intro i
  induction i with
  | zero => simp [firsts]
  | succ i ih =>
    unfold firsts
    split
    · omega
    · simp; omega
end Go.Proofs.Ytnebbbloipdnbaa.IdxM
