/- Versions as triples of ints, rows of them that stand in their order, and what is asked of such: mathematics alone. No conditions but those that each lemma names. -/
namespace Go.Proofs.Ytnebbbloipdnbaa.IdxN
/-- A version: its Lba, its Epoch, its Slot. -/
abbrev V := Int × Int × Int
def z0 : V := (0, 0, 0)
/-- One stands ahead of another one. -/
def Lt (a b : V) : Prop := a.1 < b.1 ∨ (a.1 = b.1 ∧ (a.2.1 < b.2.1 ∨ (a.2.1 = b.2.1 ∧ a.2.2 < b.2.2)))
instance (a b : V) : Decidable (Lt a b) := by unfold Lt; exact inferInstance
def lt (a b : V) : Bool := decide (Lt a b)
theorem Lt.irr (a : V) : ¬ Lt a a := by unfold Lt; omega
theorem Lt.asymm {a b : V} (h : Lt a b) : ¬ Lt b a := by unfold Lt at *; omega
theorem Lt.trans {a b c : V} (h : Lt a b) (k : Lt b c) : Lt a c := by unfold Lt at *; omega
theorem eq_of {a b : V} (h0 : a.1 = b.1) (h1 : a.2.1 = b.2.1) (h2 : a.2.2 = b.2.2) : a = b := Prod.ext h0 (Prod.ext h1 h2)
theorem Lt.three (a b : V) : Lt a b ∨ a = b ∨ Lt b a := by
  by_cases h : a.1 = b.1 ∧ a.2.1 = b.2.1 ∧ a.2.2 = b.2.2
  · exact .inr (.inl (eq_of h.1 h.2.1 h.2.2))
  · unfold Lt; omega
/-- What compare says, by its sign. -/
def cmpI (x y : Int) : Int := if x < y then -1 else if y < x then 1 else 0
def cmpV (a b : V) : Int := if cmpI a.1 b.1 ≠ 0 then cmpI a.1 b.1 else if cmpI a.2.1 b.2.1 ≠ 0 then cmpI a.2.1 b.2.1 else cmpI a.2.2 b.2.2
theorem cmpV_lt (a b : V) : decide (cmpV a b < 0) = lt a b := by
  unfold lt
  rw [decide_eq_decide]
  unfold cmpV cmpI Lt
  repeat' split
  all_goals omega
def may (v : V) : Bool := decide (0 ≤ v.1 ∧ v.1 ≤ 4095 ∧ 0 ≤ v.2.1 ∧ v.2.1 ≤ 4294967295 ∧ 0 ≤ v.2.2 ∧ v.2.2 ≤ 4294967295)
theorem may_iff (v : V) : may v = true ↔ (0 ≤ v.1 ∧ v.1 ≤ 4095 ∧ 0 ≤ v.2.1 ∧ v.2.1 ≤ 4294967295 ∧ 0 ≤ v.2.2 ∧ v.2.2 ≤ 4294967295) := by unfold may; rw [decide_eq_true_iff]
/-- A row stands in its order, none twice. -/
def Sorted (r : List V) : Prop := r.Pairwise Lt
theorem Sorted.nil : Sorted [] := List.Pairwise.nil
theorem same {a b : List V} (ha : Sorted a) (hb : Sorted b) (h : ∀ v, v ∈ a ↔ v ∈ b) : a = b := by
  unfold Sorted at ha hb
  induction a generalizing b with
  | nil =>
    cases b with
    | nil => rfl
    | cons x b => exact absurd ((h x).2 (by simp)) (by simp)
  | cons x a ih =>
    cases b with
    | nil => exact absurd ((h x).1 (by simp)) (by simp)
    | cons y b =>
      rw [List.pairwise_cons] at ha hb
      have hxy : x = y := by
        have h1 := (h x).1 (by simp)
        have h2 := (h y).2 (by simp)
        rw [List.mem_cons] at h1 h2
        rcases h1 with h1 | h1
        · exact h1
        · rcases h2 with h2 | h2
          · exact h2.symm
          · exact absurd (hb.1 x h1) (Lt.asymm (ha.1 y h2))
      subst hxy
      congr 1
      refine ih ha.2 hb.2 fun v => ?_
      have := h v
      rw [List.mem_cons, List.mem_cons] at this
      constructor
      · intro hv
        rcases this.1 (.inr hv) with rfl | h1
        · exact absurd (ha.1 v hv) (Lt.irr v)
        · exact h1
      · intro hv
        rcases this.2 (.inr hv) with rfl | h1
        · exact absurd (hb.1 v hv) (Lt.irr v)
        · exact h1
/-- How many are ahead. -/
def cut (q : V → Bool) (r : List V) : Nat := (r.takeWhile q).length
theorem cut_le (q : V → Bool) (r : List V) : cut q r ≤ r.length := by
  unfold cut
  exact (List.takeWhile_sublist q).length_le
theorem cut_eq {q : V → Bool} {r : List V} {n : Nat} (h : n ≤ r.length) (h0 : ∀ t (k : t < r.length), t < n → q r[t] = true) (h1 : ∀ t (k : t < r.length), n ≤ t → q r[t] = false) : cut q r = n := by
  unfold cut
  induction r generalizing n with
  | nil => simp at h; simp [h]
  | cons x r ih =>
    cases n with
    | zero =>
      have := h1 0 (by simp) (Nat.le_refl _)
      simp at this
      simp [List.takeWhile, this]
    | succ n =>
      have := h0 0 (by simp) (by omega)
      simp at this
      rw [List.takeWhile_cons_of_pos this, List.length_cons, ih (by simpa using h) (fun t k kt => by have := h0 (t + 1) (by simpa using k) (by omega); simpa using this) (fun t k kt => by have := h1 (t + 1) (by simpa using k) (by omega); simpa using this)]
theorem cut_at {q : V → Bool} {r : List V} : ∀ t (k : t < r.length), t < cut q r → q r[t] = true := by
  unfold cut
  induction r with
  | nil => intro t k; simp at k
  | cons x r ih =>
    intro t k ht
    by_cases hx : q x = true
    · rw [List.takeWhile_cons_of_pos hx, List.length_cons] at ht
      cases t with
      | zero => simpa using hx
      | succ t => have := ih t (by simpa using k) (by omega); simpa using this
    · rw [List.takeWhile_cons_of_neg hx] at ht
      simp at ht
theorem cut_stop {q : V → Bool} {r : List V} (h : cut q r < r.length) : q r[cut q r] = false := by
  unfold cut at *
  induction r with
  | nil => simp at h
  | cons x r ih =>
    by_cases hx : q x = true
    · have e : (List.takeWhile q (x :: r)).length = (List.takeWhile q r).length + 1 := by rw [List.takeWhile_cons_of_pos hx, List.length_cons]
      simp only [e] at h ⊢
      have := ih (by simpa using h)
      simpa using this
    · have e : (List.takeWhile q (x :: r)).length = 0 := by rw [List.takeWhile_cons_of_neg hx]; rfl
      simp only [e]
      simpa using hx
/-- A test that none behind one that fails it passes. -/
def Mono (q : V → Bool) (r : List V) : Prop := ∀ i j (hi : i < r.length) (hj : j < r.length), i ≤ j → q r[j] = true → q r[i] = true
theorem cut_past {q : V → Bool} {r : List V} (hm : Mono q r) (t : Nat) (k : t < r.length) (h : cut q r ≤ t) : q r[t] = false := by
  have hc : cut q r < r.length := Nat.lt_of_le_of_lt h k
  have hs := cut_stop hc
  cases hq : q r[t] with
  | false => rfl
  | true => have := hm _ t hc k h hq; rw [this] at hs; cases hs
theorem Sorted.lt {r : List V} (h : Sorted r) {i j : Nat} (hi : i < r.length) (hj : j < r.length) (hij : i < j) : Lt r[i] r[j] := List.pairwise_iff_getElem.1 h i j hi hj hij
theorem Sorted.mono {r : List V} (h : Sorted r) {q : V → Bool} (hq : ∀ a b, Lt a b → q b = true → q a = true) : Mono q r := fun i j hi hj hij hb => by
  by_cases e : i = j
  · subst e; exact hb
  · exact hq _ _ (h.lt hi hj (by omega)) hb
/-- A version laid where it stands. -/
def before (v : V) : V → Bool := fun w => lt w v
theorem before_mono {r : List V} (h : Sorted r) (v : V) : Mono (before v) r := h.mono fun a b hab hb => by
  unfold before lt at *
  rw [decide_eq_true_iff] at *
  exact hab.trans hb
def ins (r : List V) (v : V) : List V := r.take (cut (before v) r) ++ v :: r.drop (cut (before v) r)
theorem mem_ins (r : List V) (v u : V) : u ∈ ins r v ↔ u = v ∨ u ∈ r := by
  unfold ins
  rw [List.mem_append, List.mem_cons]
  have : u ∈ r ↔ u ∈ r.take (cut (before v) r) ∨ u ∈ r.drop (cut (before v) r) := by rw [← List.mem_append, List.take_append_drop]
  rw [this]
  constructor
  · rintro (h | h | h)
    · exact .inr (.inl h)
    · exact .inl h
    · exact .inr (.inr h)
  · rintro (h | h | h)
    · exact .inr (.inl h)
    · exact .inl h
    · exact .inr (.inr h)
theorem length_ins (r : List V) (v : V) : (ins r v).length = r.length + 1 := by
  have := cut_le (before v) r
  unfold ins
  simp
  omega
theorem found_iff {r : List V} (h : Sorted r) (v : V) : r[cut (before v) r]? = some v ↔ v ∈ r := by
  constructor
  · exact fun h => List.mem_of_getElem? h
  · intro hv
    obtain ⟨i, hi, rfl⟩ := List.getElem_of_mem hv
    rw [cut_eq (n := i) (Nat.le_of_lt hi) (fun t k ht => ?_) (fun t k ht => ?_)]
    · exact List.getElem?_eq_getElem hi
    · exact decide_eq_true (h.lt k hi ht)
    · unfold before lt
      rw [decide_eq_false_iff_not]
      intro hl
      by_cases e : t = i
      · subst e; exact Lt.irr _ hl
      · exact Lt.asymm hl (h.lt hi k (by omega))
theorem sorted_ins {r : List V} (h : Sorted r) (v : V) (hv : ¬ v ∈ r) : Sorted (ins r v) := by
  unfold Sorted ins
  have hm := before_mono h v
  rw [List.pairwise_append]
  refine ⟨List.Pairwise.sublist (List.take_sublist _ _) h, ?_, ?_⟩
  · rw [List.pairwise_cons]
    refine ⟨fun u hu => ?_, List.Pairwise.sublist (List.drop_sublist _ _) h⟩
    obtain ⟨i, hi, rfl⟩ := List.getElem_of_mem hu
    rw [List.getElem_drop]
    rw [List.length_drop] at hi
    have := cut_past hm (cut (before v) r + i) (by omega) (by omega)
    unfold before lt at this
    rw [decide_eq_false_iff_not] at this
    rcases Lt.three v r[cut (before v) r + i] with h1 | h1 | h1
    · exact h1
    · exact absurd (h1 ▸ List.getElem_mem _) hv
    · exact absurd h1 this
  · intro a ha b hb
    obtain ⟨i, hi, rfl⟩ := List.getElem_of_mem ha
    rw [List.getElem_take]
    rw [List.length_take] at hi
    have hav : Lt r[i] v := by
      have := cut_at i (by omega) (by omega : i < cut (before v) r)
      unfold before lt at this
      rwa [decide_eq_true_iff] at this
    rw [List.mem_cons] at hb
    rcases hb with rfl | hb
    · exact hav
    · obtain ⟨j, hj, rfl⟩ := List.getElem_of_mem hb
      rw [List.getElem_drop]
      rw [List.length_drop] at hj
      exact h.lt _ _ (by omega)
/-- What the index has, and answers, behind an Add. -/
def add (r : List V) (v : V) : List V := if may v && !decide (v ∈ r) then ins r v else r
def why (r : List V) (v : V) : Int := if may v then if v ∈ r then 19 else 0 else 2
def addR (l : List V) (v : V) : List V := if may v && !decide (v ∈ l) then l ++ [v] else l
/-- An index's row, and the row of what was added, as it came. -/
structure Rel (r l : List V) : Prop where
  s : Sorted r
  mem : ∀ v, v ∈ r ↔ v ∈ l
  nd : l.Nodup
  may : ∀ v, v ∈ l → may v = true
theorem Rel.nil : Rel [] [] := ⟨Sorted.nil, fun _ => Iff.rfl, List.nodup_nil, fun v h => by simp at h⟩
theorem Rel.add {r l : List V} (h : Rel r l) (v : V) : Rel (add r v) (addR l v) ∧ why r v = why l v := by
  have hm := h.mem v
  unfold IdxN.add addR why
  by_cases hy : IdxN.may v = true
  · by_cases hv : v ∈ l
    · have hr := hm.2 hv
      simp only [hy, hv, hr, decide_true, Bool.not_true, Bool.and_false, if_true, Bool.false_eq_true, if_false]
      exact ⟨h, trivial⟩
    · have hr : ¬ v ∈ r := fun k => hv (hm.1 k)
      simp only [hy, hv, hr, decide_false, Bool.not_false, Bool.and_true, if_true, if_false]
      refine ⟨⟨sorted_ins h.s v hr, fun u => ?_, ?_, ?_⟩, trivial⟩
      · rw [mem_ins, List.mem_append, List.mem_singleton, h.mem u]
        exact Or.comm
      · rw [List.nodup_append]
        refine ⟨h.nd, by simp, fun a ha b hb => ?_⟩
        rw [List.mem_singleton] at hb
        subst hb
        exact fun e => hv (e ▸ ha)
      · intro u hu
        rw [List.mem_append, List.mem_singleton] at hu
        rcases hu with hu | rfl
        · exact h.may u hu
        · exact hy
  · have hn : IdxN.may v = false := by simpa using hy
    simp only [hn, Bool.false_and, Bool.false_eq_true, if_false]
    exact ⟨h, trivial⟩
theorem add_sorted {r : List V} (h : Sorted r) (v : V) : Sorted (add r v) := by
  unfold add
  by_cases hv : v ∈ r
  · simp [hv, h]
  · by_cases hy : may v = true
    · simpa [hv, hy] using sorted_ins h v hv
    · simp [hy, h]
theorem mem_add (r : List V) (v u : V) : u ∈ add r v ↔ u ∈ r ∨ (u = v ∧ may v = true) := by
  unfold add
  by_cases hv : v ∈ r
  · simp [hv]
    rintro rfl _
    exact hv
  · by_cases hy : may v = true
    · simp [hv, hy, mem_ins]
      exact Or.comm
    · simp [hy]
theorem length_add (r : List V) (v : V) : (add r v).length ≤ r.length + 1 := by
  unfold add
  split
  · exact Nat.le_of_eq (length_ins r v)
  · omega
/-- All of a row added, one by one. -/
def ofL (l : List V) : List V := l.foldl add []
theorem ofL_snoc (l : List V) (v : V) : ofL (l ++ [v]) = add (ofL l) v := by unfold ofL; rw [List.foldl_append]; rfl
theorem foldl_add_sorted (l : List V) : ∀ r, Sorted r → Sorted (l.foldl add r) := by
  induction l with
  | nil => exact fun _ h => h
  | cons x l ih => exact fun r h => ih _ (add_sorted h x)
theorem mem_foldl (l : List V) (u : V) : ∀ r, u ∈ l.foldl add r ↔ u ∈ r ∨ (u ∈ l ∧ may u = true) := by
  induction l with
  | nil => intro r; simp
  | cons x l ih =>
    intro r
    rw [List.foldl_cons, ih, mem_add, List.mem_cons]
    constructor
    · rintro ((h | ⟨rfl, h⟩) | h)
      · exact .inl h
      · exact .inr ⟨.inl rfl, h⟩
      · exact .inr ⟨.inr h.1, h.2⟩
    · rintro (h | ⟨rfl | h, k⟩)
      · exact .inl (.inl h)
      · exact .inl (.inr ⟨rfl, k⟩)
      · exact .inr ⟨h, k⟩
theorem ofL_sorted (l : List V) : Sorted (ofL l) := foldl_add_sorted l [] Sorted.nil
theorem mem_ofL (l : List V) (u : V) : u ∈ ofL l ↔ u ∈ l ∧ may u = true := by unfold ofL; rw [mem_foldl]; simp
theorem length_foldl (l : List V) : ∀ r, (l.foldl add r).length ≤ r.length + l.length := by
  induction l with
  | nil => intro r; simp
  | cons x l ih => intro r; have h1 := ih (add r x); have h2 := length_add r x; simp only [List.foldl_cons, List.length_cons]; omega
theorem ofL_length (l : List V) : (ofL l).length ≤ l.length := by have := length_foldl l []; unfold ofL; simpa using this
theorem ofL_reverse (l : List V) : ofL l.reverse = ofL l := same (ofL_sorted _) (ofL_sorted _) fun v => by rw [mem_ofL, mem_ofL, List.mem_reverse]
theorem ofL_may {l : List V} {u : V} (h : u ∈ ofL l) : may u = true := ((mem_ofL l u).1 h).2
end Go.Proofs.Ytnebbbloipdnbaa.IdxN
