/- Trees of hashes, level by level, and by halves from above: over any hashes and any node of two. Mathematics alone; no conditions but those that each lemma names. -/
namespace Go.Proofs.YtfjlpialblllgaaDoor.MerN
variable {α : Type}
/-- The level above. -/
def lift (nd : α → α → α) : List α → List α
  | a :: b :: t => nd a b :: lift nd t
  | l => l
theorem lift_length (nd : α → α → α) : ∀ l : List α, (lift nd l).length = (l.length + 1) / 2
  | [] => by simp [lift]
  | [_] => by simp [lift]
  | _ :: _ :: t => by
    have := lift_length nd t
    simp only [lift, List.length_cons]
    omega
theorem lift_append (nd : α → α → α) : ∀ (l m : List α) (k : Nat), l.length = 2 * k → lift nd (l ++ m) = lift nd l ++ lift nd m
  | [], m, _, _ => by simp [lift]
  | [_], _, k, h => by simp at h; omega
  | a :: b :: t, m, k, h => by
    have ih := lift_append nd t m (k - 1) (by simp only [List.length_cons] at h; omega)
    simp only [lift, List.cons_append, ih]
/-- What stands above a place. -/
theorem lift_at (nd : α → α → α) : ∀ (l : List α) (j : Nat) (h : j < (lift nd l).length), (lift nd l)[j] = if k : 2 * j + 1 < l.length then nd (l[2 * j]'(by omega)) l[2 * j + 1] else l[2 * j]'(by have := lift_length nd l; omega)
  | [], j, h => by simp [lift] at h
  | [a], j, h => by
    obtain rfl : j = 0 := by simpa [lift] using h
    simp [lift]
  | a :: b :: t, 0, h => by simp [lift]
  | a :: b :: t, j + 1, h => by
    have ih := lift_at nd t j (by simpa [lift] using h)
    simp only [lift, List.getElem_cons_succ, ih, show 2 * (j + 1) = 2 * j + 1 + 1 by omega, List.length_cons]
    by_cases k : 2 * j + 1 < t.length
    · rw [dif_pos k, dif_pos (by omega)]
    · rw [dif_neg k, dif_neg (by omega)]
/-- So many levels up. -/
def lvl (nd : α → α → α) : Nat → List α → List α
  | 0, l => l
  | m + 1, l => lvl nd m (lift nd l)
theorem lvl_one (nd : α → α → α) (a : α) : ∀ m, lvl nd m [a] = [a]
  | 0 => rfl
  | m + 1 => lvl_one nd a m
theorem lvl_length (nd : α → α → α) : ∀ (m : Nat) (l : List α), 0 < l.length → l.length ≤ 2 ^ m → (lvl nd m l).length = 1
  | 0, l, h0, h => by simp at h; show l.length = 1; omega
  | m + 1, l, h0, h => by
    have hl := lift_length nd l
    exact lvl_length nd m (lift nd l) (by omega) (by rw [Nat.pow_succ] at h; omega)
theorem lvl_more (nd : α → α → α) : ∀ (m k : Nat) (l : List α), l.length ≤ 2 ^ m → lvl nd (m + k) l = lvl nd m l
  | 0, k, l, h => by
    match l, h with
    | [], _ => induction k with
      | zero => rfl
      | succ k ih => rw [← Nat.add_assoc]; exact ih
    | [a], _ => rw [lvl_one, lvl_one]
    | _ :: _ :: _, h => simp at h
  | m + 1, k, l, h => by
    rw [show m + 1 + k = m + k + 1 by omega]
    exact lvl_more nd m k (lift nd l) (by rw [lift_length]; rw [Nat.pow_succ] at h; omega)
theorem lvl_any (nd : α → α → α) {m m' : Nat} {l : List α} (h : l.length ≤ 2 ^ m) (h' : l.length ≤ 2 ^ m') : lvl nd m l = lvl nd m' l := by
  by_cases hm : m ≤ m'
  · obtain ⟨k, rfl⟩ := Nat.exists_eq_add_of_le hm
    exact (lvl_more nd m k l h).symm
  · obtain ⟨k, rfl⟩ := Nat.exists_eq_add_of_le (show m' ≤ m by omega)
    exact lvl_more nd m' k l h'
theorem lt_pow (n : Nat) : n ≤ 2 ^ n := Nat.le_of_lt Nat.lt_two_pow_self
/-- The root of some leaves. -/
def root (nd : α → α → α) (z : α) (l : List α) : α := (lvl nd l.length l).headD z
theorem root_any (nd : α → α → α) (z : α) {m : Nat} {l : List α} (h : l.length ≤ 2 ^ m) : (lvl nd m l).headD z = root nd z l := by
  unfold root
  rw [lvl_any nd h (lt_pow _)]
theorem root_one (nd : α → α → α) (z a : α) : root nd z [a] = a := by unfold root; rw [lvl_one]; rfl
theorem root_nil (nd : α → α → α) (z : α) : root nd z [] = z := rfl
theorem root_lift (nd : α → α → α) (z : α) (l : List α) : root nd z (lift nd l) = root nd z l := by
  rw [← root_any nd z (m := l.length) (l := lift nd l) (by rw [lift_length]; have := lt_pow l.length; omega), ← root_any nd z (m := l.length + 1) (l := l) (by rw [Nat.pow_succ]; have := lt_pow l.length; omega)]
  rfl
/-- The greatest power of 2 that is less. -/
def half (n : Nat) : Nat := 2 ^ (n - 1).log2
theorem half_spec {n : Nat} (h : 2 ≤ n) : 0 < half n ∧ half n < n ∧ n ≤ 2 * half n := by
  unfold half
  have h1 := Nat.log2_self_le (n := n - 1) (by omega)
  have h2 := Nat.lt_log2_self (n := n - 1)
  rw [Nat.pow_succ] at h2
  have h3 := Nat.two_pow_pos (n - 1).log2
  omega
theorem half_two : half 2 = 1 := by decide
theorem half_even {n : Nat} (h : 3 ≤ n) : half n = 2 * half ((n + 1) / 2) := by
  unfold half
  rw [Nat.log2_def (n - 1), if_pos (by omega), Nat.pow_succ, Nat.mul_comm, show (n + 1) / 2 - 1 = (n - 1) / 2 by omega]
theorem lift_take (nd : α → α → α) (l : List α) (k : Nat) (h : 2 * k ≤ l.length) : (lift nd l).take k = lift nd (l.take (2 * k)) ∧ (lift nd l).drop k = lift nd (l.drop (2 * k)) := by
  have e := lift_append nd (l.take (2 * k)) (l.drop (2 * k)) k (by rw [List.length_take]; omega)
  rw [List.take_append_drop] at e
  have hl : (lift nd (l.take (2 * k))).length = k := by rw [lift_length, List.length_take]; omega
  rw [e]
  exact ⟨List.take_left' hl, List.drop_left' hl⟩
/-- By halves, from above. -/
theorem root_split (nd : α → α → α) (z : α) : ∀ (n : Nat) (l : List α), l.length = n → 2 ≤ n → root nd z l = nd (root nd z (l.take (half n))) (root nd z (l.drop (half n))) := by
  intro n
  induction n using Nat.strongRecOn with
  | _ n ih =>
    intro l hl h2
    by_cases h3 : 3 ≤ n
    · have hs := half_spec h2
      have he := half_even h3
      have hs' := half_spec (n := (n + 1) / 2) (by omega)
      have ht := lift_take nd l (half ((n + 1) / 2)) (by omega)
      rw [← root_lift nd z l, ih ((n + 1) / 2) (by omega) (lift nd l) (by rw [lift_length, hl]) (by omega), ht.1, ht.2, ← he, root_lift, root_lift]
    · obtain rfl : n = 2 := by omega
      match l, hl with
      | [a, b], _ => rfl
/-- The hashes beside a place, from below. -/
def sib (l : List α) (i : Nat) : List α := if i % 2 = 1 then (l[i - 1]?).toList else (l[i + 1]?).toList
def path (nd : α → α → α) : Nat → List α → Nat → List α
  | 0, _, _ => []
  | m + 1, l, i => sib l i ++ path nd m (lift nd l) (i / 2)
/-- How many these are. -/
def long : Nat → Nat → Nat → Nat
  | 0, _, _ => 0
  | m + 1, n, i => (if i % 2 = 1 ∨ i + 1 < n then 1 else 0) + long m ((n + 1) / 2) (i / 2)
/-- To which root a path leads. -/
def climb (nd : α → α → α) : Nat → Nat → Nat → α → List α → α
  | 0, _, _, x, _ => x
  | m + 1, n, i, x, p =>
    if i % 2 = 1 ∨ i + 1 < n then
      match p with
      | [] => x
      | h :: t => climb nd m ((n + 1) / 2) (i / 2) (if i % 2 = 1 then nd h x else nd x h) t
    else climb nd m ((n + 1) / 2) (i / 2) x p
theorem climb_yes (nd : α → α → α) {m n i : Nat} {x h : α} {t : List α} (c : i % 2 = 1 ∨ i + 1 < n) : climb nd (m + 1) n i x (h :: t) = climb nd m ((n + 1) / 2) (i / 2) (if i % 2 = 1 then nd h x else nd x h) t := by
  rw [climb.eq_def]
  simp only [if_pos c]
theorem climb_no (nd : α → α → α) {m n i : Nat} {x : α} {p : List α} (c : ¬ (i % 2 = 1 ∨ i + 1 < n)) : climb nd (m + 1) n i x p = climb nd m ((n + 1) / 2) (i / 2) x p := by
  rw [climb.eq_def]
  simp only [if_neg c]
theorem sib_length (l : List α) (i : Nat) (h : i < l.length) : (sib l i).length = if i % 2 = 1 ∨ i + 1 < l.length then 1 else 0 := by
  unfold sib
  by_cases h1 : i % 2 = 1
  · rw [if_pos h1, if_pos (.inl h1), List.getElem?_eq_getElem (by omega)]
    rfl
  · rw [if_neg h1]
    by_cases h2 : i + 1 < l.length
    · rw [if_pos (.inr h2), List.getElem?_eq_getElem h2]; rfl
    · rw [if_neg (by omega), List.getElem?_eq_none (by omega)]; rfl
theorem path_length (nd : α → α → α) : ∀ (m : Nat) (l : List α) (i : Nat), i < l.length → (path nd m l i).length = long m l.length i
  | 0, _, _, _ => rfl
  | m + 1, l, i, h => by
    have hl := lift_length nd l
    rw [path, List.length_append, sib_length l i h, path_length nd m (lift nd l) (i / 2) (by omega), hl, long]
theorem long_le : ∀ (m n i : Nat), long m n i ≤ m
  | 0, _, _ => Nat.le_refl _
  | m + 1, n, i => by
    have := long_le m ((n + 1) / 2) (i / 2)
    rw [long]
    split <;> omega
/-- A leaf's own path leads to what stands above it. -/
theorem climb_path (nd : α → α → α) : ∀ (m : Nat) (l : List α) (i : Nat) (h : i < l.length), l.length ≤ 2 ^ m → [climb nd m l.length i l[i] (path nd m l i)] = lvl nd m l
  | 0, l, i, h, hm => by
    match l, h, hm with
    | [a], h, _ =>
      obtain rfl : i = 0 := by simpa using h
      rfl
    | _ :: _ :: _, _, hm => simp at hm
  | m + 1, l, i, h, hm => by
    have hl := lift_length nd l
    have ih := climb_path nd m (lift nd l) (i / 2) (by omega) (by rw [Nat.pow_succ] at hm; omega)
    have ha := lift_at nd l (i / 2) (by omega)
    rw [lvl, ← ih, path]
    by_cases h1 : i % 2 = 1
    · have e : sib l i = [l[i - 1]] := by unfold sib; rw [if_pos h1, List.getElem?_eq_getElem (by omega)]; rfl
      rw [e, List.cons_append, List.nil_append, climb_yes nd (.inl h1), if_pos h1, ← hl, ha, dif_pos (by omega)]
      congr 3
      · congr 1; omega
      · congr 1; omega
    · by_cases h2 : i + 1 < l.length
      · have e : sib l i = [l[i + 1]] := by unfold sib; rw [if_neg h1, List.getElem?_eq_getElem h2]; rfl
        rw [e, List.cons_append, List.nil_append, climb_yes nd (.inr h2), if_neg h1, ← hl, ha, dif_pos (by omega)]
        congr 3
        · congr 1; omega
        · congr 1; omega
      · have e : sib l i = [] := by unfold sib; rw [if_neg h1, List.getElem?_eq_none (by omega)]; rfl
        rw [e, List.nil_append, climb_no nd (by omega), ← hl, ha, dif_neg (by omega)]
        congr 3
        congr 1
        omega
end Go.Proofs.YtfjlpialblllgaaDoor.MerN
