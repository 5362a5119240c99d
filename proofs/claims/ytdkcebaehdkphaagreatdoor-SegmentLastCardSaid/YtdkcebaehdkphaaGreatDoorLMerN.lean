/- MerN MerM: one behind the other. -/
/- Trees of hashes, level by level, and by halves from above: over any hashes and any node of two. Mathematics alone; no conditions but those that each lemma names. -/
namespace Go.Proofs.YtdkcebaehdkphaaGreatDoor.MerN
variable {α : Type}
/-- The level above. -/
def lift (nd : α → α → α) : List α → List α
  | a :: b :: t => nd a b :: lift nd t
  | l => l
theorem lift_length (nd : α → α → α) : ∀ l : List α, (lift nd l).length = (l.length + 1) / 2
  | [] => by simp [lift]
  | [_] => by simp [lift]
  | _ :: _ :: t => by
    have := lift_length nd t
    simp only [lift, List.length_cons]
    omega
theorem lift_append (nd : α → α → α) : ∀ (l m : List α) (k : Nat), l.length = 2 * k → lift nd (l ++ m) = lift nd l ++ lift nd m
  | [], m, _, _ => by simp [lift]
  | [_], _, k, h => by simp at h; omega
  | a :: b :: t, m, k, h => by
    have ih := lift_append nd t m (k - 1) (by simp only [List.length_cons] at h; omega)
    simp only [lift, List.cons_append, ih]
/-- What stands above a place. -/
theorem lift_at (nd : α → α → α) : ∀ (l : List α) (j : Nat) (h : j < (lift nd l).length), (lift nd l)[j] = if k : 2 * j + 1 < l.length then nd (l[2 * j]'(by omega)) l[2 * j + 1] else l[2 * j]'(by have := lift_length nd l; omega)
  | [], j, h => by simp [lift] at h
  | [a], j, h => by
    obtain rfl : j = 0 := by simpa [lift] using h
    simp [lift]
  | a :: b :: t, 0, h => by simp [lift]
  | a :: b :: t, j + 1, h => by
    have ih := lift_at nd t j (by simpa [lift] using h)
    simp only [lift, List.getElem_cons_succ, ih, show 2 * (j + 1) = 2 * j + 1 + 1 by omega, List.length_cons]
    by_cases k : 2 * j + 1 < t.length
    · rw [dif_pos k, dif_pos (by omega)]
    · rw [dif_neg k, dif_neg (by omega)]
/-- So many levels up. -/
def lvl (nd : α → α → α) : Nat → List α → List α
  | 0, l => l
  | m + 1, l => lvl nd m (lift nd l)
theorem lvl_one (nd : α → α → α) (a : α) : ∀ m, lvl nd m [a] = [a]
  | 0 => rfl
  | m + 1 => lvl_one nd a m
theorem lvl_length (nd : α → α → α) : ∀ (m : Nat) (l : List α), 0 < l.length → l.length ≤ 2 ^ m → (lvl nd m l).length = 1
  | 0, l, h0, h => by simp at h; show l.length = 1; omega
  | m + 1, l, h0, h => by
    have hl := lift_length nd l
    exact lvl_length nd m (lift nd l) (by omega) (by rw [Nat.pow_succ] at h; omega)
theorem lvl_more (nd : α → α → α) : ∀ (m k : Nat) (l : List α), l.length ≤ 2 ^ m → lvl nd (m + k) l = lvl nd m l
  | 0, k, l, h => by
    match l, h with
    | [], _ => induction k with
      | zero => rfl
      | succ k ih => rw [← Nat.add_assoc]; exact ih
    | [a], _ => rw [lvl_one, lvl_one]
    | _ :: _ :: _, h => simp at h
  | m + 1, k, l, h => by
    rw [show m + 1 + k = m + k + 1 by omega]
    exact lvl_more nd m k (lift nd l) (by rw [lift_length]; rw [Nat.pow_succ] at h; omega)
theorem lvl_any (nd : α → α → α) {m m' : Nat} {l : List α} (h : l.length ≤ 2 ^ m) (h' : l.length ≤ 2 ^ m') : lvl nd m l = lvl nd m' l := by
  by_cases hm : m ≤ m'
  · obtain ⟨k, rfl⟩ := Nat.exists_eq_add_of_le hm
    exact (lvl_more nd m k l h).symm
  · obtain ⟨k, rfl⟩ := Nat.exists_eq_add_of_le (show m' ≤ m by omega)
    exact lvl_more nd m' k l h'
theorem lt_pow (n : Nat) : n ≤ 2 ^ n := Nat.le_of_lt Nat.lt_two_pow_self
/-- The root of some leaves. -/
def root (nd : α → α → α) (z : α) (l : List α) : α := (lvl nd l.length l).headD z
theorem root_any (nd : α → α → α) (z : α) {m : Nat} {l : List α} (h : l.length ≤ 2 ^ m) : (lvl nd m l).headD z = root nd z l := by
  unfold root
  rw [lvl_any nd h (lt_pow _)]
theorem root_one (nd : α → α → α) (z a : α) : root nd z [a] = a := by unfold root; rw [lvl_one]; rfl
theorem root_nil (nd : α → α → α) (z : α) : root nd z [] = z := rfl
theorem root_lift (nd : α → α → α) (z : α) (l : List α) : root nd z (lift nd l) = root nd z l := by
  rw [← root_any nd z (m := l.length) (l := lift nd l) (by rw [lift_length]; have := lt_pow l.length; omega), ← root_any nd z (m := l.length + 1) (l := l) (by rw [Nat.pow_succ]; have := lt_pow l.length; omega)]
  rfl
/-- The greatest power of 2 that is less. -/
def half (n : Nat) : Nat := 2 ^ (n - 1).log2
theorem half_spec {n : Nat} (h : 2 ≤ n) : 0 < half n ∧ half n < n ∧ n ≤ 2 * half n := by
  unfold half
  have h1 := Nat.log2_self_le (n := n - 1) (by omega)
  have h2 := Nat.lt_log2_self (n := n - 1)
  rw [Nat.pow_succ] at h2
  have h3 := Nat.two_pow_pos (n - 1).log2
  omega
theorem half_two : half 2 = 1 := by decide
theorem half_even {n : Nat} (h : 3 ≤ n) : half n = 2 * half ((n + 1) / 2) := by
  unfold half
  rw [Nat.log2_def (n - 1), if_pos (by omega), Nat.pow_succ, Nat.mul_comm, show (n + 1) / 2 - 1 = (n - 1) / 2 by omega]
theorem lift_take (nd : α → α → α) (l : List α) (k : Nat) (h : 2 * k ≤ l.length) : (lift nd l).take k = lift nd (l.take (2 * k)) ∧ (lift nd l).drop k = lift nd (l.drop (2 * k)) := by
  have e := lift_append nd (l.take (2 * k)) (l.drop (2 * k)) k (by rw [List.length_take]; omega)
  rw [List.take_append_drop] at e
  have hl : (lift nd (l.take (2 * k))).length = k := by rw [lift_length, List.length_take]; omega
  rw [e]
  exact ⟨List.take_left' hl, List.drop_left' hl⟩
/-- By halves, from above. -/
theorem root_split (nd : α → α → α) (z : α) : ∀ (n : Nat) (l : List α), l.length = n → 2 ≤ n → root nd z l = nd (root nd z (l.take (half n))) (root nd z (l.drop (half n))) := by
  intro n
  induction n using Nat.strongRecOn with
  | _ n ih =>
    intro l hl h2
    by_cases h3 : 3 ≤ n
    · have hs := half_spec h2
      have he := half_even h3
      have hs' := half_spec (n := (n + 1) / 2) (by omega)
      have ht := lift_take nd l (half ((n + 1) / 2)) (by omega)
      rw [← root_lift nd z l, ih ((n + 1) / 2) (by omega) (lift nd l) (by rw [lift_length, hl]) (by omega), ht.1, ht.2, ← he, root_lift, root_lift]
    · obtain rfl : n = 2 := by omega
      match l, hl with
      | [a, b], _ => rfl
/-- The hashes beside a place, from below. -/
def sib (l : List α) (i : Nat) : List α := if i % 2 = 1 then (l[i - 1]?).toList else (l[i + 1]?).toList
def path (nd : α → α → α) : Nat → List α → Nat → List α
  | 0, _, _ => []
  | m + 1, l, i => sib l i ++ path nd m (lift nd l) (i / 2)
/-- How many these are. -/
def long : Nat → Nat → Nat → Nat
  | 0, _, _ => 0
  | m + 1, n, i => (if i % 2 = 1 ∨ i + 1 < n then 1 else 0) + long m ((n + 1) / 2) (i / 2)
/-- To which root a path leads. -/
def climb (nd : α → α → α) : Nat → Nat → Nat → α → List α → α
  | 0, _, _, x, _ => x
  | m + 1, n, i, x, p =>
    if i % 2 = 1 ∨ i + 1 < n then
      match p with
      | [] => x
      | h :: t => climb nd m ((n + 1) / 2) (i / 2) (if i % 2 = 1 then nd h x else nd x h) t
    else climb nd m ((n + 1) / 2) (i / 2) x p
theorem climb_yes (nd : α → α → α) {m n i : Nat} {x h : α} {t : List α} (c : i % 2 = 1 ∨ i + 1 < n) : climb nd (m + 1) n i x (h :: t) = climb nd m ((n + 1) / 2) (i / 2) (if i % 2 = 1 then nd h x else nd x h) t := by
  rw [climb.eq_def]
  simp only [if_pos c]
theorem climb_no (nd : α → α → α) {m n i : Nat} {x : α} {p : List α} (c : ¬ (i % 2 = 1 ∨ i + 1 < n)) : climb nd (m + 1) n i x p = climb nd m ((n + 1) / 2) (i / 2) x p := by
  rw [climb.eq_def]
  simp only [if_neg c]
theorem sib_length (l : List α) (i : Nat) (h : i < l.length) : (sib l i).length = if i % 2 = 1 ∨ i + 1 < l.length then 1 else 0 := by
  unfold sib
  by_cases h1 : i % 2 = 1
  · rw [if_pos h1, if_pos (.inl h1), List.getElem?_eq_getElem (by omega)]
    rfl
  · rw [if_neg h1]
    by_cases h2 : i + 1 < l.length
    · rw [if_pos (.inr h2), List.getElem?_eq_getElem h2]; rfl
    · rw [if_neg (by omega), List.getElem?_eq_none (by omega)]; rfl
theorem path_length (nd : α → α → α) : ∀ (m : Nat) (l : List α) (i : Nat), i < l.length → (path nd m l i).length = long m l.length i
  | 0, _, _, _ => rfl
  | m + 1, l, i, h => by
    have hl := lift_length nd l
    rw [path, List.length_append, sib_length l i h, path_length nd m (lift nd l) (i / 2) (by omega), hl, long]
theorem long_le : ∀ (m n i : Nat), long m n i ≤ m
  | 0, _, _ => Nat.le_refl _
  | m + 1, n, i => by
    have := long_le m ((n + 1) / 2) (i / 2)
    rw [long]
    split <;> omega
/-- A leaf's own path leads to what stands above it. -/
theorem climb_path (nd : α → α → α) : ∀ (m : Nat) (l : List α) (i : Nat) (h : i < l.length), l.length ≤ 2 ^ m → [climb nd m l.length i l[i] (path nd m l i)] = lvl nd m l
  | 0, l, i, h, hm => by
    match l, h, hm with
    | [a], h, _ =>
      obtain rfl : i = 0 := by simpa using h
      rfl
    | _ :: _ :: _, _, hm => simp at hm
  | m + 1, l, i, h, hm => by
    have hl := lift_length nd l
    have ih := climb_path nd m (lift nd l) (i / 2) (by omega) (by rw [Nat.pow_succ] at hm; omega)
    have ha := lift_at nd l (i / 2) (by omega)
    rw [lvl, ← ih, path]
    by_cases h1 : i % 2 = 1
    · have e : sib l i = [l[i - 1]] := by unfold sib; rw [if_pos h1, List.getElem?_eq_getElem (by omega)]; rfl
      rw [e, List.cons_append, List.nil_append, climb_yes nd (.inl h1), if_pos h1, ← hl, ha, dif_pos (by omega)]
      congr 3
      · congr 1; omega
      · congr 1; omega
    · by_cases h2 : i + 1 < l.length
      · have e : sib l i = [l[i + 1]] := by unfold sib; rw [if_neg h1, List.getElem?_eq_getElem h2]; rfl
        rw [e, List.cons_append, List.nil_append, climb_yes nd (.inr h2), if_neg h1, ← hl, ha, dif_pos (by omega)]
        congr 3
        · congr 1; omega
        · congr 1; omega
      · have e : sib l i = [] := by unfold sib; rw [if_neg h1, List.getElem?_eq_none (by omega)]; rfl
        rw [e, List.nil_append, climb_no nd (by omega), ← hl, ha, dif_neg (by omega)]
        congr 3
        congr 1
        omega
end Go.Proofs.YtdkcebaehdkphaaGreatDoor.MerN
/- Trees of hashes: paths and what they lead to, by halves from above; another leaf that leads to the root. Mathematics alone; no conditions but those that each lemma names. -/
namespace Go.Proofs.YtdkcebaehdkphaaGreatDoor.MerM
open MerN
variable {α : Type}
theorem lift_one (nd : α → α → α) (a : α) : lift nd [a] = [a] := by simp [lift]
theorem path_one (nd : α → α → α) (a : α) : ∀ m, path nd m [a] 0 = []
  | 0 => rfl
  | m + 1 => by rw [path, lift_one, path_one nd a m]; rfl
theorem path_more (nd : α → α → α) : ∀ (m k : Nat) (l : List α) (i : Nat), i < l.length → l.length ≤ 2 ^ m → path nd (m + k) l i = path nd m l i
  | 0, k, l, i, h, hm => by
    match l, h, hm with
    | [a], h, _ =>
      obtain rfl : i = 0 := by simpa using h
      rw [path_one, path_one]
    | _ :: _ :: _, _, hm => simp at hm
  | m + 1, k, l, i, h, hm => by
    have hl := lift_length nd l
    rw [show m + 1 + k = m + k + 1 by omega, path, path, path_more nd m k (lift nd l) (i / 2) (by omega) (by rw [Nat.pow_succ] at hm; omega)]
theorem path_any (nd : α → α → α) {m m' : Nat} {l : List α} {i : Nat} (hi : i < l.length) (h : l.length ≤ 2 ^ m) (h' : l.length ≤ 2 ^ m') : path nd m l i = path nd m' l i := by
  by_cases hm : m ≤ m'
  · obtain ⟨k, rfl⟩ := Nat.exists_eq_add_of_le hm
    exact (path_more nd m k l i hi h).symm
  · obtain ⟨k, rfl⟩ := Nat.exists_eq_add_of_le (show m' ≤ m by omega)
    exact path_more nd m' k l i hi h'
/-- The path of a place. -/
def pathN (nd : α → α → α) (l : List α) (i : Nat) : List α := path nd l.length l i
theorem pathN_any (nd : α → α → α) {m : Nat} {l : List α} {i : Nat} (hi : i < l.length) (h : l.length ≤ 2 ^ m) : path nd m l i = pathN nd l i := path_any nd hi h (lt_pow _)
theorem pathN_succ (nd : α → α → α) {l : List α} {i : Nat} (hi : i < l.length) : pathN nd l i = sib l i ++ pathN nd (lift nd l) (i / 2) := by
  have hl := lift_length nd l
  have hp := lt_pow l.length
  rw [← pathN_any nd (m := l.length + 1) hi (by rw [Nat.pow_succ]; omega), path, pathN_any nd (by omega) (by omega)]
theorem pathN_one (nd : α → α → α) (a : α) : pathN nd [a] 0 = [] := path_one nd a 1
def longN (n i : Nat) : Nat := long n n i
theorem pathN_length (nd : α → α → α) {l : List α} {i : Nat} (h : i < l.length) : (pathN nd l i).length = longN l.length i := path_length nd _ l i h
theorem sib_take {l : List α} {i k : Nat} (hk : k % 2 = 0) (hi : i < k) : sib (l.take k) i = sib l i := by
  unfold sib
  split
  · rw [List.getElem?_take_of_lt (by omega)]
  · rw [List.getElem?_take_of_lt (by omega)]
theorem sib_drop {l : List α} {i k : Nat} (hk : k % 2 = 0) (hi : k ≤ i) : sib (l.drop k) (i - k) = sib l i := by
  unfold sib
  rw [show (i - k) % 2 = i % 2 by omega]
  split
  · rw [List.getElem?_drop, show k + (i - k - 1) = i - 1 by omega]
  · rw [List.getElem?_drop, show k + (i - k + 1) = i + 1 by omega]
/-- A path, by halves from above. -/
theorem path_split (nd : α → α → α) (z : α) : ∀ (n : Nat) (l : List α) (i : Nat), l.length = n → 2 ≤ n → i < n →
    pathN nd l i = if i < half n then pathN nd (l.take (half n)) i ++ [root nd z (l.drop (half n))] else pathN nd (l.drop (half n)) (i - half n) ++ [root nd z (l.take (half n))] := by
  intro n
  induction n using Nat.strongRecOn with
  | _ n ih =>
    intro l i hl h2 hi
    by_cases h3 : 3 ≤ n
    · have hs := half_spec h2
      have he := half_even h3
      have hs' := half_spec (n := (n + 1) / 2) (by omega)
      have ht := lift_take nd l (half ((n + 1) / 2)) (by omega)
      rw [pathN_succ nd (by omega), ih ((n + 1) / 2) (by omega) (lift nd l) (i / 2) (by rw [lift_length, hl]) (by omega) (by omega), ht.1, ht.2, ← he, root_lift, root_lift]
      by_cases hk : i < half n
      · rw [if_pos hk, if_pos (by omega), pathN_succ nd (l := l.take (half n)) (by rw [List.length_take]; omega), sib_take (by omega) hk, List.append_assoc]
      · rw [if_neg hk, if_neg (by omega), pathN_succ nd (l := l.drop (half n)) (by rw [List.length_drop]; omega), sib_drop (by omega) (by omega), List.append_assoc, show (i - half n) / 2 = i / 2 - half ((n + 1) / 2) by omega]
    · obtain rfl : n = 2 := by omega
      match l, hl with
      | [a, b], _ =>
        rw [half_two]
        have h01 : i = 0 ∨ i = 1 := by omega
        rcases h01 with rfl | rfl
        · rfl
        · rfl
theorem long_split {n i : Nat} (h2 : 2 ≤ n) (hi : i < n) : longN n i = if i < half n then longN (half n) i + 1 else longN (n - half n) (i - half n) + 1 := by
  have hs := half_spec h2
  have hp := path_split (fun _ _ => ()) () n (List.replicate n ()) i (by simp) h2 hi
  have h1 := pathN_length (fun _ _ => ()) (l := List.replicate n ()) (i := i) (by simpa using hi)
  rw [List.length_replicate] at h1
  rw [← h1, hp]
  split
  · rename_i hk
    rw [List.length_append, pathN_length _ (by rw [List.length_take, List.length_replicate]; omega), List.length_take, List.length_replicate, Nat.min_eq_left (by omega)]
    rfl
  · rename_i hk
    rw [List.length_append, pathN_length _ (by rw [List.length_drop, List.length_replicate]; omega), List.length_drop, List.length_replicate]
    rfl
theorem long_one : longN 1 0 = 0 := rfl
theorem climb_one (nd : α → α → α) (x : α) (p : List α) : ∀ m, climb nd m 1 0 x p = x
  | 0 => rfl
  | m + 1 => by rw [climb_no nd (by omega)]; exact climb_one nd x p m
theorem climb_more (nd : α → α → α) : ∀ (m k n i : Nat) (x : α) (p : List α), i < n → n ≤ 2 ^ m → climb nd (m + k) n i x p = climb nd m n i x p
  | 0, k, n, i, x, p, h, hm => by
    obtain rfl : n = 1 := by simp at hm; omega
    obtain rfl : i = 0 := by omega
    rw [climb_one, climb_one]
  | m + 1, k, n, i, x, p, h, hm => by
    rw [Nat.pow_succ] at hm
    rw [show m + 1 + k = m + k + 1 by omega]
    by_cases c : i % 2 = 1 ∨ i + 1 < n
    · cases p with
      | nil => rw [climb.eq_def, climb.eq_def nd (m + 1)]; simp only [if_pos c]
      | cons h t => rw [climb_yes nd c, climb_yes nd c, climb_more nd m k _ _ _ _ (by omega) (by omega)]
    · rw [climb_no nd c, climb_no nd c, climb_more nd m k _ _ _ _ (by omega) (by omega)]
theorem climb_any (nd : α → α → α) {m m' n i : Nat} {x : α} {p : List α} (hi : i < n) (h : n ≤ 2 ^ m) (h' : n ≤ 2 ^ m') : climb nd m n i x p = climb nd m' n i x p := by
  by_cases hm : m ≤ m'
  · obtain ⟨k, rfl⟩ := Nat.exists_eq_add_of_le hm
    exact (climb_more nd m k n i x p hi h).symm
  · obtain ⟨k, rfl⟩ := Nat.exists_eq_add_of_le (show m' ≤ m by omega)
    exact climb_more nd m' k n i x p hi h'
/-- To which root a path leads. -/
def climbN (nd : α → α → α) (n i : Nat) (x : α) (p : List α) : α := climb nd n n i x p
theorem climbN_any (nd : α → α → α) {m n i : Nat} {x : α} {p : List α} (hi : i < n) (h : n ≤ 2 ^ m) : climb nd m n i x p = climbN nd n i x p := climb_any nd hi h (lt_pow _)
theorem climbN_yes (nd : α → α → α) {n i : Nat} {x h : α} {t : List α} (hi : i < n) (c : i % 2 = 1 ∨ i + 1 < n) : climbN nd n i x (h :: t) = climbN nd ((n + 1) / 2) (i / 2) (if i % 2 = 1 then nd h x else nd x h) t := by
  have hp := lt_pow n
  rw [← climbN_any nd (m := n + 1) hi (by rw [Nat.pow_succ]; omega), climb_yes nd c, climbN_any nd (by omega) (by omega)]
theorem climbN_no (nd : α → α → α) {n i : Nat} {x : α} {p : List α} (hi : i < n) (c : ¬ (i % 2 = 1 ∨ i + 1 < n)) : climbN nd n i x p = climbN nd ((n + 1) / 2) (i / 2) x p := by
  have hp := lt_pow n
  rw [← climbN_any nd (m := n + 1) hi (by rw [Nat.pow_succ]; omega), climb_no nd c, climbN_any nd (by omega) (by omega)]
theorem climbN_one (nd : α → α → α) (x : α) (p : List α) : climbN nd 1 0 x p = x := climb_one nd x p 1
theorem longN_succ {n i : Nat} (hi : i < n) : longN n i = (if i % 2 = 1 ∨ i + 1 < n then 1 else 0) + longN ((n + 1) / 2) (i / 2) := by
  have h1 := pathN_length (fun _ _ => ()) (l := List.replicate n ()) (i := i) (by simpa using hi)
  have hl := lift_length (fun _ _ => ()) (List.replicate n ())
  rw [List.length_replicate] at h1 hl
  rw [← h1, pathN_succ _ (by simpa using hi), List.length_append, sib_length _ _ (by simpa using hi), List.length_replicate, pathN_length _ (by omega), hl]
/-- What a path leads to, by halves from above. -/
theorem climb_split (nd : α → α → α) : ∀ (n i : Nat) (x h : α) (p : List α), 2 ≤ n → i < n →
    (i < half n → p.length = longN (half n) i → climbN nd n i x (p ++ [h]) = nd (climbN nd (half n) i x p) h) ∧
    (¬ i < half n → p.length = longN (n - half n) (i - half n) → climbN nd n i x (p ++ [h]) = nd h (climbN nd (n - half n) (i - half n) x p)) := by
  intro n
  induction n using Nat.strongRecOn with
  | _ n ih =>
    intro i x h p h2 hi
    by_cases h3 : 3 ≤ n
    · have hs := half_spec h2
      have he := half_even h3
      have hs' := half_spec (n := (n + 1) / 2) (by omega)
      constructor
      · intro hk hp
        rw [longN_succ (n := half n) hk, if_pos (by omega)] at hp
        cases p with
        | nil => simp at hp; omega
        | cons y t =>
          have hi' := (ih ((n + 1) / 2) (by omega) (i / 2) (if i % 2 = 1 then nd y x else nd x y) h t (by omega) (by omega)).1 (by omega)
          rw [show half ((n + 1) / 2) = (half n + 1) / 2 by omega] at hi'
          rw [List.cons_append, climbN_yes nd hi (by omega), climbN_yes nd hk (by omega), hi' (by simp only [List.length_cons] at hp; omega)]
      · intro hk hp
        have hj : i - half n < n - half n := by omega
        rw [longN_succ hj] at hp
        have e1 : (n - half n + 1) / 2 = (n + 1) / 2 - half ((n + 1) / 2) := by omega
        have e2 : (i - half n) / 2 = i / 2 - half ((n + 1) / 2) := by omega
        by_cases c : i % 2 = 1 ∨ i + 1 < n
        · rw [if_pos (by omega)] at hp
          cases p with
          | nil => simp at hp; omega
          | cons y t =>
            have hi' := (ih ((n + 1) / 2) (by omega) (i / 2) (if i % 2 = 1 then nd y x else nd x y) h t (by omega) (by omega)).2 (by omega)
            rw [← e1, ← e2] at hi'
            rw [List.cons_append, climbN_yes nd hi c, climbN_yes nd hj (by omega), hi' (by simp only [List.length_cons] at hp; omega), show (i - half n) % 2 = i % 2 by omega]
        · rw [if_neg (by omega)] at hp
          have hi' := (ih ((n + 1) / 2) (by omega) (i / 2) x h p (by omega) (by omega)).2 (by omega)
          rw [← e1, ← e2] at hi'
          rw [climbN_no nd hi c, climbN_no nd hj (by omega), hi' (by omega)]
    · obtain rfl : n = 2 := by omega
      rw [half_two]
      have h01 : i = 0 ∨ i = 1 := by omega
      rcases h01 with rfl | rfl
      · refine ⟨fun _ hp => ?_, fun hk => absurd (by omega) hk⟩
        obtain rfl : p = [] := List.eq_nil_of_length_eq_zero hp
        rfl
      · refine ⟨fun hk => absurd hk (by omega), fun _ hp => ?_⟩
        obtain rfl : p = [] := List.eq_nil_of_length_eq_zero hp
        rfl
/-- A leaf's own path leads to the root. -/
theorem climb_own (nd : α → α → α) (z : α) (l : List α) (i : Nat) (h : i < l.length) : climbN nd l.length i l[i] (pathN nd l i) = root nd z l := by
  have := climb_path nd l.length l i h (lt_pow _)
  unfold root
  rw [← this]
  rfl
/-- As many as it takes to double 1 up to so many leaves. -/
theorem long_most {n i m : Nat} (hi : i < n) (h : n ≤ 2 ^ m) : longN n i ≤ m := by
  have h1 := path_length (fun _ _ => ()) m (List.replicate n ()) i (by simpa using hi)
  rw [pathN_any _ (by simpa using hi) (by simpa using h), pathN_length _ (by simpa using hi), List.length_replicate] at h1
  rw [h1]
  exact long_le m n i
/-- The first level at which both nodes are the same: what they were made of: the path's two, and the leaves' two. -/
def clash [DecidableEq α] (nd : α → α → α) : Nat → List α → Nat → α → List α → Option ((α × α) × (α × α))
  | 0, _, _, _, _ => none
  | m + 1, l, i, x, p =>
    if i % 2 = 1 ∨ i + 1 < l.length then
      match p, l[i / 2 * 2]?, l[i / 2 * 2 + 1]? with
      | h :: t, some c, some d =>
        if nd (if i % 2 = 1 then h else x) (if i % 2 = 1 then x else h) = nd c d then some (((if i % 2 = 1 then h else x), (if i % 2 = 1 then x else h)), (c, d))
        else clash nd m (lift nd l) (i / 2) (nd (if i % 2 = 1 then h else x) (if i % 2 = 1 then x else h)) t
      | _, _, _ => none
    else clash nd m (lift nd l) (i / 2) x p
theorem clash_some [DecidableEq α] (nd : α → α → α) : ∀ (m : Nat) (l : List α) (i : Nat) (x : α) (p : List α) (hi : i < l.length), l.length ≤ 2 ^ m → p.length = long m l.length i → x ≠ l[i] → [climb nd m l.length i x p] = lvl nd m l →
    ∃ a b c d, clash nd m l i x p = some ((a, b), (c, d)) ∧ nd a b = nd c d ∧ ¬ (a = c ∧ b = d)
  | 0, l, i, x, p, hi, hm, _, hx, hc => by
    match l, hi, hm with
    | [a], hi, _ =>
      obtain rfl : i = 0 := by simpa using hi
      exact absurd (by simpa [climb, lvl] using hc) hx
    | _ :: _ :: _, _, hm => simp at hm
  | m + 1, l, i, x, p, hi, hm, hp, hx, hc => by
    have hl := lift_length nd l
    have ha := lift_at nd l (i / 2) (by omega)
    rw [Nat.pow_succ] at hm
    rw [long] at hp
    by_cases c : i % 2 = 1 ∨ i + 1 < l.length
    · rw [if_pos c] at hp
      cases p with
      | nil => simp at hp; omega
      | cons h t =>
        have e0 : l[i / 2 * 2]? = some (l[i / 2 * 2]'(by omega)) := List.getElem?_eq_getElem _
        have e1 : l[i / 2 * 2 + 1]? = some (l[i / 2 * 2 + 1]'(by omega)) := List.getElem?_eq_getElem _
        rw [dif_pos (by omega)] at ha
        have ha' : (lift nd l)[i / 2]'(by omega) = nd (l[i / 2 * 2]'(by omega)) (l[i / 2 * 2 + 1]'(by omega)) := by
          rw [ha]
          congr 1
          · congr 1; omega
          · congr 1; omega
        rw [climb_yes nd c] at hc
        unfold clash
        rw [if_pos c, e0, e1]
        have hun : ¬ ((if i % 2 = 1 then h else x) = l[i / 2 * 2]'(by omega) ∧ (if i % 2 = 1 then x else h) = l[i / 2 * 2 + 1]'(by omega)) := by
          rintro ⟨q0, q1⟩
          by_cases ho : i % 2 = 1
          · rw [if_pos ho] at q1
            exact hx (q1.trans (by congr 1; omega))
          · rw [if_neg ho] at q0
            exact hx (q0.trans (by congr 1; omega))
        have hnode : (if i % 2 = 1 then nd h x else nd x h) = nd (if i % 2 = 1 then h else x) (if i % 2 = 1 then x else h) := by split <;> rfl
        rw [hnode] at hc
        by_cases he : nd (if i % 2 = 1 then h else x) (if i % 2 = 1 then x else h) = nd (l[i / 2 * 2]'(by omega)) (l[i / 2 * 2 + 1]'(by omega))
        · exact ⟨_, _, _, _, by simp only [if_pos he], he, hun⟩
        · simp only [if_neg he]
          exact clash_some nd m (lift nd l) (i / 2) _ t (by omega) (by omega) (by rw [hl]; simp only [List.length_cons] at hp; omega) (by rw [ha']; exact he) (by rw [hl]; exact hc)
    · rw [if_neg c] at hp
      rw [climb_no nd c] at hc
      unfold clash
      rw [if_neg c]
      rw [dif_neg (by omega)] at ha
      exact clash_some nd m (lift nd l) (i / 2) x p (by omega) (by omega) (by rw [hl]; omega) (by rw [ha]; exact fun e => hx (e.trans (by congr 1; omega))) (by rw [hl]; exact hc)
end Go.Proofs.YtdkcebaehdkphaaGreatDoor.MerM
