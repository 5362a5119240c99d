/- Trees of hashes: on which side what stands beside stands; the nodes by which a path leads up; two runs that meet. Mathematics alone; no conditions but those that each lemma names. -/
import Derived.Test.YtdkcebaehdkphaaGreatDoorLMerN
import Derived.Test.YtdkcebaehdkphaaGreatDoorLOct
namespace Go.Proofs.YtdkcebaehdkphaaGreatDoor.MerQ
open MerN MerM
abbrev L := List UInt8
/-- The hash above two. -/
def nd (a b : L) : L := sum (1 :: (a ++ b))
theorem nd_length (a b : L) : (nd a b).length = 32 := sum_length _
theorem lift_lvl {α : Type} (nd : α → α → α) : ∀ (k : Nat) (l : List α), lift nd (lvl nd k l) = lvl nd (k + 1) l
  | 0, _ => rfl
  | k + 1, l => lift_lvl nd k (lift nd l)
theorem lift_all (P : L → Prop) (hn : ∀ a b, P (nd a b)) : ∀ (l : List L), (∀ x ∈ l, P x) → ∀ x ∈ lift nd l, P x
  | [], _, x, hx => by simp [lift] at hx
  | [a], h, x, hx => h x (by simpa [lift] using hx)
  | a :: b :: t, h, x, hx => by
    rw [lift, List.mem_cons] at hx
    rcases hx with rfl | hx
    · exact hn a b
    · exact lift_all P hn t (fun y hy => h y (by simp [hy])) x hx
theorem lvl_all (P : L → Prop) (hn : ∀ a b, P (nd a b)) : ∀ (k : Nat) (l : List L), (∀ x ∈ l, P x) → ∀ x ∈ lvl nd k l, P x
  | 0, _, h => h
  | k + 1, l, h => lvl_all P hn k (lift nd l) (lift_all P hn l h)
theorem sib_all {l : List L} {i : Nat} {x : L} (h : x ∈ sib l i) : x ∈ l := by
  unfold sib at h
  split at h
  · cases e : l[i - 1]? with
    | none => rw [e] at h; simp at h
    | some y => rw [e] at h; simp at h; subst h; exact List.mem_of_getElem? e
  · cases e : l[i + 1]? with
    | none => rw [e] at h; simp at h
    | some y => rw [e] at h; simp at h; subst h; exact List.mem_of_getElem? e
theorem path_all (P : L → Prop) (hn : ∀ a b, P (nd a b)) : ∀ (m : Nat) (l : List L) (i : Nat), (∀ x ∈ l, P x) → ∀ x ∈ path nd m l i, P x
  | 0, _, _, _, x, hx => by simp [path] at hx
  | m + 1, l, i, h, x, hx => by
    rw [path, List.mem_append] at hx
    exact hx.elim (fun e => h x (sib_all e)) (path_all P hn m (lift nd l) (i / 2) (lift_all P hn l h) x)
/-- On which side: of each level at which one stands beside. -/
def sides : Nat → Nat → Nat → List Bool
  | 0, _, _ => []
  | m + 1, n, i => (if i % 2 = 1 ∨ i + 1 < n then [decide (i % 2 = 1)] else []) ++ sides m ((n + 1) / 2) (i / 2)
theorem sides_length : ∀ (m n i : Nat), (sides m n i).length = long m n i
  | 0, _, _ => rfl
  | m + 1, n, i => by
    rw [sides, List.length_append, sides_length m, long]
    split <;> rfl
theorem sides_one : ∀ m, sides m 1 0 = []
  | 0 => rfl
  | m + 1 => by rw [sides, if_neg (by omega)]; exact sides_one m
theorem sides_more : ∀ (m k n i : Nat), i < n → n ≤ 2 ^ m → sides (m + k) n i = sides m n i
  | 0, k, n, i, h, hm => by
    obtain rfl : n = 1 := by simp at hm; omega
    obtain rfl : i = 0 := by omega
    rw [sides_one, sides_one]
  | m + 1, k, n, i, h, hm => by
    rw [Nat.pow_succ] at hm
    rw [show m + 1 + k = m + k + 1 by omega, sides, sides, sides_more m k _ _ (by omega) (by omega)]
theorem sides_any {m m' n i : Nat} (hi : i < n) (h : n ≤ 2 ^ m) (h' : n ≤ 2 ^ m') : sides m n i = sides m' n i := by
  by_cases hm : m ≤ m'
  · obtain ⟨k, rfl⟩ := Nat.exists_eq_add_of_le hm
    exact (sides_more m k n i hi h).symm
  · obtain ⟨k, rfl⟩ := Nat.exists_eq_add_of_le (show m' ≤ m by omega)
    exact sides_more m' k n i hi h'
def sidesN (n i : Nat) : List Bool := sides n n i
theorem sidesN_length (n i : Nat) : (sidesN n i).length = longN n i := sides_length n n i
theorem sidesN_one : sidesN 1 0 = [] := sides_one 1
theorem sidesN_succ {n i : Nat} (hi : i < n) : sidesN n i = (if i % 2 = 1 ∨ i + 1 < n then [decide (i % 2 = 1)] else []) ++ sidesN ((n + 1) / 2) (i / 2) := by
  have hp := lt_pow n
  unfold sidesN
  rw [← sides_any (m := n + 1) hi (by rw [Nat.pow_succ]; omega) hp, sides, sides_any (m := n) (m' := (n + 1) / 2) (by omega) (by omega) (lt_pow _)]
/-- What a node is the sum of. -/
def ofs (b : Bool) (x h : L) : L := 1 :: (if b then h ++ x else x ++ h)
theorem ofs_length (b : Bool) {x h : L} (hx : x.length = 32) (hh : h.length = 32) : (ofs b x h).length = 65 := by
  unfold ofs
  cases b <;> simp [hx, hh]
/-- The nodes by which a path leads up: each one's hash, and what it is the sum of. -/
def nodes : List Bool → L → List L → List (L × L)
  | b :: bs, x, h :: t => (sum (ofs b x h), ofs b x h) :: nodes bs (sum (ofs b x h)) t
  | _, _, _ => []
theorem nodes_length : ∀ (bs : List Bool) (x : L) (p : List L), p.length = bs.length → (nodes bs x p).length = bs.length
  | [], _, _, _ => by simp [nodes]
  | b :: bs, x, [], h => by simp at h
  | b :: bs, x, h :: t, e => by
    rw [nodes, List.length_cons, nodes_length bs _ t (by simpa using e), List.length_cons]
theorem nodes_all (P : L × L → Prop) (hP : ∀ o, P (sum o, o)) : ∀ (bs : List Bool) (x : L) (p : List L), ∀ z ∈ nodes bs x p, P z
  | [], _, _, z, hz => by simp [nodes] at hz
  | b :: bs, x, [], z, hz => by simp [nodes] at hz
  | b :: bs, x, h :: t, z, hz => by
    rw [nodes, List.mem_cons] at hz
    rcases hz with rfl | hz
    · exact hP _
    · exact nodes_all P hP bs _ t z hz
theorem nodes_step {bs : List Bool} {p : List L} {k : Nat} (x : L) (hk : k < bs.length) (hp : k < p.length) :
    nodes (bs.drop k) x (p.drop k) = (sum (ofs bs[k] x p[k]), ofs bs[k] x p[k]) :: nodes (bs.drop (k + 1)) (sum (ofs bs[k] x p[k])) (p.drop (k + 1)) := by
  rw [List.drop_eq_getElem_cons hk, List.drop_eq_getElem_cons hp, nodes]
/-- The last one's hash. -/
def last (x : L) (l : List (L × L)) : L := (l.getLast?.map (·.1)).getD x
theorem last_nil (x : L) : last x [] = x := rfl
theorem last_cons (x : L) (z : L × L) (l : List (L × L)) : last x (z :: l) = last z.1 l := by
  unfold last
  cases l with
  | nil => rfl
  | cons y l => simp [List.getLast?_cons_cons]; cases h : (y :: l).getLast? <;> simp_all
theorem last_snoc (x : L) (z : L × L) (l : List (L × L)) : last x (l ++ [z]) = z.1 := by simp [last]
theorem nd_ofs (b : Bool) (x h : L) : sum (ofs b x h) = if b then nd h x else nd x h := by
  unfold ofs nd
  cases b <;> rfl
theorem climb_nodes : ∀ (m n i : Nat) (x : L) (p : List L), p.length = (sides m n i).length → climb nd m n i x p = last x (nodes (sides m n i) x p)
  | 0, _, _, x, p, _ => by simp [climb, sides, nodes, last_nil]
  | m + 1, n, i, x, p, hp => by
    by_cases c : i % 2 = 1 ∨ i + 1 < n
    · rw [sides, if_pos c] at hp ⊢
      cases p with
      | nil => simp at hp
      | cons h t =>
        rw [climb_yes nd c, climb_nodes m _ _ _ _ (by simpa using hp), List.cons_append, List.nil_append, nodes, last_cons, nd_ofs]
        by_cases hi : i % 2 = 1 <;> simp [hi]
    · rw [sides, if_neg c] at hp ⊢
      rw [climb_no nd c, climb_nodes m _ _ _ _ (by simpa using hp), List.nil_append]
theorem climbN_nodes {n i : Nat} (x : L) {p : List L} (hp : p.length = longN n i) : climbN nd n i x p = last x (nodes (sidesN n i) x p) :=
  climb_nodes n n i x p (by rw [hp]; exact (sides_length n n i).symm)
theorem ofs_unlike (b : Bool) {x y h g : L} (hx : x.length = 32) (hy : y.length = 32) (hh : h.length = 32) (hg : g.length = 32) (hne : x ≠ y) : ofs b x h ≠ ofs b y g := by
  intro e
  unfold ofs at e
  have e' := (List.cons.inj e).2
  cases b
  · exact hne (List.append_inj_left e' (by rw [hx, hy]))
  · exact hne (List.append_inj_right e' (by rw [hh, hg]))
/-- Two runs that end in one hash, of unlike leaves: at the first level at which the hashes are one, what they are the sum of is not. -/
theorem meet : ∀ (bs : List Bool) (x y : L) (p q : List L), p.length = bs.length → q.length = bs.length → x.length = 32 → y.length = 32 → (∀ h ∈ p, h.length = 32) → (∀ h ∈ q, h.length = 32) → x ≠ y →
    last x (nodes bs x p) = last y (nodes bs y q) → ∃ (k : Nat) (a b : L × L), (nodes bs x p)[k]? = some a ∧ (nodes bs y q)[k]? = some b ∧ a.1 = b.1
  | [], x, y, p, q, _, _, _, _, _, _, hne, he => by
    rw [nodes, nodes, last_nil, last_nil] at he
    · exact absurd he hne
    all_goals (intros; contradiction)
  | b :: bs, x, y, [], q, hp, _, _, _, _, _, _, _ => by simp at hp
  | b :: bs, x, y, h :: t, [], _, hq, _, _, _, _, _, _ => by simp at hq
  | b :: bs, x, y, h :: t, g :: u, hp, hq, hx, hy, hp2, hq2, hne, he => by
    rw [nodes, nodes] at he ⊢
    by_cases e : sum (ofs b x h) = sum (ofs b y g)
    · exact ⟨0, _, _, rfl, rfl, e⟩
    · rw [last_cons, last_cons] at he
      obtain ⟨k, a, c, h1, h2, h3⟩ := meet bs (sum (ofs b x h)) (sum (ofs b y g)) t u (by simpa using hp) (by simpa using hq) (sum_length _) (sum_length _) (fun z hz => hp2 z (by simp [hz])) (fun z hz => hq2 z (by simp [hz])) e he
      exact ⟨k + 1, a, c, by simpa using h1, by simpa using h2, h3⟩
/-- The first level at which the hashes are one: they are the sums of unlike texts. -/
theorem first : ∀ (k : Nat) (bs : List Bool) (x y : L) (p q : List L) (a b : L × L), x.length = 32 → y.length = 32 → (∀ h ∈ p, h.length = 32) → (∀ h ∈ q, h.length = 32) → x ≠ y →
    (nodes bs x p)[k]? = some a → (nodes bs y q)[k]? = some b → (∀ j a b, j < k → (nodes bs x p)[j]? = some a → (nodes bs y q)[j]? = some b → a.1 ≠ b.1) → a.1 = b.1 → a.2 ≠ b.2 ∧ sum a.2 = sum b.2 ∧ a.2.length = 65 ∧ b.2.length = 65
  | k, [], x, y, p, q, a, b, _, _, _, _, _, ha, _, _, _ => by simp [nodes] at ha
  | k, c :: bs, x, y, [], q, a, b, _, _, _, _, _, ha, _, _, _ => by simp [nodes] at ha
  | k, c :: bs, x, y, h :: t, [], a, b, _, _, _, _, _, _, hb, _, _ => by simp [nodes] at hb
  | 0, c :: bs, x, y, h :: t, g :: u, a, b, hx, hy, hp, hq, hne, ha, hb, _, e => by
    rw [nodes] at ha hb
    simp at ha hb
    subst ha hb
    have h1 := hp h (by simp)
    have h2 := hq g (by simp)
    exact ⟨ofs_unlike c hx hy h1 h2 hne, e, ofs_length c hx h1, ofs_length c hy h2⟩
  | k + 1, c :: bs, x, y, h :: t, g :: u, a, b, hx, hy, hp, hq, hne, ha, hb, hall, e => by
    have h0 := hall 0 (sum (ofs c x h), ofs c x h) (sum (ofs c y g), ofs c y g) (by omega) (by rw [nodes]; rfl) (by rw [nodes]; rfl)
    rw [nodes] at ha hb
    refine first k bs (sum (ofs c x h)) (sum (ofs c y g)) t u a b (sum_length _) (sum_length _) (fun z hz => hp z (by simp [hz])) (fun z hz => hq z (by simp [hz])) h0 (by simpa using ha) (by simpa using hb) (fun j a' b' hj h1 h2 => ?_) e
    exact hall (j + 1) a' b' (by omega) (by rw [nodes]; simpa using h1) (by rw [nodes]; simpa using h2)
end Go.Proofs.YtdkcebaehdkphaaGreatDoor.MerQ
