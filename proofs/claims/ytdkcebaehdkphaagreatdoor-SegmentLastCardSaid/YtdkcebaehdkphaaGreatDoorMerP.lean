/- Trees of hashes: a path as it comes level by level; the nodes as they come; the half's number; what doubles. Mathematics alone; no conditions but those that each lemma names. -/
import Derived.Test.YtdkcebaehdkphaaGreatDoorMerC
namespace Go.Proofs.YtdkcebaehdkphaaGreatDoor.MerP
open MerN MerM MerQ MerC
theorem lvl_succ (k : Nat) (l : List L) : lvl nd (k + 1) l = lift nd (lvl nd k l) := (lift_lvl nd k l).symm
theorem path_snoc : ∀ (k : Nat) (l : List L) (i : Nat), path nd (k + 1) l i = path nd k l i ++ sib (lvl nd k l) (i / 2 ^ k)
  | 0, l, i => by simp [path, lvl]
  | k + 1, l, i => by
    rw [path, path_snoc k (lift nd l) (i / 2), ← List.append_assoc, ← path]
    show _ = _ ++ sib (lvl nd k (lift nd l)) _
    rw [Nat.div_div_eq_div_mul, Nat.pow_succ, Nat.mul_comm 2]
theorem lvl_lt : ∀ (k : Nat) (l : List L) (i : Nat), i < l.length → i / 2 ^ k < (lvl nd k l).length
  | 0, l, i, h => by simpa [lvl] using h
  | k + 1, l, i, h => by
    have hl := lift_length nd l
    have := lvl_lt k (lift nd l) (i / 2) (by omega)
    rw [Nat.div_div_eq_div_mul, Nat.mul_comm 2, ← Nat.pow_succ] at this
    exact this
theorem lvl_few : ∀ (k : Nat) (l : List L), (lvl nd k l).length ≤ 1 → l.length ≤ 2 ^ k
  | 0, l, h => by simpa [lvl] using h
  | k + 1, l, h => by
    have hl := lift_length nd l
    have := lvl_few k (lift nd l) h
    rw [Nat.pow_succ]
    omega
theorem path_pre (k : Nat) (l : List L) (i : Nat) : ∀ j, path nd k l i <+: path nd (k + j) l i
  | 0 => List.prefix_refl _
  | j + 1 => by
    rw [← Nat.add_assoc, path_snoc]
    exact (path_pre k l i j).trans (List.prefix_append _ _)
theorem path_pathN {l : List L} {i : Nat} (hi : i < l.length) (k : Nat) : path nd k l i <+: pathN nd l i := by
  have hp := lt_pow l.length
  rw [← pathN_any nd (m := k + l.length) hi (Nat.le_trans hp (Nat.pow_le_pow_right (by omega) (by omega)))]
  exact path_pre k l i l.length
theorem path_end {l : List L} {i k : Nat} (hi : i < l.length) (h : (lvl nd k l).length ≤ 1) : path nd (k + 1) l i = pathN nd l i :=
  pathN_any nd hi (Nat.le_trans (lvl_few k l h) (Nat.pow_le_pow_right (by omega) (by omega)))
theorem sib_oth (l : List L) (a : Nat) (h : a < l.length) : sib l a = if oth a < l.length then [l.getD (oth a) []] else [] := by
  unfold sib oth
  by_cases h1 : a % 2 = 1
  · rw [if_pos h1, if_pos h1, if_pos (by omega), List.getElem?_eq_getElem (by omega), getD_at _ _ (by omega)]
    rfl
  · rw [if_neg h1, if_neg h1]
    by_cases h2 : a + 1 < l.length
    · rw [if_pos h2, List.getElem?_eq_getElem h2, getD_at _ _ h2]; rfl
    · rw [if_neg h2, List.getElem?_eq_none (by omega)]; rfl
theorem strs_kept {K : Nat → Prop} {w w' : World} {B : Nat} {a : Option Addr} {n : Nat} {ls : List L} (h : SSum.Strs w B a n ls) (hk : MerG.Kept K w w') (hK : ∀ b, b < B → K b) : SSum.Strs w' B a n ls :=
  ⟨h.1, fun hn => by
    obtain ⟨b, off, e, hb, hc⟩ := h.2 hn
    exact ⟨b, off, e, hb, fun i hi => hk.cell (p := ⟨b, off + i, none⟩) (hc i hi) (hK b hb)⟩⟩
/-- What comes of one more. -/
theorem nodes_snoc : ∀ (bs : List Bool) (b : Bool) (x : L) (p : List L), bs.length < p.length →
    nodes (bs ++ [b]) x p = nodes bs x p ++ [(sum (ofs b (last x (nodes bs x p)) (p.getD bs.length [])), ofs b (last x (nodes bs x p)) (p.getD bs.length []))]
  | [], b, x, [], h => by simp at h
  | [], b, x, h :: t, _ => by simp [nodes, last_nil]
  | c :: bs, b, x, [], h => by simp at h
  | c :: bs, b, x, h :: t, hl => by
    rw [List.cons_append, nodes, nodes_snoc bs b _ t (by simpa using hl), nodes, last_cons]
    simp
theorem nodes_pre : ∀ (bs cs : List Bool) (x : L) (p : List L), bs <+: cs → nodes bs x p <+: nodes cs x p
  | [], cs, x, p, _ => by rw [show nodes [] x p = [] by cases p <;> simp [nodes]]; exact List.nil_prefix
  | b :: bs, cs, x, [], _ => by rw [show nodes (b :: bs) x [] = [] by simp [nodes]]; exact List.nil_prefix
  | b :: bs, [], x, h :: t, hp => by simp at hp
  | b :: bs, c :: cs, x, h :: t, hp => by
    rw [List.cons_prefix_cons] at hp
    obtain ⟨rfl, hp⟩ := hp
    rw [nodes, nodes, List.cons_prefix_cons]
    exact ⟨rfl, nodes_pre bs cs _ t hp⟩
theorem nodes_len (bs : List Bool) : ∀ (x : L) (p : List L), bs.length ≤ p.length → (nodes bs x p).length = bs.length := by
  induction bs with
  | nil => intro x p _; cases p <;> simp [nodes]
  | cons b bs ih =>
    intro x p h
    cases p with
    | nil => simp at h
    | cons y t => rw [nodes, List.length_cons, ih _ t (by simpa using h), List.length_cons]
theorem last_length {x : L} (hx : x.length = 32) (bs : List Bool) (p : List L) : (last x (nodes bs x p)).length = 32 := by
  unfold last
  cases h : (nodes bs x p).getLast? with
  | none => simpa using hx
  | some z =>
    have := nodes_all (fun z => z.1.length = 32) (fun o => sum_length o) bs x p z (List.mem_of_getLast? h)
    simpa using this
/-- The greatest power of 2 that is less. -/
theorem half_is {n j : Nat} (h0 : 2 ^ j < n) (h1 : n ≤ 2 * 2 ^ j) : MerN.half n = 2 ^ j := by
  unfold MerN.half
  congr 1
  rw [Nat.log2_eq_iff (by have := Nat.two_pow_pos j; omega)]
  rw [Nat.pow_succ]
  omega
end Go.Proofs.YtdkcebaehdkphaaGreatDoor.MerP
