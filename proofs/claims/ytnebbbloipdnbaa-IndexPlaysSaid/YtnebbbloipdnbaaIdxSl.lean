/- Taking the least one out again and again: mathematics; and an append within one row, in its place. No conditions but those that each lemma names. -/
import Derived.Test.YtnebbbloipdnbaaIdxZ
namespace Go.Proofs.Ytnebbbloipdnbaa.IdxSl
open Go.RowKit
open IdxN IdxM IdxC IdxD IdxH IdxI IdxK IdxJ IdxW IdxQ IdxE IdxZ
/-- What was taken out, and what is left. -/
structure Sel (l L O : List V) : Prop where
  s : Sorted O
  ab : ∀ a ∈ O, ∀ b ∈ L, Lt a b
  nd : L.Nodup
  mem : ∀ v, v ∈ l ↔ v ∈ O ∨ v ∈ L
  len : O.length + L.length = l.length
theorem Sel.first {l : List V} (h : l.Nodup) : Sel l l [] := ⟨Sorted.nil, fun a h => by simp at h, h, fun v => by simp, by simp⟩
def less_ (L : List V) (k : Nat) : List V := L.take k ++ L.drop (k + 1)
theorem less_length {L : List V} {k : Nat} (h : k < L.length) : (less_ L k).length + 1 = L.length := by unfold less_; simp; omega
theorem mem_less {L : List V} {k : Nat} (h : k < L.length) (v : V) : v ∈ L ↔ v = L[k] ∨ v ∈ less_ L k := by
  have e : L = L.take k ++ L[k] :: L.drop (k + 1) := by rw [← List.drop_eq_getElem_cons h, List.take_append_drop]
  have : v ∈ L ↔ v ∈ L.take k ++ L[k] :: L.drop (k + 1) := by rw [← e]
  rw [this]
  unfold less_
  rw [List.mem_append, List.mem_append, List.mem_cons]
  constructor
  · rintro (h | h | h)
    · exact .inr (.inl h)
    · exact .inl h
    · exact .inr (.inr h)
  · rintro (h | h | h)
    · exact .inr (.inl h)
    · exact .inl h
    · exact .inr (.inr h)
theorem nd_less {L : List V} (hn : L.Nodup) {k : Nat} (h : k < L.length) : (less_ L k).Nodup ∧ ¬ L[k] ∈ less_ L k := by
  have e : L = L.take k ++ L[k] :: L.drop (k + 1) := by rw [← List.drop_eq_getElem_cons h, List.take_append_drop]
  have hn' : (L.take k ++ L[k] :: L.drop (k + 1)).Nodup := by rw [← e]; exact hn
  rw [List.nodup_append, List.nodup_cons] at hn'
  obtain ⟨h1, ⟨h2, h3⟩, h4⟩ := hn'
  unfold less_
  refine ⟨List.nodup_append.2 ⟨h1, h3, fun a ha b hb => h4 a ha b (List.mem_cons_of_mem _ hb)⟩, fun hm => ?_⟩
  rw [List.mem_append] at hm
  rcases hm with hm | hm
  · exact h4 _ hm _ List.mem_cons_self rfl
  · exact h2 hm
theorem Sel.next {l L O : List V} (h : Sel l L O) {k : Nat} (hk : k < L.length) (hmin : ∀ t (ht : t < L.length), ¬ Lt L[t] L[k]) : Sel l (less_ L k) (O ++ [L[k]]) := by
  obtain ⟨hn, hno⟩ := nd_less h.nd hk
  have hb : ∀ b ∈ less_ L k, Lt L[k] b := fun b hb => by
    have hbL := (mem_less hk b).2 (.inr hb)
    obtain ⟨t, ht, rfl⟩ := List.getElem_of_mem hbL
    rcases Lt.three L[k] L[t] with h1 | h1 | h1
    · exact h1
    · exact absurd (h1 ▸ hb) hno
    · exact absurd h1 (hmin t ht)
  refine ⟨?_, ?_, hn, ?_, ?_⟩
  · unfold Sorted
    rw [List.pairwise_append]
    refine ⟨h.s, List.pairwise_singleton _ _, fun a ha b hb => ?_⟩
    rw [List.mem_singleton] at hb
    subst hb
    exact h.ab a ha _ (List.getElem_mem _)
  · intro a ha b hb'
    rw [List.mem_append, List.mem_singleton] at ha
    rcases ha with ha | rfl
    · exact h.ab a ha b ((mem_less hk b).2 (.inr hb'))
    · exact hb b hb'
  · intro v
    rw [h.mem v, mem_less hk v, List.mem_append, List.mem_singleton, or_assoc]
  · have := less_length hk
    have := h.len
    rw [List.length_append]
    simp only [List.length_cons, List.length_nil]
    omega
theorem Sel.last {r l O : List V} (h : Sel l [] O) (hr : Rel r l) : O = r := same h.s hr.s fun v => by rw [hr.mem v, h.mem v]; simp
/-- The least one so far. -/
theorem least_next {L : List V} {k i : Nat} (hk : k < L.length) (hi : i < L.length) (h : ∀ t (ht : t < L.length), t < i → ¬ Lt L[t] L[k]) :
    (lt L[i] L[k] = true → ∀ t (ht : t < L.length), t < i + 1 → ¬ Lt L[t] L[i]) ∧ (lt L[i] L[k] = false → ∀ t (ht : t < L.length), t < i + 1 → ¬ Lt L[t] L[k]) := by
  constructor
  · intro hl t ht hti hlt
    have hik : Lt L[i] L[k] := of_decide_eq_true hl
    by_cases e : t = i
    · subst e; exact Lt.irr _ hlt
    · exact h t ht (by omega) (hlt.trans hik)
  · intro hl t ht hti hlt
    by_cases e : t = i
    · subst e; exact of_decide_eq_false hl hlt
    · exact h t ht (by omega) hlt
/-- The least one of the first ones. -/
def Least (L : List V) (k i : Nat) : Prop := ∃ hk : k < L.length, ∀ t (ht : t < L.length), t < i → ¬ Lt L[t] L[k]
theorem Least.first {L : List V} (h : 0 < L.length) : Least L 0 1 := ⟨h, fun t ht h1 => by
  obtain rfl : t = 0 := by omega
  exact Lt.irr _⟩
theorem Least.next {L : List V} {k i : Nat} (h : Least L k i) (hk : k < L.length) (hi : i < L.length) : (lt L[i] L[k] = true → Least L i (i + 1)) ∧ (lt L[i] L[k] = false → Least L k (i + 1)) := by
  obtain ⟨_, hm⟩ := h
  have hn := least_next hk hi hm
  exact ⟨fun e => ⟨hi, hn.1 e⟩, fun e => ⟨hk, hn.2 e⟩⟩
theorem Sel.take {l L O : List V} (h : Sel l L O) {k : Nat} (hm : Least L k L.length) (hk : k < L.length) : Sel l (less_ L k) (O ++ [L[k]]) := by
  obtain ⟨_, hmin⟩ := hm
  exact h.next hk fun t ht => hmin t ht ht
/-- append of what stands behind a place onto what stands ahead of it, in one row. -/
theorem run_cut (w : World) (ty : TypeId) (base g n cap k : Nat) (L : List V) (hL : L.length = n) (hk : k < n) (hown : w.ownsRow base 27 3 (.slice (some ⟨g, 0, none⟩) n cap) n (rc L)) (ad : Addr) (c' : Nat) (had : k + 1 < n → ad = ⟨g, (k + 1) * 3, none⟩) :
    ∃ w', (Builtin.append_ #[22, 22] ty #[.slice (some ⟨g, 0, none⟩) k cap, .slice (some ad) (n - (k + 1)) c']).run Try.prog w = .ok (.slice (some ⟨g, 0, none⟩) (n - 1) cap) w' ∧
      w'.ownsRow base 27 3 (.slice (some ⟨g, 0, none⟩) (n - 1) cap) (n - 1) (rc (less_ L k)) ∧ w.grownBy w' (some g) := by
  obtain ⟨i0, hi, hz0, hz1, hz2⟩ := info_parts info_ver
  rcases hown.2 with ⟨e, _⟩ | ⟨g', cap', cur, e, hb, hg, hc, hc2, hcur, ht⟩
  · cases e
  · cases e
    have e1 : (rc (L.drop (k + 1))).length = (n - (k + 1)) * 3 := by rw [rc_length, List.length_drop, hL]
    have hr := run_append_room (P := Try.prog) w 22 ty 27 i0 Try.underlying22 hi g k cap cur hg ad (n - (k + 1)) c' (rc (L.drop (k + 1))) (by rw [hz1]; exact e1) (fun j u hj => by
        have hlt : k + 1 < n := by
          have := (List.getElem?_eq_some_iff.1 hj).1
          rw [e1] at this
          omega
        rw [had hlt, add_off]
        rw [rc_drop, List.getElem?_drop] at hj
        have := hown.cells (g := g) rfl _ u hj
        rwa [add_off, Nat.zero_add] at this) (rc_one _) (by omega) (by rw [hz1, e1, hcur]; omega)
    rw [show k + (n - (k + 1)) = n - 1 by omega, hz1] at hr
    have hlen : (less_ L k).length = n - 1 := by have := less_length (L := L) (k := k) (by omega); omega
    refine ⟨_, hr, ⟨by rw [rc_length, hlen], .inr ⟨g, cap, _, rfl, hb, setRow_same hg, by omega, hc2, ?_, ?_⟩⟩, ⟨rfl, rfl, rfl, by simp, fun j hj hn => setRow_far (fun e => hn (by rw [e]))⟩⟩
    · simp only [List.size_toArray, List.length_append, List.length_take, List.length_drop, e1, Array.length_toList, hcur]
      omega
    · rw [List.toList_toArray]
      have e2 : cur.toList.take (k * 3) = rc (L.take k) := by rw [rc_take, ← ht, List.take_take, Nat.min_eq_left (by omega)]
      rw [e2, show rc (less_ L k) = rc (L.take k) ++ rc (L.drop (k + 1)) from rc_append _ _]
      refine List.take_left' ?_
      rw [List.length_append, rc_length, List.length_take, e1]
      omega
end Go.Proofs.Ytnebbbloipdnbaa.IdxSl
