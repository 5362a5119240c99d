/- A row that is collected from an iterator that keeps cells of its own: the box it lies in, an append to it. Over any program; no conditions but those that each lemma names. -/
import Derived.Test.YtcadfpaihfaabaaGreatDoorMerG
import Derived.Maps.OwnIn
import Derived.Maps.AppendAt
import Derived.RangeFuncBox
namespace Go.Proofs.YtcadfpaihfaabaaGreatDoor.MerA
open Go.RowKit MerG
/-- The blocks T have been laid. -/
def Low (T : Nat → Prop) (W : World) : Prop := ∀ b, T b → b < W.heap.size
theorem Low.turns {T T' : Nat → Prop} {A B : World} (h : Low T A) (ht : Turns T T' A B) : Low T' B := fun b hb => (ht.new b hb).elim (fun e => Nat.lt_of_lt_of_le (h b e) ht.size) (fun e => e.2)
theorem Low.kept {T K : Nat → Prop} {A B : World} (h : Low T A) (hk : Kept K A B) : Low T B := fun b hb => Nat.lt_of_lt_of_le (h b hb) hk.size
theorem abide_low {β : Type} {c : Bool} : Abide c (fun T (_ : β) W => Low T W) := fun _ _ _ _ _ hs ht _ => hs.turns ht
/-- The row of a slice that is owned, where its block lies as it lay. -/
theorem own_at {base size n : Nat} {e : TypeId} {A B : World} {v : Value} {xs : List Value} (h : A.ownsRow base e size v n xs) (hk : ∀ k, v.ownBlock = some k → B.heap[k]? = A.heap[k]?) : B.ownsRow base e size v n xs := by
  refine ⟨h.1, ?_⟩
  rcases h.2 with e0 | ⟨g, cap, cur, rfl, h1, h2, h3⟩
  · exact .inl e0
  · exact .inr ⟨g, cap, cur, rfl, h1, (hk g rfl).trans h2, h3⟩
/-- The box X holds a slice that owns xs; neither is the iterator's. -/
structure Col (n₀ : Nat) (w : World) (X : Nat) (t e : TypeId) (size : Nat) (T : Nat → Prop) (n : Nat) (xs : List Value) (v : Value) (W : World) : Prop where
  box : ¬ T X ∧ Boxed W X t v
  own : W.ownsRow n₀ e size v n xs
  out : ∀ k, v.ownBlock = some k → ¬ T k
  safe : MerG.Safe n₀ w T W
  low : Low T W
theorem Col.turns {n₀ : Nat} {w : World} {X : Nat} {t e : TypeId} {size : Nat} {T T' : Nat → Prop} {n : Nat} {xs : List Value} {v : Value} {A B : World} (h : Col n₀ w X t e size T n xs v A) (hn : n₀ ≤ w.heap.size) (ht : Turns T T' A B) : Col n₀ w X t e size T' n xs v B := by
  have hl := h.own.lt
  exact ⟨ht.heap h.box, own_at h.own (fun k hk => ht.block k (hl k hk).2 (h.out k hk)), fun k hk e1 => (ht.new k e1).elim (h.out k hk) (fun e2 => by have := hl k hk; omega), h.safe.turns hn ht, h.low.turns ht⟩
theorem Col.start {n₀ : Nat} {w W : World} {X : Nat} {t e : TypeId} {size : Nat} (hX : Boxed W X t (.slice none 0 0)) (hb : Below n₀ w W) : Col n₀ w X t e size Non 0 [] (.slice none 0 0) W :=
  ⟨⟨fun h => h, hX⟩, World.ownsRow_nil _ _ _ _, fun k hk => by simp [Value.ownBlock] at hk, ⟨fun b h => h.elim, hb⟩, fun b h => h.elim⟩
/-- A round of the collecting: what it lays first, what it appends, what it stores. -/
theorem Col.appended {n₀ : Nat} {w : World} {X : Nat} {t e : TypeId} {size : Nat} {T RO : Nat → Prop} {n m : Nat} {xs ys : List Value} {v v' : Value} {W A w1 : World}
    (h : Col n₀ w X t e size T n xs v W) (hte : t ≠ e) (hX : n₀ ≤ X) (hn : n₀ ≤ W.heap.size) (hRO : ∀ b, RO b → b < n₀) (hA : Below W.heap.size W A)
    (hown' : w1.ownsRow n₀ e size v' m ys) (hg : A.grownBy w1 v.ownBlock) (hat : v'.ownBlock = v.ownBlock ∨ v'.ownBlock = some A.heap.size) :
    Boxed w1 X t v ∧ Col n₀ w X t e size T m ys v' (w1.setCell ⟨X, 0, none⟩ v') ∧ Kept (fun b => T b ∨ RO b) W (w1.setCell ⟨X, 0, none⟩ v') := by
  have hbA : Boxed A X t v := (hA.block X h.box.2.lt).trans h.box.2
  have hoA : A.ownsRow n₀ e size v n xs := own_at h.own (fun k hk => hA.block k (h.own.lt k hk).2)
  have hb1 : Boxed w1 X t v := hbA.kept hg (hbA.not_row hte hoA)
  have hs := hA.size
  have hb2 : Below n₀ W (w1.setCell ⟨X, 0, none⟩ v') := ((hA.mono hn).grown hg (by omega) (fun k hk => (hoA.lt k hk).1)).setCell (p := ⟨X, 0, none⟩) hX v'
  have hsz : W.heap.size ≤ (w1.setCell ⟨X, 0, none⟩ v').heap.size := hb2.size
  refine ⟨hb1, ⟨⟨h.box.1, hb1.set v'⟩, hown'.kept (grownBy_setCell' w1 X v') (.inr (hb1.not_row hte hown').symm), ?_, ⟨h.safe.1, h.safe.2.trans hb2⟩, fun b hb => Nat.lt_of_lt_of_le (h.low b hb) hsz⟩, ⟨hsz, ?_⟩⟩
  · intro k hk hT
    rcases hat with e1 | e1
    · exact h.out k (e1 ▸ hk) hT
    · rw [e1] at hk
      cases hk
      have := h.low _ hT
      omega
  · intro b hb hTR
    have hbX : b ≠ X := fun e1 => hTR.elim (fun e2 => h.box.1 (e1 ▸ e2)) (fun e2 => by have := hRO b e2; omega)
    have hbo : some b ≠ v.ownBlock := fun e1 => hTR.elim (fun e2 => h.out b e1.symm e2) (fun e2 => by have := hRO b e2; have := (h.own.lt b e1.symm).1; omega)
    rw [Below.heap_setCell w1 ⟨X, 0, none⟩ v' b (fun e1 => hbX e1), hg.block b (by omega) hbo, hA.block b hb]
theorem Col.putObj {n₀ : Nat} {w : World} {X : Nat} {t e : TypeId} {size : Nat} {T : Nat → Prop} {n : Nat} {xs : List Value} {v : Value} {W : World} (h : Col n₀ w X t e size T n xs v W) (hn : n₀ ≤ w.heap.size) {l : Nat} (hl : T l) (o : Obj) : Col n₀ w X t e size T n xs v (W.putObj l o) :=
  h.turns hn (Turns.putObj hl o)
variable {P : Program} {F : Fence} {n : Nat}
/-- What an iterator that ranges over another one keeps while the inner one runs. T: the inner one's blocks; RI: what the inner one's rounds turn not; OB: boxes of its own. -/
def Pass {α : Type} (J : (Nat → Prop) → List α → World → Prop) (RO RI OB : Nat → Prop) (T : Nat → Prop) (pre : List α) (W : World) : Prop :=
  ∃ U : Nat → Prop, (∀ b, T b → U b) ∧ (∀ b, RI b → U b ∨ RO b) ∧ (∀ b, OB b → U b ∧ ¬ T b ∧ ¬ RI b ∧ b < W.heap.size) ∧ J U pre W
variable {α : Type} {J Jx : (Nat → Prop) → List α → World → Prop} {RO RI OB : Nat → Prop} {T T' : Nat → Prop} {pre : List α} {A B : World}
theorem Pass.turns (hJ : Abide false J) (h : Pass J RO RI OB T pre A) (ht : Turns T T' A B) : Pass J RO RI OB T' pre B := by
  obtain ⟨U, h1, h2, h3, h4⟩ := h
  refine ⟨fun b => U b ∨ T' b, fun b hb => .inr hb, fun b hb => MerG.either (h2 b hb) .inl id, fun b hb => ?_, hJ _ _ _ _ _ h4 ⟨ht.os, ht.tape, ht.output, ht.size, fun b hb hn => ht.block b hb (fun e => hn (h1 b e)), fun b hb => hb.elim .inl (fun e => MerG.either (ht.new b e) (h1 b) id)⟩ (.no _ _)⟩
  obtain ⟨a1, a2, a3, a4⟩ := h3 b hb
  exact ⟨.inl a1, fun e => (ht.new b e).elim a2 (fun e2 => by omega), a3, Nat.lt_of_lt_of_le a4 ht.size⟩
theorem Pass.own (hJ : Abide false J) (h : Pass J RO RI OB T pre A) (ht : Turns OB OB A B) : Pass J RO RI OB T pre B ∧ Kept (fun b => T b ∨ RI b) A B := by
  obtain ⟨U, h1, h2, h3, h4⟩ := h
  refine ⟨⟨U, h1, h2, fun b hb => ?_, hJ _ _ _ _ _ h4 ⟨ht.os, ht.tape, ht.output, ht.size, fun b hb hn => ht.block b hb (fun e => hn (h3 b e).1), fun _ hb => .inl hb⟩ (.no _ _)⟩, ⟨ht.size, fun b hb hTR => ht.block b hb (fun e => hTR.elim (h3 b e).2.1 (h3 b e).2.2.1)⟩⟩
  obtain ⟨a1, a2, a3, a4⟩ := h3 b hb
  exact ⟨a1, a2, a3, Nat.lt_of_lt_of_le a4 ht.size⟩
theorem Pass.last (h : Pass J RO RI OB T pre A) : ∃ U, J U pre A := by
  obtain ⟨U, _, _, _, h4⟩ := h
  exact ⟨U, h4⟩
theorem Pass.yield {l : Nat} {encs : α → Array Value} {G : (Nat → Prop) → List α → α → World → Prop} (h : Pass J RO RI OB T pre A)
    (hY : ∀ T pre x A, J T pre A → G (fun b => T b ∨ RO b) pre x A → YieldAt F n P l (encs x) A (MerG.Ends J Jx T RO (pre ++ [x]) A)) (x : α) (hg : ∀ K, G K pre x A) :
    YieldAt F n P l (encs x) A fun e W => ((e = .returned (.bool true) ∧ Pass J RO RI OB T (pre ++ [x]) W) ∨ (e = .returned (.bool false) ∧ Pass Jx RO RI OB T (pre ++ [x]) W)) ∧ Kept (fun b => (T b ∨ RI b) ∨ OB b) A W := by
  obtain ⟨U, h1, h2, h3, h4⟩ := h
  obtain ⟨fn, tmps, assign, body, hy, hR⟩ := hY U pre x A h4 (hg _)
  refine ⟨fn, tmps, assign, body, hy, hR.mono ?_⟩
  rintro e W ⟨he, hk⟩
  have h3' : ∀ b, OB b → U b ∧ ¬ T b ∧ ¬ RI b ∧ b < W.heap.size := fun b hb => ⟨(h3 b hb).1, (h3 b hb).2.1, (h3 b hb).2.2.1, Nat.lt_of_lt_of_le (h3 b hb).2.2.2 hk.size⟩
  refine ⟨MerG.either he (fun e1 => ⟨e1.1, U, h1, h2, h3', e1.2⟩) (fun e1 => ⟨e1.1, U, h1, h2, h3', e1.2⟩), hk.mono fun b hb => ?_⟩
  rcases hb with (hb | hb) | hb
  · exact .inl (h1 b hb)
  · exact h2 b hb
  · exact .inl (h3 b hb).1
end Go.Proofs.YtcadfpaihfaabaaGreatDoor.MerA
