/- The program's disk beside a row of texts of the call's own; what boots, flushes and writes it. No conditions but those that each lemma names. -/
import Derived.Test.YtofpflkkbkodaaaDkP
namespace Go.Proofs.Ytofpflkkbkodaaa.DkH
open Go.RowKit
open DkN DkM DkA DkB DkU DkC DkD DkP
theorem boot_flush (D : Dk) : D.boot.flush = (0, D.boot) := by
  simp [Dk.flush, Dk.boot, Dk.tick, kset]
theorem actD_length (D : Dk) (a : DkN.Act) : (actD D a).bl.length = D.bl.length := by
  unfold actD
  split
  · unfold Dk.wr; split
    · rfl
    · split
      · split
        · rfl
        · split <;> rfl
      · rfl
  split
  · unfold Dk.flush; split
    · rfl
    · split
      · rfl
      · exact kset_length _ _ _ _
  split
  · unfold Dk.arm_; split
    · rfl
    · split <;> rfl
  split
  · exact kset_length _ _ _ _
  split
  · rfl
  split
  · unfold Dk.over; split
    · simp
    · rfl
  · rfl
theorem runD_length (f : RawAct → List Int) (D : Dk) (l : List RawAct) : (runD f D l).bl.length = D.bl.length := by
  unfold runD
  induction l generalizing D with
  | nil => rfl
  | cons x l ih => rw [List.foldl_cons, ih, actD_length]
theorem wr_zero {D : Dk} (hd : D.down = false) (ha : D.armed = 0) (i : Int) (s : ByteArray) (h : (D.wr i s).1 = 0) : (D.wr i s).2 = { D with ca := D.ca ++ [(i.toNat, s)] } ∧ 0 ≤ i ∧ i.toNat < D.bl.length := by
  unfold Dk.wr at h ⊢
  rw [if_neg (by rw [hd]; exact Bool.false_ne_true)] at h ⊢
  by_cases hn : D.no i s = 0
  · obtain ⟨h0, h1, _⟩ := no_zero hn
    rw [if_pos hn] at h ⊢
    by_cases hf : 4096 ≤ D.ca.length
    · rw [if_pos hf] at h; simp at h
    · rw [if_neg hf, if_neg (by omega)] at h ⊢
      refine ⟨?_, h0, h1⟩
      obtain ⟨x, y, z, f⟩ := D
      simp only at hd ha
      subst hd ha
      rfl
  · rw [if_neg hn] at h
    exact absurd h hn
theorem wr_not {D : Dk} (hd : D.down = false) (ha : D.armed = 0) (i : Int) (s : ByteArray) (h : (D.wr i s).1 ≠ 0) : (D.wr i s).2 = D := by
  unfold Dk.wr at h ⊢
  rw [if_neg (by rw [hd]; exact Bool.false_ne_true)] at h ⊢
  by_cases hn : D.no i s = 0
  · rw [if_pos hn] at h ⊢
    by_cases hf : 4096 ≤ D.ca.length
    · rw [if_pos hf]
    · rw [if_neg hf, if_neg (by omega)] at h
      exact absurd rfl h
  · rw [if_neg hn]
/-- The disk, and the row. -/
structure Hold (w0 w : World) (b : Nat) (bv cv : Value) (D : Dk) (g wn wc : Nat) (wl : List ByteArray) : Prop where
  s : Solo false w0 w b bv cv D
  own : w.ownsRow w0.heap.size 9 1 (.slice (some ⟨g, 0, none⟩) wn wc) wn (wl.map Value.string)
  apart : ¬ Foot b bv cv g
variable {w0 w w' : World} {b g wn wc : Nat} {bv cv : Value} {D D' : Dk} {wl : List ByteArray}
theorem Hold.lt (h : Hold w0 w b bv cv D g wn wc wl) : w0.heap.size ≤ g ∧ g < w.heap.size := h.own.lt g rfl
theorem Hold.len (h : Hold w0 w b bv cv D g wn wc wl) : wl.length = wn := by have := h.own.1; simpa using this
theorem Hold.step (h : Hold w0 w b bv cv D g wn wc wl) (hb : Below w.heap.size w w') : Hold w0 w' b bv cv D g wn wc wl :=
  ⟨h.s.step hb, own_kept h.own fun k e => hb.block k (h.own.lt k e).2, h.apart⟩
theorem Hold.drew (h : Hold w0 w b bv cv D g wn wc wl) : Hold w0 w.drew b bv cv D g wn wc wl := ⟨⟨h.s.has.drew, h.s.below.drew, h.s.foot⟩, h.own, h.apart⟩
theorem Hold.did (h : Hold w0 w b bv cv D g wn wc wl) (hd : Did false w b bv cv D' w') : ∃ c, Hold w0 w' b bv c D' g wn wc wl := by
  have hg := h.lt.2
  obtain ⟨c, h1, n1, k1⟩ := hd
  have hs := h.s.below.size
  refine ⟨c, ⟨h1, h.s.below.trans (k1.below h.s.foot hs), fun k hk => ?_⟩, own_kept h.own fun k e => ?_, fun hk => ?_⟩
  · rcases hk with rfl | hk | hk
    · exact h.s.foot _ (.inl rfl)
    · exact h.s.foot _ (.inr (.inl hk))
    · rcases n1 k hk with h' | h'
      · exact h.s.foot _ (.inr (.inr h'))
      · omega
  · have e' : g = k := by simpa [Value.ownBlock] using e
    subst e'
    exact k1.block g hg h.apart
  · rcases hk with rfl | hk | hk
    · exact h.apart (.inl rfl)
    · exact h.apart (.inr (.inl hk))
    · rcases n1 g hk with h' | h'
      · exact h.apart (.inr (.inr h'))
      · omega
theorem Hold.set_ (h : Hold w0 w b bv cv D g wn wc wl) (i : Nat) (s : ByteArray) : Hold w0 (w.setCell ⟨g, i, none⟩ (.string s)) b bv cv D g wn wc (wl.set i s) := by
  have hne : ∀ k, Foot b bv cv k → k ≠ g := fun k hk e => h.apart (e ▸ hk)
  refine ⟨⟨h.s.has.kept fun k hk => set_cell_block (hne k hk), h.s.below.setCell (p := ⟨g, i, none⟩) h.lt.1 _, h.s.foot⟩, ?_, h.apart⟩
  rw [strs_set]
  exact own_set_at h.own i _
theorem Hold.cell (h : Hold w0 w b bv cv D g wn wc wl) (i : Nat) (hi : i < wl.length) : w.cell? ⟨g, i, none⟩ = some (.string wl[i]) := by
  have := h.own.cells (g := g) rfl i (.string wl[i]) (by simp [hi])
  rwa [add_off, Nat.zero_add] at this
theorem Hold.free (h : Hold w0 w b bv cv D g wn wc wl) (i : Nat) : w.frozen? ⟨g, i, none⟩ = false := by
  rcases h.own.2 with ⟨h0, _⟩ | ⟨g', cap, cur, hv, _, hg, _⟩
  · cases h0
  · cases hv; exact blk_free hg
theorem Hold.ne_act (h : Hold w0 w b bv cv D g wn wc wl) {A : Nat} {cs : Array Value} (hA : w.heap[A]? = some (.cells cs 33 (0, 0))) : A ≠ g := by
  intro e
  subst e
  rcases h.own.2 with ⟨h0, _⟩ | ⟨g', cap, cur, hv, _, hg, _⟩
  · cases h0
  · cases hv
    have := hg.symm.trans hA
    simp at this
end Go.Proofs.Ytofpflkkbkodaaa.DkH
