/- The program's disk beside the document's, in one memory: what stays of the one while the other is called. No conditions but those that each lemma names. -/
import Derived.Test.YtofpflkkbkodaaaDkE
import Derived.Test.YtofpflkkbkodaaaDkO
namespace Go.Proofs.Ytofpflkkbkodaaa.DkD
open Go.RowKit
open DkN DkM DkC DkU DkL
/-- Both disks, and what has turned since w0, when their caches were cv and ru. -/
structure Now (w0 : World) (b : Nat) (bv cv : Value) (rb : Nat) (rv ru : Value) (w : World) (cv' ru' : Value) (D R : Dk) : Prop where
  d : Has false w b bv cv' D
  r : Has true w rb rv ru' R
  apart : ∀ k, Foot b bv cv' k → ¬ Foot rb rv ru' k
  nd : ∀ k, cv'.ownBlock = some k → cv.ownBlock = some k ∨ w0.heap.size ≤ k
  nr : ∀ k, ru'.ownBlock = some k → ru.ownBlock = some k ∨ w0.heap.size ≤ k
  kept : Kept (fun k => Foot b bv cv k ∨ Foot rb rv ru k) w0 w
variable {w0 w w' : World} {b rb : Nat} {bv cv cv' rv ru ru' : Value} {D D' R R' : Dk}
theorem Now.start (hd : Has false w b bv cv D) (hr : Has true w rb rv ru R) (ha : ∀ k, Foot b bv cv k → ¬ Foot rb rv ru k) : Now w b bv cv rb rv ru w cv ru D R :=
  ⟨hd, hr, ha, fun _ => .inl, fun _ => .inl, Kept.refl _ _⟩
theorem Now.step (h : Now w0 b bv cv rb rv ru w cv' ru' D R) (hb : Below w.heap.size w w') : Now w0 b bv cv rb rv ru w' cv' ru' D R :=
  ⟨h.d.step hb, h.r.step hb, h.apart, h.nd, h.nr, h.kept.step hb⟩
theorem Now.drew (h : Now w0 b bv cv rb rv ru w cv' ru' D R) : Now w0 b bv cv rb rv ru w.drew cv' ru' D R :=
  ⟨h.d.drew, h.r.drew, h.apart, h.nd, h.nr, h.kept.drew⟩
theorem Now.onD (h : Now w0 b bv cv rb rv ru w cv' ru' D R) (hd : Did false w b bv cv' D' w') : ∃ c, Now w0 b bv cv rb rv ru w' c ru' D' R := by
  obtain ⟨c, h1, n1, k1⟩ := hd
  have hs := h.kept.size
  refine ⟨c, h1, h.r.kept fun k hk => k1.block k (h.r.foot_lt k hk) fun f => h.apart k f hk, fun k hk hr => ?_, fun k hk => ?_, h.nr, h.kept.trans' k1 fun k hk => ?_⟩
  · rcases hk with rfl | hk | hk
    · exact h.apart _ (.inl rfl) hr
    · exact h.apart _ (.inr (.inl hk)) hr
    · rcases n1 k hk with h' | h'
      · exact h.apart _ (.inr (.inr h')) hr
      · have := h.r.foot_lt k hr; omega
  · rcases n1 k hk with h' | h'
    · exact h.nd k h'
    · exact .inr (by omega)
  · rcases hk with rfl | hk | hk
    · exact .inl (.inl (.inl rfl))
    · exact .inl (.inl (.inr (.inl hk)))
    · rcases h.nd k hk with h' | h'
      · exact .inl (.inl (.inr (.inr h')))
      · exact .inr h'
theorem Now.onR (h : Now w0 b bv cv rb rv ru w cv' ru' D R) (hd : Did true w rb rv ru' R' w') : ∃ c, Now w0 b bv cv rb rv ru w' cv' c D R' := by
  obtain ⟨c, h1, n1, k1⟩ := hd
  have hs := h.kept.size
  refine ⟨c, h.d.kept fun k hk => k1.block k (h.d.foot_lt k hk) fun f => h.apart k hk f, h1, fun k hk hr => ?_, h.nd, fun k hk => ?_, h.kept.trans' k1 fun k hk => ?_⟩
  · rcases hr with rfl | hr | hr
    · exact h.apart _ hk (.inl rfl)
    · exact h.apart _ hk (.inr (.inl hr))
    · rcases n1 k hr with h' | h'
      · exact h.apart _ hk (.inr (.inr h'))
      · have := h.d.foot_lt k hk; omega
  · rcases n1 k hk with h' | h'
    · exact h.nr k h'
    · exact .inr (by omega)
  · rcases hk with rfl | hk | hk
    · exact .inl (.inr (.inl rfl))
    · exact .inl (.inr (.inr (.inl hk)))
    · rcases h.nr k hk with h' | h'
      · exact .inl (.inr (.inr (.inr h')))
      · exact .inr h'
/-- An act's block is none of a disk's. -/
theorem not_foot {r : Bool} {A : Nat} {cs : Array Value} (h : Has r w b bv cv D) (hA : w.heap[A]? = some (.cells cs 33 (0, 0))) : ¬ Foot b bv cv A := by
  rintro (rfl | e | e)
  · have := hA.symm.trans h.head
    cases r <;> simp [headObj] at this
  · rcases h.rb.2 with ⟨rfl, _⟩ | ⟨g, cap, cur, rfl, _, hg, _⟩
    · cases e
    · have e' : g = A := by simpa [Value.ownBlock] using e
      subst e'
      have := hg.symm.trans hA
      simp at this
  · rcases h.rc.2 with ⟨rfl, _⟩ | ⟨g, cap, cur, rfl, _, hg, _⟩
    · cases e
    · have e' : g = A := by simpa [Value.ownBlock] using e
      subst e'
      have := hg.symm.trans hA
      simp at this
theorem did_block {r : Bool} {A : Nat} {cs : Array Value} (h : Has r w b bv cv D) (hd : Did r w b bv cv D' w') (hA : w.heap[A]? = some (.cells cs 33 (0, 0))) : w'.heap[A]? = some (.cells cs 33 (0, 0)) := by
  obtain ⟨c, h1, n1, k1⟩ := hd
  exact (k1.block A (Array.getElem?_eq_some_iff.1 hA).1 (not_foot h hA)).trans hA
theorem below_block {A : Nat} {cs : Array Value} {t : TypeId} (hb : Below w.heap.size w w') (hA : w.heap[A]? = some (.cells cs t (0, 0))) : w'.heap[A]? = some (.cells cs t (0, 0)) :=
  (hb.block A (Array.getElem?_eq_some_iff.1 hA).1).trans hA
/-- What an act leaves. -/
def DoesPost (w0 : World) (b : Nat) (bv cv : Value) (rb : Nat) (rv ru : Value) (D R D' R' : Dk) (e : Ending) (w' : World) : Prop :=
  ∃ x : Bool, e = .returned (.bool x) ∧ (Like D R → x = true) ∧ ∃ cv' ru', Now w0 b bv cv rb rv ru w' cv' ru' D' R'
/-- The act's cells. -/
def Six (w : World) (B : Nat) (kind at_ n : Int) (s : ByteArray) (raw : Bool) (v : Value) : Prop :=
  w.cell? ⟨B, 0, none⟩ = some (.int .i64 kind) ∧ w.cell? ⟨B, 1, none⟩ = some (.int .i64 at_) ∧ w.cell? ⟨B, 2, none⟩ = some (.int .i64 n) ∧ w.cell? ⟨B, 3, none⟩ = some (.string s) ∧ w.cell? ⟨B, 4, none⟩ = some (.bool raw) ∧ w.cell? ⟨B, 5, none⟩ = some v
theorem six_of {B : Nat} {kind at_ n : Int} {s : ByteArray} {raw : Bool} {v : Value} (h : w.heap[B]? = some (.cells #[.int .i64 kind, .int .i64 at_, .int .i64 n, .string s, .bool raw, v] 33 (0, 0))) : Six w B kind at_ n s raw v :=
  ⟨blk_cell h rfl, blk_cell h rfl, blk_cell h rfl, blk_cell h rfl, blk_cell h rfl, blk_cell h rfl⟩
theorem same_code {x y : Nat} (h : x = y) : ((x : Int) == (y : Int)) = true := by rw [beq_iff_eq, h]
end Go.Proofs.Ytofpflkkbkodaaa.DkD
