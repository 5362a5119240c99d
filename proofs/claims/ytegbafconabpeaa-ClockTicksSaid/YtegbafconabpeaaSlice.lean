/- Small facts on slices of integers and on rows that a call owns. No conditions but those that each lemma names. -/
import Derived.Test.YtegbafconabpeaaMem
import Derived.Lib.AppendStr
import Derived.OpenShut
namespace Go.Proofs.Ytegbafconabpeaa
open Go.RowKit
/-- A slice of integers as it came in: nil, or a row of cells (as the row's own reading gives it). -/
def IntsAt (k : IntKind) (w : World) (a : Option Addr) (len cap : Nat) (zs : List Int) : Prop :=
  (a = none ∧ len = 0 ∧ cap = 0 ∧ zs = []) ∨
  ∃ x, a = some x ∧ len ≤ cap ∧ cap ≤ maxLen ∧ zs.length = cap ∧ (∀ i, i < zs.length → w.cell? (x.add i) = some (.int k (zs.getD i 0))) ∧ ∀ n ∈ zs, (Lit.int k n).wf = true
/-- The slice value '.slice a n _' reads as the ints 'l', below block 'B'. -/
def Row (w : World) (B : Nat) (a : Option Addr) (n : Nat) (l : List Int) : Prop :=
  l.length = n ∧ (0 < n → ∃ b off, a = some ⟨b, off, none⟩ ∧ b < B ∧ ∀ i, i < n → w.cell? ⟨b, off + i, none⟩ = some (.int .i64 (l.getD i 0)))
theorem Row.keep {w w' : World} {B : Nat} {a : Option Addr} {n : Nat} {l : List Int} (h : Row w B a n l) (hk : ∀ k, k < B → w'.heap[k]? = w.heap[k]?) : Row w' B a n l :=
  ⟨h.1, fun hn => by
    obtain ⟨b, off, e, hb, hc⟩ := h.2 hn
    exact ⟨b, off, e, hb, fun i hi => (World.cell?_of_block (w := w) (w' := w') (hk b hb)).trans (hc i hi)⟩⟩
theorem Row.below {w w' : World} {B : Nat} {a : Option Addr} {n : Nat} {l : List Int} (h : Row w B a n l) (hb : Below B w w') : Row w' B a n l := h.keep hb.block
theorem Row.more {w : World} {B B' : Nat} {a : Option Addr} {n : Nat} {l : List Int} (h : Row w B a n l) (hb : B ≤ B') : Row w B' a n l :=
  ⟨h.1, fun hn => by
    obtain ⟨b, off, e, hb', hc⟩ := h.2 hn
    exact ⟨b, off, e, by omega, hc⟩⟩
/-- A number that a Go int holds. -/
def IsInt (n : Int) : Prop := -9223372036854775808 ≤ n ∧ n ≤ 9223372036854775807
theorem row_of {w : World} {a : Option Addr} {len cap : Nat} {zs : List Int} (h : IntsAt .i64 w a len cap zs) (hlt : ∀ b off, a = some ⟨b, off, none⟩ → 0 < len → b < w.heap.size) :
    ∃ l, Row w w.heap.size a len l ∧ ∀ n ∈ l, IsInt n := by
  rcases h with ⟨rfl, rfl, rfl, rfl⟩ | ⟨x, rfl, hl, _, hz, hc, hw⟩
  · exact ⟨[], ⟨rfl, fun h => absurd h (by omega)⟩, fun n hn => by simp at hn⟩
  · refine ⟨zs.take len, ⟨by simp; omega, fun hn => ?_⟩, fun n hn => bounds_i64 (hw n (List.mem_of_mem_take hn))⟩
    obtain ⟨b, off, rfl, hc'⟩ := ints_at hc (by omega)
    refine ⟨b, off, rfl, hlt b off rfl hn, fun i hi => ?_⟩
    rw [hc' i (by omega)]
    simp [List.getD, hi]
theorem row_at {w : World} {a : Option Addr} {len cap : Nat} {zs : List Int} (h : IntsAt .i64 w a len cap zs) : ∃ l, Row w w.heap.size a len l ∧ ∀ n ∈ l, IsInt n := by
  refine row_of h fun b off e hn => ?_
  rcases h with ⟨rfl, rfl, rfl, rfl⟩ | ⟨x, rfl, hl, _, hz, hc, hw⟩
  · omega
  · injection e with e
    subst e
    have := hc 0 (by omega)
    exact World.block_lt_of_cell? w _ (by simpa [Addr.add] using this)
theorem getD_isInt {l : List Int} (h : ∀ n ∈ l, IsInt n) (i : Nat) : IsInt (l.getD i 0) := by
  rw [List.getD]
  cases hx : l[i]? with
  | none => exact ⟨by simp, by simp⟩
  | some x => exact h x (List.mem_of_getElem? hx)
/-- What a call owns stays where another block is written. -/
theorem own_set {w : World} {base : Nat} {e : TypeId} {size : Nat} {v : Value} {n : Nat} {xs : List Value} (h : w.ownsRow base e size v n xs) {g i : Nat} (hg : g < base) (u : Value) :
    (w.setCell ⟨g, i, none⟩ u).ownsRow base e size v n xs := ownsRow_setCell_below h hg u
theorem own_slice {w : World} {base : Nat} {e : TypeId} {size : Nat} {v : Value} {n : Nat} {xs : List Value} (h : w.ownsRow base e size v n xs) : ∃ a l c, v = .slice a l c := by
  rcases h.2 with ⟨rfl, _⟩ | ⟨g, cap, cur, rfl, _⟩
  · exact ⟨_, _, _, rfl⟩
  · exact ⟨_, _, _, rfl⟩
/-- Text of an owned row of bytes. -/
theorem conv_own {P : Program} {w : World} {src dst e : TypeId} (hs : P.underlying src = some (.slice e)) (he : P.underlying e = some (.int .u8)) (hd : P.underlying dst = some .string)
    {base n : Nat} {v : Value} {l : List UInt8} (h : w.ownsRow base e 1 v n (Lib.strCells ⟨l.toArray⟩)) :
    (convert src dst v).run P w = .ok (.string ⟨l.toArray⟩) w := by
  have hl : l.length = n := by have := h.1; rw [Lib.strCells_length, Nat.mul_one] at this; exact this
  rcases h.2 with ⟨rfl, h0⟩ | ⟨g, cap, cur, rfl, _, hg, hnc, _, hcs, ht⟩
  · have : l = [] := List.eq_nil_of_length_eq_zero (by omega)
    subst this
    exact run_convert_bytes_nil w src e hs he 0 0 dst hd
  · rw [← nums_bytes]
    refine run_convert_bytes_arg w src e hs he g 0 n cap (l.map fun b => (b.toNat : Int)) (by simpa using hl) (fun i hi => ?_) dst hd
    have hc := h.cells (g := g) rfl i (.int .u8 (l[i]'(by omega)).toNat) (by simp [Lib.strCells, show i < l.length from by omega])
    have ha : (⟨g, 0, none⟩ : Addr).add i = ⟨g, 0 + i, none⟩ := by unfold Addr.add; split <;> simp_all
    rw [ha] at hc
    rw [hc]
    simp [List.getD, show i < l.length from by omega]
/-- An owned row of ints reads as they. -/
theorem row_own {w : World} {base : Nat} {e : TypeId} {a : Option Addr} {n cap : Nat} {l : List Int} (h : w.ownsRow base e 1 (.slice a n cap) n (l.map (Value.int .i64))) : Row w w.heap.size a n l := by
  have hl : l.length = n := by have := h.1; simpa using this
  refine ⟨hl, fun hn => ?_⟩
  rcases h.2 with ⟨hv, h0⟩ | ⟨g, c, cur, hv, _, hg, _⟩
  · omega
  · injection hv with hv
    subst hv
    refine ⟨g, 0, rfl, (Array.getElem?_eq_some_iff.1 hg).1, fun i hi => ?_⟩
    have hc := h.cells (g := g) rfl i (.int .i64 (l[i]'(by omega))) (by simp [show i < l.length from by omega])
    have ha : (⟨g, 0, none⟩ : Addr).add i = ⟨g, 0 + i, none⟩ := by unfold Addr.add; split <;> simp_all
    rw [ha] at hc
    rw [hc]
    simp [List.getD, show i < l.length from by omega]
end Go.Proofs.Ytegbafconabpeaa
