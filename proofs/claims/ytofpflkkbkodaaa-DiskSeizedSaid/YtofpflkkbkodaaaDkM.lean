/- A disk in memory, the program's (r = false) and the document's (r = true): a block with its fields, a row of blocks, a row of writes; what stays where something else is written. No conditions but those that each lemma names. -/
import Derived.Test.YtofpflkkbkodaaaDkN
import Derived.Test.YtofpflkkbkodaaaSlice
import Derived.Test.YtofpflkkbkodaaaRows
namespace Go.Proofs.Ytofpflkkbkodaaa.DkM
open Go.RowKit
open DkN
/-- The cells of a row of writes. -/
def putCells : List (Nat × ByteArray) → List Value
  | [] => []
  | x :: r => Value.int .i64 x.1 :: Value.string x.2 :: putCells r
theorem putCells_append (l m : List (Nat × ByteArray)) : putCells (l ++ m) = putCells l ++ putCells m := by
  induction l with
  | nil => rfl
  | cons x l ih => simp [putCells, ih]
theorem putCells_length (l : List (Nat × ByteArray)) : (putCells l).length = l.length * 2 := by
  induction l with
  | nil => rfl
  | cons x l ih => simp only [putCells, List.length_cons, ih]; omega
theorem putCells_0 (l : List (Nat × ByteArray)) (k : Nat) (h : k < l.length) : (putCells l)[k * 2]? = some (.int .i64 l[k].1) := by
  induction l generalizing k with
  | nil => simp at h
  | cons x l ih =>
    match k with
    | 0 => rfl
    | k + 1 =>
      rw [show (k + 1) * 2 = k * 2 + 1 + 1 from by omega, putCells, List.getElem?_cons_succ, List.getElem?_cons_succ]
      simpa using ih k (by simpa using h)
theorem putCells_1 (l : List (Nat × ByteArray)) (k : Nat) (h : k < l.length) : (putCells l)[k * 2 + 1]? = some (.string l[k].2) := by
  induction l generalizing k with
  | nil => simp at h
  | cons x l ih =>
    match k with
    | 0 => rfl
    | k + 1 =>
      rw [show (k + 1) * 2 + 1 = k * 2 + 1 + 1 + 1 from by omega, putCells, List.getElem?_cons_succ, List.getElem?_cons_succ]
      simpa using ih k (by simpa using h)
theorem putCells_one (l : List (Nat × ByteArray)) : ∀ v ∈ putCells l, v.oneCell' = true := by
  induction l with
  | nil => intro v hv; simp [putCells] at hv
  | cons x l ih =>
    intro v hv
    simp only [putCells, List.mem_cons] at hv
    rcases hv with rfl | rfl | hv
    · rfl
    · rfl
    · exact ih v hv
/-- The block with the fields. -/
def headObj (r : Bool) (bv cv : Value) (D : Dk) : Obj :=
  match r with
  | true => .cells #[bv, cv, .bool D.down, .int .i64 D.armed] 68 (0, 0)
  | false => .cells #[bv, cv, .int .i64 D.armed, .bool D.down] 58 (0, 0)
/-- Block b is disk D; its blocks are the slice bv, its cache the slice cv. -/
structure Has (r : Bool) (w : World) (b : Nat) (bv cv : Value) (D : Dk) : Prop where
  ok : D.ok
  head : w.heap[b]? = some (headObj r bv cv D)
  rb : w.ownsRow 0 9 1 bv D.bl.length (D.bl.map Value.string)
  rc : w.ownsRow 0 76 2 cv D.ca.length (putCells D.ca)
/-- The blocks of a disk. -/
def Foot (b : Nat) (bv cv : Value) (k : Nat) : Prop := k = b ∨ bv.ownBlock = some k ∨ cv.ownBlock = some k
/-- All but S is as it was. -/
structure Kept (S : Nat → Prop) (w w' : World) : Prop where
  os : w'.os = w.os
  tape : w'.tape = w.tape
  output : w'.output = w.output
  size : w.heap.size ≤ w'.heap.size
  block : ∀ k, k < w.heap.size → ¬ S k → w'.heap[k]? = w.heap[k]?
theorem Kept.refl (S : Nat → Prop) (w : World) : Kept S w w := ⟨rfl, rfl, rfl, Nat.le_refl _, fun _ _ _ => rfl⟩
theorem Kept.trans {S : Nat → Prop} {u v w : World} (h : Kept S u v) (k : Kept S v w) : Kept S u w :=
  ⟨k.os.trans h.os, k.tape.trans h.tape, k.output.trans h.output, Nat.le_trans h.size k.size, fun i hi hb => (k.block i (Nat.lt_of_lt_of_le hi h.size) hb).trans (h.block i hi hb)⟩
theorem Kept.trans' {S T : Nat → Prop} {u v w : World} (h : Kept S u v) (k : Kept T v w) (hT : ∀ i, T i → S i ∨ u.heap.size ≤ i) : Kept S u w :=
  ⟨k.os.trans h.os, k.tape.trans h.tape, k.output.trans h.output, Nat.le_trans h.size k.size, fun i hi hb => (k.block i (Nat.lt_of_lt_of_le hi h.size) (fun t => (hT i t).elim hb (by omega))).trans (h.block i hi hb)⟩
theorem Kept.of_below {S : Nat → Prop} {w w' : World} (h : Below w.heap.size w w') : Kept S w w' := ⟨h.os, h.tape, h.output, h.size, fun k hk _ => h.block k hk⟩
theorem Kept.step {S : Nat → Prop} {u v w : World} (h : Kept S u v) (k : Below v.heap.size v w) : Kept S u w := h.trans (.of_below k)
theorem Kept.set_ {S : Nat → Prop} {u w : World} (h : Kept S u w) {b : Nat} (hb : S b) (i : Nat) (v : Value) : Kept S u (w.setCell ⟨b, i, none⟩ v) :=
  h.trans ⟨rfl, rfl, rfl, by simp [World.setCell], fun k _ hk => Below.heap_setCell _ _ _ _ (fun e => hk (by have e' : k = b := e; rw [e']; exact hb))⟩
theorem Kept.drewN {S : Nat → Prop} {u w : World} (h : Kept S u w) (n : Nat) : Kept S u (w.drewN n) := ⟨h.os, h.tape, h.output, h.size, h.block⟩
theorem Kept.below {S : Nat → Prop} {w w' : World} (h : Kept S w w') {B : Nat} (hS : ∀ k, S k → B ≤ k) (hB : B ≤ w.heap.size) : Below B w w' := ⟨h.os, h.tape, h.output, h.size, fun k hk => h.block k (by omega) (fun s => by have := hS k s; omega)⟩
theorem own_kept {w w' : World} {base : Nat} {e : TypeId} {size : Nat} {v : Value} {n : Nat} {xs : List Value} (h : w.ownsRow base e size v n xs) (hk : ∀ k, v.ownBlock = some k → w'.heap[k]? = w.heap[k]?) : w'.ownsRow base e size v n xs := by
  refine ⟨h.1, ?_⟩
  rcases h.2 with hn | ⟨g, cap, cur, rfl, hb, hgg, rest⟩
  · exact .inl hn
  · exact .inr ⟨g, cap, cur, rfl, hb, (hk g rfl).trans hgg, rest⟩
theorem Has.kept {r : Bool} {w w' : World} {b : Nat} {bv cv : Value} {D : Dk} (h : Has r w b bv cv D) (hk : ∀ k, Foot b bv cv k → w'.heap[k]? = w.heap[k]?) : Has r w' b bv cv D :=
  ⟨h.ok, (hk b (.inl rfl)).trans h.head, own_kept h.rb fun k e => hk k (.inr (.inl e)), own_kept h.rc fun k e => hk k (.inr (.inr e))⟩
theorem Has.lt {r : Bool} {w : World} {b : Nat} {bv cv : Value} {D : Dk} (h : Has r w b bv cv D) : b < w.heap.size := (Array.getElem?_eq_some_iff.1 h.head).1
theorem Has.foot_lt {r : Bool} {w : World} {b : Nat} {bv cv : Value} {D : Dk} (h : Has r w b bv cv D) (k : Nat) (hk : Foot b bv cv k) : k < w.heap.size := by
  rcases hk with rfl | hk | hk
  · exact h.lt
  · exact (h.rb.lt k hk).2
  · exact (h.rc.lt k hk).2
theorem Has.step {r : Bool} {w w' : World} {b : Nat} {bv cv : Value} {D : Dk} (h : Has r w b bv cv D) (hb : Below w.heap.size w w') : Has r w' b bv cv D := h.kept fun k hk => hb.block k (h.foot_lt k hk)
/-- What a call leaves of a disk: the same place and blocks, perhaps another row of writes, and nothing else turned. -/
def Did (r : Bool) (w : World) (b : Nat) (bv cv : Value) (D' : Dk) (w' : World) : Prop :=
  ∃ cv', Has r w' b bv cv' D' ∧ (∀ k, cv'.ownBlock = some k → cv.ownBlock = some k ∨ w.heap.size ≤ k) ∧ Kept (Foot b bv cv) w w'
theorem Has.did {r : Bool} {w w' : World} {b : Nat} {bv cv : Value} {D : Dk} (h : Has r w b bv cv D) (hb : Below w.heap.size w w') : Did r w b bv cv D w' := ⟨cv, h.step hb, fun _ => .inl, .of_below hb⟩
theorem Has.same {r : Bool} {w : World} {b : Nat} {bv cv : Value} {D : Dk} (h : Has r w b bv cv D) : Did r w b bv cv D w := h.did (.refl _ _)
theorem Did.then_ {r : Bool} {u w : World} {b : Nat} {bv cv : Value} {D' D'' : Dk} {v : World} {cv' : Value} (_ : Has r v b bv cv' D') (hn : ∀ k, cv'.ownBlock = some k → cv.ownBlock = some k ∨ u.heap.size ≤ k) (hk : Kept (Foot b bv cv) u v) (k : Did r v b bv cv' D'' w) : Did r u b bv cv D'' w := by
  obtain ⟨c, h2, n2, k2⟩ := k
  have hle := hk.size
  refine ⟨c, h2, fun i hi => ?_, hk.trans' k2 fun i hi => ?_⟩
  · rcases n2 i hi with h' | h'
    · exact hn i h'
    · exact .inr (by omega)
  · rcases hi with h' | h' | h'
    · exact .inl (.inl h')
    · exact .inl (.inr (.inl h'))
    · rcases hn i h' with h'' | h''
      · exact .inl (.inr (.inr h''))
      · exact .inr h''
theorem Did.trans {r : Bool} {u v w : World} {b : Nat} {bv cv : Value} {D' D'' : Dk} (h : Did r u b bv cv D' v) (k : ∀ cv', Has r v b bv cv' D' → Did r v b bv cv' D'' w) : Did r u b bv cv D'' w := by
  obtain ⟨c, h1, n1, k1⟩ := h
  exact Did.then_ h1 n1 k1 (k c h1)
theorem Did.step {r : Bool} {u v w : World} {b : Nat} {bv cv : Value} {D' : Dk} (h : Did r u b bv cv D' v) (k : Below v.heap.size v w) : Did r u b bv cv D' w := h.trans fun _ h' => h'.did k
/-! The fields' cells. -/
theorem Has.obj {r : Bool} {w : World} {b : Nat} {bv cv : Value} {D : Dk} (h : Has r w b bv cv D) : ∃ x y t, w.heap[b]? = some (.cells #[bv, cv, x, y] t (0, 0)) := by
  cases r
  · exact ⟨_, _, _, h.head⟩
  · exact ⟨_, _, _, h.head⟩
theorem Has.c0 {r : Bool} {w : World} {b : Nat} {bv cv : Value} {D : Dk} (h : Has r w b bv cv D) : w.cell? ⟨b, 0, none⟩ = some bv := by obtain ⟨x, y, t, e⟩ := h.obj; exact blk_cell e rfl
theorem Has.c1 {r : Bool} {w : World} {b : Nat} {bv cv : Value} {D : Dk} (h : Has r w b bv cv D) : w.cell? ⟨b, 1, none⟩ = some cv := by obtain ⟨x, y, t, e⟩ := h.obj; exact blk_cell e rfl
theorem Has.free {r : Bool} {w : World} {b : Nat} {bv cv : Value} {D : Dk} (h : Has r w b bv cv D) (i : Nat) : w.frozen? ⟨b, i, none⟩ = false := by obtain ⟨x, y, t, e⟩ := h.obj; exact blk_free e
theorem Has.d2 {w : World} {b : Nat} {bv cv : Value} {D : Dk} (h : Has false w b bv cv D) : w.cell? ⟨b, 2, none⟩ = some (.int .i64 D.armed) := blk_cell h.head rfl
theorem Has.d3 {w : World} {b : Nat} {bv cv : Value} {D : Dk} (h : Has false w b bv cv D) : w.cell? ⟨b, 3, none⟩ = some (.bool D.down) := blk_cell h.head rfl
theorem Has.r2 {w : World} {b : Nat} {bv cv : Value} {D : Dk} (h : Has true w b bv cv D) : w.cell? ⟨b, 2, none⟩ = some (.bool D.down) := blk_cell h.head rfl
theorem Has.r3 {w : World} {b : Nat} {bv cv : Value} {D : Dk} (h : Has true w b bv cv D) : w.cell? ⟨b, 3, none⟩ = some (.int .i64 D.armed) := blk_cell h.head rfl
theorem Has.bv_eq {r : Bool} {w : World} {b : Nat} {bv cv : Value} {D : Dk} (h : Has r w b bv cv D) : ∃ g c, bv = .slice (some ⟨g, 0, none⟩) D.bl.length c := by
  rcases h.rb.2 with ⟨_, h0⟩ | ⟨g, cap, cur, rfl, _⟩
  · have := h.ok.lo; omega
  · exact ⟨g, cap, rfl⟩
theorem Has.block {r : Bool} {w : World} {b g n c : Nat} {cv : Value} {D : Dk} (h : Has r w b (.slice (some ⟨g, 0, none⟩) n c) cv D) (i : Nat) (hi : i < D.bl.length) : w.cell? ⟨g, i, none⟩ = some (.string D.bl[i]) := by
  have := h.rb.cells (g := g) rfl i (.string D.bl[i]) (by simp [hi])
  rwa [add_off, Nat.zero_add] at this
theorem Has.block_free {r : Bool} {w : World} {b g n c : Nat} {cv : Value} {D : Dk} (h : Has r w b (.slice (some ⟨g, 0, none⟩) n c) cv D) (i : Nat) : w.frozen? ⟨g, i, none⟩ = false := by
  rcases h.rb.2 with ⟨h0, _⟩ | ⟨g', cap, cur, hv, _, hg, _⟩
  · cases h0
  · cases hv; exact blk_free hg
theorem Has.cv_eq {r : Bool} {w : World} {b : Nat} {bv cv : Value} {D : Dk} (h : Has r w b bv cv D) : ∃ a c, cv = .slice a D.ca.length c := by
  rcases h.rc.2 with ⟨rfl, h0⟩ | ⟨g, cap, cur, rfl, _⟩
  · exact ⟨none, 0, by rw [h0]⟩
  · exact ⟨_, _, rfl⟩
/-- A row of writes, wherever it lies. -/
def PutRow (w : World) (a : Option Addr) (l : List (Nat × ByteArray)) : Prop :=
  0 < l.length → ∃ g o, a = some ⟨g, o, none⟩ ∧ g < w.heap.size ∧ ∀ k (h : k < l.length), w.cell? ⟨g, o + k * 2, none⟩ = some (.int .i64 l[k].1) ∧ w.cell? ⟨g, o + k * 2 + 1, none⟩ = some (.string l[k].2)
theorem own_puts {w : World} {base : Nat} {e : TypeId} {a : Option Addr} {n c : Nat} {l : List (Nat × ByteArray)} (h : w.ownsRow base e 2 (.slice a n c) n (putCells l)) : PutRow w a l := by
  intro hl
  rcases h.2 with ⟨hv, h0⟩ | ⟨g, cap, cur, hv, _, hg, _⟩
  · have := h.1; rw [putCells_length] at this; omega
  · cases hv
    refine ⟨g, 0, rfl, (Array.getElem?_eq_some_iff.1 hg).1, fun k hk => ⟨?_, ?_⟩⟩
    · have := h.cells (g := g) rfl _ _ (putCells_0 l k hk)
      rwa [add_off] at this
    · have := h.cells (g := g) rfl _ _ (putCells_1 l k hk)
      rwa [add_off] at this
theorem Has.puts {r : Bool} {w : World} {b n c : Nat} {a : Option Addr} {bv : Value} {D : Dk} (h : Has r w b bv (.slice a n c) D) : PutRow w a D.ca := by
  obtain ⟨a', c', e⟩ := h.cv_eq
  cases e
  exact own_puts h.rc
theorem PutRow.keep {w w' : World} {a : Option Addr} {l : List (Nat × ByteArray)} (h : PutRow w a l) (hk : ∀ k, k < w.heap.size → w'.heap[k]? = w.heap[k]?) (hs : w.heap.size ≤ w'.heap.size) : PutRow w' a l := by
  intro hl
  obtain ⟨g, o, e, hg, hc⟩ := h hl
  exact ⟨g, o, e, by omega, fun k hk' => ⟨(World.cell?_of_block (w := w) (w' := w') (hk g hg)).trans (hc k hk').1, (World.cell?_of_block (w := w) (w' := w') (hk g hg)).trans (hc k hk').2⟩⟩
/-- A row of texts, wherever it lies. -/
def StrRow (w : World) (a : Option Addr) (l : List ByteArray) : Prop :=
  0 < l.length → ∃ g o, a = some ⟨g, o, none⟩ ∧ g < w.heap.size ∧ ∀ k (h : k < l.length), w.cell? ⟨g, o + k, none⟩ = some (.string l[k])
theorem own_strs {w : World} {base : Nat} {e : TypeId} {a : Option Addr} {n c : Nat} {l : List ByteArray} (h : w.ownsRow base e 1 (.slice a n c) n (l.map Value.string)) : StrRow w a l := by
  intro hl
  rcases h.2 with ⟨hv, h0⟩ | ⟨g, cap, cur, hv, _, hg, _⟩
  · have := h.1; simp at this; omega
  · cases hv
    refine ⟨g, 0, rfl, (Array.getElem?_eq_some_iff.1 hg).1, fun k hk => ?_⟩
    have := h.cells (g := g) rfl k (.string l[k]) (by simp [hk])
    rwa [add_off] at this
theorem StrRow.keep {w w' : World} {a : Option Addr} {l : List ByteArray} (h : StrRow w a l) (hk : ∀ k, k < w.heap.size → w'.heap[k]? = w.heap[k]?) (hs : w.heap.size ≤ w'.heap.size) : StrRow w' a l := by
  intro hl
  obtain ⟨g, o, e, hg, hc⟩ := h hl
  exact ⟨g, o, e, by omega, fun k hk' => (World.cell?_of_block (w := w) (w' := w') (hk g hg)).trans (hc k hk')⟩
theorem Has.strs {r : Bool} {w : World} {b n c : Nat} {a : Option Addr} {cv : Value} {D : Dk} (h : Has r w b (.slice a n c) cv D) : StrRow w a D.bl := by
  obtain ⟨a', c', e⟩ := h.bv_eq
  cases e
  exact own_strs h.rb
/-! The blocks of a disk are three. -/
theorem Has.bne {r : Bool} {w : World} {b : Nat} {bv cv : Value} {D : Dk} (h : Has r w b bv cv D) : bv.ownBlock ≠ some b := by
  intro e
  rcases h.rb.2 with ⟨rfl, _⟩ | ⟨g, cap, cur, rfl, _, hg, _⟩
  · cases e
  · have e' : g = b := by simpa [Value.ownBlock] using e
    subst e'
    have := hg.symm.trans h.head
    cases r <;> simp [headObj] at this
theorem Has.cne {r : Bool} {w : World} {b : Nat} {bv cv : Value} {D : Dk} (h : Has r w b bv cv D) : cv.ownBlock ≠ some b := by
  intro e
  rcases h.rc.2 with ⟨rfl, _⟩ | ⟨g, cap, cur, rfl, _, hg, _⟩
  · cases e
  · have e' : g = b := by simpa [Value.ownBlock] using e
    subst e'
    have := hg.symm.trans h.head
    cases r <;> simp [headObj] at this
theorem Has.bcne {r : Bool} {w : World} {b : Nat} {bv cv : Value} {D : Dk} (h : Has r w b bv cv D) (k : Nat) (e : bv.ownBlock = some k) : cv.ownBlock ≠ some k := by
  intro f
  rcases h.rb.2 with ⟨rfl, _⟩ | ⟨g, cap, cur, rfl, _, hg, _⟩
  · cases e
  · rcases h.rc.2 with ⟨rfl, _⟩ | ⟨g', cap', cur', rfl, _, hg', _⟩
    · cases f
    · have e' : g = k := by simpa [Value.ownBlock] using e
      have f' : g' = k := by simpa [Value.ownBlock] using f
      subst e' f'
      have := hg.symm.trans hg'
      simp at this
theorem set_cell_block {w : World} {b i : Nat} {v : Value} {k : Nat} (h : k ≠ b) : (w.setCell ⟨b, i, none⟩ v).heap[k]? = w.heap[k]? := Below.heap_setCell _ _ _ _ (by simpa using h)
/-! Where fields are stored to. -/
theorem own_nil (w : World) : w.ownsRow 0 76 2 (.slice none 0 0) 0 (putCells []) := World.ownsRow_nil _ _ _ _
theorem Has.rehead {r : Bool} {w w' : World} {b : Nat} {bv cv : Value} {D D' : Dk} (h : Has r w b bv cv D) (hh : w'.heap[b]? = some (headObj r bv cv D')) (hk : ∀ k, k ≠ b → w'.heap[k]? = w.heap[k]?) (h1 : D'.bl = D.bl) (h2 : D'.ca = D.ca) (ho : D'.ok) : Has r w' b bv cv D' :=
  ⟨ho, hh, by rw [h1]; exact own_kept h.rb fun k e => hk k (fun e' => h.bne (e' ▸ e)), by rw [h2]; exact own_kept h.rc fun k e => hk k (fun e' => h.cne (e' ▸ e))⟩
theorem Has.renil {r : Bool} {w w' : World} {b : Nat} {bv cv : Value} {D D' : Dk} (h : Has r w b bv cv D) (hh : w'.heap[b]? = some (headObj r bv (.slice none 0 0) D')) (hk : ∀ k, k ≠ b → w'.heap[k]? = w.heap[k]?) (h1 : D'.bl = D.bl) (h2 : D'.ca = []) (ho : D'.ok) : Has r w' b bv (.slice none 0 0) D' :=
  ⟨ho, hh, by rw [h1]; exact own_kept h.rb fun k e => hk k (fun e' => h.bne (e' ▸ e)), by rw [h2]; exact own_nil _⟩
theorem Kept.set2 {S : Nat → Prop} (w : World) {b : Nat} (hb : S b) (i j : Nat) (u v : Value) : Kept S w ((w.setCell ⟨b, i, none⟩ u).setCell ⟨b, j, none⟩ v) := ((Kept.refl S w).set_ hb _ _).set_ hb _ _
theorem Kept.set3 {S : Nat → Prop} (w : World) {b : Nat} (hb : S b) (i j k : Nat) (t u v : Value) : Kept S w (((w.setCell ⟨b, i, none⟩ t).setCell ⟨b, j, none⟩ u).setCell ⟨b, k, none⟩ v) := (((Kept.refl S w).set_ hb _ _).set_ hb _ _).set_ hb _ _
theorem did_rehead {r : Bool} {w w' : World} {b : Nat} {bv cv : Value} {D' : Dk} (h : Has r w' b bv cv D') (hk : Kept (Foot b bv cv) w w') : Did r w b bv cv D' w' := ⟨cv, h, fun _ => .inl, hk⟩
theorem did_nil {r : Bool} {w w' : World} {b : Nat} {bv cv : Value} {D' : Dk} (h : Has r w' b bv (.slice none 0 0) D') (hk : Kept (Foot b bv cv) w w') : Did r w b bv cv D' w' := ⟨_, h, fun k e => by simp [Value.ownBlock] at e, hk⟩
end Go.Proofs.Ytofpflkkbkodaaa.DkM
