/- DkM DkQ DkS DkB DkW: one behind the other. -/
import Derived.Test.YtoilcieineejiaaGreatDoorDkN
import Derived.Test.YtoilcieineejiaaGreatDoorLMem
import Derived.Test.YtoilcieineejiaaGreatDoorRows
import Derived.Maps.AppendAt
import Derived.OwnWalk
/- A disk in memory, the program's (r = false) and the document's (r = true): a block with its fields, a row of blocks, a row of writes; what stays where something else is written. No conditions but those that each lemma names. -/
namespace Go.Proofs.YtoilcieineejiaaGreatDoor.DkM
open Go.RowKit
open DkN
/-- The cells of a row of writes. -/
def putCells : List (Nat × ByteArray) → List Value
  | [] => []
  | x :: r => Value.int .i64 x.1 :: Value.string x.2 :: putCells r
theorem putCells_append (l m : List (Nat × ByteArray)) : putCells (l ++ m) = putCells l ++ putCells m := by
  induction l with
  | nil => rfl
  | cons x l ih => simp [putCells, ih]
theorem putCells_length (l : List (Nat × ByteArray)) : (putCells l).length = l.length * 2 := by
  induction l with
  | nil => rfl
  | cons x l ih => simp only [putCells, List.length_cons, ih]; omega
theorem putCells_0 (l : List (Nat × ByteArray)) (k : Nat) (h : k < l.length) : (putCells l)[k * 2]? = some (.int .i64 l[k].1) := by
  induction l generalizing k with
  | nil => simp at h
  | cons x l ih =>
    match k with
    | 0 => rfl
    | k + 1 =>
      rw [show (k + 1) * 2 = k * 2 + 1 + 1 from by omega, putCells, List.getElem?_cons_succ, List.getElem?_cons_succ]
      simpa using ih k (by simpa using h)
theorem putCells_1 (l : List (Nat × ByteArray)) (k : Nat) (h : k < l.length) : (putCells l)[k * 2 + 1]? = some (.string l[k].2) := by
  induction l generalizing k with
  | nil => simp at h
  | cons x l ih =>
    match k with
    | 0 => rfl
    | k + 1 =>
      rw [show (k + 1) * 2 + 1 = k * 2 + 1 + 1 + 1 from by omega, putCells, List.getElem?_cons_succ, List.getElem?_cons_succ]
      simpa using ih k (by simpa using h)
theorem putCells_one (l : List (Nat × ByteArray)) : ∀ v ∈ putCells l, v.oneCell' = true := by
  induction l with
  | nil => intro v hv; simp [putCells] at hv
  | cons x l ih =>
    intro v hv
    simp only [putCells, List.mem_cons] at hv
    rcases hv with rfl | rfl | hv
    · rfl
    · rfl
    · exact ih v hv
/-- The block with the fields. -/
def headObj (r : Bool) (bv cv : Value) (D : Dk) : Obj :=
  match r with
  | true => .cells #[bv, cv, .bool D.down, .int .i64 D.armed] 0 (0, 0)
  | false => .cells #[bv, cv, .int .i64 D.armed, .bool D.down] 77 (0, 0)
/-- Block b is disk D; its blocks are the slice bv, its cache the slice cv. -/
structure Has (r : Bool) (w : World) (b : Nat) (bv cv : Value) (D : Dk) : Prop where
  ok : D.ok
  head : w.heap[b]? = some (headObj r bv cv D)
  rb : w.ownsRow 0 9 1 bv D.bl.length (D.bl.map Value.string)
  rc : w.ownsRow 0 107 2 cv D.ca.length (putCells D.ca)
/-- The blocks of a disk. -/
def Foot (b : Nat) (bv cv : Value) (k : Nat) : Prop := k = b ∨ bv.ownBlock = some k ∨ cv.ownBlock = some k
/-- All but S is as it was. -/
structure Kept (S : Nat → Prop) (w w' : World) : Prop where
  os : w'.os = w.os
  tape : w'.tape = w.tape
  output : w'.output = w.output
  size : w.heap.size ≤ w'.heap.size
  block : ∀ k, k < w.heap.size → ¬ S k → w'.heap[k]? = w.heap[k]?
theorem Kept.refl (S : Nat → Prop) (w : World) : Kept S w w := ⟨rfl, rfl, rfl, Nat.le_refl _, fun _ _ _ => rfl⟩
theorem Kept.trans {S : Nat → Prop} {u v w : World} (h : Kept S u v) (k : Kept S v w) : Kept S u w :=
  ⟨k.os.trans h.os, k.tape.trans h.tape, k.output.trans h.output, Nat.le_trans h.size k.size, fun i hi hb => (k.block i (Nat.lt_of_lt_of_le hi h.size) hb).trans (h.block i hi hb)⟩
theorem Kept.trans' {S T : Nat → Prop} {u v w : World} (h : Kept S u v) (k : Kept T v w) (hT : ∀ i, T i → S i ∨ u.heap.size ≤ i) : Kept S u w :=
  ⟨k.os.trans h.os, k.tape.trans h.tape, k.output.trans h.output, Nat.le_trans h.size k.size, fun i hi hb => (k.block i (Nat.lt_of_lt_of_le hi h.size) (fun t => (hT i t).elim hb (by omega))).trans (h.block i hi hb)⟩
theorem Kept.of_below {S : Nat → Prop} {w w' : World} (h : Below w.heap.size w w') : Kept S w w' := ⟨h.os, h.tape, h.output, h.size, fun k hk _ => h.block k hk⟩
theorem Kept.step {S : Nat → Prop} {u v w : World} (h : Kept S u v) (k : Below v.heap.size v w) : Kept S u w := h.trans (.of_below k)
theorem Kept.set_ {S : Nat → Prop} {u w : World} (h : Kept S u w) {b : Nat} (hb : S b) (i : Nat) (v : Value) : Kept S u (w.setCell ⟨b, i, none⟩ v) :=
  h.trans ⟨rfl, rfl, rfl, by simp [World.setCell], fun k _ hk => Below.heap_setCell _ _ _ _ (fun e => hk (by have e' : k = b := e; rw [e']; exact hb))⟩
theorem Kept.drewN {S : Nat → Prop} {u w : World} (h : Kept S u w) (n : Nat) : Kept S u (w.drewN n) := ⟨h.os, h.tape, h.output, h.size, h.block⟩
theorem Kept.below {S : Nat → Prop} {w w' : World} (h : Kept S w w') {B : Nat} (hS : ∀ k, S k → B ≤ k) (hB : B ≤ w.heap.size) : Below B w w' := ⟨h.os, h.tape, h.output, h.size, fun k hk => h.block k (by omega) (fun s => by have := hS k s; omega)⟩
theorem own_kept {w w' : World} {base : Nat} {e : TypeId} {size : Nat} {v : Value} {n : Nat} {xs : List Value} (h : w.ownsRow base e size v n xs) (hk : ∀ k, v.ownBlock = some k → w'.heap[k]? = w.heap[k]?) : w'.ownsRow base e size v n xs := by
  refine ⟨h.1, ?_⟩
  rcases h.2 with hn | ⟨g, cap, cur, rfl, hb, hgg, rest⟩
  · exact .inl hn
  · exact .inr ⟨g, cap, cur, rfl, hb, (hk g rfl).trans hgg, rest⟩
theorem Has.kept {r : Bool} {w w' : World} {b : Nat} {bv cv : Value} {D : Dk} (h : Has r w b bv cv D) (hk : ∀ k, Foot b bv cv k → w'.heap[k]? = w.heap[k]?) : Has r w' b bv cv D :=
  ⟨h.ok, (hk b (.inl rfl)).trans h.head, own_kept h.rb fun k e => hk k (.inr (.inl e)), own_kept h.rc fun k e => hk k (.inr (.inr e))⟩
theorem Has.lt {r : Bool} {w : World} {b : Nat} {bv cv : Value} {D : Dk} (h : Has r w b bv cv D) : b < w.heap.size := (Array.getElem?_eq_some_iff.1 h.head).1
theorem Has.foot_lt {r : Bool} {w : World} {b : Nat} {bv cv : Value} {D : Dk} (h : Has r w b bv cv D) (k : Nat) (hk : Foot b bv cv k) : k < w.heap.size := by
  rcases hk with rfl | hk | hk
  · exact h.lt
  · exact (h.rb.lt k hk).2
  · exact (h.rc.lt k hk).2
theorem Has.step {r : Bool} {w w' : World} {b : Nat} {bv cv : Value} {D : Dk} (h : Has r w b bv cv D) (hb : Below w.heap.size w w') : Has r w' b bv cv D := h.kept fun k hk => hb.block k (h.foot_lt k hk)
/-- What a call leaves of a disk: the same place and blocks, perhaps another row of writes, and nothing else turned. -/
def Did (r : Bool) (w : World) (b : Nat) (bv cv : Value) (D' : Dk) (w' : World) : Prop :=
  ∃ cv', Has r w' b bv cv' D' ∧ (∀ k, cv'.ownBlock = some k → cv.ownBlock = some k ∨ w.heap.size ≤ k) ∧ Kept (Foot b bv cv) w w'
theorem Has.did {r : Bool} {w w' : World} {b : Nat} {bv cv : Value} {D : Dk} (h : Has r w b bv cv D) (hb : Below w.heap.size w w') : Did r w b bv cv D w' := ⟨cv, h.step hb, fun _ => .inl, .of_below hb⟩
theorem Has.same {r : Bool} {w : World} {b : Nat} {bv cv : Value} {D : Dk} (h : Has r w b bv cv D) : Did r w b bv cv D w := h.did (.refl _ _)
theorem Did.then_ {r : Bool} {u w : World} {b : Nat} {bv cv : Value} {D' D'' : Dk} {v : World} {cv' : Value} (_ : Has r v b bv cv' D') (hn : ∀ k, cv'.ownBlock = some k → cv.ownBlock = some k ∨ u.heap.size ≤ k) (hk : Kept (Foot b bv cv) u v) (k : Did r v b bv cv' D'' w) : Did r u b bv cv D'' w := by
  obtain ⟨c, h2, n2, k2⟩ := k
  have hle := hk.size
  refine ⟨c, h2, fun i hi => ?_, hk.trans' k2 fun i hi => ?_⟩
  · rcases n2 i hi with h' | h'
    · exact hn i h'
    · exact .inr (by omega)
  · rcases hi with h' | h' | h'
    · exact .inl (.inl h')
    · exact .inl (.inr (.inl h'))
    · rcases hn i h' with h'' | h''
      · exact .inl (.inr (.inr h''))
      · exact .inr h''
theorem Did.trans {r : Bool} {u v w : World} {b : Nat} {bv cv : Value} {D' D'' : Dk} (h : Did r u b bv cv D' v) (k : ∀ cv', Has r v b bv cv' D' → Did r v b bv cv' D'' w) : Did r u b bv cv D'' w := by
  obtain ⟨c, h1, n1, k1⟩ := h
  exact Did.then_ h1 n1 k1 (k c h1)
theorem Did.step {r : Bool} {u v w : World} {b : Nat} {bv cv : Value} {D' : Dk} (h : Did r u b bv cv D' v) (k : Below v.heap.size v w) : Did r u b bv cv D' w := h.trans fun _ h' => h'.did k
/-! The fields' cells. -/
theorem Has.obj {r : Bool} {w : World} {b : Nat} {bv cv : Value} {D : Dk} (h : Has r w b bv cv D) : ∃ x y t, w.heap[b]? = some (.cells #[bv, cv, x, y] t (0, 0)) := by
  cases r
  · exact ⟨_, _, _, h.head⟩
  · exact ⟨_, _, _, h.head⟩
theorem Has.c0 {r : Bool} {w : World} {b : Nat} {bv cv : Value} {D : Dk} (h : Has r w b bv cv D) : w.cell? ⟨b, 0, none⟩ = some bv := by obtain ⟨x, y, t, e⟩ := h.obj; exact blk_cell e rfl
theorem Has.c1 {r : Bool} {w : World} {b : Nat} {bv cv : Value} {D : Dk} (h : Has r w b bv cv D) : w.cell? ⟨b, 1, none⟩ = some cv := by obtain ⟨x, y, t, e⟩ := h.obj; exact blk_cell e rfl
theorem Has.free {r : Bool} {w : World} {b : Nat} {bv cv : Value} {D : Dk} (h : Has r w b bv cv D) (i : Nat) : w.frozen? ⟨b, i, none⟩ = false := by obtain ⟨x, y, t, e⟩ := h.obj; exact blk_free e
theorem Has.d2 {w : World} {b : Nat} {bv cv : Value} {D : Dk} (h : Has false w b bv cv D) : w.cell? ⟨b, 2, none⟩ = some (.int .i64 D.armed) := blk_cell h.head rfl
theorem Has.d3 {w : World} {b : Nat} {bv cv : Value} {D : Dk} (h : Has false w b bv cv D) : w.cell? ⟨b, 3, none⟩ = some (.bool D.down) := blk_cell h.head rfl
theorem Has.r2 {w : World} {b : Nat} {bv cv : Value} {D : Dk} (h : Has true w b bv cv D) : w.cell? ⟨b, 2, none⟩ = some (.bool D.down) := blk_cell h.head rfl
theorem Has.r3 {w : World} {b : Nat} {bv cv : Value} {D : Dk} (h : Has true w b bv cv D) : w.cell? ⟨b, 3, none⟩ = some (.int .i64 D.armed) := blk_cell h.head rfl
theorem Has.bv_eq {r : Bool} {w : World} {b : Nat} {bv cv : Value} {D : Dk} (h : Has r w b bv cv D) : ∃ g c, bv = .slice (some ⟨g, 0, none⟩) D.bl.length c := by
  rcases h.rb.2 with ⟨_, h0⟩ | ⟨g, cap, cur, rfl, _⟩
  · have := h.ok.lo; omega
  · exact ⟨g, cap, rfl⟩
theorem Has.block {r : Bool} {w : World} {b g n c : Nat} {cv : Value} {D : Dk} (h : Has r w b (.slice (some ⟨g, 0, none⟩) n c) cv D) (i : Nat) (hi : i < D.bl.length) : w.cell? ⟨g, i, none⟩ = some (.string D.bl[i]) := by
  have := h.rb.cells (g := g) rfl i (.string D.bl[i]) (by simp [hi])
  rwa [add_off, Nat.zero_add] at this
theorem Has.block_free {r : Bool} {w : World} {b g n c : Nat} {cv : Value} {D : Dk} (h : Has r w b (.slice (some ⟨g, 0, none⟩) n c) cv D) (i : Nat) : w.frozen? ⟨g, i, none⟩ = false := by
  rcases h.rb.2 with ⟨h0, _⟩ | ⟨g', cap, cur, hv, _, hg, _⟩
  · cases h0
  · cases hv; exact blk_free hg
theorem Has.cv_eq {r : Bool} {w : World} {b : Nat} {bv cv : Value} {D : Dk} (h : Has r w b bv cv D) : ∃ a c, cv = .slice a D.ca.length c := by
  rcases h.rc.2 with ⟨rfl, h0⟩ | ⟨g, cap, cur, rfl, _⟩
  · exact ⟨none, 0, by rw [h0]⟩
  · exact ⟨_, _, rfl⟩
/-- A row of writes, wherever it lies. -/
def PutRow (w : World) (a : Option Addr) (l : List (Nat × ByteArray)) : Prop :=
  0 < l.length → ∃ g o, a = some ⟨g, o, none⟩ ∧ g < w.heap.size ∧ ∀ k (h : k < l.length), w.cell? ⟨g, o + k * 2, none⟩ = some (.int .i64 l[k].1) ∧ w.cell? ⟨g, o + k * 2 + 1, none⟩ = some (.string l[k].2)
theorem own_puts {w : World} {base : Nat} {e : TypeId} {a : Option Addr} {n c : Nat} {l : List (Nat × ByteArray)} (h : w.ownsRow base e 2 (.slice a n c) n (putCells l)) : PutRow w a l := by
  intro hl
  rcases h.2 with ⟨hv, h0⟩ | ⟨g, cap, cur, hv, _, hg, _⟩
  · have := h.1; rw [putCells_length] at this; omega
  · cases hv
    refine ⟨g, 0, rfl, (Array.getElem?_eq_some_iff.1 hg).1, fun k hk => ⟨?_, ?_⟩⟩
    · have := h.cells (g := g) rfl _ _ (putCells_0 l k hk)
      rwa [add_off] at this
    · have := h.cells (g := g) rfl _ _ (putCells_1 l k hk)
      rwa [add_off] at this
theorem Has.puts {r : Bool} {w : World} {b n c : Nat} {a : Option Addr} {bv : Value} {D : Dk} (h : Has r w b bv (.slice a n c) D) : PutRow w a D.ca := by
  obtain ⟨a', c', e⟩ := h.cv_eq
  cases e
  exact own_puts h.rc
theorem PutRow.keep {w w' : World} {a : Option Addr} {l : List (Nat × ByteArray)} (h : PutRow w a l) (hk : ∀ k, k < w.heap.size → w'.heap[k]? = w.heap[k]?) (hs : w.heap.size ≤ w'.heap.size) : PutRow w' a l := by
  intro hl
  obtain ⟨g, o, e, hg, hc⟩ := h hl
  exact ⟨g, o, e, by omega, fun k hk' => ⟨(World.cell?_of_block (w := w) (w' := w') (hk g hg)).trans (hc k hk').1, (World.cell?_of_block (w := w) (w' := w') (hk g hg)).trans (hc k hk').2⟩⟩
/-- A row of texts, wherever it lies. -/
def StrRow (w : World) (a : Option Addr) (l : List ByteArray) : Prop :=
  0 < l.length → ∃ g o, a = some ⟨g, o, none⟩ ∧ g < w.heap.size ∧ ∀ k (h : k < l.length), w.cell? ⟨g, o + k, none⟩ = some (.string l[k])
theorem own_strs {w : World} {base : Nat} {e : TypeId} {a : Option Addr} {n c : Nat} {l : List ByteArray} (h : w.ownsRow base e 1 (.slice a n c) n (l.map Value.string)) : StrRow w a l := by
  intro hl
  rcases h.2 with ⟨hv, h0⟩ | ⟨g, cap, cur, hv, _, hg, _⟩
  · have := h.1; simp at this; omega
  · cases hv
    refine ⟨g, 0, rfl, (Array.getElem?_eq_some_iff.1 hg).1, fun k hk => ?_⟩
    have := h.cells (g := g) rfl k (.string l[k]) (by simp [hk])
    rwa [add_off] at this
theorem StrRow.keep {w w' : World} {a : Option Addr} {l : List ByteArray} (h : StrRow w a l) (hk : ∀ k, k < w.heap.size → w'.heap[k]? = w.heap[k]?) (hs : w.heap.size ≤ w'.heap.size) : StrRow w' a l := by
  intro hl
  obtain ⟨g, o, e, hg, hc⟩ := h hl
  exact ⟨g, o, e, by omega, fun k hk' => (World.cell?_of_block (w := w) (w' := w') (hk g hg)).trans (hc k hk')⟩
theorem Has.strs {r : Bool} {w : World} {b n c : Nat} {a : Option Addr} {cv : Value} {D : Dk} (h : Has r w b (.slice a n c) cv D) : StrRow w a D.bl := by
  obtain ⟨a', c', e⟩ := h.bv_eq
  cases e
  exact own_strs h.rb
/-! The blocks of a disk are three. -/
theorem Has.bne {r : Bool} {w : World} {b : Nat} {bv cv : Value} {D : Dk} (h : Has r w b bv cv D) : bv.ownBlock ≠ some b := by
  intro e
  rcases h.rb.2 with ⟨rfl, _⟩ | ⟨g, cap, cur, rfl, _, hg, _⟩
  · cases e
  · have e' : g = b := by simpa [Value.ownBlock] using e
    subst e'
    have := hg.symm.trans h.head
    cases r <;> simp [headObj] at this
theorem Has.cne {r : Bool} {w : World} {b : Nat} {bv cv : Value} {D : Dk} (h : Has r w b bv cv D) : cv.ownBlock ≠ some b := by
  intro e
  rcases h.rc.2 with ⟨rfl, _⟩ | ⟨g, cap, cur, rfl, _, hg, _⟩
  · cases e
  · have e' : g = b := by simpa [Value.ownBlock] using e
    subst e'
    have := hg.symm.trans h.head
    cases r <;> simp [headObj] at this
theorem Has.bcne {r : Bool} {w : World} {b : Nat} {bv cv : Value} {D : Dk} (h : Has r w b bv cv D) (k : Nat) (e : bv.ownBlock = some k) : cv.ownBlock ≠ some k := by
  intro f
  rcases h.rb.2 with ⟨rfl, _⟩ | ⟨g, cap, cur, rfl, _, hg, _⟩
  · cases e
  · rcases h.rc.2 with ⟨rfl, _⟩ | ⟨g', cap', cur', rfl, _, hg', _⟩
    · cases f
    · have e' : g = k := by simpa [Value.ownBlock] using e
      have f' : g' = k := by simpa [Value.ownBlock] using f
      subst e' f'
      have := hg.symm.trans hg'
      simp at this
theorem set_cell_block {w : World} {b i : Nat} {v : Value} {k : Nat} (h : k ≠ b) : (w.setCell ⟨b, i, none⟩ v).heap[k]? = w.heap[k]? := Below.heap_setCell _ _ _ _ (by simpa using h)
/-! Where fields are stored to. -/
theorem own_nil (w : World) : w.ownsRow 0 107 2 (.slice none 0 0) 0 (putCells []) := World.ownsRow_nil _ _ _ _
theorem Has.rehead {r : Bool} {w w' : World} {b : Nat} {bv cv : Value} {D D' : Dk} (h : Has r w b bv cv D) (hh : w'.heap[b]? = some (headObj r bv cv D')) (hk : ∀ k, k ≠ b → w'.heap[k]? = w.heap[k]?) (h1 : D'.bl = D.bl) (h2 : D'.ca = D.ca) (ho : D'.ok) : Has r w' b bv cv D' :=
  ⟨ho, hh, by rw [h1]; exact own_kept h.rb fun k e => hk k (fun e' => h.bne (e' ▸ e)), by rw [h2]; exact own_kept h.rc fun k e => hk k (fun e' => h.cne (e' ▸ e))⟩
theorem Has.renil {r : Bool} {w w' : World} {b : Nat} {bv cv : Value} {D D' : Dk} (h : Has r w b bv cv D) (hh : w'.heap[b]? = some (headObj r bv (.slice none 0 0) D')) (hk : ∀ k, k ≠ b → w'.heap[k]? = w.heap[k]?) (h1 : D'.bl = D.bl) (h2 : D'.ca = []) (ho : D'.ok) : Has r w' b bv (.slice none 0 0) D' :=
  ⟨ho, hh, by rw [h1]; exact own_kept h.rb fun k e => hk k (fun e' => h.bne (e' ▸ e)), by rw [h2]; exact own_nil _⟩
theorem Kept.set2 {S : Nat → Prop} (w : World) {b : Nat} (hb : S b) (i j : Nat) (u v : Value) : Kept S w ((w.setCell ⟨b, i, none⟩ u).setCell ⟨b, j, none⟩ v) := ((Kept.refl S w).set_ hb _ _).set_ hb _ _
theorem Kept.set3 {S : Nat → Prop} (w : World) {b : Nat} (hb : S b) (i j k : Nat) (t u v : Value) : Kept S w (((w.setCell ⟨b, i, none⟩ t).setCell ⟨b, j, none⟩ u).setCell ⟨b, k, none⟩ v) := (((Kept.refl S w).set_ hb _ _).set_ hb _ _).set_ hb _ _
theorem did_rehead {r : Bool} {w w' : World} {b : Nat} {bv cv : Value} {D' : Dk} (h : Has r w' b bv cv D') (hk : Kept (Foot b bv cv) w w') : Did r w b bv cv D' w' := ⟨cv, h, fun _ => .inl, hk⟩
theorem did_nil {r : Bool} {w w' : World} {b : Nat} {bv cv : Value} {D' : Dk} (h : Has r w' b bv (.slice none 0 0) D') (hk : Kept (Foot b bv cv) w w') : Did r w b bv cv D' w' := ⟨_, h, fun k e => by simp [Value.ownBlock] at e, hk⟩
end Go.Proofs.YtoilcieineejiaaGreatDoor.DkM
/- The program's disk: isNone, ready, has, takes, Size, Down: the walks of their texts. No conditions but those that each lemma names. -/
namespace Go.Proofs.YtoilcieineejiaaGreatDoor.DkQ
open Go.RowKit
open DkN DkM
theorem isNone_nil (w : World) : Calls Tryz.prog 51 #[.pointer none] w fun e w' => e = .returned (.bool true) ∧ w = w' := by
  go_enter Tryz.func51, Tryz.ntmps51
  go_wp2
  go_ret
  exact ⟨rfl, rfl⟩
theorem isNone_un (b : Nat) (w : World) (h : w.cell? ⟨b, 0, none⟩ = some (.slice none 0 0)) : Calls Tryz.prog 51 #[.pointer (some ⟨b, 0, none⟩)] w fun e w' => e = .returned (.bool true) ∧ w = w' := by
  go_enter Tryz.func51, Tryz.ntmps51
  go_wp2
  go_ret
  exact ⟨rfl, rfl⟩
theorem isNone_n (b n c : Nat) (a : Option Addr) (w : World) (h : w.cell? ⟨b, 0, none⟩ = some (.slice a n c)) (hn : 8 ≤ n) : Calls Tryz.prog 51 #[.pointer (some ⟨b, 0, none⟩)] w fun e w' => e = .returned (.bool false) ∧ w = w' := by
  have h0 : ((n : Int) == 0) = false := by rw [beq_eq_false_iff_ne]; omega
  go_enter Tryz.func51, Tryz.ntmps51
  go_wp2
  go_ret
  exact ⟨rfl, rfl⟩
theorem isNone {w : World} {b : Nat} {bv cv : Value} {D : Dk} (h : Has false w b bv cv D) : Calls Tryz.prog 51 #[.pointer (some ⟨b, 0, none⟩)] w fun e w' => e = .returned (.bool false) ∧ w = w' := by
  obtain ⟨g, c, rfl⟩ := h.bv_eq
  exact isNone_n b _ c _ w h.c0 h.ok.lo
theorem ready {w : World} {b : Nat} {bv cv : Value} {D : Dk} (h : Has false w b bv cv D) : Calls Tryz.prog 50 #[.pointer (some ⟨b, 0, none⟩)] w fun e w' => e = .returned (.int .i64 (if D.down then 14 else 0)) ∧ w = w' := by
  have H := Lib.hid (isNone h)
  have h3 := h.d3
  clear h
  generalize D.down = q at *
  cases q
  all_goals
    first | rw [if_pos rfl] | rw [if_neg Bool.false_ne_true]
    go_enter Tryz.func50, Tryz.ntmps50
    go_wp2_with (go_at_call 51; refine (H.out).mono ?_; rintro e w' ⟨rfl, rfl⟩)
    go_ret
    exact ⟨rfl, rfl⟩
theorem ready_nil (w : World) : Calls Tryz.prog 50 #[.pointer none] w fun e w' => e = .returned (.int .i64 1) ∧ w = w' := by
  go_enter Tryz.func50, Tryz.ntmps50
  go_wp2_with (go_at_call 51; refine (isNone_nil _).mono ?_; rintro e w' ⟨rfl, rfl⟩)
  go_ret
  exact ⟨rfl, rfl⟩
theorem ready_un (b : Nat) (w : World) (h : w.cell? ⟨b, 0, none⟩ = some (.slice none 0 0)) : Calls Tryz.prog 50 #[.pointer (some ⟨b, 0, none⟩)] w fun e w' => e = .returned (.int .i64 1) ∧ w = w' := by
  go_enter Tryz.func50, Tryz.ntmps50
  go_wp2_with (go_at_call 51; refine (isNone_un b _ h).mono ?_; rintro e w' ⟨rfl, rfl⟩)
  go_ret
  exact ⟨rfl, rfl⟩
/-- Is there such a place? -/
def hasB (n : Nat) (i : Int) : Bool := decide (0 ≤ i ∧ i < (n : Int))
theorem has_any (b n c : Nat) (a : Option Addr) (i : Int) (w : World) (h : w.cell? ⟨b, 0, none⟩ = some (.slice a n c)) : Calls Tryz.prog 111 #[.pointer (some ⟨b, 0, none⟩), .int .i64 i] w fun e w' => e = .returned (.bool (hasB n i)) ∧ w = w' := by
  by_cases h0 : 0 ≤ i
  · by_cases h1 : i < (n : Int)
    · have hv : hasB n i = true := decide_eq_true ⟨h0, h1⟩
      rw [hv]
      clear hv
      go_enter Tryz.func111, Tryz.ntmps111
      go_wp2
      go_ret
      exact ⟨rfl, rfl⟩
    · have hv : hasB n i = false := decide_eq_false fun x => h1 x.2
      rw [hv]
      clear hv
      go_enter Tryz.func111, Tryz.ntmps111
      go_wp2
      go_ret
      exact ⟨rfl, rfl⟩
  · have hv : hasB n i = false := decide_eq_false fun x => h0 x.1
    rw [hv]
    clear hv
    go_enter Tryz.func111, Tryz.ntmps111
    go_wp2
    go_ret
    exact ⟨rfl, rfl⟩
/-- Why this may not be written here, or 0. -/
def noB (n : Nat) (i : Int) (k : Nat) : Nat := if hasB n i then (if k = 4096 then 0 else 2) else 4
theorem no_eq (D : Dk) (i : Int) (s : ByteArray) : D.no i s = noB D.bl.length i s.size := rfl
theorem takes_any (b n c : Nat) (a : Option Addr) (i : Int) (s : ByteArray) (w : World) (h : w.cell? ⟨b, 0, none⟩ = some (.slice a n c)) : Calls Tryz.prog 117 #[.pointer (some ⟨b, 0, none⟩), .int .i64 i, .string s] w fun e w' => e = .returned (.int .i64 (noB n i s.size : Nat)) ∧ w = w' := by
  have H := Lib.hid (has_any b n c a i w h)
  clear h
  unfold noB
  generalize hasB n i = q at *
  cases q
  · rw [if_neg Bool.false_ne_true]
    go_enter Tryz.func117, Tryz.ntmps117
    go_wp2_with (go_at_call 111; refine (H.out).mono ?_; rintro e w' ⟨rfl, rfl⟩)
    go_ret
    exact ⟨rfl, rfl⟩
  · rw [if_pos rfl]
    by_cases hs : s.size = 4096
    · rw [if_pos hs]
      have h0 : ((s.size : Int) != 4096) = false := by rw [hs]; rfl
      clear hs
      go_enter Tryz.func117, Tryz.ntmps117
      go_wp2_with (go_at_call 111; refine (H.out).mono ?_; rintro e w' ⟨rfl, rfl⟩)
      go_ret
      exact ⟨rfl, rfl⟩
    · rw [if_neg hs]
      have h0 : ((s.size : Int) != 4096) = true := by rw [bne_iff_ne]; omega
      clear hs
      go_enter Tryz.func117, Tryz.ntmps117
      go_wp2_with (go_at_call 111; refine (H.out).mono ?_; rintro e w' ⟨rfl, rfl⟩)
      go_ret
      exact ⟨rfl, rfl⟩
theorem has {w : World} {b : Nat} {bv cv : Value} {D : Dk} (h : Has false w b bv cv D) (i : Int) : Calls Tryz.prog 111 #[.pointer (some ⟨b, 0, none⟩), .int .i64 i] w fun e w' => e = .returned (.bool (D.has i)) ∧ w = w' := by
  obtain ⟨g, c, rfl⟩ := h.bv_eq
  exact has_any b _ c _ i w h.c0
theorem takes {w : World} {b : Nat} {bv cv : Value} {D : Dk} (h : Has false w b bv cv D) (i : Int) (s : ByteArray) : Calls Tryz.prog 117 #[.pointer (some ⟨b, 0, none⟩), .int .i64 i, .string s] w fun e w' => e = .returned (.int .i64 (D.no i s : Nat)) ∧ w = w' := by
  obtain ⟨g, c, rfl⟩ := h.bv_eq
  exact takes_any b _ c _ i s w h.c0
theorem Size {w : World} {b : Nat} {bv cv : Value} {D : Dk} (h : Has false w b bv cv D) : Calls Tryz.prog 35 #[.pointer (some ⟨b, 0, none⟩)] w fun e w' => e = .returned (.int .i64 D.bl.length) ∧ w = w' := by
  have H := Lib.hid (isNone h)
  obtain ⟨g, c, rfl⟩ := h.bv_eq
  have h0 := h.c0
  clear h
  generalize D.bl.length = n at *
  go_enter Tryz.func35, Tryz.ntmps35
  go_wp2_with (go_at_call 51; refine (H.out).mono ?_; rintro e w' ⟨rfl, rfl⟩)
  go_ret
  exact ⟨rfl, rfl⟩
theorem Down {w : World} {b : Nat} {bv cv : Value} {D : Dk} (h : Has false w b bv cv D) : Calls Tryz.prog 13 #[.pointer (some ⟨b, 0, none⟩)] w fun e w' => e = .returned (.bool D.down) ∧ w = w' := by
  have H := Lib.hid (isNone h)
  have h3 := h.d3
  clear h
  generalize D.down = q at *
  cases q
  all_goals
    go_enter Tryz.func13, Tryz.ntmps13
    go_wp2_with (go_at_call 51; refine (H.out).mono ?_; rintro e w' ⟨rfl, rfl⟩)
    go_ret
    exact ⟨rfl, rfl⟩
end Go.Proofs.YtoilcieineejiaaGreatDoor.DkQ
/- The program's disk: step, Arm, Boot, Over: the walks of their texts. No conditions but those that each lemma names. -/
namespace Go.Proofs.YtoilcieineejiaaGreatDoor.DkS
open Go.RowKit
open DkN DkM DkQ
theorem set23 {w : World} {b : Nat} {bv cv : Value} {D : Dk} (h : Has false w b bv cv D) (a' : Nat) (f : Bool) (ha : a' ≤ 9223372036854775807) :
    Has false ((w.setCell ⟨b, 2, none⟩ (.int .i64 a')).setCell ⟨b, 3, none⟩ (.bool f)) b bv cv { D with armed := a', down := f } := by
  refine h.rehead ?_ (fun k hk => (set_cell_block hk).trans (set_cell_block hk)) rfl rfl ⟨h.ok.lo, h.ok.hi, h.ok.full, h.ok.few, h.ok.good, ha⟩
  exact (blk_set (blk_set h.head)).trans rfl
theorem set2 {w : World} {b : Nat} {bv cv : Value} {D : Dk} (h : Has false w b bv cv D) (a' : Nat) (ha : a' ≤ 9223372036854775807) :
    Has false (w.setCell ⟨b, 2, none⟩ (.int .i64 a')) b bv cv { D with armed := a' } := by
  refine h.rehead ?_ (fun k hk => set_cell_block hk) rfl rfl ⟨h.ok.lo, h.ok.hi, h.ok.full, h.ok.few, h.ok.good, ha⟩
  exact (blk_set h.head).trans rfl
theorem step_0 {w : World} {b : Nat} {bv cv : Value} {D : Dk} (h : Has false w b bv cv D) (hd : D.down = false) (ha : D.armed = 0) :
    Calls Tryz.prog 80 #[.pointer (some ⟨b, 0, none⟩)] w fun e w' => e = .returned (.int .i64 0) ∧ Did false w b bv cv D.tick w' := by
  have ht : D.tick = D := by
    obtain ⟨x, y, z, f⟩ := D
    simp only at hd ha
    subst hd ha
    rfl
  have HR := ready h
  rw [if_neg (by rw [hd]; exact Bool.false_ne_true)] at HR
  have H := Lib.hid HR
  have h2 := h.d2
  rw [ha] at h2
  rw [ht]
  have HH := Lib.hid h
  clear h HR hd ha ht
  go_enter Tryz.func80, Tryz.ntmps80
  go_wp2_with (go_at_call 50; refine (H.out).mono ?_; rintro e w' ⟨rfl, rfl⟩)
  go_ret
  exact ⟨rfl, HH.out.same⟩
theorem step_1 {w : World} {b : Nat} {bv cv : Value} {D : Dk} (h : Has false w b bv cv D) (k : Nat) (ha : D.armed = k + 1) (q : Bool) (hq : decide (k = 0) = q) :
    Calls Tryz.prog 80 #[.pointer (some ⟨b, 0, none⟩)] w fun e w' => e = .returned (.int .i64 (if q then 14 else 0)) ∧ Did false w b bv cv D.tick w' := by
  have hk : k + 1 ≤ 9223372036854775807 := by have := h.ok.arm; omega
  have ht : D.tick = { D with armed := k, down := q } := by
    unfold Dk.tick
    rw [ha, ← hq]
    simp
  have H1 := set23 h k q (by omega)
  rw [← ht] at H1
  have HR := ready H1
  have hdq : D.tick.down = q := by rw [ht]
  rw [hdq] at HR
  have H := Lib.hid HR
  have h2 := h.d2
  have h3 := h.d3
  have f2 := h.free 2
  have f3 := h.free 3
  rw [ha] at h2
  have h2' : w.cell? ⟨b, 2, none⟩ = some (.int .i64 ((k : Int) + 1)) := h2
  have HD : Hid (Did false w b bv cv D.tick ((w.setCell ⟨b, 2, none⟩ (.int .i64 k)).setCell ⟨b, 3, none⟩ (.bool q))) := did_rehead H1 (Kept.set2 w (.inl rfl) _ _ _ _)
  have hkq : ((k : Int) == 0) = q := by rw [← hq]; cases k <;> simp; omega
  have hc2 : (w.setCell ⟨b, 2, none⟩ (.int .i64 (k : Int))).cell? ⟨b, 2, none⟩ = some (.int .i64 (k : Int)) := World.cell?_setCell_same' _ _ _ (by rw [h2]; rfl)
  clear h HR H1 ha ht hdq h2 hq
  generalize D.tick = T at *
  cases q
  all_goals
    go_enter Tryz.func80, Tryz.ntmps80
    go_wp2_with (go_at_call 50; refine (H.out).mono ?_; rintro e w' ⟨rfl, rfl⟩)
    go_ret
    exact ⟨rfl, HD.out⟩
/-- THE CONTRACT of step, at a disk that has power. -/
theorem step {w : World} {b : Nat} {bv cv : Value} {D : Dk} (h : Has false w b bv cv D) (hd : D.down = false) :
    Calls Tryz.prog 80 #[.pointer (some ⟨b, 0, none⟩)] w fun e w' => e = .returned (.int .i64 (if decide (D.armed = 1) then 14 else 0)) ∧ Did false w b bv cv D.tick w' := by
  match ha : D.armed with
  | 0 => exact step_0 h hd ha
  | k + 1 => exact step_1 h k ha _ (by simp)
end Go.Proofs.YtoilcieineejiaaGreatDoor.DkS
/- The program's disk: Arm, Boot, Over: the walks of their texts. No conditions but those that each lemma names. -/
namespace Go.Proofs.YtoilcieineejiaaGreatDoor.DkB
open Go.RowKit
open DkN DkM DkQ DkS
theorem Arm {w : World} {b : Nat} {bv cv : Value} {D : Dk} (h : Has false w b bv cv D) (n : Int) (hn : n ≤ 9223372036854775807) :
    Calls Tryz.prog 11 #[.pointer (some ⟨b, 0, none⟩), .int .i64 n] w fun e w' => e = .returned (.int .i64 ((D.arm_ n).1 : Nat)) ∧ Did false w b bv cv (D.arm_ n).2 w' := by
  have HR := Lib.hid (ready h)
  by_cases hd : D.down = true
  · have e : D.arm_ n = (14, D) := by unfold Dk.arm_; rw [if_pos hd]
    rw [e]
    rw [if_pos hd] at HR
    have HD := Lib.hid h.same
    clear h hd e
    go_enter Tryz.func11, Tryz.ntmps11
    go_wp2_with (go_at_call 50; refine (HR.out).mono ?_; rintro e w' ⟨rfl, rfl⟩)
    go_ret
    exact ⟨rfl, HD.out⟩
  · rw [if_neg hd] at HR
    by_cases h0 : n < 0
    · have e : D.arm_ n = (2, D) := by unfold Dk.arm_; rw [if_neg hd, if_pos h0]
      rw [e]
      have HD := Lib.hid h.same
      clear h hd e
      go_enter Tryz.func11, Tryz.ntmps11
      go_wp2_with (go_at_call 50; refine (HR.out).mono ?_; rintro e w' ⟨rfl, rfl⟩)
      go_ret
      exact ⟨rfl, HD.out⟩
    · obtain ⟨k, rfl⟩ : ∃ k : Nat, n = (k : Int) := ⟨n.toNat, by omega⟩
      have e : D.arm_ (k : Int) = (0, { D with armed := k }) := by unfold Dk.arm_; rw [if_neg hd, if_neg h0]; rfl
      rw [e]
      have h2 := h.d2
      have f2 := h.free 2
      have HD : Hid (Did false w b bv cv { D with armed := k } (w.setCell ⟨b, 2, none⟩ (.int .i64 k))) := did_rehead (set2 h k (by omega)) ((Kept.refl _ w).set_ (.inl rfl) _ _)
      clear h hd e
      go_enter Tryz.func11, Tryz.ntmps11
      go_wp2_with (go_at_call 50; refine (HR.out).mono ?_; rintro e w' ⟨rfl, rfl⟩)
      go_ret
      exact ⟨rfl, HD.out⟩
theorem set123 {w : World} {b : Nat} {bv cv : Value} {D : Dk} (h : Has false w b bv cv D) :
    Has false (((w.setCell ⟨b, 1, none⟩ (.slice none 0 0)).setCell ⟨b, 2, none⟩ (.int .i64 0)).setCell ⟨b, 3, none⟩ (.bool false)) b bv (.slice none 0 0) D.boot := by
  refine h.renil ?_ (fun k hk => ((set_cell_block hk).trans (set_cell_block hk)).trans (set_cell_block hk)) rfl rfl (boot_ok h.ok)
  exact (blk_set (blk_set (blk_set h.head))).trans rfl
theorem Boot {w : World} {b : Nat} {bv cv : Value} {D : Dk} (h : Has false w b bv cv D) :
    Calls Tryz.prog 15 #[.pointer (some ⟨b, 0, none⟩)] w fun e w' => e = .returned (.int .i64 0) ∧ Did false w b bv cv D.boot w' := by
  have H := Lib.hid (isNone h)
  have HD : Hid (Did false w b bv cv D.boot _) := did_nil (set123 h) (Kept.set3 w (.inl rfl) _ _ _ _ _ _)
  have h1 := h.c1
  have h2 := h.d2
  have h3 := h.d3
  have f1 := h.free 1
  have f2 := h.free 2
  have f3 := h.free 3
  obtain ⟨a, c, rfl⟩ := h.cv_eq
  clear h
  go_enter Tryz.func15, Tryz.ntmps15
  go_wp2_with (go_at_call 51; refine (H.out).mono ?_; rintro e w' ⟨rfl, rfl⟩)
  go_ret
  exact ⟨rfl, HD.out⟩
/-- A block of the row is written. -/
theorem own_set_at {w : World} {base : Nat} {e : TypeId} {g n c : Nat} {xs : List Value} (h : w.ownsRow base e 1 (.slice (some ⟨g, 0, none⟩) n c) n xs) (i : Nat) (v : Value) :
    (w.setCell ⟨g, i, none⟩ v).ownsRow base e 1 (.slice (some ⟨g, 0, none⟩) n c) n (xs.set i v) := by
  refine ⟨by simpa using h.1, .inr ?_⟩
  rcases h.2 with ⟨h0, _⟩ | ⟨g', cap, cur, hv, hb, hg, hn, hm, hs, ht⟩
  · cases h0
  · cases hv
    exact ⟨g, c, cur.setIfInBounds i v, rfl, hb, blk_set hg, hn, hm, by simpa using hs, by rw [Array.toList_setIfInBounds, List.take_set, ht]⟩
theorem strs_set (l : List ByteArray) (i : Nat) (s : ByteArray) : (l.set i s).map Value.string = (l.map Value.string).set i (.string s) := by rw [List.map_set]
/-- A block in its own place. -/
theorem Has.setBlock {r : Bool} {w : World} {b g n c : Nat} {cv : Value} {D : Dk} (h : Has r w b (.slice (some ⟨g, 0, none⟩) n c) cv D) (i : Nat) (s : ByteArray) (ho : Dk.ok { D with bl := D.bl.set i s }) :
    Has r (w.setCell ⟨g, i, none⟩ (.string s)) b (.slice (some ⟨g, 0, none⟩) n c) cv { D with bl := D.bl.set i s } := by
  have hbg : b ≠ g := fun e => h.bne (by rw [e]; rfl)
  obtain ⟨g', c', e⟩ := h.bv_eq
  have hn : n = D.bl.length := by cases e; rfl
  subst hn
  refine ⟨ho, ?_, ?_, own_kept h.rc fun k e => set_cell_block (fun e' => h.bcne k (by rw [e']; rfl) e)⟩
  · rw [set_cell_block hbg]; exact h.head
  · show (w.setCell ⟨g, i, none⟩ (.string s)).ownsRow 0 9 1 (.slice (some ⟨g, 0, none⟩) D.bl.length c) (D.bl.set i s).length ((D.bl.set i s).map Value.string)
    rw [List.length_set, strs_set]
    exact own_set_at h.rb i _
end Go.Proofs.YtoilcieineejiaaGreatDoor.DkB
/- The program's disk: Write: the walk of its text. No conditions but those that each lemma names. -/
namespace Go.Proofs.YtoilcieineejiaaGreatDoor.DkW
open Go.RowKit
open DkN DkM DkQ DkS DkB
theorem info_put : (Tryz.prog.info? 107).map (fun i => (i.zero, i.size, i.bytes)) = some (some (.agg #[.int .i64 0, .string ⟨#[]⟩]), 2, 24) := by kernel_rfl
theorem new_put (w : World) (x y : Value) (t : TypeId) : ∀ j u, [x, y][j]? = some u → (w.alloc (.cells #[x, y] t)).cell? ((⟨w.heap.size, 0, none⟩ : Addr).add j) = some u := by
  intro j u hj
  rw [add_off, Nat.zero_add]
  exact blk_cell (heap_alloc_new w _) (by simpa using hj)
/-- Behind an append to the cache, and the store of the field. -/
theorem appended {r : Bool} {w w2 : World} {b : Nat} {bv cv v' : Value} {D : Dk} (h : Has r w b bv cv D) (k : Nat) (s : ByteArray) (o : Obj)
    (ho : Dk.ok { D with ca := D.ca ++ [(k, s)] })
    (hown : w2.ownsRow 0 107 2 v' (D.ca.length + 1) (putCells D.ca ++ [.int .i64 k, .string s])) (hg : (w.alloc o).grownBy w2 cv.ownBlock)
    (hl : v'.ownBlock = cv.ownBlock ∨ v'.ownBlock = some (w.alloc o).heap.size) :
    w2.cell? ⟨b, 1, none⟩ = some cv ∧ w2.frozen? ⟨b, 1, none⟩ = false ∧ Did r w b bv cv { D with ca := D.ca ++ [(k, s)] } (w2.setCell ⟨b, 1, none⟩ v') := by
  have hbs := h.lt
  have ha := World.grownBy_alloc w o none
  have hk : Kept (Foot b bv cv) w w2 := ⟨hg.os.trans ha.os, hg.tape.trans ha.tape, hg.output.trans ha.output, Nat.le_trans ha.size hg.size, fun i hi hn =>
    (hg.block i (Nat.lt_of_lt_of_le hi ha.size) (fun e => hn (.inr (.inr e.symm)))).trans (ha.block i hi (by simp))⟩
  have hold : ∀ i, i < w.heap.size → cv.ownBlock ≠ some i → w2.heap[i]? = w.heap[i]? := fun i hi hn => (hg.block i (Nat.lt_of_lt_of_le hi ha.size) (fun e => hn e.symm)).trans (ha.block i hi (by simp))
  have hb2 : w2.heap[b]? = w.heap[b]? := hold b hbs h.cne
  have hvb : v'.ownBlock ≠ some b := by
    intro e
    rcases hl with e' | e'
    · exact h.cne (e'.symm.trans e)
    · rw [e', World.size_alloc] at e; injection e; omega
  refine ⟨(World.cell?_of_block (a := ⟨b, 1, none⟩) hb2).trans h.c1, (World.frozen?_of_block (a := ⟨b, 1, none⟩) hb2).trans (h.free 1), v', ⟨ho, ?_, ?_, ?_⟩, ?_, hk.set_ (.inl rfl) _ _⟩
  · have hh := hb2.trans h.head
    cases r
    · exact (blk_set hh).trans rfl
    · exact (blk_set hh).trans rfl
  · refine own_kept h.rb fun i e => ?_
    rw [set_cell_block (fun e' => h.bne (by rw [← e']; exact e))]
    exact hold i (h.rb.lt i e).2 (h.bcne i e)
  · refine own_kept (w := w2) ?_ fun i e => set_cell_block (fun e' => hvb (by rw [← e']; exact e))
    rw [show (D.ca ++ [(k, s)]).length = D.ca.length + 1 from by simp, putCells_append]
    exact hown
  · intro i e
    rcases hl with e' | e'
    · exact .inl (e'.symm.trans e)
    · rw [e'] at e
      injection e with e
      rw [World.size_alloc] at e
      exact .inr (by omega)
theorem Write_down {w : World} {b : Nat} {bv cv : Value} {D : Dk} (h : Has false w b bv cv D) (i : Int) (s : ByteArray) (hd : D.down = true) :
    Calls Tryz.prog 83 #[.pointer (some ⟨b, 0, none⟩), .int .i64 i, .string s] w fun e w' => e = .returned (.int .i64 ((D.wr i s).1 : Nat)) ∧ Did false w b bv cv (D.wr i s).2 w' := by
  have HR := Lib.hid (ready h)
  have e : D.wr i s = (14, D) := by unfold Dk.wr; rw [if_pos hd]
  rw [e]
  rw [if_pos hd] at HR
  have HD := Lib.hid h.same
  clear h hd e
  go_enter Tryz.func83, Tryz.ntmps83
  go_wp2_with (go_at_call 50; refine (HR.out).mono ?_; rintro e w' ⟨rfl, rfl⟩)
  go_ret
  exact ⟨rfl, HD.out⟩
theorem Write_no {w : World} {b : Nat} {bv cv : Value} {D : Dk} (h : Has false w b bv cv D) (i : Int) (s : ByteArray) (hd : ¬ D.down = true) (m : Nat) (hm : D.no i s = m + 1) :
    Calls Tryz.prog 83 #[.pointer (some ⟨b, 0, none⟩), .int .i64 i, .string s] w fun e w' => e = .returned (.int .i64 ((D.wr i s).1 : Nat)) ∧ Did false w b bv cv (D.wr i s).2 w' := by
  have HR := Lib.hid (ready h)
  have HT := Lib.hid (takes h i s)
  have e : D.wr i s = (D.no i s, D) := by unfold Dk.wr; rw [if_neg hd, if_neg (by omega)]
  rw [e]
  rw [if_neg hd] at HR
  have HD := Lib.hid h.same
  have hne : (((m + 1 : Nat) : Int) != 0) = true := by rw [bne_iff_ne]; omega
  rw [hm] at HT ⊢
  clear h hd e hm
  generalize m + 1 = q at *
  go_enter Tryz.func83, Tryz.ntmps83
  go_wp2_with (first
    | (go_at_call 50; refine (HR.out).mono ?_; rintro e w' ⟨rfl, rfl⟩)
    | (go_at_call 117; refine (HT.out).mono ?_; rintro e w' ⟨rfl, rfl⟩))
  go_ret
  exact ⟨rfl, HD.out⟩
theorem Write_full {w : World} {b : Nat} {bv cv : Value} {D : Dk} (h : Has false w b bv cv D) (i : Int) (s : ByteArray) (hd : ¬ D.down = true) (hm : D.no i s = 0) (hf : 4096 ≤ D.ca.length) :
    Calls Tryz.prog 83 #[.pointer (some ⟨b, 0, none⟩), .int .i64 i, .string s] w fun e w' => e = .returned (.int .i64 ((D.wr i s).1 : Nat)) ∧ Did false w b bv cv (D.wr i s).2 w' := by
  have HR := Lib.hid (ready h)
  have HT := Lib.hid (takes h i s)
  have e : D.wr i s = (5, D) := by unfold Dk.wr; rw [if_neg hd, if_pos hm, if_pos hf]
  rw [e]
  rw [if_neg hd] at HR
  have HD := Lib.hid h.same
  rw [hm] at HT
  have c1 := h.c1
  obtain ⟨a, c, rfl⟩ := h.cv_eq
  have hge : 4096 ≤ (D.ca.length : Int) := by omega
  clear h hd e hm hf
  generalize D.ca.length = n at *
  go_enter Tryz.func83, Tryz.ntmps83
  go_wp2_with (first
    | (go_at_call 50; refine (HR.out).mono ?_; rintro e w' ⟨rfl, rfl⟩)
    | (go_at_call 117; refine (HT.out).mono ?_; rintro e w' ⟨rfl, rfl⟩))
  go_ret
  exact ⟨rfl, HD.out⟩
set_option maxRecDepth 100000 in
theorem Write_off {w : World} {b : Nat} {bv cv : Value} {D : Dk} (h : Has false w b bv cv D) (i : Int) (s : ByteArray) (hd : ¬ D.down = true) (hm : D.no i s = 0) (hf : ¬ 4096 ≤ D.ca.length) (ha : D.armed = 1) :
    Calls Tryz.prog 83 #[.pointer (some ⟨b, 0, none⟩), .int .i64 i, .string s] w fun e w' => e = .returned (.int .i64 ((D.wr i s).1 : Nat)) ∧ Did false w b bv cv (D.wr i s).2 w' := by
  have HR := Lib.hid (ready h)
  have HT := Lib.hid (takes h i s)
  have HS := Lib.hid (DkS.step h (by simpa using hd))
  have e : D.wr i s = (14, D.tick) := by unfold Dk.wr; rw [if_neg hd, if_pos hm, if_neg hf, if_pos ha]
  rw [e]
  rw [if_neg hd] at HR
  rw [if_pos (decide_eq_true ha)] at HS
  rw [hm] at HT
  have c1 := h.c1
  obtain ⟨a, c, rfl⟩ := h.cv_eq
  have hge : ¬ 4096 ≤ (D.ca.length : Int) := by omega
  clear h hd e hm hf ha
  generalize D.ca.length = n at *
  generalize D.tick = T at *
  go_enter Tryz.func83, Tryz.ntmps83
  go_wp2_with (first
    | (go_at_call 50; refine (HR.out).mono ?_; rintro e w' ⟨rfl, rfl⟩)
    | (go_at_call 117; refine (HT.out).mono ?_; rintro e w' ⟨rfl, rfl⟩)
    | (go_at_call 80; refine (HS.out).mono ?_; rintro e w1 ⟨rfl, hd1⟩; have HD := Lib.hid hd1; clear hd1))
  go_ret
  exact ⟨rfl, HD.out⟩
set_option maxRecDepth 100000 in
theorem Write_yes {w : World} {b : Nat} {bv cv : Value} {D : Dk} (h : Has false w b bv cv D) (i : Int) (s : ByteArray) (hd : ¬ D.down = true) (hm : D.no i s = 0) (hf : ¬ 4096 ≤ D.ca.length) (ha : ¬ D.armed = 1) :
    Calls Tryz.prog 83 #[.pointer (some ⟨b, 0, none⟩), .int .i64 i, .string s] w fun e w' => e = .returned (.int .i64 ((D.wr i s).1 : Nat)) ∧ Did false w b bv cv (D.wr i s).2 w' := by
  have HR := Lib.hid (ready h)
  have HT := Lib.hid (takes h i s)
  have HS := Lib.hid (DkS.step h (by simpa using hd))
  have hok := wr_ok h.ok i s
  have e : D.wr i s = (0, { D.tick with ca := D.tick.ca ++ [(i.toNat, s)] }) := by unfold Dk.wr; rw [if_neg hd, if_pos hm, if_neg hf, if_neg ha]; rfl
  rw [e] at hok ⊢
  rw [if_neg hd] at HR
  rw [if_neg (by simpa using ha)] at HS
  rw [hm] at HT
  obtain ⟨k, rfl⟩ : ∃ k : Nat, i = (k : Int) := ⟨i.toNat, by have := (no_zero hm).1; omega⟩
  rw [Int.toNat_natCast] at *
  have c1 := h.c1
  obtain ⟨a, c, rfl⟩ := h.cv_eq
  have hge : ¬ 4096 ≤ (D.ca.length : Int) := by omega
  have hl4 : D.tick.ca.length < 4096 := by show D.ca.length < 4096; omega
  clear h hd e hm hf ha
  generalize D.ca.length = n at *
  generalize D.tick = T at *
  have HO := Lib.hid hok
  clear hok
  obtain ⟨i0, hi, hz0, hz1, hz2⟩ := info_parts info_put
  go_enter Tryz.func83, Tryz.ntmps83
  go_wp2_with (first
    | (go_at_call 50; refine (HR.out).mono ?_; rintro e w' ⟨rfl, rfl⟩)
    | (go_at_call 117; refine (HT.out).mono ?_; rintro e w' ⟨rfl, rfl⟩)
    | (go_at_call 80; refine (HS.out).mono ?_; rintro e w1 ⟨rfl, cv1, hh1, hn1, hk1⟩; have HN := Lib.hid hn1; have HK := Lib.hid hk1; have HH := Lib.hid hh1; have cc1 := hh1.c1; have hrc := hh1.rc; clear hn1 hk1 hh1)
    | (at_builtin; refine wpList_append_own_at _ rfl _ _ 47 rfl 0 107 i0 (.agg #[.int .i64 0, .string ⟨#[]⟩]) 2 24 Tryz.underlying47 hi hz0 hz1 hz2 rfl (by decide) _ _ _ rfl (hrc.alloc _) ⟨w1.heap.size, 0, none⟩ 1 1 [.int .i64 (k : Int), .string s] rfl rfl (new_put _ _ _ _) (by simp [Value.oneCell']) (by unfold maxLen; omega) (by omega) (by omega) ?_; intro v' w2 hown hgrow _ hloc; obtain ⟨hc2, hf2, hd2⟩ := appended HH.out k s _ HO.out hown hgrow hloc; obtain ⟨a2, l2, c2, rfl⟩ := own_slice hown; have HD := Lib.hid hd2; clear hd2 hgrow hloc hown hrc cc1))
  go_ret
  exact ⟨rfl, Did.then_ HH.out HN.out HK.out HD.out⟩
/-- THE CONTRACT of Write. -/
theorem Write {w : World} {b : Nat} {bv cv : Value} {D : Dk} (h : Has false w b bv cv D) (i : Int) (s : ByteArray) :
    Calls Tryz.prog 83 #[.pointer (some ⟨b, 0, none⟩), .int .i64 i, .string s] w fun e w' => e = .returned (.int .i64 ((D.wr i s).1 : Nat)) ∧ Did false w b bv cv (D.wr i s).2 w' := by
  by_cases hd : D.down = true
  · exact Write_down h i s hd
  match hm : D.no i s with
  | m + 1 => exact Write_no h i s hd m hm
  | 0 =>
    by_cases hf : 4096 ≤ D.ca.length
    · exact Write_full h i s hd hm hf
    by_cases ha : D.armed = 1
    · exact Write_off h i s hd hm hf ha
    · exact Write_yes h i s hd hm hf ha
end Go.Proofs.YtoilcieineejiaaGreatDoor.DkW
