/- DkRA DkRW DkRS DkRC DkRN: one behind the other. -/
import Derived.Test.YtoilcieineejiaaGreatDoorLDki
import Derived.Deep.RegionHeld3
import Derived.BigRegion
import Derived.Deep.RegionLaw
import Derived.Deep.AppendLies
/- The document's disk: last, Arm, Boot, Over, Write: the walks of their texts. No conditions but those that each lemma names. -/
namespace Go.Proofs.YtoilcieineejiaaGreatDoor.DkRA
open Go.RowKit
open DkN DkM DkB DkW
theorem set23 {w : World} {b : Nat} {bv cv : Value} {D : Dk} (h : Has true w b bv cv D) (a' : Nat) (ha : a' ≤ 9223372036854775807) :
    Has true (w.setCell ⟨b, 3, none⟩ (.int .i64 a')) b bv cv { D with armed := a' } := by
  refine h.rehead ?_ (fun k hk => set_cell_block hk) rfl rfl ⟨h.ok.lo, h.ok.hi, h.ok.full, h.ok.few, h.ok.good, ha⟩
  exact (blk_set h.head).trans rfl
theorem set32 {w : World} {b : Nat} {bv cv : Value} {D : Dk} (h : Has true w b bv cv D) (a' : Nat) (f : Bool) (ha : a' ≤ 9223372036854775807) :
    Has true ((w.setCell ⟨b, 3, none⟩ (.int .i64 a')).setCell ⟨b, 2, none⟩ (.bool f)) b bv cv { D with armed := a', down := f } := by
  refine h.rehead ?_ (fun k hk => (set_cell_block hk).trans (set_cell_block hk)) rfl rfl ⟨h.ok.lo, h.ok.hi, h.ok.full, h.ok.few, h.ok.good, ha⟩
  exact (blk_set (blk_set h.head)).trans rfl
theorem set123 {w : World} {b : Nat} {bv cv : Value} {D : Dk} (h : Has true w b bv cv D) :
    Has true (((w.setCell ⟨b, 1, none⟩ (.slice none 0 0)).setCell ⟨b, 2, none⟩ (.bool false)).setCell ⟨b, 3, none⟩ (.int .i64 0)) b bv (.slice none 0 0) D.boot := by
  refine h.renil ?_ (fun k hk => ((set_cell_block hk).trans (set_cell_block hk)).trans (set_cell_block hk)) rfl rfl (boot_ok h.ok)
  exact (blk_set (blk_set (blk_set h.head))).trans rfl
end Go.Proofs.YtoilcieineejiaaGreatDoor.DkRA
/- The document's disk: Over, Write: the walks of their texts. No conditions but those that each lemma names. -/
namespace Go.Proofs.YtoilcieineejiaaGreatDoor.DkRW
open Go.RowKit
open DkN DkM DkB DkW DkRA
/-- The three ways to be refused, and the one to be taken. -/
inductive Way (D : Dk) (i : Int) (s : ByteArray) : Prop
  | low (h : i < 0) (e : D.no i s = 4)
  | high (h0 : ¬ i < 0) (h : ¬ i < (D.bl.length : Int)) (e : D.no i s = 4)
  | size (h0 : ¬ i < 0) (h : i < (D.bl.length : Int)) (hs : s.size ≠ 4096) (e : D.no i s = 2)
  | good (h0 : ¬ i < 0) (h : i < (D.bl.length : Int)) (hs : s.size = 4096) (e : D.no i s = 0)
theorem way (D : Dk) (i : Int) (s : ByteArray) : Way D i s := by
  by_cases h0 : i < 0
  · exact .low h0 (by unfold Dk.no Dk.has; rw [if_neg (by simp; omega)])
  by_cases h1 : i < (D.bl.length : Int)
  · by_cases hs : s.size = 4096
    · exact .good h0 h1 hs (by unfold Dk.no Dk.has; rw [if_pos (by simp; omega), if_pos hs])
    · exact .size h0 h1 hs (by unfold Dk.no Dk.has; rw [if_pos (by simp; omega), if_neg hs])
  · exact .high h0 h1 (by unfold Dk.no Dk.has; rw [if_neg (by simp; omega)])
end Go.Proofs.YtoilcieineejiaaGreatDoor.DkRW
/- The document's disk: Shown, Read, Flush: the walks of their texts. No conditions but those that each lemma names. -/
namespace Go.Proofs.YtoilcieineejiaaGreatDoor.DkRS
open Go.RowKit
open DkN DkM DkB DkT DkRA DkRW
/-- The blocks when the first j are laid as they are shown. -/
def fl (ca : List (Nat × ByteArray)) (bl : List ByteArray) : Nat → List ByteArray
  | 0 => bl
  | j + 1 => (fl ca bl j).set j (DkN.seen j ca ((fl ca bl j).getD j ByteArray.empty))
theorem fl_length (ca : List (Nat × ByteArray)) (bl : List ByteArray) (j : Nat) : (fl ca bl j).length = bl.length := by
  induction j with
  | zero => rfl
  | succ j ih => rw [fl, List.length_set, ih]
theorem fl_ge (ca : List (Nat × ByteArray)) (bl : List ByteArray) (j k : Nat) (h : j ≤ k) : (fl ca bl j)[k]? = bl[k]? := by
  induction j with
  | zero => rfl
  | succ j ih => rw [fl, List.getElem?_set_ne (by omega), ih (by omega)]
theorem fl_lt (ca : List (Nat × ByteArray)) (bl : List ByteArray) (j k : Nat) (h : k < j) (hk : k < bl.length) : (fl ca bl j)[k]? = some (DkN.seen k ca bl[k]) := by
  induction j with
  | zero => omega
  | succ j ih =>
    by_cases hkj : k = j
    · subst hkj
      rw [fl, List.getElem?_set_self (by rw [fl_length]; exact hk), List.getD, fl_ge ca bl k k (Nat.le_refl _)]
      simp [hk]
    · rw [fl, List.getElem?_set_ne (by omega)]
      exact ih (by omega)
theorem fl_all (ca : List (Nat × ByteArray)) (bl : List ByteArray) : fl ca bl bl.length = kset (fun _ => true) 0 ca bl :=
  kset_seen ca bl _ (fl_length ca bl _) fun i hi => fl_lt ca bl _ i hi hi
theorem fl_full (ca : List (Nat × ByteArray)) (bl : List ByteArray) (p : ByteArray → Prop) (hb : ∀ s ∈ bl, p s) (hc : ∀ x ∈ ca, p x.2) (j : Nat) (hj : j ≤ bl.length) : ∀ s ∈ fl ca bl j, p s := by
  have seen_p : ∀ (l : List (Nat × ByteArray)) (k : Nat) (s : ByteArray), (∀ x ∈ l, p x.2) → p s → p (DkN.seen k l s) := by
    intro l
    induction l with
    | nil => intro k s _ h; exact h
    | cons x l ih =>
      intro k s hl hs
      rw [DkN.seen]
      refine ih k _ (fun y hy => hl y (List.mem_cons_of_mem _ hy)) ?_
      split
      · exact hl x (List.mem_cons_self ..)
      · exact hs
  induction j with
  | zero => exact hb
  | succ j ih =>
    intro s hs
    have ihj := ih (by omega)
    rcases List.mem_or_eq_of_mem_set hs with h | rfl
    · exact ihj s h
    · refine seen_p ca j _ hc ?_
      have hjl : j < (fl ca bl j).length := by rw [fl_length]; omega
      rw [show (fl ca bl j).getD j ByteArray.empty = (fl ca bl j)[j] by simp [List.getD, hjl]]
      exact ihj _ (List.getElem_mem hjl)
theorem fl_ok {D : Dk} (h : D.ok) (j : Nat) (hj : j ≤ D.bl.length) : Dk.ok { D with bl := fl D.ca D.bl j } :=
  ⟨by simpa [fl_length] using h.lo, by simpa [fl_length] using h.hi, fl_full D.ca D.bl _ h.full (fun x hx => (h.good x hx).2) j hj, h.few, fun x hx => by simpa [fl_length] using h.good x hx, h.arm⟩
/-- The loop of Flush. -/
theorem fl_shown (D : Dk) (j : Nat) : Dk.shown { D with bl := fl D.ca D.bl j } (j : Int) = DkN.seen j D.ca ((fl D.ca D.bl j).getD j ByteArray.empty) := by
  unfold Dk.shown
  rw [Int.toNat_natCast]
theorem far1 {w : World} {b g i j : Nat} (hne : b ≠ g) (u : Value) : (w.setCell ⟨g, j, none⟩ u).cell? ⟨b, i, none⟩ = w.cell? ⟨b, i, none⟩ := World.cell?_of_block (a := ⟨b, i, none⟩) (set_cell_block hne)
end Go.Proofs.YtoilcieineejiaaGreatDoor.DkRS
/- The document's disk: in, Crash: the walks of their texts. No conditions but those that each lemma names. -/
namespace Go.Proofs.YtoilcieineejiaaGreatDoor.DkRC
open Go.RowKit
open DkN DkM DkB DkT DkRA DkRW DkRS
theorem setC {w : World} {b : Nat} {bv cv : Value} {D : Dk} (h : Has true w b bv cv D) :
    Has true (((w.setCell ⟨b, 1, none⟩ (.slice none 0 0)).setCell ⟨b, 2, none⟩ (.bool true)).setCell ⟨b, 3, none⟩ (.int .i64 0)) b bv (.slice none 0 0) { D with ca := [], armed := 0, down := true } := by
  refine h.renil ?_ (fun k hk => ((set_cell_block hk).trans (set_cell_block hk)).trans (set_cell_block hk)) rfl rfl ⟨h.ok.lo, h.ok.hi, h.ok.full, Nat.zero_le _, (fun x hx => by cases hx), by show 0 ≤ _; omega⟩
  exact (blk_set (blk_set (blk_set h.head))).trans rfl
end Go.Proofs.YtoilcieineejiaaGreatDoor.DkRC
/- The document's disk: New: the walk of its text. No conditions but those that each lemma names. -/
namespace Go.Proofs.YtoilcieineejiaaGreatDoor.DkRN
open Go.RowKit
open DkN DkM DkR DkNew DkC
/-- The image's block, and the row that its first field owns. -/
structure Grow (w0 w : World) (X : Nat) (va : Option Addr) (vn vc : Nat) (z : ByteArray) (j : Nat) : Prop where
  blk : w.heap[X]? = some (.cells #[.slice va vn vc, .slice none 0 0] 49 (0, 0))
  own : w.ownsRow w0.heap.size 9 1 (.slice va vn vc) j ((List.replicate j z).map Value.string)
  below : Below w0.heap.size w0 w
theorem Grow.step {w0 w w' : World} {X : Nat} {va : Option Addr} {vn vc : Nat} {z : ByteArray} {j : Nat} (h : Grow w0 w X va vn vc z j) (hb : Below w.heap.size w w') : Grow w0 w' X va vn vc z j :=
  ⟨(hb.block X (Array.getElem?_eq_some_iff.1 h.blk).1).trans h.blk, own_kept h.own fun k e => hb.block k (h.own.lt k e).2, h.below.trans (hb.mono h.below.size)⟩
theorem Grow.drew {w0 w : World} {X : Nat} {va : Option Addr} {vn vc : Nat} {z : ByteArray} {j : Nat} (h : Grow w0 w X va vn vc z j) : Grow w0 w.drew X va vn vc z j := ⟨h.blk, h.own, h.below.drew⟩
theorem Grow.c0 {w0 w : World} {X : Nat} {va : Option Addr} {vn vc : Nat} {z : ByteArray} {j : Nat} (h : Grow w0 w X va vn vc z j) : w.cell? ⟨X, 0, none⟩ = some (.slice va vn vc) := blk_cell h.blk rfl
theorem Grow.free {w0 w : World} {X : Nat} {va : Option Addr} {vn vc : Nat} {z : ByteArray} {j : Nat} (h : Grow w0 w X va vn vc z j) : w.frozen? ⟨X, 0, none⟩ = false := blk_free h.blk
theorem Grow.ne {w0 w : World} {X : Nat} {va : Option Addr} {vn vc : Nat} {z : ByteArray} {j : Nat} (h : Grow w0 w X va vn vc z j) : (Value.slice va vn vc).ownBlock ≠ some X := by
  intro e
  rcases h.own.2 with ⟨hv, _⟩ | ⟨g, cap, cur, hv, _, hg, _⟩
  · rw [hv] at e; cases e
  · rw [hv] at e
    have e' : g = X := by simpa [Value.ownBlock] using e
    subst e'
    have := hg.symm.trans h.blk
    simp at this
/-- Behind the append and the store of the field. -/
theorem Grow.next {w0 w w2 : World} {X : Nat} {va : Option Addr} {vn vc : Nat} {z : ByteArray} {j : Nat} (h : Grow w0 w X va vn vc z j) (hX : w0.heap.size ≤ X) {a2 : Option Addr} {l2 c2 : Nat}
    (hown : w2.ownsRow w0.heap.size 9 1 (.slice a2 l2 c2) (j + 1) ((List.replicate j z).map Value.string ++ [.string z])) (hg : (w.alloc (.cells #[.string z] 9)).grownBy w2 (Value.slice va vn vc).ownBlock) :
    w2.cell? ⟨X, 0, none⟩ = some (.slice va vn vc) ∧ w2.frozen? ⟨X, 0, none⟩ = false ∧ Grow w0 (w2.setCell ⟨X, 0, none⟩ (.slice a2 l2 c2)) X a2 l2 c2 z (j + 1) := by
  have hlt := (Array.getElem?_eq_some_iff.1 h.blk).1
  have ha := World.grownBy_alloc w (.cells #[.string z] 9) none
  have hb2 : w2.heap[X]? = w.heap[X]? := (hg.block X (Nat.lt_of_lt_of_le hlt ha.size) (fun e => h.ne e.symm)).trans (ha.block X hlt (by simp))
  have hblk := hb2.trans h.blk
  refine ⟨blk_cell hblk rfl, blk_free hblk, ?_, ?_, ?_⟩
  · exact (blk_set hblk).trans rfl
  · rw [List.replicate_succ', List.map_append]
    refine own_kept (w := w2) hown fun k e => set_cell_block fun e' => ?_
    subst e'
    rcases hown.2 with ⟨hv, _⟩ | ⟨g, cap, cur, hv, _, hg', _⟩
    · rw [hv] at e; cases e
    · rw [hv] at e
      have e' : g = k := by simpa [Value.ownBlock] using e
      subst e'
      have := hg'.symm.trans hblk
      simp at this
  · refine Below.setCell ?_ (p := ⟨X, 0, none⟩) hX _
    refine ((h.below.alloc h.below.size (.cells #[.string z] 9))).grown hg (by have := h.below.size; simp; omega) fun k e => (h.own.lt k e).1
end Go.Proofs.YtoilcieineejiaaGreatDoor.DkRN
