/- A space in its block, and a pointer that has none; what stays where a call turns the block; isNone, geo and refused (over any closure): the walks of their texts. No conditions but those that each lemma names. -/
import Derived.Test.YtmghkacbphdakaaDoorSpaN
import Derived.Test.YtmghkacbphdakaaDoorGeoS
import Derived.LoopN
namespace Go.Proofs.YtmghkacbphdakaaDoor.SpaC
open Go.RowKit
open GeoN GeoC GeoS SpaN
/-- A space in a block. -/
def Sp (W : World) (B : Nat) (b l f u : Int) : Prop := W.heap[B]? = some (.cells #[.int .i64 b, .int .i64 l, .int .i64 f, .int .i64 u] 45 (0, 0))
theorem Sp.lt {W : World} {B : Nat} {b l f u : Int} (h : Sp W B b l f u) : B < W.heap.size := (Array.getElem?_eq_some_iff.1 h).1
theorem Sp.step {W W' : World} {B : Nat} {b l f u : Int} (h : Sp W B b l f u) (hb : Below W.heap.size W W') : Sp W' B b l f u := (hb.block _ h.lt).trans h
theorem Sp.cells {W : World} {B : Nat} {b l f u : Int} (h : Sp W B b l f u) : W.cell? ⟨B, 0, none⟩ = some (.int .i64 b) ∧ W.cell? ⟨B, 1, none⟩ = some (.int .i64 l) ∧ W.cell? ⟨B, 2, none⟩ = some (.int .i64 f) ∧ W.cell? ⟨B, 3, none⟩ = some (.int .i64 u) :=
  ⟨blk_cell h rfl, blk_cell h rfl, blk_cell h rfl, blk_cell h rfl⟩
/-- A pointer to no space: none, or to one that no call made. -/
def Non (W : World) (s : Option Addr) : Prop := s = none ∨ ∃ B l f u, s = some ⟨B, 0, none⟩ ∧ Sp W B 0 l f u
theorem Non.step {W W' : World} {s : Option Addr} (h : Non W s) (hb : Below W.heap.size W W') : Non W' s := by
  rcases h with h | ⟨B, l, f, u, h, k⟩
  · exact .inl h
  · exact .inr ⟨B, l, f, u, h, k.step hb⟩
/-- All but one block is as it was. -/
structure But (B : Nat) (w w' : World) : Prop where
  os : w'.os = w.os
  tape : w'.tape = w.tape
  output : w'.output = w.output
  size : w.heap.size ≤ w'.heap.size
  block : ∀ k, k < w.heap.size → k ≠ B → w'.heap[k]? = w.heap[k]?
theorem But.of_below {B : Nat} {w w' : World} (h : Below w.heap.size w w') : But B w w' := ⟨h.os, h.tape, h.output, h.size, fun k hk _ => h.block k hk⟩
theorem But.trans {B : Nat} {u v w : World} (h : But B u v) (k : But B v w) : But B u w :=
  ⟨k.os.trans h.os, k.tape.trans h.tape, k.output.trans h.output, Nat.le_trans h.size k.size, fun i hi hb => (k.block i (Nat.lt_of_lt_of_le hi h.size) hb).trans (h.block i hi hb)⟩
theorem But.step {B : Nat} {u v w : World} (h : But B u v) (k : Below v.heap.size v w) : But B u w := h.trans (.of_below k)
theorem But.set_ {B : Nat} {u w : World} (h : But B u w) (i : Nat) (v : Value) : But B u (w.setCell ⟨B, i, none⟩ v) :=
  h.trans ⟨rfl, rfl, rfl, by simp [World.setCell], fun k _ hk => Below.heap_setCell _ _ _ _ hk⟩
theorem But.below {B C : Nat} {w w' : World} (h : But B w w') (hb : C ≤ B) (hC : C ≤ w.heap.size) : Below C w w' := ⟨h.os, h.tape, h.output, h.size, fun k hk => h.block k (by omega) (by omega)⟩
theorem But.drew {B : Nat} {u w : World} (h : But B u w) : But B u w.drew := ⟨h.os, h.tape, h.output, h.size, h.block⟩
/-- The last cell of a space, stored to. -/
theorem Sp.set_ {W : World} {B : Nat} {b l f u : Int} (h : Sp W B b l f u) (v : Int) : Sp (W.setCell ⟨B, 3, none⟩ (.int .i64 v)) B b l f v := by
  unfold Sp
  rw [blk_set h]
  rfl
theorem isNone_yes (s : Option Addr) (w : World) (h : Non w s) :
    Calls Tryd.prog 24 #[.pointer s] w fun e w' => e = .returned (.bool true) ∧ w = w' := by
  rcases h with rfl | ⟨B, l, f, u, rfl, h⟩
  · go_enter Tryd.func24, Tryd.ntmps24
    go_wp2
    go_ret
    exact ⟨rfl, rfl⟩
  · obtain ⟨k0, _⟩ := h.cells
    clear h
    go_enter Tryd.func24, Tryd.ntmps24
    go_wp2
    go_ret
    exact ⟨rfl, rfl⟩
theorem isNone_no (B : Nat) (b l f u : Int) (w : World) (h : Sp w B b l f u) (hb : (b == 0) = false) :
    Calls Tryd.prog 24 #[.pointer (some ⟨B, 0, none⟩)] w fun e w' => e = .returned (.bool false) ∧ w = w' := by
  obtain ⟨k0, _⟩ := h.cells
  clear h
  go_enter Tryd.func24, Tryd.ntmps24
  go_wp2
  go_ret
  exact ⟨rfl, rfl⟩
end Go.Proofs.YtmghkacbphdakaaDoor.SpaC
