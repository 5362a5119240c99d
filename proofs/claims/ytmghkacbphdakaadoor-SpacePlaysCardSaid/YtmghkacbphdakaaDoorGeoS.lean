/- A shape that lies in a block of its own beside what a statement calls. No conditions but those that each lemma names. -/
import Derived.Test.YtmghkacbphdakaaDoorGeoC
namespace Go.Proofs.YtmghkacbphdakaaDoor.GeoS
open Go.RowKit
open GeoN GeoC
/-- What stands while a statement runs: what was stays, the two variables, the shape in its block. -/
structure St (w : World) (a b c : Int) (W : World) : Prop where
  bel : Below w.heap.size w W
  bn : Bnd W
  k : W.heap[w.heap.size]? = some (.cells #[.int .i64 a, .int .i64 b, .int .i64 c] 23 (0, 0))
theorem st_new {w : World} (a b c : Int) (hb : Bnd w) : St w a b c (w.alloc (.cells #[.int .i64 a, .int .i64 b, .int .i64 c] 23)) :=
  have h : Below w.heap.size w (w.alloc (.cells #[.int .i64 a, .int .i64 b, .int .i64 c] 23)) := (Below.refl _ _).alloc (Nat.le_refl _) _
  ⟨h, hb.step h, heap_alloc_new w _⟩
theorem St.lt {w W : World} {a b c : Int} (h : St w a b c W) : w.heap.size < W.heap.size := (Array.getElem?_eq_some_iff.1 h.k).1
theorem St.step {w W W' : World} {a b c : Int} (h : St w a b c W) (hb : Below W.heap.size W W') : St w a b c W' :=
  ⟨h.bel.trans (hb.mono h.bel.size), h.bn.step hb, (hb.block _ h.lt).trans h.k⟩
theorem St.drew {w W : World} {a b c : Int} (h : St w a b c W) : St w a b c W.drew := ⟨h.bel.drew, h.bn.step (Below.refl _ _).drew, h.k⟩
theorem St.cells {w W : World} {a b c : Int} (h : St w a b c W) : W.cell? ⟨w.heap.size, 0, none⟩ = some (.int .i64 a) ∧ W.cell? ⟨w.heap.size, 1, none⟩ = some (.int .i64 b) ∧ W.cell? ⟨w.heap.size, 2, none⟩ = some (.int .i64 c) :=
  ⟨blk_cell h.k rfl, blk_cell h.k rfl, blk_cell h.k rfl⟩
/-- A struct stored into a new block. -/
theorem kept_new (w : World) (old cs : Array Value) (t : TypeId) : Below w.heap.size w ((w.alloc (.cells old t)).setRow w.heap.size cs) := below_setRow ((Below.refl _ _).alloc (Nat.le_refl _) _) (Nat.le_refl _) _
theorem has_new (w : World) (old cs : Array Value) (t : TypeId) : ((w.alloc (.cells old t)).setRow w.heap.size cs).heap[w.heap.size]? = some (.cells cs t (0, 0)) := setRow_same (heap_alloc_new w _)
/-- A shape in a block. -/
def At (W : World) (X : Nat) (x y z : Int) : Prop := W.heap[X]? = some (.cells #[.int .i64 x, .int .i64 y, .int .i64 z] 23 (0, 0))
theorem At.lt {W : World} {X : Nat} {x y z : Int} (h : At W X x y z) : X < W.heap.size := (Array.getElem?_eq_some_iff.1 h).1
theorem At.step {W W' : World} {X : Nat} {x y z : Int} (h : At W X x y z) (hb : Below W.heap.size W W') : At W' X x y z := (hb.block _ h.lt).trans h
theorem At.cells {W : World} {X : Nat} {x y z : Int} (h : At W X x y z) : W.cell? ⟨X, 0, none⟩ = some (.int .i64 x) ∧ W.cell? ⟨X, 1, none⟩ = some (.int .i64 y) ∧ W.cell? ⟨X, 2, none⟩ = some (.int .i64 z) :=
  ⟨blk_cell h rfl, blk_cell h rfl, blk_cell h rfl⟩
end Go.Proofs.YtmghkacbphdakaaDoor.GeoS
