/- What stands while a statement runs that was given a superblock: what was stays, the program's variables, the superblock in its block. No conditions but those that each lemma names. -/
import Derived.Test.YtghljhohbhkdeaaDoorSupX
import Derived.Test.YtghljhohbhkdeaaDoorSupY
namespace Go.Proofs.YtghljhohbhkdeaaDoor.SupK
open Go.RowKit
open GeoN GeoC GeoS SupN SupC SupP
structure Lw (w : World) (g t e k b l f : Int) (W : World) : Prop where
  bel : Below w.heap.size w W
  gl : Gl W
  k : Bk W w.heap.size g t e k b l f
theorem lw_new {w : World} (g t e k b l f : Int) (hg : Gl w) : Lw w g t e k b l f (w.alloc (.cells #[.int .i64 g, .int .i64 t, .int .i64 e, .int .i64 k, .int .i64 b, .int .i64 l, .int .i64 f] 25)) :=
  have h : Below w.heap.size w (w.alloc (.cells #[.int .i64 g, .int .i64 t, .int .i64 e, .int .i64 k, .int .i64 b, .int .i64 l, .int .i64 f] 25)) := (Below.refl _ _).alloc (Nat.le_refl _) _
  ⟨h, hg.step h, heap_alloc_new w _⟩
theorem Lw.step {w W W' : World} {g t e k b l f : Int} (h : Lw w g t e k b l f W) (hb : Below W.heap.size W W') : Lw w g t e k b l f W' :=
  ⟨h.bel.trans (hb.mono h.bel.size), h.gl.step hb, h.k.step hb⟩
theorem Gl.lt {w : World} (h : Gl w) : 0 < w.heap.size ∧ 1 < w.heap.size ∧ 2 < w.heap.size := ⟨h.bn.lt.1, h.bn.lt.2, h.rd.lt⟩
/-- The variables stay where only blocks above them are written. -/
theorem Gl.below {w w' : World} (h : Gl w) {B : Nat} (hb : Below B w w') (h1 : 0 < B) (h2 : 1 < B) (h3 : 2 < B) : Gl w' := ⟨h.bn.below hb h1 h2, h.rd.below hb h3⟩
end Go.Proofs.YtghljhohbhkdeaaDoor.SupK
