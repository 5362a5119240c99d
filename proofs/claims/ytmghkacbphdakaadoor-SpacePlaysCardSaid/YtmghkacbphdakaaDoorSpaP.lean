/- What stands in a round of SpacePlays: what Now tells, and the act's block. No conditions. -/
import Derived.Test.YtmghkacbphdakaaDoorSpaO
namespace Go.Proofs.YtmghkacbphdakaaDoor.SpaP
open Go.RowKit
open GeoN GeoC GeoS SpaN SpaC SpaO
structure Rnd (w : World) (B : Nat) (b l f u : Int) (X : Nat) (k n : Int) (W : World) : Prop where
  now : Now w B b l f u W
  act : W.heap[X]? = some (.cells #[.int .i64 k, .int .i64 n] 33 (0, 0))
  lt : B < X
variable {w W W' : World} {B X : Nat} {b l f u v k n : Int}
theorem Rnd.step (h : Rnd w B b l f u X k n W) (hb : Below W.heap.size W W') : Rnd w B b l f u X k n W' :=
  ⟨h.now.step hb, (hb.block _ (Array.getElem?_eq_some_iff.1 h.act).1).trans h.act, h.lt⟩
theorem Rnd.turn (h : Rnd w B b l f u X k n W) (q : Sp W' B b l f v ∧ But B W W') : Rnd w B b l f v X k n W' :=
  ⟨h.now.turn q, (q.2.block _ (Array.getElem?_eq_some_iff.1 h.act).1 (Nat.ne_of_gt h.lt)).trans h.act, h.lt⟩
theorem Rnd.cells (h : Rnd w B b l f u X k n W) : W.cell? ⟨X, 0, none⟩ = some (.int .i64 k) ∧ W.cell? ⟨X, 1, none⟩ = some (.int .i64 n) := ⟨blk_cell h.act rfl, blk_cell h.act rfl⟩
theorem Rnd.new (h : Now w B b l f u W) (k n : Int) (cs : Array Value) : Rnd w B b l f u W.heap.size k n ((W.alloc (.cells cs 33)).setRow W.heap.size #[.int .i64 k, .int .i64 n]) :=
  ⟨h.step (kept_new W _ _ _), has_new W _ _ _, h.s.lt⟩
theorem infoA : (Tryd.prog.info? 33).map (·.size) = some 2 := by kernel_rfl
theorem one2 (k n : Int) : (#[.int .i64 k, .int .i64 n] : Array Value).all (·.oneCell') = true := by simp [Value.oneCell']
end Go.Proofs.YtmghkacbphdakaaDoor.SpaP
