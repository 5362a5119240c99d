/- Add: the walk of its text. The condition: that the row stands in its order. -/
import Derived.Test.YtnebbbloipdnbaaIdxX
namespace Go.Proofs.Ytnebbbloipdnbaa.IdxA
open Go.RowKit
open IdxN IdxM IdxC IdxD IdxF IdxH IdxI IdxK IdxJ IdxV IdxW
theorem xh {B X H : Nat} {v : Value} {r : List V} {W : World} (h : Ix B X H v r W) : X ≠ H := fun e => by
  have h1 := h.x
  have h2 := h.h
  subst e
  rw [h1] at h2
  obtain ⟨a, c, rfl, _⟩ := h.lies
  injection h2 with h2
  injection h2 with h2
  simp at h2
/-- What stands while Add runs. -/
structure Run (w : World) (B X H : Nat) (v : Value) (r : List V) (x : V) (W : World) : Prop where
  bel : Below w.heap.size w W
  ix : Ix B X H v r W
  box : Box w.heap.size x W
  far : ∀ k, v.ownBlock = some k → k < w.heap.size
  lx : X < w.heap.size
  lh : H < w.heap.size
variable {w W W' : World} {B X H : Nat} {v : Value} {r : List V} {x : V}
theorem Run.step (h : Run w B X H v r x W) (hb : Below W.heap.size W W') : Run w B X H v r x W' := ⟨h.bel.trans (hb.mono h.bel.size), h.ix.step hb, h.box.step hb, h.far, h.lx, h.lh⟩
theorem run_new (h : Ix B X H v r w) (x : V) : Run w B X H v r x (w.alloc (.cells #[.int .i64 x.1, .int .i64 x.2.1, .int .i64 x.2.2] 27)) :=
  ⟨below_new _ _, h.step (below_new _ _), box_new _ _, fun k hk => (h.own.lt k hk).2, lt_of h.x, lt_of h.h⟩
theorem Add_none (s : Option Addr) (x : V) (w : World) (h : Non w s) : Calls Try.prog 10 #[.pointer s, .agg #[.int .i64 x.1, .int .i64 x.2.1, .int .i64 x.2.2]] w fun e w' => e = .returned (.int .i64 1) ∧ Below w.heap.size w w' := by
  have HN := Lib.hid (fun W (h : Non W s) => isNone_yes s W h)
  have HB := Lib.hid (below_new w (.cells #[.int .i64 x.1, .int .i64 x.2.1, .int .i64 x.2.2] 27))
  have HS := Lib.hid (h.step HB.out)
  clear h
  go_enter Try.func10, Try.ntmps10
  go_wp2_with (go_at_call 25; refine (HN.out _ HS.out).mono ?_; rintro e _ ⟨rfl, rfl⟩)
  go_ret
  exact ⟨rfl, HB.out⟩
theorem Add_no (x : V) (w : World) (h : Ix B X H v r w) (hm : may x = false) : Calls Try.prog 10 #[.pointer (some ⟨X, 0, none⟩), .agg #[.int .i64 x.1, .int .i64 x.2.1, .int .i64 x.2.2]] w fun e w' => e = .returned (.int .i64 2) ∧ Below w.heap.size w w' := by
  have RR := Lib.hid (run_new h x)
  have HN := Lib.hid (fun W (h : Run w B X H v r x W) => isNone_no W h.ix.cx)
  have HM := Lib.hid (fun W => mayBe x W)
  rw [hm] at HM
  clear h hm
  obtain ⟨x0, x1, x2⟩ := x
  dsimp only at *
  go_enter Try.func10, Try.ntmps10
  go_upto_region 1 with (fail)
  generalize World.alloc w _ = W1 at *
  obtain ⟨k0, k1, k2⟩ := RR.out.box
  dsimp only at k0 k1 k2
  go_wp2_with (first
    | (go_at_call 25; refine (HN.out _ RR.out).mono ?_; rintro e _ ⟨rfl, rfl⟩)
    | (go_at_call 26; refine (HM.out _).mono ?_; rintro e w2 ⟨rfl, hb⟩; replace RR := Lib.hid (RR.out.step hb); clear hb))
  go_ret
  exact ⟨rfl, RR.out.bel⟩
theorem Run.count (h : Run w B X H v r x W) (hs : Sorted r) (hl : r.length ≤ 100000) (a : Option Addr) (c : Nat) (hv : v = .slice a r.length c) :
    Calls Try.prog 27 #[.slice a r.length c, .func (.func 28) #[] #[.pointer (some ⟨w.heap.size, 0, none⟩)]] W fun e w' => e = .returned (.int .i64 (cut (before x) r : Nat)) ∧ Below W.heap.size W w' := by
  subst hv
  obtain ⟨a', c', e, _, hlies⟩ := h.ix.lies
  cases e
  exact count _ _ (before x) c a r W (by omega) hlies (before_mono hs x) (fun _ _ => rfl) fun V u hb => asked _ x u V (h.box.step hb)
end Go.Proofs.Ytnebbbloipdnbaa.IdxA
