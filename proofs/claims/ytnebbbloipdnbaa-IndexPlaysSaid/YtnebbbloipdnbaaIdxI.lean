/- of: the walk of its text. The condition: that the row stands in its order. -/
import Derived.Test.YtnebbbloipdnbaaIdxH
namespace Go.Proofs.Ytnebbbloipdnbaa.IdxI
open Go.RowKit
open IdxN IdxM IdxC IdxL IdxS IdxD IdxF IdxG IdxH
theorem kept_new (w : World) (old cs : Array Value) (t : TypeId) : Below w.heap.size w ((w.alloc (.cells old t)).setRow w.heap.size cs) := below_setRow ((Below.refl _ _).alloc (Nat.le_refl _) _) (Nat.le_refl _) _
theorem has_new (w : World) (old cs : Array Value) (t : TypeId) : ((w.alloc (.cells old t)).setRow w.heap.size cs).heap[w.heap.size]? = some (.cells cs t (0, 0)) := setRow_same (heap_alloc_new w _)
def ofx (x : V × Bool) (ep : Int) : V × Bool := if x.2 = true ∧ x.1.2.1 = ep then x else (z0, false)
theorem of_eq (l : List V) (lba ep : Int) : IdxM.of l lba ep = ofx (newest l lba ep) ep := rfl
set_option maxRecDepth 100000 in
set_option maxHeartbeats 1000000 in
theorem cof (c : Nat) (a : Option Addr) (l : List V) (lba ep : Int) (w : World) (hl : l.length ≤ 100000000) (hs : Sorted l) (h : Lies w a l) :
    Calls Try.prog 34 #[.slice a l.length c, .int .i64 lba, .int .i64 ep] w (Tvb (IdxM.of l lba ep) w) := by
  obtain ⟨W0, hW0⟩ : ∃ W0, W0 = w.alloc (.cells #[.int .i64 0, .int .i64 0, .int .i64 0] 27) := ⟨_, rfl⟩
  have B0 := Lib.hid (show Below w.heap.size w W0 by rw [hW0]; exact below_new w _)
  have K0 := Lib.hid (show W0.heap[w.heap.size]? = some (.cells #[.int .i64 0, .int .i64 0, .int .i64 0] 27 (0, 0)) by rw [hW0]; exact heap_alloc_new w _)
  have HC := Lib.hid (cnewest c a l lba ep W0 hl hs (h.step B0.out))
  rw [of_eq]
  clear h hs
  generalize newest l lba ep = x at *
  obtain ⟨⟨x0, x1, x2⟩, xb⟩ := x
  go_enter Try.func34, Try.ntmps34
  go_upto_region 1 with (fail)
  rw [← hW0]
  clear hW0
  go_upto_region 2 with (first
    | (go_at_call 32; refine HC.out.mono ?_; rintro e w1 ⟨rfl, hb⟩; have K1 := Lib.hid ((hb.block _ (lt_of K0.out)).trans K0.out); have B1 := Lib.hid (B0.out.trans (hb.mono B0.out.size)); clear hb HC K0 B0)
    | (refine wpList_store_row rfl 27 _ _ rfl w1.heap.size _ rfl rfl 27 _ (heap_alloc_new w1 _) infoV rfl (one3 (x0, x1, x2)) ?_))
  generalize hW : World.setRow _ _ _ = W2
  have B2 := Lib.hid (show Below w1.heap.size w1 W2 by rw [← hW]; exact kept_new w1 _ _ _)
  have G2 := Lib.hid (show W2.heap[w1.heap.size]? = some (.cells #[.int .i64 x0, .int .i64 x1, .int .i64 x2] 27 (0, 0)) by rw [← hW]; exact has_new w1 _ _ _)
  clear hW
  have K2 := Lib.hid ((B2.out.block _ (lt_of K1.out)).trans K1.out)
  have E2 := Lib.hid (B1.out.trans (B2.out.mono B1.out.size))
  have k0 : W2.cell? ⟨w1.heap.size, 0, none⟩ = some (.int .i64 x0) := blk_cell G2.out rfl
  have k1 : W2.cell? ⟨w1.heap.size, 1, none⟩ = some (.int .i64 x1) := blk_cell G2.out rfl
  have k2 : W2.cell? ⟨w1.heap.size, 2, none⟩ = some (.int .i64 x2) := blk_cell G2.out rfl
  clear K1 B1 B2 G2
  generalize w1.heap.size = X at *
  cases xb
  · go_wp2_with (refine wpList_store_row rfl 27 _ _ rfl w.heap.size _ rfl rfl 27 _ K2.out infoV rfl (one3 z0) ?_)
    refine bodyPost_ret (v := .tuple #[.agg #[.int .i64 0, .int .i64 0, .int .i64 0], .bool false])
      (results_cell_tmp_row Try.results34 _ _ w.heap.size 27 _ (0, 0) _ rfl (setRow_same K2.out) Try.underlying27 rfl infoV) rfl
      ⟨rfl, below_setRow E2.out (Nat.le_refl _) _⟩
  · by_cases he : x1 = ep
    · subst he
      have HO := Lib.hid (show ofx ((x0, x1, x2), true) x1 = ((x0, x1, x2), true) from if_pos ⟨rfl, rfl⟩)
      go_wp2_with (refine wpList_store_row rfl 27 _ _ rfl w.heap.size _ rfl rfl 27 _ K2.out infoV rfl (one3 (x0, x1, x2)) ?_)
      refine bodyPost_ret (v := .tuple #[.agg #[.int .i64 x0, .int .i64 x1, .int .i64 x2], .bool true])
        (results_cell_tmp_row Try.results34 _ _ w.heap.size 27 _ (0, 0) _ rfl (setRow_same K2.out) Try.underlying27 rfl infoV) rfl
        ⟨by rw [HO.out] <;> rfl, below_setRow E2.out (Nat.le_refl _) _⟩
    · have HO := Lib.hid (show ofx ((x0, x1, x2), true) ep = (z0, false) from if_neg (fun h => he h.2))
      have he' : (x1 == ep) = false := by rw [beq_eq_false_iff_ne]; exact he
      clear he
      go_wp2_with (refine wpList_store_row rfl 27 _ _ rfl w.heap.size _ rfl rfl 27 _ K2.out infoV rfl (one3 z0) ?_)
      refine bodyPost_ret (v := .tuple #[.agg #[.int .i64 0, .int .i64 0, .int .i64 0], .bool false])
        (results_cell_tmp_row Try.results34 _ _ w.heap.size 27 _ (0, 0) _ rfl (setRow_same K2.out) Try.underlying27 rfl infoV) rfl
        ⟨by rw [HO.out] <;> rfl, below_setRow E2.out (Nat.le_refl _) _⟩
end Go.Proofs.Ytnebbbloipdnbaa.IdxI
