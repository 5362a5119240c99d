/- CellPuts: at any cell and any text of at most 2^47 bytes, a cell's bytes, a held text's, and what is left of the cell, or that there are none, are what the document says. No conditions. -/
import Derived.Test.YteobimhibhfokaaCelP
import Derived.Test.YteobimhibhfokaaCelQ
import Derived.Test.YteobimhibhfokaaCelY
import Derived.Test.YteobimhibhfokaaRows
import Derived.WalkKit
import Derived.ProofKit
import Derived.OpenShut
import Derived.ShutString
import Derived.ChangeOld
import Derived.Below
namespace Go.Proofs.Yteobimhibhfokaa.cellPuts
open Go.ChangeShapes Go.WideShapes Go.ChangeAt Go.RowKit
open Go.ChangeMaps (open_string shut_string)
set_option linter.unusedVariables false
open CelN CelC
set_option maxRecDepth 100000 in
theorem long (ep sl lb : Int) (gn : Bool) (ci : List UInt8) (s : List UInt8) (w : World) (h : 10000 < ci.length ∨ (¬ 10000 < ci.length ∧ 10000 < s.length)) :
    Calls Try.prog 3 #[.agg #[.int .i64 ep, .int .i64 sl, .int .i64 lb, .bool gn, .string ⟨ci.toArray⟩], .string ⟨s.toArray⟩] w fun r w' => r = .returned (.bool true) ∧ Below w.heap.size w w' := by
  obtain ⟨W1, hW1⟩ : ∃ W1, W1 = w.alloc (.cells #[.int .i64 ep, .int .i64 sl, .int .i64 lb, .bool gn, .string ⟨ci.toArray⟩] 23) := ⟨_, rfl⟩
  have SS : Hid (Ws w ep sl lb gn ci W1) := Lib.hid (by rw [hW1]; exact ws_new w ep sl lb gn ci)
  have hz := size_mk ci
  have hy := size_mk s
  obtain ⟨k0, k1, k2, k3, k4⟩ := SS.out.k.cells
  go_enter Try.func3, Try.ntmps3
  go_upto_region 1 with (fail)
  rw [← hW1]
  clear hW1
  rcases h with h | ⟨h1, h⟩
  all_goals
    go_wp2_with (go_at_call 7; refine (CelY.alive _).mono ?_; rintro r w7 ⟨rfl, hb⟩; have HE := Lib.hid (SS.out.step hb); clear hb)
    go_ret
    exact ⟨rfl, HE.out.bel⟩
/-- What stands while the statement runs: what was stays, the cell and what is left of it in their blocks. -/
structure Tw (w : World) (Y : Nat) (ep sl lb : Int) (gn : Bool) (ci : List UInt8) (g2 : Bool) (c2 : List UInt8) (W : World) : Prop where
  bel : Below w.heap.size w W
  x : Bk W w.heap.size ep sl lb gn ci
  y : Bk W Y ep sl lb g2 c2
theorem Tw.step {w W W' : World} {Y : Nat} {ep sl lb : Int} {gn : Bool} {ci : List UInt8} {g2 : Bool} {c2 : List UInt8} (h : Tw w Y ep sl lb gn ci g2 c2 W) (hb : Below W.heap.size W W') : Tw w Y ep sl lb gn ci g2 c2 W' := ⟨h.bel.trans (hb.mono h.bel.size), h.x.step hb, h.y.step hb⟩
theorem Tw.drew {w W : World} {Y : Nat} {ep sl lb : Int} {gn : Bool} {ci : List UInt8} {g2 : Bool} {c2 : List UInt8} (h : Tw w Y ep sl lb gn ci g2 c2 W) : Tw w Y ep sl lb gn ci g2 c2 W.drew := ⟨h.bel.drew, h.x, h.y⟩
theorem Tw.cells {w W : World} {Y : Nat} {ep sl lb : Int} {gn : Bool} {ci : List UInt8} {g2 : Bool} {c2 : List UInt8} (h : Tw w Y ep sl lb gn ci g2 c2 W) :
    W.cell? ⟨w.heap.size, 0, none⟩ = some (.int .i64 ep) ∧ W.cell? ⟨w.heap.size, 1, none⟩ = some (.int .i64 sl) ∧ W.cell? ⟨w.heap.size, 2, none⟩ = some (.int .i64 lb) ∧ W.cell? ⟨w.heap.size, 3, none⟩ = some (.bool gn) ∧ W.cell? ⟨w.heap.size, 4, none⟩ = some (.string ⟨ci.toArray⟩) ∧
    W.cell? ⟨Y, 0, none⟩ = some (.int .i64 ep) ∧ W.cell? ⟨Y, 1, none⟩ = some (.int .i64 sl) ∧ W.cell? ⟨Y, 2, none⟩ = some (.int .i64 lb) ∧ W.cell? ⟨Y, 3, none⟩ = some (.bool g2) ∧ W.cell? ⟨Y, 4, none⟩ = some (.string ⟨c2.toArray⟩) := by
  obtain ⟨x0, x1, x2, x3, x4⟩ := h.x.cells
  obtain ⟨y0, y1, y2, y3, y4⟩ := h.y.cells
  exact ⟨x0, x1, x2, x3, x4, y0, y1, y2, y3, y4⟩
theorem left_world {W : World} {w : World} {Y : Nat} (ep sl lb : Int) (gn : Bool) (ci : List UInt8) (h : Tw w Y ep sl lb gn ci gn ci W) (hY : w.heap.size < Y) :
    W.frozen? ⟨Y, 3, none⟩ = false ∧ (W.setCell ⟨Y, 3, none⟩ (.bool true)).frozen? ⟨Y, 4, none⟩ = false ∧ Tw w Y ep sl lb gn ci true [] ((W.setCell ⟨Y, 3, none⟩ (.bool true)).setCell ⟨Y, 4, none⟩ (.string ⟨#[]⟩)) := by
  refine ⟨blk_free h.y, blk_free (blk_set h.y), ⟨(h.bel.setCell (p := ⟨Y, 3, none⟩) (Nat.le_of_lt hY) _).setCell (p := ⟨Y, 4, none⟩) (Nat.le_of_lt hY) _, ?_, blk_set (blk_set h.y)⟩⟩
  show _ = _
  rw [heap_setCell_other _ _ _ _ (by simp; omega), heap_setCell_other _ _ _ _ (by simp; omega)]
  exact h.x
set_option maxRecDepth 100000 in
set_option maxHeartbeats 4000000 in
theorem short (ep sl lb : Int) (gn : Bool) (ci : List UInt8) (s p x : List UInt8) (e f : Int) (is so : Bool) (w : World) (h : ¬ 10000 < ci.length) (h' : ¬ 10000 < s.length)
    (hp : put_ ⟨ep, sl, lb, gn, ci⟩ = (p, e)) (hi : decide (may ⟨ep, sl, lb, gn, ci⟩) = is) (hc : check ⟨ep, sl, lb, gn, ci⟩ = e) (hh : hold s = (x, f)) (hs : decide (hmay s) = so) (h1 : (is = true ∧ e = 0) ∨ (is = false ∧ e = 2)) (h2 : (so = true ∧ f = 0) ∨ (so = false ∧ f = 2)) :
    Calls Try.prog 3 #[.agg #[.int .i64 ep, .int .i64 sl, .int .i64 lb, .bool gn, .string ⟨ci.toArray⟩], .string ⟨s.toArray⟩] w fun r w' => r = .returned (.bool true) ∧ Below w.heap.size w w' := by
  obtain ⟨W1, hW1⟩ : ∃ W1, W1 = w.alloc (.cells #[.int .i64 ep, .int .i64 sl, .int .i64 lb, .bool gn, .string ⟨ci.toArray⟩] 23) := ⟨_, rfl⟩
  have SS : Hid (Ws w ep sl lb gn ci W1) := Lib.hid (by rw [hW1]; exact ws_new w ep sl lb gn ci)
  have hz := size_mk ci
  have hy := size_mk s
  have HP := Lib.hid (fun W => CelP.Put ep sl lb gn ci W)
  have HQ := Lib.hid (fun W => CelQ.Put ep sl lb gn ci W)
  have HC := Lib.hid (fun W => CelD.Check ep sl lb gn ci W)
  rw [hp] at HP
  rw [hp, hi] at HQ
  rw [hc] at HC
  have HH := Lib.hid (fun W => CelP.Hold s W)
  have HI := Lib.hid (fun W => CelQ.Hold s W)
  rw [hh] at HH
  rw [hh, hs] at HI
  have HL := Lib.hid (fun W => CelP.Left ep sl lb gn ci W)
  have heq := fun W => eql_self ep sl lb true [] W
  clear hp hi hc hh hs
  obtain ⟨k0, k1, k2, k3, k4⟩ := SS.out.k.cells
  go_enter Try.func3, Try.ntmps3
  go_upto_region 1 with (fail)
  rw [← hW1]
  clear hW1
  go_upto_region 7 with (first
    | (go_at_call 8; refine (HP.out _).mono ?_; rintro r w3 ⟨rfl, hb⟩; replace SS := Lib.hid (SS.out.step hb); clear hb k0 k1 k2 k3 k4; obtain ⟨k0, k1, k2, k3, k4⟩ := SS.out.k.cells)
    | (go_at_call 9; refine (HQ.out _).mono ?_; rintro r w4 ⟨rfl, hb⟩; replace SS := Lib.hid (SS.out.step hb); clear hb k0 k1 k2 k3 k4; obtain ⟨k0, k1, k2, k3, k4⟩ := SS.out.k.cells)
    | (go_at_call 10; refine (HH.out _).mono ?_; rintro r w5 ⟨rfl, hb⟩; replace SS := Lib.hid (SS.out.step hb); clear hb k0 k1 k2 k3 k4; obtain ⟨k0, k1, k2, k3, k4⟩ := SS.out.k.cells)
    | (go_at_call 11; refine (HI.out _).mono ?_; rintro r w6 ⟨rfl, hb⟩; replace SS := Lib.hid (SS.out.step hb); clear hb k0 k1 k2 k3 k4; obtain ⟨k0, k1, k2, k3, k4⟩ := SS.out.k.cells))
  go_upto_region 8 with (fail)
  generalize hW7 : World.alloc w6 _ = W7
  have TT : Hid (Tw w w6.heap.size ep sl lb gn ci gn ci W7) := Lib.hid (by rw [← hW7]; exact ⟨SS.out.bel.trans ((below_new _ _).mono SS.out.bel.size), SS.out.k.step (below_new _ _), heap_alloc_new _ _⟩)
  have hY : w.heap.size < w6.heap.size := SS.out.k.lt
  clear hW7 SS k0 k1 k2 k3 k4 HP HQ HH HI
  generalize w6.heap.size = Y at *
  obtain ⟨f3, f4, hTL⟩ := left_world ep sl lb gn ci TT.out hY
  have TL := Lib.hid hTL
  obtain ⟨x0, x1, x2, x3, x4, y0, y1, y2, y3, y4⟩ := TT.out.cells
  clear hTL hY
  go_upto_region 9 with (fail)
  generalize hW8 : World.setCell (World.setCell W7 _ _) _ _ = W8
  rw [hW8] at TL
  clear hW8 f3 f4 x0 x1 x2 x3 x4 y0 y1 y2 y3 y4 TT
  obtain ⟨x0, x1, x2, x3, x4, y0, y1, y2, y3, y4⟩ := TL.out.cells
  rcases h1 with ⟨rfl, rfl⟩ | ⟨rfl, rfl⟩ <;> rcases h2 with ⟨rfl, rfl⟩ | ⟨rfl, rfl⟩
  all_goals
    go_upto_region 11 with (go_at_call 12; refine (HC.out _).mono ?_; rintro r w9 ⟨rfl, hb⟩; replace TL := Lib.hid (TL.out.step hb); clear hb x0 x1 x2 x3 x4 y0 y1 y2 y3 y4)
    replace TL := Lib.hid TL.out.drew
    have hS := TL.out.cells
  · refine wp_region_held_drew (S := fun W => W.cell? ⟨w.heap.size, 0, none⟩ = some (.int .i64 ep) ∧ W.cell? ⟨w.heap.size, 1, none⟩ = some (.int .i64 sl) ∧ W.cell? ⟨w.heap.size, 2, none⟩ = some (.int .i64 lb) ∧ W.cell? ⟨w.heap.size, 3, none⟩ = some (.bool gn) ∧ W.cell? ⟨w.heap.size, 4, none⟩ = some (.string ⟨ci.toArray⟩) ∧ W.cell? ⟨Y, 0, none⟩ = some (.int .i64 ep) ∧ W.cell? ⟨Y, 1, none⟩ = some (.int .i64 sl) ∧ W.cell? ⟨Y, 2, none⟩ = some (.int .i64 lb) ∧ W.cell? ⟨Y, 3, none⟩ = some (.bool true) ∧ W.cell? ⟨Y, 4, none⟩ = some (.string ⟨([] : List UInt8).toArray⟩)) (by kernel_rfl) hS (fun _ => ?_)
    change wpAnyH _ _ _ _ _ _ #[false, false, false, false, false, false, false, false, false, false, false, false, false, false, false, false, false, false, false, false, false, false, false, false, false, false] _ _
    refine wpAnyH_take (i := 0) (v := ?vx1) (by rw [List.getElem?_toArray]; rfl) (by kernel_rfl) (by kernel_rfl) (by kernel_rfl) (by intro _ _ _ h; exact h) (Or.inl ⟨by rfl, ?hyx1⟩) (by assumption) ?restx1
    case hyx1 => (intro W hSW; (try dsimp only at hSW); go_simp; try with_reducible rfl)
    try simp only [Act.put, List.setIfInBounds_toArray, List.set_cons_zero, List.set_cons_succ]
    refine wpAnyH_take (i := 1) (v := ?vx2) (by rw [List.getElem?_toArray]; rfl) (by kernel_rfl) (by kernel_rfl) (by kernel_rfl) (by intro _ _ _ h; exact h) (Or.inl ⟨by rfl, ?hyx2⟩) (by assumption) ?restx2
    case hyx2 => (intro W hSW; (try dsimp only at hSW); go_simp; try with_reducible rfl)
    try simp only [Act.put, List.setIfInBounds_toArray, List.set_cons_zero, List.set_cons_succ]
    refine wpAnyH_take (i := 2) (v := ?vx3) (by rw [List.getElem?_toArray]; rfl) (by kernel_rfl) (by kernel_rfl) (by kernel_rfl) (by intro _ _ _ h; exact h) (Or.inl ⟨by rfl, ?hyx3⟩) (by assumption) ?restx3
    case hyx3 => (intro W hSW; (try dsimp only at hSW); go_simp; try with_reducible rfl)
    try simp only [Act.put, List.setIfInBounds_toArray, List.set_cons_zero, List.set_cons_succ]
    refine wpAnyH_take (i := 3) (v := ?vx4) (by rw [List.getElem?_toArray]; rfl) (by kernel_rfl) (by kernel_rfl) (by kernel_rfl) (by intro _ _ _ h; exact h) (Or.inl ⟨by rfl, ?hyx4⟩) (by assumption) ?restx4
    case hyx4 => (intro W hSW; (try dsimp only at hSW); go_simp; try with_reducible rfl)
    try simp only [Act.put, List.setIfInBounds_toArray, List.set_cons_zero, List.set_cons_succ]
    refine wpAnyH_take (i := 4) (v := ?vx5) (by rw [List.getElem?_toArray]; rfl) (by kernel_rfl) (by kernel_rfl) (by kernel_rfl) (by intro _ _ _ h; exact h) (Or.inl ⟨by rfl, ?hyx5⟩) (by assumption) ?restx5
    case hyx5 => (intro W hSW; (try dsimp only at hSW); go_simp; try with_reducible rfl)
    try simp only [Act.put, List.setIfInBounds_toArray, List.set_cons_zero, List.set_cons_succ]
    refine wpAnyH_take (i := 5) (v := ?vx6) (by rw [List.getElem?_toArray]; rfl) (by kernel_rfl) (by kernel_rfl) (by kernel_rfl) (by intro _ _ _ h; exact h) (Or.inl ⟨by rfl, ?hyx6⟩) (by assumption) ?restx6
    case hyx6 => (intro W hSW; (try dsimp only at hSW); go_simp; try with_reducible rfl)
    try simp only [Act.put, List.setIfInBounds_toArray, List.set_cons_zero, List.set_cons_succ]
    refine wpAnyH_take (i := 6) (v := ?vx7) (by rw [List.getElem?_toArray]; rfl) (by kernel_rfl) (by kernel_rfl) (by kernel_rfl) (by intro _ _ _ h; exact h) (Or.inl ⟨by rfl, ?hyx7⟩) (by assumption) ?restx7
    case hyx7 => (intro W hSW; (try dsimp only at hSW); go_simp; try with_reducible rfl)
    try simp only [Act.put, List.setIfInBounds_toArray, List.set_cons_zero, List.set_cons_succ]
    refine wpAnyH_take (i := 7) (v := ?vx8) (by rw [List.getElem?_toArray]; rfl) (by kernel_rfl) (by kernel_rfl) (by kernel_rfl) (by intro _ _ _ h; exact h) (Or.inl ⟨by rfl, ?hyx8⟩) (by assumption) ?restx8
    case hyx8 => (intro W hSW; (try dsimp only at hSW); go_simp; try with_reducible rfl)
    try simp only [Act.put, List.setIfInBounds_toArray, List.set_cons_zero, List.set_cons_succ]
    refine wpAnyH_take (i := 8) (v := ?vx9) (by rw [List.getElem?_toArray]; rfl) (by kernel_rfl) (by kernel_rfl) (by kernel_rfl) (by intro _ _ _ h; exact h) (Or.inl ⟨by rfl, ?hyx9⟩) (by assumption) ?restx9
    case hyx9 => (intro W hSW; (try dsimp only at hSW); go_simp; try with_reducible rfl)
    try simp only [Act.put, List.setIfInBounds_toArray, List.set_cons_zero, List.set_cons_succ]
    refine wpAnyH_take (i := 9) (v := ?vx10) (by rw [List.getElem?_toArray]; rfl) (by kernel_rfl) (by kernel_rfl) (by kernel_rfl) (by intro _ _ _ h; exact h) (Or.inl ⟨by rfl, ?hyx10⟩) (by assumption) ?restx10
    case hyx10 => (intro W hSW; (try dsimp only at hSW); go_simp; try with_reducible rfl)
    try simp only [Act.put, List.setIfInBounds_toArray, List.set_cons_zero, List.set_cons_succ]
    refine wpAnyH_take (i := 10) (v := ?vx11) (by rw [List.getElem?_toArray]; rfl) (by kernel_rfl) (by kernel_rfl) (by kernel_rfl) (by intro _ _ _ h; exact h) (Or.inl ⟨by rfl, ?hyx11⟩) (by assumption) ?restx11
    case hyx11 => (intro W hSW; (try dsimp only at hSW); go_simp; try with_reducible rfl)
    try simp only [Act.put, List.setIfInBounds_toArray, List.set_cons_zero, List.set_cons_succ]
    refine wpAnyH_take (i := 11) (v := ?vx12) (by rw [List.getElem?_toArray]; rfl) (by kernel_rfl) (by kernel_rfl) (by kernel_rfl) (by intro _ _ _ h; exact h) (Or.inl ⟨by rfl, ?hyx12⟩) (by assumption) ?restx12
    case hyx12 => (intro W hSW; (try dsimp only at hSW); go_simp; try with_reducible rfl)
    try simp only [Act.put, List.setIfInBounds_toArray, List.set_cons_zero, List.set_cons_succ]
    refine wpAnyH_take (i := 12) (v := undef) (by rw [List.getElem?_toArray]; rfl) (by kernel_rfl) (by kernel_rfl) (by kernel_rfl) (by intro _ _ _ h; exact h) (Or.inr ⟨by rfl, rfl⟩) (by assumption) ?restx13
    try simp only [Act.put, List.setIfInBounds_toArray, List.set_cons_zero, List.set_cons_succ]
    refine wpAnyH_take (i := 13) (v := undef) (by rw [List.getElem?_toArray]; rfl) (by kernel_rfl) (by kernel_rfl) (by kernel_rfl) (by intro _ _ _ h; exact h) (Or.inr ⟨by rfl, rfl⟩) (by assumption) ?restx14
    try simp only [Act.put, List.setIfInBounds_toArray, List.set_cons_zero, List.set_cons_succ]
    refine wpAnyH_take (i := 14) (v := ?vx15) (by rw [List.getElem?_toArray]; rfl) (by kernel_rfl) (by kernel_rfl) (by kernel_rfl) (by intro _ _ _ h; exact h) (Or.inl ⟨by rfl, ?hyx15⟩) (by assumption) ?restx15
    case hyx15 => (intro W hSW; (try dsimp only at hSW); go_simp; try with_reducible rfl)
    try simp only [Act.put, List.setIfInBounds_toArray, List.set_cons_zero, List.set_cons_succ]
    refine wpAnyH_take (i := 15) (v := ?vx16) (by rw [List.getElem?_toArray]; rfl) (by kernel_rfl) (by kernel_rfl) (by kernel_rfl) (by intro _ _ _ h; exact h) (Or.inl ⟨by rfl, ?hyx16⟩) (by assumption) ?restx16
    case hyx16 => (intro W hSW; (try dsimp only at hSW); go_simp; try with_reducible rfl)
    try simp only [Act.put, List.setIfInBounds_toArray, List.set_cons_zero, List.set_cons_succ]
    refine wpAnyH_take (i := 16) (v := ?vx17) (by rw [List.getElem?_toArray]; rfl) (by kernel_rfl) (by kernel_rfl) (by kernel_rfl) (by intro _ _ _ h; exact h) (Or.inl ⟨by rfl, ?hyx17⟩) (by assumption) ?restx17
    case hyx17 => (intro W hSW; (try dsimp only at hSW); go_simp; try with_reducible rfl)
    try simp only [Act.put, List.setIfInBounds_toArray, List.set_cons_zero, List.set_cons_succ]
    refine wpAnyH_take (i := 17) (v := ?vx18) (by rw [List.getElem?_toArray]; rfl) (by kernel_rfl) (by kernel_rfl) (by kernel_rfl) (by intro _ _ _ h; exact h) (Or.inl ⟨by rfl, ?hyx18⟩) (by assumption) ?restx18
    case hyx18 => (intro W hSW; (try dsimp only at hSW); go_simp; try with_reducible rfl)
    try simp only [Act.put, List.setIfInBounds_toArray, List.set_cons_zero, List.set_cons_succ]
    refine wpAnyH_take (i := 19) (v := ?vx19) (by rw [List.getElem?_toArray]; rfl) (by kernel_rfl) (by kernel_rfl) (by kernel_rfl) (by intro _ _ _ h; exact h) (Or.inl ⟨by rfl, ?hyx19⟩) (by assumption) ?restx19
    case hyx19 => (intro W hSW; (try dsimp only at hSW); go_simp; try with_reducible rfl)
    try simp only [Act.put, List.setIfInBounds_toArray, List.set_cons_zero, List.set_cons_succ]
    refine wpAnyH_ready (rs := [18]) (by kernel_rfl) (by simp) (AllReadyH.cons (by rw [List.getElem?_toArray]; rfl) (fun K hK => ?_) AllReadyH.nil)
    go_simp
    refine (HL.out _).mono ?_
    rintro r w28 ⟨rfl, hb⟩
    replace TL := Lib.hid (TL.out.step hb)
    replace hS := TL.out.cells
    clear hb
    refine hK.out _ _ hS (fun _ => ?_)
    clear hK K
    try simp only [List.setIfInBounds_toArray, List.set_cons_zero, List.set_cons_succ]
    refine wpAnyH_take (i := 20) (v := ?vx21) (by rw [List.getElem?_toArray]; rfl) (by kernel_rfl) (by kernel_rfl) (by kernel_rfl) (by intro _ _ _ h; exact h) (Or.inl ⟨by rfl, ?hyx21⟩) (by assumption) ?restx21
    case hyx21 => (intro W hSW; (try dsimp only at hSW); go_simp; try with_reducible rfl)
    try simp only [Act.put, List.setIfInBounds_toArray, List.set_cons_zero, List.set_cons_succ]
    refine wpAnyH_take (i := 21) (v := ?vx22) (by rw [List.getElem?_toArray]; rfl) (by kernel_rfl) (by kernel_rfl) (by kernel_rfl) (by intro _ _ _ h; exact h) (Or.inl ⟨by rfl, ?hyx22⟩) (by assumption) ?restx22
    case hyx22 => (intro W hSW; (try dsimp only at hSW); go_simp; try with_reducible rfl)
    try simp only [Act.put, List.setIfInBounds_toArray, List.set_cons_zero, List.set_cons_succ]
    refine wpAnyH_take (i := 22) (v := ?vx23) (by rw [List.getElem?_toArray]; rfl) (by kernel_rfl) (by kernel_rfl) (by kernel_rfl) (by intro _ _ _ h; exact h) (Or.inl ⟨by rfl, ?hyx23⟩) (by assumption) ?restx23
    case hyx23 => (intro W hSW; (try dsimp only at hSW); go_simp; try with_reducible rfl)
    try simp only [Act.put, List.setIfInBounds_toArray, List.set_cons_zero, List.set_cons_succ]
    refine wpAnyH_ready (rs := [23]) (by kernel_rfl) (by simp) (AllReadyH.cons (by rw [List.getElem?_toArray]; rfl) (fun K hK => ?_) AllReadyH.nil)
    go_simp
    refine (CelY.alive _).mono ?_
    rintro r w33 ⟨rfl, hb⟩
    replace TL := Lib.hid (TL.out.step hb)
    replace hS := TL.out.cells
    clear hb
    refine hK.out _ _ hS (fun _ => ?_)
    clear hK K
    try simp only [List.setIfInBounds_toArray, List.set_cons_zero, List.set_cons_succ]
    refine wpAnyH_take (i := 24) (v := ?vx25) (by rw [List.getElem?_toArray]; rfl) (by kernel_rfl) (by kernel_rfl) (by kernel_rfl) (by intro _ _ _ h; exact h) (Or.inl ⟨by rfl, ?hyx25⟩) (by assumption) ?restx25
    case hyx25 => (intro W hSW; (try dsimp only at hSW); go_simp; try with_reducible rfl)
    try simp only [Act.put, List.setIfInBounds_toArray, List.set_cons_zero, List.set_cons_succ]
    refine wpAnyH_take (i := 25) (v := ?vx26) (by rw [List.getElem?_toArray]; rfl) (by kernel_rfl) (by kernel_rfl) (by kernel_rfl) (by intro _ _ _ h; exact h) (Or.inl ⟨by rfl, ?hyx26⟩) (by assumption) ?restx26
    case hyx26 => (intro W hSW; (try dsimp only at hSW); go_simp; try with_reducible rfl)
    try simp only [Act.put, List.setIfInBounds_toArray, List.set_cons_zero, List.set_cons_succ]
    refine wpAnyH_done (by kernel_rfl) ?_ _
    go_wp2
    go_ret
    exact ⟨rfl, TL.out.bel⟩
  · go_region_held3 (fun W => W.cell? ⟨w.heap.size, 0, none⟩ = some (.int .i64 ep) ∧ W.cell? ⟨w.heap.size, 1, none⟩ = some (.int .i64 sl) ∧ W.cell? ⟨w.heap.size, 2, none⟩ = some (.int .i64 lb) ∧ W.cell? ⟨w.heap.size, 3, none⟩ = some (.bool gn) ∧ W.cell? ⟨w.heap.size, 4, none⟩ = some (.string ⟨ci.toArray⟩) ∧ W.cell? ⟨Y, 0, none⟩ = some (.int .i64 ep) ∧ W.cell? ⟨Y, 1, none⟩ = some (.int .i64 sl) ∧ W.cell? ⟨Y, 2, none⟩ = some (.int .i64 lb) ∧ W.cell? ⟨Y, 3, none⟩ = some (.bool true) ∧ W.cell? ⟨Y, 4, none⟩ = some (.string ⟨([] : List UInt8).toArray⟩))
      (exact hS)
      (first
        | (go_at_call 13; refine (HL.out _).mono ?_; rintro r wA ⟨rfl, hb⟩; replace TL := Lib.hid (TL.out.step hb); replace hS := TL.out.cells; clear hb)
        | (go_at_call 7; refine (CelY.alive _).mono ?_; rintro r wB ⟨rfl, hb⟩; replace TL := Lib.hid (TL.out.step hb); replace hS := TL.out.cells; clear hb))
    go_wp2
    go_ret
    exact ⟨rfl, TL.out.bel⟩
  · refine wp_region_held_drew (S := fun W => W.cell? ⟨w.heap.size, 0, none⟩ = some (.int .i64 ep) ∧ W.cell? ⟨w.heap.size, 1, none⟩ = some (.int .i64 sl) ∧ W.cell? ⟨w.heap.size, 2, none⟩ = some (.int .i64 lb) ∧ W.cell? ⟨w.heap.size, 3, none⟩ = some (.bool gn) ∧ W.cell? ⟨w.heap.size, 4, none⟩ = some (.string ⟨ci.toArray⟩) ∧ W.cell? ⟨Y, 0, none⟩ = some (.int .i64 ep) ∧ W.cell? ⟨Y, 1, none⟩ = some (.int .i64 sl) ∧ W.cell? ⟨Y, 2, none⟩ = some (.int .i64 lb) ∧ W.cell? ⟨Y, 3, none⟩ = some (.bool true) ∧ W.cell? ⟨Y, 4, none⟩ = some (.string ⟨([] : List UInt8).toArray⟩)) (by kernel_rfl) hS (fun _ => ?_)
    change wpAnyH _ _ _ _ _ _ #[false, false, false, false, false, false, false, false, false, false, false, false, false, false, false, false, false, false, false, false, false, false, false, false, false, false] _ _
    refine wpAnyH_take (i := 0) (v := ?vy1) (by rw [List.getElem?_toArray]; rfl) (by kernel_rfl) (by kernel_rfl) (by kernel_rfl) (by intro _ _ _ h; exact h) (Or.inl ⟨by rfl, ?hyy1⟩) (by assumption) ?resty1
    case hyy1 => (intro W hSW; (try dsimp only at hSW); go_simp; try with_reducible rfl)
    try simp only [Act.put, List.setIfInBounds_toArray, List.set_cons_zero, List.set_cons_succ]
    refine wpAnyH_take (i := 1) (v := ?vy2) (by rw [List.getElem?_toArray]; rfl) (by kernel_rfl) (by kernel_rfl) (by kernel_rfl) (by intro _ _ _ h; exact h) (Or.inl ⟨by rfl, ?hyy2⟩) (by assumption) ?resty2
    case hyy2 => (intro W hSW; (try dsimp only at hSW); go_simp; try with_reducible rfl)
    try simp only [Act.put, List.setIfInBounds_toArray, List.set_cons_zero, List.set_cons_succ]
    refine wpAnyH_take (i := 2) (v := ?vy3) (by rw [List.getElem?_toArray]; rfl) (by kernel_rfl) (by kernel_rfl) (by kernel_rfl) (by intro _ _ _ h; exact h) (Or.inl ⟨by rfl, ?hyy3⟩) (by assumption) ?resty3
    case hyy3 => (intro W hSW; (try dsimp only at hSW); go_simp; try with_reducible rfl)
    try simp only [Act.put, List.setIfInBounds_toArray, List.set_cons_zero, List.set_cons_succ]
    refine wpAnyH_take (i := 3) (v := ?vy4) (by rw [List.getElem?_toArray]; rfl) (by kernel_rfl) (by kernel_rfl) (by kernel_rfl) (by intro _ _ _ h; exact h) (Or.inl ⟨by rfl, ?hyy4⟩) (by assumption) ?resty4
    case hyy4 => (intro W hSW; (try dsimp only at hSW); go_simp; try with_reducible rfl)
    try simp only [Act.put, List.setIfInBounds_toArray, List.set_cons_zero, List.set_cons_succ]
    refine wpAnyH_take (i := 4) (v := ?vy5) (by rw [List.getElem?_toArray]; rfl) (by kernel_rfl) (by kernel_rfl) (by kernel_rfl) (by intro _ _ _ h; exact h) (Or.inl ⟨by rfl, ?hyy5⟩) (by assumption) ?resty5
    case hyy5 => (intro W hSW; (try dsimp only at hSW); go_simp; try with_reducible rfl)
    try simp only [Act.put, List.setIfInBounds_toArray, List.set_cons_zero, List.set_cons_succ]
    refine wpAnyH_take (i := 5) (v := ?vy6) (by rw [List.getElem?_toArray]; rfl) (by kernel_rfl) (by kernel_rfl) (by kernel_rfl) (by intro _ _ _ h; exact h) (Or.inl ⟨by rfl, ?hyy6⟩) (by assumption) ?resty6
    case hyy6 => (intro W hSW; (try dsimp only at hSW); go_simp; try with_reducible rfl)
    try simp only [Act.put, List.setIfInBounds_toArray, List.set_cons_zero, List.set_cons_succ]
    refine wpAnyH_take (i := 6) (v := ?vy7) (by rw [List.getElem?_toArray]; rfl) (by kernel_rfl) (by kernel_rfl) (by kernel_rfl) (by intro _ _ _ h; exact h) (Or.inl ⟨by rfl, ?hyy7⟩) (by assumption) ?resty7
    case hyy7 => (intro W hSW; (try dsimp only at hSW); go_simp; try with_reducible rfl)
    try simp only [Act.put, List.setIfInBounds_toArray, List.set_cons_zero, List.set_cons_succ]
    refine wpAnyH_take (i := 7) (v := ?vy8) (by rw [List.getElem?_toArray]; rfl) (by kernel_rfl) (by kernel_rfl) (by kernel_rfl) (by intro _ _ _ h; exact h) (Or.inl ⟨by rfl, ?hyy8⟩) (by assumption) ?resty8
    case hyy8 => (intro W hSW; (try dsimp only at hSW); go_simp; try with_reducible rfl)
    try simp only [Act.put, List.setIfInBounds_toArray, List.set_cons_zero, List.set_cons_succ]
    refine wpAnyH_take (i := 8) (v := ?vy9) (by rw [List.getElem?_toArray]; rfl) (by kernel_rfl) (by kernel_rfl) (by kernel_rfl) (by intro _ _ _ h; exact h) (Or.inl ⟨by rfl, ?hyy9⟩) (by assumption) ?resty9
    case hyy9 => (intro W hSW; (try dsimp only at hSW); go_simp; try with_reducible rfl)
    try simp only [Act.put, List.setIfInBounds_toArray, List.set_cons_zero, List.set_cons_succ]
    refine wpAnyH_take (i := 9) (v := ?vy10) (by rw [List.getElem?_toArray]; rfl) (by kernel_rfl) (by kernel_rfl) (by kernel_rfl) (by intro _ _ _ h; exact h) (Or.inl ⟨by rfl, ?hyy10⟩) (by assumption) ?resty10
    case hyy10 => (intro W hSW; (try dsimp only at hSW); go_simp; try with_reducible rfl)
    try simp only [Act.put, List.setIfInBounds_toArray, List.set_cons_zero, List.set_cons_succ]
    refine wpAnyH_take (i := 10) (v := ?vy11) (by rw [List.getElem?_toArray]; rfl) (by kernel_rfl) (by kernel_rfl) (by kernel_rfl) (by intro _ _ _ h; exact h) (Or.inl ⟨by rfl, ?hyy11⟩) (by assumption) ?resty11
    case hyy11 => (intro W hSW; (try dsimp only at hSW); go_simp; try with_reducible rfl)
    try simp only [Act.put, List.setIfInBounds_toArray, List.set_cons_zero, List.set_cons_succ]
    refine wpAnyH_take (i := 11) (v := ?vy12) (by rw [List.getElem?_toArray]; rfl) (by kernel_rfl) (by kernel_rfl) (by kernel_rfl) (by intro _ _ _ h; exact h) (Or.inl ⟨by rfl, ?hyy12⟩) (by assumption) ?resty12
    case hyy12 => (intro W hSW; (try dsimp only at hSW); go_simp; try with_reducible rfl)
    try simp only [Act.put, List.setIfInBounds_toArray, List.set_cons_zero, List.set_cons_succ]
    refine wpAnyH_take (i := 12) (v := undef) (by rw [List.getElem?_toArray]; rfl) (by kernel_rfl) (by kernel_rfl) (by kernel_rfl) (by intro _ _ _ h; exact h) (Or.inr ⟨by rfl, rfl⟩) (by assumption) ?resty13
    try simp only [Act.put, List.setIfInBounds_toArray, List.set_cons_zero, List.set_cons_succ]
    refine wpAnyH_take (i := 13) (v := undef) (by rw [List.getElem?_toArray]; rfl) (by kernel_rfl) (by kernel_rfl) (by kernel_rfl) (by intro _ _ _ h; exact h) (Or.inr ⟨by rfl, rfl⟩) (by assumption) ?resty14
    try simp only [Act.put, List.setIfInBounds_toArray, List.set_cons_zero, List.set_cons_succ]
    refine wpAnyH_take (i := 14) (v := ?vy15) (by rw [List.getElem?_toArray]; rfl) (by kernel_rfl) (by kernel_rfl) (by kernel_rfl) (by intro _ _ _ h; exact h) (Or.inl ⟨by rfl, ?hyy15⟩) (by assumption) ?resty15
    case hyy15 => (intro W hSW; (try dsimp only at hSW); go_simp; try with_reducible rfl)
    try simp only [Act.put, List.setIfInBounds_toArray, List.set_cons_zero, List.set_cons_succ]
    refine wpAnyH_take (i := 15) (v := ?vy16) (by rw [List.getElem?_toArray]; rfl) (by kernel_rfl) (by kernel_rfl) (by kernel_rfl) (by intro _ _ _ h; exact h) (Or.inl ⟨by rfl, ?hyy16⟩) (by assumption) ?resty16
    case hyy16 => (intro W hSW; (try dsimp only at hSW); go_simp; try with_reducible rfl)
    try simp only [Act.put, List.setIfInBounds_toArray, List.set_cons_zero, List.set_cons_succ]
    refine wpAnyH_take (i := 16) (v := ?vy17) (by rw [List.getElem?_toArray]; rfl) (by kernel_rfl) (by kernel_rfl) (by kernel_rfl) (by intro _ _ _ h; exact h) (Or.inl ⟨by rfl, ?hyy17⟩) (by assumption) ?resty17
    case hyy17 => (intro W hSW; (try dsimp only at hSW); go_simp; try with_reducible rfl)
    try simp only [Act.put, List.setIfInBounds_toArray, List.set_cons_zero, List.set_cons_succ]
    refine wpAnyH_take (i := 17) (v := ?vy18) (by rw [List.getElem?_toArray]; rfl) (by kernel_rfl) (by kernel_rfl) (by kernel_rfl) (by intro _ _ _ h; exact h) (Or.inl ⟨by rfl, ?hyy18⟩) (by assumption) ?resty18
    case hyy18 => (intro W hSW; (try dsimp only at hSW); go_simp; try with_reducible rfl)
    try simp only [Act.put, List.setIfInBounds_toArray, List.set_cons_zero, List.set_cons_succ]
    refine wpAnyH_take (i := 19) (v := ?vy19) (by rw [List.getElem?_toArray]; rfl) (by kernel_rfl) (by kernel_rfl) (by kernel_rfl) (by intro _ _ _ h; exact h) (Or.inl ⟨by rfl, ?hyy19⟩) (by assumption) ?resty19
    case hyy19 => (intro W hSW; (try dsimp only at hSW); go_simp; try with_reducible rfl)
    try simp only [Act.put, List.setIfInBounds_toArray, List.set_cons_zero, List.set_cons_succ]
    refine wpAnyH_ready (rs := [18]) (by kernel_rfl) (by simp) (AllReadyH.cons (by rw [List.getElem?_toArray]; rfl) (fun K hK => ?_) AllReadyH.nil)
    go_simp
    refine (HL.out _).mono ?_
    rintro r w28 ⟨rfl, hb⟩
    replace TL := Lib.hid (TL.out.step hb)
    replace hS := TL.out.cells
    clear hb
    refine hK.out _ _ hS (fun _ => ?_)
    clear hK K
    try simp only [List.setIfInBounds_toArray, List.set_cons_zero, List.set_cons_succ]
    refine wpAnyH_take (i := 20) (v := ?vy21) (by rw [List.getElem?_toArray]; rfl) (by kernel_rfl) (by kernel_rfl) (by kernel_rfl) (by intro _ _ _ h; exact h) (Or.inl ⟨by rfl, ?hyy21⟩) (by assumption) ?resty21
    case hyy21 => (intro W hSW; (try dsimp only at hSW); go_simp; try with_reducible rfl)
    try simp only [Act.put, List.setIfInBounds_toArray, List.set_cons_zero, List.set_cons_succ]
    refine wpAnyH_take (i := 21) (v := ?vy22) (by rw [List.getElem?_toArray]; rfl) (by kernel_rfl) (by kernel_rfl) (by kernel_rfl) (by intro _ _ _ h; exact h) (Or.inl ⟨by rfl, ?hyy22⟩) (by assumption) ?resty22
    case hyy22 => (intro W hSW; (try dsimp only at hSW); go_simp; try with_reducible rfl)
    try simp only [Act.put, List.setIfInBounds_toArray, List.set_cons_zero, List.set_cons_succ]
    refine wpAnyH_take (i := 22) (v := ?vy23) (by rw [List.getElem?_toArray]; rfl) (by kernel_rfl) (by kernel_rfl) (by kernel_rfl) (by intro _ _ _ h; exact h) (Or.inl ⟨by rfl, ?hyy23⟩) (by assumption) ?resty23
    case hyy23 => (intro W hSW; (try dsimp only at hSW); go_simp; try with_reducible rfl)
    try simp only [Act.put, List.setIfInBounds_toArray, List.set_cons_zero, List.set_cons_succ]
    refine wpAnyH_ready (rs := [23]) (by kernel_rfl) (by simp) (AllReadyH.cons (by rw [List.getElem?_toArray]; rfl) (fun K hK => ?_) AllReadyH.nil)
    go_simp
    refine (CelY.alive _).mono ?_
    rintro r w33 ⟨rfl, hb⟩
    replace TL := Lib.hid (TL.out.step hb)
    replace hS := TL.out.cells
    clear hb
    refine hK.out _ _ hS (fun _ => ?_)
    clear hK K
    try simp only [List.setIfInBounds_toArray, List.set_cons_zero, List.set_cons_succ]
    refine wpAnyH_take (i := 24) (v := ?vy25) (by rw [List.getElem?_toArray]; rfl) (by kernel_rfl) (by kernel_rfl) (by kernel_rfl) (by intro _ _ _ h; exact h) (Or.inl ⟨by rfl, ?hyy25⟩) (by assumption) ?resty25
    case hyy25 => (intro W hSW; (try dsimp only at hSW); go_simp; try with_reducible rfl)
    try simp only [Act.put, List.setIfInBounds_toArray, List.set_cons_zero, List.set_cons_succ]
    refine wpAnyH_take (i := 25) (v := ?vy26) (by rw [List.getElem?_toArray]; rfl) (by kernel_rfl) (by kernel_rfl) (by kernel_rfl) (by intro _ _ _ h; exact h) (Or.inl ⟨by rfl, ?hyy26⟩) (by assumption) ?resty26
    case hyy26 => (intro W hSW; (try dsimp only at hSW); go_simp; try with_reducible rfl)
    try simp only [Act.put, List.setIfInBounds_toArray, List.set_cons_zero, List.set_cons_succ]
    refine wpAnyH_done (by kernel_rfl) ?_ _
    go_wp2
    go_ret
    exact ⟨rfl, TL.out.bel⟩
  · go_region_held3 (fun W => W.cell? ⟨w.heap.size, 0, none⟩ = some (.int .i64 ep) ∧ W.cell? ⟨w.heap.size, 1, none⟩ = some (.int .i64 sl) ∧ W.cell? ⟨w.heap.size, 2, none⟩ = some (.int .i64 lb) ∧ W.cell? ⟨w.heap.size, 3, none⟩ = some (.bool gn) ∧ W.cell? ⟨w.heap.size, 4, none⟩ = some (.string ⟨ci.toArray⟩) ∧ W.cell? ⟨Y, 0, none⟩ = some (.int .i64 ep) ∧ W.cell? ⟨Y, 1, none⟩ = some (.int .i64 sl) ∧ W.cell? ⟨Y, 2, none⟩ = some (.int .i64 lb) ∧ W.cell? ⟨Y, 3, none⟩ = some (.bool true) ∧ W.cell? ⟨Y, 4, none⟩ = some (.string ⟨([] : List UInt8).toArray⟩))
      (exact hS)
      (first
        | (go_at_call 13; refine (HL.out _).mono ?_; rintro r wA ⟨rfl, hb⟩; replace TL := Lib.hid (TL.out.step hb); replace hS := TL.out.cells; clear hb)
        | (go_at_call 7; refine (CelY.alive _).mono ?_; rintro r wB ⟨rfl, hb⟩; replace TL := Lib.hid (TL.out.step hb); replace hS := TL.out.cells; clear hb))
    go_wp2
    go_ret
    exact ⟨rfl, TL.out.bel⟩
theorem put_of (ep sl lb : Int) (gn : Bool) (ci : List UInt8) : ∃ (p : List UInt8) (e : Int) (is : Bool), put_ ⟨ep, sl, lb, gn, ci⟩ = (p, e) ∧ decide (may ⟨ep, sl, lb, gn, ci⟩) = is ∧ check ⟨ep, sl, lb, gn, ci⟩ = e ∧ ((is = true ∧ e = 0) ∨ (is = false ∧ e = 2)) := by
  by_cases h : may ⟨ep, sl, lb, gn, ci⟩
  · exact ⟨_, _, _, CelN.put_yes h, dt h, check_yes h, .inl ⟨rfl, rfl⟩⟩
  · exact ⟨_, _, _, CelN.put_no h, df h, check_no h, .inr ⟨rfl, rfl⟩⟩
theorem hold_of (s : List UInt8) : ∃ (x : List UInt8) (f : Int) (so : Bool), hold s = (x, f) ∧ decide (hmay s) = so ∧ ((so = true ∧ f = 0) ∨ (so = false ∧ f = 2)) := by
  by_cases h : hmay s
  · exact ⟨_, _, _, CelN.hold_yes h, dt h, .inl ⟨rfl, rfl⟩⟩
  · exact ⟨_, _, _, CelN.hold_no h, df h, .inr ⟨rfl, rfl⟩⟩
theorem walk (ep sl lb : Int) (gn : Bool) (ci : List UInt8) (t0 : ByteArray) (w : World) (_ : t0.size ≤ maxLen) :
    Calls Try.prog 3 #[.agg #[.int .i64 ep, .int .i64 sl, .int .i64 lb, .bool gn, .string ⟨ci.toArray⟩], .string t0] w fun r w' => r = .returned (.bool true) ∧ Below w.heap.size w w' := by
  obtain ⟨⟨s⟩⟩ := t0
  by_cases h : 10000 < ci.length
  · exact long ep sl lb gn ci s w (.inl h)
  · by_cases h' : 10000 < s.length
    · exact long ep sl lb gn ci s w (.inr ⟨h, h'⟩)
    · obtain ⟨p, e, is, h1, h2, h3, h4⟩ := put_of ep sl lb gn ci
      obtain ⟨x, f, so, h5, h6, h7⟩ := hold_of s
      exact short ep sl lb gn ci s p x e f is so w h h' h1 h2 h3 h5 h6 h4 h7
theorem own : ownKnob Try.prog.godebug = none := by kernel_rfl
theorem laidOut : laidOutB Try.prog = true := by kernel_rfl
set_option maxRecDepth 100000 in
theorem lifted (os : Os) (started : os.Started) (H : Type) (enc : TypeId × Value → H) :
    ReturnsInHanded {} Try.checked os 3 .any (Rows.cellPutsSpec.pre6 enc Try.prog Try.f3 Rows.cellPutsRow.domain false) (Rows.cellPutsSpec.post enc Try.prog Try.f3 false true false false) := by
  refine returnsInHanded_of_change (C := Try.checked) own started (by kernel_rfl) Try.func3
    (ChangeSpec.witness6 (enc := enc) (C := Try.checked) false ⟨#[], #[.agg #[.int .i64 0, .int .i64 0, .int .i64 0, .bool false, .string ByteArray.empty], .string ByteArray.empty], []⟩ 8 (by kernel_rfl) (by kernel_rfl) (by kernel_rfl) (by kernel_rfl)) ?_
  intro W base args ds gs before hval0 hW hcnd _
  have hval : ∀ (j : Nat) t v, Try.f3.params[j]? = some t → args[j]? = some v → Value.okWide Try.prog W .any base t v := hval0
  have hW' := hW
  obtain ⟨p, q, hA0, hV, rfl, hfz, hnd⟩ := hW
  have hA : DataW.TrodAll enc Try.prog W 0 (fun _ => true) true Try.f3.params.toList args.toList ds p := hA0
  rw [Try.params3] at hA hval
  obtain ⟨v0, vs0, d0, ds0, p0, q0, hargs, rfl, rfl, h0, r0⟩ := trodAll_cons hA
  obtain ⟨v1, vs1, d1, ds1, p1, q1, rfl, rfl, rfl, h1, r1⟩ := trodAll_cons r0
  obtain ⟨rfl, rfl, rfl⟩ := trodAll_nil r1
  obtain rfl : args = #[v0, v1] := by cases args; simp_all
  obtain ⟨rfl, rfl⟩ := trodVars_none hV
  have k0 := h0
  have lt0 : ∀ x ∈ p0, x.block < W.heap.size := by obtain ⟨m, hm⟩ := k0; exact DataW.trod_lt m _ _ _ hm
  obtain ⟨ep0, sl0, lb0, gn0, ci0, rfl⟩ := CelY.open_cell (hval 0 23 v0 rfl rfl) h0
  obtain ⟨a1, rfl, rfl, rfl, w1⟩ := open_string Try.underlying9 (hval 1 9 v1 rfl rfl) h1
  clear hA0 hval0
  refine (walk ep0 sl0 lb0 gn0 ci0 a1 W w1).mono fun e W' ⟨he, bel⟩ => ?_
  subst he
  exact ⟨_, rfl, _, _, _, [], _, [], hW', trodAll_mk1 (shut_bool Try.underlying4 _), (trodAll_cons_mk (Below.trod laidOut (by kernel_rfl) (of_decide_eq_true (by kernel_rfl)) k0 bel lt0) (trodAll_cons_mk (shut_string Try.underlying9 w1) trodAll_mk0)), rfl, bel.frame _, fun h => by cases h⟩
theorem over : Rows.cellPutsRow.holds Try.pinned (OpenSpec.ofChange Rows.cellPutsSpec) :=
  OpenClaim.holds_of_wide 3 Try.f3 rfl rfl rfl rfl rfl rfl rfl ⟨rfl, rfl, rfl, rfl, rfl⟩ rfl rfl rfl rfl rfl (by kernel_rfl) Try.func3 (by kernel_rfl)
    (of_decide_eq_true (by kernel_rfl)) (by unfold Func.isWrapper; first | (rw [if_pos (by decide +kernel)]; kernel_rfl) | (rw [if_neg (by decide +kernel)]; exact ⟨rfl, rfl⟩))
    (fun os started H enc _ => lifted os started H enc)
/-- THE STATEMENT, proved. -/
theorem proved : Rows.CellPutsSaid := over
#print axioms proved
end Go.Proofs.Yteobimhibhfokaa.cellPuts
