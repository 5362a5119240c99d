/- newest and of: the walks of their texts. The condition: that the row stands in its order. -/
import Derived.Test.YtnebbbloipdnbaaIdxG
namespace Go.Proofs.Ytnebbbloipdnbaa.IdxH
open Go.RowKit
open IdxN IdxM IdxC IdxL IdxS IdxD IdxF IdxG
/-- Results of which the first is a struct in a cell. -/
theorem results_cell_tmp_row {P : Program} {fn : Func} {p u : Tmp} {ty : TypeId} (h : fn.results = #[.cell p ty, .tmp u]) (tmps : Array Value) (w : World) (g : Nat) (t : TypeId) (cs : Array Value) (fr : Nat × Nat) (d : TypeDesc)
    (hp : tmps.getD p undef = .pointer (some ⟨g, 0, none⟩)) (hg : w.heap[g]? = some (.cells cs t fr))
    (hu : P.underlying ty = some d) (hd : (match d with | .struct _ | .array _ _ => true | _ => false) = true) (hi : (P.info? ty).map (·.size) = some cs.size) :
    (results fn tmps).run P w = .ok (.tuple #[.agg cs, tmps.getD u undef]) w := by
  rw [results_cell_tmp h, hp]
  simp [asAddr, run_loadVar_row w g t ty cs fr d hg hu hd hi]
/-- What is told of a version: the version, and whether there is one. -/
def Tvb (x : V × Bool) (w : World) (e : Ending) (w' : World) : Prop := e = .returned (.tuple #[.agg #[.int .i64 x.1.1, .int .i64 x.1.2.1, .int .i64 x.1.2.2], .bool x.2]) ∧ Below w.heap.size w w'
/-- What stands while newest runs. -/
structure Nw (w : World) (lba ep : Int) (a : Option Addr) (l : List V) (W : World) : Prop where
  bel : Below w.heap.size w W
  k0 : W.heap[w.heap.size]? = some (.cells #[.int .i64 lba] 3 (0, 0))
  k1 : W.heap[w.heap.size + 1]? = some (.cells #[.int .i64 ep] 3 (0, 0))
  k2 : W.heap[w.heap.size + 1 + 1]? = some (.cells #[.int .i64 0, .int .i64 0, .int .i64 0] 27 (0, 0))
  lies : Lies W a l
variable {w W W' : World} {lba ep : Int} {a : Option Addr} {l : List V}
theorem lt_of {W : World} {g : Nat} {o : Obj} (h : W.heap[g]? = some o) : g < W.heap.size := (Array.getElem?_eq_some_iff.1 h).1
theorem Nw.step (h : Nw w lba ep a l W) (hb : Below W.heap.size W W') : Nw w lba ep a l W' :=
  ⟨h.bel.trans (hb.mono h.bel.size), (hb.block _ (lt_of h.k0)).trans h.k0, (hb.block _ (lt_of h.k1)).trans h.k1, (hb.block _ (lt_of h.k2)).trans h.k2, h.lies.step hb⟩
theorem nw_new (w : World) (lba ep : Int) (a : Option Addr) (l : List V) (h : Lies w a l) : Nw w lba ep a l (((w.alloc (.cells #[.int .i64 lba] 3)).alloc (.cells #[.int .i64 ep] 3)).alloc (.cells #[.int .i64 0, .int .i64 0, .int .i64 0] 27)) :=
  ⟨below_alloc3 _ _ _ _, alloc3_0 _ _ _ _, alloc3_1 _ _ _ _, alloc3_2 _ _ _ _, h.step (below_alloc3 _ _ _ _)⟩
theorem Nw.c0 (h : Nw w lba ep a l W) : W.cell? ⟨w.heap.size, 0, none⟩ = some (.int .i64 lba) := blk_cell h.k0 rfl
theorem Nw.c1 (h : Nw w lba ep a l W) : W.cell? ⟨w.heap.size + 1, 0, none⟩ = some (.int .i64 ep) := blk_cell h.k1 rfl
theorem newest_count (c : Nat) (w W : World) (lba ep : Int) (a : Option Addr) (l : List V) (hl : l.length ≤ 100000000) (hs : Sorted l) (h : Nw w lba ep a l W) :
    Calls Try.prog 27 #[.slice a l.length c, .func (.func 44) #[] #[.pointer (some ⟨w.heap.size, 0, none⟩), .pointer (some ⟨w.heap.size + 1, 0, none⟩)]] W fun e w' => e = .returned (.int .i64 (cut (soon lba ep) l : Nat)) ∧ Below W.heap.size W w' :=
  count _ _ (soon lba ep) c a l W hl h.lies (soon_mono hs lba ep) (fun _ _ => rfl) fun V v hb => soonC _ _ lba ep v V (h.step hb).c0 (h.step hb).c1
theorem newest_zero (h : cut (soon lba ep) l = 0) : newest l lba ep = (z0, false) := by unfold newest; rw [if_pos h]
theorem newest_no {m : Nat} (h : cut (soon lba ep) l = m + 1) (he : ¬ (l.getD m z0).1 = lba) : newest l lba ep = (z0, false) := by
  unfold newest
  rw [h, if_neg (by omega), Nat.add_sub_cancel, if_neg he]
theorem newest_yes {m : Nat} (h : cut (soon lba ep) l = m + 1) (he : (l.getD m z0).1 = lba) : newest l lba ep = (l.getD m z0, true) := by
  unfold newest
  rw [h, if_neg (by omega), Nat.add_sub_cancel, if_pos he]
set_option maxRecDepth 100000 in
set_option maxHeartbeats 1000000 in
theorem cnewest (c : Nat) (a : Option Addr) (l : List V) (lba ep : Int) (w : World) (hl : l.length ≤ 100000000) (hs : Sorted l) (h : Lies w a l) :
    Calls Try.prog 32 #[.slice a l.length c, .int .i64 lba, .int .i64 ep] w (Tvb (newest l lba ep) w) := by
  have NN := Lib.hid (nw_new w lba ep a l h)
  obtain ⟨W3, hW3⟩ : ∃ W3, W3 = (((w.alloc (.cells #[.int .i64 lba] 3)).alloc (.cells #[.int .i64 ep] 3)).alloc (.cells #[.int .i64 0, .int .i64 0, .int .i64 0] 27)) := ⟨_, rfl⟩
  rw [← hW3] at NN
  have HC := Lib.hid (newest_count c w W3 lba ep a l hl hs NN.out)
  have hcl := cut_le (soon lba ep) l
  clear h hs
  cases h0 : cut (soon lba ep) l with
  | zero =>
    rw [newest_zero h0]
    rw [h0] at HC
    clear h0 hcl
    go_enter Try.func32, Try.ntmps32
    go_upto_region 1 with (fail)
    rw [← hW3]
    clear hW3
    go_wp2_with (go_at_call 27; refine HC.out.mono ?_; rintro e w4 ⟨rfl, hb⟩; replace NN := Lib.hid (NN.out.step hb); clear hb HC)
    have N5 := Lib.hid (fun n => NN.out.step (below_drewN w4 n))
    clear NN
    go_quiet (fail)
    go_wp2_with (refine wpList_store_row rfl 27 _ _ rfl (w.heap.size + 1 + 1) _ rfl rfl 27 _ (N5.out _).k2 infoV rfl (one3 z0) ?_)
    refine bodyPost_ret (v := .tuple #[.agg #[.int .i64 0, .int .i64 0, .int .i64 0], .bool false])
      (results_cell_tmp_row Try.results32 _ _ (w.heap.size + 1 + 1) 27 _ (0, 0) _ rfl (setRow_same (N5.out _).k2) Try.underlying27 rfl infoV) rfl
      ⟨rfl, below_setRow (N5.out _).bel (by omega) _⟩
  | succ m =>
    rw [h0] at HC hcl
    have hm : m < l.length := by omega
    have hml : (m : Int) < (l.length : Int) := by omega
    have hwm : IntKind.i64.wrap (m : Int) = m := by rw [IntKind.wrap_i64]; omega
    have hmz : ((m : Int) + 1 == 0) = false := by rw [beq_eq_false_iff_ne]; omega
    obtain ⟨g, o, rfl, hg, hat⟩ := NN.out.lies.at_ (by omega)
    have e : l.getD m z0 = l[m] := by simp [List.getD, hm]
    have HA : Hid (∀ W, Nw w lba ep (some ⟨g, o, none⟩) l W → W.cell? ⟨g, o + m * 3, none⟩ = some (.int .i64 (l.getD m z0).1) ∧ W.cell? ⟨g, o + m * 3 + 1, none⟩ = some (.int .i64 (l.getD m z0).2.1) ∧ W.cell? ⟨g, o + m * 3 + 2, none⟩ = some (.int .i64 (l.getD m z0).2.2)) := Lib.hid fun W h => by
      obtain ⟨g', o', e', _, hat'⟩ := h.lies.at_ (by omega)
      cases e'
      rw [e]
      exact hat' m hm
    clear hat e hcl
    by_cases he : (l.getD m z0).1 = lba
    · rw [newest_yes h0 he]
      clear h0
      generalize l.getD m z0 = v at *
      obtain ⟨v0, v1, v2⟩ := v
      dsimp only at HA he
      subst he
      go_enter Try.func32, Try.ntmps32
      go_upto_region 1 with (fail)
      rw [← hW3]
      clear hW3
      go_wp2_with (go_at_call 27; refine HC.out.mono ?_; rintro e w4 ⟨rfl, hb⟩; replace NN := Lib.hid (NN.out.step hb); clear hb HC)
      obtain ⟨m0, m1, m2⟩ := HA.out w4 NN.out
      have k0 := NN.out.c0
      have N5 := Lib.hid (fun n => NN.out.step (below_drewN w4 n))
      clear NN
      go_quiet (fail)
      go_wp2_with (refine wpList_store_row rfl 27 _ _ rfl (w.heap.size + 1 + 1) _ rfl rfl 27 _ (N5.out _).k2 infoV rfl (one3 (v0, v1, v2)) ?_)
      refine bodyPost_ret (v := .tuple #[.agg #[.int .i64 v0, .int .i64 v1, .int .i64 v2], .bool true])
        (results_cell_tmp_row Try.results32 _ _ (w.heap.size + 1 + 1) 27 _ (0, 0) _ rfl (setRow_same (N5.out _).k2) Try.underlying27 rfl infoV) rfl
        ⟨rfl, below_setRow (N5.out _).bel (by omega) _⟩
    · rw [newest_no h0 he]
      clear h0
      generalize l.getD m z0 = v at *
      obtain ⟨v0, v1, v2⟩ := v
      dsimp only at HA he
      go_enter Try.func32, Try.ntmps32
      go_upto_region 1 with (fail)
      rw [← hW3]
      clear hW3
      go_wp2_with (go_at_call 27; refine HC.out.mono ?_; rintro e w4 ⟨rfl, hb⟩; replace NN := Lib.hid (NN.out.step hb); clear hb HC)
      obtain ⟨m0, m1, m2⟩ := HA.out w4 NN.out
      have k0 := NN.out.c0
      have N5 := Lib.hid (fun n => NN.out.step (below_drewN w4 n))
      have he' : (v0 == lba) = false := by rw [beq_eq_false_iff_ne]; exact he
      clear NN he
      go_quiet (fail)
      go_wp2_with (refine wpList_store_row rfl 27 _ _ rfl (w.heap.size + 1 + 1) _ rfl rfl 27 _ (N5.out _).k2 infoV rfl (one3 z0) ?_)
      refine bodyPost_ret (v := .tuple #[.agg #[.int .i64 0, .int .i64 0, .int .i64 0], .bool false])
        (results_cell_tmp_row Try.results32 _ _ (w.heap.size + 1 + 1) 27 _ (0, 0) _ rfl (setRow_same (N5.out _).k2) Try.underlying27 rfl infoV) rfl
        ⟨rfl, below_setRow (N5.out _).bel (by omega) _⟩
end Go.Proofs.Ytnebbbloipdnbaa.IdxH
