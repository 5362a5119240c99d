/- The document's book: Apply: the walk of its text. The conditions: at most 100,000 records, a first epoch within what may be, the row of records the call's own. -/
import Derived.Test.YtopnodkdpehdoaaGreatDoorDbM
import Derived.Maps.AppendAt
namespace Go.Proofs.YtopnodkdpehdoaaGreatDoor.DbA
set_option linter.unusedVariables false
open Go.RowKit
open RecN RecC RetN DbN RetR DbC DbD DbE DbF DbM
theorem info_rec : ((Tryz.prog.info? 82).map fun i => (i.zero, i.size, i.bytes)) = some (some (.agg #[.int .i64 0, .int .i64 0, .int .i64 0, .int .i64 0, .int .i64 0, .int .i64 0, .string ⟨#[]⟩, .string ⟨#[]⟩]), 8, 80) := by kernel_rfl
theorem own_kept {w w' : World} {base : Nat} {e : TypeId} {size : Nat} {v : Value} {n : Nat} {xs : List Value} (h : w.ownsRow base e size v n xs) (hk : ∀ k, v.ownBlock = some k → w'.heap[k]? = w.heap[k]?) : w'.ownsRow base e size v n xs := by
  refine ⟨h.1, ?_⟩
  rcases h.2 with hn | ⟨g, cap, cur, rfl, hb, hg, rest⟩
  · exact .inl hn
  · exact .inr ⟨g, cap, cur, rfl, hb, (hk g rfl).trans hg, rest⟩
theorem cell_row {W : World} {b : Nat} {cs : Array Value} {t : TypeId} (h : W.heap[b]? = some (.cells cs t (0, 0))) : ∀ j u, cs.toList[j]? = some u → W.cell? ((⟨b, 0, none⟩ : Addr).add j) = some u := fun j u hj => by
  rw [add_off, Nat.zero_add]
  exact blk_cell h (by rw [← Array.getElem?_toList]; exact hj)
/-- An append at a step of a drawn region, by what its run is known to give. -/
theorem step_run {P : Program} {w : World} {ops : Array Oper} {o : Oper} {a : Act} {K : Act → World → Prop} {Q : Exit → Act → World → Prop} {E : Prop} (hgd : o.guard = none) (s x : Operand) (t : TypeId)
    (ho : o.op = .call { callee := .builtin .append, args := #[s, x], argTypes := #[t, t] }) (v : Value) (w' : World) (hr : (Builtin.append_ #[t, t] o.type #[a.eval s, a.eval x]).run P w = .ok v w') (h : K (a.put o.dst v) w') :
    if Region.wanted o (yielded ops a.tmps) = true then Oper.wp P o a w K Q else E := by
  have hw : Region.wanted o (yielded ops a.tmps) = true := by simp [Region.wanted, hgd]
  rw [if_pos hw]
  unfold Oper.wp execOp
  simp only [ho, resolve, invoke, builtin, Sem.run_bind, Sem.run_pure, Result.andThen_ok, List.map_toArray, List.map_cons, List.map_nil, hr]
  exact h
/-- What an append of a record to a row of the call's own leaves. -/
theorem app_rec (base : Nat) (a : Option Addr) (n c : Nat) (l : List Rec) (r : Rec) (W : World) (hn : n ≤ 100000) (hb : base ≤ W.heap.size) (hown : W.ownsRow base 82 8 (.slice a n c) n (rr l)) :
    ∃ a' c' W', (Builtin.append_ #[56, 56] 56 #[.slice a n c, .slice (some ⟨W.heap.size, 0, none⟩) 1 1]).run Tryz.prog (W.alloc (.cells #[.int .i64 r.k, .int .i64 r.ep, .int .i64 r.tm, .int .i64 r.ct, .int .i64 r.tg, .int .i64 r.un, .string ⟨r.rt.toArray⟩, .string ⟨r.nm.toArray⟩] 82)) = .ok (.slice a' (n + 1) c') W' ∧
      W'.ownsRow base 82 8 (.slice a' (n + 1) c') (n + 1) (rr (l ++ [r])) ∧ (W.alloc (.cells #[.int .i64 r.k, .int .i64 r.ep, .int .i64 r.tm, .int .i64 r.ct, .int .i64 r.tg, .int .i64 r.un, .string ⟨r.rt.toArray⟩, .string ⟨r.nm.toArray⟩] 82)).grownBy W' (Value.slice a n c).ownBlock ∧
      (∀ k, (Value.slice a' (n + 1) c').ownBlock = some k → (Value.slice a n c).ownBlock = some k ∨ W.heap.size ≤ k) := by
  obtain ⟨i0, hi, hz0, hz1, hz2⟩ := info_parts info_rec
  have hz : (W.alloc (.cells #[.int .i64 r.k, .int .i64 r.ep, .int .i64 r.tm, .int .i64 r.ct, .int .i64 r.tg, .int .i64 r.un, .string ⟨r.rt.toArray⟩, .string ⟨r.nm.toArray⟩] 82)).heap.size = W.heap.size + 1 := by simp
  obtain ⟨v', W', h1, h2, h3, _, h4⟩ := run_append_own_at (P := Tryz.prog) (w := W.alloc (.cells #[.int .i64 r.k, .int .i64 r.ep, .int .i64 r.tm, .int .i64 r.ct, .int .i64 r.tg, .int .i64 r.un, .string ⟨r.rt.toArray⟩, .string ⟨r.nm.toArray⟩] 82)) base 56 56 82 i0 (.agg #[.int .i64 0, .int .i64 0, .int .i64 0, .int .i64 0, .int .i64 0, .int .i64 0, .string ⟨#[]⟩, .string ⟨#[]⟩]) 8 80 Tryz.underlying56 hi hz0 hz1 hz2 rfl (by decide) (.slice a n c) n (rr l) (hown.alloc _) ⟨W.heap.size, 0, none⟩ 1 1 (rcL r) rfl (cell_row (heap_alloc_new W _)) (rc_one r) (by unfold maxLen; omega) (by omega) (by omega)
  obtain ⟨p', c', rfl⟩ := own_slice h2
  exact ⟨p', c', W', h1, by rw [rr_app, rr_one]; exact h2, h3, fun k hk => by
    rcases h4 with h4 | h4
    · exact .inl (h4 ▸ hk)
    · rw [hk] at h4
      have := Option.some.inj h4
      exact .inr (by omega)⟩
/-- What an append to a book leaves: the book's slice, in its block, and the row; all else as it was. -/
structure Apd (base B o : Nat) (a : Option Addr) (n c : Nat) (xs : List Value) (t : TypeId) (size : Nat) (w W : World) : Prop where
  own : ∃ a' c', W.ownsRow base t size (.slice a' (n + 1) c') (n + 1) xs ∧ (∀ cs u, w.heap[B]? = some (.cells cs u (0, 0)) → W.heap[B]? = some (.cells (cs.setIfInBounds o (.slice a' (n + 1) c')) u (0, 0))) ∧ ∀ k, (Value.slice a' (n + 1) c').ownBlock = some k → (Value.slice a n c).ownBlock = some k ∨ w.heap.size ≤ k
  os : W.os = w.os
  tape : W.tape = w.tape
  output : W.output = w.output
  size : w.heap.size ≤ W.heap.size
  block : ∀ k, k < w.heap.size → k ≠ B → (Value.slice a n c).ownBlock ≠ some k → W.heap[k]? = w.heap[k]?
set_option maxRecDepth 100000 in
set_option maxHeartbeats 4000000 in
theorem Apply_no {B o : Nat} {f : Int} {a : Option Addr} {n c : Nat} {l : List Rec} {w : World} (h : Db w B o f a n c l) (r : Rec) (h0 : 0 ≤ f) (h1 : f ≤ 4294967295) (hm : dMay f l r ≠ 0) : Calls Tryz.prog 54 #[.pointer (some ⟨B, o, none⟩), .agg #[.int .i64 r.k, .int .i64 r.ep, .int .i64 r.tm, .int .i64 r.ct, .int .i64 r.tg, .int .i64 r.un, .string ⟨r.rt.toArray⟩, .string ⟨r.nm.toArray⟩]] w fun x w' => x = .returned (.int .i64 (dMay f l r)) ∧ Below w.heap.size w w' := by
  obtain ⟨W1, hW1⟩ : ∃ W1, W1 = w.alloc (.cells #[.int .i64 r.k, .int .i64 r.ep, .int .i64 r.tm, .int .i64 r.ct, .int .i64 r.tg, .int .i64 r.un, .string ⟨r.rt.toArray⟩, .string ⟨r.nm.toArray⟩] 82) := ⟨_, rfl⟩
  have SS : Hid (Wd B o f a n c l r w W1) := Lib.hid (by rw [hW1]; exact wd_new h r)
  have HM := Lib.hid (fun W (h : Db W B o f a n c l) => May h r h0 h1)
  obtain ⟨k0, k1, k2, k3, k4, k5, k6, k7⟩ := SS.out.ws.k.cells
  generalize dMay f l r = q at *
  have hq : (q == 0) = false := by simpa using hm
  clear h hm
  go_enter Tryz.func54, Tryz.ntmps54
  go_upto_region 1 with (fail)
  rw [← hW1]
  clear hW1
  go_wp2_with (go_at_call 53; refine (HM.out _ SS.out.d).mono ?_; rintro e w2 ⟨rfl, hb⟩; replace SS := Lib.hid (SS.out.step hb); clear hb)
  go_ret
  exact ⟨rfl, SS.out.ws.bel⟩
set_option maxRecDepth 100000 in
set_option maxHeartbeats 8000000 in
theorem Apply_yes {base B o : Nat} {f : Int} {a : Option Addr} {n c : Nat} {l : List Rec} {w : World} (h : Db w B o f a n c l) (r : Rec) (h0 : 0 ≤ f) (h1 : f ≤ 4294967295) (hm : dMay f l r = 0)
    (hown : w.ownsRow base 82 8 (.slice a n c) n (rr l)) (hbase : base ≤ w.heap.size) (hne : (Value.slice a n c).ownBlock ≠ some B) (ht : ∀ t cs, w.heap[B]? = some (.cells cs t (0, 0)) → t ≠ 82) :
    Calls Tryz.prog 54 #[.pointer (some ⟨B, o, none⟩), .agg #[.int .i64 r.k, .int .i64 r.ep, .int .i64 r.tm, .int .i64 r.ct, .int .i64 r.tg, .int .i64 r.un, .string ⟨r.rt.toArray⟩, .string ⟨r.nm.toArray⟩]] w fun x w' => x = .returned (.int .i64 0) ∧ Apd base B (o + 1) a n c (rr (l ++ [r])) 82 8 w w' := by
  obtain ⟨W1, hW1⟩ : ∃ W1, W1 = w.alloc (.cells #[.int .i64 r.k, .int .i64 r.ep, .int .i64 r.tm, .int .i64 r.ct, .int .i64 r.tg, .int .i64 r.un, .string ⟨r.rt.toArray⟩, .string ⟨r.nm.toArray⟩] 82) := ⟨_, rfl⟩
  have SS : Hid (Wd B o f a n c l r w W1) := Lib.hid (by rw [hW1]; exact wd_new h r)
  have HM := Lib.hid (fun W (h : Db W B o f a n c l) => May h r h0 h1)
  rw [hm] at HM
  have HO := Lib.hid hown
  have HX := Lib.hid hne
  have HT := Lib.hid ht
  have hBl := h.lt
  have hfew := h.few
  obtain ⟨k0, k1, k2, k3, k4, k5, k6, k7⟩ := SS.out.ws.k.cells
  clear h hm hown hne ht
  go_enter Tryz.func54, Tryz.ntmps54
  go_upto_region 1 with (fail)
  rw [← hW1]
  clear hW1
  go_upto_region 3 with (go_at_call 53; refine (HM.out _ SS.out.d).mono ?_; rintro e w2 ⟨rfl, hb⟩; replace SS := Lib.hid (SS.out.step hb); clear hb)
  clear k0 k1 k2 k3 k4 k5 k6 k7
  replace SS := Lib.hid SS.out.drew
  have HD2 : Hid (Below w.heap.size w w2.drew) := Lib.hid SS.out.ws.bel
  have hs2 : w.heap.size ≤ w2.drew.heap.size := HD2.out.size
  obtain ⟨a', c', W4, happ, hown4, hg4, hat4⟩ := app_rec base a n c l r w2.drew hfew (by omega) (own_step HO.out HD2.out)
  have B3 : Hid (Below w.heap.size w (w2.drew.alloc (.cells #[.int .i64 r.k, .int .i64 r.ep, .int .i64 r.tm, .int .i64 r.ct, .int .i64 r.tg, .int .i64 r.un, .string ⟨r.rt.toArray⟩, .string ⟨r.nm.toArray⟩] 82))) := Lib.hid (HD2.out.trans ((below_new _ _).mono hs2))
  have S3 : Hid (Wd B o f a n c l r w (w2.drew.alloc (.cells #[.int .i64 r.k, .int .i64 r.ep, .int .i64 r.tm, .int .i64 r.ct, .int .i64 r.tg, .int .i64 r.un, .string ⟨r.rt.toArray⟩, .string ⟨r.nm.toArray⟩] 82))) := Lib.hid (SS.out.step (below_new _ _))
  have hrow : ∀ k, (Value.slice a n c).ownBlock = some k → k < w.heap.size := fun k hk => (HO.out.lt k hk).2
  have kB : W4.heap[B]? = (w2.drew.alloc (.cells #[.int .i64 r.k, .int .i64 r.ep, .int .i64 r.tm, .int .i64 r.ct, .int .i64 r.tg, .int .i64 r.un, .string ⟨r.rt.toArray⟩, .string ⟨r.nm.toArray⟩] 82)).heap[B]? := hg4.block B (Nat.lt_of_lt_of_le hBl B3.out.size) (fun e => HX.out e.symm)
  have kR : W4.heap[w.heap.size]? = (w2.drew.alloc (.cells #[.int .i64 r.k, .int .i64 r.ep, .int .i64 r.tm, .int .i64 r.ct, .int .i64 r.tg, .int .i64 r.un, .string ⟨r.rt.toArray⟩, .string ⟨r.nm.toArray⟩] 82)).heap[w.heap.size]? := hg4.block _ S3.out.ws.k.lt (fun e => by have := hrow _ e.symm; omega)
  have hne2 : w.heap.size ≠ B := by omega
  have hS := SS.out.ws.k.cells
  have hS3 := S3.out.ws.k.cells
  have K4 : Bk W4 w.heap.size r := kR.trans S3.out.ws.k
  have hS4 := K4.cells
  have K5 : Bk (W4.setCell ⟨B, o + 1, none⟩ (.slice a' (n + 1) c')) w.heap.size r := (Below.heap_setCell W4 ⟨B, o + 1, none⟩ _ _ hne2).trans K4
  have hS5 := K5.cells
  have c2 := SS.out.d.cells.2
  have c3 := S3.out.d.cells.2
  have c3a : (w2.alloc (.cells #[.int .i64 r.k, .int .i64 r.ep, .int .i64 r.tm, .int .i64 r.ct, .int .i64 r.tg, .int .i64 r.un, .string ⟨r.rt.toArray⟩, .string ⟨r.nm.toArray⟩] 82)).drew.cell? ⟨B, o + 1, none⟩ = some (.slice a n c) := c3
  have c3b : (w2.alloc (.cells #[.int .i64 r.k, .int .i64 r.ep, .int .i64 r.tm, .int .i64 r.ct, .int .i64 r.tg, .int .i64 r.un, .string ⟨r.rt.toArray⟩, .string ⟨r.nm.toArray⟩] 82)).cell? ⟨B, o + 1, none⟩ = some (.slice a n c) := c3
  have POST : Hid (Apd base B (o + 1) a n c (rr (l ++ [r])) 82 8 w (W4.setCell ⟨B, o + 1, none⟩ (.slice a' (n + 1) c'))) := Lib.hid (by
    obtain ⟨cs0, t0, hB0, _⟩ := S3.out.d.head
    have hlt4 : w.heap.size ≤ W4.heap.size := Nat.le_trans B3.out.size hg4.size
    refine ⟨⟨a', c', ?_, fun cs u hc => ?_, fun k hk => (hat4 k hk).imp id (fun h => Nat.le_trans hs2 h)⟩, hg4.os.trans B3.out.os, hg4.tape.trans B3.out.tape, hg4.output.trans B3.out.output, by simpa [World.setCell] using hlt4, fun k hk hkB hko => ?_⟩
    · refine own_kept hown4 fun k hk => Below.heap_setCell _ _ _ _ (fun e => ?_)
      have e : k = B := e
      obtain ⟨g, cap, cur, hv, _, hh, _⟩ := hown4.2.resolve_left (fun e => by have := e.2; omega)
      rw [hv] at hk
      have e2 : g = k := Option.some.inj hk
      rw [e2, e, kB, hB0] at hh
      injection hh with hh
      injection hh with _ hh
      exact HT.out t0 cs0 ((B3.out.block B hBl).symm.trans hB0) hh
    · exact blk_set (kB.trans ((B3.out.block B hBl).trans hc))
    · refine (Below.heap_setCell _ _ _ _ (by exact hkB)).trans ?_
      exact (hg4.block k (Nat.lt_of_lt_of_le hk B3.out.size) (fun e => hko e.symm)).trans (B3.out.block k hk))
  have c4 : ∃ cs t, W4.heap[B]? = some (.cells cs t (0, 0)) ∧ cs[o + 1]? = some (.slice a n c) := by
    obtain ⟨cs0, t0, hB0, _, q1⟩ := S3.out.d.head
    exact ⟨cs0, t0, kB.trans hB0, q1⟩
  have f4 : W4.frozen? ⟨B, o + 1, none⟩ = false := by obtain ⟨cs, t, q, _⟩ := c4; exact blk_free q
  have g4 : W4.cell? ⟨B, o + 1, none⟩ = some (.slice a n c) := by obtain ⟨cs, t, q, q1⟩ := c4; exact blk_cell q q1
  clear hown4 hg4 hat4 kB kR hrow c4 K4 K5 S3 HO HX HT
  refine wp_region_held_drew (S := fun W => W.cell? ⟨w.heap.size, 0, none⟩ = some (.int .i64 r.k) ∧ W.cell? ⟨w.heap.size, 1, none⟩ = some (.int .i64 r.ep) ∧ W.cell? ⟨w.heap.size, 2, none⟩ = some (.int .i64 r.tm) ∧ W.cell? ⟨w.heap.size, 3, none⟩ = some (.int .i64 r.ct) ∧ W.cell? ⟨w.heap.size, 4, none⟩ = some (.int .i64 r.tg) ∧ W.cell? ⟨w.heap.size, 5, none⟩ = some (.int .i64 r.un) ∧ W.cell? ⟨w.heap.size, 6, none⟩ = some (.string ⟨r.rt.toArray⟩) ∧ W.cell? ⟨w.heap.size, 7, none⟩ = some (.string ⟨r.nm.toArray⟩)) (by kernel_rfl) hS (fun _ => ?_)
  change wpAnyH _ _ _ _ _ _ #[false, false, false, false, false, false, false, false, false, false, false] _ _
  refine wpAnyH_take (i := 0) (v := ?v1) (by rw [List.getElem?_toArray]; rfl) (by kernel_rfl) (by kernel_rfl) (by kernel_rfl) (by intro _ _ _ h; exact h) (Or.inl ⟨by rfl, ?hy1⟩) (by assumption) ?rest1
  case hy1 => (intro W hSW; (try dsimp only at hSW); go_simp; try with_reducible rfl)
  try simp only [Act.put, List.setIfInBounds_toArray, List.set_cons_zero, List.set_cons_succ]
  refine wpAnyH_take (i := 1) (v := ?v2) (by rw [List.getElem?_toArray]; rfl) (by kernel_rfl) (by kernel_rfl) (by kernel_rfl) (by intro _ _ _ h; exact h) (Or.inl ⟨by rfl, ?hy2⟩) (by assumption) ?rest2
  case hy2 => (intro W hSW; (try dsimp only at hSW); go_simp; try with_reducible rfl)
  try simp only [Act.put, List.setIfInBounds_toArray, List.set_cons_zero, List.set_cons_succ]
  refine wpAnyH_take (i := 2) (v := ?v3) (by rw [List.getElem?_toArray]; rfl) (by kernel_rfl) (by kernel_rfl) (by kernel_rfl) (by intro _ _ _ h; exact h) (Or.inl ⟨by rfl, ?hy3⟩) (by assumption) ?rest3
  case hy3 => (intro W hSW; (try dsimp only at hSW); go_simp; try with_reducible rfl)
  try simp only [Act.put, List.setIfInBounds_toArray, List.set_cons_zero, List.set_cons_succ]
  refine wpAnyH_take (i := 3) (v := ?v4) (by rw [List.getElem?_toArray]; rfl) (by kernel_rfl) (by kernel_rfl) (by kernel_rfl) (by intro _ _ _ h; exact h) (Or.inl ⟨by rfl, ?hy4⟩) (by assumption) ?rest4
  case hy4 => (intro W hSW; (try dsimp only at hSW); go_simp; try with_reducible rfl)
  try simp only [Act.put, List.setIfInBounds_toArray, List.set_cons_zero, List.set_cons_succ]
  refine wpAnyH_take (i := 5) (v := ?v5) (by rw [List.getElem?_toArray]; rfl) (by kernel_rfl) (by kernel_rfl) (by kernel_rfl) (by intro _ _ _ h; exact h) (Or.inl ⟨by rfl, ?hy5⟩) (by assumption) ?rest5
  case hy5 => (intro W hSW; (try dsimp only at hSW); go_simp; try with_reducible rfl)
  try simp only [Act.put, List.setIfInBounds_toArray, List.set_cons_zero, List.set_cons_succ]
  refine wpAnyH_ready (rs := [4, 6]) (by kernel_rfl) (by simp) (AllReadyH.cons (by rw [List.getElem?_toArray]; rfl) (fun K hK => ?_) (AllReadyH.cons (by rw [List.getElem?_toArray]; rfl) (fun K hK => ?_) AllReadyH.nil))
  · go_simp
    refine hK.out _ _ hS (fun _ => ?_)
    clear hK K
    try simp only [List.setIfInBounds_toArray, List.set_cons_zero, List.set_cons_succ]
    refine wpAnyH_ready (rs := [6]) (by kernel_rfl) (by simp) (AllReadyH.cons (by rw [List.getElem?_toArray]; rfl) (fun K hK => ?_) AllReadyH.nil)
    go_simp
    refine hK.out _ _ hS3 (fun _ => ?_)
    clear hK K
    try simp only [List.setIfInBounds_toArray, List.set_cons_zero, List.set_cons_succ]
    refine wpAnyH_ready (rs := [7]) (by kernel_rfl) (by simp) (AllReadyH.cons (by rw [List.getElem?_toArray]; rfl) (fun K hK => ?_) AllReadyH.nil)
    refine step_run (by rfl) _ _ _ (by rfl) _ W4 (by exact happ) ?_
    refine hK.out _ _ hS4 (fun _ => ?_)
    clear hK K
    try simp only [List.setIfInBounds_toArray, List.set_cons_zero, List.set_cons_succ]
    refine wpAnyH_take (i := 8) (v := ?v6) (by rw [List.getElem?_toArray]; rfl) (by kernel_rfl) (by kernel_rfl) (by kernel_rfl) (by intro _ _ _ h; exact h) (Or.inl ⟨by rfl, ?hy6⟩) (by assumption) ?rest6
    case hy6 => (intro W hSW; (try dsimp only at hSW); go_simp; try with_reducible rfl)
    try simp only [Act.put, List.setIfInBounds_toArray, List.set_cons_zero, List.set_cons_succ]
    refine wpAnyH_take (i := 9) (v := ?v7) (by rw [List.getElem?_toArray]; rfl) (by kernel_rfl) (by kernel_rfl) (by kernel_rfl) (by intro _ _ _ h; exact h) (Or.inl ⟨by rfl, ?hy7⟩) (by assumption) ?rest7
    case hy7 => (intro W hSW; (try dsimp only at hSW); go_simp; try with_reducible rfl)
    try simp only [Act.put, List.setIfInBounds_toArray, List.set_cons_zero, List.set_cons_succ]
    refine wpAnyH_ready (rs := [10]) (by kernel_rfl) (by simp) (AllReadyH.cons (by rw [List.getElem?_toArray]; rfl) (fun K hK => ?_) AllReadyH.nil)
    go_simp
    refine hK.out _ _ hS5 (fun _ => ?_)
    clear hK K
    try simp only [List.setIfInBounds_toArray, List.set_cons_zero, List.set_cons_succ]
    refine wpAnyH_done (by kernel_rfl) ?_ _
    go_wp2
    go_ret
    exact ⟨rfl, POST.out⟩
  · go_simp
    refine hK.out _ _ hS3 (fun _ => ?_)
    clear hK K
    try simp only [List.setIfInBounds_toArray, List.set_cons_zero, List.set_cons_succ]
    refine wpAnyH_ready (rs := [4]) (by kernel_rfl) (by simp) (AllReadyH.cons (by rw [List.getElem?_toArray]; rfl) (fun K hK => ?_) AllReadyH.nil)
    go_simp
    refine hK.out _ _ hS3 (fun _ => ?_)
    clear hK K
    try simp only [List.setIfInBounds_toArray, List.set_cons_zero, List.set_cons_succ]
    refine wpAnyH_ready (rs := [7]) (by kernel_rfl) (by simp) (AllReadyH.cons (by rw [List.getElem?_toArray]; rfl) (fun K hK => ?_) AllReadyH.nil)
    refine step_run (by rfl) _ _ _ (by rfl) _ W4 (by exact happ) ?_
    refine hK.out _ _ hS4 (fun _ => ?_)
    clear hK K
    try simp only [List.setIfInBounds_toArray, List.set_cons_zero, List.set_cons_succ]
    refine wpAnyH_take (i := 8) (v := ?v8) (by rw [List.getElem?_toArray]; rfl) (by kernel_rfl) (by kernel_rfl) (by kernel_rfl) (by intro _ _ _ h; exact h) (Or.inl ⟨by rfl, ?hy8⟩) (by assumption) ?rest8
    case hy8 => (intro W hSW; (try dsimp only at hSW); go_simp; try with_reducible rfl)
    try simp only [Act.put, List.setIfInBounds_toArray, List.set_cons_zero, List.set_cons_succ]
    refine wpAnyH_take (i := 9) (v := ?v9) (by rw [List.getElem?_toArray]; rfl) (by kernel_rfl) (by kernel_rfl) (by kernel_rfl) (by intro _ _ _ h; exact h) (Or.inl ⟨by rfl, ?hy9⟩) (by assumption) ?rest9
    case hy9 => (intro W hSW; (try dsimp only at hSW); go_simp; try with_reducible rfl)
    try simp only [Act.put, List.setIfInBounds_toArray, List.set_cons_zero, List.set_cons_succ]
    refine wpAnyH_ready (rs := [10]) (by kernel_rfl) (by simp) (AllReadyH.cons (by rw [List.getElem?_toArray]; rfl) (fun K hK => ?_) AllReadyH.nil)
    go_simp
    refine hK.out _ _ hS5 (fun _ => ?_)
    clear hK K
    try simp only [List.setIfInBounds_toArray, List.set_cons_zero, List.set_cons_succ]
    refine wpAnyH_done (by kernel_rfl) ?_ _
    go_wp2
    go_ret
    exact ⟨rfl, POST.out⟩
end Go.Proofs.YtopnodkdpehdoaaGreatDoor.DbA
