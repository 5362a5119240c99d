/- MdK MdL: one behind the other. -/
import Derived.Test.YtopnodkdpehdoaaGreatDoorLMdi
import Derived.Test.YtopnodkdpehdoaaGreatDoorLRef
/- The document's model: Do: the walk of its text. No conditions but those that each lemma names. -/
namespace Go.Proofs.YtopnodkdpehdoaaGreatDoor.MdK
set_option linter.unusedVariables false
open Go.RowKit
open RecN RecC RetN DbN RetR DbC DbD DbE DbF DbM DbA MdN MdC MdD MdE MdF AnsC MdG MdH MdI MdJ
def wrT (m : Mo) (c : Cl) : Mo := if wrE m c = 0 then wrM m c else m
def tkT (m : Mo) (t : Int) : Mo := if tkE m t = 0 then { m with ck := t } else m
def clT (m : Mo) : Mo := if clE m = 0 then rcM m (clR m) else m
theorem cl_yes {m : Mo} (h : m.s.ep < 4294967295) (hd : m.used < GeoN.data m.b m.lb m.f) : clE m = rcE m (clR m) 1 ∧ clT m = rcT m (clR m) 1 := by
  have e : clE m = rcE m (clR m) 1 := by unfold clE; rw [if_pos ⟨h, hd⟩]
  exact ⟨e, by unfold clT rcT; rw [e]⟩
theorem cl_no {m : Mo} (h : ¬ (m.s.ep < 4294967295 ∧ m.used < GeoN.data m.b m.lb m.f)) : clE m = 6 ∧ clT m = m := by
  have e : clE m = 6 := by unfold clE; rw [if_neg h]
  exact ⟨e, by unfold clT; rw [e, if_neg (by decide)]⟩
section
variable {m : Mo} {c : Cl}
theorem do_1 (h : c.k = 1) : doA m c = anE (wrE m c) ∧ doM m c = wrT m c := ⟨by unfold doA doE; rw [if_neg (by omega), if_neg (by omega), if_neg (by omega), if_pos h], by unfold doM; rw [if_pos h]; rfl⟩
theorem do_2 (h : c.k = 2) : doA m c = rd m c.lb m.s.ep ∧ doM m c = m := ⟨by unfold doA; rw [if_pos h], by unfold doM; rw [if_neg (by omega), if_neg (by omega), if_neg (by omega), if_neg (by omega)]⟩
theorem do_3 (h : c.k = 3) : doA m c = rd m c.lb c.ep ∧ doM m c = m := ⟨by unfold doA; rw [if_neg (by omega), if_pos h], by unfold doM; rw [if_neg (by omega), if_neg (by omega), if_neg (by omega), if_neg (by omega)]⟩
theorem do_4 (h : c.k = 4) : doA m c = anE 0 ∧ doM m c = m := ⟨by unfold doA doE; rw [if_neg (by omega), if_neg (by omega), if_neg (by omega), if_neg (by omega), if_pos h], by unfold doM; rw [if_neg (by omega), if_neg (by omega), if_neg (by omega), if_neg (by omega)]⟩
theorem do_5 (h : c.k = 5) : doA m c = anE (clE m) ∧ doM m c = clT m := ⟨by unfold doA doE; rw [if_neg (by omega), if_neg (by omega), if_neg (by omega), if_neg (by omega), if_neg (by omega), if_pos h], by unfold doM; rw [if_neg (by omega), if_pos h]; rfl⟩
theorem do_6 (h : c.k = 6 ∨ c.k = 7 ∨ c.k = 8 ∨ c.k = 9) : doA m c = anE (slE m c) ∧ doM m c = slT m c := ⟨by unfold doA doE; rw [if_neg (by omega), if_neg (by omega), if_neg (by omega), if_neg (by omega), if_neg (by omega), if_neg (by omega), if_pos h], by unfold doM; rw [if_neg (by omega), if_neg (by omega), if_pos h]; rfl⟩
theorem do_10 (h : c.k = 10) : doA m c = ⟨0, [], sta m⟩ ∧ doM m c = m := ⟨by unfold doA; rw [if_neg (by omega), if_neg (by omega), if_pos h], by unfold doM; rw [if_neg (by omega), if_neg (by omega), if_neg (by omega), if_neg (by omega)]⟩
theorem do_11 (h : c.k = 11) : doA m c = anE (tkE m c.tm) ∧ doM m c = tkT m c.tm := ⟨by unfold doA doE; rw [if_neg (by omega), if_neg (by omega), if_neg (by omega), if_neg (by omega), if_neg (by omega), if_neg (by omega), if_neg (by omega), if_pos h], by unfold doM; rw [if_neg (by omega), if_neg (by omega), if_neg (by omega), if_pos h]; rfl⟩
theorem do_0 (h : ∀ k, 1 ≤ k → k ≤ 11 → c.k ≠ k) : doA m c = anE 2 ∧ doM m c = m := by
  have q1 := h 1 (by decide) (by decide)
  have q2 := h 2 (by decide) (by decide)
  have q3 := h 3 (by decide) (by decide)
  have q4 := h 4 (by decide) (by decide)
  have q5 := h 5 (by decide) (by decide)
  have q6 := h 6 (by decide) (by decide)
  have q7 := h 7 (by decide) (by decide)
  have q8 := h 8 (by decide) (by decide)
  have q9 := h 9 (by decide) (by decide)
  have q10 := h 10 (by decide) (by decide)
  have q11 := h 11 (by decide) (by decide)
  clear h
  exact ⟨by unfold doA doE; rw [if_neg q2, if_neg q3, if_neg q10, if_neg q1, if_neg q4, if_neg q5, if_neg (by omega), if_neg q11], by unfold doM; rw [if_neg q1, if_neg q5, if_neg (by omega), if_neg q11]⟩
end
section
variable {base X : Nat} {m m' : Mo} {ar : Option Addr} {cr : Nat} {av : Option Addr} {cv : Nat} {w W W' : World}
theorem write (h : Dm base X m ar cr av cv w) (hbase : base ≤ w.heap.size) (c : Cl) (pk : Option Addr) (nk ck : Nat) :
    Calls Tryz.prog 28 #[.pointer (some ⟨X, 0, none⟩), .agg #[.int .i64 c.k, .int .i64 c.lb, .int .i64 c.ep, .int .i64 c.tm, .string ⟨c.da.toArray⟩, .string ⟨c.nm.toArray⟩, .slice pk nk ck]] w fun x w' => x = .returned (.int .i64 (wrE m c)) ∧ Turn base X m ar cr av cv (wrT m c) w w' := by
  unfold wrT
  by_cases he : wrE m c = 0
  · rw [if_pos he, he]
    exact write_yes h hbase c pk nk ck he
  · rw [if_neg he]
    exact (write_no h c pk nk ck he).mono (fun x w' ⟨h1, h2⟩ => ⟨h1, Turn.still h h2⟩)
theorem tick (h : Dm base X m ar cr av cv w) (t : Int) : Calls Tryz.prog 37 #[.pointer (some ⟨X, 0, none⟩), .int .i64 t] w fun x w' => x = .returned (.int .i64 (tkE m t)) ∧ Turn base X m ar cr av cv (tkT m t) w w' := by
  unfold tkT
  by_cases he : tkE m t = 0
  · rw [if_pos he, he]
    exact tick_yes h t he
  · rw [if_neg he]
    exact (tick_no h t he).mono (fun x w' ⟨h1, h2⟩ => ⟨h1, h2 ▸ Turn.still h (Below.refl _ _)⟩)
/-- A row of the caller's own is written behind a turn. -/
theorem _root_.Go.Proofs.YtopnodkdpehdoaaGreatDoor.MdC.Turn.row (hd : Dm base X m ar cr av cv w) (hb : Below w.heap.size w W) (h : Turn base X m ar cr av cv m' W W') {B : Nat} (h0 : w.heap.size ≤ B) (h1 : B < W.heap.size) (cs : Array Value) : Turn base X m ar cr av cv m' w (W'.setRow B cs) := by
  obtain ⟨a1, c1, a2, c2, q1, q2, q3, q4, q5, q6, q7⟩ := h
  have hn : ∀ k, Foot X m' a1 c1 a2 c2 k → k ≠ B := fun k hk e => by
    rcases q2 k hk with hf | hf
    · have := hd.foot hf; omega
    · omega
  refine ⟨a1, c1, a2, c2, ⟨(setRow_far (hn X (.inl rfl))).trans q1.head, own_kept q1.rows fun k hk => setRow_far (hn k (.inr (.inl hk))), own_kept q1.vrow fun k hk => setRow_far (hn k (.inr (.inr hk))), q1.ok⟩, fun k hk => (q2 k hk).imp id (fun h => Nat.le_trans hb.size h), q3.trans hb.os, q4.trans hb.tape, q5.trans hb.output, by simpa [World.setRow] using Nat.le_trans hb.size q6, fun k hk hf => ?_⟩
  exact (setRow_far (show k ≠ B by omega)).trans ((q7 k (Nat.lt_of_lt_of_le hk hb.size) hf).trans (hb.block k hk))
/-- What stands in Do: the block of the call, and that of the answer. -/
structure Ds (base X : Nat) (m : Mo) (ar : Option Addr) (cr : Nat) (av : Option Addr) (cv : Nat) (c : Cl) (pk : Option Addr) (nk ck : Nat) (w W : World) : Prop where
  bel : Below w.heap.size w W
  bc : Bc W w.heap.size c pk nk ck
  br : W.heap[w.heap.size + 1]? = some (.cells #[.int .i64 0, .string ⟨#[]⟩, .int .i64 0, .int .i64 0, .int .i64 0, .int .i64 0, .int .i64 0, .int .i64 0] 39 (0, 0))
  d : Dm base X m ar cr av cv W
theorem Ds.step {c : Cl} {pk : Option Addr} {nk ck : Nat} (h : Ds base X m ar cr av cv c pk nk ck w W) (hb : Below W.heap.size W W') : Ds base X m ar cr av cv c pk nk ck w W' :=
  ⟨h.bel.trans (hb.mono h.bel.size), h.bc.step hb, (hb.block _ (RecC.lt_of_some h.br)).trans h.br, h.d.step hb⟩
end
theorem _root_.Go.Proofs.YtopnodkdpehdoaaGreatDoor.MdC.Turn.far {base X : Nat} {m m' : Mo} {ar : Option Addr} {cr : Nat} {av : Option Addr} {cv : Nat} {w W W' : World} (h : Turn base X m ar cr av cv m' W W') (hd : Dm base X m ar cr av cv w) (hb : Below w.heap.size w W) {k : Nat} (h0 : w.heap.size ≤ k) (h1 : k < W.heap.size) : W'.heap[k]? = W.heap[k]? := by
  obtain ⟨_, _, _, _, _, _, _, _, _, _, h7⟩ := h
  exact h7 k h1 (fun hf => by have := hd.foot hf; omega)
set_option maxRecDepth 100000 in
set_option maxHeartbeats 8000000 in
theorem Do_1 {base X : Nat} {m : Mo} {ar : Option Addr} {cr : Nat} {av : Option Addr} {cv : Nat} {w : World} (h : Dm base X m ar cr av cv w) (hbase : base ≤ w.heap.size) (c : Cl) (pk : Option Addr) (nk ck : Nat) (hk : c.k = 1) :
    Calls Tryz.prog 13 #[.pointer (some ⟨X, 0, none⟩), .agg #[.int .i64 c.k, .int .i64 c.lb, .int .i64 c.ep, .int .i64 c.tm, .string ⟨c.da.toArray⟩, .string ⟨c.nm.toArray⟩, .slice pk nk ck]] w fun x w' => x = .returned (.agg (anA (doA m c))) ∧ Turn base X m ar cr av cv (doM m c) w w' := by
  obtain ⟨W1, hW1⟩ : ∃ W1, W1 = (w.alloc (.cells #[.int .i64 c.k, .int .i64 c.lb, .int .i64 c.ep, .int .i64 c.tm, .string ⟨c.da.toArray⟩, .string ⟨c.nm.toArray⟩, .slice pk nk ck] 35)).alloc (.cells #[.int .i64 0, .string ⟨#[]⟩, .int .i64 0, .int .i64 0, .int .i64 0, .int .i64 0, .int .i64 0, .int .i64 0] 39) := ⟨_, rfl⟩
  have DS : Hid (Ds base X m ar cr av cv c pk nk ck w W1) := Lib.hid (by
    have b1 : Below w.heap.size w W1 := by rw [hW1]; exact (below_new w _).trans ((below_new _ _).mono (by simp))
    exact ⟨b1, by rw [hW1]; exact heap_alloc2_old w _ _, by rw [hW1]; exact heap_alloc2_new w _ _, h.step b1⟩)
  have HD := Lib.hid h
  obtain ⟨k0, k1, k2, k3, k4, k5, k6⟩ := DS.out.bc.cells
  obtain ⟨e1, e2⟩ := do_1 (m := m) hk
  rw [e1, e2]
  have t1 : (c.k == 1) = true := by simp [hk]
  have HC := Lib.hid (fun W (h : Dm base X m ar cr av cv W) hb => write h hb c pk nk ck)
  clear h e1 e2 hk
  generalize wrE m c = y at *
  generalize wrT m c = m' at *
  go_enter Tryz.func13, Tryz.ntmps13
  go_upto_region 1 with (fail)
  rw [← hW1]
  clear hW1
  go_wp2_with (first | (go_at_call 28; refine (HC.out _ DS.out.d (Nat.le_trans hbase DS.out.bel.size)).mono ?_; rintro e w6 ⟨rfl, ht⟩; have KR := Lib.hid ((ht.far HD.out DS.out.bel (Nat.le_succ _) (RecC.lt_of_some DS.out.br)).trans DS.out.br); have TT := Lib.hid ht; clear ht) | (refine wpList_store_row rfl 39 _ _ rfl (w.heap.size + 1) #[.int .i64 y, .string ⟨#[]⟩, .int .i64 0, .int .i64 0, .int .i64 0, .int .i64 0, .int .i64 0, .int .i64 0] rfl rfl 39 _ KR.out infoA rfl (one8B y []) ?_))
  exact bodyPost_ret (v := .agg #[.int .i64 y, .string ⟨#[]⟩, .int .i64 0, .int .i64 0, .int .i64 0, .int .i64 0, .int .i64 0, .int .i64 0])
    (results_cell_row Tryz.results13 _ _ (w.heap.size + 1) 39 _ (0, 0) _ rfl (setRow_same KR.out) Tryz.underlying39 rfl infoA) rfl ⟨rfl, Turn.row HD.out DS.out.bel TT.out (Nat.le_succ _) (RecC.lt_of_some DS.out.br) _⟩
set_option maxRecDepth 100000 in
set_option maxHeartbeats 8000000 in
theorem Do_4 {base X : Nat} {m : Mo} {ar : Option Addr} {cr : Nat} {av : Option Addr} {cv : Nat} {w : World} (h : Dm base X m ar cr av cv w) (hbase : base ≤ w.heap.size) (c : Cl) (pk : Option Addr) (nk ck : Nat) (hk : c.k = 4) :
    Calls Tryz.prog 13 #[.pointer (some ⟨X, 0, none⟩), .agg #[.int .i64 c.k, .int .i64 c.lb, .int .i64 c.ep, .int .i64 c.tm, .string ⟨c.da.toArray⟩, .string ⟨c.nm.toArray⟩, .slice pk nk ck]] w fun x w' => x = .returned (.agg (anA (doA m c))) ∧ Turn base X m ar cr av cv (doM m c) w w' := by
  obtain ⟨W1, hW1⟩ : ∃ W1, W1 = (w.alloc (.cells #[.int .i64 c.k, .int .i64 c.lb, .int .i64 c.ep, .int .i64 c.tm, .string ⟨c.da.toArray⟩, .string ⟨c.nm.toArray⟩, .slice pk nk ck] 35)).alloc (.cells #[.int .i64 0, .string ⟨#[]⟩, .int .i64 0, .int .i64 0, .int .i64 0, .int .i64 0, .int .i64 0, .int .i64 0] 39) := ⟨_, rfl⟩
  have DS : Hid (Ds base X m ar cr av cv c pk nk ck w W1) := Lib.hid (by
    have b1 : Below w.heap.size w W1 := by rw [hW1]; exact (below_new w _).trans ((below_new _ _).mono (by simp))
    exact ⟨b1, by rw [hW1]; exact heap_alloc2_old w _ _, by rw [hW1]; exact heap_alloc2_new w _ _, h.step b1⟩)
  have HD := Lib.hid h
  obtain ⟨k0, k1, k2, k3, k4, k5, k6⟩ := DS.out.bc.cells
  obtain ⟨e1, e2⟩ := do_4 (m := m) hk
  rw [e1, e2]
  have t1 : (c.k == 1) = false := by simp [hk]
  have t2 : (c.k == 2) = false := by simp [hk]
  have t3 : (c.k == 3) = false := by simp [hk]
  have t4 : (c.k == 4) = true := by simp [hk]
  clear h e1 e2 hk
  go_enter Tryz.func13, Tryz.ntmps13
  go_upto_region 1 with (fail)
  rw [← hW1]
  clear hW1
  go_wp2_with (refine wpList_store_row rfl 39 _ _ rfl (w.heap.size + 1) #[.int .i64 0, .string ⟨#[]⟩, .int .i64 0, .int .i64 0, .int .i64 0, .int .i64 0, .int .i64 0, .int .i64 0] rfl rfl 39 _ DS.out.br infoA rfl (one8B 0 []) ?_)
  exact bodyPost_ret (v := .agg #[.int .i64 0, .string ⟨#[]⟩, .int .i64 0, .int .i64 0, .int .i64 0, .int .i64 0, .int .i64 0, .int .i64 0])
    (results_cell_row Tryz.results13 _ _ (w.heap.size + 1) 39 _ (0, 0) _ rfl (setRow_same DS.out.br) Tryz.underlying39 rfl infoA) rfl ⟨rfl, Turn.still HD.out (below_setRow DS.out.bel (Nat.le_succ _) _)⟩
set_option maxRecDepth 100000 in
set_option maxHeartbeats 8000000 in
theorem Do_6 {base X : Nat} {m : Mo} {ar : Option Addr} {cr : Nat} {av : Option Addr} {cv : Nat} {w : World} (h : Dm base X m ar cr av cv w) (hbase : base ≤ w.heap.size) (c : Cl) (pk : Option Addr) (nk ck : Nat) (hk : c.k = 6 ∨ c.k = 7 ∨ c.k = 8 ∨ c.k = 9) :
    Calls Tryz.prog 13 #[.pointer (some ⟨X, 0, none⟩), .agg #[.int .i64 c.k, .int .i64 c.lb, .int .i64 c.ep, .int .i64 c.tm, .string ⟨c.da.toArray⟩, .string ⟨c.nm.toArray⟩, .slice pk nk ck]] w fun x w' => x = .returned (.agg (anA (doA m c))) ∧ Turn base X m ar cr av cv (doM m c) w w' := by
  obtain ⟨W1, hW1⟩ : ∃ W1, W1 = (w.alloc (.cells #[.int .i64 c.k, .int .i64 c.lb, .int .i64 c.ep, .int .i64 c.tm, .string ⟨c.da.toArray⟩, .string ⟨c.nm.toArray⟩, .slice pk nk ck] 35)).alloc (.cells #[.int .i64 0, .string ⟨#[]⟩, .int .i64 0, .int .i64 0, .int .i64 0, .int .i64 0, .int .i64 0, .int .i64 0] 39) := ⟨_, rfl⟩
  have DS : Hid (Ds base X m ar cr av cv c pk nk ck w W1) := Lib.hid (by
    have b1 : Below w.heap.size w W1 := by rw [hW1]; exact (below_new w _).trans ((below_new _ _).mono (by simp))
    exact ⟨b1, by rw [hW1]; exact heap_alloc2_old w _ _, by rw [hW1]; exact heap_alloc2_new w _ _, h.step b1⟩)
  have HD := Lib.hid h
  obtain ⟨k0, k1, k2, k3, k4, k5, k6⟩ := DS.out.bc.cells
  obtain ⟨e1, e2⟩ := do_6 (m := m) hk
  rw [e1, e2]
  have HC := Lib.hid (fun W (h : Dm base X m ar cr av cv W) hb => seal_ h hb c pk nk ck)
  clear h e1 e2
  generalize slE m c = y at *
  generalize slT m c = m' at *
  have t1 : (c.k == 1) = false := by simp; omega
  have t2 : (c.k == 2) = false := by simp; omega
  have t3 : (c.k == 3) = false := by simp; omega
  have t4 : (c.k == 4) = false := by simp; omega
  have t5 : (c.k == 5) = false := by simp; omega
  rcases hk with hk | hk | hk | hk
  · have t6 : (c.k == 6) = true := by simp [hk]
    clear hk
    go_enter Tryz.func13, Tryz.ntmps13
    go_upto_region 1 with (fail)
    rw [← hW1]
    clear hW1
    go_wp2_with (first | (go_at_call 35; refine (HC.out _ DS.out.d (Nat.le_trans hbase DS.out.bel.size)).mono ?_; rintro e w6 ⟨rfl, ht⟩; have KR := Lib.hid ((ht.far HD.out DS.out.bel (Nat.le_succ _) (RecC.lt_of_some DS.out.br)).trans DS.out.br); have TT := Lib.hid ht; clear ht) | (refine wpList_store_row rfl 39 _ _ rfl (w.heap.size + 1) #[.int .i64 y, .string ⟨#[]⟩, .int .i64 0, .int .i64 0, .int .i64 0, .int .i64 0, .int .i64 0, .int .i64 0] rfl rfl 39 _ KR.out infoA rfl (one8B y []) ?_))
    exact bodyPost_ret (v := .agg #[.int .i64 y, .string ⟨#[]⟩, .int .i64 0, .int .i64 0, .int .i64 0, .int .i64 0, .int .i64 0, .int .i64 0])
      (results_cell_row Tryz.results13 _ _ (w.heap.size + 1) 39 _ (0, 0) _ rfl (setRow_same KR.out) Tryz.underlying39 rfl infoA) rfl ⟨rfl, Turn.row HD.out DS.out.bel TT.out (Nat.le_succ _) (RecC.lt_of_some DS.out.br) _⟩
  · have t6 : (c.k == 6) = false := by simp [hk]
    have t7 : (c.k == 7) = true := by simp [hk]
    clear hk
    go_enter Tryz.func13, Tryz.ntmps13
    go_upto_region 1 with (fail)
    rw [← hW1]
    clear hW1
    go_wp2_with (first | (go_at_call 35; refine (HC.out _ DS.out.d (Nat.le_trans hbase DS.out.bel.size)).mono ?_; rintro e w6 ⟨rfl, ht⟩; have KR := Lib.hid ((ht.far HD.out DS.out.bel (Nat.le_succ _) (RecC.lt_of_some DS.out.br)).trans DS.out.br); have TT := Lib.hid ht; clear ht) | (refine wpList_store_row rfl 39 _ _ rfl (w.heap.size + 1) #[.int .i64 y, .string ⟨#[]⟩, .int .i64 0, .int .i64 0, .int .i64 0, .int .i64 0, .int .i64 0, .int .i64 0] rfl rfl 39 _ KR.out infoA rfl (one8B y []) ?_))
    exact bodyPost_ret (v := .agg #[.int .i64 y, .string ⟨#[]⟩, .int .i64 0, .int .i64 0, .int .i64 0, .int .i64 0, .int .i64 0, .int .i64 0])
      (results_cell_row Tryz.results13 _ _ (w.heap.size + 1) 39 _ (0, 0) _ rfl (setRow_same KR.out) Tryz.underlying39 rfl infoA) rfl ⟨rfl, Turn.row HD.out DS.out.bel TT.out (Nat.le_succ _) (RecC.lt_of_some DS.out.br) _⟩
  · have t6 : (c.k == 6) = false := by simp [hk]
    have t7 : (c.k == 7) = false := by simp [hk]
    have t8 : (c.k == 8) = true := by simp [hk]
    clear hk
    go_enter Tryz.func13, Tryz.ntmps13
    go_upto_region 1 with (fail)
    rw [← hW1]
    clear hW1
    go_wp2_with (first | (go_at_call 35; refine (HC.out _ DS.out.d (Nat.le_trans hbase DS.out.bel.size)).mono ?_; rintro e w6 ⟨rfl, ht⟩; have KR := Lib.hid ((ht.far HD.out DS.out.bel (Nat.le_succ _) (RecC.lt_of_some DS.out.br)).trans DS.out.br); have TT := Lib.hid ht; clear ht) | (refine wpList_store_row rfl 39 _ _ rfl (w.heap.size + 1) #[.int .i64 y, .string ⟨#[]⟩, .int .i64 0, .int .i64 0, .int .i64 0, .int .i64 0, .int .i64 0, .int .i64 0] rfl rfl 39 _ KR.out infoA rfl (one8B y []) ?_))
    exact bodyPost_ret (v := .agg #[.int .i64 y, .string ⟨#[]⟩, .int .i64 0, .int .i64 0, .int .i64 0, .int .i64 0, .int .i64 0, .int .i64 0])
      (results_cell_row Tryz.results13 _ _ (w.heap.size + 1) 39 _ (0, 0) _ rfl (setRow_same KR.out) Tryz.underlying39 rfl infoA) rfl ⟨rfl, Turn.row HD.out DS.out.bel TT.out (Nat.le_succ _) (RecC.lt_of_some DS.out.br) _⟩
  · have t6 : (c.k == 6) = false := by simp [hk]
    have t7 : (c.k == 7) = false := by simp [hk]
    have t8 : (c.k == 8) = false := by simp [hk]
    have t9 : (c.k == 9) = true := by simp [hk]
    clear hk
    go_enter Tryz.func13, Tryz.ntmps13
    go_upto_region 1 with (fail)
    rw [← hW1]
    clear hW1
    go_wp2_with (first | (go_at_call 35; refine (HC.out _ DS.out.d (Nat.le_trans hbase DS.out.bel.size)).mono ?_; rintro e w6 ⟨rfl, ht⟩; have KR := Lib.hid ((ht.far HD.out DS.out.bel (Nat.le_succ _) (RecC.lt_of_some DS.out.br)).trans DS.out.br); have TT := Lib.hid ht; clear ht) | (refine wpList_store_row rfl 39 _ _ rfl (w.heap.size + 1) #[.int .i64 y, .string ⟨#[]⟩, .int .i64 0, .int .i64 0, .int .i64 0, .int .i64 0, .int .i64 0, .int .i64 0] rfl rfl 39 _ KR.out infoA rfl (one8B y []) ?_))
    exact bodyPost_ret (v := .agg #[.int .i64 y, .string ⟨#[]⟩, .int .i64 0, .int .i64 0, .int .i64 0, .int .i64 0, .int .i64 0, .int .i64 0])
      (results_cell_row Tryz.results13 _ _ (w.heap.size + 1) 39 _ (0, 0) _ rfl (setRow_same KR.out) Tryz.underlying39 rfl infoA) rfl ⟨rfl, Turn.row HD.out DS.out.bel TT.out (Nat.le_succ _) (RecC.lt_of_some DS.out.br) _⟩
set_option maxRecDepth 100000 in
set_option maxHeartbeats 8000000 in
theorem Do_11 {base X : Nat} {m : Mo} {ar : Option Addr} {cr : Nat} {av : Option Addr} {cv : Nat} {w : World} (h : Dm base X m ar cr av cv w) (hbase : base ≤ w.heap.size) (c : Cl) (pk : Option Addr) (nk ck : Nat) (hk : c.k = 11) :
    Calls Tryz.prog 13 #[.pointer (some ⟨X, 0, none⟩), .agg #[.int .i64 c.k, .int .i64 c.lb, .int .i64 c.ep, .int .i64 c.tm, .string ⟨c.da.toArray⟩, .string ⟨c.nm.toArray⟩, .slice pk nk ck]] w fun x w' => x = .returned (.agg (anA (doA m c))) ∧ Turn base X m ar cr av cv (doM m c) w w' := by
  obtain ⟨W1, hW1⟩ : ∃ W1, W1 = (w.alloc (.cells #[.int .i64 c.k, .int .i64 c.lb, .int .i64 c.ep, .int .i64 c.tm, .string ⟨c.da.toArray⟩, .string ⟨c.nm.toArray⟩, .slice pk nk ck] 35)).alloc (.cells #[.int .i64 0, .string ⟨#[]⟩, .int .i64 0, .int .i64 0, .int .i64 0, .int .i64 0, .int .i64 0, .int .i64 0] 39) := ⟨_, rfl⟩
  have DS : Hid (Ds base X m ar cr av cv c pk nk ck w W1) := Lib.hid (by
    have b1 : Below w.heap.size w W1 := by rw [hW1]; exact (below_new w _).trans ((below_new _ _).mono (by simp))
    exact ⟨b1, by rw [hW1]; exact heap_alloc2_old w _ _, by rw [hW1]; exact heap_alloc2_new w _ _, h.step b1⟩)
  have HD := Lib.hid h
  obtain ⟨k0, k1, k2, k3, k4, k5, k6⟩ := DS.out.bc.cells
  obtain ⟨e1, e2⟩ := do_11 (m := m) hk
  rw [e1, e2]
  have t1 : (c.k == 1) = false := by simp [hk]
  have t2 : (c.k == 2) = false := by simp [hk]
  have t3 : (c.k == 3) = false := by simp [hk]
  have t4 : (c.k == 4) = false := by simp [hk]
  have t5 : (c.k == 5) = false := by simp [hk]
  have t6 : (c.k == 6) = false := by simp [hk]
  have t7 : (c.k == 7) = false := by simp [hk]
  have t8 : (c.k == 8) = false := by simp [hk]
  have t9 : (c.k == 9) = false := by simp [hk]
  have t10 : (c.k == 10) = false := by simp [hk]
  have t11 : (c.k == 11) = true := by simp [hk]
  have HC := Lib.hid (fun W (h : Dm base X m ar cr av cv W) => tick h c.tm)
  clear h e1 e2 hk
  generalize tkE m c.tm = y at *
  generalize tkT m c.tm = m' at *
  go_enter Tryz.func13, Tryz.ntmps13
  go_upto_region 1 with (fail)
  rw [← hW1]
  clear hW1
  go_wp2_with (first | (go_at_call 37; refine (HC.out _ DS.out.d).mono ?_; rintro e w6 ⟨rfl, ht⟩; have KR := Lib.hid ((ht.far HD.out DS.out.bel (Nat.le_succ _) (RecC.lt_of_some DS.out.br)).trans DS.out.br); have TT := Lib.hid ht; clear ht) | (refine wpList_store_row rfl 39 _ _ rfl (w.heap.size + 1) #[.int .i64 y, .string ⟨#[]⟩, .int .i64 0, .int .i64 0, .int .i64 0, .int .i64 0, .int .i64 0, .int .i64 0] rfl rfl 39 _ KR.out infoA rfl (one8B y []) ?_))
  exact bodyPost_ret (v := .agg #[.int .i64 y, .string ⟨#[]⟩, .int .i64 0, .int .i64 0, .int .i64 0, .int .i64 0, .int .i64 0, .int .i64 0])
    (results_cell_row Tryz.results13 _ _ (w.heap.size + 1) 39 _ (0, 0) _ rfl (setRow_same KR.out) Tryz.underlying39 rfl infoA) rfl ⟨rfl, Turn.row HD.out DS.out.bel TT.out (Nat.le_succ _) (RecC.lt_of_some DS.out.br) _⟩
set_option maxRecDepth 100000 in
set_option maxHeartbeats 8000000 in
theorem Do_0 {base X : Nat} {m : Mo} {ar : Option Addr} {cr : Nat} {av : Option Addr} {cv : Nat} {w : World} (h : Dm base X m ar cr av cv w) (hbase : base ≤ w.heap.size) (c : Cl) (pk : Option Addr) (nk ck : Nat) (hk : ∀ k, 1 ≤ k → k ≤ 11 → c.k ≠ k) :
    Calls Tryz.prog 13 #[.pointer (some ⟨X, 0, none⟩), .agg #[.int .i64 c.k, .int .i64 c.lb, .int .i64 c.ep, .int .i64 c.tm, .string ⟨c.da.toArray⟩, .string ⟨c.nm.toArray⟩, .slice pk nk ck]] w fun x w' => x = .returned (.agg (anA (doA m c))) ∧ Turn base X m ar cr av cv (doM m c) w w' := by
  obtain ⟨W1, hW1⟩ : ∃ W1, W1 = (w.alloc (.cells #[.int .i64 c.k, .int .i64 c.lb, .int .i64 c.ep, .int .i64 c.tm, .string ⟨c.da.toArray⟩, .string ⟨c.nm.toArray⟩, .slice pk nk ck] 35)).alloc (.cells #[.int .i64 0, .string ⟨#[]⟩, .int .i64 0, .int .i64 0, .int .i64 0, .int .i64 0, .int .i64 0, .int .i64 0] 39) := ⟨_, rfl⟩
  have DS : Hid (Ds base X m ar cr av cv c pk nk ck w W1) := Lib.hid (by
    have b1 : Below w.heap.size w W1 := by rw [hW1]; exact (below_new w _).trans ((below_new _ _).mono (by simp))
    exact ⟨b1, by rw [hW1]; exact heap_alloc2_old w _ _, by rw [hW1]; exact heap_alloc2_new w _ _, h.step b1⟩)
  have HD := Lib.hid h
  obtain ⟨k0, k1, k2, k3, k4, k5, k6⟩ := DS.out.bc.cells
  obtain ⟨e1, e2⟩ := do_0 (m := m) hk
  rw [e1, e2]
  have t1 : (c.k == 1) = false := by simp [hk 1 (by decide) (by decide)]
  have t2 : (c.k == 2) = false := by simp [hk 2 (by decide) (by decide)]
  have t3 : (c.k == 3) = false := by simp [hk 3 (by decide) (by decide)]
  have t4 : (c.k == 4) = false := by simp [hk 4 (by decide) (by decide)]
  have t5 : (c.k == 5) = false := by simp [hk 5 (by decide) (by decide)]
  have t6 : (c.k == 6) = false := by simp [hk 6 (by decide) (by decide)]
  have t7 : (c.k == 7) = false := by simp [hk 7 (by decide) (by decide)]
  have t8 : (c.k == 8) = false := by simp [hk 8 (by decide) (by decide)]
  have t9 : (c.k == 9) = false := by simp [hk 9 (by decide) (by decide)]
  have t10 : (c.k == 10) = false := by simp [hk 10 (by decide) (by decide)]
  have t11 : (c.k == 11) = false := by simp [hk 11 (by decide) (by decide)]
  clear h e1 e2 hk
  go_enter Tryz.func13, Tryz.ntmps13
  go_upto_region 1 with (fail)
  rw [← hW1]
  clear hW1
  go_wp2_with (refine wpList_store_row rfl 39 _ _ rfl (w.heap.size + 1) #[.int .i64 2, .string ⟨#[]⟩, .int .i64 0, .int .i64 0, .int .i64 0, .int .i64 0, .int .i64 0, .int .i64 0] rfl rfl 39 _ DS.out.br infoA rfl (one8B 2 []) ?_)
  exact bodyPost_ret (v := .agg #[.int .i64 2, .string ⟨#[]⟩, .int .i64 0, .int .i64 0, .int .i64 0, .int .i64 0, .int .i64 0, .int .i64 0])
    (results_cell_row Tryz.results13 _ _ (w.heap.size + 1) 39 _ (0, 0) _ rfl (setRow_same DS.out.br) Tryz.underlying39 rfl infoA) rfl ⟨rfl, Turn.still HD.out (below_setRow DS.out.bel (Nat.le_succ _) _)⟩
set_option maxRecDepth 100000 in
set_option maxHeartbeats 8000000 in
theorem Do_3 {base X : Nat} {m : Mo} {ar : Option Addr} {cr : Nat} {av : Option Addr} {cv : Nat} {w : World} (h : Dm base X m ar cr av cv w) (hbase : base ≤ w.heap.size) (c : Cl) (pk : Option Addr) (nk ck : Nat) (hk : c.k = 3) :
    Calls Tryz.prog 13 #[.pointer (some ⟨X, 0, none⟩), .agg #[.int .i64 c.k, .int .i64 c.lb, .int .i64 c.ep, .int .i64 c.tm, .string ⟨c.da.toArray⟩, .string ⟨c.nm.toArray⟩, .slice pk nk ck]] w fun x w' => x = .returned (.agg (anA (doA m c))) ∧ Turn base X m ar cr av cv (doM m c) w w' := by
  obtain ⟨W1, hW1⟩ : ∃ W1, W1 = (w.alloc (.cells #[.int .i64 c.k, .int .i64 c.lb, .int .i64 c.ep, .int .i64 c.tm, .string ⟨c.da.toArray⟩, .string ⟨c.nm.toArray⟩, .slice pk nk ck] 35)).alloc (.cells #[.int .i64 0, .string ⟨#[]⟩, .int .i64 0, .int .i64 0, .int .i64 0, .int .i64 0, .int .i64 0, .int .i64 0] 39) := ⟨_, rfl⟩
  have DS : Hid (Ds base X m ar cr av cv c pk nk ck w W1) := Lib.hid (by
    have b1 : Below w.heap.size w W1 := by rw [hW1]; exact (below_new w _).trans ((below_new _ _).mono (by simp))
    exact ⟨b1, by rw [hW1]; exact heap_alloc2_old w _ _, by rw [hW1]; exact heap_alloc2_new w _ _, h.step b1⟩)
  have HD := Lib.hid h
  obtain ⟨k0, k1, k2, k3, k4, k5, k6⟩ := DS.out.bc.cells
  obtain ⟨e1, e2⟩ := do_3 (m := m) hk
  rw [e1, e2]
  have t1 : (c.k == 1) = false := by simp [hk]
  have t2 : (c.k == 2) = false := by simp [hk]
  have t3 : (c.k == 3) = true := by simp [hk]
  have HC := Lib.hid (fun W (h : Dm base X m ar cr av cv W) => read h c.lb c.ep)
  clear h e1 e2 hk
  generalize rd m c.lb c.ep = a at *
  go_enter Tryz.func13, Tryz.ntmps13
  go_upto_region 1 with (fail)
  rw [← hW1]
  clear hW1
  go_wp2_with (first | (go_at_call 29; refine (HC.out _ DS.out.d).mono ?_; rintro e w6 ⟨rfl, hb⟩; replace DS := Lib.hid (DS.out.step hb); clear hb) | (refine wpList_store_row rfl 39 _ _ rfl (w.heap.size + 1) (anA a) rfl rfl 39 _ DS.out.br infoA rfl (one8A a) ?_))
  exact bodyPost_ret (v := .agg (anA a))
    (results_cell_row Tryz.results13 _ _ (w.heap.size + 1) 39 _ (0, 0) _ rfl (setRow_same DS.out.br) Tryz.underlying39 rfl infoA) rfl ⟨rfl, Turn.still HD.out (below_setRow DS.out.bel (Nat.le_succ _) _)⟩
set_option maxRecDepth 100000 in
set_option maxHeartbeats 8000000 in
theorem Do_10 {base X : Nat} {m : Mo} {ar : Option Addr} {cr : Nat} {av : Option Addr} {cv : Nat} {w : World} (h : Dm base X m ar cr av cv w) (hbase : base ≤ w.heap.size) (c : Cl) (pk : Option Addr) (nk ck : Nat) (hk : c.k = 10) :
    Calls Tryz.prog 13 #[.pointer (some ⟨X, 0, none⟩), .agg #[.int .i64 c.k, .int .i64 c.lb, .int .i64 c.ep, .int .i64 c.tm, .string ⟨c.da.toArray⟩, .string ⟨c.nm.toArray⟩, .slice pk nk ck]] w fun x w' => x = .returned (.agg (anA (doA m c))) ∧ Turn base X m ar cr av cv (doM m c) w w' := by
  obtain ⟨W1, hW1⟩ : ∃ W1, W1 = (w.alloc (.cells #[.int .i64 c.k, .int .i64 c.lb, .int .i64 c.ep, .int .i64 c.tm, .string ⟨c.da.toArray⟩, .string ⟨c.nm.toArray⟩, .slice pk nk ck] 35)).alloc (.cells #[.int .i64 0, .string ⟨#[]⟩, .int .i64 0, .int .i64 0, .int .i64 0, .int .i64 0, .int .i64 0, .int .i64 0] 39) := ⟨_, rfl⟩
  have DS : Hid (Ds base X m ar cr av cv c pk nk ck w W1) := Lib.hid (by
    have b1 : Below w.heap.size w W1 := by rw [hW1]; exact (below_new w _).trans ((below_new _ _).mono (by simp))
    exact ⟨b1, by rw [hW1]; exact heap_alloc2_old w _ _, by rw [hW1]; exact heap_alloc2_new w _ _, h.step b1⟩)
  have HD := Lib.hid h
  obtain ⟨k0, k1, k2, k3, k4, k5, k6⟩ := DS.out.bc.cells
  obtain ⟨e1, e2⟩ := do_10 (m := m) hk
  rw [e1, e2]
  have t1 : (c.k == 1) = false := by simp [hk]
  have t2 : (c.k == 2) = false := by simp [hk]
  have t3 : (c.k == 3) = false := by simp [hk]
  have t4 : (c.k == 4) = false := by simp [hk]
  have t5 : (c.k == 5) = false := by simp [hk]
  have t6 : (c.k == 6) = false := by simp [hk]
  have t7 : (c.k == 7) = false := by simp [hk]
  have t8 : (c.k == 8) = false := by simp [hk]
  have t9 : (c.k == 9) = false := by simp [hk]
  have t10 : (c.k == 10) = true := by simp [hk]
  have HC : Hid (∀ W, Dm base X m ar cr av cv W → Calls Tryz.prog 36 #[.pointer (some ⟨X, 0, none⟩)] W fun x w' => x = .returned (.agg #[.int .i64 (sta m).ep, .int .i64 (sta m).ck, .int .i64 (sta m).fr, .int .i64 (sta m).rc, .int .i64 (sta m).pl, .int .i64 (sta m).ho]) ∧ Below W.heap.size W w') := Lib.hid (fun W h => MdJ.Stat h)
  clear h e1 e2 hk
  generalize sta m = s at *
  go_enter Tryz.func13, Tryz.ntmps13
  go_upto_region 1 with (fail)
  rw [← hW1]
  clear hW1
  go_wp2_with (first | (go_at_call 36; refine (HC.out _ DS.out.d).mono ?_; rintro e w6 ⟨rfl, hb⟩; replace DS := Lib.hid (DS.out.step hb); clear hb) | (refine wpList_store_row rfl 39 _ _ rfl (w.heap.size + 1) #[.int .i64 0, .string ⟨#[]⟩, .int .i64 s.ep, .int .i64 s.ck, .int .i64 s.fr, .int .i64 s.rc, .int .i64 s.pl, .int .i64 s.ho] rfl rfl 39 _ DS.out.br infoA rfl (one8A ⟨0, [], s⟩) ?_))
  exact bodyPost_ret (v := .agg #[.int .i64 0, .string ⟨#[]⟩, .int .i64 s.ep, .int .i64 s.ck, .int .i64 s.fr, .int .i64 s.rc, .int .i64 s.pl, .int .i64 s.ho])
    (results_cell_row Tryz.results13 _ _ (w.heap.size + 1) 39 _ (0, 0) _ rfl (setRow_same DS.out.br) Tryz.underlying39 rfl infoA) rfl ⟨rfl, Turn.still HD.out (below_setRow DS.out.bel (Nat.le_succ _) _)⟩
set_option maxRecDepth 100000 in
set_option maxHeartbeats 8000000 in
theorem Do_2 {base X : Nat} {m : Mo} {ar : Option Addr} {cr : Nat} {av : Option Addr} {cv : Nat} {w : World} (h : Dm base X m ar cr av cv w) (hbase : base ≤ w.heap.size) (c : Cl) (pk : Option Addr) (nk ck : Nat) (hk : c.k = 2) :
    Calls Tryz.prog 13 #[.pointer (some ⟨X, 0, none⟩), .agg #[.int .i64 c.k, .int .i64 c.lb, .int .i64 c.ep, .int .i64 c.tm, .string ⟨c.da.toArray⟩, .string ⟨c.nm.toArray⟩, .slice pk nk ck]] w fun x w' => x = .returned (.agg (anA (doA m c))) ∧ Turn base X m ar cr av cv (doM m c) w w' := by
  obtain ⟨W1, hW1⟩ : ∃ W1, W1 = (w.alloc (.cells #[.int .i64 c.k, .int .i64 c.lb, .int .i64 c.ep, .int .i64 c.tm, .string ⟨c.da.toArray⟩, .string ⟨c.nm.toArray⟩, .slice pk nk ck] 35)).alloc (.cells #[.int .i64 0, .string ⟨#[]⟩, .int .i64 0, .int .i64 0, .int .i64 0, .int .i64 0, .int .i64 0, .int .i64 0] 39) := ⟨_, rfl⟩
  have DS : Hid (Ds base X m ar cr av cv c pk nk ck w W1) := Lib.hid (by
    have b1 : Below w.heap.size w W1 := by rw [hW1]; exact (below_new w _).trans ((below_new _ _).mono (by simp))
    exact ⟨b1, by rw [hW1]; exact heap_alloc2_old w _ _, by rw [hW1]; exact heap_alloc2_new w _ _, h.step b1⟩)
  have HD := Lib.hid h
  obtain ⟨k0, k1, k2, k3, k4, k5, k6⟩ := DS.out.bc.cells
  obtain ⟨e1, e2⟩ := do_2 (m := m) hk
  rw [e1, e2]
  have t1 : (c.k == 1) = false := by simp [hk]
  have t2 : (c.k == 2) = true := by simp [hk]
  have HC := Lib.hid (fun W (h : Dm base X m ar cr av cv W) => read h c.lb m.s.ep)
  have HE := Lib.hid (fun W (h : Dm base X m ar cr av cv W) => Epoch h)
  clear h e1 e2 hk
  generalize rd m c.lb m.s.ep = a at *
  generalize m.s.ep = ep at *
  go_enter Tryz.func13, Tryz.ntmps13
  go_upto_region 1 with (fail)
  rw [← hW1]
  clear hW1
  go_upto_region 6 with (fail)
  replace DS := Lib.hid (DS.out.step ((Below.refl _ _).drew))
  have hS := DS.out.bc.cells.2.1
  clear k0 k1 k2 k3 k4 k5 k6
  refine wp_region_held_drew (S := fun W => W.cell? ⟨w.heap.size, 1, none⟩ = some (.int .i64 c.lb)) (by kernel_rfl) hS (fun _ => ?_)
  change wpAnyH _ _ _ _ _ _ #[false, false, false, false, false, false, false, false, false] _ _
  refine wpAnyH_take (i := 0) (v := ?v1) (by rw [List.getElem?_toArray]; rfl) (by kernel_rfl) (by kernel_rfl) (by kernel_rfl) (by intro _ _ _ h; exact h) (Or.inl ⟨by rfl, ?hy1⟩) (by assumption) ?rest1
  case hy1 => (intro W hSW; (try dsimp only at hSW); go_simp; try with_reducible rfl)
  try simp only [Act.put, List.setIfInBounds_toArray, List.set_cons_zero, List.set_cons_succ]
  refine wpAnyH_take (i := 1) (v := ?v2) (by rw [List.getElem?_toArray]; rfl) (by kernel_rfl) (by kernel_rfl) (by kernel_rfl) (by intro _ _ _ h; exact h) (Or.inl ⟨by rfl, ?hy2⟩) (by assumption) ?rest2
  case hy2 => (intro W hSW; (try dsimp only at hSW); go_simp; try with_reducible rfl)
  try simp only [Act.put, List.setIfInBounds_toArray, List.set_cons_zero, List.set_cons_succ]
  refine wpAnyH_take (i := 2) (v := ?v3) (by rw [List.getElem?_toArray]; rfl) (by kernel_rfl) (by kernel_rfl) (by kernel_rfl) (by intro _ _ _ h; exact h) (Or.inl ⟨by rfl, ?hy3⟩) (by assumption) ?rest3
  case hy3 => (intro W hSW; (try dsimp only at hSW); go_simp; try with_reducible rfl)
  try simp only [Act.put, List.setIfInBounds_toArray, List.set_cons_zero, List.set_cons_succ]
  refine wpAnyH_take (i := 3) (v := ?v4) (by rw [List.getElem?_toArray]; rfl) (by kernel_rfl) (by kernel_rfl) (by kernel_rfl) (by intro _ _ _ h; exact h) (Or.inl ⟨by rfl, ?hy4⟩) (by assumption) ?rest4
  case hy4 => (intro W hSW; (try dsimp only at hSW); go_simp; try with_reducible rfl)
  try simp only [Act.put, List.setIfInBounds_toArray, List.set_cons_zero, List.set_cons_succ]
  refine wpAnyH_take (i := 4) (v := ?v5) (by rw [List.getElem?_toArray]; rfl) (by kernel_rfl) (by kernel_rfl) (by kernel_rfl) (by intro _ _ _ h; exact h) (Or.inl ⟨by rfl, ?hy5⟩) (by assumption) ?rest5
  case hy5 => (intro W hSW; (try dsimp only at hSW); go_simp; try with_reducible rfl)
  try simp only [Act.put, List.setIfInBounds_toArray, List.set_cons_zero, List.set_cons_succ]
  refine wpAnyH_take (i := 5) (v := ?v6) (by rw [List.getElem?_toArray]; rfl) (by kernel_rfl) (by kernel_rfl) (by kernel_rfl) (by intro _ _ _ h; exact h) (Or.inl ⟨by rfl, ?hy6⟩) (by assumption) ?rest6
  case hy6 => (intro W hSW; (try dsimp only at hSW); go_simp; try with_reducible rfl)
  try simp only [Act.put, List.setIfInBounds_toArray, List.set_cons_zero, List.set_cons_succ]
  refine wpAnyH_ready (rs := [6]) (by kernel_rfl) (by simp) (AllReadyH.cons (by rw [List.getElem?_toArray]; rfl) (fun K hK => ?_) AllReadyH.nil)
  go_simp
  refine (HE.out _ DS.out.d).mono ?_
  rintro e _ ⟨rfl, rfl⟩
  refine hK.out _ _ hS (fun _ => ?_)
  clear hK K
  try simp only [List.setIfInBounds_toArray, List.set_cons_zero, List.set_cons_succ]
  refine wpAnyH_ready (rs := [7]) (by kernel_rfl) (by simp) (AllReadyH.cons (by rw [List.getElem?_toArray]; rfl) (fun K hK => ?_) AllReadyH.nil)
  go_simp
  refine (HC.out _ DS.out.d).mono ?_
  rintro e wn ⟨rfl, hb⟩
  replace DS := Lib.hid (DS.out.step hb)
  replace hS := DS.out.bc.cells.2.1
  clear hb
  refine hK.out _ _ hS (fun _ => ?_)
  clear hK K
  try simp only [List.setIfInBounds_toArray, List.set_cons_zero, List.set_cons_succ]
  refine wpAnyH_ready (rs := [8]) (by kernel_rfl) (by simp) (AllReadyH.cons (by rw [List.getElem?_toArray]; rfl) (fun K hK => ?_) AllReadyH.nil)
  rw [if_pos (by rfl)]
  refine wp_store_row 39 _ _ rfl (w.heap.size + 1) (anA a) rfl rfl 39 #[.int .i64 0, .string ⟨#[]⟩, .int .i64 0, .int .i64 0, .int .i64 0, .int .i64 0, .int .i64 0, .int .i64 0] DS.out.br infoA rfl (one8A a) ?_
  have bs := below_setRow DS.out.bel (Nat.le_succ _) (anA a)
  have cs := setRow_same (cs := anA a) DS.out.br
  have hS9 := blk_cell (i := 1) (u := .int .i64 c.lb) ((setRow_far (cs := anA a) (show w.heap.size ≠ w.heap.size + 1 by omega)).trans DS.out.bc) rfl
  refine hK.out _ _ hS9 (fun _ => ?_)
  clear hK K
  try simp only [List.setIfInBounds_toArray, List.set_cons_zero, List.set_cons_succ]
  refine wpAnyH_done (by kernel_rfl) ?_ _
  go_wp2
  exact bodyPost_ret (v := .agg (anA a))
    (results_cell_row Tryz.results13 _ _ (w.heap.size + 1) 39 _ (0, 0) _ rfl cs Tryz.underlying39 rfl infoA) rfl ⟨rfl, Turn.still HD.out bs⟩
set_option maxRecDepth 100000 in
set_option maxHeartbeats 8000000 in
theorem Do_5 {base X : Nat} {m : Mo} {ar : Option Addr} {cr : Nat} {av : Option Addr} {cv : Nat} {w : World} (h : Dm base X m ar cr av cv w) (hbase : base ≤ w.heap.size) (c : Cl) (pk : Option Addr) (nk ck : Nat) (hk : c.k = 5) :
    Calls Tryz.prog 13 #[.pointer (some ⟨X, 0, none⟩), .agg #[.int .i64 c.k, .int .i64 c.lb, .int .i64 c.ep, .int .i64 c.tm, .string ⟨c.da.toArray⟩, .string ⟨c.nm.toArray⟩, .slice pk nk ck]] w fun x w' => x = .returned (.agg (anA (doA m c))) ∧ Turn base X m ar cr av cv (doM m c) w w' := by
  obtain ⟨W1, hW1⟩ : ∃ W1, W1 = (w.alloc (.cells #[.int .i64 c.k, .int .i64 c.lb, .int .i64 c.ep, .int .i64 c.tm, .string ⟨c.da.toArray⟩, .string ⟨c.nm.toArray⟩, .slice pk nk ck] 35)).alloc (.cells #[.int .i64 0, .string ⟨#[]⟩, .int .i64 0, .int .i64 0, .int .i64 0, .int .i64 0, .int .i64 0, .int .i64 0] 39) := ⟨_, rfl⟩
  have DS : Hid (Ds base X m ar cr av cv c pk nk ck w W1) := Lib.hid (by
    have b1 : Below w.heap.size w W1 := by rw [hW1]; exact (below_new w _).trans ((below_new _ _).mono (by simp))
    exact ⟨b1, by rw [hW1]; exact heap_alloc2_old w _ _, by rw [hW1]; exact heap_alloc2_new w _ _, h.step b1⟩)
  have HD := Lib.hid h
  obtain ⟨k0, k1, k2, k3, k4, k5, k6⟩ := DS.out.bc.cells
  obtain ⟨e1, e2⟩ := do_5 (m := m) hk
  rw [e1, e2]
  have t1 : (c.k == 1) = false := by simp [hk]
  have t2 : (c.k == 2) = false := by simp [hk]
  have t3 : (c.k == 3) = false := by simp [hk]
  have t4 : (c.k == 4) = false := by simp [hk]
  have t5 : (c.k == 5) = true := by simp [hk]
  have HE := Lib.hid (fun W (h : Dm base X m ar cr av cv W) => Epoch h)
  have HG := Lib.hid (fun W => GeoR.Data m.b m.lb m.f W)
  have CX : Hid (∀ W, Dm base X m ar cr av cv W → W.cell? ⟨X, 0, none⟩ = some (.int .i64 m.b) ∧ W.cell? ⟨X, 1, none⟩ = some (.int .i64 m.lb) ∧ W.cell? ⟨X, 2, none⟩ = some (.int .i64 m.f) ∧ W.cell? ⟨X, 3, none⟩ = some (.int .i64 m.used)) := Lib.hid (fun W h => ⟨h.cells.1, h.cells.2.1, h.cells.2.2.1, h.cells.2.2.2.1⟩)
  clear e1 e2 hk
  by_cases h1 : m.s.ep < 4294967295
  · by_cases h2 : m.used < GeoN.data m.b m.lb m.f
    · obtain ⟨e1, e2⟩ := cl_yes h1 h2
      rw [e1, e2]
      clear e1 e2
      have HC : Hid (∀ W, Dm base X m ar cr av cv W → base ≤ W.heap.size → Calls Tryz.prog 32 #[.pointer (some ⟨X, 0, none⟩), .agg #[.int .i64 1, .int .i64 0, .int .i64 0, .int .i64 (plc m.vs m.s.ep m.lb.toNat : Nat), .int .i64 0, .int .i64 0, .string ⟨(List.replicate 32 0).toArray⟩, .string ⟨#[]⟩], .int .i64 1] W fun x w' => x = .returned (.int .i64 (rcE m (clR m) 1)) ∧ Turn base X m ar cr av cv (rcT m (clR m) 1) W w') := Lib.hid (fun W hw hb => record hw hb (clR m) 1 (fun _ => by omega))
      have HP := Lib.hid (fun W (h : Dm base X m ar cr av cv W) => Places h m.s.ep)
      have HN := Lib.hid (fun W => RNou.noughts 32 W (by decide))
      clear h
      generalize plc m.vs m.s.ep m.lb.toNat = pc at *
      generalize rcE m (clR m) 1 = y at *
      generalize rcT m (clR m) 1 = m' at *
      generalize m.s.ep = ep at *
      generalize m.used = u at *
      generalize GeoN.data m.b m.lb m.f = dd at *
      go_enter Tryz.func13, Tryz.ntmps13
      go_upto_region 1 with (fail)
      rw [← hW1]
      clear hW1
      go_upto_region 13 with (fail)
      replace DS := Lib.hid (DS.out.step ((Below.refl _ _).drew))
      have hS := CX.out _ DS.out.d
      clear k0 k1 k2 k3 k4 k5 k6
      refine wp_region_held_drew (S := fun W => W.cell? ⟨X, 0, none⟩ = some (.int .i64 m.b) ∧ W.cell? ⟨X, 1, none⟩ = some (.int .i64 m.lb) ∧ W.cell? ⟨X, 2, none⟩ = some (.int .i64 m.f) ∧ W.cell? ⟨X, 3, none⟩ = some (.int .i64 u)) (by kernel_rfl) hS (fun _ => ?_)
      change wpAnyH _ _ _ _ _ _ #[false, false, false, false, false, false, false, false, false, false, false, false, false, false, false, false, false] _ _
      refine wpAnyH_take (i := 0) (v := ?v1) (by rw [List.getElem?_toArray]; rfl) (by kernel_rfl) (by kernel_rfl) (by kernel_rfl) (by intro _ _ _ h; exact h) (Or.inl ⟨by rfl, ?hy1⟩) (by assumption) ?rest1
      case hy1 => (intro W hSW; (try dsimp only at hSW); go_simp; try with_reducible rfl)
      try simp only [Act.put, List.setIfInBounds_toArray, List.set_cons_zero, List.set_cons_succ]
      refine wpAnyH_take (i := 1) (v := ?v2) (by rw [List.getElem?_toArray]; rfl) (by kernel_rfl) (by kernel_rfl) (by kernel_rfl) (by intro _ _ _ h; exact h) (Or.inl ⟨by rfl, ?hy2⟩) (by assumption) ?rest2
      case hy2 => (intro W hSW; (try dsimp only at hSW); go_simp; try with_reducible rfl)
      try simp only [Act.put, List.setIfInBounds_toArray, List.set_cons_zero, List.set_cons_succ]
      refine wpAnyH_take (i := 2) (v := ?v3) (by rw [List.getElem?_toArray]; rfl) (by kernel_rfl) (by kernel_rfl) (by kernel_rfl) (by intro _ _ _ h; exact h) (Or.inl ⟨by rfl, ?hy3⟩) (by assumption) ?rest3
      case hy3 => (intro W hSW; (try dsimp only at hSW); go_simp; try with_reducible rfl)
      try simp only [Act.put, List.setIfInBounds_toArray, List.set_cons_zero, List.set_cons_succ]
      refine wpAnyH_ready (rs := [3]) (by kernel_rfl) (by simp) (AllReadyH.cons (by rw [List.getElem?_toArray]; rfl) (fun K hK => ?_) AllReadyH.nil)
      go_simp
      refine (HE.out _ DS.out.d).mono ?_
      rintro e _ ⟨rfl, rfl⟩
      refine hK.out _ _ hS (fun _ => ?_)
      clear hK K
      try simp only [List.setIfInBounds_toArray, List.set_cons_zero, List.set_cons_succ]
      refine wpAnyH_take (i := 4) (v := ?v4) (by rw [List.getElem?_toArray]; rfl) (by kernel_rfl) (by kernel_rfl) (by kernel_rfl) (by intro _ _ _ h; exact h) (Or.inl ⟨by rfl, ?hy4⟩) (by assumption) ?rest4
      case hy4 => (intro W hSW; (try dsimp only at hSW); go_simp; try with_reducible rfl)
      try simp only [Act.put, List.setIfInBounds_toArray, List.set_cons_zero, List.set_cons_succ]
      refine wpAnyH_take (i := 5) (v := ?v5) (by rw [List.getElem?_toArray]; rfl) (by kernel_rfl) (by kernel_rfl) (by kernel_rfl) (by intro _ _ _ h; exact h) (Or.inl ⟨by rfl, ?hy5⟩) (by assumption) ?rest5
      case hy5 => (intro W hSW; (try dsimp only at hSW); go_simp; try with_reducible rfl)
      try simp only [Act.put, List.setIfInBounds_toArray, List.set_cons_zero, List.set_cons_succ]
      refine wpAnyH_take (i := 6) (v := ?v6) (by rw [List.getElem?_toArray]; rfl) (by kernel_rfl) (by kernel_rfl) (by kernel_rfl) (by intro _ _ _ h; exact h) (Or.inl ⟨by rfl, ?hy6⟩) (by assumption) ?rest6
      case hy6 => (intro W hSW; (try dsimp only at hSW); go_simp; try with_reducible rfl)
      try simp only [Act.put, List.setIfInBounds_toArray, List.set_cons_zero, List.set_cons_succ]
      refine wpAnyH_take (i := 7) (v := ?v7) (by rw [List.getElem?_toArray]; rfl) (by kernel_rfl) (by kernel_rfl) (by kernel_rfl) (by intro _ _ _ h; exact h) (Or.inl ⟨by rfl, ?hy7⟩) (by assumption) ?rest7
      case hy7 => (intro W hSW; (try dsimp only at hSW); go_simp; try with_reducible rfl)
      try simp only [Act.put, List.setIfInBounds_toArray, List.set_cons_zero, List.set_cons_succ]
      refine wpAnyH_take (i := 8) (v := ?v8) (by rw [List.getElem?_toArray]; rfl) (by kernel_rfl) (by kernel_rfl) (by kernel_rfl) (by intro _ _ _ h; exact h) (Or.inl ⟨by rfl, ?hy8⟩) (by assumption) ?rest8
      case hy8 => (intro W hSW; (try dsimp only at hSW); go_simp; try with_reducible rfl)
      try simp only [Act.put, List.setIfInBounds_toArray, List.set_cons_zero, List.set_cons_succ]
      refine wpAnyH_take (i := 9) (v := ?v9) (by rw [List.getElem?_toArray]; rfl) (by kernel_rfl) (by kernel_rfl) (by kernel_rfl) (by intro _ _ _ h; exact h) (Or.inl ⟨by rfl, ?hy9⟩) (by assumption) ?rest9
      case hy9 => (intro W hSW; (try dsimp only at hSW); go_simp; try with_reducible rfl)
      try simp only [Act.put, List.setIfInBounds_toArray, List.set_cons_zero, List.set_cons_succ]
      refine wpAnyH_take (i := 10) (v := ?v10) (by rw [List.getElem?_toArray]; rfl) (by kernel_rfl) (by kernel_rfl) (by kernel_rfl) (by intro _ _ _ h; exact h) (Or.inl ⟨by rfl, ?hy10⟩) (by assumption) ?rest10
      case hy10 => (intro W hSW; (try dsimp only at hSW); go_simp; try with_reducible rfl)
      try simp only [Act.put, List.setIfInBounds_toArray, List.set_cons_zero, List.set_cons_succ]
      refine wpAnyH_take (i := 11) (v := ?v11) (by rw [List.getElem?_toArray]; rfl) (by kernel_rfl) (by kernel_rfl) (by kernel_rfl) (by intro _ _ _ h; exact h) (Or.inl ⟨by rfl, ?hy11⟩) (by assumption) ?rest11
      case hy11 => (intro W hSW; (try dsimp only at hSW); go_simp; try with_reducible rfl)
      try simp only [Act.put, List.setIfInBounds_toArray, List.set_cons_zero, List.set_cons_succ]
      refine wpAnyH_take (i := 12) (v := ?v12) (by rw [List.getElem?_toArray]; rfl) (by kernel_rfl) (by kernel_rfl) (by kernel_rfl) (by intro _ _ _ h; exact h) (Or.inl ⟨by rfl, ?hy12⟩) (by assumption) ?rest12
      case hy12 => (intro W hSW; (try dsimp only at hSW); go_simp; try with_reducible rfl)
      try simp only [Act.put, List.setIfInBounds_toArray, List.set_cons_zero, List.set_cons_succ]
      refine wpAnyH_take (i := 13) (v := ?v13) (by rw [List.getElem?_toArray]; rfl) (by kernel_rfl) (by kernel_rfl) (by kernel_rfl) (by intro _ _ _ h; exact h) (Or.inl ⟨by rfl, ?hy13⟩) (by assumption) ?rest13
      case hy13 => (intro W hSW; (try dsimp only at hSW); go_simp; try with_reducible rfl)
      try simp only [Act.put, List.setIfInBounds_toArray, List.set_cons_zero, List.set_cons_succ]
      refine wpAnyH_ready (rs := [14]) (by kernel_rfl) (by simp) (AllReadyH.cons (by rw [List.getElem?_toArray]; rfl) (fun K hK => ?_) AllReadyH.nil)
      go_simp
      refine (HG.out _).mono ?_
      rintro e wn ⟨rfl, hb⟩
      replace DS := Lib.hid (DS.out.step hb)
      replace hS := CX.out _ DS.out.d
      clear hb
      refine hK.out _ _ hS (fun _ => ?_)
      clear hK K
      try simp only [List.setIfInBounds_toArray, List.set_cons_zero, List.set_cons_succ]
      refine wpAnyH_take (i := 15) (v := ?v14) (by rw [List.getElem?_toArray]; rfl) (by kernel_rfl) (by kernel_rfl) (by kernel_rfl) (by intro _ _ _ h; exact h) (Or.inl ⟨by rfl, ?hy14⟩) (by assumption) ?rest14
      case hy14 => (intro W hSW; (try dsimp only at hSW); go_simp; try with_reducible rfl)
      try simp only [Act.put, List.setIfInBounds_toArray, List.set_cons_zero, List.set_cons_succ]
      refine wpAnyH_take (i := 16) (v := ?v15) (by rw [List.getElem?_toArray]; rfl) (by kernel_rfl) (by kernel_rfl) (by kernel_rfl) (by intro _ _ _ h; exact h) (Or.inl ⟨by rfl, ?hy15⟩) (by assumption) ?rest15
      case hy15 => (intro W hSW; (try dsimp only at hSW); go_simp; try with_reducible rfl)
      try simp only [Act.put, List.setIfInBounds_toArray, List.set_cons_zero, List.set_cons_succ]
      refine wpAnyH_done (by kernel_rfl) ?_ _
      go_wp2_with (first | (go_at_call 30; refine (HE.out _ DS.out.d).mono ?_; rintro e _ ⟨rfl, rfl⟩) | (go_at_call 33; refine (HP.out _ DS.out.d).mono ?_; rintro e w7 ⟨rfl, hb⟩; replace DS := Lib.hid (DS.out.step hb); clear hb) | (go_at_call 34; refine (HN.out _).mono ?_; rintro e w8 ⟨rfl, hb⟩; replace DS := Lib.hid (DS.out.step hb); clear hb) | (go_at_call 32; refine (HC.out _ DS.out.d (Nat.le_trans hbase DS.out.bel.size)).mono ?_; rintro e w6 ⟨rfl, ht⟩; have KR := Lib.hid ((ht.far HD.out DS.out.bel (Nat.le_succ _) (RecC.lt_of_some DS.out.br)).trans DS.out.br); have TT := Lib.hid ht; clear ht) | (refine wpList_store_row rfl 39 _ _ rfl (w.heap.size + 1) #[.int .i64 y, .string ⟨#[]⟩, .int .i64 0, .int .i64 0, .int .i64 0, .int .i64 0, .int .i64 0, .int .i64 0] rfl rfl 39 _ KR.out infoA rfl (one8B y []) ?_))
      exact bodyPost_ret (v := .agg #[.int .i64 y, .string ⟨#[]⟩, .int .i64 0, .int .i64 0, .int .i64 0, .int .i64 0, .int .i64 0, .int .i64 0])
        (results_cell_row Tryz.results13 _ _ (w.heap.size + 1) 39 _ (0, 0) _ rfl (setRow_same KR.out) Tryz.underlying39 rfl infoA) rfl ⟨rfl, Turn.row HD.out DS.out.bel TT.out (Nat.le_succ _) (RecC.lt_of_some DS.out.br) _⟩
    · obtain ⟨e1, e2⟩ := cl_no (m := m) (fun h => h2 h.2)
      rw [e1, e2]
      clear e1 e2 h
      generalize m.s.ep = ep at *
      generalize m.used = u at *
      generalize GeoN.data m.b m.lb m.f = dd at *
      go_enter Tryz.func13, Tryz.ntmps13
      go_upto_region 1 with (fail)
      rw [← hW1]
      clear hW1
      go_upto_region 13 with (fail)
      replace DS := Lib.hid (DS.out.step ((Below.refl _ _).drew))
      have hS := CX.out _ DS.out.d
      clear k0 k1 k2 k3 k4 k5 k6
      refine wp_region_held_drew (S := fun W => W.cell? ⟨X, 0, none⟩ = some (.int .i64 m.b) ∧ W.cell? ⟨X, 1, none⟩ = some (.int .i64 m.lb) ∧ W.cell? ⟨X, 2, none⟩ = some (.int .i64 m.f) ∧ W.cell? ⟨X, 3, none⟩ = some (.int .i64 u)) (by kernel_rfl) hS (fun _ => ?_)
      change wpAnyH _ _ _ _ _ _ #[false, false, false, false, false, false, false, false, false, false, false, false, false, false, false, false, false] _ _
      refine wpAnyH_take (i := 0) (v := ?v16) (by rw [List.getElem?_toArray]; rfl) (by kernel_rfl) (by kernel_rfl) (by kernel_rfl) (by intro _ _ _ h; exact h) (Or.inl ⟨by rfl, ?hy16⟩) (by assumption) ?rest16
      case hy16 => (intro W hSW; (try dsimp only at hSW); go_simp; try with_reducible rfl)
      try simp only [Act.put, List.setIfInBounds_toArray, List.set_cons_zero, List.set_cons_succ]
      refine wpAnyH_take (i := 1) (v := ?v17) (by rw [List.getElem?_toArray]; rfl) (by kernel_rfl) (by kernel_rfl) (by kernel_rfl) (by intro _ _ _ h; exact h) (Or.inl ⟨by rfl, ?hy17⟩) (by assumption) ?rest17
      case hy17 => (intro W hSW; (try dsimp only at hSW); go_simp; try with_reducible rfl)
      try simp only [Act.put, List.setIfInBounds_toArray, List.set_cons_zero, List.set_cons_succ]
      refine wpAnyH_take (i := 2) (v := ?v18) (by rw [List.getElem?_toArray]; rfl) (by kernel_rfl) (by kernel_rfl) (by kernel_rfl) (by intro _ _ _ h; exact h) (Or.inl ⟨by rfl, ?hy18⟩) (by assumption) ?rest18
      case hy18 => (intro W hSW; (try dsimp only at hSW); go_simp; try with_reducible rfl)
      try simp only [Act.put, List.setIfInBounds_toArray, List.set_cons_zero, List.set_cons_succ]
      refine wpAnyH_ready (rs := [3]) (by kernel_rfl) (by simp) (AllReadyH.cons (by rw [List.getElem?_toArray]; rfl) (fun K hK => ?_) AllReadyH.nil)
      go_simp
      refine (HE.out _ DS.out.d).mono ?_
      rintro e _ ⟨rfl, rfl⟩
      refine hK.out _ _ hS (fun _ => ?_)
      clear hK K
      try simp only [List.setIfInBounds_toArray, List.set_cons_zero, List.set_cons_succ]
      refine wpAnyH_take (i := 4) (v := ?v19) (by rw [List.getElem?_toArray]; rfl) (by kernel_rfl) (by kernel_rfl) (by kernel_rfl) (by intro _ _ _ h; exact h) (Or.inl ⟨by rfl, ?hy19⟩) (by assumption) ?rest19
      case hy19 => (intro W hSW; (try dsimp only at hSW); go_simp; try with_reducible rfl)
      try simp only [Act.put, List.setIfInBounds_toArray, List.set_cons_zero, List.set_cons_succ]
      refine wpAnyH_take (i := 5) (v := ?v20) (by rw [List.getElem?_toArray]; rfl) (by kernel_rfl) (by kernel_rfl) (by kernel_rfl) (by intro _ _ _ h; exact h) (Or.inl ⟨by rfl, ?hy20⟩) (by assumption) ?rest20
      case hy20 => (intro W hSW; (try dsimp only at hSW); go_simp; try with_reducible rfl)
      try simp only [Act.put, List.setIfInBounds_toArray, List.set_cons_zero, List.set_cons_succ]
      refine wpAnyH_take (i := 6) (v := ?v21) (by rw [List.getElem?_toArray]; rfl) (by kernel_rfl) (by kernel_rfl) (by kernel_rfl) (by intro _ _ _ h; exact h) (Or.inl ⟨by rfl, ?hy21⟩) (by assumption) ?rest21
      case hy21 => (intro W hSW; (try dsimp only at hSW); go_simp; try with_reducible rfl)
      try simp only [Act.put, List.setIfInBounds_toArray, List.set_cons_zero, List.set_cons_succ]
      refine wpAnyH_take (i := 7) (v := ?v22) (by rw [List.getElem?_toArray]; rfl) (by kernel_rfl) (by kernel_rfl) (by kernel_rfl) (by intro _ _ _ h; exact h) (Or.inl ⟨by rfl, ?hy22⟩) (by assumption) ?rest22
      case hy22 => (intro W hSW; (try dsimp only at hSW); go_simp; try with_reducible rfl)
      try simp only [Act.put, List.setIfInBounds_toArray, List.set_cons_zero, List.set_cons_succ]
      refine wpAnyH_take (i := 8) (v := ?v23) (by rw [List.getElem?_toArray]; rfl) (by kernel_rfl) (by kernel_rfl) (by kernel_rfl) (by intro _ _ _ h; exact h) (Or.inl ⟨by rfl, ?hy23⟩) (by assumption) ?rest23
      case hy23 => (intro W hSW; (try dsimp only at hSW); go_simp; try with_reducible rfl)
      try simp only [Act.put, List.setIfInBounds_toArray, List.set_cons_zero, List.set_cons_succ]
      refine wpAnyH_take (i := 9) (v := ?v24) (by rw [List.getElem?_toArray]; rfl) (by kernel_rfl) (by kernel_rfl) (by kernel_rfl) (by intro _ _ _ h; exact h) (Or.inl ⟨by rfl, ?hy24⟩) (by assumption) ?rest24
      case hy24 => (intro W hSW; (try dsimp only at hSW); go_simp; try with_reducible rfl)
      try simp only [Act.put, List.setIfInBounds_toArray, List.set_cons_zero, List.set_cons_succ]
      refine wpAnyH_take (i := 10) (v := ?v25) (by rw [List.getElem?_toArray]; rfl) (by kernel_rfl) (by kernel_rfl) (by kernel_rfl) (by intro _ _ _ h; exact h) (Or.inl ⟨by rfl, ?hy25⟩) (by assumption) ?rest25
      case hy25 => (intro W hSW; (try dsimp only at hSW); go_simp; try with_reducible rfl)
      try simp only [Act.put, List.setIfInBounds_toArray, List.set_cons_zero, List.set_cons_succ]
      refine wpAnyH_take (i := 11) (v := ?v26) (by rw [List.getElem?_toArray]; rfl) (by kernel_rfl) (by kernel_rfl) (by kernel_rfl) (by intro _ _ _ h; exact h) (Or.inl ⟨by rfl, ?hy26⟩) (by assumption) ?rest26
      case hy26 => (intro W hSW; (try dsimp only at hSW); go_simp; try with_reducible rfl)
      try simp only [Act.put, List.setIfInBounds_toArray, List.set_cons_zero, List.set_cons_succ]
      refine wpAnyH_take (i := 12) (v := ?v27) (by rw [List.getElem?_toArray]; rfl) (by kernel_rfl) (by kernel_rfl) (by kernel_rfl) (by intro _ _ _ h; exact h) (Or.inl ⟨by rfl, ?hy27⟩) (by assumption) ?rest27
      case hy27 => (intro W hSW; (try dsimp only at hSW); go_simp; try with_reducible rfl)
      try simp only [Act.put, List.setIfInBounds_toArray, List.set_cons_zero, List.set_cons_succ]
      refine wpAnyH_take (i := 13) (v := ?v28) (by rw [List.getElem?_toArray]; rfl) (by kernel_rfl) (by kernel_rfl) (by kernel_rfl) (by intro _ _ _ h; exact h) (Or.inl ⟨by rfl, ?hy28⟩) (by assumption) ?rest28
      case hy28 => (intro W hSW; (try dsimp only at hSW); go_simp; try with_reducible rfl)
      try simp only [Act.put, List.setIfInBounds_toArray, List.set_cons_zero, List.set_cons_succ]
      refine wpAnyH_ready (rs := [14]) (by kernel_rfl) (by simp) (AllReadyH.cons (by rw [List.getElem?_toArray]; rfl) (fun K hK => ?_) AllReadyH.nil)
      go_simp
      refine (HG.out _).mono ?_
      rintro e wn ⟨rfl, hb⟩
      replace DS := Lib.hid (DS.out.step hb)
      replace hS := CX.out _ DS.out.d
      clear hb
      refine hK.out _ _ hS (fun _ => ?_)
      clear hK K
      try simp only [List.setIfInBounds_toArray, List.set_cons_zero, List.set_cons_succ]
      refine wpAnyH_take (i := 15) (v := ?v29) (by rw [List.getElem?_toArray]; rfl) (by kernel_rfl) (by kernel_rfl) (by kernel_rfl) (by intro _ _ _ h; exact h) (Or.inl ⟨by rfl, ?hy29⟩) (by assumption) ?rest29
      case hy29 => (intro W hSW; (try dsimp only at hSW); go_simp; try with_reducible rfl)
      try simp only [Act.put, List.setIfInBounds_toArray, List.set_cons_zero, List.set_cons_succ]
      refine wpAnyH_take (i := 16) (v := ?v30) (by rw [List.getElem?_toArray]; rfl) (by kernel_rfl) (by kernel_rfl) (by kernel_rfl) (by intro _ _ _ h; exact h) (Or.inl ⟨by rfl, ?hy30⟩) (by assumption) ?rest30
      case hy30 => (intro W hSW; (try dsimp only at hSW); go_simp; try with_reducible rfl)
      try simp only [Act.put, List.setIfInBounds_toArray, List.set_cons_zero, List.set_cons_succ]
      refine wpAnyH_done (by kernel_rfl) ?_ _
      go_wp2_with (refine wpList_store_row rfl 39 _ _ rfl (w.heap.size + 1) #[.int .i64 6, .string ⟨#[]⟩, .int .i64 0, .int .i64 0, .int .i64 0, .int .i64 0, .int .i64 0, .int .i64 0] rfl rfl 39 _ DS.out.br infoA rfl (one8B 6 []) ?_)
      exact bodyPost_ret (v := .agg #[.int .i64 6, .string ⟨#[]⟩, .int .i64 0, .int .i64 0, .int .i64 0, .int .i64 0, .int .i64 0, .int .i64 0])
        (results_cell_row Tryz.results13 _ _ (w.heap.size + 1) 39 _ (0, 0) _ rfl (setRow_same DS.out.br) Tryz.underlying39 rfl infoA) rfl ⟨rfl, Turn.still HD.out (below_setRow DS.out.bel (Nat.le_succ _) _)⟩
  · obtain ⟨e1, e2⟩ := cl_no (m := m) (fun h => h1 h.1)
    rw [e1, e2]
    clear e1 e2 h HG
    generalize m.s.ep = ep at *
    generalize m.used = u at *
    go_enter Tryz.func13, Tryz.ntmps13
    go_upto_region 1 with (fail)
    rw [← hW1]
    clear hW1
    go_upto_region 13 with (fail)
    replace DS := Lib.hid (DS.out.step ((Below.refl _ _).drew))
    have hS := CX.out _ DS.out.d
    clear k0 k1 k2 k3 k4 k5 k6
    refine wp_region_held_drew (S := fun W => W.cell? ⟨X, 0, none⟩ = some (.int .i64 m.b) ∧ W.cell? ⟨X, 1, none⟩ = some (.int .i64 m.lb) ∧ W.cell? ⟨X, 2, none⟩ = some (.int .i64 m.f) ∧ W.cell? ⟨X, 3, none⟩ = some (.int .i64 u)) (by kernel_rfl) hS (fun _ => ?_)
    change wpAnyH _ _ _ _ _ _ #[false, false, false, false, false, false, false, false, false, false, false, false, false, false, false, false, false] _ _
    refine wpAnyH_take (i := 0) (v := ?v31) (by rw [List.getElem?_toArray]; rfl) (by kernel_rfl) (by kernel_rfl) (by kernel_rfl) (by intro _ _ _ h; exact h) (Or.inl ⟨by rfl, ?hy31⟩) (by assumption) ?rest31
    case hy31 => (intro W hSW; (try dsimp only at hSW); go_simp; try with_reducible rfl)
    try simp only [Act.put, List.setIfInBounds_toArray, List.set_cons_zero, List.set_cons_succ]
    refine wpAnyH_take (i := 1) (v := ?v32) (by rw [List.getElem?_toArray]; rfl) (by kernel_rfl) (by kernel_rfl) (by kernel_rfl) (by intro _ _ _ h; exact h) (Or.inl ⟨by rfl, ?hy32⟩) (by assumption) ?rest32
    case hy32 => (intro W hSW; (try dsimp only at hSW); go_simp; try with_reducible rfl)
    try simp only [Act.put, List.setIfInBounds_toArray, List.set_cons_zero, List.set_cons_succ]
    refine wpAnyH_take (i := 2) (v := ?v33) (by rw [List.getElem?_toArray]; rfl) (by kernel_rfl) (by kernel_rfl) (by kernel_rfl) (by intro _ _ _ h; exact h) (Or.inl ⟨by rfl, ?hy33⟩) (by assumption) ?rest33
    case hy33 => (intro W hSW; (try dsimp only at hSW); go_simp; try with_reducible rfl)
    try simp only [Act.put, List.setIfInBounds_toArray, List.set_cons_zero, List.set_cons_succ]
    refine wpAnyH_ready (rs := [3]) (by kernel_rfl) (by simp) (AllReadyH.cons (by rw [List.getElem?_toArray]; rfl) (fun K hK => ?_) AllReadyH.nil)
    go_simp
    refine (HE.out _ DS.out.d).mono ?_
    rintro e _ ⟨rfl, rfl⟩
    refine hK.out _ _ hS (fun _ => ?_)
    clear hK K
    try simp only [List.setIfInBounds_toArray, List.set_cons_zero, List.set_cons_succ]
    refine wpAnyH_take (i := 4) (v := ?v34) (by rw [List.getElem?_toArray]; rfl) (by kernel_rfl) (by kernel_rfl) (by kernel_rfl) (by intro _ _ _ h; exact h) (Or.inl ⟨by rfl, ?hy34⟩) (by assumption) ?rest34
    case hy34 => (intro W hSW; (try dsimp only at hSW); go_simp; try with_reducible rfl)
    try simp only [Act.put, List.setIfInBounds_toArray, List.set_cons_zero, List.set_cons_succ]
    refine wpAnyH_take (i := 5) (v := ?v35) (by rw [List.getElem?_toArray]; rfl) (by kernel_rfl) (by kernel_rfl) (by kernel_rfl) (by intro _ _ _ h; exact h) (Or.inl ⟨by rfl, ?hy35⟩) (by assumption) ?rest35
    case hy35 => (intro W hSW; (try dsimp only at hSW); go_simp; try with_reducible rfl)
    try simp only [Act.put, List.setIfInBounds_toArray, List.set_cons_zero, List.set_cons_succ]
    refine wpAnyH_take (i := 6) (v := undef) (by rw [List.getElem?_toArray]; rfl) (by kernel_rfl) (by kernel_rfl) (by kernel_rfl) (by intro _ _ _ h; exact h) (Or.inr ⟨by rfl, rfl⟩) (by assumption) ?rest36
    try simp only [Act.put, List.setIfInBounds_toArray, List.set_cons_zero, List.set_cons_succ]
    refine wpAnyH_take (i := 7) (v := undef) (by rw [List.getElem?_toArray]; rfl) (by kernel_rfl) (by kernel_rfl) (by kernel_rfl) (by intro _ _ _ h; exact h) (Or.inr ⟨by rfl, rfl⟩) (by assumption) ?rest37
    try simp only [Act.put, List.setIfInBounds_toArray, List.set_cons_zero, List.set_cons_succ]
    refine wpAnyH_take (i := 8) (v := undef) (by rw [List.getElem?_toArray]; rfl) (by kernel_rfl) (by kernel_rfl) (by kernel_rfl) (by intro _ _ _ h; exact h) (Or.inr ⟨by rfl, rfl⟩) (by assumption) ?rest38
    try simp only [Act.put, List.setIfInBounds_toArray, List.set_cons_zero, List.set_cons_succ]
    refine wpAnyH_take (i := 9) (v := undef) (by rw [List.getElem?_toArray]; rfl) (by kernel_rfl) (by kernel_rfl) (by kernel_rfl) (by intro _ _ _ h; exact h) (Or.inr ⟨by rfl, rfl⟩) (by assumption) ?rest39
    try simp only [Act.put, List.setIfInBounds_toArray, List.set_cons_zero, List.set_cons_succ]
    refine wpAnyH_take (i := 10) (v := undef) (by rw [List.getElem?_toArray]; rfl) (by kernel_rfl) (by kernel_rfl) (by kernel_rfl) (by intro _ _ _ h; exact h) (Or.inr ⟨by rfl, rfl⟩) (by assumption) ?rest40
    try simp only [Act.put, List.setIfInBounds_toArray, List.set_cons_zero, List.set_cons_succ]
    refine wpAnyH_take (i := 11) (v := undef) (by rw [List.getElem?_toArray]; rfl) (by kernel_rfl) (by kernel_rfl) (by kernel_rfl) (by intro _ _ _ h; exact h) (Or.inr ⟨by rfl, rfl⟩) (by assumption) ?rest41
    try simp only [Act.put, List.setIfInBounds_toArray, List.set_cons_zero, List.set_cons_succ]
    refine wpAnyH_take (i := 12) (v := undef) (by rw [List.getElem?_toArray]; rfl) (by kernel_rfl) (by kernel_rfl) (by kernel_rfl) (by intro _ _ _ h; exact h) (Or.inr ⟨by rfl, rfl⟩) (by assumption) ?rest42
    try simp only [Act.put, List.setIfInBounds_toArray, List.set_cons_zero, List.set_cons_succ]
    refine wpAnyH_take (i := 13) (v := undef) (by rw [List.getElem?_toArray]; rfl) (by kernel_rfl) (by kernel_rfl) (by kernel_rfl) (by intro _ _ _ h; exact h) (Or.inr ⟨by rfl, rfl⟩) (by assumption) ?rest43
    try simp only [Act.put, List.setIfInBounds_toArray, List.set_cons_zero, List.set_cons_succ]
    refine wpAnyH_take (i := 14) (v := undef) (by rw [List.getElem?_toArray]; rfl) (by kernel_rfl) (by kernel_rfl) (by kernel_rfl) (by intro _ _ _ h; exact h) (Or.inr ⟨by rfl, rfl⟩) (by assumption) ?rest44
    try simp only [Act.put, List.setIfInBounds_toArray, List.set_cons_zero, List.set_cons_succ]
    refine wpAnyH_take (i := 15) (v := undef) (by rw [List.getElem?_toArray]; rfl) (by kernel_rfl) (by kernel_rfl) (by kernel_rfl) (by intro _ _ _ h; exact h) (Or.inr ⟨by rfl, rfl⟩) (by assumption) ?rest45
    try simp only [Act.put, List.setIfInBounds_toArray, List.set_cons_zero, List.set_cons_succ]
    refine wpAnyH_take (i := 16) (v := ?v46) (by rw [List.getElem?_toArray]; rfl) (by kernel_rfl) (by kernel_rfl) (by kernel_rfl) (by intro _ _ _ h; exact h) (Or.inl ⟨by rfl, ?hy46⟩) (by assumption) ?rest46
    case hy46 => (intro W hSW; (try dsimp only at hSW); go_simp; try with_reducible rfl)
    try simp only [Act.put, List.setIfInBounds_toArray, List.set_cons_zero, List.set_cons_succ]
    refine wpAnyH_done (by kernel_rfl) ?_ _
    go_wp2_with (refine wpList_store_row rfl 39 _ _ rfl (w.heap.size + 1) #[.int .i64 6, .string ⟨#[]⟩, .int .i64 0, .int .i64 0, .int .i64 0, .int .i64 0, .int .i64 0, .int .i64 0] rfl rfl 39 _ DS.out.br infoA rfl (one8B 6 []) ?_)
    exact bodyPost_ret (v := .agg #[.int .i64 6, .string ⟨#[]⟩, .int .i64 0, .int .i64 0, .int .i64 0, .int .i64 0, .int .i64 0, .int .i64 0])
      (results_cell_row Tryz.results13 _ _ (w.heap.size + 1) 39 _ (0, 0) _ rfl (setRow_same DS.out.br) Tryz.underlying39 rfl infoA) rfl ⟨rfl, Turn.still HD.out (below_setRow DS.out.bel (Nat.le_succ _) _)⟩
theorem Do {base X : Nat} {m : Mo} {ar : Option Addr} {cr : Nat} {av : Option Addr} {cv : Nat} {w : World} (h : Dm base X m ar cr av cv w) (hbase : base ≤ w.heap.size) (c : Cl) (pk : Option Addr) (nk ck : Nat) :
    Calls Tryz.prog 13 #[.pointer (some ⟨X, 0, none⟩), .agg #[.int .i64 c.k, .int .i64 c.lb, .int .i64 c.ep, .int .i64 c.tm, .string ⟨c.da.toArray⟩, .string ⟨c.nm.toArray⟩, .slice pk nk ck]] w fun x w' => x = .returned (.agg (anA (doA m c))) ∧ Turn base X m ar cr av cv (doM m c) w w' := by
  by_cases h1 : c.k = 1
  · exact Do_1 h hbase c pk nk ck h1
  by_cases h2 : c.k = 2
  · exact Do_2 h hbase c pk nk ck h2
  by_cases h3 : c.k = 3
  · exact Do_3 h hbase c pk nk ck h3
  by_cases h4 : c.k = 4
  · exact Do_4 h hbase c pk nk ck h4
  by_cases h5 : c.k = 5
  · exact Do_5 h hbase c pk nk ck h5
  by_cases h6 : c.k = 6 ∨ c.k = 7 ∨ c.k = 8 ∨ c.k = 9
  · exact Do_6 h hbase c pk nk ck h6
  by_cases h10 : c.k = 10
  · exact Do_10 h hbase c pk nk ck h10
  by_cases h11 : c.k = 11
  · exact Do_11 h hbase c pk nk ck h11
  exact Do_0 h hbase c pk nk ck (fun k p q e => by omega)
end Go.Proofs.YtopnodkdpehdoaaGreatDoor.MdK
/- The document's model: New: the walk of its text. No conditions but those that each lemma names. -/
namespace Go.Proofs.YtopnodkdpehdoaaGreatDoor.MdL
set_option linter.unusedVariables false
open Go.RowKit
open RecN RecC MdN
section
variable {base : Nat} {w W : World}
theorem New_no (b lb f : Int) (hr : ¬ GeoN.right b lb f) : Calls Tryz.prog 11 #[.agg #[.int .i64 b, .int .i64 lb, .int .i64 f]] w fun x w' => x = .returned (.pointer none) ∧ Below w.heap.size w w' := by
  obtain ⟨W1, hW1⟩ : ∃ W1, W1 = w.alloc (.cells #[.int .i64 b, .int .i64 lb, .int .i64 f] 23) := ⟨_, rfl⟩
  have BB : Hid (Below w.heap.size w W1) := Lib.hid (by rw [hW1]; exact below_new w _)
  have hk : W1.heap[w.heap.size]? = some (.cells #[.int .i64 b, .int .i64 lb, .int .i64 f] 23 (0, 0)) := by rw [hW1]; exact heap_alloc_new w _
  have c0 : W1.cell? ⟨w.heap.size, 0, none⟩ = some (.int .i64 b) := blk_cell hk rfl
  have c1 : W1.cell? ⟨w.heap.size, 1, none⟩ = some (.int .i64 lb) := blk_cell hk rfl
  have c2 : W1.cell? ⟨w.heap.size, 2, none⟩ = some (.int .i64 f) := blk_cell hk rfl
  have HR := Lib.hid (fun W => GeoR.Right b lb f W)
  rw [decide_eq_false hr] at HR
  clear hk hr
  go_enter Tryz.func11, Tryz.ntmps11
  go_upto_region 1 with (fail)
  rw [← hW1]
  clear hW1
  go_wp2_with (go_at_call 25; refine (HR.out _).mono ?_; rintro e w2 ⟨rfl, hb⟩; replace BB := Lib.hid (BB.out.trans (hb.mono BB.out.size)); clear hb HR)
  go_ret
  exact ⟨rfl, BB.out⟩
set_option maxRecDepth 100000 in
theorem New_yes (b lb f : Int) (hr : GeoN.right b lb f) (hbase : base ≤ w.heap.size) : Calls Tryz.prog 11 #[.agg #[.int .i64 b, .int .i64 lb, .int .i64 f]] w fun x w' => (∃ X, x = .returned (.pointer (some ⟨X, 0, none⟩)) ∧ w.heap.size ≤ X ∧ MdC.Dm base X (MdN.new b lb f) none 0 none 0 w') ∧ Below w.heap.size w w' := by
  obtain ⟨W1, hW1⟩ : ∃ W1, W1 = w.alloc (.cells #[.int .i64 b, .int .i64 lb, .int .i64 f] 23) := ⟨_, rfl⟩
  have BB : Hid (Below w.heap.size w W1) := Lib.hid (by rw [hW1]; exact below_new w _)
  have hk : W1.heap[w.heap.size]? = some (.cells #[.int .i64 b, .int .i64 lb, .int .i64 f] 23 (0, 0)) := by rw [hW1]; exact heap_alloc_new w _
  have HK := Lib.hid hk
  have c0 : W1.cell? ⟨w.heap.size, 0, none⟩ = some (.int .i64 b) := blk_cell hk rfl
  have c1 : W1.cell? ⟨w.heap.size, 1, none⟩ = some (.int .i64 lb) := blk_cell hk rfl
  have c2 : W1.cell? ⟨w.heap.size, 2, none⟩ = some (.int .i64 f) := blk_cell hk rfl
  have HR := Lib.hid (fun W => GeoR.Right b lb f W)
  rw [decide_eq_true hr] at HR
  have HG := Lib.hid hr
  clear hk hr
  go_enter Tryz.func11, Tryz.ntmps11
  go_upto_region 1 with (fail)
  rw [← hW1]
  clear hW1
  go_upto_region 3 with (go_at_call 25; refine (HR.out _).mono ?_; rintro e w2 ⟨rfl, hb⟩; replace BB := Lib.hid (BB.out.trans (hb.mono BB.out.size)); replace HK := Lib.hid ((hb.block _ (RecC.lt_of_some HK.out)).trans HK.out); clear hb HR)
  clear c0 c1 c2
  have c0 : w2.cell? ⟨w.heap.size, 0, none⟩ = some (.int .i64 b) := blk_cell HK.out rfl
  have c1 : w2.cell? ⟨w.heap.size, 1, none⟩ = some (.int .i64 lb) := blk_cell HK.out rfl
  have c2 : w2.cell? ⟨w.heap.size, 2, none⟩ = some (.int .i64 f) := blk_cell HK.out rfl
  go_wp2_with fail
  go_ret
  refine ⟨⟨w2.heap.size, rfl, BB.out.size, ⟨heap_alloc_new w2 _, ?_, ?_, ok_new HG.out⟩⟩, BB.out.trans ((below_new w2 _).mono BB.out.size)⟩
  · exact ⟨rfl, .inl ⟨rfl, rfl⟩⟩
  · exact ⟨rfl, .inl ⟨rfl, rfl⟩⟩
end
end Go.Proofs.YtopnodkdpehdoaaGreatDoor.MdL
