/- The program's package proof: clashOf: the walk of its text. The condition: the rounds' numbers lie in the program's variable. -/
import Derived.Test.YtcadfpaihfaabaaDoorPrgX
import Derived.Test.YtcadfpaihfaabaaDoorPrgW
import Derived.Test.YtcadfpaihfaabaaDoorPrgQ
namespace Go.Proofs.YtcadfpaihfaabaaDoor.PrgY
set_option linter.unusedVariables false
open Go.RowKit STurn SSum
open PrfL PrfN PrfM PrfB PrfG PrgN PrgC PrgK PrgB PrgT PrgI PrgL PrgV PrgX PrgQ PrgP MerQ MerC MerV MerX MerW
theorem run_neq_leaf (W : World) (a b : Int) (s t : L) (q : Bool) (h : decide ((a, s) = (b, t)) = q) :
    (binOp .neq 25 (.agg #[.int .i64 a, st s]) (.agg #[.int .i64 b, st t])).run Tryd.prog W = .ok (.bool (!q)) W := by
  have e1 : (Op.equalIn 9999 3 (.int .i64 a) (.int .i64 b)).run Tryd.prog W = .ok (a == b) W := run_equalIn_int W 9998 3 .i64 .i64 a b Tryd.underlying3
  have e2 : (Op.equalIn 9999 9 (st s) (st t)).run Tryd.prog W = .ok (_ == _) W := run_equalIn_string W 9998 9 _ _ Tryd.underlying9
  have p0 : ∀ (x : Int) (u : ByteArray), (part 3 #[.int .i64 x, .string u] 0).run Tryd.prog W = .ok (.int .i64 x) W := fun x u => by simp [part, isAgg, run_underlying Tryd.underlying3]
  have p1 : ∀ (x : Int) (u : ByteArray), (part 9 #[.int .i64 x, .string u] 1).run Tryd.prog W = .ok (.string u) W := fun x u => by simp [part, isAgg, run_underlying Tryd.underlying9]
  rw [run_neq_struct, run_equalIn_struct W 9999 _ _ _ under_leaf stood_leaf, fields_leaf]
  rw [str_beq, st_inj] at e2
  subst h
  simp only [Op.eqFields, Sem.run_bind, Sem.run_ite, p0, p1, e1, e2, Result.andThen_ok]
  by_cases h1 : a = b <;> by_cases h2 : s = t <;> simp [h1, h2]
/-- The boxes of the trees' functions, the proof that came in, the own one. -/
structure Ck (w : World) (x xo : Raw) (O : Nat) (W : World) : Prop where
  d : Below w.heap.size w W
  t : W.heap[w.heap.size]? = some (.cells tc 50 (0, 0))
  p : W.heap[w.heap.size + 1]? = some (.cells x.cells 29 (0, 0))
  o : W.heap[O]? = some (.cells xo.cells 29 (0, 0))
theorem Ck.step {w : World} {x xo : Raw} {O : Nat} {W V : World} (h : Ck w x xo O W) (hb : Below W.heap.size W V) : Ck w x xo O V :=
  have h0 := (Array.getElem?_eq_some_iff.1 h.t).1
  have h1 := (Array.getElem?_eq_some_iff.1 h.p).1
  have h2 := (Array.getElem?_eq_some_iff.1 h.o).1
  ⟨h.d.trans (hb.mono (by omega)), (hb.block _ h0).trans h.t, (hb.block _ h1).trans h.p, (hb.block _ h2).trans h.o⟩
theorem Ck.cells {w : World} {x xo : Raw} {O : Nat} {W : World} (h : Ck w x xo O W) : W.cell? ⟨w.heap.size, 0, none⟩ = some (fv 21) ∧ W.cell? ⟨w.heap.size, 1, none⟩ = some (fv 22) ∧ W.cell? ⟨w.heap.size, 2, none⟩ = some (fv 23) ∧ W.cell? ⟨w.heap.size, 3, none⟩ = some (fv 24) ∧ W.cell? ⟨w.heap.size, 4, none⟩ = some (fv 25) ∧ W.cell? ⟨w.heap.size + 1, 0, none⟩ = some (.bool x.f) ∧ W.cell? ⟨w.heap.size + 1, 1, none⟩ = some (.int .i64 x.at_) ∧ W.cell? ⟨w.heap.size + 1, 2, none⟩ = some (.int .i64 x.here.1) ∧ W.cell? ⟨w.heap.size + 1, 3, none⟩ = some (st x.here.2) ∧ W.cell? ⟨w.heap.size + 1, 4, none⟩ = some (.int .i64 x.ahead.1) ∧ W.cell? ⟨w.heap.size + 1, 5, none⟩ = some (st x.ahead.2) ∧ W.cell? ⟨w.heap.size + 1, 6, none⟩ = some (.slice x.ua x.up.length x.uc) ∧ W.cell? ⟨w.heap.size + 1, 7, none⟩ = some (.slice x.la x.left.length x.lc) ∧ W.cell? ⟨O, 0, none⟩ = some (.bool xo.f) ∧ W.cell? ⟨O, 1, none⟩ = some (.int .i64 xo.at_) ∧ W.cell? ⟨O, 2, none⟩ = some (.int .i64 xo.here.1) ∧ W.cell? ⟨O, 3, none⟩ = some (st xo.here.2) ∧ W.cell? ⟨O, 4, none⟩ = some (.int .i64 xo.ahead.1) ∧ W.cell? ⟨O, 5, none⟩ = some (st xo.ahead.2) ∧ W.cell? ⟨O, 6, none⟩ = some (.slice xo.ua xo.up.length xo.uc) ∧ W.cell? ⟨O, 7, none⟩ = some (.slice xo.la xo.left.length xo.lc) :=
  ⟨blk_cell h.t rfl, blk_cell h.t rfl, blk_cell h.t rfl, blk_cell h.t rfl, blk_cell h.t rfl, blk_cell h.p rfl, blk_cell h.p rfl, blk_cell h.p rfl, blk_cell h.p rfl, blk_cell h.p rfl, blk_cell h.p rfl, blk_cell h.p rfl, blk_cell h.p rfl, blk_cell h.o rfl, blk_cell h.o rfl, blk_cell h.o rfl, blk_cell h.o rfl, blk_cell h.o rfl, blk_cell h.o rfl, blk_cell h.o rfl, blk_cell h.o rfl⟩
/-- Does the proof tell something else than the leaves do? -/
def elseB (l : List Lf) (b : Int) (p : Pf) : Bool := canB l b && provesB (rt l) (l.length : Int) b p && !decide (toldP p = toldP (prove l b))
theorem told_own {l : List Lf} {b : Int} : toldP (prove l b) = (own l b).1 := by
  unfold toldP prove own
  by_cases h : plc l b < l.length ∧ (l.getD (plc l b) no).1 = b
  · simp only [decide_eq_true h, if_true, if_pos h, if_pos h.1]
  · simp only [decide_eq_false h, if_neg h]
    simp
/-- A leaf that is named: what the search finds. -/
theorem found_seat {l : List Lf} {b : Int} {x : Raw} (h : elseB l b (pf x) = true) : right l = true ∧ (∀ m ∈ seatsR (l.length : Int) x, leadsS (rt l) (l.length : Int) m.s = true) ∧ ∃ m ∈ seatsR (l.length : Int) x, named l m.s.at_ m.s.leaf m.s.path = true := by
  unfold elseB at h
  rw [Bool.and_eq_true, Bool.and_eq_true] at h
  obtain ⟨⟨hc, hp⟩, hne⟩ := h
  obtain ⟨hr, hb⟩ := can_in hc
  have hfew := right_few hr
  have ht := proves_tells (r := rt l) (n := (l.length : Int)) (b := b) (p := pf x) (by omega) hb
  rw [if_pos hp] at ht
  have hs := sound hr ht (by
    intro e
    have e1 : toldP (pf x) = (own l b).1 := by rw [← e]
    rw [told_own, ← e1, decide_eq_true rfl] at hne
    simp at hne)
  have hex : ∃ m ∈ seatsR (l.length : Int) x, named l m.s.at_ m.s.leaf m.s.path = true := by
    rcases hs with ⟨h1, h2⟩ | ⟨h1, h2, h3⟩
    · refine ⟨⟨hereS (pf x), x.ua, x.uc⟩, ?_, h2⟩
      unfold seatsR
      rw [show hereP (l.length : Int) (pf x) = true from decide_eq_true h1]
      simp
    · refine ⟨⟨aheadS (pf x), x.la, x.lc⟩, ?_, h3⟩
      unfold seatsR
      have : aheadP (pf x) = true := by unfold aheadP; rw [h1, decide_eq_true h2]; rfl
      rw [this]
      simp
  have hn0 : ¬ (l.length : Int) = 0 := by
    obtain ⟨m, _, hm⟩ := hex
    unfold named at hm
    rw [Bool.and_eq_true] at hm
    have := leads_lt hm.1
    omega
  refine ⟨hr, fun m hm => ?_, hex⟩
  unfold provesB at hp
  rw [Bool.and_eq_true, if_neg hn0] at hp
  have ha := hp.2
  rw [Bool.and_eq_true] at ha
  have ha := ha.1
  rw [← all_seats, List.all_eq_true] at ha
  exact ha m hm
theorem is_named {l : List Lf} (hr : right l = true) {s : Seat} (hl : leadsS (rt l) (l.length : Int) s = true) : named l s.at_ s.leaf s.path = !decide (s.leaf = l.getD s.at_.toNat no) := by
  unfold named
  have hl' : leads (rt l) (l.length : Int) s.at_ s.leaf s.path = true := hl
  obtain ⟨h1, h2, _⟩ := leads_in hl'
  rw [hl', Bool.true_and]
  congr 1
  rw [decide_eq_decide]
  exact ⟨said_inj h1 (right_at hr (by omega)), fun e => by rw [← e]⟩
set_option maxRecDepth 100000 in
set_option maxHeartbeats 4000000 in
theorem cannot (a : Option Addr) (n c : Nat) (l : List Lf) (b : Int) (x : Raw) (w : World) (h : Lvs w a n l) (hn : n ≤ 100000) (hx : Okay w x) (hr : Rds w) (hc : canB l b = false) : Calls Tryd.prog 17 #[.agg tc, .slice a n c, .int .i64 b, .agg x.cells] w (fun e w' => e = .returned (.tuple #[str [], str [], .bool false]) ∧ Below w.heap.size w w') := by
  obtain ⟨W1, hW1⟩ : ∃ W1, W1 = (w.alloc (.cells tc 50)).alloc (.cells x.cells 29) := ⟨_, rfl⟩
  have TP := Lib.hid (show PrgW.Tp w x W1 by rw [hW1]; exact PrgW.tp_new w x)
  have HPr := Lib.hid (fun W (hb : Below w.heap.size w W) => prove_no a n c l b W ⟨h.1, h.2.1, h.2.2.1, h.2.2.2.step hb⟩ hn (hr.step hb) (can_no hc))
  clear h hx hr hc
  go_enter Tryd.func17, Tryd.ntmps17
  go_upto_region 1 with (fail)
  rw [← hW1]
  clear hW1
  go_upto_region 2 with (first
    | (refine wpList_load_row rfl 50 _ rfl w.heap.size rfl 50 _ (0, 0) _ TP.out.t Tryd.underlying50 rfl infoT ?_)
    | (go_at_call 15; refine (HPr.out _ TP.out.d).mono ?_; rintro e w2 ⟨rfl, hb⟩; replace TP := Lib.hid (TP.out.step hb); clear hb)
    | (refine wpList_store_row rfl 29 _ _ rfl w2.heap.size zeroRaw.cells rfl rfl 29 _ (heap_alloc_new w2 _) infoP rfl (oneP _) ?_))
  generalize hW : World.setRow _ _ _ = W3
  replace TP := Lib.hid (TP.out.step (show Below w2.heap.size w2 W3 by rw [← hW]; exact kept_new w2 _ _ _))
  clear hW
  go_wp2
  go_ret3
  exact ⟨rfl, TP.out.d⟩
set_option maxRecDepth 100000 in
set_option maxHeartbeats 4000000 in
theorem refused (a : Option Addr) (n c : Nat) (l : List Lf) (b : Int) (x : Raw) (w : World) (h : Lvs w a n l) (hn : n ≤ 100000) (hx : Okay w x) (hr : Rds w) (hc : canB l b = true) (hp : provesB (rt l) (n : Int) b (pf x) = false) : Calls Tryd.prog 17 #[.agg tc, .slice a n c, .int .i64 b, .agg x.cells] w (fun e w' => e = .returned (.tuple #[str [], str [], .bool false]) ∧ Below w.heap.size w w') := by
  obtain ⟨W1, hW1⟩ : ∃ W1, W1 = (w.alloc (.cells tc 50)).alloc (.cells x.cells 29) := ⟨_, rfl⟩
  have TP := Lib.hid (show PrgW.Tp w x W1 by rw [hW1]; exact PrgW.tp_new w x)
  obtain ⟨hri, hbi⟩ := can_in hc
  have hln := h.1
  have HPr := Lib.hid (fun W (hb : Below w.heap.size w W) => prove_ok a n c l b W ⟨h.1, h.2.1, h.2.2.1, h.2.2.2.step hb⟩ hn (hr.step hb) hri hbi)
  have HH := Lib.hid (fun W (hb : Below w.heap.size w W) => PrgH.hashes_yes a n c l W ⟨h.1, h.2.1, h.2.2.1, h.2.2.2.step hb⟩ hn (hr.step hb) hri)
  have HRo := Lib.hid (fun p c' W (hs' : Strs W W.heap.size p n (hs l)) (hb : Below w.heap.size w W) => MerR.Root p n c' (hs l) W hs' hn (PrgR.hs_le l) (hr.step hb))
  unfold MerR.rootR at HRo
  rw [hs_32] at HRo
  simp only [if_true] at HRo
  rw [show MerN.root nd (sum []) (hs l) = rt l from rfl] at HRo
  have HPv := Lib.hid (fun W (hb : Below w.heap.size w W) => proves (rt l) (n : Int) b x W (by omega) (hx.step hb) (hr.step hb))
  rw [hp] at HPv
  clear h hx hr hc hri hbi hp
  generalize rt l = r at *
  dsimp only [trc, Raw.cells] at HPv
  go_enter Tryd.func17, Tryd.ntmps17
  go_upto_region 1 with (fail)
  rw [← hW1]
  clear hW1
  go_upto_region 2 with (first
    | (refine wpList_load_row rfl 50 _ rfl w.heap.size rfl 50 _ (0, 0) _ TP.out.t Tryd.underlying50 rfl infoT ?_)
    | (go_at_call 15; refine (HPr.out _ TP.out.d).mono ?_; rintro e w2 ⟨xo, rfl, hxo, _, _, hb⟩; replace TP := Lib.hid (TP.out.step hb); have HXO := Lib.hid hxo; clear hb hxo)
    | (refine wpList_store_row rfl 29 _ _ rfl w2.heap.size xo.cells rfl rfl 29 _ (heap_alloc_new w2 _) infoP rfl (oneP _) ?_))
  generalize hW : World.setRow _ _ _ = W3
  have b3 : Below w2.heap.size w2 W3 := by rw [← hW]; exact kept_new w2 _ _ _
  have g3 : W3.heap[w2.heap.size]? = some (.cells xo.cells 29 (0, 0)) := by rw [← hW]; exact has_new w2 _ _ _
  have CK := Lib.hid (Ck.mk (w := w) (x := x) (xo := xo) (O := w2.heap.size) (W := W3) (TP.out.step b3).d (TP.out.step b3).t (TP.out.step b3).p g3)
  clear hW b3 g3 TP HPr
  generalize w2.heap.size = O at *
  go_upto_region 6 with (first
    | (refine wpList_load_row rfl 50 _ rfl w.heap.size rfl 50 _ (0, 0) _ CK.out.t Tryd.underlying50 rfl infoT ?_)
    | (go_at_call 26; refine (HH.out _ CK.out.d).mono ?_; rintro e w4 ⟨p, c', rfl, hs4, hb⟩; replace CK := Lib.hid (CK.out.step hb); have S4 := Lib.hid hs4; have kt : w4.cell? ⟨w.heap.size, 1, none⟩ = some (fv 22) := blk_cell CK.out.t rfl; clear hb hs4)
    | (go_at_call 22; refine (HRo.out _ _ _ S4.out CK.out.d).mono ?_; rintro e w5 ⟨rfl, hb⟩; replace CK := Lib.hid (CK.out.step hb); have S5 := Lib.hid ((S4.out.below hb).more hb.size); clear hb kt))
  replace CK := Lib.hid (CK.out.step (Below.refl _ _).drew)
  have S6 := Lib.hid (show Strs w5.drew w5.drew.heap.size p n (hs l) from S5.out)
  clear HH HRo S5 S4
  obtain ⟨t0, t1, t2, t3, t4, p0, p1, p2, p3, p4, p5, p6, p7, _⟩ := CK.out.cells
  have HS : Hid (∀ W, Ck w x xo O W → W.cell? ⟨w.heap.size, 0, none⟩ = some (fv 21) ∧ W.cell? ⟨w.heap.size, 1, none⟩ = some (fv 22) ∧ W.cell? ⟨w.heap.size, 2, none⟩ = some (fv 23) ∧ W.cell? ⟨w.heap.size, 3, none⟩ = some (fv 24) ∧ W.cell? ⟨w.heap.size, 4, none⟩ = some (fv 25) ∧ W.cell? ⟨w.heap.size + 1, 0, none⟩ = some (.bool x.f) ∧ W.cell? ⟨w.heap.size + 1, 1, none⟩ = some (.int .i64 x.at_) ∧ W.cell? ⟨w.heap.size + 1, 2, none⟩ = some (.int .i64 x.here.1) ∧ W.cell? ⟨w.heap.size + 1, 3, none⟩ = some (st x.here.2) ∧ W.cell? ⟨w.heap.size + 1, 4, none⟩ = some (.int .i64 x.ahead.1) ∧ W.cell? ⟨w.heap.size + 1, 5, none⟩ = some (st x.ahead.2) ∧ W.cell? ⟨w.heap.size + 1, 6, none⟩ = some (.slice x.ua x.up.length x.uc) ∧ W.cell? ⟨w.heap.size + 1, 7, none⟩ = some (.slice x.la x.left.length x.lc)) := Lib.hid fun W h => by
    obtain ⟨t0, t1, t2, t3, t4, p0, p1, p2, p3, p4, p5, p6, p7, _⟩ := h.cells
    exact ⟨t0, t1, t2, t3, t4, p0, p1, p2, p3, p4, p5, p6, p7⟩
  have hS := HS.out _ CK.out
  clear t0 t1 t2 t3 t4 p0 p1 p2 p3 p4 p5 p6 p7
  refine wp_region_held_drew (S := fun W => W.cell? ⟨w.heap.size, 0, none⟩ = some (fv 21) ∧ W.cell? ⟨w.heap.size, 1, none⟩ = some (fv 22) ∧ W.cell? ⟨w.heap.size, 2, none⟩ = some (fv 23) ∧ W.cell? ⟨w.heap.size, 3, none⟩ = some (fv 24) ∧ W.cell? ⟨w.heap.size, 4, none⟩ = some (fv 25) ∧ W.cell? ⟨w.heap.size + 1, 0, none⟩ = some (.bool x.f) ∧ W.cell? ⟨w.heap.size + 1, 1, none⟩ = some (.int .i64 x.at_) ∧ W.cell? ⟨w.heap.size + 1, 2, none⟩ = some (.int .i64 x.here.1) ∧ W.cell? ⟨w.heap.size + 1, 3, none⟩ = some (st x.here.2) ∧ W.cell? ⟨w.heap.size + 1, 4, none⟩ = some (.int .i64 x.ahead.1) ∧ W.cell? ⟨w.heap.size + 1, 5, none⟩ = some (st x.ahead.2) ∧ W.cell? ⟨w.heap.size + 1, 6, none⟩ = some (.slice x.ua x.up.length x.uc) ∧ W.cell? ⟨w.heap.size + 1, 7, none⟩ = some (.slice x.la x.left.length x.lc)) (by kernel_rfl) hS (fun _ => ?_)
  change wpAnyH _ _ _ _ _ _ #[false, false, false, false, false, false, false, false, false, false, false, false, false, false, false, false] _ _
  refine wpAnyH_take (i := 0) (v := ?vx1) (by rw [List.getElem?_toArray]; rfl) (by kernel_rfl) (by kernel_rfl) (by kernel_rfl) (by intro _ _ _ h; exact h) (Or.inl ⟨by rfl, ?hyx1⟩) (by assumption) ?restx1
  case hyx1 => (intro W hSW; (try dsimp only at hSW); go_simp; try with_reducible rfl)
  try simp only [Act.put, List.setIfInBounds_toArray, List.set_cons_zero, List.set_cons_succ]
  refine wpAnyH_take (i := 1) (v := ?vx2) (by rw [List.getElem?_toArray]; rfl) (by kernel_rfl) (by kernel_rfl) (by kernel_rfl) (by intro _ _ _ h; exact h) (Or.inl ⟨by rfl, ?hyx2⟩) (by assumption) ?restx2
  case hyx2 => (intro W hSW; (try dsimp only at hSW); go_simp; try with_reducible rfl)
  try simp only [Act.put, List.setIfInBounds_toArray, List.set_cons_zero, List.set_cons_succ]
  refine wpAnyH_take (i := 2) (v := ?vx3) (by rw [List.getElem?_toArray]; rfl) (by kernel_rfl) (by kernel_rfl) (by kernel_rfl) (by intro _ _ _ h; exact h) (Or.inl ⟨by rfl, ?hyx3⟩) (by assumption) ?restx3
  case hyx3 => (intro W hSW; (try dsimp only at hSW); go_simp; try with_reducible rfl)
  try simp only [Act.put, List.setIfInBounds_toArray, List.set_cons_zero, List.set_cons_succ]
  refine wpAnyH_take (i := 3) (v := ?vx4) (by rw [List.getElem?_toArray]; rfl) (by kernel_rfl) (by kernel_rfl) (by kernel_rfl) (by intro _ _ _ h; exact h) (Or.inl ⟨by rfl, ?hyx4⟩) (by assumption) ?restx4
  case hyx4 => (intro W hSW; (try dsimp only at hSW); go_simp; try with_reducible rfl)
  try simp only [Act.put, List.setIfInBounds_toArray, List.set_cons_zero, List.set_cons_succ]
  refine wpAnyH_take (i := 4) (v := ?vx5) (by rw [List.getElem?_toArray]; rfl) (by kernel_rfl) (by kernel_rfl) (by kernel_rfl) (by intro _ _ _ h; exact h) (Or.inl ⟨by rfl, ?hyx5⟩) (by assumption) ?restx5
  case hyx5 => (intro W hSW; (try dsimp only at hSW); go_simp; try with_reducible rfl)
  try simp only [Act.put, List.setIfInBounds_toArray, List.set_cons_zero, List.set_cons_succ]
  refine wpAnyH_take (i := 5) (v := ?vx6) (by rw [List.getElem?_toArray]; rfl) (by kernel_rfl) (by kernel_rfl) (by kernel_rfl) (by intro _ _ _ h; exact h) (Or.inl ⟨by rfl, ?hyx6⟩) (by assumption) ?restx6
  case hyx6 => (intro W hSW; (try dsimp only at hSW); go_simp; try with_reducible rfl)
  try simp only [Act.put, List.setIfInBounds_toArray, List.set_cons_zero, List.set_cons_succ]
  refine wpAnyH_take (i := 6) (v := ?vx7) (by rw [List.getElem?_toArray]; rfl) (by kernel_rfl) (by kernel_rfl) (by kernel_rfl) (by intro _ _ _ h; exact h) (Or.inl ⟨by rfl, ?hyx7⟩) (by assumption) ?restx7
  case hyx7 => (intro W hSW; (try dsimp only at hSW); go_simp; try with_reducible rfl)
  try simp only [Act.put, List.setIfInBounds_toArray, List.set_cons_zero, List.set_cons_succ]
  refine wpAnyH_ready (rs := [7]) (by kernel_rfl) (by simp) (AllReadyH.cons (by rw [List.getElem?_toArray]; rfl) (fun K hK => ?_) AllReadyH.nil)
  go_simp
  refine (HPv.out _ CK.out.d).mono ?_
  rintro e w17 ⟨rfl, hb⟩
  replace CK := Lib.hid (CK.out.step hb)
  replace hS := HS.out _ CK.out
  clear hb
  refine hK.out _ _ hS (fun _ => ?_)
  clear hK K
  try simp only [List.setIfInBounds_toArray, List.set_cons_zero, List.set_cons_succ]
  refine wpAnyH_take (i := 8) (v := ?vx9) (by rw [List.getElem?_toArray]; rfl) (by kernel_rfl) (by kernel_rfl) (by kernel_rfl) (by intro _ _ _ h; exact h) (Or.inl ⟨by rfl, ?hyx9⟩) (by assumption) ?restx9
  case hyx9 => (intro W hSW; (try dsimp only at hSW); go_simp; try with_reducible rfl)
  try simp only [Act.put, List.setIfInBounds_toArray, List.set_cons_zero, List.set_cons_succ]
  refine wpAnyH_take (i := 9) (v := ?vx10) (by rw [List.getElem?_toArray]; rfl) (by kernel_rfl) (by kernel_rfl) (by kernel_rfl) (by intro _ _ _ h; exact h) (Or.inl ⟨by rfl, ?hyx10⟩) (by assumption) ?restx10
  case hyx10 => (intro W hSW; (try dsimp only at hSW); go_simp; try with_reducible rfl)
  try simp only [Act.put, List.setIfInBounds_toArray, List.set_cons_zero, List.set_cons_succ]
  refine wpAnyH_take (i := 10) (v := undef) (by rw [List.getElem?_toArray]; rfl) (by kernel_rfl) (by kernel_rfl) (by kernel_rfl) (by intro _ _ _ h; exact h) (Or.inr ⟨by rfl, rfl⟩) (by assumption) ?restx11
  try simp only [Act.put, List.setIfInBounds_toArray, List.set_cons_zero, List.set_cons_succ]
  refine wpAnyH_take (i := 11) (v := undef) (by rw [List.getElem?_toArray]; rfl) (by kernel_rfl) (by kernel_rfl) (by kernel_rfl) (by intro _ _ _ h; exact h) (Or.inr ⟨by rfl, rfl⟩) (by assumption) ?restx12
  try simp only [Act.put, List.setIfInBounds_toArray, List.set_cons_zero, List.set_cons_succ]
  refine wpAnyH_take (i := 12) (v := undef) (by rw [List.getElem?_toArray]; rfl) (by kernel_rfl) (by kernel_rfl) (by kernel_rfl) (by intro _ _ _ h; exact h) (Or.inr ⟨by rfl, rfl⟩) (by assumption) ?restx13
  try simp only [Act.put, List.setIfInBounds_toArray, List.set_cons_zero, List.set_cons_succ]
  refine wpAnyH_take (i := 13) (v := undef) (by rw [List.getElem?_toArray]; rfl) (by kernel_rfl) (by kernel_rfl) (by kernel_rfl) (by intro _ _ _ h; exact h) (Or.inr ⟨by rfl, rfl⟩) (by assumption) ?restx14
  try simp only [Act.put, List.setIfInBounds_toArray, List.set_cons_zero, List.set_cons_succ]
  refine wpAnyH_take (i := 14) (v := undef) (by rw [List.getElem?_toArray]; rfl) (by kernel_rfl) (by kernel_rfl) (by kernel_rfl) (by intro _ _ _ h; exact h) (Or.inr ⟨by rfl, rfl⟩) (by assumption) ?restx15
  try simp only [Act.put, List.setIfInBounds_toArray, List.set_cons_zero, List.set_cons_succ]
  refine wpAnyH_take (i := 15) (v := ?vx16) (by rw [List.getElem?_toArray]; rfl) (by kernel_rfl) (by kernel_rfl) (by kernel_rfl) (by intro _ _ _ h; exact h) (Or.inl ⟨by rfl, ?hyx16⟩) (by assumption) ?restx16
  case hyx16 => (intro W hSW; (try dsimp only at hSW); go_simp; try with_reducible rfl)
  try simp only [Act.put, List.setIfInBounds_toArray, List.set_cons_zero, List.set_cons_succ]
  refine wpAnyH_done (by kernel_rfl) ?_ _
  go_wp2
  go_ret3
  exact ⟨rfl, CK.out.d⟩
set_option maxRecDepth 100000 in
set_option maxHeartbeats 4000000 in
theorem alike (a : Option Addr) (n c : Nat) (l : List Lf) (b : Int) (x : Raw) (w : World) (h : Lvs w a n l) (hn : n ≤ 100000) (hx : Okay w x) (hr : Rds w) (hc : canB l b = true) (hp : provesB (rt l) (n : Int) b (pf x) = true) (he : toldP (pf x) = toldP (prove l b)) : Calls Tryd.prog 17 #[.agg tc, .slice a n c, .int .i64 b, .agg x.cells] w (fun e w' => e = .returned (.tuple #[str [], str [], .bool false]) ∧ Below w.heap.size w w') := by
  obtain ⟨W1, hW1⟩ : ∃ W1, W1 = (w.alloc (.cells tc 50)).alloc (.cells x.cells 29) := ⟨_, rfl⟩
  have TP := Lib.hid (show PrgW.Tp w x W1 by rw [hW1]; exact PrgW.tp_new w x)
  obtain ⟨hri, hbi⟩ := can_in hc
  have hln := h.1
  have HPr := Lib.hid (fun W (hb : Below w.heap.size w W) => prove_ok a n c l b W ⟨h.1, h.2.1, h.2.2.1, h.2.2.2.step hb⟩ hn (hr.step hb) hri hbi)
  have HH := Lib.hid (fun W (hb : Below w.heap.size w W) => PrgH.hashes_yes a n c l W ⟨h.1, h.2.1, h.2.2.1, h.2.2.2.step hb⟩ hn (hr.step hb) hri)
  have HRo := Lib.hid (fun p c' W (hs' : Strs W W.heap.size p n (hs l)) (hb : Below w.heap.size w W) => MerR.Root p n c' (hs l) W hs' hn (PrgR.hs_le l) (hr.step hb))
  unfold MerR.rootR at HRo
  rw [hs_32] at HRo
  simp only [if_true] at HRo
  rw [show MerN.root nd (sum []) (hs l) = rt l from rfl] at HRo
  have HPv := Lib.hid (fun W (hb : Below w.heap.size w W) => proves (rt l) (n : Int) b x W (by omega) (hx.step hb) (hr.step hb))
  rw [hp] at HPv
  clear h hx hr hc hri hbi hp
  generalize rt l = r at *
  dsimp only [trc, Raw.cells] at HPv
  go_enter Tryd.func17, Tryd.ntmps17
  go_upto_region 1 with (fail)
  rw [← hW1]
  clear hW1
  go_upto_region 2 with (first
    | (refine wpList_load_row rfl 50 _ rfl w.heap.size rfl 50 _ (0, 0) _ TP.out.t Tryd.underlying50 rfl infoT ?_)
    | (go_at_call 15; refine (HPr.out _ TP.out.d).mono ?_; rintro e w2 ⟨xo, rfl, hxo, _, _, hb⟩; replace TP := Lib.hid (TP.out.step hb); have HXO := Lib.hid hxo; clear hb hxo)
    | (refine wpList_store_row rfl 29 _ _ rfl w2.heap.size xo.cells rfl rfl 29 _ (heap_alloc_new w2 _) infoP rfl (oneP _) ?_))
  generalize hW : World.setRow _ _ _ = W3
  have b3 : Below w2.heap.size w2 W3 := by rw [← hW]; exact kept_new w2 _ _ _
  have g3 : W3.heap[w2.heap.size]? = some (.cells xo.cells 29 (0, 0)) := by rw [← hW]; exact has_new w2 _ _ _
  have CK := Lib.hid (Ck.mk (w := w) (x := x) (xo := xo) (O := w2.heap.size) (W := W3) (TP.out.step b3).d (TP.out.step b3).t (TP.out.step b3).p g3)
  clear hW b3 g3 TP HPr
  generalize w2.heap.size = O at *
  go_upto_region 6 with (first
    | (refine wpList_load_row rfl 50 _ rfl w.heap.size rfl 50 _ (0, 0) _ CK.out.t Tryd.underlying50 rfl infoT ?_)
    | (go_at_call 26; refine (HH.out _ CK.out.d).mono ?_; rintro e w4 ⟨p, c', rfl, hs4, hb⟩; replace CK := Lib.hid (CK.out.step hb); have S4 := Lib.hid hs4; have kt : w4.cell? ⟨w.heap.size, 1, none⟩ = some (fv 22) := blk_cell CK.out.t rfl; clear hb hs4)
    | (go_at_call 22; refine (HRo.out _ _ _ S4.out CK.out.d).mono ?_; rintro e w5 ⟨rfl, hb⟩; replace CK := Lib.hid (CK.out.step hb); have S5 := Lib.hid ((S4.out.below hb).more hb.size); clear hb kt))
  replace CK := Lib.hid (CK.out.step (Below.refl _ _).drew)
  have S6 := Lib.hid (show Strs w5.drew w5.drew.heap.size p n (hs l) from S5.out)
  clear HH HRo S5 S4
  have F1 : Hid True := Lib.hid trivial
  have HT1 := Lib.hid (fun W => told x W)
  have HT2 := Lib.hid (fun W => told xo W)
  rw [HXO.out, ← he] at HT2
  dsimp only [Raw.cells] at HT1 HT2
  generalize toldP (pf x) = s1 at *
  have hee : (s1 == s1) = true := by simp
  have hS0 := CK.out.cells
  have C0 := Lib.hid CK.out
  go_region_held3 (fun W => W.cell? ⟨w.heap.size, 0, none⟩ = some (fv 21) ∧ W.cell? ⟨w.heap.size, 1, none⟩ = some (fv 22) ∧ W.cell? ⟨w.heap.size, 2, none⟩ = some (fv 23) ∧ W.cell? ⟨w.heap.size, 3, none⟩ = some (fv 24) ∧ W.cell? ⟨w.heap.size, 4, none⟩ = some (fv 25) ∧ W.cell? ⟨w.heap.size + 1, 0, none⟩ = some (.bool x.f) ∧ W.cell? ⟨w.heap.size + 1, 1, none⟩ = some (.int .i64 x.at_) ∧ W.cell? ⟨w.heap.size + 1, 2, none⟩ = some (.int .i64 x.here.1) ∧ W.cell? ⟨w.heap.size + 1, 3, none⟩ = some (st x.here.2) ∧ W.cell? ⟨w.heap.size + 1, 4, none⟩ = some (.int .i64 x.ahead.1) ∧ W.cell? ⟨w.heap.size + 1, 5, none⟩ = some (st x.ahead.2) ∧ W.cell? ⟨w.heap.size + 1, 6, none⟩ = some (.slice x.ua x.up.length x.uc) ∧ W.cell? ⟨w.heap.size + 1, 7, none⟩ = some (.slice x.la x.left.length x.lc) ∧ W.cell? ⟨O, 0, none⟩ = some (.bool xo.f) ∧ W.cell? ⟨O, 1, none⟩ = some (.int .i64 xo.at_) ∧ W.cell? ⟨O, 2, none⟩ = some (.int .i64 xo.here.1) ∧ W.cell? ⟨O, 3, none⟩ = some (st xo.here.2) ∧ W.cell? ⟨O, 4, none⟩ = some (.int .i64 xo.ahead.1) ∧ W.cell? ⟨O, 5, none⟩ = some (st xo.ahead.2) ∧ W.cell? ⟨O, 6, none⟩ = some (.slice xo.ua xo.up.length xo.uc) ∧ W.cell? ⟨O, 7, none⟩ = some (.slice xo.la xo.left.length xo.lc))
    (first | exact hS0 | exact hS1 | exact hS2 | exact hS3)
    (first
      | (go_at_call 33; refine (HPv.out _ CK.out.d).mono ?_; rintro e w7 ⟨rfl, hb⟩; have C7 := Lib.hid (CK.out.step hb); have D7 := Lib.hid hb; have hS1 := C7.out.cells; clear hb)
      | (clear F1; go_at_call 34; refine (HT1.out _).mono ?_; rintro e w8 ⟨rfl, hb⟩; have C8 := Lib.hid (C7.out.step hb); have D8 := Lib.hid (D7.out.trans (hb.mono D7.out.size)); have hS2 := C8.out.cells; clear hb)
      | (go_at_call 34; refine (HT2.out _).mono ?_; rintro e w9 ⟨rfl, hb⟩; have C9 := Lib.hid (C8.out.step hb); have D9 := Lib.hid (D8.out.trans (hb.mono D8.out.size)); have hS3 := C9.out.cells; clear hb))
  go_wp2
  go_ret3
  exact ⟨rfl, C9.out.d⟩
set_option maxRecDepth 100000 in
set_option maxHeartbeats 4000000 in
theorem found (a : Option Addr) (n c : Nat) (l : List Lf) (b : Int) (x : Raw) (w : World) (h : Lvs w a n l) (hn : n ≤ 100000) (hx : Okay w x) (hr : Rds w) (hc : canB l b = true) (hp : provesB (rt l) (n : Int) b (pf x) = true) (he : ¬ toldP (pf x) = toldP (prove l b)) (hel : elseB l b (pf x) = true) : Calls Tryd.prog 17 #[.agg tc, .slice a n c, .int .i64 b, .agg x.cells] w (Pair w) := by
  obtain ⟨W1, hW1⟩ : ∃ W1, W1 = (w.alloc (.cells tc 50)).alloc (.cells x.cells 29) := ⟨_, rfl⟩
  have TP := Lib.hid (show PrgW.Tp w x W1 by rw [hW1]; exact PrgW.tp_new w x)
  obtain ⟨hri, hbi⟩ := can_in hc
  have hln := h.1
  have HPr := Lib.hid (fun W (hb : Below w.heap.size w W) => prove_ok a n c l b W ⟨h.1, h.2.1, h.2.2.1, h.2.2.2.step hb⟩ hn (hr.step hb) hri hbi)
  have HH := Lib.hid (fun W (hb : Below w.heap.size w W) => PrgH.hashes_yes a n c l W ⟨h.1, h.2.1, h.2.2.1, h.2.2.2.step hb⟩ hn (hr.step hb) hri)
  have HRo := Lib.hid (fun p c' W (hs' : Strs W W.heap.size p n (hs l)) (hb : Below w.heap.size w W) => MerR.Root p n c' (hs l) W hs' hn (PrgR.hs_le l) (hr.step hb))
  unfold MerR.rootR at HRo
  rw [hs_32] at HRo
  simp only [if_true] at HRo
  rw [show MerN.root nd (sum []) (hs l) = rt l from rfl] at HRo
  have HPv := Lib.hid (fun W (hb : Below w.heap.size w W) => proves (rt l) (n : Int) b x W (by omega) (hx.step hb) (hr.step hb))
  have hfs := (found_seat hel).2.1
  rw [hln] at hfs
  have HMs : Hid (∀ i, i < (seatsR (n : Int) x).length → leadsS (rt l) (n : Int) ((seatsR (n : Int) x).getD i noM).s = true) := Lib.hid fun i hi => by
    have e : (seatsR (n : Int) x).getD i noM = (seatsR (n : Int) x)[i] := by simp [List.getD, hi]
    rw [e]
    exact hfs _ (List.getElem_mem hi)
  clear hfs
  have HEx : Hid (∃ i, i < (seatsR (n : Int) x).length ∧ named l ((seatsR (n : Int) x).getD i noM).s.at_ ((seatsR (n : Int) x).getD i noM).s.leaf ((seatsR (n : Int) x).getD i noM).s.path = true) := Lib.hid (by
    obtain ⟨m, hm, hnm⟩ := (found_seat hel).2.2
    rw [hln] at hm
    obtain ⟨i, hi, rfl⟩ := List.getElem_of_mem hm
    exact ⟨i, hi, by simpa [List.getD, hi] using hnm⟩)
  have HNm : Hid (∀ i, i < (seatsR (n : Int) x).length → named l ((seatsR (n : Int) x).getD i noM).s.at_ ((seatsR (n : Int) x).getD i noM).s.leaf ((seatsR (n : Int) x).getD i noM).s.path = !decide (((seatsR (n : Int) x).getD i noM).s.leaf = l.getD ((seatsR (n : Int) x).getD i noM).s.at_.toNat no)) := Lib.hid fun i hi => is_named hri (by rw [hln]; exact HMs.out i hi)
  have HAt : Hid (∀ i, i < (seatsR (n : Int) x).length → 0 ≤ ((seatsR (n : Int) x).getD i noM).s.at_ ∧ ((seatsR (n : Int) x).getD i noM).s.at_ < (n : Int)) := Lib.hid fun i hi => leads_lt (HMs.out i hi)
  have HAp := Lib.hid (fun p c' i W (hi : i < (seatsR (n : Int) x).length) (hnm : named l ((seatsR (n : Int) x).getD i noM).s.at_ ((seatsR (n : Int) x).getD i noM).s.leaf ((seatsR (n : Int) x).getD i noM).s.path = true) (hb : Below w.heap.size w W) (hh : Strs W W.heap.size p n (hs l)) =>
    have ho := hx.step hb
    have hlt : ((seatsR (n : Int) x).getD i noM).s.at_.toNat < l.length := by have := HAt.out i hi; omega
    have hfo : Fit (l.getD ((seatsR (n : Int) x).getD i noM).s.at_.toNat no) := h.2.2.1 _ (by rw [at_d _ hlt]; exact List.getElem_mem hlt)
    show Calls Tryd.prog 36 #[.agg tc, .slice p n c', .agg (sa ((seatsR (n : Int) x).getD i noM)), .agg #[.int .i64 (l.getD ((seatsR (n : Int) x).getD i noM).s.at_.toNat no).1, st (l.getD ((seatsR (n : Int) x).getD i noM).s.at_.toNat no).2]] W (Pair W) from by
      rcases seat_is hi with ⟨h1, h2, h3⟩ | ⟨h1, h2, h3⟩
      · exact apart l p n c' _ W hln hn hh (by rw [h1]; exact ho.h) hfo (by rw [h2, h3]; exact ho.u) (by rw [h2]; exact ho.un) (by rw [h2]; exact ho.ul) (hr.step hb) hnm
      · exact apart l p n c' _ W hln hn hh (by rw [h1]; exact ho.a) hfo (by rw [h2, h3]; exact ho.l) (by rw [h2]; exact ho.ln) (by rw [h2]; exact ho.ll) (hr.step hb) hnm)
  have HSe := Lib.hid (fun W => seats (n : Int) x W hx.at_)
  have HL := Lib.hid (fun W (hb : Below w.heap.size w W) => h.2.2.2.step hb)
  have hfw := seats_few (n : Int) x
  rw [hp] at HPv
  generalize seatsR (n : Int) x = sl at *
  clear h hx hr hc hri hbi hp hel HMs
  generalize rt l = r at *
  dsimp only [trc, Raw.cells] at HPv
  go_enter Tryd.func17, Tryd.ntmps17
  go_upto_region 1 with (fail)
  rw [← hW1]
  clear hW1
  go_upto_region 2 with (first
    | (refine wpList_load_row rfl 50 _ rfl w.heap.size rfl 50 _ (0, 0) _ TP.out.t Tryd.underlying50 rfl infoT ?_)
    | (go_at_call 15; refine (HPr.out _ TP.out.d).mono ?_; rintro e w2 ⟨xo, rfl, hxo, _, _, hb⟩; replace TP := Lib.hid (TP.out.step hb); have HXO := Lib.hid hxo; clear hb hxo)
    | (refine wpList_store_row rfl 29 _ _ rfl w2.heap.size xo.cells rfl rfl 29 _ (heap_alloc_new w2 _) infoP rfl (oneP _) ?_))
  generalize hW : World.setRow _ _ _ = W3
  have b3 : Below w2.heap.size w2 W3 := by rw [← hW]; exact kept_new w2 _ _ _
  have g3 : W3.heap[w2.heap.size]? = some (.cells xo.cells 29 (0, 0)) := by rw [← hW]; exact has_new w2 _ _ _
  have CK := Lib.hid (Ck.mk (w := w) (x := x) (xo := xo) (O := w2.heap.size) (W := W3) (TP.out.step b3).d (TP.out.step b3).t (TP.out.step b3).p g3)
  clear hW b3 g3 TP HPr
  generalize w2.heap.size = O at *
  go_upto_region 6 with (first
    | (refine wpList_load_row rfl 50 _ rfl w.heap.size rfl 50 _ (0, 0) _ CK.out.t Tryd.underlying50 rfl infoT ?_)
    | (go_at_call 26; refine (HH.out _ CK.out.d).mono ?_; rintro e w4 ⟨p, c', rfl, hs4, hb⟩; replace CK := Lib.hid (CK.out.step hb); have S4 := Lib.hid hs4; have kt : w4.cell? ⟨w.heap.size, 1, none⟩ = some (fv 22) := blk_cell CK.out.t rfl; clear hb hs4)
    | (go_at_call 22; refine (HRo.out _ _ _ S4.out CK.out.d).mono ?_; rintro e w5 ⟨rfl, hb⟩; replace CK := Lib.hid (CK.out.step hb); have S5 := Lib.hid ((S4.out.below hb).more hb.size); clear hb kt))
  replace CK := Lib.hid (CK.out.step (Below.refl _ _).drew)
  have S6 := Lib.hid (show Strs w5.drew w5.drew.heap.size p n (hs l) from S5.out)
  clear HH HRo S5 S4
  have F1 : Hid True := Lib.hid trivial
  have HT1 := Lib.hid (fun W => told x W)
  have HT2 := Lib.hid (fun W => told xo W)
  rw [HXO.out] at HT2
  dsimp only [Raw.cells] at HT1 HT2
  generalize toldP (pf x) = s1 at *
  generalize toldP (prove l b) = s2 at *
  have hee : (s1 == s2) = false := by rw [beq_eq_false_iff_ne]; exact he
  have hS0 := CK.out.cells
  have C0 := Lib.hid CK.out
  go_region_held3 (fun W => W.cell? ⟨w.heap.size, 0, none⟩ = some (fv 21) ∧ W.cell? ⟨w.heap.size, 1, none⟩ = some (fv 22) ∧ W.cell? ⟨w.heap.size, 2, none⟩ = some (fv 23) ∧ W.cell? ⟨w.heap.size, 3, none⟩ = some (fv 24) ∧ W.cell? ⟨w.heap.size, 4, none⟩ = some (fv 25) ∧ W.cell? ⟨w.heap.size + 1, 0, none⟩ = some (.bool x.f) ∧ W.cell? ⟨w.heap.size + 1, 1, none⟩ = some (.int .i64 x.at_) ∧ W.cell? ⟨w.heap.size + 1, 2, none⟩ = some (.int .i64 x.here.1) ∧ W.cell? ⟨w.heap.size + 1, 3, none⟩ = some (st x.here.2) ∧ W.cell? ⟨w.heap.size + 1, 4, none⟩ = some (.int .i64 x.ahead.1) ∧ W.cell? ⟨w.heap.size + 1, 5, none⟩ = some (st x.ahead.2) ∧ W.cell? ⟨w.heap.size + 1, 6, none⟩ = some (.slice x.ua x.up.length x.uc) ∧ W.cell? ⟨w.heap.size + 1, 7, none⟩ = some (.slice x.la x.left.length x.lc) ∧ W.cell? ⟨O, 0, none⟩ = some (.bool xo.f) ∧ W.cell? ⟨O, 1, none⟩ = some (.int .i64 xo.at_) ∧ W.cell? ⟨O, 2, none⟩ = some (.int .i64 xo.here.1) ∧ W.cell? ⟨O, 3, none⟩ = some (st xo.here.2) ∧ W.cell? ⟨O, 4, none⟩ = some (.int .i64 xo.ahead.1) ∧ W.cell? ⟨O, 5, none⟩ = some (st xo.ahead.2) ∧ W.cell? ⟨O, 6, none⟩ = some (.slice xo.ua xo.up.length xo.uc) ∧ W.cell? ⟨O, 7, none⟩ = some (.slice xo.la xo.left.length xo.lc))
    (first | exact hS0 | exact hS1 | exact hS2 | exact hS3)
    (first
      | (go_at_call 33; refine (HPv.out _ CK.out.d).mono ?_; rintro e w7 ⟨rfl, hb⟩; have C7 := Lib.hid (CK.out.step hb); have D7 := Lib.hid hb; have hS1 := C7.out.cells; clear hb)
      | (clear F1; go_at_call 34; refine (HT1.out _).mono ?_; rintro e w8 ⟨rfl, hb⟩; have C8 := Lib.hid (C7.out.step hb); have D8 := Lib.hid (D7.out.trans (hb.mono D7.out.size)); have hS2 := C8.out.cells; clear hb)
      | (go_at_call 34; refine (HT2.out _).mono ?_; rintro e w9 ⟨rfl, hb⟩; have C9 := Lib.hid (C8.out.step hb); have D9 := Lib.hid (D8.out.trans (hb.mono D8.out.size)); have hS3 := C9.out.cells; clear hb))
  have S9 := Lib.hid ((S6.out.below D9.out).more D9.out.size)
  clear hS0 hS1 hS2 hS3 C0 C7 C8 D7 D8 D9 S6 HT1 HT2 HPv CK
  go_upto_region 8 with (fail)
  go_wp2_with (first
    | (refine wpList_load_row rfl 29 _ rfl (w.heap.size + 1) rfl 29 _ (0, 0) _ C9.out.p Tryd.underlying29 rfl infoP ?_)
    | (go_at_call 35; refine (HSe.out _).mono ?_; rintro e w10 ⟨ps, cs, rfl, ho, hb⟩; have CX := Lib.hid (C9.out.step hb); have SX := Lib.hid ((S9.out.below hb).more hb.size); have SS := Lib.hid (own_seats ho); clear ho hb))
  clear S9 C9
  go_loopw [62] (fun kv wr => ∃ j : Nat, j ≤ sl.length ∧ kv = .int .i64 j ∧ (∀ i, i < j → (sl.getD i noM).s.leaf = l.getD (sl.getD i noM).s.at_.toNat no) ∧ Below w10.heap.size w10 wr) (fun kv _ => sl.length - (intOf kv).toNat)
  case atStart => exact ⟨0, Nat.zero_le _, rfl, (fun i hi => absurd hi (by omega)), Below.refl _ _⟩
  case round =>
    obtain ⟨j, hj, rfl, hsf, hb⟩ := hrel
    have HSf := Lib.hid hsf
    have HB := Lib.hid hb
    clear hsf hb
    by_cases hlt : j < sl.length
    · obtain ⟨g, o, rfl, hg, c0, c1, c2, c3, c4⟩ := ((SS.out.below HB.out).more HB.out.size).at_ (i := j) hlt
      obtain ⟨k, hk⟩ : ∃ k : Nat, (sl.getD j noM).s.at_ = (k : Int) := ⟨(sl.getD j noM).s.at_.toNat, by have := HAt.out j hlt; omega⟩
      have hkn : k < n := by have := HAt.out j hlt; omega
      have HNj := HNm.out j hlt
      have HApj := Lib.hid (fun p c' W => HAp.out p c' j W hlt)
      have HSn : Hid ((sl.getD j noM).s.leaf = l.getD (sl.getD j noM).s.at_.toNat no → ∀ i, i < j + 1 → (sl.getD i noM).s.leaf = l.getD (sl.getD i noM).s.at_.toNat no) := Lib.hid fun h1 i hi => by
        by_cases e : i = j
        · rw [e]; exact h1
        · exact HSf.out i (by omega)
      rw [hk, Int.toNat_natCast] at HSn HNj HApj
      obtain ⟨lg, lo, rfl, hlg, hlc⟩ := (HL.out _ (CX.out.d.trans (HB.out.mono CX.out.d.size))) (by omega)
      obtain ⟨l0, l1⟩ := hlc k (by omega)
      generalize l.getD k no = y at *
      generalize sl.getD j noM = m at *
      have q0 : (0 : Int) ≤ (k : Int) := by omega
      have q1 : (k : Int) < (n : Int) := by omega
      have q2 : (0 : Int) ≤ (j : Int) := by omega
      have q3 : (j : Int) < (sl.length : Int) := by omega
      have CW := Lib.hid (CX.out.step HB.out)
      have SW := Lib.hid ((SX.out.below HB.out).more HB.out.size)
      obtain ⟨⟨s0, s1, ⟨s2, s3⟩, s4⟩, ma, mc⟩ := m
      obtain ⟨y0, y1⟩ := y
      dsimp only at hk HSn HNj HApj c0 c1 c2 c3 c4 l0 l1
      subst hk
      clear hlc hg hlg
      go_upto_region 11 with (refine wpList_store_row rfl 72 _ _ rfl wr.heap.size (sa ⟨⟨(k : Int), s1, (s2, s3), s4⟩, ma, mc⟩) rfl rfl 72 _ (heap_alloc_new wr _) infoS rfl (oneS _) ?_)
      generalize hW : World.setRow _ _ _ = W11
      have b11 : Below wr.heap.size wr W11 := by rw [← hW]; exact kept_new wr _ _ _
      have g11 : W11.heap[wr.heap.size]? = some (.cells (sa ⟨⟨(k : Int), s1, (s2, s3), s4⟩, ma, mc⟩) 72 (0, 0)) := by rw [← hW]; exact has_new wr _ _ _
      clear hW
      have B11 := Lib.hid (HB.out.trans (b11.mono HB.out.size))
      have CV := Lib.hid (CW.out.step b11)
      have SV := Lib.hid ((SW.out.below b11).more b11.size)
      have k0 : W11.cell? ⟨wr.heap.size, 0, none⟩ = some (.int .i64 (k : Int)) := blk_cell g11 rfl
      have k1 : W11.cell? ⟨wr.heap.size, 1, none⟩ = some (.int .i64 s1) := blk_cell g11 rfl
      have k2 : W11.cell? ⟨wr.heap.size, 2, none⟩ = some (.int .i64 s2) := blk_cell g11 rfl
      have k3 : W11.cell? ⟨wr.heap.size, 3, none⟩ = some (st s3) := blk_cell g11 rfl
      have k4 : W11.cell? ⟨wr.heap.size, 4, none⟩ = some (.slice ma s4.length mc) := blk_cell g11 rfl
      have m0 := (b11.cell (p := ⟨lg, lo + k * 2, none⟩) (World.block_lt_of_cell? _ _ l0)).trans l0
      have m1 := (b11.cell (p := ⟨lg, lo + k * 2 + 1, none⟩) (World.block_lt_of_cell? _ _ l1)).trans l1
      clear c0 c1 c2 c3 c4 l0 l1 g11 b11 CW SW
      have HQ := run_neq_leaf
      by_cases hq : ((s2, s3) : Lf) = (y0, y1)
      · have HQ2 := fun W => run_neq_leaf W s2 y0 s3 y1 true (decide_eq_true hq)
        have HS2 := Lib.hid (HSn.out hq)
        clear HQ HSn HNj HApj hq
        go_quiet (fail)
        go_wp2_with fail
        go_roundw
        case rel => exact ⟨j + 1, by omega, by go_num, HS2.out, drawn B11.out _⟩
        case measure => simp [intOf]; omega
      · have HQ2 := fun W => run_neq_leaf W s2 y0 s3 y1 false (decide_eq_false hq)
        have HA2 := Lib.hid (fun p c' W => HApj.out p c' W (by rw [HNj, decide_eq_false hq]; rfl))
        have HSt : Hid (∀ W, Below W11.heap.size W11 W → W.cell? ⟨w.heap.size, 0, none⟩ = some (fv 21) ∧ W.cell? ⟨w.heap.size, 1, none⟩ = some (fv 22) ∧ W.cell? ⟨w.heap.size, 2, none⟩ = some (fv 23) ∧ W.cell? ⟨w.heap.size, 3, none⟩ = some (fv 24) ∧ W.cell? ⟨w.heap.size, 4, none⟩ = some (fv 25) ∧ W.cell? ⟨wr.heap.size, 0, none⟩ = some (.int .i64 (k : Int)) ∧ W.cell? ⟨wr.heap.size, 1, none⟩ = some (.int .i64 s1) ∧ W.cell? ⟨wr.heap.size, 2, none⟩ = some (.int .i64 s2) ∧ W.cell? ⟨wr.heap.size, 3, none⟩ = some (st s3) ∧ W.cell? ⟨wr.heap.size, 4, none⟩ = some (.slice ma s4.length mc) ∧ W.cell? ⟨lg, lo + k * 2, none⟩ = some (.int .i64 y0) ∧ W.cell? ⟨lg, lo + k * 2 + 1, none⟩ = some (st y1)) := Lib.hid fun W hb =>
          ⟨blk_cell (CV.out.step hb).t rfl, blk_cell (CV.out.step hb).t rfl, blk_cell (CV.out.step hb).t rfl, blk_cell (CV.out.step hb).t rfl, blk_cell (CV.out.step hb).t rfl, (hb.cell (p := ⟨wr.heap.size, 0, none⟩) (World.block_lt_of_cell? _ _ k0)).trans k0, (hb.cell (p := ⟨wr.heap.size, 1, none⟩) (World.block_lt_of_cell? _ _ k1)).trans k1, (hb.cell (p := ⟨wr.heap.size, 2, none⟩) (World.block_lt_of_cell? _ _ k2)).trans k2, (hb.cell (p := ⟨wr.heap.size, 3, none⟩) (World.block_lt_of_cell? _ _ k3)).trans k3, (hb.cell (p := ⟨wr.heap.size, 4, none⟩) (World.block_lt_of_cell? _ _ k4)).trans k4, (hb.cell (p := ⟨lg, lo + k * 2, none⟩) (World.block_lt_of_cell? _ _ m0)).trans m0, (hb.cell (p := ⟨lg, lo + k * 2 + 1, none⟩) (World.block_lt_of_cell? _ _ m1)).trans m1⟩
        have HD := Lib.hid (fun (d : Nat) => (drawn (Below.refl W11.heap.size W11) d).drew)
        have HAp3 := Lib.hid (fun p c' W (hb : Below W11.heap.size W11 W) (hh : Strs W W.heap.size p n (hs l)) => HA2.out p c' W ((CV.out.step hb).d) hh)
        dsimp only [tc, sa] at HAp3
        clear HQ HSn HNj HApj hq HA2
        go_quiet (fail)
        go_upto_region 12 with (fail)
        have hS0 := fun d => HSt.out _ (HD.out d)
        clear k0 k1 k2 k3 k4 m0 m1
        go_region_held3 (fun W => W.cell? ⟨w.heap.size, 0, none⟩ = some (fv 21) ∧ W.cell? ⟨w.heap.size, 1, none⟩ = some (fv 22) ∧ W.cell? ⟨w.heap.size, 2, none⟩ = some (fv 23) ∧ W.cell? ⟨w.heap.size, 3, none⟩ = some (fv 24) ∧ W.cell? ⟨w.heap.size, 4, none⟩ = some (fv 25) ∧ W.cell? ⟨wr.heap.size, 0, none⟩ = some (.int .i64 (k : Int)) ∧ W.cell? ⟨wr.heap.size, 1, none⟩ = some (.int .i64 s1) ∧ W.cell? ⟨wr.heap.size, 2, none⟩ = some (.int .i64 s2) ∧ W.cell? ⟨wr.heap.size, 3, none⟩ = some (st s3) ∧ W.cell? ⟨wr.heap.size, 4, none⟩ = some (.slice ma s4.length mc) ∧ W.cell? ⟨lg, lo + k * 2, none⟩ = some (.int .i64 y0) ∧ W.cell? ⟨lg, lo + k * 2 + 1, none⟩ = some (st y1))
          (first | exact hS0 _ | exact hS1)
          (first
            | (go_at_call 36; refine (HAp3.out _ _ _ (HD.out _) (((SV.out.below (HD.out _)).more (HD.out _).size))).mono ?_; rintro e w13 ⟨u, v, rfl, hu, hb⟩; have HU := Lib.hid hu; have B13 := Lib.hid ((HD.out _).trans (hb.mono (HD.out _).size)); have hS1 := HSt.out _ B13.out; clear hb hu))
        go_wp2
        go_ret3
        exact ⟨u, v, rfl, HU.out, (CV.out.step B13.out).d⟩
    · obtain rfl : j = sl.length := by omega
      exfalso
      obtain ⟨i, hi, hnm⟩ := HEx.out
      have := HNm.out i hi
      rw [hnm, decide_eq_true (HSf.out i hi)] at this
      simp at this
end Go.Proofs.YtcadfpaihfaabaaDoor.PrgY
