/- JouPr JouPl JouPm JouWm: one behind the other. -/
import Derived.Test.YtoilcieineejiaaGreatDoorLJop
import Derived.Test.YtoilcieineejiaaGreatDoorLDkr
import Derived.OwnWalk
import Derived.Maps.AppendAt
import Derived.Laws.AppendOwnNone
import Derived.Test.YtoilcieineejiaaGreatDoorJouSt
import Derived.Test.YtoilcieineejiaaGreatDoorLJot
import Derived.Test.YtoilcieineejiaaGreatDoorDkE
/- Appends to rows of texts, whatever row is appended. Over the program; no conditions but those that each lemma names. -/
namespace Go.Proofs.YtoilcieineejiaaGreatDoor.JouPr
set_option linter.unusedVariables false
open Go.RowKit Go.Shelf
open DkN DkM JouRo
/-- An append in a region that draws no order, by what its run is known to give. -/
theorem list_run {P : Program} {w : World} {ops : Array Oper} {rest : List Oper} {o : Oper} {a : Act} {Q : Exit → Act → World → Prop} (hgd : o.guard = none) (s x : Operand) (t : TypeId)
    (ho : o.op = .call { callee := .builtin .append, args := #[s, x], argTypes := #[t, t] }) (v : Value) (w' : World) (hr : (Builtin.append_ #[t, t] o.type #[a.eval s, a.eval x]).run P w = .ok v w') (h : wpList P ops Q rest (a.put o.dst v) w') : wpList P ops Q (o :: rest) a w := by
  refine wpList_plain hgd fun K hK => ?_
  unfold Oper.wp execOp
  simp only [ho, resolve, invoke, builtin, Sem.run_bind, Sem.run_pure, Result.andThen_ok, List.map_toArray, List.map_cons, List.map_nil, hr]
  exact hK _ _ h
theorem run_all (W : World) (base : Nat) (hb : base ≤ W.heap.size) (v : Value) (n : Nat) (xs : List Value) (hown : W.ownsRow base 9 1 v n xs) (a : Option Addr) (c : Nat) (all : List ByteArray) (hn : a = none → all = [] ∧ c = 0) (hr : StrRow W a all) (hlen : n + all.length ≤ 100000) :
    ∃ v' W', (Builtin.append_ #[34, 34] 34 #[v, .slice a all.length c]).run Tryz.prog W = .ok v' W' ∧ W'.ownsRow base 9 1 v' (n + all.length) (xs ++ all.map Value.string) ∧ W.grownBy W' v.ownBlock ∧ (v'.ownBlock = v.ownBlock ∨ v'.ownBlock = some W.heap.size) := by
  obtain ⟨i0, hi, hz0, hz1, hz2⟩ := info_parts DkR.info9
  cases a with
  | none =>
    obtain ⟨rfl, rfl⟩ := hn rfl
    have hrun := run_append_owned_none (P := Tryz.prog) (w := W) base 34 34 9 i0 1 Tryz.underlying34 hi v n xs hown
    refine ⟨v, W, hrun, by simpa using hown, ⟨rfl, rfl, rfl, Nat.le_refl _, fun _ _ _ => rfl⟩, .inl rfl⟩
  | some ad =>
    obtain ⟨v', W', h2, h3, h4, _, h5⟩ := run_append_own_at (P := Tryz.prog) (w := W) base 34 34 9 i0 _ 1 16 Tryz.underlying34 hi hz0 hz1 hz2 rfl (by decide) v n xs hown ad all.length c (all.map Value.string) (by simp) (fun j u hu => by
      rw [List.getElem?_map] at hu
      by_cases hj : j < all.length
      · obtain ⟨g, o, e, _, hc⟩ := hr (by omega)
        cases e
        rw [add_off]
        rw [List.getElem?_eq_getElem hj] at hu
        cases hu
        exact hc j hj
      · rw [List.getElem?_eq_none (by omega)] at hu
        cases hu) (fun u hu => by
      obtain ⟨x, _, rfl⟩ := List.mem_map.1 hu
      rfl) (by unfold maxLen; omega) (by omega) hb
    exact ⟨v', W', h2, h3, h4, h5⟩
end Go.Proofs.YtoilcieineejiaaGreatDoor.JouPr
/- A step of a script, told to a journal: the walk of its text. No conditions but those that each lemma names. -/
namespace Go.Proofs.YtoilcieineejiaaGreatDoor.JouPl
set_option linter.unusedVariables false
open Go.RowKit Go.Shelf
open DkN DkM JouN JouP JouQ JouR JouS JouT JouC JouW JouU JouG JouA JouAl JouWi JouWj JouRo JouSa
open SupP (Gl)
open DkA (Solo)
open JouPr (list_run run_all)
open JouPq
theorem own_none (W : World) : (W.alloc (Obj.cells #[] 9)).ownsRow W.heap.size 9 1 (.slice (some ⟨W.heap.size, 0, none⟩) 0 0) 0 [] :=
  ⟨rfl, .inr ⟨_, 0, #[], rfl, Nat.le_refl _, heap_alloc_new _ _, Nat.le_refl _, Nat.zero_le _, rfl, rfl⟩⟩
theorem one_row (W : World) (x : ByteArray) : StrRow (W.alloc (Obj.cells #[.string x] 9)) (some ⟨W.heap.size, 0, none⟩) [x] := fun _ =>
  ⟨_, 0, rfl, by simp, fun k hk => by
    obtain rfl : k = 0 := by simpa using hk
    exact blk_cell (heap_alloc_new W _) rfl⟩
theorem infoT : (Tryz.prog.info? 39).map (·.size) = some 3 := by kernel_rfl
theorem one3 (a : Option Addr) (n c : Nat) (e k : Int) : (#[.slice a n c, .int .i64 e, .int .i64 k] : Array Value).all (·.oneCell') = true := by simp [Value.oneCell']
/-- The boxes of a telling: the state, the step, the answer. -/
structure Bx (w W : World) (t : Tv) (s : JouSt.RawSt) : Prop where
  b0 : W.heap[w.heap.size]? = some (.cells t.cells 39 (0, 0))
  b1 : W.heap[w.heap.size + 1]? = some (.cells s.cells 41 (0, 0))
  b2 : W.heap[w.heap.size + 1 + 1]? = some (.cells #[.slice none 0 0, .int .i64 0, .int .i64 0] 39 (0, 0))
theorem Bx.step {w W W' : World} {t : Tv} {s : JouSt.RawSt} (h : Bx w W t s) (hb : Below W.heap.size W W') : Bx w W' t s :=
  ⟨(hb.block _ (lt_of_some h.b0)).trans h.b0, (hb.block _ (lt_of_some h.b1)).trans h.b1, (hb.block _ (lt_of_some h.b2)).trans h.b2⟩
theorem Bx.went {w W W' : World} {t : Tv} {s : JouSt.RawSt} {base J P S b : Nat} {bv cv : Value} {D D' : Dk} {j j' : Jo} (h : Bx w W t s) (hj : Jm base J P S b bv cv D j W) (hw : Went base J P S b bv cv D' j' W W') : Bx w W' t s :=
  ⟨oth_went hj hw oth_state h.b0, oth_went hj hw oth_step h.b1, oth_went hj hw oth_state h.b2⟩
/-- What a telling leaves. -/
def Told (base J P S b : Nat) (bv cv : Value) (w : World) (r : Re) (l : List B) (ep ck : Int) (more : List B) (e : Ending) (w' : World) : Prop :=
  ∃ (t : Tv) (a : Option Addr) (c : Nat), e = .returned (.tuple #[.agg t.cells, .slice a more.length c, .int .i64 (r.e : Nat)]) ∧ t.l = l ∧ t.ep = ep ∧ t.ck = ck ∧ Went base J P S b bv cv r.D r.j w w' ∧ RowS w' bv t.a t.l ∧ RowS w' bv a more ∧ (a = none → more = [] ∧ c = 0)
theorem row_some {W : World} {bv : Value} {a : Option Addr} {l : List ByteArray} {c : Nat} (h : RowS W bv a l) (h0 : 0 < l.length) (e : a = none) : l = [] ∧ c = 0 := by
  obtain ⟨g, o, cur, e', _⟩ := h h0
  rw [e] at e'
  cases e'
section
variable {base J P S b : Nat} {bv cv : Value} {D : Dk} {j : Jo} {w : World}
set_option maxRecDepth 100000 in
set_option maxHeartbeats 4000000 in
theorem play_close (h : Jm base J P S b bv cv D j w) (t : Tv) (a : Option Addr) (c : Nat) (all : List B) (s : JouSt.RawSt) (hk : s.kind = 3) (ht : RowS w bv t.a t.l) (ha : RowS w bv a all) (hn : a = none → all = [] ∧ c = 0) (hlen : all.length ≤ 2000) (hep : 0 ≤ t.ep ∧ t.ep ≤ 5000000000) (hbw : base ≤ w.heap.size) :
    Calls Tryz.prog 12 #[.pointer (some ⟨J, 0, none⟩), .agg t.cells, .slice a all.length c, .agg s.cells] w (Told base J P S b bv cv w (closeJ D j (full4 s.text) key0 s.n) (all ++ [full4 s.text]) (t.ep + 1) s.n (all ++ [full4 s.text])) := by
  obtain ⟨W1, hW1⟩ : ∃ W1, W1 = ((w.alloc (.cells t.cells 39)).alloc (.cells s.cells 41)).alloc (.cells #[.slice none 0 0, .int .i64 0, .int .i64 0] 39) := ⟨_, rfl⟩
  obtain ⟨q0, q1, q2, hb1⟩ := JouW.three w (.cells t.cells 39) (.cells s.cells 41) (.cells #[.slice none 0 0, .int .i64 0, .int .i64 0] 39)
  rw [← hW1] at q0 q1 q2 hb1
  have X1 : Hid (Bx w W1 t s) := Lib.hid ⟨q0, q1, q2⟩
  have B1 := Lib.hid hb1
  have H1 := Lib.hid (h.step hb1)
  have HFu := Lib.hid (fun W => DkA.Full4 s.text W)
  have HCl := Lib.hid (fun (W : World) (hj : Jm base J P S b bv cv D j W) => JouH.Close hj (full4 s.text) key0 s.n)
  rw [show key0.toArray = #[48, 49, 50, 51, 52, 53, 54, 55, 56, 57, 97, 98, 99, 100, 101, 102, 48, 49, 50, 51, 52, 53, 54, 55, 56, 57, 97, 98, 99, 100, 101, 102] from rfl] at HCl
  unfold Tells at HCl
  have HRa := Lib.hid ha
  have HNa := Lib.hid hn
  have HBv : Hid (∀ k, bv.ownBlock = some k → k < w.heap.size) := Lib.hid (fun k e => h.dk.foot_lt k (.inr (.inl e)))
  clear q0 q1 q2 hb1 h ha hn
  obtain ⟨kind, n, text⟩ := s
  obtain ⟨ta, tc, tl, ep, ck⟩ := t
  dsimp only at hk hep
  obtain ⟨he1, he2⟩ := hep
  subst hk
  simp only [Tv.cells, JouSt.RawSt.cells] at *
  generalize full4 text = tx at *
  have y0 := blk_cell (i := 0) (u := .int .i64 3) X1.out.b1 rfl
  have y1 := blk_cell (i := 1) (u := .int .i64 n) X1.out.b1 rfl
  have y2 := blk_cell (i := 2) (u := .string text) X1.out.b1 rfl
  go_enter Tryz.func12, Tryz.ntmps12
  go_upto_region 1 with (fail)
  rw [← hW1]
  clear hW1
  go_upto_region 2 with (go_at_call 22; refine (HFu.out _).mono ?_; rintro e w2 ⟨rfl, hb2⟩; have B2 := Lib.hid hb2; have X2 := Lib.hid (X1.out.step hb2); have H2 := Lib.hid (H1.out.step hb2); clear hb2)
  clear y0 y1 y2
  have y0 := blk_cell (i := 0) (u := .int .i64 3) X2.out.b1 rfl
  have y1 := blk_cell (i := 1) (u := .int .i64 n) X2.out.b1 rfl
  go_upto_region 11 with (fail)
  have R2 := Lib.hid (HRa.out.step (B1.out.trans (B2.out.mono B1.out.size)))
  have hs2 : w.heap.size ≤ w2.heap.size := Nat.le_trans B1.out.size B2.out.size
  go_upto_region 12 with (at_builtin; first
    | (obtain ⟨v5, w5, hr5, ho5, hg5, hat5⟩ := run_all (w3.alloc (Obj.cells #[.string tx] 9)) w2.heap.size (by have := B3.out.size; simp only [World.size_alloc]; omega) (.slice a3 all.length c3) all.length _ (JouU.own_below O3.out (below_new _ _)) (some ⟨w3.heap.size, 0, none⟩) 1 [tx] (fun e => by cases e) (one_row w3 tx) (by simp; omega); obtain ⟨a5, c5, e5⟩ := JouL.own_len ho5; subst e5; refine list_run rfl _ _ _ rfl _ w5 hr5 ?_; have B5 : Hid (Below w2.heap.size w2 w5) := Lib.hid ((B3.out.alloc B3.out.size _).grown hg5 (by have := B3.out.size; simp only [World.size_alloc]; omega) (fun k e => (O3.out.lt k e).1)); have O5 := Lib.hid ho5; clear hr5 ho5 hg5 hat5)
    | (obtain ⟨v3, w3, hr3, ho3, hg3, hat3⟩ := run_all (w2.alloc (Obj.cells #[] 9)) w2.heap.size (by simp) (.slice (some ⟨w2.heap.size, 0, none⟩) 0 0) 0 [] (own_none w2) a c all HNa.out (R2.out.step (below_new _ _)).strs (by omega); rw [Nat.zero_add, List.nil_append] at ho3; obtain ⟨a3, c3, e3⟩ := JouL.own_len ho3; subst e3; refine list_run rfl _ _ _ rfl _ w3 hr3 ?_; have B3 : Hid (Below w2.heap.size w2 w3) := Lib.hid ((below_new w2 _).grown hg3 (by simp) (fun k e => by cases e; exact Nat.le_refl _)); have O3 := Lib.hid ho3; clear hr3 ho3 hg3 hat3))
  have H5 := Lib.hid (H2.out.step (B5.out.mono (Nat.le_refl _)))
  have X5 := Lib.hid (X2.out.step B5.out)
  clear y0 y1
  have y1 := blk_cell (i := 1) (u := .int .i64 n) X5.out.b1 rfl
  generalize closeJ D j tx key0 n = r at *
  go_upto_region 13 with (go_at_call 21; refine (HCl.out _ H5.out).mono ?_; rintro e w6 ⟨rfl, hw6⟩; have G6 := Lib.hid hw6; have X6 := Lib.hid (X5.out.went H5.out hw6); have R6 := Lib.hid (RowS.went (rowS_own (l := all ++ [tx]) (fun k e => Nat.lt_of_lt_of_le (HBv.out k e) hs2) (by rw [List.map_append]; simpa using O5.out)) H5.out hw6); clear hw6)
  clear y1
  have y1 := blk_cell (i := 1) (u := .int .i64 n) X6.out.b1 rfl
  have z1 := blk_cell (i := 1) (u := .int .i64 ep) X6.out.b0 rfl
  go_wp2_with (refine wpList_store_row rfl 39 _ _ rfl (w.heap.size + 1 + 1) _ rfl rfl 39 _ X6.out.b2 infoT rfl (one3 _ _ _ _ _) ?_)
  have hbu := but_row (w.heap.size + 1 + 1) #[.slice a5 (all.length + 1) c5, .int .i64 (ep + 1), .int .i64 n] w6
  have hG := went_but (went_front (B1.out.trans ((B2.out.trans (B5.out.mono B2.out.size)).mono B1.out.size)) G6.out) X6.out.b2 oth_state (by decide) (by omega) (by omega) hbu
  have hR := row_but R6.out X6.out.b2 oth_state hbu
  refine bodyPost_ret (SupV.results_cell_two_row Tryz.results12 _ _ (w.heap.size + 1 + 1) 39 _ (0, 0) _ rfl (setRow_same X6.out.b2) Tryz.underlying39 rfl infoT) rfl ?_
  exact ⟨⟨a5, c5, all ++ [tx], ep + 1, n⟩, a5, c5, by simp [Tv.cells], rfl, rfl, rfl, hG, hR, hR, row_some hR (by simp)⟩
set_option maxRecDepth 100000 in
set_option maxHeartbeats 4000000 in
theorem play_commit (h : Jm base J P S b bv cv D j w) (t : Tv) (a : Option Addr) (c : Nat) (all : List B) (s : JouSt.RawSt) (hk : s.kind = 2) (ht : RowS w bv t.a t.l) (ha : RowS w bv a all) (hn : a = none → all = [] ∧ c = 0) (hlen : all.length ≤ 2000) (hep : 0 ≤ t.ep ∧ t.ep ≤ 5000000000) (hbw : base ≤ w.heap.size) :
    Calls Tryz.prog 12 #[.pointer (some ⟨J, 0, none⟩), .agg t.cells, .slice a all.length c, .agg s.cells] w (Told base J P S b bv cv w (commitJ D j s.n) all t.ep s.n all) := by
  obtain ⟨W1, hW1⟩ : ∃ W1, W1 = ((w.alloc (.cells t.cells 39)).alloc (.cells s.cells 41)).alloc (.cells #[.slice none 0 0, .int .i64 0, .int .i64 0] 39) := ⟨_, rfl⟩
  obtain ⟨q0, q1, q2, hb1⟩ := JouW.three w (.cells t.cells 39) (.cells s.cells 41) (.cells #[.slice none 0 0, .int .i64 0, .int .i64 0] 39)
  rw [← hW1] at q0 q1 q2 hb1
  have X1 : Hid (Bx w W1 t s) := Lib.hid ⟨q0, q1, q2⟩
  have B1 := Lib.hid hb1
  have H1 := Lib.hid (h.step hb1)
  have HFu := Lib.hid (fun W => DkA.Full4 s.text W)
  have HCl := Lib.hid (fun (W : World) (hj : Jm base J P S b bv cv D j W) => JouH.Commit hj s.n)
  unfold Says at HCl
  have HRa := Lib.hid ha
  have HNa := Lib.hid hn
  have HBv : Hid (∀ k, bv.ownBlock = some k → k < w.heap.size) := Lib.hid (fun k e => h.dk.foot_lt k (.inr (.inl e)))
  clear q0 q1 q2 hb1 h ha hn
  obtain ⟨kind, n, text⟩ := s
  obtain ⟨ta, tc, tl, ep, ck⟩ := t
  dsimp only at hk hep
  obtain ⟨he1, he2⟩ := hep
  subst hk
  simp only [Tv.cells, JouSt.RawSt.cells] at *
  generalize full4 text = tx at *
  have y0 := blk_cell (i := 0) (u := .int .i64 2) X1.out.b1 rfl
  have y1 := blk_cell (i := 1) (u := .int .i64 n) X1.out.b1 rfl
  have y2 := blk_cell (i := 2) (u := .string text) X1.out.b1 rfl
  go_enter Tryz.func12, Tryz.ntmps12
  go_upto_region 1 with (fail)
  rw [← hW1]
  clear hW1
  go_upto_region 2 with (go_at_call 22; refine (HFu.out _).mono ?_; rintro e w2 ⟨rfl, hb2⟩; have B2 := Lib.hid hb2; have X2 := Lib.hid (X1.out.step hb2); have H2 := Lib.hid (H1.out.step hb2); clear hb2)
  clear y0 y1 y2
  have y0 := blk_cell (i := 0) (u := .int .i64 2) X2.out.b1 rfl
  have y1 := blk_cell (i := 1) (u := .int .i64 n) X2.out.b1 rfl
  generalize commitJ D j n = r at *
  go_upto_region 9 with (fail)
  have HF : Hid (∀ W : World, Bx w W ⟨ta, tc, tl, ep, ck⟩ ⟨2, n, text⟩ → W.cell? ⟨w.heap.size, 1, none⟩ = some (.int .i64 ep) ∧ W.cell? ⟨w.heap.size + 1, 1, none⟩ = some (.int .i64 n)) := Lib.hid (fun W q => ⟨blk_cell q.b0 rfl, blk_cell q.b1 rfl⟩)
  have X5 : Hid (Bx w w2.drew ⟨ta, tc, tl, ep, ck⟩ ⟨2, n, text⟩) := Lib.hid (X2.out.step (Below.refl _ _).drew)
  have H5 := Lib.hid (H2.out.step (Below.refl _ _).drew)
  have R5 := Lib.hid ((HRa.out.step (B1.out.trans (B2.out.mono B1.out.size))).step (Below.refl _ _).drew)
  have hS := HF.out _ X5.out
  clear y0 y1
  refine wp_region_held_drew (S := fun W => W.cell? ⟨w.heap.size, 1, none⟩ = some (.int .i64 ep) ∧ W.cell? ⟨w.heap.size + 1, 1, none⟩ = some (.int .i64 n)) (by kernel_rfl) hS (fun _ => ?_)
  change wpAnyH _ _ _ _ _ _ #[false, false, false, false, false, false, false, false, false, false, false, false, false, false] _ _
  refine wpAnyH_take (i := 0) (v := ?v1) (by rw [List.getElem?_toArray]; rfl) (by kernel_rfl) (by kernel_rfl) (by kernel_rfl) (by intro _ _ _ h; exact h) (Or.inl ⟨by rfl, ?hy1⟩) (by assumption) ?rest1
  case hy1 => (intro W hSW; (try dsimp only at hSW); go_simp; try with_reducible rfl)
  try simp only [Act.put, List.setIfInBounds_toArray, List.set_cons_zero, List.set_cons_succ]
  refine wpAnyH_take (i := 1) (v := ?v2) (by rw [List.getElem?_toArray]; rfl) (by kernel_rfl) (by kernel_rfl) (by kernel_rfl) (by intro _ _ _ h; exact h) (Or.inl ⟨by rfl, ?hy2⟩) (by assumption) ?rest2
  case hy2 => (intro W hSW; (try dsimp only at hSW); go_simp; try with_reducible rfl)
  try simp only [Act.put, List.setIfInBounds_toArray, List.set_cons_zero, List.set_cons_succ]
  refine wpAnyH_take (i := 2) (v := ?v3) (by rw [List.getElem?_toArray]; rfl) (by kernel_rfl) (by kernel_rfl) (by kernel_rfl) (by intro _ _ _ h; exact h) (Or.inl ⟨by rfl, ?hy3⟩) (by assumption) ?rest3
  case hy3 => (intro W hSW; (try dsimp only at hSW); go_simp; try with_reducible rfl)
  try simp only [Act.put, List.setIfInBounds_toArray, List.set_cons_zero, List.set_cons_succ]
  refine wpAnyH_take (i := 3) (v := ?v4) (by rw [List.getElem?_toArray]; rfl) (by kernel_rfl) (by kernel_rfl) (by kernel_rfl) (by intro _ _ _ h; exact h) (Or.inl ⟨by rfl, ?hy4⟩) (by assumption) ?rest4
  case hy4 => (intro W hSW; (try dsimp only at hSW); go_simp; try with_reducible rfl)
  try simp only [Act.put, List.setIfInBounds_toArray, List.set_cons_zero, List.set_cons_succ]
  refine wpAnyH_take (i := 4) (v := ?v5) (by rw [List.getElem?_toArray]; rfl) (by kernel_rfl) (by kernel_rfl) (by kernel_rfl) (by intro _ _ _ h; exact h) (Or.inl ⟨by rfl, ?hy5⟩) (by assumption) ?rest5
  case hy5 => (intro W hSW; (try dsimp only at hSW); go_simp; try with_reducible rfl)
  try simp only [Act.put, List.setIfInBounds_toArray, List.set_cons_zero, List.set_cons_succ]
  refine wpAnyH_take (i := 5) (v := ?v6) (by rw [List.getElem?_toArray]; rfl) (by kernel_rfl) (by kernel_rfl) (by kernel_rfl) (by intro _ _ _ h; exact h) (Or.inl ⟨by rfl, ?hy6⟩) (by assumption) ?rest6
  case hy6 => (intro W hSW; (try dsimp only at hSW); go_simp; try with_reducible rfl)
  try simp only [Act.put, List.setIfInBounds_toArray, List.set_cons_zero, List.set_cons_succ]
  refine wpAnyH_take (i := 6) (v := ?v7) (by rw [List.getElem?_toArray]; rfl) (by kernel_rfl) (by kernel_rfl) (by kernel_rfl) (by intro _ _ _ h; exact h) (Or.inl ⟨by rfl, ?hy7⟩) (by assumption) ?rest7
  case hy7 => (intro W hSW; (try dsimp only at hSW); go_simp; try with_reducible rfl)
  try simp only [Act.put, List.setIfInBounds_toArray, List.set_cons_zero, List.set_cons_succ]
  refine wpAnyH_take (i := 7) (v := ?v8) (by rw [List.getElem?_toArray]; rfl) (by kernel_rfl) (by kernel_rfl) (by kernel_rfl) (by intro _ _ _ h; exact h) (Or.inl ⟨by rfl, ?hy8⟩) (by assumption) ?rest8
  case hy8 => (intro W hSW; (try dsimp only at hSW); go_simp; try with_reducible rfl)
  try simp only [Act.put, List.setIfInBounds_toArray, List.set_cons_zero, List.set_cons_succ]
  refine wpAnyH_take (i := 8) (v := ?v9) (by rw [List.getElem?_toArray]; rfl) (by kernel_rfl) (by kernel_rfl) (by kernel_rfl) (by intro _ _ _ h; exact h) (Or.inl ⟨by rfl, ?hy9⟩) (by assumption) ?rest9
  case hy9 => (intro W hSW; (try dsimp only at hSW); go_simp; try with_reducible rfl)
  try simp only [Act.put, List.setIfInBounds_toArray, List.set_cons_zero, List.set_cons_succ]
  refine wpAnyH_take (i := 9) (v := ?v10) (by rw [List.getElem?_toArray]; rfl) (by kernel_rfl) (by kernel_rfl) (by kernel_rfl) (by intro _ _ _ h; exact h) (Or.inl ⟨by rfl, ?hy10⟩) (by assumption) ?rest10
  case hy10 => (intro W hSW; (try dsimp only at hSW); go_simp; try with_reducible rfl)
  try simp only [Act.put, List.setIfInBounds_toArray, List.set_cons_zero, List.set_cons_succ]
  refine wpAnyH_ready (rs := [10]) (by kernel_rfl) (by simp) (AllReadyH.cons (by rw [List.getElem?_toArray]; rfl) (fun K hK => ?_) AllReadyH.nil)
  go_simp
  refine (HCl.out _ H5.out).mono ?_
  rintro e w6 ⟨rfl, hw6⟩
  have G6 := Lib.hid hw6
  have X6 := Lib.hid (X5.out.went H5.out hw6)
  have R6 := Lib.hid (RowS.went R5.out H5.out hw6)
  replace hS := HF.out _ X6.out
  clear hw6
  refine hK.out _ _ hS (fun _ => ?_)
  clear hK K
  try simp only [List.setIfInBounds_toArray, List.set_cons_zero, List.set_cons_succ]
  refine wpAnyH_ready (rs := [11]) (by kernel_rfl) (by simp) (AllReadyH.cons (by rw [List.getElem?_toArray]; rfl) (fun K hK => ?_) AllReadyH.nil)
  rw [if_pos (by rfl)]
  refine wp_store_row 39 _ _ rfl (w.heap.size + 1 + 1) #[.slice a all.length c, .int .i64 ep, .int .i64 n] rfl rfl 39 _ X6.out.b2 infoT rfl (one3 _ _ _ _ _) ?_
  have hbu := but_row (w.heap.size + 1 + 1) #[.slice a all.length c, .int .i64 ep, .int .i64 n] w6
  have U0 := (hbu.block w.heap.size (by omega)).trans X6.out.b0
  have U1 := (hbu.block (w.heap.size + 1) (by omega)).trans X6.out.b1
  refine hK.out _ _ ⟨blk_cell U0 rfl, blk_cell U1 rfl⟩ (fun _ => ?_)
  clear hK K
  try simp only [List.setIfInBounds_toArray, List.set_cons_zero, List.set_cons_succ]
  refine wpAnyH_take (i := 12) (v := ?v11) (by rw [List.getElem?_toArray]; rfl) (by kernel_rfl) (by kernel_rfl) (by kernel_rfl) (by intro _ _ _ h; exact h) (Or.inl ⟨by rfl, ?hy11⟩) (by assumption) ?rest11
  case hy11 => (intro W hSW; (try dsimp only at hSW); go_simp; try with_reducible rfl)
  try simp only [Act.put, List.setIfInBounds_toArray, List.set_cons_zero, List.set_cons_succ]
  refine wpAnyH_take (i := 13) (v := ?v12) (by rw [List.getElem?_toArray]; rfl) (by kernel_rfl) (by kernel_rfl) (by kernel_rfl) (by intro _ _ _ h; exact h) (Or.inl ⟨by rfl, ?hy12⟩) (by assumption) ?rest12
  case hy12 => (intro W hSW; (try dsimp only at hSW); go_simp; try with_reducible rfl)
  try simp only [Act.put, List.setIfInBounds_toArray, List.set_cons_zero, List.set_cons_succ]
  refine wpAnyH_done (by kernel_rfl) ?_ _
  clear U0 U1
  go_wp2_with fail
  have hG := went_but (went_front ((B1.out.trans (B2.out.mono B1.out.size)).drew) G6.out) X6.out.b2 oth_state (by decide) (by omega) (by omega) hbu
  have hR := row_but R6.out X6.out.b2 oth_state hbu
  refine bodyPost_ret (SupV.results_cell_two_row Tryz.results12 _ _ (w.heap.size + 1 + 1) 39 _ (0, 0) _ rfl (setRow_same X6.out.b2) Tryz.underlying39 rfl infoT) rfl ?_
  exact ⟨⟨a, c, all, ep, n⟩, a, c, by simp [Tv.cells], rfl, rfl, rfl, hG, hR, hR, HNa.out⟩
end
end Go.Proofs.YtoilcieineejiaaGreatDoor.JouPl
/- A step of a script, told to a journal: an append, a flush: the walk of its text. No conditions but those that each lemma names. -/
namespace Go.Proofs.YtoilcieineejiaaGreatDoor.JouPm
set_option linter.unusedVariables false
open Go.RowKit Go.Shelf
open DkN DkM JouN JouP JouQ JouR JouS JouT JouC JouW JouU JouG JouA JouAl JouWi JouWj JouRo JouSa
open SupP (Gl)
open DkA (Solo)
open JouPr (list_run run_all)
open JouPq JouPl
section
variable {base J P S b : Nat} {bv cv : Value} {D D' : Dk} {j j' : Jo} {w W W' : World}
theorem went_behind (hw : Went base J P S b bv cv D' j' w W) (hb : Below W.heap.size W W') : Went base J P S b bv cv D' j' w W' := by
  obtain ⟨cv', h1, n1, k1⟩ := hw
  exact ⟨cv', h1.step hb, n1, k1.trans (Kept.of_below hb)⟩
theorem went_size (hw : Went base J P S b bv cv D' j' w W) : w.heap.size ≤ W.heap.size := by
  obtain ⟨cv', h1, n1, k1⟩ := hw
  exact k1.size
end
section
variable {base J P S b : Nat} {bv cv : Value} {D : Dk} {j : Jo} {w : World}
set_option maxRecDepth 100000 in
set_option maxHeartbeats 4000000 in
theorem play_app_no (h : Jm base J P S b bv cv D j w) (t : Tv) (a : Option Addr) (c : Nat) (all : List B) (s : JouSt.RawSt) (hk : s.kind = 1) (ht : RowS w bv t.a t.l) (ha : RowS w bv a all) (hn : a = none → all = [] ∧ c = 0) (hlen : all.length ≤ 2000) (hbw : base ≤ w.heap.size) (he : (appendJ D j (full4 s.text)).e ≠ 0) :
    Calls Tryz.prog 12 #[.pointer (some ⟨J, 0, none⟩), .agg t.cells, .slice a all.length c, .agg s.cells] w (JouPl.Told base J P S b bv cv w (appendJ D j (full4 s.text)) t.l t.ep t.ck all) := by
  obtain ⟨W1, hW1⟩ : ∃ W1, W1 = ((w.alloc (.cells t.cells 39)).alloc (.cells s.cells 41)).alloc (.cells #[.slice none 0 0, .int .i64 0, .int .i64 0] 39) := ⟨_, rfl⟩
  obtain ⟨q0, q1, q2, hb1⟩ := JouW.three w (.cells t.cells 39) (.cells s.cells 41) (.cells #[.slice none 0 0, .int .i64 0, .int .i64 0] 39)
  rw [← hW1] at q0 q1 q2 hb1
  have X1 : Hid (Bx w W1 t s) := Lib.hid ⟨q0, q1, q2⟩
  have B1 := Lib.hid hb1
  have H1 := Lib.hid (h.step hb1)
  have HFu := Lib.hid (fun W => DkA.Full4 s.text W)
  have HCl := Lib.hid (fun (W : World) (hj : Jm base J P S b bv cv D j W) => JouH.Append hj (full4 s.text))
  unfold Tells at HCl
  have HRa := Lib.hid ha
  have HRt := Lib.hid ht
  have HNa := Lib.hid hn
  have HBv : Hid (∀ k, bv.ownBlock = some k → k < w.heap.size) := Lib.hid (fun k e => h.dk.foot_lt k (.inr (.inl e)))
  clear q0 q1 q2 hb1 h ha hn ht
  obtain ⟨kind, n, text⟩ := s
  obtain ⟨ta, tc, tl, ep, ck⟩ := t
  simp only [Tv.cells, JouSt.RawSt.cells] at *
  try dsimp only at hk he
  subst hk
  generalize full4 text = tx at *
  generalize appendJ D j tx = r at *
  obtain ⟨rn, re, D6, j6⟩ := r
  dsimp only at he HCl
  have q1 : ((re : Int) == 0) = false := by rw [beq_eq_false_iff_ne]; omega
  clear he
  have y0 := blk_cell (i := 0) (u := .int .i64 1) X1.out.b1 rfl
  have y2 := blk_cell (i := 2) (u := .string text) X1.out.b1 rfl
  go_enter Tryz.func12, Tryz.ntmps12
  go_upto_region 1 with (fail)
  rw [← hW1]
  clear hW1
  go_upto_region 2 with (go_at_call 22; refine (HFu.out _).mono ?_; rintro e w2 ⟨rfl, hb2⟩; have B2 := Lib.hid hb2; have X2 := Lib.hid (X1.out.step hb2); have H2 := Lib.hid (H1.out.step hb2); clear hb2)
  clear y0 y2
  have y0 := blk_cell (i := 0) (u := .int .i64 1) X2.out.b1 rfl
  have R2 := Lib.hid (HRa.out.step (B1.out.trans (B2.out.mono B1.out.size)))
  have T2 := Lib.hid (HRt.out.step (B1.out.trans (B2.out.mono B1.out.size)))
  have hs2 : w.heap.size ≤ w2.heap.size := Nat.le_trans B1.out.size B2.out.size
  go_upto_region 4 with (fail)
  go_upto_region 5 with (go_at_call 24; refine (HCl.out _ H2.out).mono ?_; rintro e w6 ⟨rfl, hw6⟩; have G6 := Lib.hid hw6; have X6 := Lib.hid (X2.out.went H2.out hw6); have R6 := Lib.hid (R2.out.went H2.out hw6); have T6 := Lib.hid (T2.out.went H2.out hw6); clear hw6)
  clear y0
  go_upto_region 7 with (fail)
  have z0 := blk_cell (i := 0) (u := .slice ta tl.length tc) X6.out.b0 rfl
  have z1 := blk_cell (i := 1) (u := .int .i64 ep) X6.out.b0 rfl
  have z2 := blk_cell (i := 2) (u := .int .i64 ck) X6.out.b0 rfl
  go_wp2_with (refine wpList_store_row rfl 39 _ _ rfl (w.heap.size + 1 + 1) _ rfl rfl 39 _ X6.out.b2 infoT rfl (one3 _ _ _ _ _) ?_)
  have hbu := but_row (w.heap.size + 1 + 1) #[.slice ta tl.length tc, .int .i64 ep, .int .i64 ck] w6
  have hG := went_but (went_front (B1.out.trans (B2.out.mono B1.out.size)) G6.out) X6.out.b2 oth_state (by decide) (by omega) (by omega) hbu
  have hR := row_but R6.out X6.out.b2 oth_state hbu
  have hT := row_but T6.out X6.out.b2 oth_state hbu
  refine bodyPost_ret (SupV.results_cell_two_row Tryz.results12 _ _ (w.heap.size + 1 + 1) 39 _ (0, 0) _ rfl (setRow_same X6.out.b2) Tryz.underlying39 rfl infoT) rfl ?_
  exact ⟨⟨ta, tc, tl, ep, ck⟩, a, c, by simp [Tv.cells], rfl, rfl, rfl, hG, hT, hR, HNa.out⟩
set_option maxRecDepth 100000 in
set_option maxHeartbeats 4000000 in
theorem play_app_yes (h : Jm base J P S b bv cv D j w) (t : Tv) (a : Option Addr) (c : Nat) (all : List B) (s : JouSt.RawSt) (hk : s.kind = 1) (ht : RowS w bv t.a t.l) (ha : RowS w bv a all) (hn : a = none → all = [] ∧ c = 0) (hlen : all.length ≤ 2000) (hbw : base ≤ w.heap.size) (he : (appendJ D j (full4 s.text)).e = 0) (hnn : (appendJ D j (full4 s.text)).n = all.length) :
    Calls Tryz.prog 12 #[.pointer (some ⟨J, 0, none⟩), .agg t.cells, .slice a all.length c, .agg s.cells] w (JouPl.Told base J P S b bv cv w (appendJ D j (full4 s.text)) t.l t.ep t.ck (all ++ [full4 s.text])) := by
  obtain ⟨W1, hW1⟩ : ∃ W1, W1 = ((w.alloc (.cells t.cells 39)).alloc (.cells s.cells 41)).alloc (.cells #[.slice none 0 0, .int .i64 0, .int .i64 0] 39) := ⟨_, rfl⟩
  obtain ⟨q0, q1, q2, hb1⟩ := JouW.three w (.cells t.cells 39) (.cells s.cells 41) (.cells #[.slice none 0 0, .int .i64 0, .int .i64 0] 39)
  rw [← hW1] at q0 q1 q2 hb1
  have X1 : Hid (Bx w W1 t s) := Lib.hid ⟨q0, q1, q2⟩
  have B1 := Lib.hid hb1
  have H1 := Lib.hid (h.step hb1)
  have HFu := Lib.hid (fun W => DkA.Full4 s.text W)
  have HCl := Lib.hid (fun (W : World) (hj : Jm base J P S b bv cv D j W) => JouH.Append hj (full4 s.text))
  unfold Tells at HCl
  have HRa := Lib.hid ha
  have HRt := Lib.hid ht
  have HNa := Lib.hid hn
  have HBv : Hid (∀ k, bv.ownBlock = some k → k < w.heap.size) := Lib.hid (fun k e => h.dk.foot_lt k (.inr (.inl e)))
  clear q0 q1 q2 hb1 h ha hn ht
  obtain ⟨kind, n, text⟩ := s
  obtain ⟨ta, tc, tl, ep, ck⟩ := t
  simp only [Tv.cells, JouSt.RawSt.cells] at *
  try dsimp only at hk he hnn
  subst hk
  generalize full4 text = tx at *
  generalize appendJ D j tx = r at *
  obtain ⟨rn, re, D6, j6⟩ := r
  dsimp only at he hnn HCl
  subst he
  subst hnn
  have y0 := blk_cell (i := 0) (u := .int .i64 1) X1.out.b1 rfl
  have y2 := blk_cell (i := 2) (u := .string text) X1.out.b1 rfl
  go_enter Tryz.func12, Tryz.ntmps12
  go_upto_region 1 with (fail)
  rw [← hW1]
  clear hW1
  go_upto_region 2 with (go_at_call 22; refine (HFu.out _).mono ?_; rintro e w2 ⟨rfl, hb2⟩; have B2 := Lib.hid hb2; have X2 := Lib.hid (X1.out.step hb2); have H2 := Lib.hid (H1.out.step hb2); clear hb2)
  clear y0 y2
  have y0 := blk_cell (i := 0) (u := .int .i64 1) X2.out.b1 rfl
  have R2 := Lib.hid (HRa.out.step (B1.out.trans (B2.out.mono B1.out.size)))
  have T2 := Lib.hid (HRt.out.step (B1.out.trans (B2.out.mono B1.out.size)))
  have hs2 : w.heap.size ≤ w2.heap.size := Nat.le_trans B1.out.size B2.out.size
  go_upto_region 4 with (fail)
  go_upto_region 5 with (go_at_call 24; refine (HCl.out _ H2.out).mono ?_; rintro e w6 ⟨rfl, hw6⟩; have G6 := Lib.hid hw6; have X6 := Lib.hid (X2.out.went H2.out hw6); have R6 := Lib.hid (R2.out.went H2.out hw6); have T6 := Lib.hid (T2.out.went H2.out hw6); clear hw6)
  clear y0
  go_upto_region 6 with (fail)
  have hs6 := went_size G6.out
  go_upto_region 7 with (at_builtin; first
    | (obtain ⟨v8, w8, hr8, ho8, hg8, hat8⟩ := run_all (w7.alloc (Obj.cells #[.string tx] 9)) w6.heap.size (by have := B7.out.size; simp only [World.size_alloc]; omega) (.slice a7 all.length c7) all.length _ (JouU.own_below O7.out (below_new _ _)) (some ⟨w7.heap.size, 0, none⟩) 1 [tx] (fun e => by cases e) (one_row w7 tx) (by simp; omega); obtain ⟨a8, c8, e8⟩ := JouL.own_len ho8; subst e8; refine list_run rfl _ _ _ rfl _ w8 hr8 ?_; have B8 : Hid (Below w6.heap.size w6 w8) := Lib.hid ((B7.out.alloc B7.out.size _).grown hg8 (by have := B7.out.size; simp only [World.size_alloc]; omega) (fun k e => (O7.out.lt k e).1)); have O8 := Lib.hid ho8; clear hr8 ho8 hg8 hat8)
    | (obtain ⟨v7, w7, hr7, ho7, hg7, hat7⟩ := run_all (w6.alloc (Obj.cells #[] 9)) w6.heap.size (by simp) (.slice (some ⟨w6.heap.size, 0, none⟩) 0 0) 0 [] (own_none w6) a c all HNa.out (R6.out.step (below_new _ _)).strs (by omega); rw [Nat.zero_add, List.nil_append] at ho7; obtain ⟨a7, c7, e7⟩ := JouL.own_len ho7; subst e7; refine list_run rfl _ _ _ rfl _ w7 hr7 ?_; have B7 : Hid (Below w6.heap.size w6 w7) := Lib.hid ((below_new w6 _).grown hg7 (by simp) (fun k e => by cases e; exact Nat.le_refl _)); have O7 := Lib.hid ho7; clear hr7 ho7 hg7 hat7))
  have X8 := Lib.hid (X6.out.step B8.out)
  have T8 := Lib.hid (T6.out.step B8.out)
  have R8 := Lib.hid (rowS_own (W := w8) (l := all ++ [tx]) (fun k e => Nat.lt_of_lt_of_le (HBv.out k e) (Nat.le_trans hs2 hs6)) (by rw [List.map_append]; simpa using O8.out))
  have z0 := blk_cell (i := 0) (u := .slice ta tl.length tc) X8.out.b0 rfl
  have z1 := blk_cell (i := 1) (u := .int .i64 ep) X8.out.b0 rfl
  have z2 := blk_cell (i := 2) (u := .int .i64 ck) X8.out.b0 rfl
  go_wp2_with (refine wpList_store_row rfl 39 _ _ rfl (w.heap.size + 1 + 1) _ rfl rfl 39 _ X8.out.b2 infoT rfl (one3 _ _ _ _ _) ?_)
  have hbu := but_row (w.heap.size + 1 + 1) #[.slice ta tl.length tc, .int .i64 ep, .int .i64 ck] w8
  have hG := went_but (went_front (B1.out.trans (B2.out.mono B1.out.size)) (went_behind G6.out B8.out)) X8.out.b2 oth_state (by decide) (by omega) (by omega) hbu
  have hR := row_but R8.out X8.out.b2 oth_state hbu
  have hT := row_but T8.out X8.out.b2 oth_state hbu
  refine bodyPost_ret (SupV.results_cell_two_row Tryz.results12 _ _ (w.heap.size + 1 + 1) 39 _ (0, 0) _ rfl (setRow_same X8.out.b2) Tryz.underlying39 rfl infoT) rfl ?_
  exact ⟨⟨ta, tc, tl, ep, ck⟩, a8, c8, by simp [Tv.cells], rfl, rfl, rfl, hG, hT, hR, row_some hR (by simp)⟩
set_option maxRecDepth 100000 in
set_option maxHeartbeats 4000000 in
theorem play_flush (h : Jm base J P S b bv cv D j w) (t : Tv) (a : Option Addr) (c : Nat) (all : List B) (s : JouSt.RawSt) (hk1 : s.kind ≠ 1) (hk2 : s.kind ≠ 2) (hk3 : s.kind ≠ 3) (ht : RowS w bv t.a t.l) (ha : RowS w bv a all) (hn : a = none → all = [] ∧ c = 0) (hlen : all.length ≤ 2000) (hbw : base ≤ w.heap.size) :
    Calls Tryz.prog 12 #[.pointer (some ⟨J, 0, none⟩), .agg t.cells, .slice a all.length c, .agg s.cells] w (JouPl.Told base J P S b bv cv w (flushJ D j) t.l t.ep t.ck all) := by
  obtain ⟨W1, hW1⟩ : ∃ W1, W1 = ((w.alloc (.cells t.cells 39)).alloc (.cells s.cells 41)).alloc (.cells #[.slice none 0 0, .int .i64 0, .int .i64 0] 39) := ⟨_, rfl⟩
  obtain ⟨q0, q1, q2, hb1⟩ := JouW.three w (.cells t.cells 39) (.cells s.cells 41) (.cells #[.slice none 0 0, .int .i64 0, .int .i64 0] 39)
  rw [← hW1] at q0 q1 q2 hb1
  have X1 : Hid (Bx w W1 t s) := Lib.hid ⟨q0, q1, q2⟩
  have B1 := Lib.hid hb1
  have H1 := Lib.hid (h.step hb1)
  have HFu := Lib.hid (fun W => DkA.Full4 s.text W)
  have HCl := Lib.hid (fun (W : World) (hj : Jm base J P S b bv cv D j W) => JouH.Flush hj)
  unfold Says at HCl
  have HRa := Lib.hid ha
  have HRt := Lib.hid ht
  have HNa := Lib.hid hn
  have HBv : Hid (∀ k, bv.ownBlock = some k → k < w.heap.size) := Lib.hid (fun k e => h.dk.foot_lt k (.inr (.inl e)))
  clear q0 q1 q2 hb1 h ha hn ht
  obtain ⟨kind, n, text⟩ := s
  obtain ⟨ta, tc, tl, ep, ck⟩ := t
  simp only [Tv.cells, JouSt.RawSt.cells] at *
  try dsimp only at hk1 hk2 hk3
  have q1 : (kind == 1) = false := by rw [beq_eq_false_iff_ne]; exact hk1
  have q2 : (kind == 2) = false := by rw [beq_eq_false_iff_ne]; exact hk2
  have q3 : (kind == 3) = false := by rw [beq_eq_false_iff_ne]; exact hk3
  clear hk1 hk2 hk3
  generalize full4 text = tx at *
  generalize flushJ D j = r at *
  have y0 := blk_cell (i := 0) (u := .int .i64 kind) X1.out.b1 rfl
  have y2 := blk_cell (i := 2) (u := .string text) X1.out.b1 rfl
  go_enter Tryz.func12, Tryz.ntmps12
  go_upto_region 1 with (fail)
  rw [← hW1]
  clear hW1
  go_upto_region 2 with (go_at_call 22; refine (HFu.out _).mono ?_; rintro e w2 ⟨rfl, hb2⟩; have B2 := Lib.hid hb2; have X2 := Lib.hid (X1.out.step hb2); have H2 := Lib.hid (H1.out.step hb2); clear hb2)
  clear y0 y2
  have y0 := blk_cell (i := 0) (u := .int .i64 kind) X2.out.b1 rfl
  have R2 := Lib.hid (HRa.out.step (B1.out.trans (B2.out.mono B1.out.size)))
  have T2 := Lib.hid (HRt.out.step (B1.out.trans (B2.out.mono B1.out.size)))
  have hs2 : w.heap.size ≤ w2.heap.size := Nat.le_trans B1.out.size B2.out.size
  go_upto_region 14 with (fail)
  have HF : Hid (∀ W : World, Bx w W ⟨ta, tc, tl, ep, ck⟩ ⟨kind, n, text⟩ → W.cell? ⟨w.heap.size, 0, none⟩ = some (.slice ta tl.length tc) ∧ W.cell? ⟨w.heap.size, 1, none⟩ = some (.int .i64 ep) ∧ W.cell? ⟨w.heap.size, 2, none⟩ = some (.int .i64 ck)) := Lib.hid (fun W q => ⟨blk_cell q.b0 rfl, blk_cell q.b0 rfl, blk_cell q.b0 rfl⟩)
  have X5 : Hid (Bx w w2.drew ⟨ta, tc, tl, ep, ck⟩ ⟨kind, n, text⟩) := Lib.hid (X2.out.step (Below.refl _ _).drew)
  have H5 := Lib.hid (H2.out.step (Below.refl _ _).drew)
  have R5 := Lib.hid (R2.out.step (Below.refl _ _).drew)
  have T5 := Lib.hid (T2.out.step (Below.refl _ _).drew)
  have hS := HF.out _ X5.out
  clear y0
  refine wp_region_held_drew (S := fun W => W.cell? ⟨w.heap.size, 0, none⟩ = some (.slice ta tl.length tc) ∧ W.cell? ⟨w.heap.size, 1, none⟩ = some (.int .i64 ep) ∧ W.cell? ⟨w.heap.size, 2, none⟩ = some (.int .i64 ck)) (by kernel_rfl) hS (fun _ => ?_)
  change wpAnyH _ _ _ _ _ _ #[false, false, false, false, false, false, false] _ _
  refine wpAnyH_take (i := 0) (v := ?v1) (by rw [List.getElem?_toArray]; rfl) (by kernel_rfl) (by kernel_rfl) (by kernel_rfl) (by intro _ _ _ h; exact h) (Or.inl ⟨by rfl, ?hy1⟩) (by assumption) ?rest1
  case hy1 => (intro W hSW; (try dsimp only at hSW); go_simp; try with_reducible rfl)
  try simp only [Act.put, List.setIfInBounds_toArray, List.set_cons_zero, List.set_cons_succ]
  refine wpAnyH_take (i := 1) (v := ?v2) (by rw [List.getElem?_toArray]; rfl) (by kernel_rfl) (by kernel_rfl) (by kernel_rfl) (by intro _ _ _ h; exact h) (Or.inl ⟨by rfl, ?hy2⟩) (by assumption) ?rest2
  case hy2 => (intro W hSW; (try dsimp only at hSW); go_simp; try with_reducible rfl)
  try simp only [Act.put, List.setIfInBounds_toArray, List.set_cons_zero, List.set_cons_succ]
  refine wpAnyH_take (i := 2) (v := ?v3) (by rw [List.getElem?_toArray]; rfl) (by kernel_rfl) (by kernel_rfl) (by kernel_rfl) (by intro _ _ _ h; exact h) (Or.inl ⟨by rfl, ?hy3⟩) (by assumption) ?rest3
  case hy3 => (intro W hSW; (try dsimp only at hSW); go_simp; try with_reducible rfl)
  try simp only [Act.put, List.setIfInBounds_toArray, List.set_cons_zero, List.set_cons_succ]
  refine wpAnyH_ready (rs := [3]) (by kernel_rfl) (by simp) (AllReadyH.cons (by rw [List.getElem?_toArray]; rfl) (fun K hK => ?_) AllReadyH.nil)
  go_simp
  refine (HCl.out _ H5.out).mono ?_
  rintro e w6 ⟨rfl, hw6⟩
  have G6 := Lib.hid hw6
  have X6 := Lib.hid (X5.out.went H5.out hw6)
  have R6 := Lib.hid (R5.out.went H5.out hw6)
  have T6 := Lib.hid (T5.out.went H5.out hw6)
  replace hS := HF.out _ X6.out
  clear hw6
  refine hK.out _ _ hS (fun _ => ?_)
  clear hK K
  try simp only [List.setIfInBounds_toArray, List.set_cons_zero, List.set_cons_succ]
  refine wpAnyH_ready (rs := [4]) (by kernel_rfl) (by simp) (AllReadyH.cons (by rw [List.getElem?_toArray]; rfl) (fun K hK => ?_) AllReadyH.nil)
  rw [if_pos (by rfl)]
  refine wp_store_row 39 _ _ rfl (w.heap.size + 1 + 1) #[.slice ta tl.length tc, .int .i64 ep, .int .i64 ck] rfl rfl 39 _ X6.out.b2 infoT rfl (one3 _ _ _ _ _) ?_
  have hbu := but_row (w.heap.size + 1 + 1) #[.slice ta tl.length tc, .int .i64 ep, .int .i64 ck] w6
  have U0 := (hbu.block w.heap.size (by omega)).trans X6.out.b0
  refine hK.out _ _ ⟨blk_cell U0 rfl, blk_cell U0 rfl, blk_cell U0 rfl⟩ (fun _ => ?_)
  clear hK K
  try simp only [List.setIfInBounds_toArray, List.set_cons_zero, List.set_cons_succ]
  refine wpAnyH_take (i := 5) (v := ?v4) (by rw [List.getElem?_toArray]; rfl) (by kernel_rfl) (by kernel_rfl) (by kernel_rfl) (by intro _ _ _ h; exact h) (Or.inl ⟨by rfl, ?hy4⟩) (by assumption) ?rest4
  case hy4 => (intro W hSW; (try dsimp only at hSW); go_simp; try with_reducible rfl)
  try simp only [Act.put, List.setIfInBounds_toArray, List.set_cons_zero, List.set_cons_succ]
  refine wpAnyH_take (i := 6) (v := ?v5) (by rw [List.getElem?_toArray]; rfl) (by kernel_rfl) (by kernel_rfl) (by kernel_rfl) (by intro _ _ _ h; exact h) (Or.inl ⟨by rfl, ?hy5⟩) (by assumption) ?rest5
  case hy5 => (intro W hSW; (try dsimp only at hSW); go_simp; try with_reducible rfl)
  try simp only [Act.put, List.setIfInBounds_toArray, List.set_cons_zero, List.set_cons_succ]
  refine wpAnyH_done (by kernel_rfl) ?_ _
  clear U0
  go_wp2_with fail
  have hG := went_but (went_front ((B1.out.trans (B2.out.mono B1.out.size)).drew) G6.out) X6.out.b2 oth_state (by decide) (by omega) (by omega) hbu
  have hR := row_but R6.out X6.out.b2 oth_state hbu
  have hT := row_but T6.out X6.out.b2 oth_state hbu
  refine bodyPost_ret (SupV.results_cell_two_row Tryz.results12 _ _ (w.heap.size + 1 + 1) 39 _ (0, 0) _ rfl (setRow_same X6.out.b2) Tryz.underlying39 rfl infoT) rfl ?_
  exact ⟨⟨ta, tc, tl, ep, ck⟩, a, c, by simp [Tv.cells], rfl, rfl, rfl, hG, hT, hR, HNa.out⟩
end
end Go.Proofs.YtoilcieineejiaaGreatDoor.JouPm
/- JournalWhole: what its round keeps in memory; any telling, in one contract; an opening that may be broken off. No condition but the program's variables. -/
namespace Go.Proofs.YtoilcieineejiaaGreatDoor.JouWm
set_option linter.unusedVariables false
open Go.RowKit Go.Shelf
open DkN DkM JouN JouP JouQ JouR JouS JouT JouC JouW JouU JouG JouA JouAl JouWi JouWj JouRo JouSa JouPq JouPl JouPm JouWh
open SupP (Gl)
open DkA (Solo)
def sta (t : Tv) : Sta := ⟨t.l, t.ep, t.ck⟩
/-- What any telling leaves. -/
def Pld (base J P S b : Nat) (bv cv : Value) (D : Dk) (j : Jo) (t : Tv) (all : List B) (w : World) (e : Ending) (w' : World) : Prop :=
  ∃ (r : Re) (t' : Tv) (a' : Option Addr) (c' : Nat) (more : List B), e = .returned (.tuple #[.agg t'.cells, .slice a' more.length c', .int .i64 (r.e : Nat)]) ∧ Pla 24 j all key0 (sta t) D r more key0 (sta t') ∧ Went base J P S b bv cv r.D r.j w w' ∧ RowS w' bv t'.a t'.l ∧ RowS w' bv a' more ∧ (a' = none → more = [] ∧ c' = 0) ∧ t'.l.length ≤ 2000
theorem pld_of {base J P S b : Nat} {bv cv : Value} {D : Dk} {j : Jo} {t : Tv} {all : List B} {w : World} {r : Re} {l : List B} {ep ck : Int} {more : List B} (hl : l.length ≤ 2000) (hp : Pla 24 j all key0 (sta t) D r more key0 ⟨l, ep, ck⟩) {e : Ending} {w' : World} (h : JouPl.Told base J P S b bv cv w r l ep ck more e w') : Pld base J P S b bv cv D j t all w e w' := by
  obtain ⟨t', a', c', rfl, h1, h2, h3, hw, hr1, hr2, hn⟩ := h
  refine ⟨r, t', a', c', more, rfl, ?_, hw, hr1, hr2, hn, by rw [h1]; exact hl⟩
  have e : sta t' = ⟨l, ep, ck⟩ := by unfold sta; rw [h1, h2, h3]
  rw [e]
  exact hp
section
variable {base J P S b : Nat} {bv cv : Value} {D : Dk} {j : Jo} {w : World}
theorem play_any (h : Jm base J P S b bv cv D j w) (t : Tv) (a : Option Addr) (c : Nat) (all : List B) (s : JouSt.RawSt) (ht : RowS w bv t.a t.l) (ha : RowS w bv a all) (hn : a = none → all = [] ∧ c = 0) (hu : Up 24 D j all key0 (sta t)) :
    Calls Tryz.prog 12 #[.pointer (some ⟨J, 0, none⟩), .agg t.cells, .slice a all.length c, .agg s.cells] w (Pld base J P S b bv cv D j t all w) := by
  have hlen : all.length ≤ 2000 := by have := hu.len.2; omega
  have hep : 0 ≤ t.ep ∧ t.ep ≤ 5000000000 := by
    have h1 := hu.inv.hold.ep
    have h2 : t.ep = j.last.e := hu.ep
    unfold SloN.may at h1
    omega
  have hbw := h.base_le
  have htl : t.l.length ≤ 2000 := by
    have e : t.l = all.take j.last.t.toNat := hu.dat
    rw [e, List.length_take]
    omega
  have hal : (all ++ [full4 s.text]).length ≤ 2000 := by
    have := hu.len.2
    rw [List.length_append, List.length_singleton]
    omega
  have hs : (full4 s.text).size = 4096 := DkA.full4_size _
  by_cases k1 : s.kind = 1
  · have q := hu.app hs
    by_cases he : (appendJ D j (full4 s.text)).e = 0
    · exact (play_app_yes h t a c all s k1 ht ha hn hlen hbw he (q.2 he)).mono fun e w' hq => pld_of htl (pla_of hu q.1 fun _ => rfl) hq
    · exact (play_app_no h t a c all s k1 ht ha hn hlen hbw he).mono fun e w' hq => pld_of htl (pla_of hu q.1 fun x => absurd x he) hq
  · by_cases k2 : s.kind = 2
    · exact (play_commit h t a c all s k2 ht ha hn hlen hep hbw).mono fun e w' hq => pld_of hlen (pla_of hu (hu.com s.n) fun _ => rfl) hq
    · by_cases k3 : s.kind = 3
      · exact (play_close h t a c all s k3 ht ha hn hlen hep hbw).mono fun e w' hq => pld_of hal (pla_of hu (hu.clo hs key0_len s.n).1 fun _ => rfl) hq
      · exact (play_flush h t a c all s k1 k2 k3 ht ha hn hlen hbw).mono fun e w' hq => pld_of htl (pla_of hu hu.flu fun _ => rfl) hq
end
section
variable {w0 W W' : World} {J P S b : Nat} {bv cv : Value} {D D' : Dk} {j j' : Jo}
theorem below_but {B x : Nat} (h : Below B w0 W) (hx : B ≤ x) (hb : But x W W') : Below B w0 W' :=
  ⟨hb.os.trans h.os, hb.tape.trans h.tape, hb.output.trans h.output, by rw [hb.size]; exact h.size, fun k hk => (hb.block k (by omega)).trans (h.block k hk)⟩
theorem run_but {x : Nat} {cs : Array Value} {t : TypeId} (h : Run w0 W J P S b bv cv D j) (hx : W.heap[x]? = some (.cells cs t (0, 0))) (ht : Oth t) (hJ : t ≠ 64) (hbx : w0.heap.size ≤ x) (hb : But x W W') : Run w0 W' J P S b bv cv D j :=
  ⟨jm_but h.jm hx ht hJ hbx hb, below_but h.below hbx hb⟩
/-- The journal, both states in their boxes, the row of all that was appended. -/
structure Stw (w0 W : World) (J P S b : Nat) (bv cv : Value) (D : Dk) (j : Jo) (X Y : Nat) (x y : Tv) (a : Option Addr) (all : List B) : Prop where
  run : Run w0 W J P S b bv cv D j
  bX : W.heap[X]? = some (.cells x.cells 39 (0, 0))
  bY : W.heap[Y]? = some (.cells y.cells 39 (0, 0))
  rX : RowS W bv x.a x.l
  rY : RowS W bv y.a y.l
  rA : RowS W bv a all
  lX : w0.heap.size ≤ X
  lY : w0.heap.size ≤ Y
  ne : X ≠ Y
variable {X Y : Nat} {x y x' y' : Tv} {a a' : Option Addr} {all all' : List B}
theorem Stw.step (h : Stw w0 W J P S b bv cv D j X Y x y a all) (hb : Below W.heap.size W W') : Stw w0 W' J P S b bv cv D j X Y x y a all :=
  ⟨h.run.step hb, (hb.block _ (lt_of_some h.bX)).trans h.bX, (hb.block _ (lt_of_some h.bY)).trans h.bY, h.rX.step hb, h.rY.step hb, h.rA.step hb, h.lX, h.lY, h.ne⟩
theorem Stw.went (h : Stw w0 W J P S b bv cv D j X Y x y a all) (hw : Went w0.heap.size J P S b bv cv D' j' W W') : ∃ cv', Stw w0 W' J P S b bv cv' D' j' X Y x y a all := by
  obtain ⟨cv', hr⟩ := h.run.went hw
  exact ⟨cv', hr, oth_went h.run.jm hw oth_state h.bX, oth_went h.run.jm hw oth_state h.bY, h.rX.went h.run.jm hw, h.rY.went h.run.jm hw, h.rA.went h.run.jm hw, h.lX, h.lY, h.ne⟩
theorem Stw.did (h : Stw w0 W J P S b bv cv D j X Y x y a all) (hd : Did false W b bv cv D' W') : ∃ cv', Stw w0 W' J P S b bv cv' D' j X Y x y a all := by
  obtain ⟨cv', hr⟩ := run_did h.run hd
  exact ⟨cv', hr, oth_did h.run.jm.dk hd oth_state h.bX, oth_did h.run.jm.dk hd oth_state h.bY, h.rX.did h.run.jm.dk hd, h.rY.did h.run.jm.dk hd, h.rA.did h.run.jm.dk hd, h.lX, h.lY, h.ne⟩
theorem Stw.all_ (h : Stw w0 W J P S b bv cv D j X Y x y a all) (hr : RowS W bv a' all') : Stw w0 W J P S b bv cv D j X Y x y a' all' := ⟨h.run, h.bX, h.bY, h.rX, h.rY, hr, h.lX, h.lY, h.ne⟩
theorem Stw.setY (h : Stw w0 W J P S b bv cv D j X Y x y a all) (hr : RowS W bv y'.a y'.l) : Stw w0 (W.setRow Y y'.cells) J P S b bv cv D j X Y x y' a all := by
  have hb := but_row Y y'.cells W
  have n0 : 39 ≠ 64 := by decide
  exact ⟨run_but h.run h.bY oth_state n0 h.lY hb, (hb.block X h.ne).trans h.bX, setRow_same h.bY, row_but h.rX h.bY oth_state hb, row_but hr h.bY oth_state hb, row_but h.rA h.bY oth_state hb, h.lX, h.lY, h.ne⟩
theorem Stw.setX (h : Stw w0 W J P S b bv cv D j X Y x y a all) (hr : RowS W bv x'.a x'.l) : Stw w0 (W.setRow X x'.cells) J P S b bv cv D j X Y x' y a all := by
  have hb := but_row X x'.cells W
  have n0 : 39 ≠ 64 := by decide
  exact ⟨run_but h.run h.bX oth_state n0 h.lX hb, setRow_same h.bX, (hb.block Y (fun e => h.ne e.symm)).trans h.bY, row_but hr h.bX oth_state hb, row_but h.rY h.bX oth_state hb, row_but h.rA h.bX oth_state hb, h.lX, h.lY, h.ne⟩
/-- Behind the power's going: the disk, both states. -/
structure Sgw (w0 W : World) (b : Nat) (bv cv : Value) (D : Dk) (X Y : Nat) (x y : Tv) : Prop where
  solo : Solo false w0 W b bv cv D
  bX : W.heap[X]? = some (.cells x.cells 39 (0, 0))
  bY : W.heap[Y]? = some (.cells y.cells 39 (0, 0))
  rX : RowS W bv x.a x.l
  rY : RowS W bv y.a y.l
  lX : w0.heap.size ≤ X
  lY : w0.heap.size ≤ Y
  ne : X ≠ Y
theorem Stw.sg (h : Stw w0 W J P S b bv cv D j X Y x y a all) : Sgw w0 W b bv cv D X Y x y := ⟨h.run.solo, h.bX, h.bY, h.rX, h.rY, h.lX, h.lY, h.ne⟩
theorem Sgw.step (h : Sgw w0 W b bv cv D X Y x y) (hb : Below W.heap.size W W') : Sgw w0 W' b bv cv D X Y x y :=
  ⟨h.solo.step hb, (hb.block _ (lt_of_some h.bX)).trans h.bX, (hb.block _ (lt_of_some h.bY)).trans h.bY, h.rX.step hb, h.rY.step hb, h.lX, h.lY, h.ne⟩
theorem Sgw.did (h : Sgw w0 W b bv cv D X Y x y) (hd : Did false W b bv cv D' W') : ∃ cv', Sgw w0 W' b bv cv' D' X Y x y := by
  obtain ⟨cv', hs⟩ := h.solo.did hd
  exact ⟨cv', hs, oth_did h.solo.has hd oth_state h.bX, oth_did h.solo.has hd oth_state h.bY, h.rX.did h.solo.has hd, h.rY.did h.solo.has hd, h.lX, h.lY, h.ne⟩
/-- An opening that the power may break off. -/
theorem open_any {c : Cm} (h : Sgw w0 W b bv cv D X Y x y) (hr : Ashore 24 D c) (hg : Gl w0) :
    Calls Tryz.prog 10 #[.pointer (some ⟨b, 0, none⟩)] W fun e W' => ∃ (v1 v2 v3 : Value) (f : Nat) (D' : Dk) (cv' : Value), e = .returned (.tuple #[v1, v2, v3, .int .i64 (f : Nat)]) ∧ Sgw w0 W' b bv cv' D' X Y x y ∧ ((f = 14 ∧ ∀ keep, Ashore 24 (D'.crash keep).boot c) ∨ (f ≠ 14 ∧ Ashore 24 D' c)) := by
  have hgd := solo_gd h.solo hg
  rcases hr.open_ (by omega) with ⟨hz, h3⟩ | ⟨hz, h3⟩
  · refine (Open_at h.solo.has hr.up hr.ca hr.on (by omega) hgd h.solo.below.size h.solo.foot hz).mono ?_
    rintro e W' ⟨J, P, S, a, cc, rfl, hgot⟩
    obtain ⟨cv', hj, hn⟩ := hgot.jm
    obtain ⟨cv2, hs⟩ := h.did ⟨cv', hj.dk, hn, hgot.kept⟩
    exact ⟨_, _, _, 0, _, cv2, rfl, hs, .inr ⟨by decide, h3⟩⟩
  · refine (Open_off h.solo.has hr.up hr.ca hr.on (by omega) hgd.g (by rw [hz]; decide)).mono ?_
    rintro e W' ⟨rfl, hd⟩
    obtain ⟨cv2, hs⟩ := h.did hd
    exact ⟨_, _, _, _, _, cv2, rfl, hs, .inl ⟨hz, h3⟩⟩
/-- The last opening. -/
theorem open_last {c : Cm} (h : Sgw w0 W b bv cv D X Y x y) (hr : Ashore 24 D c) (ha : D.armed = 0) (hg : Gl w0) :
    Calls Tryz.prog 10 #[.pointer (some ⟨b, 0, none⟩)] W fun e W' => ∃ (J P S : Nat) (a : Option Addr) (cc : Nat) (cv' : Value), e = .returned (.tuple #[.pointer (some ⟨J, 0, none⟩), .slice a c.dat.length cc, .string ⟨c.key.toArray⟩, .int .i64 0]) ∧ Stw w0 W' J P S b bv cv' (run D (openL D.bl c.s)).2 ⟨c.s, c.s.t.toNat, false⟩ X Y x y a c.dat := by
  have hgd := solo_gd h.solo hg
  have hs := h.solo
  refine (Open_at hs.has hr.up hr.ca hr.on (by omega) hgd hs.below.size hs.foot (hr.last ha (by omega)).1).mono ?_
  rintro e W' ⟨J, P, S, a, cc, rfl, hgot⟩
  obtain ⟨cv', hj, hn⟩ := hgot.jm
  have hd : Did false W b bv cv (run D (openL D.bl c.s)).2 W' := ⟨cv', hj.dk, hn, hgot.kept⟩
  exact ⟨J, P, S, a, cc, cv', rfl, ⟨⟨hj, hs.below.trans (hgot.kept.below hs.foot hs.below.size)⟩, oth_did hs.has hd oth_state h.bX, oth_did hs.has hd oth_state h.bY, h.rX.did hs.has hd, h.rY.did hs.has hd, rowS_own (fun k e => hs.has.foot_lt k (.inr (.inl e))) hgot.row, h.lX, h.lY, h.ne⟩⟩
/-- Opened once more. -/
theorem open_again {c : Cm} (h : Run w0 W J P S b bv cv D j) (hr : Ashore 24 D c) (hz : run D (openL D.bl c.s) = (0, D)) (hg : Gl w0) :
    Calls Tryz.prog 10 #[.pointer (some ⟨b, 0, none⟩)] W fun e W' => ∃ (J2 P2 S2 : Nat) (a : Option Addr) (cc : Nat) (cv' : Value), e = .returned (.tuple #[.pointer (some ⟨J2, 0, none⟩), .slice a c.dat.length cc, .string ⟨c.key.toArray⟩, .int .i64 0]) ∧ Run w0 W' J2 P2 S2 b bv cv' D ⟨c.s, c.s.t.toNat, false⟩ ∧ (∃ cv2, Run w0 W' J P S b bv cv2 D j) ∧ Did false W b bv cv D W' ∧ RowS W' bv a c.dat := by
  have hs := h.solo
  have hgd := solo_gd hs hg
  have q := Open_at hs.has hr.up hr.ca hr.on (by omega) hgd hs.below.size hs.foot (by rw [hz])
  rw [hz] at q
  refine q.mono ?_
  rintro e W' ⟨J2, P2, S2, a, cc, rfl, hgot⟩
  obtain ⟨cv', hj, hn⟩ := hgot.jm
  have hd : Did false W b bv cv D W' := ⟨cv', hj.dk, hn, hgot.kept⟩
  exact ⟨J2, P2, S2, a, cc, cv', rfl, ⟨hj, hs.below.trans (hgot.kept.below hs.foot hs.below.size)⟩, run_did h hd, hd, rowS_own (fun k e => hs.has.foot_lt k (.inr (.inl e))) hgot.row⟩
theorem same_of {s : Tv} {c : Cm} (h : (sta s).of c) (ht : c.s.t = c.dat.length) : sameB s.l c.dat s.ep s.ck ⟨c.s, c.s.t.toNat, false⟩ = true := by
  obtain ⟨h1, h2, h3⟩ := h
  exact decide_eq_true ⟨h1, h2.symm, h3.symm, ht⟩
theorem oth_image : Oth 49 := ⟨by decide, by decide, by decide, by decide, by decide⟩
end
end Go.Proofs.YtoilcieineejiaaGreatDoor.JouWm
