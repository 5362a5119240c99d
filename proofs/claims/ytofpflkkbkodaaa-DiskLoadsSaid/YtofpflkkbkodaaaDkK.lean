/- keepsakeref08.Copy: the walk of its text. No conditions but those that each lemma names. -/
import Derived.Test.YtofpflkkbkodaaaDkZ
import Derived.Test.YtofpflkkbkodaaaDkRN
import Derived.Deep.RegionHeldLaw
import Derived.Deep.AppendLies
namespace Go.Proofs.Ytofpflkkbkodaaa.DkK
open Go.RowKit
open DkN DkM DkQ DkC DkV DkW DkR
/-- These cells lie from here on. -/
def Lies (w : World) (ad : Addr) (xs : List Value) : Prop := ∀ j u, xs[j]? = some u → w.cell? (ad.add j) = some u
/-- What Copy leaves. -/
def Twin (n m : Nat) (xs ys : List Value) (w : World) (e : Ending) (w' : World) : Prop :=
  ∃ v u, e = .returned (.agg #[v, u]) ∧ w'.ownsRow w.heap.size 9 1 v n xs ∧ w'.ownsRow w.heap.size 76 2 u m ys ∧ Below w.heap.size w w'
theorem Lies.below {w w' : World} {ad : Addr} {xs : List Value} (h : Lies w ad xs) (hb : Below w.heap.size w w') : Lies w' ad xs := fun j u hj => by
  have := h j u hj
  have hlt := World.block_lt_of_cell? w _ this
  exact (hb.cell (p := ad.add j) hlt).trans this
/-- A source row: nil, or it lies somewhere. -/
def Src (w : World) (ad : Option Addr) (m c : Nat) (xs : List Value) : Prop := (ad = none → m = 0 ∧ c = 0 ∧ xs = []) ∧ ∀ A, ad = some A → Lies w A xs
theorem run_append_any {P : Program} (w : World) (t ty : TypeId) (base : Nat) (e : TypeId) (i : TypeInfo) (z : Value) (size bytes : Nat) (ht : P.underlying t = some (.slice e)) (hi : P.info? e = some i) (hz : i.zero = some z)
    (hsize : i.size = size) (hby : i.bytes = bytes) (hzs : z.cells.size = size) (hsz : 0 < size)
    (g0 n cap0 : Nat) (xs : List Value) (hown : w.ownsRow base e size (.slice (some ⟨g0, 0, none⟩) n cap0) n xs)
    (ad : Option Addr) (m c : Nat) (news : List Value) (hl : news.length = m * size) (hnews : Src w ad m c news) (h1 : ∀ u ∈ news, u.oneCell' = true)
    (h63 : n + m ≤ maxLen) (hbytes : (n + m) * bytes ≤ 140737488355328) (hbase : base ≤ w.heap.size) (H : Nat) (hH : w.heap.size = H) :
    ∃ g cap w', (Builtin.append_ #[t, t] ty #[.slice (some ⟨g0, 0, none⟩) n cap0, .slice ad m c]).run P w = .ok (.slice (some ⟨g, 0, none⟩) (n + m) cap) w' ∧
      w'.ownsRow base e size (.slice (some ⟨g, 0, none⟩) (n + m) cap) (n + m) (xs ++ news) ∧ w.grownBy w' (some g0) ∧ (g0 = g ∨ g = H) ∧ g < w'.heap.size := by
  cases ad with
  | none =>
    obtain ⟨rfl, rfl, rfl⟩ := hnews.1 rfl
    exact ⟨g0, cap0, w, by simpa using run_append_owned_none (P := P) (w := w) base t ty e i size ht hi _ n xs hown, by simpa using hown, ⟨rfl, rfl, rfl, Nat.le_refl _, fun _ _ _ => rfl⟩, .inl rfl, (hown.lt g0 rfl).2⟩
  | some A =>
    obtain ⟨v', w', hr, h2, h3, h4, h5⟩ := run_append_own_at (P := P) w base t ty e i z size bytes ht hi hz hsize hby hzs hsz _ n xs hown A m c news hl (hnews.2 A rfl) h1 h63 hbytes hbase
    rcases h2.2 with ⟨hn, _⟩ | ⟨g, cap, cur, rfl, _, hg, _⟩
    · have := (h4.1 hn).1
      simp at this
    · refine ⟨g, cap, w', hr, h2, h3, ?_, (h2.lt g rfl).2⟩
      rcases h5 with h5 | h5
      · left
        have e : g = g0 := by simpa [Value.ownBlock] using h5
        exact e.symm
      · right
        have e : g = w.heap.size := by simpa [Value.ownBlock] using h5
        exact e.trans hH
/-- At a step of a region that draws its order. -/
theorem step_append_any {P : Program} (w : World) {ops : Array Oper} {o : Oper} {a : Act} {K : Act → World → Prop} {Q : Exit → Act → World → Prop} {E : Prop} (hgd : o.guard = none) (s x : Operand) (t : TypeId)
    (ho : o.op = .call { callee := .builtin .append, args := #[s, x], argTypes := #[t, t] })
    (base : Nat) (e : TypeId) (i : TypeInfo) (z : Value) (size bytes : Nat) (ht : P.underlying t = some (.slice e)) (hi : P.info? e = some i) (hz : i.zero = some z)
    (hsize : i.size = size) (hby : i.bytes = bytes) (hzs : z.cells.size = size) (hsz : 0 < size)
    (g0 n cap0 : Nat) (xs : List Value) (hs : a.eval s = .slice (some ⟨g0, 0, none⟩) n cap0) (hown : w.ownsRow base e size (.slice (some ⟨g0, 0, none⟩) n cap0) n xs)
    (ad : Option Addr) (m c : Nat) (news : List Value) (hx : a.eval x = .slice ad m c) (hl : news.length = m * size) (hnews : Src w ad m c news) (h1 : ∀ u ∈ news, u.oneCell' = true)
    (h63 : n + m ≤ maxLen) (hbytes : (n + m) * bytes ≤ 140737488355328) (hbase : base ≤ w.heap.size) (H : Nat) (hH : w.heap.size = H)
    (h : ∀ g cap w', w'.ownsRow base e size (.slice (some ⟨g, 0, none⟩) (n + m) cap) (n + m) (xs ++ news) → w.grownBy w' (some g0) → (g0 = g ∨ g = H) → g < w'.heap.size → K (a.put o.dst (.slice (some ⟨g, 0, none⟩) (n + m) cap)) w') :
    if Region.wanted o (yielded ops a.tmps) = true then Oper.wp P o a w K Q else E := by
  have hw : Region.wanted o (yielded ops a.tmps) = true := by simp [Region.wanted, hgd]
  rw [if_pos hw]
  obtain ⟨g, cap, w', hr, h2, h3, h4, h5⟩ := run_append_any (P := P) w t o.type base e i z size bytes ht hi hz hsize hby hzs hsz g0 n cap0 xs hown ad m c news hl hnews h1 h63 hbytes hbase H hH
  unfold Oper.wp execOp
  simp only [ho, resolve, invoke, builtin, Sem.run_bind, Sem.run_pure, Result.andThen_ok, List.map_toArray, List.map_cons, List.map_nil, hs, hx, hr]
  exact h g cap w' h2 h3 h4 h5
theorem Src.below {w w' : World} {ad : Option Addr} {m c : Nat} {xs : List Value} (h : Src w ad m c xs) (hb : Below w.heap.size w w') : Src w' ad m c xs := ⟨h.1, fun A e => (h.2 A e).below hb⟩
theorem made_own {W : World} {base g : Nat} {e : TypeId} {size : Nat} (hg : W.heap[g]? = some (.cells #[] e (0, 0))) (hb : base ≤ g) : W.ownsRow base e size (.slice (some ⟨g, 0, none⟩) 0 0) 0 [] :=
  ⟨by simp, .inr ⟨g, 0, #[], rfl, hb, hg, Nat.le_refl _, Nat.zero_le _, by simp, by simp⟩⟩
set_option maxRecDepth 100000 in
set_option maxHeartbeats 4000000 in
theorem Copy_any (ad ad' : Option Addr) (n m c c' : Nat) (xs ys : List Value) (w : World) (hx : xs.length = n * 1) (hy : ys.length = m * 2) (h : Src w ad n c xs) (h' : Src w ad' m c' ys) (o1 : ∀ u ∈ xs, u.oneCell' = true) (o2 : ∀ u ∈ ys, u.oneCell' = true) (hn : n ≤ 100000) (hm : m ≤ 100000) :
    Calls Try.prog 14 #[.agg #[.slice ad n c, .slice ad' m c']] w (Twin n m xs ys w) := by
  obtain ⟨i0, hi, hz0, hz1, hz2⟩ := info_parts info9
  obtain ⟨i1, hi', hz0', hz1', hz2'⟩ := info_parts info_put
  have hB1 : Below w.heap.size w (((w.alloc (.cells #[.slice ad n c, .slice ad' m c'] 39)).alloc (.cells #[.slice none 0 0, .slice none 0 0] 39)).drew) := (((Below.refl _ _).alloc (Nat.le_refl _) _).alloc (by simp) _).drew
  have x0 : ((w.alloc (.cells #[.slice ad n c, .slice ad' m c'] 39)).alloc (.cells #[.slice none 0 0, .slice none 0 0] 39)).drew.heap[w.heap.size]? = some (.cells #[.slice ad n c, .slice ad' m c'] 39 (0, 0)) := heap_alloc2_old w _ _
  have x1 : ((w.alloc (.cells #[.slice ad n c, .slice ad' m c'] 39)).alloc (.cells #[.slice none 0 0, .slice none 0 0] 39)).drew.heap[w.heap.size + 1]? = some (.cells #[.slice none 0 0, .slice none 0 0] 39 (0, 0)) := heap_alloc2_new w _ _
  have hz : ((w.alloc (.cells #[.slice ad n c, .slice ad' m c'] 39)).alloc (.cells #[.slice none 0 0, .slice none 0 0] 39)).drew.heap.size = w.heap.size + 2 := by simp
  have HL := Lib.hid h
  have HL' := Lib.hid h'
  have HB1 := Lib.hid hB1
  have X0 := Lib.hid x0
  have X1 := Lib.hid x1
  have HZ := Lib.hid hz
  clear h h' hB1 x0 x1 hz
  go_enter Try.func14, Try.ntmps14
  go_wp2_with fail
  generalize ((w.alloc (.cells #[.slice ad n c, .slice ad' m c'] 39)).alloc (.cells #[.slice none 0 0, .slice none 0 0] 39)) = W1 at *
  have hW1 : W1.heap.size = w.heap.size + 2 := HZ.out
  have a0 : W1.cell? ⟨w.heap.size, 0, none⟩ = some (.slice ad n c) := blk_cell (w := W1) X0.out rfl
  have a1 : W1.cell? ⟨w.heap.size, 1, none⟩ = some (.slice ad' m c') := blk_cell (w := W1) X0.out rfl
  have HB2 : Hid (Below w.heap.size w W1) := Lib.hid ⟨HB1.out.os, HB1.out.tape, HB1.out.output, HB1.out.size, HB1.out.block⟩
  have HG : Hid (∀ W, Below (w.heap.size + 2) W1 W → Src W ad n c xs ∧ Src W ad' m c' ys) := Lib.hid fun W hW => ⟨HL.out.below (HB2.out.trans (hW.mono (by omega))), HL'.out.below (HB2.out.trans (hW.mono (by omega)))⟩
  have HS : Hid (∀ W, Below (w.heap.size + 2) W1 W → W.cell? ⟨w.heap.size, 0, none⟩ = some (.slice ad n c) ∧ W.cell? ⟨w.heap.size, 1, none⟩ = some (.slice ad' m c')) := Lib.hid fun W hW => ⟨(hW.cell (p := ⟨w.heap.size, 0, none⟩) (show w.heap.size < _ by omega)).trans (blk_cell (w := W1) X0.out rfl), (hW.cell (p := ⟨w.heap.size, 1, none⟩) (show w.heap.size < _ by omega)).trans (blk_cell (w := W1) X0.out rfl)⟩
  have HR : Hid (∀ W, Below (w.heap.size + 2) W1 W → W.heap[w.heap.size + 1]? = some (.cells #[.slice none 0 0, .slice none 0 0] 39 (0, 0))) := Lib.hid fun W hW => (hW.block (w.heap.size + 1) (by omega)).trans X1.out
  have bA : Below (w.heap.size + 2) W1 (W1.alloc (.cells #[] 9)).drew := ((Below.refl _ _).alloc (by omega) _).drew
  have bB : Below (w.heap.size + 2) W1 ((W1.alloc (.cells #[] 9)).alloc (.cells #[] 76)).drew := (((Below.refl _ _).alloc (by omega) _).alloc (by rw [World.size_alloc]; omega) _).drew
  have bC : Below (w.heap.size + 2) W1 ((W1.alloc (.cells #[] 76)).alloc (.cells #[] 9)).drew := (((Below.refl _ _).alloc (by omega) _).alloc (by rw [World.size_alloc]; omega) _).drew
  have zA : (W1.alloc (.cells #[] 9)).drew.heap.size = w.heap.size + 3 := by show (W1.alloc _).heap.size = _; rw [World.size_alloc, hW1]
  have zB : ((W1.alloc (.cells #[] 9)).alloc (.cells #[] 76)).drew.heap.size = w.heap.size + 4 := by show ((W1.alloc _).alloc _).heap.size = _; rw [World.size_alloc, World.size_alloc, hW1]
  have zC : ((W1.alloc (.cells #[] 76)).alloc (.cells #[] 9)).drew.heap.size = w.heap.size + 4 := by show ((W1.alloc _).alloc _).heap.size = _; rw [World.size_alloc, World.size_alloc, hW1]
  have pA : (W1.alloc (.cells #[] 9)).drew.heap[w.heap.size + 2]? = some (.cells #[] 9 (0, 0)) := by have := heap_alloc_new W1 (.cells #[] 9); rw [hW1] at this; exact this
  have pB : ((W1.alloc (.cells #[] 9)).alloc (.cells #[] 76)).drew.heap[w.heap.size + 2]? = some (.cells #[] 9 (0, 0)) := by have := heap_alloc2_old W1 (.cells #[] 9) (.cells #[] 76); rw [hW1] at this; exact this
  have pB' : ((W1.alloc (.cells #[] 9)).alloc (.cells #[] 76)).drew.heap[w.heap.size + 3]? = some (.cells #[] 76 (0, 0)) := by have := heap_alloc2_new W1 (.cells #[] 9) (.cells #[] 76); rw [hW1] at this; exact this
  have pC : ((W1.alloc (.cells #[] 76)).alloc (.cells #[] 9)).drew.heap[w.heap.size + 3]? = some (.cells #[] 9 (0, 0)) := by have := heap_alloc2_new W1 (.cells #[] 76) (.cells #[] 9); rw [hW1] at this; exact this
  have pC' : ((W1.alloc (.cells #[] 76)).alloc (.cells #[] 9)).drew.heap[w.heap.size + 2]? = some (.cells #[] 76 (0, 0)) := by have := heap_alloc2_old W1 (.cells #[] 76) (.cells #[] 9); rw [hW1] at this; exact this
  have BA := Lib.hid bA
  have BB := Lib.hid bB
  have BC := Lib.hid bC
  have ZA := Lib.hid zA
  have ZB := Lib.hid zB
  have ZC := Lib.hid zC
  have PA := Lib.hid pA
  have PB := Lib.hid pB
  have PB' := Lib.hid pB'
  have PC := Lib.hid pC
  have PC' := Lib.hid pC'
  clear bA bB bC zA zB zC pA pB pB' pC pC'
  go_region_held_law (fun w' => w'.cell? ⟨w.heap.size, 0, none⟩ = some (.slice ad n c) ∧ w'.cell? ⟨w.heap.size, 1, none⟩ = some (.slice ad' m c'))
    (first | exact ⟨a0, a1⟩ | exact HS.out _ HB4.out | exact HS.out _ HB3.out | exact HS.out _ BA.out | exact HS.out _ BB.out | exact HS.out _ BC.out | exact HS.out _ (HB3.out.alloc (by have := HB3.out.size; omega) _) | go_keep)
    (first
      | (refine step_append_any _ (by rfl) _ _ _ (by rfl) (w.heap.size + 2) 9 i0 (.string ⟨#[]⟩) 1 16 Try.underlying36 hi hz0 hz1 hz2 rfl (by omega) (w.heap.size + 2) 0 0 [] (by rfl) (made_own PA.out (by omega)) ad n c xs (by rfl) hx (HG.out _ BA.out).1 o1 (by unfold maxLen; omega) (by omega) (by rw [ZA.out]; omega) (w.heap.size + 3) ZA.out ?_; intro gg cap w2 hown2 hg2 hat hlt2; have HB3 := Lib.hid (BA.out.grown hg2 (by rw [ZA.out]; omega) (fun k hk => by have e : w.heap.size + 2 = k := Option.some.inj hk; omega)); have HO2 := Lib.hid hown2; have HAt : Hid (gg < w2.heap.size) := Lib.hid hlt2; clear hown2 hg2 hat hlt2)
      | (refine step_append_any _ (by rfl) _ _ _ (by rfl) (w.heap.size + 2) 9 i0 (.string ⟨#[]⟩) 1 16 Try.underlying36 hi hz0 hz1 hz2 rfl (by omega) (w.heap.size + 2) 0 0 [] (by rfl) (made_own PB.out (by omega)) ad n c xs (by rfl) hx (HG.out _ BB.out).1 o1 (by unfold maxLen; omega) (by omega) (by rw [ZB.out]; omega) (w.heap.size + 4) ZB.out ?_; intro gg cap w2 hown2 hg2 hat hlt2; have HB3 := Lib.hid (BB.out.grown hg2 (by rw [ZB.out]; omega) (fun k hk => by have e : w.heap.size + 2 = k := Option.some.inj hk; omega)); have HO2 := Lib.hid hown2; have HP2 := Lib.hid ((hg2.block (w.heap.size + 3) (by rw [ZB.out]; omega) (by simp)).trans PB'.out); have HAt : Hid (gg ≠ w.heap.size + 3) := Lib.hid (hat.elim (fun e => by have e : w.heap.size + 2 = gg := e; omega) (fun e => by omega)); clear hown2 hg2 hat hlt2)
      | (refine step_append_any _ (by rfl) _ _ _ (by rfl) (w.heap.size + 2) 9 i0 (.string ⟨#[]⟩) 1 16 Try.underlying36 hi hz0 hz1 hz2 rfl (by omega) (w.heap.size + 3) 0 0 [] (by rfl) (made_own PC.out (by omega)) ad n c xs (by rfl) hx (HG.out _ BC.out).1 o1 (by unfold maxLen; omega) (by omega) (by rw [ZC.out]; omega) (w.heap.size + 4) ZC.out ?_; intro gg cap w2 hown2 hg2 hat hlt2; have HB3 := Lib.hid (BC.out.grown hg2 (by rw [ZC.out]; omega) (fun k hk => by have e : w.heap.size + 3 = k := Option.some.inj hk; omega)); have HO2 := Lib.hid hown2; have HP2 := Lib.hid ((hg2.block (w.heap.size + 2) (by rw [ZC.out]; omega) (by simp)).trans PC'.out); have HAt : Hid (gg ≠ w.heap.size + 2) := Lib.hid (hat.elim (fun e => by have e : w.heap.size + 3 = gg := e; omega) (fun e => by omega)); clear hown2 hg2 hat hlt2)
      | (refine step_append_any _ (by rfl) _ _ _ (by rfl) (w.heap.size + 2) 76 i1 (.agg #[.int .i64 0, .string ⟨#[]⟩]) 2 24 Try.underlying37 hi' hz0' hz1' hz2' rfl (by omega) (w.heap.size + 3) 0 0 [] (by rfl) (made_own HP2.out (by omega)) ad' m c' ys (by rfl) hy (HG.out _ HB3.out).2 o2 (by unfold maxLen; omega) (by omega) (by have := HB3.out.size; omega) w2.heap.size rfl ?_; intro g3 cap3 w3 hown3 hg3 hat3 hlt3; have HB4 := Lib.hid (HB3.out.grown hg3 (by have := HB3.out.size; omega) (fun k hk => by have e : w.heap.size + 3 = k := Option.some.inj hk; omega)); have HO3 := Lib.hid hown3; have HO2F := Lib.hid (own_kept HO2.out fun k e => hg3.block k (HO2.out.lt k e).2 (fun e' => HAt.out (by have e1 : k = w.heap.size + 3 := Option.some.inj e'; have e2 : gg = k := Option.some.inj e; omega))); have q4 := HR.out _ HB4.out; have r0 := blk_cell (i := 0) q4 rfl; have r1 := blk_cell (i := 1) q4 rfl; have f0 := blk_free (i := 0) q4; have f1 := blk_free (i := 1) q4; clear q4 hown3 hg3 hat3 hlt3)
      | (refine step_append_any _ (by rfl) _ _ _ (by rfl) (w.heap.size + 2) 76 i1 (.agg #[.int .i64 0, .string ⟨#[]⟩]) 2 24 Try.underlying37 hi' hz0' hz1' hz2' rfl (by omega) (w.heap.size + 2) 0 0 [] (by rfl) (made_own HP2.out (by omega)) ad' m c' ys (by rfl) hy (HG.out _ HB3.out).2 o2 (by unfold maxLen; omega) (by omega) (by have := HB3.out.size; omega) w2.heap.size rfl ?_; intro g3 cap3 w3 hown3 hg3 hat3 hlt3; have HB4 := Lib.hid (HB3.out.grown hg3 (by have := HB3.out.size; omega) (fun k hk => by have e : w.heap.size + 2 = k := Option.some.inj hk; omega)); have HO3 := Lib.hid hown3; have HO2F := Lib.hid (own_kept HO2.out fun k e => hg3.block k (HO2.out.lt k e).2 (fun e' => HAt.out (by have e1 : k = w.heap.size + 2 := Option.some.inj e'; have e2 : gg = k := Option.some.inj e; omega))); have q4 := HR.out _ HB4.out; have r0 := blk_cell (i := 0) q4 rfl; have r1 := blk_cell (i := 1) q4 rfl; have f0 := blk_free (i := 0) q4; have f1 := blk_free (i := 1) q4; clear q4 hown3 hg3 hat3 hlt3)
      | (refine step_append_any _ (by rfl) _ _ _ (by rfl) (w.heap.size + 2) 76 i1 (.agg #[.int .i64 0, .string ⟨#[]⟩]) 2 24 Try.underlying37 hi' hz0' hz1' hz2' rfl (by omega) (w2.heap.size) 0 0 [] (by rfl) (made_own (heap_alloc_new w2 _) (by have := HB3.out.size; omega)) ad' m c' ys (by rfl) hy (HG.out _ (HB3.out.alloc (by have := HB3.out.size; omega) _)).2 o2 (by unfold maxLen; omega) (by omega) (by have := HB3.out.size; simp; omega) (w2.heap.size + 1) (by simp) ?_; intro g3 cap3 w3 hown3 hg3 hat3 hlt3; have HB4 := Lib.hid ((HB3.out.alloc (by have := HB3.out.size; omega) (.cells #[] 76)).grown hg3 (by have := HB3.out.size; simp; omega) (fun k hk => by have e : w2.heap.size = k := Option.some.inj hk; have := HB3.out.size; omega)); have HO3 := Lib.hid hown3; have HO2F := Lib.hid (own_kept HO2.out fun k e => (hg3.block k (by have := (HO2.out.lt k e).2; simp; omega) (fun e' => by have e' : k = w2.heap.size := Option.some.inj e'; have := (HO2.out.lt k e).2; omega)).trans (heap_alloc_old _ _ (HO2.out.lt k e).2)); have q4 := HR.out _ HB4.out; have r0 := blk_cell (i := 0) q4 rfl; have r1 := blk_cell (i := 1) q4 rfl; have f0 := blk_free (i := 0) q4; have f1 := blk_free (i := 1) q4; clear q4 hown3 hg3 hat3 hlt3))
  all_goals
    have o3 := HO2F.out
    have o4 := HO3.out
    rw [Nat.zero_add, List.nil_append] at o3 o4
    have hb5 : ((w3.setCell ⟨w.heap.size + 1, 0, none⟩ (.slice (some ⟨gg, 0, none⟩) n cap)).setCell ⟨w.heap.size + 1, 1, none⟩ (.slice (some ⟨g3, 0, none⟩) m cap3)).heap[w.heap.size + 1]? = some (.cells #[.slice (some ⟨gg, 0, none⟩) n cap, .slice (some ⟨g3, 0, none⟩) m cap3] 39 (0, 0)) := (blk_set (blk_set (HR.out _ HB4.out))).trans rfl
    have c0 : _ = some (Value.slice (some ⟨gg, 0, none⟩) n cap) := blk_cell (i := 0) hb5 rfl
    have c1 : _ = some (Value.slice (some ⟨g3, 0, none⟩) m cap3) := blk_cell (i := 1) hb5 rfl
    have hfar : ∀ k, w.heap.size + 2 ≤ k → ((w3.setCell ⟨w.heap.size + 1, 0, none⟩ (.slice (some ⟨gg, 0, none⟩) n cap)).setCell ⟨w.heap.size + 1, 1, none⟩ (.slice (some ⟨g3, 0, none⟩) m cap3)).heap[k]? = w3.heap[k]? := fun k hk => (set_cell_block (by omega)).trans (set_cell_block (by omega))
    have R1 := Lib.hid (own_base (own_kept o3 (fun k e => hfar k (o3.lt k e).1)) (B := w.heap.size) (by omega))
    have R2 := Lib.hid (own_base (own_kept o4 (fun k e => hfar k (o4.lt k e).1)) (B := w.heap.size) (by omega))
    have R3 := Lib.hid (((HB2.out.trans (HB4.out.mono (by omega))).setCell (p := ⟨w.heap.size + 1, 0, none⟩) (Nat.le_succ _) (.slice (some ⟨gg, 0, none⟩) n cap)).setCell (p := ⟨w.heap.size + 1, 1, none⟩) (Nat.le_succ _) (.slice (some ⟨g3, 0, none⟩) m cap3))
    clear hb5 hfar o3 o4
    go_wp2
    exact bodyPost_ret (v := .agg #[.slice (some ⟨gg, 0, none⟩) n cap, .slice (some ⟨g3, 0, none⟩) m cap3]) (by simp [results, Try.results14, go_sem, c0, c1]) rfl ⟨_, _, rfl, R1.out, R2.out, R3.out⟩
end Go.Proofs.Ytofpflkkbkodaaa.DkK
