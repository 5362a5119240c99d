/- append of a row that may be none, also at a step of a region that draws its order; the document's Add: the walk of its text. No conditions but those that each lemma names. -/
import Derived.Test.YtnebbbloipdnbaaIdxE
import Derived.Test.YtnebbbloipdnbaaIdxQ
import Derived.Deep.RegionHeldLaw
import Derived.Deep.AppendLies
namespace Go.Proofs.Ytnebbbloipdnbaa.IdxZ
open Go.RowKit
open IdxN IdxM IdxC IdxD IdxH IdxI IdxK IdxJ IdxW IdxQ IdxE
/-- A source row: none with nothing, or these cells lie there. -/
def Src (w : World) (ad : Option Addr) (m : Nat) (xs : List Value) : Prop := (0 < m → ∃ A, ad = some A) ∧ ∀ A, ad = some A → ∀ j u, xs[j]? = some u → w.cell? (A.add j) = some u
theorem Src.of {w : World} {ad : Option Addr} {l : List V} (h : Lies w ad l) : Src w ad l.length (rc l) := by
  refine ⟨fun h0 => ?_, fun A hA j u hj => ?_⟩
  · obtain ⟨g, o, e, _⟩ := h h0
    exact ⟨_, e⟩
  · have hlt : 0 < l.length := by
      have := (List.getElem?_eq_some_iff.1 hj).1
      rw [rc_length] at this
      omega
    obtain ⟨g, o, e, _, hc⟩ := h hlt
    rw [e] at hA
    cases hA
    rw [add_off]
    exact hc j u hj
theorem Src.one {w : World} {g : Nat} {v : V} {t : TypeId} (h : w.heap[g]? = some (.cells #[.int .i64 v.1, .int .i64 v.2.1, .int .i64 v.2.2] t (0, 0))) : Src w (some ⟨g, 0, none⟩) 1 (rc [v]) :=
  ⟨fun _ => ⟨_, rfl⟩, fun A hA j u hj => by
    cases hA
    rw [add_off, Nat.zero_add]
    exact blk_cell h (by rw [← Array.getElem?_toList]; exact hj)⟩
theorem run_append_any (w : World) (ty : TypeId) (base g0 n cap0 : Nat) (l : List V) (hown : w.ownsRow base 27 3 (.slice (some ⟨g0, 0, none⟩) n cap0) n (rc l))
    (ad : Option Addr) (m c : Nat) (k : List V) (hl : k.length = m) (hs : Src w ad m (rc k)) (hn : n + m ≤ 200000) (hbase : base ≤ w.heap.size) :
    ∃ g cap w', (Builtin.append_ #[22, 22] ty #[.slice (some ⟨g0, 0, none⟩) n cap0, .slice ad m c]).run Try.prog w = .ok (.slice (some ⟨g, 0, none⟩) (n + m) cap) w' ∧
      w'.ownsRow base 27 3 (.slice (some ⟨g, 0, none⟩) (n + m) cap) (n + m) (rc (l ++ k)) ∧ w.grownBy w' (some g0) := by
  obtain ⟨i0, hi, hz0, hz1, hz2⟩ := info_parts info_ver
  cases ad with
  | none =>
    have h0 : m = 0 := by
      cases m with
      | zero => rfl
      | succ m => obtain ⟨A, e⟩ := hs.1 (by omega); cases e
    subst h0
    have hk : k = [] := List.eq_nil_of_length_eq_zero hl
    subst hk
    refine ⟨g0, cap0, w, ?_, by simpa using hown, ⟨rfl, rfl, rfl, Nat.le_refl _, fun _ _ _ => rfl⟩⟩
    rcases hown.2 with ⟨e, _⟩ | ⟨g, cap, cur, e, _, hg, hc, _⟩
    · cases e
    · cases e
      simp [Builtin.append_, run_underlying Try.underlying22, sizeOf, typeInfo, hi, Builtin.lenOf, Builtin.firstCells, loadCells, hc, storeCells]
  | some A =>
    obtain ⟨v', w', hr, h2, h3, h4, _⟩ := run_append_own_at (P := Try.prog) w base 22 ty 27 i0 (.agg #[.int .i64 0, .int .i64 0, .int .i64 0]) 3 24 Try.underlying22 hi hz0 hz1 hz2 rfl (by omega) _ n (rc l) hown A m c (rc k) (by rw [rc_length, hl]) (hs.2 A rfl) (rc_one k) (by unfold maxLen; omega) (by omega) hbase
    rcases h2.2 with ⟨hn', _⟩ | ⟨g, cap, cur, rfl, _, hg, _⟩
    · have := (h4.1 hn').1
      simp at this
    · exact ⟨g, cap, w', hr, by rw [rc_append]; exact h2, h3⟩
theorem step_append_any (w : World) {ops : Array Oper} {o : Oper} {a : Act} {K : Act → World → Prop} {Q : Exit → Act → World → Prop} {E : Prop} (hgd : o.guard = none) (s x : Operand)
    (ho : o.op = .call { callee := .builtin .append, args := #[s, x], argTypes := #[22, 22] })
    (base g0 n cap0 : Nat) (l : List V) (hs : a.eval s = .slice (some ⟨g0, 0, none⟩) n cap0) (hown : w.ownsRow base 27 3 (.slice (some ⟨g0, 0, none⟩) n cap0) n (rc l))
    (ad : Option Addr) (m c : Nat) (k : List V) (hx : a.eval x = .slice ad m c) (hl : k.length = m) (hsrc : Src w ad m (rc k)) (hn : n + m ≤ 200000) (hbase : base ≤ w.heap.size)
    (h : ∀ g cap w', w'.ownsRow base 27 3 (.slice (some ⟨g, 0, none⟩) (n + m) cap) (n + m) (rc (l ++ k)) → w.grownBy w' (some g0) → K (a.put o.dst (.slice (some ⟨g, 0, none⟩) (n + m) cap)) w') :
    if Region.wanted o (yielded ops a.tmps) = true then Oper.wp Try.prog o a w K Q else E := by
  have hw : Region.wanted o (yielded ops a.tmps) = true := by simp [Region.wanted, hgd]
  rw [if_pos hw]
  obtain ⟨g, cap, w', hr, h2, h3⟩ := run_append_any w o.type base g0 n cap0 l hown ad m c k hl hsrc hn hbase
  unfold Oper.wp execOp
  simp only [ho, resolve, invoke, builtin, Sem.run_bind, Sem.run_pure, Result.andThen_ok, List.map_toArray, List.map_cons, List.map_nil, hs, hx, hr]
  exact h g cap w' h2 h3
theorem list_append_any (w : World) {ops : Array Oper} {rest : List Oper} {o : Oper} {a : Act} {Q : Exit → Act → World → Prop} (hgd : o.guard = none) (s x : Operand)
    (ho : o.op = .call { callee := .builtin .append, args := #[s, x], argTypes := #[22, 22] })
    (base g0 n cap0 : Nat) (l : List V) (hs : a.eval s = .slice (some ⟨g0, 0, none⟩) n cap0) (hown : w.ownsRow base 27 3 (.slice (some ⟨g0, 0, none⟩) n cap0) n (rc l))
    (ad : Option Addr) (m c : Nat) (k : List V) (hx : a.eval x = .slice ad m c) (hl : k.length = m) (hsrc : Src w ad m (rc k)) (hn : n + m ≤ 200000) (hbase : base ≤ w.heap.size)
    (h : ∀ g cap w', w'.ownsRow base 27 3 (.slice (some ⟨g, 0, none⟩) (n + m) cap) (n + m) (rc (l ++ k)) → w.grownBy w' (some g0) → wpList Try.prog ops Q rest (a.put o.dst (.slice (some ⟨g, 0, none⟩) (n + m) cap)) w') :
    wpList Try.prog ops Q (o :: rest) a w := by
  refine wpList_plain hgd fun _ hK => ?_
  obtain ⟨g, cap, w', hr, h2, h3⟩ := run_append_any w o.type base g0 n cap0 l hown ad m c k hl hsrc hn hbase
  unfold Oper.wp execOp
  simp only [ho, resolve, invoke, builtin, Sem.run_bind, Sem.run_pure, Result.andThen_ok, List.map_toArray, List.map_cons, List.map_nil, hs, hx, hr]
  exact hK _ _ (h g cap w' h2 h3)
theorem made_own {W : World} {base g : Nat} {e : TypeId} {size : Nat} (hg : W.heap[g]? = some (.cells #[] e (0, 0))) (hb : base ≤ g) : W.ownsRow base e size (.slice (some ⟨g, 0, none⟩) 0 0) 0 [] :=
  ⟨by simp, .inr ⟨g, 0, #[], rfl, hb, hg, Nat.le_refl _, Nat.zero_le _, by simp, by simp⟩⟩
/-- The first append: a row copied onto an empty one of the call's own. -/
theorem append1 (w3 W : World) {ops : Array Oper} {o : Oper} {a : Act} {K : Act → World → Prop} {Q : Exit → Act → World → Prop} {E : Prop} (d : Option Tmp) (hd : o.dst = d) (hgd : o.guard = none) (s x : Operand)
    (ho : o.op = .call { callee := .builtin .append, args := #[s, x], argTypes := #[22, 22] })
    (g0 c : Nat) (ad : Option Addr) (l : List V) (hs : a.eval s = .slice (some ⟨g0, 0, none⟩) 0 0) (hx : a.eval x = .slice ad l.length c)
    (hB : Below w3.heap.size w3 W) (hA : W.heap[g0]? = some (.cells #[] 27 (0, 0))) (hg : w3.heap.size ≤ g0) (hL : Lies w3 ad l) (hl : l.length ≤ 100000)
    (h : ∀ g cap w', w'.ownsRow w3.heap.size 27 3 (.slice (some ⟨g, 0, none⟩) l.length cap) l.length (rc l) → Below w3.heap.size w3 w' → (∀ k, k < W.heap.size → k ≠ g0 → w'.heap[k]? = W.heap[k]?) → K (a.put d (.slice (some ⟨g, 0, none⟩) l.length cap)) w') :
    if Region.wanted o (yielded ops a.tmps) = true then Oper.wp Try.prog o a W K Q else E := by
  subst hd
  refine step_append_any W hgd s x ho w3.heap.size g0 0 0 [] hs (made_own hA hg) ad l.length c l hx rfl (Src.of (hL.step hB)) (by omega) hB.size ?_
  intro g cap w' hown hgrow
  rw [Nat.zero_add] at hown ⊢
  exact h g cap w' hown (hB.grown hgrow hB.size fun k hk => by have e : g0 = k := Option.some.inj hk; omega) fun k hk hn => hgrow.block k hk fun e => hn (Option.some.inj e)
/-- The second one: a version laid ahead, appended. -/
theorem append2 (w3 W : World) {ops : Array Oper} {o : Oper} {a : Act} {K : Act → World → Prop} {Q : Exit → Act → World → Prop} {E : Prop} (d : Option Tmp) (hd : o.dst = d) (hgd : o.guard = none) (s x : Operand)
    (ho : o.op = .call { callee := .builtin .append, args := #[s, x], argTypes := #[22, 22] })
    (g cap S : Nat) (l : List V) (v : V) (hs : a.eval s = .slice (some ⟨g, 0, none⟩) l.length cap) (hx : a.eval x = .slice (some ⟨S, 0, none⟩) 1 1)
    (hB : Below w3.heap.size w3 W) (hO : W.ownsRow w3.heap.size 27 3 (.slice (some ⟨g, 0, none⟩) l.length cap) l.length (rc l)) (hS : W.heap[S]? = some (.cells #[.int .i64 v.1, .int .i64 v.2.1, .int .i64 v.2.2] 27 (0, 0))) (hl : l.length ≤ 100000)
    (h : ∀ g' cap' w', w'.ownsRow w3.heap.size 27 3 (.slice (some ⟨g', 0, none⟩) (l.length + 1) cap') (l.length + 1) (rc (l ++ [v])) → Below w3.heap.size w3 w' → K (a.put d (.slice (some ⟨g', 0, none⟩) (l.length + 1) cap')) w') :
    if Region.wanted o (yielded ops a.tmps) = true then Oper.wp Try.prog o a W K Q else E := by
  subst hd
  refine step_append_any W hgd s x ho w3.heap.size g l.length cap l hs hO (some ⟨S, 0, none⟩) 1 1 [v] hx rfl (Src.one hS) (by omega) hB.size ?_
  intro g' cap' w' hown hgrow
  exact h g' cap' w' hown (hB.grown hgrow hB.size fun k hk => (hO.lt k hk).1)
/-- What the document's Add leaves: the row that was, or one of the call's own. -/
def Put (a : Option Addr) (r : List V) (n : Int) (w : World) (e : Ending) (w' : World) : Prop :=
  ∃ p c, e = .returned (.tuple #[.slice p r.length c, .int .i64 n]) ∧ Lies w' p r ∧ (p = a ∨ ∃ g, p = some ⟨g, 0, none⟩ ∧ w.heap.size ≤ g ∧ g < w'.heap.size) ∧ Below w.heap.size w w'
theorem Add_no (a : Option Addr) (c : Nat) (l : List V) (x : V) (w : World) (h : Lies w a l) (hm : may x = false) :
    Calls Try.prog 9 #[.slice a l.length c, .agg #[.int .i64 x.1, .int .i64 x.2.1, .int .i64 x.2.2]] w (Put a l 2 w) := by
  have HX := Lib.hid (box_new w x)
  have HB := Lib.hid (below_new w (.cells #[.int .i64 x.1, .int .i64 x.2.1, .int .i64 x.2.2] 27))
  have HL := Lib.hid h
  have HR := Lib.hid (fun W => Right x W)
  rw [hm] at HR
  clear h hm
  obtain ⟨x0, x1, x2⟩ := x
  dsimp only at HX HB HR ⊢
  go_enter Try.func9, Try.ntmps9
  go_upto_region 1 with (fail)
  generalize World.alloc w _ = W1 at *
  obtain ⟨k0, k1, k2⟩ := HX.out
  dsimp only at k0 k1 k2
  go_wp2_with (go_at_call 24; refine (HR.out _).mono ?_; rintro e w2 ⟨rfl, hb⟩; have B2 := Lib.hid (HB.out.trans (hb.mono HB.out.size)); clear hb)
  go_ret2
  exact ⟨a, c, rfl, HL.out.step B2.out, .inl rfl, B2.out⟩
set_option maxRecDepth 100000 in
theorem Add_twice (a : Option Addr) (c : Nat) (l : List V) (x : V) (w : World) (h : Lies w a l) (hl : l.length ≤ 100000) (hm : may x = true) (hx : x ∈ l) :
    Calls Try.prog 9 #[.slice a l.length c, .agg #[.int .i64 x.1, .int .i64 x.2.1, .int .i64 x.2.2]] w (Put a l 19 w) := by
  have HX := Lib.hid (box_new w x)
  have HB := Lib.hid (below_new w (.cells #[.int .i64 x.1, .int .i64 x.2.1, .int .i64 x.2.2] 27))
  have HL := Lib.hid h
  have HR := Lib.hid (fun W => Right x W)
  rw [hm] at HR
  have HI := Lib.hid (fun W (h : Lies W a l) => In a c l x W h hl)
  rw [decide_eq_true hx] at HI
  clear h hm hx
  obtain ⟨x0, x1, x2⟩ := x
  dsimp only at HX HB HR HI ⊢
  go_enter Try.func9, Try.ntmps9
  go_upto_region 1 with (fail)
  generalize World.alloc w _ = W1 at *
  obtain ⟨k0, k1, k2⟩ := HX.out
  dsimp only at k0 k1 k2
  go_wp2_with (first
    | (go_at_call 24; refine (HR.out _).mono ?_; rintro e w2 ⟨rfl, hb⟩; have B2 := Lib.hid (HB.out.trans (hb.mono HB.out.size)); clear k0 k1 k2; obtain ⟨k0, k1, k2⟩ := HX.out.step hb; dsimp only at k0 k1 k2; clear hb)
    | (go_at_call 23; refine (HI.out _ (HL.out.step B2.out)).mono ?_; rintro e w3 ⟨rfl, hb⟩; have B3 := Lib.hid (B2.out.trans (hb.mono B2.out.size)); clear hb))
  go_ret2
  exact ⟨a, c, rfl, HL.out.step B3.out, .inl rfl, B3.out⟩
set_option maxRecDepth 100000 in
set_option maxHeartbeats 4000000 in
theorem Add_yes (a : Option Addr) (c : Nat) (l : List V) (x : V) (w : World) (h : Lies w a l) (hl : l.length ≤ 100000) (hm : may x = true) (hx : ¬ x ∈ l) :
    Calls Try.prog 9 #[.slice a l.length c, .agg #[.int .i64 x.1, .int .i64 x.2.1, .int .i64 x.2.2]] w (Put a (l ++ [x]) 0 w) := by
  have HX := Lib.hid (box_new w x)
  have HB := Lib.hid (below_new w (.cells #[.int .i64 x.1, .int .i64 x.2.1, .int .i64 x.2.2] 27))
  have HL := Lib.hid h
  have HR := Lib.hid (fun W => Right x W)
  rw [hm] at HR
  have HI := Lib.hid (fun W (h : Lies W a l) => In a c l x W h hl)
  rw [decide_eq_false hx] at HI
  obtain ⟨r', hr'⟩ : ∃ r', r' = l ++ [x] := ⟨_, rfl⟩
  rw [← hr']
  have HRR := Lib.hid hr'
  clear h hm hx hr'
  obtain ⟨x0, x1, x2⟩ := x
  dsimp only at HX HB HR HI ⊢
  go_enter Try.func9, Try.ntmps9
  go_upto_region 1 with (fail)
  generalize World.alloc w _ = W1 at *
  obtain ⟨k0, k1, k2⟩ := HX.out
  dsimp only at k0 k1 k2
  go_upto_region 5 with (first
    | (go_at_call 24; refine (HR.out _).mono ?_; rintro e w2 ⟨rfl, hb⟩; have B2 := Lib.hid (HB.out.trans (hb.mono HB.out.size)); have X2 := Lib.hid (HX.out.step hb); clear k0 k1 k2; obtain ⟨k0, k1, k2⟩ := X2.out; dsimp only at k0 k1 k2; clear hb HX)
    | (go_at_call 23; refine (HI.out _ (HL.out.step B2.out)).mono ?_; rintro e w3 ⟨rfl, hb⟩; have B3 := Lib.hid (B2.out.trans (hb.mono B2.out.size)); have X3 := Lib.hid (X2.out.step hb); clear hb X2))
  clear k0 k1 k2
  obtain ⟨k0, k1, k2⟩ := X3.out
  dsimp only at k0 k1 k2
  have L3 := Lib.hid (HL.out.step B3.out)
  have hbB : w.heap.size < w3.heap.size := X3.out.lt
  have bA := Lib.hid (below_new w3 (.cells #[] 27)).drew
  have bB := Lib.hid (show Below w3.heap.size w3 ((w3.alloc (.cells #[] 27)).alloc (.cells #[.int .i64 x0, .int .i64 x1, .int .i64 x2] 27)).drew from (((Below.refl _ _).alloc (Nat.le_refl _) _).alloc (by simp) _).drew)
  have bC := Lib.hid (show Below w3.heap.size w3 ((w3.alloc (.cells #[.int .i64 x0, .int .i64 x1, .int .i64 x2] 27)).alloc (.cells #[] 27)).drew from (((Below.refl _ _).alloc (Nat.le_refl _) _).alloc (by simp) _).drew)
  have pA : Hid ((w3.alloc (.cells #[] 27)).drew.heap[w3.heap.size]? = some (.cells #[] 27 (0, 0))) := Lib.hid (heap_alloc_new w3 _)
  have pB : Hid (((w3.alloc (.cells #[] 27)).alloc (.cells #[.int .i64 x0, .int .i64 x1, .int .i64 x2] 27)).drew.heap[w3.heap.size]? = some (.cells #[] 27 (0, 0))) := Lib.hid (heap_alloc2_old w3 _ _)
  have qB : Hid (((w3.alloc (.cells #[] 27)).alloc (.cells #[.int .i64 x0, .int .i64 x1, .int .i64 x2] 27)).drew.heap[w3.heap.size + 1]? = some (.cells #[.int .i64 x0, .int .i64 x1, .int .i64 x2] 27 (0, 0))) := Lib.hid (heap_alloc2_new w3 _ _)
  have pC : Hid (((w3.alloc (.cells #[.int .i64 x0, .int .i64 x1, .int .i64 x2] 27)).alloc (.cells #[] 27)).drew.heap[w3.heap.size + 1]? = some (.cells #[] 27 (0, 0))) := Lib.hid (heap_alloc2_new w3 _ _)
  have qC : Hid (((w3.alloc (.cells #[.int .i64 x0, .int .i64 x1, .int .i64 x2] 27)).alloc (.cells #[] 27)).drew.heap[w3.heap.size]? = some (.cells #[.int .i64 x0, .int .i64 x1, .int .i64 x2] 27 (0, 0))) := Lib.hid (heap_alloc2_old w3 _ _)
  have HS : Hid (∀ W, Below w3.heap.size w3 W → W.cell? ⟨w.heap.size, 0, none⟩ = some (.int .i64 x0) ∧ W.cell? ⟨w.heap.size, 1, none⟩ = some (.int .i64 x1) ∧ W.cell? ⟨w.heap.size, 2, none⟩ = some (.int .i64 x2)) := Lib.hid fun W hb => X3.out.step hb
  have HQB : Hid (∀ w' : World, (∀ k, k < ((w3.alloc (.cells #[] 27)).alloc (.cells #[.int .i64 x0, .int .i64 x1, .int .i64 x2] 27)).drew.heap.size → k ≠ w3.heap.size → w'.heap[k]? = ((w3.alloc (.cells #[] 27)).alloc (.cells #[.int .i64 x0, .int .i64 x1, .int .i64 x2] 27)).drew.heap[k]?) → w'.heap[w3.heap.size + 1]? = some (.cells #[.int .i64 x0, .int .i64 x1, .int .i64 x2] 27 (0, 0))) := Lib.hid fun w' f => (f _ (lt_of qB.out) (by omega)).trans qB.out
  have HQC : Hid (∀ w' : World, (∀ k, k < ((w3.alloc (.cells #[.int .i64 x0, .int .i64 x1, .int .i64 x2] 27)).alloc (.cells #[] 27)).drew.heap.size → k ≠ w3.heap.size + 1 → w'.heap[k]? = ((w3.alloc (.cells #[.int .i64 x0, .int .i64 x1, .int .i64 x2] 27)).alloc (.cells #[] 27)).drew.heap[k]?) → w'.heap[w3.heap.size]? = some (.cells #[.int .i64 x0, .int .i64 x1, .int .i64 x2] 27 (0, 0))) := Lib.hid fun w' f => (f _ (lt_of qC.out) (by omega)).trans qC.out
  have hS0 : w3.cell? ⟨w.heap.size, 0, none⟩ = some (.int .i64 x0) ∧ w3.cell? ⟨w.heap.size, 1, none⟩ = some (.int .i64 x1) ∧ w3.cell? ⟨w.heap.size, 2, none⟩ = some (.int .i64 x2) := ⟨k0, k1, k2⟩
  go_region_held_law (fun w' => w'.cell? ⟨w.heap.size, 0, none⟩ = some (.int .i64 x0) ∧ w'.cell? ⟨w.heap.size, 1, none⟩ = some (.int .i64 x1) ∧ w'.cell? ⟨w.heap.size, 2, none⟩ = some (.int .i64 x2))
    (first | exact hS0 | exact HS.out _ B5.out | exact HS.out _ B4.out | exact HS.out _ bA.out | exact HS.out _ bB.out | exact HS.out _ bC.out | exact HS.out _ (B4.out.alloc B4.out.size _) | exact HS.out _ ((below_new w3 _).drew) | go_keep)
    (first
      | (refine append1 w3 _ (some 16) rfl rfl _ _ rfl w3.heap.size c a l rfl rfl bA.out pA.out (Nat.le_refl _) L3.out hl ?_; intro gg cap w4 o4 b4 f4; have O4 := Lib.hid o4; have B4 := Lib.hid b4; have F4 := Lib.hid f4; clear o4 b4 f4)
      | (refine append1 w3 _ (some 16) rfl rfl _ _ rfl w3.heap.size c a l rfl rfl bB.out pB.out (Nat.le_refl _) L3.out hl ?_; intro gg cap w4 o4 b4 f4; have O4 := Lib.hid o4; have B4 := Lib.hid b4; have Q4 := Lib.hid (HQB.out _ f4); clear o4 b4 f4)
      | (refine append1 w3 _ (some 16) rfl rfl _ _ rfl (w3.heap.size + 1) c a l rfl rfl bC.out pC.out (Nat.le_succ _) L3.out hl ?_; intro gg cap w4 o4 b4 f4; have O4 := Lib.hid o4; have B4 := Lib.hid b4; have Q4 := Lib.hid (HQC.out _ f4); clear o4 b4 f4)
      | (refine append2 w3 _ (some 19) rfl rfl _ _ rfl gg cap (w3.heap.size + 1) l (x0, x1, x2) rfl rfl B4.out O4.out Q4.out hl ?_; intro g5 cap5 w5 o5 b5; have B5 := Lib.hid b5; have O5 := Lib.hid o5; clear o5 b5)
      | (refine append2 w3 _ (some 19) rfl rfl _ _ rfl gg cap w3.heap.size l (x0, x1, x2) rfl rfl B4.out O4.out Q4.out hl ?_; intro g5 cap5 w5 o5 b5; have B5 := Lib.hid b5; have O5 := Lib.hid o5; clear o5 b5)
      | (refine append2 w3 _ (some 19) rfl rfl _ _ rfl gg cap w4.heap.size l (x0, x1, x2) rfl rfl (B4.out.alloc B4.out.size _) (O4.out.alloc _) (heap_alloc_new w4 _) hl ?_; intro g5 cap5 w5 o5 b5; have B5 := Lib.hid b5; have O5 := Lib.hid o5; clear o5 b5))
  all_goals
    have hlen : r'.length = l.length + 1 := by rw [HRR.out]; simp
    have O6 : Hid (w5.ownsRow w3.heap.size 27 3 (.slice (some ⟨g5, 0, none⟩) r'.length cap5) r'.length (rc r')) := Lib.hid (by rw [hlen, HRR.out]; exact O5.out)
    have HLEN := Lib.hid hlen
    have E5 := Lib.hid (B3.out.trans (B5.out.mono B3.out.size))
    clear hlen O5 HS HL k0 k1 k2 hS0
    go_wp2
    go_ret2
    exact ⟨some ⟨g5, 0, none⟩, cap5, by rw [HLEN.out] <;> rfl, own_lies O6.out, .inr ⟨g5, rfl, by have := (O6.out.lt g5 rfl).1; omega, (O6.out.lt g5 rfl).2⟩, E5.out⟩
end Go.Proofs.Ytnebbbloipdnbaa.IdxZ
