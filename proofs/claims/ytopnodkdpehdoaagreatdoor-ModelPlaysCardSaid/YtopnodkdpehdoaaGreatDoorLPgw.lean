/- PgW PgX PgR: one behind the other. -/
import Derived.Test.YtopnodkdpehdoaaGreatDoorPgI
import Derived.Test.YtopnodkdpehdoaaGreatDoorLPgc
/- The program's newest: the walk of its text. No conditions but those that each lemma names. -/
namespace Go.Proofs.YtopnodkdpehdoaaGreatDoor.PgW
set_option linter.unusedVariables false
open Go.RowKit Go.Shelf
open RecN RecC RetN RetC RetR DbN DbA MdN MdO MdC MdG PgN PgC PgI
attribute [local go_sem] Oper.semAt_some
theorem infoP : (Tryz.prog.info? 91).map (·.size) = some 3 := by kernel_rfl
/-- Results: a struct in one block, a value of one cell in another one. -/
theorem results_row_cell {P : Program} {fn : Func} {p u : Tmp} {ty tu : TypeId} (h : fn.results = #[.cell p ty, .cell u tu]) (tmps : Array Value) (w : World) (g e : Nat) (t : TypeId) (cs : Array Value) (fr : Nat × Nat) (d : TypeDesc) (v : Value)
    (hp : tmps.getD p undef = .pointer (some ⟨g, 0, none⟩)) (hg : w.heap[g]? = some (.cells cs t fr))
    (hu : P.underlying ty = some d) (hd : (match d with | .struct _ | .array _ _ => true | _ => false) = true) (hi : (P.info? ty).map (·.size) = some cs.size)
    (hq : tmps.getD u undef = .pointer (some ⟨e, 0, none⟩)) (hb : (loadVar tu ⟨e, 0, none⟩).run P w = .ok v w) :
    (results fn tmps).run P w = .ok (.tuple #[.agg cs, v]) w := by
  have e1 : (results fn tmps).run P w =
      ((asAddr (tmps.getD p undef)).run P w).andThen fun a w₁ => ((loadVar ty a).run P w₁).andThen fun x w₂ => ((asAddr (tmps.getD u undef)).run P w₂).andThen fun b w₃ => ((loadVar tu b).run P w₃).andThen fun y w₄ => .ok (.tuple #[x, y]) w₄ := by
    simp only [results, h]
    simp [Sem.run_bind, Result.andThen]
  rw [e1, hp, hq]
  simp [asAddr, run_loadVar_row w g t ty cs fr d hg hu hd hi, Result.andThen, hb]
theorem load_bool {W : World} {e : Nat} {b : Bool} (h : W.cell? ⟨e, 0, none⟩ = some (.bool b)) : (loadVar 4 ⟨e, 0, none⟩).run Tryz.prog W = .ok (.bool b) W := by
  simp [go_sem, h]
/-- The boxes: the place, the epochs, the results. -/
structure Nb (w : World) (lba fr tl : Int) (r : V) (b : Bool) (T : Nat → Prop) (W : World) : Prop where
  safe : MerG.Safe w.heap.size w T W
  b0 : ¬ T w.heap.size ∧ W.heap[w.heap.size]? = some (.cells #[.int .i64 lba] 3 (0, 0))
  b1 : ¬ T (w.heap.size + 1) ∧ W.heap[w.heap.size + 1]? = some (.cells #[.int .i64 fr] 3 (0, 0))
  b2 : ¬ T (w.heap.size + 1 + 1) ∧ W.heap[w.heap.size + 1 + 1]? = some (.cells #[.int .i64 tl] 3 (0, 0))
  b3 : ¬ T (w.heap.size + 1 + 1 + 1) ∧ W.heap[w.heap.size + 1 + 1 + 1]? = some (.cells #[.int .i64 r.lb, .int .i64 r.ep, .string ⟨r.da.toArray⟩] 91 (0, 0))
  b4 : ¬ T (w.heap.size + 1 + 1 + 1 + 1) ∧ W.heap[w.heap.size + 1 + 1 + 1 + 1]? = some (.cells #[.bool b] 4 (0, 0))
theorem Nb.turns {w : World} {lba fr tl : Int} {r : V} {b : Bool} {T T' : Nat → Prop} {X Y : World} (h : Nb w lba fr tl r b T X) (ht : MerG.Turns T T' X Y) : Nb w lba fr tl r b T' Y :=
  ⟨h.safe.turns (Nat.le_refl _) ht, ht.heap h.b0, ht.heap h.b1, ht.heap h.b2, ht.heap h.b3, ht.heap h.b4⟩
theorem heap_below {n : Nat} {X Y : World} {T : Nat → Prop} {k : Nat} {o : Obj} (h : ¬ T k ∧ X.heap[k]? = some o) (hb : Below X.heap.size X Y) : ¬ T k ∧ Y.heap[k]? = some o := ⟨h.1, (hb.block _ (lt_of_some h.2)).trans h.2⟩
theorem Nb.step {w : World} {lba fr tl : Int} {r : V} {b : Bool} {T : Nat → Prop} {X Y : World} (h : Nb w lba fr tl r b T X) (hb : Below X.heap.size X Y) : Nb w lba fr tl r b T Y :=
  ⟨⟨h.safe.1, h.safe.2.trans (hb.mono h.safe.2.size)⟩, heap_below (n := 0) h.b0 hb, heap_below (n := 0) h.b1 hb, heap_below (n := 0) h.b2 hb, heap_below (n := 0) h.b3 hb, heap_below (n := 0) h.b4 hb⟩
/-- The results are stored. -/
def stored (w X : World) (v : V) (c : Bool) : World := (((X.setCell ⟨w.heap.size + 1 + 1 + 1, 0, none⟩ (.int .i64 v.lb)).setCell ⟨w.heap.size + 1 + 1 + 1, 1, none⟩ (.int .i64 v.ep)).setCell ⟨w.heap.size + 1 + 1 + 1, 2, none⟩ (.string ⟨v.da.toArray⟩)).setCell ⟨w.heap.size + 1 + 1 + 1 + 1, 0, none⟩ (.bool c)
theorem stored_other (w X : World) (v : V) (c : Bool) (k : Nat) (h1 : k ≠ w.heap.size + 1 + 1 + 1) (h2 : k ≠ w.heap.size + 1 + 1 + 1 + 1) : (stored w X v c).heap[k]? = X.heap[k]? := by
  unfold stored
  rw [Below.heap_setCell _ _ _ _ h2, Below.heap_setCell _ _ _ _ h1, Below.heap_setCell _ _ _ _ h1, Below.heap_setCell _ _ _ _ h1]
theorem Nb.fin {w : World} {lba fr tl : Int} {r : V} {b : Bool} {T : Nat → Prop} {X : World} (h : Nb w lba fr tl r b T X) (v : V) (c : Bool) : Nb w lba fr tl v c T (stored w X v c) := by
  have hb : Below w.heap.size w (stored w X v c) :=
    (((h.safe.2.setCell (p := ⟨w.heap.size + 1 + 1 + 1, 0, none⟩) (by show w.heap.size ≤ w.heap.size + 1 + 1 + 1; omega) _).setCell (p := ⟨w.heap.size + 1 + 1 + 1, 1, none⟩) (by show w.heap.size ≤ w.heap.size + 1 + 1 + 1; omega) _).setCell (p := ⟨w.heap.size + 1 + 1 + 1, 2, none⟩) (by show w.heap.size ≤ w.heap.size + 1 + 1 + 1; omega) _).setCell (p := ⟨w.heap.size + 1 + 1 + 1 + 1, 0, none⟩) (by show w.heap.size ≤ w.heap.size + 1 + 1 + 1 + 1; omega) _
  refine ⟨⟨h.safe.1, hb⟩, ⟨h.b0.1, ?_⟩, ⟨h.b1.1, ?_⟩, ⟨h.b2.1, ?_⟩, ⟨h.b3.1, ?_⟩, ⟨h.b4.1, ?_⟩⟩
  · rw [stored_other _ _ _ _ _ (by omega) (by omega)]; exact h.b0.2
  · rw [stored_other _ _ _ _ _ (by omega) (by omega)]; exact h.b1.2
  · rw [stored_other _ _ _ _ _ (by omega) (by omega)]; exact h.b2.2
  · unfold stored
    rw [Below.heap_setCell _ _ _ _ (show w.heap.size + 1 + 1 + 1 ≠ w.heap.size + 1 + 1 + 1 + 1 by omega)]
    exact blk_set (blk_set (blk_set h.b3.2))
  · unfold stored
    refine blk_set (i := 0) (u := .bool c) (Eq.trans ?_ h.b4.2)
    rw [Below.heap_setCell _ _ _ _ (show w.heap.size + 1 + 1 + 1 + 1 ≠ w.heap.size + 1 + 1 + 1 by omega), Below.heap_setCell _ _ _ _ (show w.heap.size + 1 + 1 + 1 + 1 ≠ w.heap.size + 1 + 1 + 1 by omega), Below.heap_setCell _ _ _ _ (show w.heap.size + 1 + 1 + 1 + 1 ≠ w.heap.size + 1 + 1 + 1 by omega)]
theorem stored_kept (w X : World) (v : V) (c : Bool) (T : Nat → Prop) (h1 : ¬ T (w.heap.size + 1 + 1 + 1)) (h2 : ¬ T (w.heap.size + 1 + 1 + 1 + 1)) : MerG.Kept T X (stored w X v c) :=
  ((((MerG.Kept.refl T X).setCell (p := ⟨w.heap.size + 1 + 1 + 1, 0, none⟩) h1 _).setCell (p := ⟨w.heap.size + 1 + 1 + 1, 1, none⟩) h1 _).setCell (p := ⟨w.heap.size + 1 + 1 + 1, 2, none⟩) h1 _).setCell (p := ⟨w.heap.size + 1 + 1 + 1 + 1, 0, none⟩) h2 _
theorem nb_new (w : World) (lba fr tl : Int) : Nb w lba fr tl v0 false MerG.Non (((((w.alloc (.cells #[.int .i64 lba] 3)).alloc (.cells #[.int .i64 fr] 3)).alloc (.cells #[.int .i64 tl] 3)).alloc (.cells #[.int .i64 0, .int .i64 0, .string ⟨#[]⟩] 91)).alloc (.cells #[.bool false] 4)) := by
  obtain ⟨W1, e1⟩ : ∃ W, W = w.alloc (.cells #[.int .i64 lba] 3) := ⟨_, rfl⟩
  obtain ⟨W2, e2⟩ : ∃ W, W = W1.alloc (.cells #[.int .i64 fr] 3) := ⟨_, rfl⟩
  obtain ⟨W3, e3⟩ : ∃ W, W = W2.alloc (.cells #[.int .i64 tl] 3) := ⟨_, rfl⟩
  obtain ⟨W4, e4⟩ : ∃ W, W = W3.alloc (.cells #[.int .i64 0, .int .i64 0, .string ⟨#[]⟩] 91) := ⟨_, rfl⟩
  obtain ⟨W5, e5⟩ : ∃ W, W = W4.alloc (.cells #[.bool false] 4) := ⟨_, rfl⟩
  rw [← e1, ← e2, ← e3, ← e4, ← e5]
  have s1 : W1.heap.size = w.heap.size + 1 := by rw [e1]; simp
  have s2 : W2.heap.size = w.heap.size + 1 + 1 := by rw [e2, ← s1]; simp
  have s3 : W3.heap.size = w.heap.size + 1 + 1 + 1 := by rw [e3, ← s2]; simp
  have s4 : W4.heap.size = w.heap.size + 1 + 1 + 1 + 1 := by rw [e4, ← s3]; simp
  have b1 : Below w.heap.size w W1 := by rw [e1]; exact below_new _ _
  have b2 : Below W1.heap.size W1 W2 := by rw [e2]; exact below_new _ _
  have b3 : Below W2.heap.size W2 W3 := by rw [e3]; exact below_new _ _
  have b4 : Below W3.heap.size W3 W4 := by rw [e4]; exact below_new _ _
  have b5 : Below W4.heap.size W4 W5 := by rw [e5]; exact below_new _ _
  have h1 : W1.heap[w.heap.size]? = some (.cells #[.int .i64 lba] 3 (0, 0)) := by rw [e1]; exact heap_alloc_new w _
  have h2 : W2.heap[w.heap.size + 1]? = some (.cells #[.int .i64 fr] 3 (0, 0)) := by rw [e2, ← s1]; exact heap_alloc_new W1 _
  have h3 : W3.heap[w.heap.size + 1 + 1]? = some (.cells #[.int .i64 tl] 3 (0, 0)) := by rw [e3, ← s2]; exact heap_alloc_new W2 _
  have h4 : W4.heap[w.heap.size + 1 + 1 + 1]? = some (.cells #[.int .i64 0, .int .i64 0, .string ⟨#[]⟩] 91 (0, 0)) := by rw [e4, ← s3]; exact heap_alloc_new W3 _
  have h5 : W5.heap[w.heap.size + 1 + 1 + 1 + 1]? = some (.cells #[.bool false] 4 (0, 0)) := by rw [e5, ← s4]; exact heap_alloc_new W4 _
  have no : ∀ k, ¬ MerG.Non k := fun k h => h
  refine ⟨⟨fun b h => h.elim, (((b1.trans (b2.mono (by omega))).trans (b3.mono (by omega))).trans (b4.mono (by omega))).trans (b5.mono (by omega))⟩, ⟨no _, ?_⟩, ⟨no _, ?_⟩, ⟨no _, ?_⟩, ⟨no _, ?_⟩, ⟨no _, h5⟩⟩
  · exact (b5.block _ (by omega)).trans ((b4.block _ (by omega)).trans ((b3.block _ (by omega)).trans ((b2.block _ (by omega)).trans h1)))
  · exact (b5.block _ (by omega)).trans ((b4.block _ (by omega)).trans ((b3.block _ (by omega)).trans h2))
  · exact (b5.block _ (by omega)).trans ((b4.block _ (by omega)).trans h3)
  · exact (b5.block _ (by omega)).trans h4
/-- What newest answers. -/
def nwR (o : Option V) : V × Bool := match o with
  | none => (v0, false)
  | some v => (v, true)
/-- The turn of a block that holds no cells. -/
theorem put_turns {T : Nat → Prop} {W : World} {l : Nat} (hl : T l) (o : Obj) : MerG.Turns T T W (W.putObj l o) := MerG.Turns.putObj hl o
set_option maxRecDepth 100000 in
set_option maxHeartbeats 8000000 in
theorem newest {base : Nat} {A : Pm} {m : Mo} {w : World} (h : Pg base A m w) (lba fr tl : Int) :
    Calls Tryz.prog 43 #[.pointer (some ⟨A.y, 0, none⟩), .int .i64 lba, .int .i64 fr, .int .i64 tl] w fun e w' => e = .returned (.tuple #[.agg #[.int .i64 (nwR (bst m.vs lba fr tl)).1.lb, .int .i64 (nwR (bst m.vs lba fr tl)).1.ep, .string ⟨(nwR (bst m.vs lba fr tl)).1.da.toArray⟩], .bool (nwR (bst m.vs lba fr tl)).2]) ∧ Below w.heap.size w w' := by
  have HH := Lib.hid h
  clear h
  refine (callsIn_wide (n := 6)).1 ?_
  refine callsIn_of_wp_marks Tryz.func43 rfl trivial ?_ rfl
  simp only [Tryz.ntmps43, List.size_toArray, List.length_cons, List.length_nil, Nat.reduceAdd, Nat.reduceSub, Array.replicate_succ, Array.replicate_zero, List.push_toArray, List.append_toArray, List.nil_append, List.cons_append]
  gi_wp2
  have hN0 := nb_new w lba fr tl
  obtain ⟨W0, hW0⟩ : ∃ W0, ((((w.alloc (.cells #[.int .i64 lba] 3)).alloc (.cells #[.int .i64 fr] 3)).alloc (.cells #[.int .i64 tl] 3)).alloc (.cells #[.int .i64 0, .int .i64 0, .string ⟨#[]⟩] 91)).alloc (.cells #[.bool false] 4) = W0 := ⟨_, rfl⟩
  rw [hW0] at hN0 ⊢
  clear hW0
  have HV := Lib.hid (vr_of (HH.out.step hN0.safe.2))
  have HL : Hid (∀ b, RO A b → b < w.heap.size) := Lib.hid (fun b hb => HH.out.lt (by rcases hb with hb | hb; exact .inl (.inr (.inl hb)); exact .inl (.inr (.inr (.inr (.inr hb))))))
  have HUp := Lib.hid HH.out.ok.up
  have HS0 := Lib.hid hN0.safe.2.size
  refine MerM2.rangeM rfl (show 1 ≤ 6 by omega) (c := false) (gf := 64) (first := #[.pointer (some ⟨A.y, 0, none⟩)]) (lb := #[]) rfl trivial (enters_of Tryz.func64 (by kernel_rfl) rfl)
    (behind_in 5 (by omega) A m.vs W0 HV.out) (fun b hb => Nat.lt_of_lt_of_le (HL.out b hb) HS0.out) (fun _ => rfl)
    (fun T pre W' => Nb w lba fr tl v0 false T W' ∧ ∀ y ∈ pre, ¬ vfit lba fr tl y)
    (fun c T pre W' => c = .ret ∧ ∃ q x, pre = q ++ [x] ∧ (∀ y ∈ q, ¬ vfit lba fr tl y) ∧ vfit lba fr tl x ∧ Nb w lba fr tl x true T W')
    (fun s T T' X Y hs ht _ => ⟨hs.1.turns ht, hs.2⟩)
    (fun c s T T' X Y hs ht _ => by obtain ⟨e, q, x, h1, h2, h3, h4⟩ := hs; exact ⟨e, q, x, h1, h2, h3, h4.turns ht⟩)
    ⟨hN0, by simp⟩
    (fun T s W' => Nb w lba fr tl v0 false T W' ∧ (∀ y ∈ s.1, ¬ vfit lba fr tl y) ∧ ∃ Bx, W'.heap[Bx]? = some (.cells #[.int .i64 s.2.1.lb, .int .i64 s.2.1.ep, .string ⟨s.2.1.da.toArray⟩] 91 (0, 0)) ∧
      s.2.2 = { tmps := #[.pointer (some ⟨A.y, 0, none⟩), .int .i64 lba, .int .i64 fr, .int .i64 tl, undef, .pointer (some ⟨w.heap.size, 0, none⟩), .pointer (some ⟨w.heap.size + 1, 0, none⟩), .pointer (some ⟨w.heap.size + 1 + 1, 0, none⟩), .pointer (some ⟨w.heap.size + 1 + 1 + 1, 0, none⟩), .pointer (some ⟨w.heap.size + 1 + 1 + 1 + 1, 0, none⟩), .pointer (some ⟨Bx, 0, none⟩), .pointer (some ⟨A.y, 0, none⟩), .func (.func 64) #[.pointer (some ⟨A.y, 0, none⟩)] #[], .agg #[.int .i64 s.2.1.lb, .int .i64 s.2.1.ep, .string ⟨s.2.1.da.toArray⟩], undef, undef, undef, undef, undef, undef, undef, undef, undef, undef, undef, undef, undef, undef, undef, undef, undef, undef], defers := [] })
    (fun T s W' l r r' hs hl ho => by
      obtain ⟨h1, h2, Bx, h3, h4⟩ := hs
      exact ⟨h1.turns (put_turns hl _), h2, Bx, (World.putObj_heap_other (fun e => by rw [e, ho] at h3; cases h3)).trans h3, h4⟩) ?assign ?body ?done ?stop
  case assign =>
    rintro l T pre x W K ⟨hN, hp⟩ _ hK
    simp only [encs]
    gi_wp2
    exact hK _ _ ((MerG.Kept.refl _ _).alloc _) ⟨hN.step (below_new _ _), hp, W.heap.size, heap_alloc_new _ _, rfl⟩
  case body =>
    rintro l T pre x a' W ⟨hN, hp, Bx, hx, ha⟩
    dsimp only at ha hx hp
    subst ha
    have HN := Lib.hid hN
    have HX := Lib.hid hx
    have HP := Lib.hid hp
    have c0 := blk_cell (i := 0) hN.b0.2 rfl
    have c1 := blk_cell (i := 0) hN.b1.2 rfl
    have c2 := blk_cell (i := 0) hN.b2.2 rfl
    have y0 := blk_cell (i := 0) hx rfl
    have y1 := blk_cell (i := 1) hx rfl
    have y2 := blk_cell (i := 2) hx rfl
    have d0 := blk_cell (i := 0) hN.b3.2 rfl
    have d1 := blk_cell (i := 1) hN.b3.2 rfl
    have d2 := blk_cell (i := 2) hN.b3.2 rfl
    have d3 := blk_cell (i := 0) hN.b4.2 rfl
    have e0 := blk_free (i := 0) hN.b3.2
    have e1 := blk_free (i := 1) hN.b3.2
    have e2 := blk_free (i := 2) hN.b3.2
    have e3 := blk_free (i := 0) hN.b4.2
    clear hN hx hp
    have HT : Hid (∀ k, w.heap.size ≤ k → ¬ T k → ¬ (T k ∨ RO A k)) := Lib.hid (fun k hk h1 h2 => h2.elim h1 (fun h3 => by have := HL.out k h3; omega))
    by_cases hf : vfit lba fr tl x
    · have HF := Lib.hid hf
      obtain ⟨f0, f1, f2⟩ := hf
      have g0 : (x.lb == lba) = true := by rw [beq_iff_eq]; exact f0
      clear f0
      gi_wp2
      exact ⟨stored_kept w W x true _ (HT.out _ (by omega) HN.out.b3.1) (HT.out _ (by omega) HN.out.b4.1), rfl, pre, x, rfl, HP.out, HF.out, HN.out.fin x true⟩
    · have HF := Lib.hid (show ∀ y ∈ pre ++ [x], ¬ vfit lba fr tl y from fun y hy => (List.mem_append.1 hy).elim (HP.out y) (fun e => by rw [List.mem_singleton.1 e]; exact hf))
      by_cases h0 : x.lb = lba
      · have g0 : (x.lb == lba) = true := by rw [beq_iff_eq]; exact h0
        by_cases h1 : fr ≤ x.ep
        · have h2 : ¬ x.ep ≤ tl := fun h => hf ⟨h0, h1, h⟩
          clear h0 hf
          gi_wp2
          exact ⟨MerG.Kept.refl _ _, HN.out, HF.out⟩
        · clear h0 hf
          gi_wp2
          exact ⟨MerG.Kept.refl _ _, HN.out, HF.out⟩
      · have g0 : (x.lb == lba) = false := by rw [beq_eq_false_iff_ne]; exact h0
        clear h0 hf
        gi_wp2
        exact ⟨MerG.Kept.refl _ _, HN.out, HF.out⟩
  case done =>
    rintro D T ys W hD hT hys ⟨hN, hp⟩ hK
    have hb : bst m.vs lba fr tl = none := bst_all HUp.out (by rw [← hys]; exact hp)
    have HR := Lib.hid hb
    have HN := Lib.hid hN
    have d0 := blk_cell (i := 0) hN.b3.2 rfl
    have d1 := blk_cell (i := 1) hN.b3.2 rfl
    have d2 := blk_cell (i := 2) hN.b3.2 rfl
    have d3 := blk_cell (i := 0) hN.b4.2 rfl
    have e0 := blk_free (i := 0) hN.b3.2
    have e1 := blk_free (i := 1) hN.b3.2
    have e2 := blk_free (i := 2) hN.b3.2
    have e3 := blk_free (i := 0) hN.b4.2
    clear hN hp hys hb
    gi_wp2
    have hf := HN.out.fin v0 false
    have hD' : (stored w W v0 false).heap[D]? = some (.deferred (some [])) := (stored_other _ _ _ _ _ (fun e => HN.out.b3.1 (e ▸ hT)) (fun e => HN.out.b4.1 (e ▸ hT))).trans hK
    refine ⟨by simp, .inl ⟨_, _, rfl, run_takeDeferred hD', ?_⟩⟩
    have hne : ∀ k, ¬ T k → k ≠ D := fun k hk e => hk (e ▸ hT)
    refine ⟨.tuple #[.agg #[.int .i64 0, .int .i64 0, .string ⟨#[]⟩], .bool false], results_row_cell Tryz.results43 _ _ (w.heap.size + 1 + 1 + 1) (w.heap.size + 1 + 1 + 1 + 1) 91 _ (0, 0) _ _ rfl ((World.putObj_heap_other (hne _ hf.b3.1)).trans hf.b3.2) Tryz.underlying91 rfl infoP rfl (load_bool (blk_cell (i := 0) ((World.putObj_heap_other (hne _ hf.b4.1)).trans hf.b4.2) rfl)), by rw [HR.out]; rfl, hf.safe.2.trans ⟨rfl, rfl, rfl, by simp [stored], fun b hb => World.putObj_heap_other (by have := hf.safe.1 D hT; omega)⟩⟩
  case stop =>
    rintro D c' T pre W hD hT hpre ⟨rfl, q, x, rfl, hq, hx, hf⟩ hK
    have hb : bst m.vs lba fr tl = some x := bst_stop HUp.out hpre hq hx
    gi_wp2
    refine ⟨by simp, .inl ⟨_, _, rfl, run_takeDeferred hK, ?_⟩⟩
    have hne : ∀ k, ¬ T k → k ≠ D := fun k hk e => hk (e ▸ hT)
    refine ⟨.tuple #[.agg #[.int .i64 x.lb, .int .i64 x.ep, .string ⟨x.da.toArray⟩], .bool true], results_row_cell Tryz.results43 _ _ (w.heap.size + 1 + 1 + 1) (w.heap.size + 1 + 1 + 1 + 1) 91 _ (0, 0) _ _ rfl ((World.putObj_heap_other (hne _ hf.b3.1)).trans hf.b3.2) Tryz.underlying91 rfl infoP rfl (load_bool (blk_cell (i := 0) ((World.putObj_heap_other (hne _ hf.b4.1)).trans hf.b4.2) rfl)), by rw [hb]; rfl, hf.safe.2.trans ⟨rfl, rfl, rfl, by simp, fun b hb => World.putObj_heap_other (by have := hf.safe.1 D hT; omega)⟩⟩
end Go.Proofs.YtopnodkdpehdoaaGreatDoor.PgW
/- The program's places: the walk of its text. No conditions but those that each lemma names. -/
namespace Go.Proofs.YtopnodkdpehdoaaGreatDoor.PgX
set_option linter.unusedVariables false
open Go.RowKit Go.Shelf Go.Maps
open RecN RecC RetN RetC RetR DbN DbA MdN MdO MdC MdG PgN PgC PgI PgW
attribute [local go_sem] Oper.semAt_some
/-- Block M is a set of places, of which there are N. -/
def Ms (W : World) (M N : Nat) (g : Int → Bool) : Prop := ∃ D, W.ownsMap Tryz.prog 3 (unitElem (H := Unit)) M 4294967296 D ∧ Maps.size D = cnt g N ∧ ∀ n, Maps.has D (ki n) = g n
theorem Ms.lt {W : World} {M N : Nat} {g : Int → Bool} (h : Ms W M N g) : M < W.heap.size := by obtain ⟨D, h1, _⟩ := h; exact h1.lt
theorem Ms.block {W W' : World} {M N : Nat} {g : Int → Bool} (h : Ms W M N g) (e : W'.heap[M]? = W.heap[M]?) : Ms W' M N g := by obtain ⟨D, h1, h2⟩ := h; exact ⟨D, at_block h1 e, h2⟩
theorem Ms.is {W : World} {M N : Nat} {g : Int → Bool} (h : Ms W M N g) : ∃ es k, W.heap[M]? = some (.map es k) := by obtain ⟨D, ⟨es, k, hb, _⟩, _⟩ := h; exact ⟨es, k, hb⟩
theorem ms_new (w : World) (N : Nat) : Ms (w.alloc (.map #[] 0)) w.heap.size N (fun _ => false) := ⟨.map [], (World.ownsMap_made w _ _ _).mono (Nat.zero_le _), by rw [cnt_no]; rfl, fun n => rfl⟩
theorem Ms.len_ {W : World} {M N : Nat} {g : Int → Bool} (h : Ms W M N g) (ty : TypeId) : (Builtin.len_ #[102] ty #[.map (some M)]).run Tryz.prog W = .ok (.int .i64 (cnt g N : Nat)) W := by
  obtain ⟨D, h1, h2, _⟩ := h
  rw [h1.len Tryz.underlying102 ty, h2]
theorem Ms.put {W : World} {M N : Nat} {g : Int → Bool} (h : Ms W M N g) (hN : N ≤ 4096) {n : Int} (h0 : 0 ≤ n) (h1 : n < (N : Int)) :
    ∃ W', (Instr.mapUpdate 102 (.map (some M)) (.int .i64 n) (.agg #[])).run Tryz.prog W = .ok () W' ∧ Ms W' M N (upd g n true) ∧ W.grownBy W' (some M) := by
  obtain ⟨D, k1, k2, k3⟩ := h
  obtain ⟨W', hr, h2, h3⟩ := k1.update lawI Tryz.underlying102 (by decide) (key_int (n := n) (wf_of (by omega))) (unitElem_mk (H := Unit))
  have kb : WideAt.IsKeyLit (ki n) := trivial
  have hz : Maps.size (D.put (ki n) (.agg [])) = cnt (upd g n true) N := by
    rw [size_put (k1.tidy lawI), k3, cnt_put g h0 h1, k2]
    by_cases hg : g n = true
    · rw [if_pos hg, if_pos hg]; rfl
    · rw [if_neg hg, if_neg hg]
  refine ⟨W', hr, ⟨_, (RetC.tight h2).mono (by rw [hz]; have := cnt_le (upd g n true) N; omega), hz, fun i => ?_⟩, h3⟩
  by_cases e : i = n
  · rw [e, upd_at]
    exact has_put_same k1.isMap kb _
  · rw [upd_other _ _ e, has_put_other (ki_ne e)]
    exact k3 i
/-- The boxes: the first epoch, the set. -/
structure Sb (w : World) (N : Nat) (fr : Int) (g : Int → Bool) (T : Nat → Prop) (W : World) : Prop where
  safe : MerG.Safe w.heap.size w T W
  b0 : ¬ T w.heap.size ∧ W.heap[w.heap.size]? = some (.cells #[.int .i64 fr] 3 (0, 0))
  mp : ¬ T (w.heap.size + 1) ∧ Ms W (w.heap.size + 1) N g
  b2 : ¬ T (w.heap.size + 1 + 1) ∧ W.heap[w.heap.size + 1 + 1]? = some (.cells #[.map (some (w.heap.size + 1))] 102 (0, 0))
theorem Sb.turns {w : World} {N : Nat} {fr : Int} {g : Int → Bool} {T T' : Nat → Prop} {X Y : World} (h : Sb w N fr g T X) (ht : MerG.Turns T T' X Y) : Sb w N fr g T' Y := by
  obtain ⟨es, k, hm⟩ := h.mp.2.is
  have := ht.heap ⟨h.mp.1, hm⟩
  exact ⟨h.safe.turns (Nat.le_refl _) ht, ht.heap h.b0, ⟨this.1, h.mp.2.block (this.2.trans hm.symm)⟩, ht.heap h.b2⟩
theorem Sb.step {w : World} {N : Nat} {fr : Int} {g : Int → Bool} {T : Nat → Prop} {X Y : World} (h : Sb w N fr g T X) (hb : Below X.heap.size X Y) : Sb w N fr g T Y :=
  ⟨⟨h.safe.1, h.safe.2.trans (hb.mono h.safe.2.size)⟩, heap_below (n := 0) h.b0 hb, ⟨h.mp.1, h.mp.2.block (hb.block _ h.mp.2.lt)⟩, heap_below (n := 0) h.b2 hb⟩
/-- A place is put into the set. -/
theorem Sb.put {w : World} {N : Nat} {fr : Int} {g : Int → Bool} {T : Nat → Prop} {X Y : World} {n : Int} (h : Sb w N fr g T X) (hm : Ms Y (w.heap.size + 1) N (upd g n true)) (hg : X.grownBy Y (some (w.heap.size + 1))) : Sb w N fr (upd g n true) T Y := by
  have hb : Below w.heap.size w Y := h.safe.2.grown hg h.safe.2.size (fun k e => by injection e with e; omega)
  exact ⟨⟨h.safe.1, hb⟩, ⟨h.b0.1, (hg.block _ (lt_of_some h.b0.2) (fun e => by injection e with e; omega)).trans h.b0.2⟩, ⟨h.mp.1, hm⟩, ⟨h.b2.1, (hg.block _ (lt_of_some h.b2.2) (fun e => by injection e with e; omega)).trans h.b2.2⟩⟩
theorem sb_new (w : World) (N : Nat) (fr : Int) : Sb w N fr (fun _ => false) MerG.Non (((w.alloc (.cells #[.int .i64 fr] 3)).alloc (.map #[] 0)).alloc (.cells #[.map (some (w.heap.size + 1))] 102)) := by
  obtain ⟨W1, e1⟩ : ∃ W, W = w.alloc (.cells #[.int .i64 fr] 3) := ⟨_, rfl⟩
  obtain ⟨W2, e2⟩ : ∃ W, W = W1.alloc (.map #[] 0) := ⟨_, rfl⟩
  obtain ⟨W3, e3⟩ : ∃ W, W = W2.alloc (.cells #[.map (some (w.heap.size + 1))] 102) := ⟨_, rfl⟩
  rw [← e1, ← e2, ← e3]
  have s1 : W1.heap.size = w.heap.size + 1 := by rw [e1]; simp
  have s2 : W2.heap.size = w.heap.size + 1 + 1 := by rw [e2, ← s1]; simp
  have b1 : Below w.heap.size w W1 := by rw [e1]; exact below_new _ _
  have b2 : Below W1.heap.size W1 W2 := by rw [e2]; exact below_new _ _
  have b3 : Below W2.heap.size W2 W3 := by rw [e3]; exact below_new _ _
  have h1 : W1.heap[w.heap.size]? = some (.cells #[.int .i64 fr] 3 (0, 0)) := by rw [e1]; exact heap_alloc_new w _
  have h2 : Ms W2 (w.heap.size + 1) N (fun _ => false) := by rw [e2, ← s1]; exact ms_new W1 N
  have h3 : W3.heap[w.heap.size + 1 + 1]? = some (.cells #[.map (some (w.heap.size + 1))] 102 (0, 0)) := by rw [e3, ← s2]; exact heap_alloc_new W2 _
  have no : ∀ k, ¬ MerG.Non k := fun k h => h
  exact ⟨⟨fun b h => h.elim, (b1.trans (b2.mono (by omega))).trans (b3.mono (by omega))⟩, ⟨no _, (b3.block _ (by omega)).trans ((b2.block _ (by omega)).trans h1)⟩, ⟨no _, h2.block (b3.block _ (by omega))⟩, ⟨no _, h3⟩⟩
set_option maxRecDepth 100000 in
set_option maxHeartbeats 8000000 in
theorem places {base : Nat} {A : Pm} {m : Mo} {w : World} (h : Pg base A m w) (fr : Int) :
    Calls Tryz.prog 71 #[.pointer (some ⟨A.y, 0, none⟩), .int .i64 fr] w fun e w' => e = .returned (.int .i64 (plc m.vs fr m.lb.toNat : Nat)) ∧ Below w.heap.size w w' := by
  have HH := Lib.hid h
  have HLo := Lib.hid h.lo
  have HB3 : Hid (m.lb.toNat ≤ 4096 ∧ (m.lb.toNat : Int) = m.lb) := Lib.hid (by have := h.b3; omega)
  clear h
  have hmm := @run_makeMap Tryz.prog
  refine (callsIn_wide (n := 6)).1 ?_
  refine callsIn_of_wp_marks Tryz.func71 rfl trivial ?_ rfl
  simp only [Tryz.ntmps71, List.size_toArray, List.length_cons, List.length_nil, Nat.reduceAdd, Nat.reduceSub, Array.replicate_succ, Array.replicate_zero, List.push_toArray, List.append_toArray, List.nil_append, List.cons_append]
  gi_wp2
  have hN0 := sb_new w m.lb.toNat fr
  obtain ⟨W0, hW0⟩ : ∃ W0, ((w.alloc (.cells #[.int .i64 fr] 3)).alloc (.map #[] 0)).alloc (.cells #[.map (some (w.heap.size + 1))] 102) = W0 := ⟨_, rfl⟩
  rw [hW0] at hN0
  try rw [hW0]
  clear hW0 hmm
  have HV := Lib.hid (vr_of (HH.out.step hN0.safe.2))
  have HL : Hid (∀ b, RO A b → b < w.heap.size) := Lib.hid (fun b hb => HH.out.lt (by rcases hb with hb | hb; exact .inl (.inr (.inl hb)); exact .inl (.inr (.inr (.inr (.inr hb))))))
  have HUp := Lib.hid HH.out.ok.up
  have HTp := Lib.hid (ep_top HH.out.ok HH.out.ep)
  have HS0 := Lib.hid hN0.safe.2.size
  obtain ⟨N, hNe⟩ : ∃ N, m.lb.toNat = N := ⟨_, rfl⟩
  rw [hNe] at hN0 HB3
  have HNe := Lib.hid hNe
  clear hNe
  refine MerM2.rangeM rfl (show 1 ≤ 6 by omega) (c := false) (gf := 64) (first := #[.pointer (some ⟨A.y, 0, none⟩)]) (lb := #[]) rfl trivial (enters_of Tryz.func64 (by kernel_rfl) rfl)
    (behind_in 5 (by omega) A m.vs W0 HV.out) (fun b hb => Nat.lt_of_lt_of_le (HL.out b hb) HS0.out) (fun _ => rfl)
    (fun T pre W' => Sb w N fr (lbs pre) T W' ∧ ∀ y ∈ pre, fr ≤ y.ep)
    (fun c T pre W' => c = .exit 0 ∧ ∃ q x, pre = q ++ [x] ∧ (∀ y ∈ q, fr ≤ y.ep) ∧ x.ep < fr ∧ Sb w N fr (lbs q) T W')
    (fun s T T' X Y hs ht _ => ⟨hs.1.turns ht, hs.2⟩)
    (fun c s T T' X Y hs ht _ => by obtain ⟨e, q, x, h1, h2, h3, h4⟩ := hs; exact ⟨e, q, x, h1, h2, h3, h4.turns ht⟩)
    ⟨by rw [lbs_nil]; exact hN0, by simp⟩
    (fun T s W' => Sb w N fr (lbs s.1) T W' ∧ (∀ y ∈ s.1, fr ≤ y.ep) ∧ s.1 ++ [s.2.1] <+: m.vs.reverse ∧ ∃ Bx, W'.heap[Bx]? = some (.cells #[.int .i64 s.2.1.lb, .int .i64 s.2.1.ep, .string ⟨s.2.1.da.toArray⟩] 91 (0, 0)) ∧
      s.2.2 = { tmps := #[.pointer (some ⟨A.y, 0, none⟩), .int .i64 fr, undef, .pointer (some ⟨w.heap.size, 0, none⟩), .int .i64 0, .pointer (some ⟨w.heap.size + 1 + 1, 0, none⟩), .pointer (some ⟨Bx, 0, none⟩), .map (some (w.heap.size + 1)), .pointer (some ⟨A.y, 0, none⟩), .func (.func 64) #[.pointer (some ⟨A.y, 0, none⟩)] #[], .agg #[.int .i64 s.2.1.lb, .int .i64 s.2.1.ep, .string ⟨s.2.1.da.toArray⟩], undef, undef, undef, undef, undef, undef, undef, undef, undef, undef], defers := [] })
    (fun T s W' l r r' hs hl ho => by
      obtain ⟨h1, h2, h5, Bx, h3, h4⟩ := hs
      exact ⟨h1.turns (put_turns hl _), h2, h5, Bx, (World.putObj_heap_other (fun e => by rw [e, ho] at h3; cases h3)).trans h3, h4⟩) ?assign ?body ?done ?stop
  case assign =>
    rintro l T pre x W K ⟨hN, hp⟩ ⟨K0, _, hg⟩ hK
    simp only [encs]
    gi_wp2
    exact hK _ _ ((MerG.Kept.refl _ _).alloc _) ⟨hN.step (below_new _ _), hp, hg, W.heap.size, heap_alloc_new _ _, rfl⟩
  case body =>
    rintro l T pre x a' W ⟨hN, hp, hg, Bx, hx, ha⟩
    dsimp only at hN ha hx hp hg
    subst ha
    have HN := Lib.hid hN
    have HP := Lib.hid hp
    have hxm : x ∈ m.vs := List.mem_reverse.1 (hg.subset (by simp))
    have c0 := blk_cell (i := 0) hN.b0.2 rfl
    have c2 := blk_cell (i := 0) hN.b2.2 rfl
    have y0 := blk_cell (i := 0) hx rfl
    have y1 := blk_cell (i := 1) hx rfl
    have y2 := blk_cell (i := 2) hx rfl
    have hlo := HLo.out.lb x hxm
    obtain ⟨W3, hr, hm3, hg3⟩ := hN.mp.2.put HB3.out.1 (n := x.lb) hlo.1 (by rw [HB3.out.2]; exact hlo.2)
    have HF := Lib.hid (hN.put hm3 hg3)
    rw [← lbs_snoc] at HF
    have HK : Hid (MerG.Kept (fun b => T b ∨ RO A b) W W3) := Lib.hid ((MerG.Kept.refl _ _).grown hg3 (fun k e h => by
      injection e with e
      subst e
      rcases h with h | h
      · exact hN.mp.1 h
      · have := HL.out _ h; omega))
    clear hN hx hp hg hxm hm3 hg3 hlo
    by_cases hf : x.ep < fr
    · have HX := Lib.hid hf
      gi_wp2
      exact ⟨MerG.Kept.refl _ _, rfl, pre, x, rfl, HP.out, HX.out, HN.out⟩
    · have HQ : Hid (∀ y ∈ pre ++ [x], fr ≤ y.ep) := Lib.hid (fun y hy => (List.mem_append.1 hy).elim (HP.out y) (fun e => by rw [List.mem_singleton.1 e]; omega))
      gi_wp2
      exact ⟨HK.out, HF.out, HQ.out⟩
  case done =>
    rintro D T ys W hD hT hys ⟨hN, hp⟩ hK
    subst hys
    have hn := hN.mp.2.len_
    rw [places_all HUp.out HTp.out hp] at hn
    have HN := Lib.hid hN
    have c2 := blk_cell (i := 0) hN.b2.2 rfl
    clear hN hp
    obtain ⟨q, hqe⟩ : ∃ q, plc m.vs fr N = q := ⟨_, rfl⟩
    rw [hqe] at hn
    have HQe := Lib.hid hqe
    clear hqe
    gi_wp2
    refine ⟨by simp, .inl ⟨_, _, rfl, run_takeDeferred hK, ?_⟩⟩
    refine ⟨.int .i64 (q : Nat), by simp [results, Tryz.f71, go_sem], by rw [HNe.out, HQe.out], HN.out.safe.2.trans ⟨rfl, rfl, rfl, by simp, fun b hb => World.putObj_heap_other (by have := HN.out.safe.1 D hT; omega)⟩⟩
  case stop =>
    rintro D c' T pre W hD hT hpre ⟨rfl, q, x, rfl, hq, hx, hN⟩ hK
    have hn := hN.mp.2.len_
    rw [places_stop HUp.out HTp.out hpre hq hx] at hn
    have HN := Lib.hid hN
    have c2 := blk_cell (i := 0) hN.b2.2 rfl
    clear hN hq hpre
    obtain ⟨q, hqe⟩ : ∃ q, plc m.vs fr N = q := ⟨_, rfl⟩
    rw [hqe] at hn
    have HQe := Lib.hid hqe
    clear hqe
    gi_wp2
    refine ⟨by simp, .inl ⟨_, _, rfl, run_takeDeferred hK, ?_⟩⟩
    refine ⟨.int .i64 (q : Nat), by simp [results, Tryz.f71, go_sem], by rw [HNe.out, HQe.out], HN.out.safe.2.trans ⟨rfl, rfl, rfl, by simp, fun b hb => World.putObj_heap_other (by have := HN.out.safe.1 D hT; omega)⟩⟩
end Go.Proofs.YtopnodkdpehdoaaGreatDoor.PgX
/- The program's read: the walk of its text. No conditions but those that each lemma names. -/
namespace Go.Proofs.YtopnodkdpehdoaaGreatDoor.PgR
set_option linter.unusedVariables false
open Go.RowKit
open RecN RecC RetN RetC RetR DbN DbA MdN MdO MdC MdG PgN PgC PgI PgW PgX PgA
theorem ver_wf {base : Nat} {A : Pm} {m : Mo} {w : World} (h : Pg base A m w) {v : V} (hv : v ∈ m.vs) : Wf v.ep := by
  have h1 := h.ok.vs v hv
  have h2 := h.b3
  have h3 := h.ep
  exact wf_of (by omega)
/-- A version in a block. -/
def Bp (W : World) (Y : Nat) (v : V) : Prop := W.heap[Y]? = some (.cells #[.int .i64 v.lb, .int .i64 v.ep, .string ⟨v.da.toArray⟩] 91 (0, 0))
theorem Bp.step {W W' : World} {Y : Nat} {v : V} (h : Bp W Y v) (hb : Below W.heap.size W W') : Bp W' Y v := (hb.block _ (lt_of_some h)).trans h
/-- What stands while a call runs that reads a model. -/
structure Mn (base : Nat) (A : Pm) (m : Mo) (w W : World) : Prop where
  p : Pg base A m W
  bel : Below w.heap.size w W
theorem Mn.step {base : Nat} {A : Pm} {m : Mo} {w W W' : World} (h : Mn base A m w W) (hb : Below W.heap.size W W') : Mn base A m w W' := ⟨h.p.step hb, h.bel.trans (hb.mono h.bel.size)⟩
theorem Mn.drew {base : Nat} {A : Pm} {m : Mo} {w W : World} (h : Mn base A m w W) : Mn base A m w W.drew := h.step ((Below.refl _ _).drew)
theorem mn_new {base : Nat} {A : Pm} {m : Mo} {w : World} (h : Pg base A m w) : Mn base A m w w := ⟨h, Below.refl _ _⟩
variable {base : Nat} {A : Pm} {m : Mo} {w : World}
set_option maxRecDepth 100000 in
set_option maxHeartbeats 4000000 in
theorem read (h : Pg base A m w) (lba ep : Int) : Calls Tryz.prog 48 #[.pointer (some ⟨A.y, 0, none⟩), .int .i64 lba, .int .i64 ep] w fun x w' => x = .returned (.tuple #[.string ⟨(rd m lba ep).da.toArray⟩, .int .i64 (rd m lba ep).er]) ∧ Below w.heap.size w w' := by
  have HP := Lib.hid (isPlace h lba)
  have HT := Lib.hid (isThere h ep)
  by_cases g1 : lba < 0 ∨ m.lb ≤ lba
  · have e : rd m lba ep = anE 4 := by unfold rd; rw [if_pos g1]
    have e1 : isP m lba = false := df (by omega)
    rw [e]
    rw [e1] at HP
    clear h HT g1 e e1
    go_enter Tryz.func48, Tryz.ntmps48
    go_wp2_with (go_at_call 68; refine HP.out.mono ?_; rintro e _ ⟨rfl, rfl⟩)
    go_ret2
    exact ⟨rfl, Below.refl _ _⟩
  have e1 : isP m lba = true := dt (by omega)
  rw [e1] at HP
  by_cases g2 : ep < m.f ∨ m.s.ep < ep
  · have e : rd m lba ep = anE 7 := by unfold rd there; rw [if_neg g1, if_pos g2, if_pos (by decide)]
    have e2 : isT m ep = false := df (by omega)
    rw [e]
    rw [e2] at HT
    clear h g1 e e1 e2 g2
    go_enter Tryz.func48, Tryz.ntmps48
    go_wp2_with (first
      | (go_at_call 68; refine HP.out.mono ?_; rintro e _ ⟨rfl, rfl⟩)
      | (go_at_call 69; refine HT.out.mono ?_; rintro e _ ⟨rfl, rfl⟩))
    go_ret2
    exact ⟨rfl, Below.refl _ _⟩
  have e2 : isT m ep = true := dt (by omega)
  rw [e2] at HT
  have ht : there m ep false = 0 := by unfold there; rw [if_neg g2, if_neg (by simp)]
  have HNw := Lib.hid (newest h lba m.f ep)
  obtain ⟨_, _, c2, _, _, _, _⟩ := h.cells
  have MM := Lib.hid (mn_new h)
  cases hb : bst m.vs lba m.f ep with
  | none =>
    have e : rd m lba ep = anE 7 := by unfold rd; rw [if_neg g1, ht, if_neg (by decide), hb]
    rw [e]
    rw [hb] at HNw
    dsimp only [nwR] at HNw
    clear h g1 e e1 e2 g2 ht hb
    go_enter Tryz.func48, Tryz.ntmps48
    go_upto_region 6 with (first
      | (go_at_call 68; refine HP.out.mono ?_; rintro e _ ⟨rfl, rfl⟩)
      | (go_at_call 69; refine HT.out.mono ?_; rintro e _ ⟨rfl, rfl⟩)
      | (go_at_call 43; refine HNw.out.mono ?_; rintro e w1 ⟨rfl, hb1⟩; replace MM := Lib.hid (MM.out.step hb1); clear hb1 HNw c2)
      | (refine wpList_store_row rfl 91 _ _ rfl w1.heap.size _ rfl rfl 91 _ (heap_alloc_new w1 _) infoP rfl (one3 v0) ?_))
    generalize hW : World.setRow _ _ _ = W2
    replace MM := Lib.hid (MM.out.step (show Below w1.heap.size w1 W2 by rw [← hW]; exact kept_new w1 _ _ _))
    clear hW
    go_wp2_with fail
    go_ret2
    exact ⟨rfl, MM.out.bel⟩
  | some v =>
    have hwf := ver_wf h (bst_mem hb).1
    have HG := Lib.hid (fun W (h : Book A.a m.s W) => RetB.Gone h v.ep hwf)
    rw [hb] at HNw
    dsimp only [nwR] at HNw
    have e : rd m lba ep = if m.s.gone v.ep = true then anE 13 else anD v.da := by unfold rd; rw [if_neg g1, ht, if_neg (by decide), hb]
    have HS : Hid (∀ W, Mn base A m w W → W.cell? ⟨A.y, 4, none⟩ = some (.pointer (some ⟨A.a.b, 0, none⟩))) := Lib.hid (fun W h => h.p.cells.2.2.2.2.1)
    rw [e]
    clear h g1 e e1 e2 g2 ht hb hwf
    obtain ⟨q, hq⟩ : ∃ q, m.s.gone v.ep = q := ⟨_, rfl⟩
    rw [hq] at HG ⊢
    clear hq
    go_enter Tryz.func48, Tryz.ntmps48
    go_upto_region 6 with (first
      | (go_at_call 68; refine HP.out.mono ?_; rintro e _ ⟨rfl, rfl⟩)
      | (go_at_call 69; refine HT.out.mono ?_; rintro e _ ⟨rfl, rfl⟩)
      | (go_at_call 43; refine HNw.out.mono ?_; rintro e w1 ⟨rfl, hb1⟩; replace MM := Lib.hid (MM.out.step hb1); clear hb1 HNw c2)
      | (refine wpList_store_row rfl 91 _ _ rfl w1.heap.size _ rfl rfl 91 _ (heap_alloc_new w1 _) infoP rfl (one3 v) ?_))
    generalize hW : World.setRow _ _ _ = W2
    replace MM := Lib.hid (MM.out.step (show Below w1.heap.size w1 W2 by rw [← hW]; exact kept_new w1 _ _ _))
    have HB : Hid (Bp W2 w1.heap.size v) := Lib.hid (by rw [← hW]; exact has_new w1 _ _ _)
    clear hW
    generalize w1.heap.size = Y at *
    go_upto_region 8 with (fail)
    replace MM := Lib.hid MM.out.drew
    replace HB := Lib.hid (HB.out.step ((Below.refl _ _).drew))
    have HB3 : Hid (∀ W, Bp W Y v → W.cell? ⟨Y, 1, none⟩ = some (.int .i64 v.ep) ∧ W.cell? ⟨Y, 2, none⟩ = some (.string ⟨v.da.toArray⟩)) := Lib.hid (fun W h => ⟨blk_cell h rfl, blk_cell h rfl⟩)
    have hS := And.intro (HS.out _ MM.out) (HB3.out _ HB.out)
    go_region_held3 (fun W => W.cell? ⟨A.y, 4, none⟩ = some (.pointer (some ⟨A.a.b, 0, none⟩)) ∧ W.cell? ⟨Y, 1, none⟩ = some (.int .i64 v.ep) ∧ W.cell? ⟨Y, 2, none⟩ = some (.string ⟨v.da.toArray⟩))
      (exact hS) (first | (go_at_call 44; refine (HG.out _ MM.out.p.bk).mono ?_; rintro e w3 ⟨rfl, hb3⟩; replace MM := Lib.hid (MM.out.step hb3); replace HB := Lib.hid (HB.out.step hb3); replace hS := And.intro (HS.out _ MM.out) (HB3.out _ HB.out); clear hb3))
    obtain ⟨_, _, k2⟩ := hS
    cases q with
    | true =>
      go_wp2_with fail
      go_ret2
      exact ⟨rfl, MM.out.bel⟩
    | false =>
      go_wp2_with fail
      go_ret2
      exact ⟨rfl, MM.out.bel⟩
end Go.Proofs.YtopnodkdpehdoaaGreatDoor.PgR
