/- The program's journal: the steps that write noughts to places that an iterator tells: the walk of its text. No conditions but those that each lemma names. -/
import Derived.Test.YtoilcieineejiaaGreatDoorLJoj
import Derived.Test.YtoilcieineejiaaGreatDoorLMer
import Derived.Maps.AppendAt
namespace Go.Proofs.YtoilcieineejiaaGreatDoor.JouL
set_option linter.unusedVariables false
set_option linter.unusedSimpArgs false
open Go.RowKit Go.Shelf
open DkN DkM JouN JouP JouQ JouR JouS JouC JouW JouX JouY JouZ JouB JouD JouI JouJ
open SupP (Gl)
attribute [local go_sem] Oper.semAt_some
theorem info_st : (Tryz.prog.info? 88).map (fun i => (i.zero, i.size, i.bytes)) = some (some Value.nilFunc, 1, 8) := by kernel_rfl
/-- A value for each number. -/
inductive Alls (p : Nat → Value → Prop) : List Nat → List Value → Prop where
  | nil : Alls p [] []
  | cons {i : Nat} {v : Value} {l : List Nat} {vs : List Value} (h : p i v) (t : Alls p l vs) : Alls p (i :: l) (v :: vs)
theorem Alls.snoc {p : Nat → Value → Prop} {l : List Nat} {vs : List Value} {i : Nat} {v : Value} (h : Alls p l vs) (hp : p i v) : Alls p (l ++ [i]) (vs ++ [v]) := by
  induction h with
  | nil => exact .cons hp .nil
  | cons q _ ih => exact .cons q ih
theorem Alls.mono {p q : Nat → Value → Prop} {l : List Nat} {vs : List Value} (h : Alls p l vs) (f : ∀ i v, p i v → q i v) : Alls q l vs := by
  induction h with
  | nil => exact .nil
  | cons r _ ih => exact .cons (f _ _ r) ih
theorem Alls.len {p : Nat → Value → Prop} {l : List Nat} {vs : List Value} (h : Alls p l vs) : vs.length = l.length := by
  induction h with
  | nil => rfl
  | cons _ _ ih => simp [ih]
/-- A step that writes a text at a place, its boxes none of T. -/
def Wr3 (T : Nat → Prop) (b : Nat) (s : ByteArray) (W : World) (i : Nat) (v : Value) : Prop :=
  ∃ x y z : Nat, v = .func (.func 82) #[] #[.pointer (some ⟨x, 0, none⟩), .pointer (some ⟨y, 0, none⟩), .pointer (some ⟨z, 0, none⟩)] ∧
    (¬ T x ∧ W.heap[x]? = some (Obj.cells #[.pointer (some ⟨b, 0, none⟩)] 26 (0, 0))) ∧ (¬ T y ∧ W.heap[y]? = some (Obj.cells #[.int .i64 (i : Int)] 3 (0, 0))) ∧ (¬ T z ∧ W.heap[z]? = some (Obj.cells #[.string s] 9 (0, 0)))
theorem Wr3.turns {T T' : Nat → Prop} {b : Nat} {s : ByteArray} {A B : World} {i : Nat} {v : Value} (h : Wr3 T b s A i v) (ht : MerG.Turns T T' A B) : Wr3 T' b s B i v := by
  obtain ⟨x, y, z, e, hx, hy, hz⟩ := h
  exact ⟨x, y, z, e, ht.heap hx, ht.heap hy, ht.heap hz⟩
theorem Wr3.keep {T : Nat → Prop} {b : Nat} {s : ByteArray} {A B : World} {i : Nat} {v : Value} (h : Wr3 T b s A i v) (hk : ∀ (k : Nat) (cs : Array Value) (t : TypeId), A.heap[k]? = some (Obj.cells cs t (0, 0)) → t ≠ 88 → t ≠ 83 → B.heap[k]? = some (Obj.cells cs t (0, 0))) : Wr3 T b s B i v := by
  obtain ⟨x, y, z, e, hx, hy, hz⟩ := h
  exact ⟨x, y, z, e, ⟨hx.1, hk _ _ _ hx.2 (by decide) (by decide)⟩, ⟨hy.1, hk _ _ _ hy.2 (by decide) (by decide)⟩, ⟨hz.1, hk _ _ _ hz.2 (by decide) (by decide)⟩⟩
theorem own_len {w : World} {base : Nat} {t : TypeId} {size n : Nat} {v : Value} {xs : List Value} (h : w.ownsRow base t size v n xs) : ∃ a c, v = .slice a n c := by
  rcases h with ⟨_, ⟨rfl, rfl⟩ | ⟨g, cap, cur, rfl, _⟩⟩ <;> exact ⟨_, _, rfl⟩
theorem boxed_below {A B : World} {X : Nat} {t : TypeId} {v : Value} (h : Boxed A X t v) (hb : Below A.heap.size A B) : Boxed B X t v := (hb.block _ h.lt).trans h
/-- What wipes leaves. -/
def Wiped (b : Nat) (s : ByteArray) (L : List Nat) (w : World) (e : Ending) (w' : World) : Prop :=
  ∃ v vs, e = .returned v ∧ w'.ownsRow w.heap.size 88 1 v L.length vs ∧ Alls (Wr3 MerG.Non b s w') L vs ∧ Below w.heap.size w w'
theorem writes_at (b : Nat) (i : Int) (s : ByteArray) (w : World) :
    Calls Tryz.prog 42 #[.pointer (some ⟨b, 0, none⟩), .int .i64 i, .string s] w fun e w' => e = .returned (.func (.func 82) #[] #[.pointer (some ⟨w.heap.size, 0, none⟩), .pointer (some ⟨w.heap.size + 1, 0, none⟩), .pointer (some ⟨w.heap.size + 1 + 1, 0, none⟩)]) ∧ WrAt w' b i s w.heap.size (w.heap.size + 1) (w.heap.size + 1 + 1) ∧ Below w.heap.size w w' := by
  have hmf := makes
  go_enter Tryz.func42, Tryz.ntmps42
  go_wp2_with fail
  go_ret
  obtain ⟨h0, h1, h2, hb⟩ := JouW.three w (Obj.cells #[.pointer (some ⟨b, 0, none⟩)] 26) (Obj.cells #[.int .i64 i] 3) (Obj.cells #[.string s] 9)
  exact ⟨rfl, ⟨h0, h1, h2⟩, hb⟩
/-- An append at a step of a drawn region, by what its run is known to give. -/
theorem step_run {P : Program} {w : World} {ops : Array Oper} {o : Oper} {a : Act} {K : Act → World → Prop} {Q : Exit → Act → World → Prop} {E : Prop} (hgd : o.guard = none) (s x : Operand) (t : TypeId)
    (ho : o.op = .call { callee := .builtin .append, args := #[s, x], argTypes := #[t, t] }) (v : Value) (w' : World) (hr : (Builtin.append_ #[t, t] o.type #[a.eval s, a.eval x]).run P w = .ok v w') (h : K (a.put o.dst v) w') :
    if Region.wanted o (yielded ops a.tmps) = true then Oper.wp P o a w K Q else E := by
  have hw : Region.wanted o (yielded ops a.tmps) = true := by simp [Region.wanted, hgd]
  rw [if_pos hw]
  unfold Oper.wp execOp
  simp only [ho, resolve, invoke, builtin, Sem.run_bind, Sem.run_pure, Result.andThen_ok, List.map_toArray, List.map_cons, List.map_nil, hr]
  exact h
/-- What an append of steps to a row of the call's own leaves. -/
theorem app_st (base n : Nat) (v : Value) (xs ys : List Value) (A : World) (hn : n + ys.length ≤ 100000) (hb : base ≤ A.heap.size) (hown : A.ownsRow base 88 1 v n xs) (p : Nat) (hp : ∀ j u, ys[j]? = some u → A.cell? ((⟨p, 0, none⟩ : Addr).add j) = some u) (h1 : ∀ u ∈ ys, u.oneCell' = true) :
    ∃ v' W', (Builtin.append_ #[83, 83] 83 #[v, .slice (some ⟨p, 0, none⟩) ys.length ys.length]).run Tryz.prog A = .ok v' W' ∧
      W'.ownsRow base 88 1 v' (n + ys.length) (xs ++ ys) ∧ A.grownBy W' v.ownBlock ∧ (v'.ownBlock = v.ownBlock ∨ v'.ownBlock = some A.heap.size) := by
  obtain ⟨i0, hi, hz0, hz1, hz2⟩ := info_parts info_st
  obtain ⟨v', W', h2, h3, h4, _, h5⟩ := run_append_own_at (P := Tryz.prog) (w := A) base 83 83 88 i0 Value.nilFunc 1 8 Tryz.underlying83 hi hz0 hz1 hz2 rfl (by decide) v n xs hown ⟨p, 0, none⟩ ys.length ys.length ys (by omega) hp h1 (by unfold maxLen; omega) (by omega) hb
  exact ⟨v', W', h2, h3, h4, h5⟩
theorem cell_row {W : World} {p : Nat} {cs : List Value} {t : TypeId} (h : W.heap[p]? = some (Obj.cells cs.toArray t (0, 0))) : ∀ j u, cs[j]? = some u → W.cell? ((⟨p, 0, none⟩ : Addr).add j) = some u := fun j u hj => by
  rw [add_off, Nat.zero_add]
  exact blk_cell h (by simpa using hj)
/-- Blocks of other kinds than a row of steps stay where a row is appended to; and where its box is stored to. -/
theorem row_kinds {base n : Nat} {v : Value} {xs : List Value} {A W1 : World} (hown : A.ownsRow base 88 1 v n xs) (hg : A.grownBy W1 v.ownBlock) :
    ∀ (k : Nat) (cs : Array Value) (t : TypeId), A.heap[k]? = some (Obj.cells cs t (0, 0)) → t ≠ 88 → W1.heap[k]? = some (Obj.cells cs t (0, 0)) := by
  intro k cs t hk h1
  rw [hg.block k (lt_of_some hk) (fun e => ?_)]
  · exact hk
  · rcases hown.2 with ⟨rfl, _⟩ | ⟨g, cap, cur, rfl, _, hh, _⟩
    · cases e
    · have e' : k = g := by simpa [Value.ownBlock] using e
      rw [← e', hk] at hh
      simp only [Option.some.injEq, Obj.cells.injEq] at hh
      exact h1 hh.2.1
theorem set_kinds {X : Nat} {u v : Value} {W1 : World} (hX : Boxed W1 X 83 u) :
    ∀ (k : Nat) (cs : Array Value) (t : TypeId), W1.heap[k]? = some (Obj.cells cs t (0, 0)) → t ≠ 83 → (W1.setCell ⟨X, 0, none⟩ v).heap[k]? = some (Obj.cells cs t (0, 0)) := by
  intro k cs t hk h2
  refine (set_cell_block (fun e => ?_)).trans hk
  have hX' := hX
  unfold Boxed at hX'
  rw [e, hX'] at hk
  simp only [Option.some.injEq, Obj.cells.injEq] at hk
  exact h2 hk.2.1.symm
/-- What lies while places are gone through. -/
def Wi (w : World) (b D Z X : Nat) (s : ByteArray) (T : Nat → Prop) (pre : List Nat) (W : World) : Prop :=
  ∃ v vs, MerA.Col w.heap.size w X 83 88 1 T pre.length vs v W ∧ Alls (Wr3 T b s W) pre vs ∧ (¬ T D ∧ W.heap[D]? = some (Obj.cells #[.pointer (some ⟨b, 0, none⟩)] 26 (0, 0))) ∧ (¬ T Z ∧ W.heap[Z]? = some (Obj.cells #[.string s] 9 (0, 0)))
theorem Wi.turns {w : World} {b D Z X : Nat} {s : ByteArray} {T T' : Nat → Prop} {pre : List Nat} {A B : World} (h : Wi w b D Z X s T pre A) (ht : MerG.Turns T T' A B) : Wi w b D Z X s T' pre B := by
  obtain ⟨v, vs, h1, h2, h3, h4⟩ := h
  exact ⟨v, vs, h1.turns (Nat.le_refl _) ht, h2.mono fun i u hu => hu.turns ht, ht.heap h3, ht.heap h4⟩
set_option maxRecDepth 100000 in
set_option maxHeartbeats 4000000 in
theorem wipes (gf : Nat) (lb : Array Value) (eg : ∀ args w, (callFunc gf args).run Tryz.prog w = .ok (.enter gf args) w) (L : List Nat) (hL : L.length ≤ 5000) (RO : Nat → Prop) (w : World) (hRO : ∀ b, RO b → b < w.heap.size) (b : Nat)
    (hseq : MerG.Seq false Fence.wide 5 Tryz.prog gf lb encI (fun _ pre x _ => pre ++ [x] <+: L) (fun ys => ys = L) (fun _ => True) RO w) :
    Calls Tryz.prog 39 #[.pointer (some ⟨b, 0, none⟩), .func (.func gf) #[] lb] w (Wiped b (nou 4096) L w) := by
  have HEm : Hid (∀ W : World, Calls Tryz.prog 78 #[] W fun r w' => r = .returned (.string (nou 4096)) ∧ Below W.heap.size W w') := Lib.hid (fun W => SloP.Empty W)
  have HSq := Lib.hid hseq
  have HRo := Lib.hid hRO
  have HLl := Lib.hid hL
  clear hseq hRO hL
  generalize nou 4096 = zz at *
  refine (callsIn_wide (n := 6)).1 ?_
  refine callsIn_of_wp_marks Tryz.func39 rfl trivial ?_ rfl
  simp only [Tryz.ntmps39, List.size_toArray, List.length_cons, List.length_nil, Nat.reduceAdd, Nat.reduceSub, Array.replicate_succ, Array.replicate_zero, List.push_toArray, List.append_toArray, List.nil_append, List.cons_append]
  gi_wp2_with (refine ⟨trivial, ?_⟩; gi_at_call 78; refine (callsIn_wide.2 (HEm.out _)).mono ?_; rintro e w2 ⟨rfl, hb2⟩; have B2 := Lib.hid hb2; clear hb2)

  have HW0 : Hid (Wi w b w.heap.size w2.heap.size (w2.heap.size + 1) zz MerG.Non [] ((w2.alloc (Obj.cells #[.string zz] 9)).alloc (Obj.cells #[.slice none 0 0] 83))) := by
    have b1 : Below w.heap.size w w2 := ((Below.refl _ w).alloc (Nat.le_refl _) _).trans (B2.out.mono (by simp only [World.size_alloc]; omega))
    have b2 := b1.alloc (o := Obj.cells #[.string zz] 9) b1.size
    have b3 := b2.alloc (o := Obj.cells #[.slice none 0 0] 83) b2.size
    have hx := Boxed.new (w2.alloc (Obj.cells #[.string zz] 9)) 83 (.slice none 0 0)
    rw [World.size_alloc] at hx
    refine Lib.hid ⟨_, _, MerA.Col.start hx b3, .nil, ⟨fun h => h, ?_⟩, ⟨fun h => h, ?_⟩⟩
    · have q := B2.out.size
      simp only [World.size_alloc] at q
      have q1 : w.heap.size < w2.heap.size := by omega
      have q2 : w.heap.size < (w2.alloc (Obj.cells #[.string zz] 9)).heap.size := by simp only [World.size_alloc]; omega
      exact (heap_alloc_old _ _ _ q2).trans ((heap_alloc_old _ _ _ q1).trans ((B2.out.block _ (by simp only [World.size_alloc]; omega)).trans (heap_alloc_new w _)))
    · have q2 : w2.heap.size < (w2.alloc (Obj.cells #[.string zz] 9)).heap.size := by simp only [World.size_alloc]; omega
      exact (heap_alloc_old _ _ _ q2).trans (heap_alloc_new w2 _)
  have hs0 : w.heap.size + 1 ≤ w2.heap.size := by have := B2.out.size; simpa only [World.size_alloc] using this
  generalize hgW : (w2.alloc (Obj.cells #[.string zz] 9)).alloc (Obj.cells #[.slice none 0 0] 83) = W0 at *
  clear hgW
  generalize w2.heap.size = Z at *
  clear B2
  obtain ⟨v0, vs0, hC0, hA0, hD0, hZ0⟩ := HW0.out
  refine MerG.range rfl (show 1 ≤ 6 by omega) (gf := gf) (lb := lb) rfl trivial eg (HSq.out.later ⟨hC0.safe.2.size, fun b hb _ => hC0.safe.2.block b hb⟩) (fun b hb => Nat.lt_of_lt_of_le (HRo.out b hb) hC0.safe.2.size) (fun _ => rfl)
    (fun T pre W => Wi w b w.heap.size Z (Z + 1) zz T pre W) (fun _ _ _ _ => False)
    (fun s T T' A B h ht _ => h.turns ht) (fun _ => MerG.abide_none) HW0.out
    (fun T s W => Wi w b w.heap.size Z (Z + 1) zz T s.1 W ∧ s.1 ++ [s.2.1] <+: L ∧ s.2.2 = { tmps := #[.pointer (some ⟨b, 0, none⟩), .func (.func gf) #[] lb, .pointer (some ⟨w.heap.size, 0, none⟩), undef, .slice none 0 0, .pointer (some ⟨Z, 0, none⟩), .pointer (some ⟨Z + 1, 0, none⟩), .int .i64 (s.2.1 : Int), .string zz, .func (.func gf) #[] lb, .int .i64 (s.2.1 : Int), undef, undef, undef, undef, undef, undef, undef, undef], defers := [] })
    (fun T s W l r r' hs hl _ => ⟨hs.1.turns (MerG.Turns.putObj hl _), hs.2⟩) ?assign ?body ?done ?stop
  case assign =>
    rintro l T pre x W K hI ⟨_, _, hx⟩ hK
    simp only [encI]
    gi_wp2
    exact hK _ _ (MerG.Kept.refl _ _) ⟨hI, hx, rfl⟩
  case body =>
    rintro l T pre x a' W ⟨⟨v, vs, hC, hA, hD, hZ⟩, hpre, ha⟩
    dsimp only at ha hpre hC hA
    subst ha
    have HC := Lib.hid hC
    have HA := Lib.hid hA
    have HD := Lib.hid hD
    have HZ := Lib.hid hZ
    have HP := Lib.hid hpre
    have h0 := hC.safe.2.size
    have HT := Lib.hid hC.low
    have HTD := Lib.hid hD.1
    have HTZ := Lib.hid hZ.1
    clear hC hA hD hZ hpre
    gi_wp2
    have HKd : Hid (∀ K A, MerG.Kept K W.drew A → MerG.Kept K W A) := Lib.hid fun K A h => ⟨h.size, h.block⟩
    replace HC := Lib.hid (HC.out.turns (Nat.le_refl _) (MerG.Turns.drew W))
    replace HA := Lib.hid (HA.out.mono fun i u hu => hu.turns (MerG.Turns.drew W))
    replace HD := Lib.hid (show W.drew.heap[w.heap.size]? = some (Obj.cells #[.pointer (some ⟨b, 0, none⟩)] 26 (0, 0)) from HD.out.2)
    replace HZ := Lib.hid (show W.drew.heap[Z]? = some (Obj.cells #[.string zz] 9 (0, 0)) from HZ.out.2)
    replace HT : Hid (∀ k, T k → k < W.drew.heap.size) := Lib.hid HT.out
    have h0' : w.heap.size ≤ W.drew.heap.size := h0
    clear h0
    have HWr := Lib.hid (fun A => writes_at b (x : Int) zz A)
    have HL1 : Hid (pre.length + 1 ≤ 100000) := Lib.hid (by have := HP.out.length_le; have := HLl.out; simp at *; omega)
    have hS : W.drew.cell? ⟨w.heap.size, 0, none⟩ = some (.pointer (some ⟨b, 0, none⟩)) ∧ W.drew.cell? ⟨Z, 0, none⟩ = some (.string zz) := ⟨blk_cell HD.out rfl, blk_cell HZ.out rfl⟩
    have hx0 : W.drew.cell? ⟨Z + 1, 0, none⟩ = some v := HC.out.box.2.cell
    have eA : ∃ A0, W.drew = A0 := ⟨_, rfl⟩
    refine MerF.held (S := fun W => W.cell? ⟨w.heap.size, 0, none⟩ = some (.pointer (some ⟨b, 0, none⟩)) ∧ W.cell? ⟨Z, 0, none⟩ = some (.string zz)) (by kernel_rfl) (by kernel_rfl) (by rintro ⟨_, _, h⟩; exact h) hS (fun _ => ?_)
    change wpAnyH _ _ _ _ _ _ #[false, false, false, false, false, false, false, false] _ _
    obtain ⟨A0, eA⟩ := eA
    rw [eA] at HKd HC HA HD HZ HT h0' hS hx0 ⊢
    clear eA
    refine wpAnyH_take (i := 1) (v := ?v1) (by rw [List.getElem?_toArray]; rfl) (by kernel_rfl) (by kernel_rfl) (by kernel_rfl) (by intro _ _ _ h; exact h) (Or.inl ⟨by rfl, ?hy1⟩) (by assumption) ?rest1
    case hy1 => (intro W hSW; (try dsimp only at hSW); go_simp; try with_reducible rfl)
    try simp only [Act.put, List.setIfInBounds_toArray, List.set_cons_zero, List.set_cons_succ]
    refine wpAnyH_take (i := 2) (v := ?v2) (by rw [List.getElem?_toArray]; rfl) (by kernel_rfl) (by kernel_rfl) (by kernel_rfl) (by intro _ _ _ h; exact h) (Or.inl ⟨by rfl, ?hy2⟩) (by assumption) ?rest2
    case hy2 => (intro W hSW; (try dsimp only at hSW); go_simp; try with_reducible rfl)
    try simp only [Act.put, List.setIfInBounds_toArray, List.set_cons_zero, List.set_cons_succ]
    refine wpAnyH_take (i := 3) (v := ?v3) (by rw [List.getElem?_toArray]; rfl) (by kernel_rfl) (by kernel_rfl) (by kernel_rfl) (by intro _ _ _ h; exact h) (Or.inl ⟨by rfl, ?hy3⟩) (by assumption) ?rest3
    case hy3 => (intro W hSW; (try dsimp only at hSW); go_simp; try with_reducible rfl)
    try simp only [Act.put, List.setIfInBounds_toArray, List.set_cons_zero, List.set_cons_succ]
    refine wpAnyH_ready (rs := [0, 4]) (by kernel_rfl) (by simp) (AllReadyH.cons (by rw [List.getElem?_toArray]; rfl) (fun K hK => ?_) (AllReadyH.cons (by rw [List.getElem?_toArray]; rfl) (fun K hK => ?_) AllReadyH.nil))
    · go_simp
      refine hK.out _ _ hS (fun _ => ?_)
      clear hK K
      try simp only [List.setIfInBounds_toArray, List.set_cons_zero, List.set_cons_succ]
      refine wpAnyH_ready (rs := [4]) (by kernel_rfl) (by simp) (AllReadyH.cons (by rw [List.getElem?_toArray]; rfl) (fun K hK => ?_) AllReadyH.nil)
      go_simp
      refine (HWr.out _).mono ?_
      rintro e w4 ⟨rfl, hw4, hb4⟩
      have B4 := Lib.hid hb4
      have A4 := Lib.hid hw4
      have D4 := Lib.hid ((hb4.block _ (lt_of_some HD.out)).trans HD.out)
      have Z4 := Lib.hid ((hb4.block _ (lt_of_some HZ.out)).trans HZ.out)
      replace hS := And.intro (blk_cell (i := 0) D4.out rfl) (blk_cell (i := 0) Z4.out rfl)
      have hx4 := (boxed_below HC.out.box.2 hb4).cell
      clear hx0 hb4 hw4
      refine hK.out _ _ hS (fun _ => ?_)
      clear hK K
      try simp only [List.setIfInBounds_toArray, List.set_cons_zero, List.set_cons_succ]
      refine wpAnyH_ready (rs := [5]) (by kernel_rfl) (by simp) (AllReadyH.cons (by rw [List.getElem?_toArray]; rfl) (fun K hK => ?_) AllReadyH.nil)
      go_simp
      have B5 := Lib.hid (B4.out.alloc B4.out.size (Obj.cells #[Value.func (.func 82) #[] #[.pointer (some ⟨A0.heap.size, 0, none⟩), .pointer (some ⟨A0.heap.size + 1, 0, none⟩), .pointer (some ⟨A0.heap.size + 1 + 1, 0, none⟩)]] 88))
      have X5 := Lib.hid (boxed_below HC.out.box.2 B5.out)
      have hx5 := X5.out.cell
      have D5 := Lib.hid ((B5.out.block _ (lt_of_some HD.out)).trans HD.out)
      have Z5 := Lib.hid ((B5.out.block _ (lt_of_some HZ.out)).trans HZ.out)
      replace hS := And.intro (blk_cell (i := 0) D5.out rfl) (blk_cell (i := 0) Z5.out rfl)
      clear hx4
      refine hK.out _ _ hS (fun _ => ?_)
      clear hK K
      try simp only [List.setIfInBounds_toArray, List.set_cons_zero, List.set_cons_succ]
      refine wpAnyH_ready (rs := [6]) (by kernel_rfl) (by simp) (AllReadyH.cons (by rw [List.getElem?_toArray]; rfl) (fun K hK => ?_) AllReadyH.nil)
      have ho5 := MerA.own_at HC.out.own (fun k hk => B5.out.block k (HC.out.own.lt k hk).2)
      obtain ⟨v6, w6, hr6, ho6, hg6, hat6⟩ := app_st w.heap.size pre.length v vs [Value.func (.func 82) #[] #[.pointer (some ⟨A0.heap.size, 0, none⟩), .pointer (some ⟨A0.heap.size + 1, 0, none⟩), .pointer (some ⟨A0.heap.size + 1 + 1, 0, none⟩)]] _ HL1.out (Nat.le_trans h0' B5.out.size) ho5 w4.heap.size (cell_row (heap_alloc_new w4 (Obj.cells #[Value.func (.func 82) #[] #[.pointer (some ⟨A0.heap.size, 0, none⟩), .pointer (some ⟨A0.heap.size + 1, 0, none⟩), .pointer (some ⟨A0.heap.size + 1 + 1, 0, none⟩)]] 88))) (by simp [Value.oneCell'])
      obtain ⟨g6, c6, e6⟩ := own_len ho6
      subst e6
      refine step_run rfl _ _ _ rfl _ w6 hr6 ?_
      have HAp := Lib.hid (HC.out.appended (by decide) (by omega) h0' HRo.out B5.out ho6 hg6 hat6)
      have K6 := Lib.hid (row_kinds ho5 hg6)
      have hx6 := HAp.out.1.cell
      have hf6 := HAp.out.1.frozen
      have K7 := Lib.hid (set_kinds (v := .slice g6 (pre.length + 1) c6) HAp.out.1)
      have D6 := Lib.hid (K6.out _ _ _ D5.out (by decide))
      have Z6 := Lib.hid (K6.out _ _ _ Z5.out (by decide))
      replace hS := And.intro (blk_cell (i := 0) D6.out rfl) (blk_cell (i := 0) Z6.out rfl)
      clear hr6 ho6 hg6 hat6 ho5 hx5
      refine hK.out _ _ hS (fun _ => ?_)
      clear hK K
      try simp only [List.setIfInBounds_toArray, List.set_cons_zero, List.set_cons_succ]
      refine wpAnyH_ready (rs := [7]) (by kernel_rfl) (by simp) (AllReadyH.cons (by rw [List.getElem?_toArray]; rfl) (fun K hK => ?_) AllReadyH.nil)
      go_simp
      have D7 := Lib.hid (K7.out _ _ _ D6.out (by decide))
      have Z7 := Lib.hid (K7.out _ _ _ Z6.out (by decide))
      refine hK.out _ _ ⟨blk_cell (i := 0) D7.out rfl, blk_cell (i := 0) Z7.out rfl⟩ (fun _ => ?_)
      clear hK K
      try simp only [List.setIfInBounds_toArray, List.set_cons_zero, List.set_cons_succ]
      refine wpAnyH_done (by kernel_rfl) ?_ _
      gi_wp2
      have hn : ∀ j, ¬ T (A0.heap.size + j) := fun j e => by have := HT.out _ e; omega
      have HQ : Hid (∀ (k : Nat) (cs : Array Value) (t : TypeId), A0.heap[k]? = some (Obj.cells cs t (0, 0)) → t ≠ 88 → t ≠ 83 → (w6.setCell ⟨Z + 1, 0, none⟩ (.slice g6 (pre.length + 1) c6)).heap[k]? = some (Obj.cells cs t (0, 0))) := Lib.hid (fun k cs t hk h1 h2 => K7.out k cs t (K6.out k cs t ((B5.out.block _ (lt_of_some hk)).trans hk) h1) h2)
      have HQ4 : Hid (∀ (k : Nat) (cs : Array Value) (t : TypeId), w4.heap[k]? = some (Obj.cells cs t (0, 0)) → t ≠ 88 → t ≠ 83 → (w6.setCell ⟨Z + 1, 0, none⟩ (.slice g6 (pre.length + 1) c6)).heap[k]? = some (Obj.cells cs t (0, 0))) := Lib.hid (fun k cs t hk h1 h2 => K7.out k cs t (K6.out k cs t ((heap_alloc_old _ _ _ (lt_of_some hk)).trans hk) h1) h2)
      refine ⟨HKd.out _ _ HAp.out.2.2, .slice g6 (pre.length + 1) c6, vs ++ [Value.func (.func 82) #[] #[.pointer (some ⟨A0.heap.size, 0, none⟩), .pointer (some ⟨A0.heap.size + 1, 0, none⟩), .pointer (some ⟨A0.heap.size + 1 + 1, 0, none⟩)]], ?_, (HA.out.mono fun i u hu => hu.keep HQ.out).snoc ⟨_, _, _, rfl, ⟨hn 0, HQ4.out _ _ _ A4.out.d (by decide) (by decide)⟩, ⟨hn 1, HQ4.out _ _ _ A4.out.i (by decide) (by decide)⟩, ⟨hn 2, HQ4.out _ _ _ A4.out.s (by decide) (by decide)⟩⟩, ⟨?_, D7.out⟩, ⟨?_, Z7.out⟩⟩
      · simpa using HAp.out.2.1
      · exact fun e => HTD.out e
      · exact fun e => HTZ.out e
    · go_simp
      refine (HWr.out _).mono ?_
      rintro e w4 ⟨rfl, hw4, hb4⟩
      have B4 := Lib.hid hb4
      have A4 := Lib.hid hw4
      have D4 := Lib.hid ((hb4.block _ (lt_of_some HD.out)).trans HD.out)
      have Z4 := Lib.hid ((hb4.block _ (lt_of_some HZ.out)).trans HZ.out)
      replace hS := And.intro (blk_cell (i := 0) D4.out rfl) (blk_cell (i := 0) Z4.out rfl)
      have hx4 := (boxed_below HC.out.box.2 hb4).cell
      clear hx0 hb4 hw4
      refine hK.out _ _ hS (fun _ => ?_)
      clear hK K
      try simp only [List.setIfInBounds_toArray, List.set_cons_zero, List.set_cons_succ]
      refine wpAnyH_ready (rs := [0, 5]) (by kernel_rfl) (by simp) (AllReadyH.cons (by rw [List.getElem?_toArray]; rfl) (fun K hK => ?_) (AllReadyH.cons (by rw [List.getElem?_toArray]; rfl) (fun K hK => ?_) AllReadyH.nil))
      · go_simp
        refine hK.out _ _ hS (fun _ => ?_)
        clear hK K
        try simp only [List.setIfInBounds_toArray, List.set_cons_zero, List.set_cons_succ]
        refine wpAnyH_ready (rs := [5]) (by kernel_rfl) (by simp) (AllReadyH.cons (by rw [List.getElem?_toArray]; rfl) (fun K hK => ?_) AllReadyH.nil)
        go_simp
        have B5 := Lib.hid (B4.out.alloc B4.out.size (Obj.cells #[Value.func (.func 82) #[] #[.pointer (some ⟨A0.heap.size, 0, none⟩), .pointer (some ⟨A0.heap.size + 1, 0, none⟩), .pointer (some ⟨A0.heap.size + 1 + 1, 0, none⟩)]] 88))
        have X5 := Lib.hid (boxed_below HC.out.box.2 B5.out)
        have hx5 := X5.out.cell
        have D5 := Lib.hid ((B5.out.block _ (lt_of_some HD.out)).trans HD.out)
        have Z5 := Lib.hid ((B5.out.block _ (lt_of_some HZ.out)).trans HZ.out)
        replace hS := And.intro (blk_cell (i := 0) D5.out rfl) (blk_cell (i := 0) Z5.out rfl)
        clear hx4
        refine hK.out _ _ hS (fun _ => ?_)
        clear hK K
        try simp only [List.setIfInBounds_toArray, List.set_cons_zero, List.set_cons_succ]
        refine wpAnyH_ready (rs := [6]) (by kernel_rfl) (by simp) (AllReadyH.cons (by rw [List.getElem?_toArray]; rfl) (fun K hK => ?_) AllReadyH.nil)
        have ho5 := MerA.own_at HC.out.own (fun k hk => B5.out.block k (HC.out.own.lt k hk).2)
        obtain ⟨v6, w6, hr6, ho6, hg6, hat6⟩ := app_st w.heap.size pre.length v vs [Value.func (.func 82) #[] #[.pointer (some ⟨A0.heap.size, 0, none⟩), .pointer (some ⟨A0.heap.size + 1, 0, none⟩), .pointer (some ⟨A0.heap.size + 1 + 1, 0, none⟩)]] _ HL1.out (Nat.le_trans h0' B5.out.size) ho5 w4.heap.size (cell_row (heap_alloc_new w4 (Obj.cells #[Value.func (.func 82) #[] #[.pointer (some ⟨A0.heap.size, 0, none⟩), .pointer (some ⟨A0.heap.size + 1, 0, none⟩), .pointer (some ⟨A0.heap.size + 1 + 1, 0, none⟩)]] 88))) (by simp [Value.oneCell'])
        obtain ⟨g6, c6, e6⟩ := own_len ho6
        subst e6
        refine step_run rfl _ _ _ rfl _ w6 hr6 ?_
        have HAp := Lib.hid (HC.out.appended (by decide) (by omega) h0' HRo.out B5.out ho6 hg6 hat6)
        have K6 := Lib.hid (row_kinds ho5 hg6)
        have hx6 := HAp.out.1.cell
        have hf6 := HAp.out.1.frozen
        have K7 := Lib.hid (set_kinds (v := .slice g6 (pre.length + 1) c6) HAp.out.1)
        have D6 := Lib.hid (K6.out _ _ _ D5.out (by decide))
        have Z6 := Lib.hid (K6.out _ _ _ Z5.out (by decide))
        replace hS := And.intro (blk_cell (i := 0) D6.out rfl) (blk_cell (i := 0) Z6.out rfl)
        clear hr6 ho6 hg6 hat6 ho5 hx5
        refine hK.out _ _ hS (fun _ => ?_)
        clear hK K
        try simp only [List.setIfInBounds_toArray, List.set_cons_zero, List.set_cons_succ]
        refine wpAnyH_ready (rs := [7]) (by kernel_rfl) (by simp) (AllReadyH.cons (by rw [List.getElem?_toArray]; rfl) (fun K hK => ?_) AllReadyH.nil)
        go_simp
        have D7 := Lib.hid (K7.out _ _ _ D6.out (by decide))
        have Z7 := Lib.hid (K7.out _ _ _ Z6.out (by decide))
        refine hK.out _ _ ⟨blk_cell (i := 0) D7.out rfl, blk_cell (i := 0) Z7.out rfl⟩ (fun _ => ?_)
        clear hK K
        try simp only [List.setIfInBounds_toArray, List.set_cons_zero, List.set_cons_succ]
        refine wpAnyH_done (by kernel_rfl) ?_ _
        gi_wp2
        have hn : ∀ j, ¬ T (A0.heap.size + j) := fun j e => by have := HT.out _ e; omega
        have HQ : Hid (∀ (k : Nat) (cs : Array Value) (t : TypeId), A0.heap[k]? = some (Obj.cells cs t (0, 0)) → t ≠ 88 → t ≠ 83 → (w6.setCell ⟨Z + 1, 0, none⟩ (.slice g6 (pre.length + 1) c6)).heap[k]? = some (Obj.cells cs t (0, 0))) := Lib.hid (fun k cs t hk h1 h2 => K7.out k cs t (K6.out k cs t ((B5.out.block _ (lt_of_some hk)).trans hk) h1) h2)
        have HQ4 : Hid (∀ (k : Nat) (cs : Array Value) (t : TypeId), w4.heap[k]? = some (Obj.cells cs t (0, 0)) → t ≠ 88 → t ≠ 83 → (w6.setCell ⟨Z + 1, 0, none⟩ (.slice g6 (pre.length + 1) c6)).heap[k]? = some (Obj.cells cs t (0, 0))) := Lib.hid (fun k cs t hk h1 h2 => K7.out k cs t (K6.out k cs t ((heap_alloc_old _ _ _ (lt_of_some hk)).trans hk) h1) h2)
        refine ⟨HKd.out _ _ HAp.out.2.2, .slice g6 (pre.length + 1) c6, vs ++ [Value.func (.func 82) #[] #[.pointer (some ⟨A0.heap.size, 0, none⟩), .pointer (some ⟨A0.heap.size + 1, 0, none⟩), .pointer (some ⟨A0.heap.size + 1 + 1, 0, none⟩)]], ?_, (HA.out.mono fun i u hu => hu.keep HQ.out).snoc ⟨_, _, _, rfl, ⟨hn 0, HQ4.out _ _ _ A4.out.d (by decide) (by decide)⟩, ⟨hn 1, HQ4.out _ _ _ A4.out.i (by decide) (by decide)⟩, ⟨hn 2, HQ4.out _ _ _ A4.out.s (by decide) (by decide)⟩⟩, ⟨?_, D7.out⟩, ⟨?_, Z7.out⟩⟩
        · simpa using HAp.out.2.1
        · exact fun e => HTD.out e
        · exact fun e => HTZ.out e
      · go_simp
        have B5 := Lib.hid (B4.out.alloc B4.out.size (Obj.cells #[Value.func (.func 82) #[] #[.pointer (some ⟨A0.heap.size, 0, none⟩), .pointer (some ⟨A0.heap.size + 1, 0, none⟩), .pointer (some ⟨A0.heap.size + 1 + 1, 0, none⟩)]] 88))
        have X5 := Lib.hid (boxed_below HC.out.box.2 B5.out)
        have hx5 := X5.out.cell
        have D5 := Lib.hid ((B5.out.block _ (lt_of_some HD.out)).trans HD.out)
        have Z5 := Lib.hid ((B5.out.block _ (lt_of_some HZ.out)).trans HZ.out)
        replace hS := And.intro (blk_cell (i := 0) D5.out rfl) (blk_cell (i := 0) Z5.out rfl)
        clear hx4
        refine hK.out _ _ hS (fun _ => ?_)
        clear hK K
        try simp only [List.setIfInBounds_toArray, List.set_cons_zero, List.set_cons_succ]
        refine wpAnyH_ready (rs := [0]) (by kernel_rfl) (by simp) (AllReadyH.cons (by rw [List.getElem?_toArray]; rfl) (fun K hK => ?_) AllReadyH.nil)
        go_simp
        refine hK.out _ _ hS (fun _ => ?_)
        clear hK K
        try simp only [List.setIfInBounds_toArray, List.set_cons_zero, List.set_cons_succ]
        refine wpAnyH_ready (rs := [6]) (by kernel_rfl) (by simp) (AllReadyH.cons (by rw [List.getElem?_toArray]; rfl) (fun K hK => ?_) AllReadyH.nil)
        have ho5 := MerA.own_at HC.out.own (fun k hk => B5.out.block k (HC.out.own.lt k hk).2)
        obtain ⟨v6, w6, hr6, ho6, hg6, hat6⟩ := app_st w.heap.size pre.length v vs [Value.func (.func 82) #[] #[.pointer (some ⟨A0.heap.size, 0, none⟩), .pointer (some ⟨A0.heap.size + 1, 0, none⟩), .pointer (some ⟨A0.heap.size + 1 + 1, 0, none⟩)]] _ HL1.out (Nat.le_trans h0' B5.out.size) ho5 w4.heap.size (cell_row (heap_alloc_new w4 (Obj.cells #[Value.func (.func 82) #[] #[.pointer (some ⟨A0.heap.size, 0, none⟩), .pointer (some ⟨A0.heap.size + 1, 0, none⟩), .pointer (some ⟨A0.heap.size + 1 + 1, 0, none⟩)]] 88))) (by simp [Value.oneCell'])
        obtain ⟨g6, c6, e6⟩ := own_len ho6
        subst e6
        refine step_run rfl _ _ _ rfl _ w6 hr6 ?_
        have HAp := Lib.hid (HC.out.appended (by decide) (by omega) h0' HRo.out B5.out ho6 hg6 hat6)
        have K6 := Lib.hid (row_kinds ho5 hg6)
        have hx6 := HAp.out.1.cell
        have hf6 := HAp.out.1.frozen
        have K7 := Lib.hid (set_kinds (v := .slice g6 (pre.length + 1) c6) HAp.out.1)
        have D6 := Lib.hid (K6.out _ _ _ D5.out (by decide))
        have Z6 := Lib.hid (K6.out _ _ _ Z5.out (by decide))
        replace hS := And.intro (blk_cell (i := 0) D6.out rfl) (blk_cell (i := 0) Z6.out rfl)
        clear hr6 ho6 hg6 hat6 ho5 hx5
        refine hK.out _ _ hS (fun _ => ?_)
        clear hK K
        try simp only [List.setIfInBounds_toArray, List.set_cons_zero, List.set_cons_succ]
        refine wpAnyH_ready (rs := [7]) (by kernel_rfl) (by simp) (AllReadyH.cons (by rw [List.getElem?_toArray]; rfl) (fun K hK => ?_) AllReadyH.nil)
        go_simp
        have D7 := Lib.hid (K7.out _ _ _ D6.out (by decide))
        have Z7 := Lib.hid (K7.out _ _ _ Z6.out (by decide))
        refine hK.out _ _ ⟨blk_cell (i := 0) D7.out rfl, blk_cell (i := 0) Z7.out rfl⟩ (fun _ => ?_)
        clear hK K
        try simp only [List.setIfInBounds_toArray, List.set_cons_zero, List.set_cons_succ]
        refine wpAnyH_done (by kernel_rfl) ?_ _
        gi_wp2
        have hn : ∀ j, ¬ T (A0.heap.size + j) := fun j e => by have := HT.out _ e; omega
        have HQ : Hid (∀ (k : Nat) (cs : Array Value) (t : TypeId), A0.heap[k]? = some (Obj.cells cs t (0, 0)) → t ≠ 88 → t ≠ 83 → (w6.setCell ⟨Z + 1, 0, none⟩ (.slice g6 (pre.length + 1) c6)).heap[k]? = some (Obj.cells cs t (0, 0))) := Lib.hid (fun k cs t hk h1 h2 => K7.out k cs t (K6.out k cs t ((B5.out.block _ (lt_of_some hk)).trans hk) h1) h2)
        have HQ4 : Hid (∀ (k : Nat) (cs : Array Value) (t : TypeId), w4.heap[k]? = some (Obj.cells cs t (0, 0)) → t ≠ 88 → t ≠ 83 → (w6.setCell ⟨Z + 1, 0, none⟩ (.slice g6 (pre.length + 1) c6)).heap[k]? = some (Obj.cells cs t (0, 0))) := Lib.hid (fun k cs t hk h1 h2 => K7.out k cs t (K6.out k cs t ((heap_alloc_old _ _ _ (lt_of_some hk)).trans hk) h1) h2)
        refine ⟨HKd.out _ _ HAp.out.2.2, .slice g6 (pre.length + 1) c6, vs ++ [Value.func (.func 82) #[] #[.pointer (some ⟨A0.heap.size, 0, none⟩), .pointer (some ⟨A0.heap.size + 1, 0, none⟩), .pointer (some ⟨A0.heap.size + 1 + 1, 0, none⟩)]], ?_, (HA.out.mono fun i u hu => hu.keep HQ.out).snoc ⟨_, _, _, rfl, ⟨hn 0, HQ4.out _ _ _ A4.out.d (by decide) (by decide)⟩, ⟨hn 1, HQ4.out _ _ _ A4.out.i (by decide) (by decide)⟩, ⟨hn 2, HQ4.out _ _ _ A4.out.s (by decide) (by decide)⟩⟩, ⟨?_, D7.out⟩, ⟨?_, Z7.out⟩⟩
        · simpa using HAp.out.2.1
        · exact fun e => HTD.out e
        · exact fun e => HTZ.out e
  case done =>
    rintro D T ys W hD hT hys ⟨v, vs, hC, hA, hD', hZ'⟩ hK
    rw [hys] at hC hA
    clear hys
    have HC := Lib.hid hC
    have HA := Lib.hid hA
    have hc := hC.box.2.cell
    obtain ⟨a, cc, rfl⟩ := own_len hC.own
    clear hC hA
    gi_wp2
    refine ⟨by simp, .inl ⟨_, _, rfl, run_takeDeferred hK, ?_⟩⟩
    refine ⟨_, results_tmp rfl _ _ _, _, _, rfl, ownsRow_putObj HC.out.own _ hK rfl, HA.out.mono fun i u hu => ?_, HC.out.safe.2.trans ?_⟩
    · exact hu.turns ⟨rfl, rfl, rfl, by simp, fun k _ hk => World.putObj_heap_other (fun e => hk (e ▸ hT)), fun b hb => hb.elim⟩
    · have hd := HC.out.safe.1 D hT
      exact ⟨rfl, rfl, rfl, by simp, fun b hb => World.putObj_heap_other (by omega)⟩
  case stop =>
    rintro D c T pre W _ _ _ h _
    exact h.elim
end Go.Proofs.YtoilcieineejiaaGreatDoor.JouL
