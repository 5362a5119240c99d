/- Rows of acts that a call owns; two segments of the program's side by side; what a proof tells of a place. No conditions but those that each lemma names. -/
import Derived.Test.YtdkcebaehdkphaaGreatDoorLSegC
import Derived.Test.YtdkcebaehdkphaaGreatDoorLPrgW
namespace Go.Proofs.YtdkcebaehdkphaaGreatDoor.SegY
set_option linter.unusedVariables false
open Go.RowKit STurn
open PrfL PrfN PrfM PrfB PrfG PrfD PrgC PrgK PrgO PrgP PrgQ PrgR PrgV PrgW PrgM MerQ MerM MerN MerC MerA MerJ MerR MerW SegN SegM SegR SegG SegH SegJ SegK SegL SegF SegX
open SegP (takes)
/-! What a place has. -/
theorem lvs_has {C : Pl} {b : Nat} {h : L} (e : C b = some h) : ∀ {k : Nat}, b < k → ((b : Int), h) ∈ lvs C k
  | 0, hk => absurd hk (Nat.not_lt_zero _)
  | k + 1, hk => by
    rw [lvs, List.mem_append]
    rcases Nat.lt_or_ge b k with h1 | h1
    · exact .inl (lvs_has e h1)
    · obtain rfl : b = k := by omega
      refine .inr ?_
      unfold one
      rw [e]
      exact List.mem_singleton.2 rfl
theorem own_place (C : Pl) {lba : Int} (hb : 0 ≤ lba ∧ lba ≤ 4095) : own (lvs C 4096) lba = ((C lba.toNat).getD [], (C lba.toNat).isSome) := by
  obtain ⟨b, rfl⟩ : ∃ b : Nat, lba = (b : Int) := ⟨lba.toNat, by omega⟩
  rw [Int.toNat_natCast]
  have hr := lvs_rise C 4096
  cases e : C b with
  | some h =>
    obtain ⟨i, hi, hx⟩ := List.getElem_of_mem (lvs_has (k := 4096) e (by omega))
    have h1 := own_yes (b := (b : Int)) hr hi (by rw [at_d _ hi, hx])
    rw [h1.2, at_d _ hi, hx]
    rfl
  | none =>
    rw [own_no]
    · rfl
    · intro i hi he
      rw [at_d _ hi] at he
      have := (lvs_mem (List.getElem_mem hi)).2.2
      rw [he, Int.toNat_natCast, e] at this
      simp at this
/-- What a proof of one's own tells. -/
theorem tells_own {C : Pl} (hg : SegL.Good C) {lba : Int} (hb : 0 ≤ lba ∧ lba ≤ 4095) {x : Raw} (hx : pf x = prove (lvs C 4096) lba) : tellsR (rt (lvs C 4096)) ((lvs C 4096).length : Nat) lba x = ((C lba.toNat).getD [], (C lba.toNat).isSome, 0) := by
  unfold tellsR
  rw [hx, proved (good_right hg) hb, own_place C hb]
theorem Tells_own {C : Pl} (hg : SegL.Good C) {lba : Int} (hb : 0 ≤ lba ∧ lba ≤ 4095) {x : Raw} {Bs : Nat} {W : World} (hx : pf x = prove (lvs C 4096) lba)
    (o1 : W.ownsRow Bs 9 1 (.slice x.ua x.up.length x.uc) x.up.length (x.up.map str)) (o2 : W.ownsRow Bs 9 1 (.slice x.la x.left.length x.lc) x.left.length (x.left.map str)) (hr : Rds W) :
    Calls Tryz.prog 22 #[st (rt (lvs C 4096)), .int .i64 ((lvs C 4096).length : Nat), .int .i64 lba, .agg x.cells] W fun e w' => e = .returned (.tuple #[st ((C lba.toNat).getD []), .bool (C lba.toNat).isSome, .int .i64 0]) ∧ Below W.heap.size W w' := by
  have hll := lvs_length C 4096
  have := PrgW.Tells (rt (lvs C 4096)) ((lvs C 4096).length : Nat) lba x W (prove_okay (good_fit hg) (by omega) hx o1 o2) hr
  rw [tells_own hg hb hx] at this
  exact this
/-! A row of acts. -/
def ra (l : List A) : List Value := l.flatMap fun x => (ac x).toList
theorem ra_cons (v : A) (l : List A) : ra (v :: l) = .int .i64 v.1 :: .int .i64 v.2.1 :: st v.2.2 :: ra l := rfl
theorem ra_append (l m : List A) : ra (l ++ m) = ra l ++ ra m := by simp [ra]
theorem ra_length (l : List A) : (ra l).length = l.length * 3 := by
  induction l with
  | nil => rfl
  | cons v l ih => rw [ra_cons]; simp only [List.length_cons, ih]; omega
theorem ra_at (l : List A) : ∀ i (h : i < l.length), (ra l)[i * 3]? = some (.int .i64 l[i].1) ∧ (ra l)[i * 3 + 1]? = some (.int .i64 l[i].2.1) ∧ (ra l)[i * 3 + 2]? = some (st l[i].2.2) := by
  induction l with
  | nil => intro i h; simp at h
  | cons v l ih =>
    intro i h
    cases i with
    | zero => exact ⟨rfl, rfl, rfl⟩
    | succ i =>
      have := ih i (by simpa using h)
      rw [ra_cons, show (i + 1) * 3 = i * 3 + 1 + 1 + 1 by omega]
      simpa using this
theorem own_liesA {W : World} {base : Nat} {e : TypeId} {a : Option Addr} {n c : Nat} {l : List A} (h : W.ownsRow base e 3 (.slice a n c) n (ra l)) : LiesA W a l := fun h0 => by
  have hl : l.length * 3 = n * 3 := by rw [← ra_length]; exact h.1
  rcases h.2 with ⟨_, hn⟩ | ⟨g, cap, cur, hv, _, hg, _⟩
  · omega
  · injection hv with hv
    subst hv
    refine ⟨g, 0, rfl, (Array.getElem?_eq_some_iff.1 hg).1, fun i hi => ?_⟩
    obtain ⟨r0, r1, r2⟩ := ra_at l i hi
    rw [← at_a l hi] at r0 r1 r2
    have k0 := h.cells (g := g) rfl _ _ r0
    have k1 := h.cells (g := g) rfl _ _ r1
    have k2 := h.cells (g := g) rfl _ _ r2
    rw [add_off] at k0 k1 k2
    exact ⟨k0, by rw [Nat.add_assoc]; exact k1, by rw [Nat.add_assoc]; exact k2⟩
theorem info_act : ((Tryz.prog.info? 34).map fun i => (i.zero, i.size, i.bytes)) = some (some (.agg #[.int .i64 0, .int .i64 0, .string ByteArray.empty]), 3, 32) := by kernel_rfl
theorem cell_act_new (w : World) (v : A) (t : TypeId) : ∀ j u, (ac v).toList[j]? = some u → (w.alloc (.cells #[.int .i64 v.1, .int .i64 v.2.1, st v.2.2] t)).cell? ((⟨w.heap.size, 0, none⟩ : Addr).add j) = some u := fun j u hj => by
  rw [add_off, Nat.zero_add]
  exact blk_cell (heap_alloc_new w _) (by rw [← Array.getElem?_toList]; exact hj)
theorem ac_one (v : A) : ∀ u ∈ (ac v).toList, u.oneCell' = true := by
  intro u hu
  simp only [ac, List.mem_cons, List.not_mem_nil, or_false] at hu
  rcases hu with rfl | rfl | rfl <;> rfl
/-- An act appended to a row of the call's own. -/
theorem append_act {ops : Array Oper} {rest : List Oper} {o : Oper} {a : Act} {Q : Exit → Act → World → Prop} (w : World) (hgd : o.guard = none) (s x : Operand)
    (ho : o.op = .call { callee := .builtin .append, args := #[s, x], argTypes := #[22, 22] }) (base c : Nat) (p : Option Addr) (l : List A) (v : A) (hs : a.eval s = .slice p l.length c) (hn : l.length ≤ 100000) (hb : base ≤ w.heap.size)
    (hx : a.eval x = .slice (some ⟨w.heap.size, 0, none⟩) 1 1) (hown : w.ownsRow base 34 3 (.slice p l.length c) l.length (ra l))
    (h : ∀ p' c' w', w'.ownsRow base 34 3 (.slice p' (l ++ [v]).length c') (l ++ [v]).length (ra (l ++ [v])) → Below base w w' → wpList Tryz.prog ops Q rest (a.put o.dst (.slice p' (l.length + 1) c')) w') :
    wpList Tryz.prog ops Q (o :: rest) a (w.alloc (.cells #[.int .i64 v.1, .int .i64 v.2.1, st v.2.2] 34)) := by
  obtain ⟨i0, hi, hz0, hz1, hz2⟩ := info_parts info_act
  refine wpList_append_own _ hgd s x 22 ho base 34 i0 (.agg #[.int .i64 0, .int .i64 0, .string ByteArray.empty]) 3 32 Tryz.underlying22 hi hz0 hz1 hz2 rfl (by decide) _ _ _ hs (hown.alloc _) ⟨w.heap.size, 0, none⟩ 1 1 (ac v).toList hx rfl (cell_act_new w v _) (ac_one v) (by unfold maxLen; omega) (by omega) (by simp; omega) ?_
  intro v' w1 h1 hgrow _
  obtain ⟨p', c', rfl⟩ := SegR.own_slice h1
  refine h p' c' w1 (by rw [ra_append, List.length_append]; simpa [ra] using h1) ?_
  exact Below.grown ((below_new w _).mono hb) hgrow (by simp; omega) (fun k hk => (hown.lt k hk).1)
/-! Two segments of the program's, and a row of acts. -/
structure Lay2 (u z B M B' M' : Nat) : Prop where
  uB : u ≤ B
  uM : u ≤ M
  uB' : u ≤ B'
  uM' : u ≤ M'
  Bz : B < z
  Mz : M < z
  B'z : B' < z
  M'z : M' < z
  MB' : M ≠ B'
  MM' : M ≠ M'
  M'B : M' ≠ B
structure Duo (w : World) (z B M B' M' : Nat) (ep : Int) (C D : Pl) (p : Option Addr) (c : Nat) (la : List A) (W : World) : Prop where
  seg : Seg B ep M C W
  seg' : Seg B' ep M' D W
  row : W.ownsRow z 34 3 (.slice p la.length c) la.length (ra la)
  bel : Below w.heap.size w W
  z : z ≤ W.heap.size
variable {w W W' : World} {z B M B' M' : Nat} {ep : Int} {C D E : Pl} {p : Option Addr} {c : Nat} {la : List A}
theorem Duo.step (h : Duo w z B M B' M' ep C D p c la W) (hb : Below W.heap.size W W') : Duo w z B M B' M' ep C D p c la W' :=
  ⟨h.seg.step hb, h.seg'.step hb, own_later h.row hb, h.bel.trans (hb.mono h.bel.size), Nat.le_trans h.z hb.size⟩
theorem Duo.put (h : Duo w z B M B' M' ep C D p c la W) (l : Lay2 w.heap.size z B M B' M') (k : Seg B ep M E W') (hb : Bum M W W') : Duo w z B M B' M' ep E D p c la W' :=
  ⟨k, h.seg'.other hb l.MB' l.MM', own_at h.row fun g hg => by
    have := h.row.lt g hg
    exact hb.block g this.2 (by have := l.Mz; omega), h.bel.trans (hb.below l.uM h.bel.size), Nat.le_trans h.z hb.size⟩
theorem Duo.put' (h : Duo w z B M B' M' ep C D p c la W) (l : Lay2 w.heap.size z B M B' M') (k : Seg B' ep M' E W') (hb : Bum M' W W') : Duo w z B M B' M' ep C E p c la W' :=
  ⟨h.seg.other hb l.M'B (fun e => l.MM' e.symm), k, own_at h.row fun g hg => by
    have := h.row.lt g hg
    exact hb.block g this.2 (by have := l.M'z; omega), h.bel.trans (hb.below l.uM' h.bel.size), Nat.le_trans h.z hb.size⟩
theorem Duo.rowed (h : Duo w z B M B' M' ep C D p c la W) (l : Lay2 w.heap.size z B M B' M') {p' : Option Addr} {c' : Nat} {la' : List A} (k : W'.ownsRow z 34 3 (.slice p' la'.length c') la'.length (ra la')) (hb : Below z W W') : Duo w z B M B' M' ep C D p' c' la' W' :=
  ⟨⟨(hb.block B l.Bz).trans h.seg.head, h.seg.map.block (hb.block M l.Mz)⟩, ⟨(hb.block B' l.B'z).trans h.seg'.head, h.seg'.map.block (hb.block M' l.M'z)⟩, k, h.bel.trans (hb.mono (by have := l.uB; have := l.Bz; omega)), Nat.le_trans h.z hb.size⟩
theorem lay2_new {w w1 w2 w3 : World} (S1 : Seg B ep M C w1) (h1 : w.heap.size ≤ B) (h2 : w.heap.size ≤ M) (b2 : w1.heap.size ≤ w2.heap.size) (S3 : Seg B' ep M' D w3) (gB : w2.heap.size ≤ B') (gM : w2.heap.size ≤ M') (b3 : w2.heap.size ≤ w3.heap.size) (hu : w.heap.size ≤ w1.heap.size) : Lay2 w.heap.size w3.heap.size B M B' M' := by
  have k1 := S1.lt
  have k2 := S1.map.lt
  have k3 := S3.lt
  have k4 := S3.map.lt
  exact ⟨by omega, by omega, by omega, by omega, by omega, by omega, by omega, by omega, by omega, by omega, by omega⟩
/-! The other way's mathematics. -/
theorem takes_low {ep : Int} : ∀ a h, takes ep a = some h → 0 ≤ a.1 := fun a h e => (takes_in e).1.1
theorem lastly_next (D : A → Option L) (l : List A) {k : Nat} (hk : k < l.length) : lastly D (l.drop k) = stepL D (l.getD k noA) (lastly D (l.drop (k + 1))) := by
  rw [List.drop_eq_getElem_cons hk, at_a _ hk]
  rfl
theorem lastly_few (D : A → Option L) : ∀ (l : List A), (lastly D l).2.length ≤ l.length
  | [] => Nat.le_refl _
  | x :: l => by
    have := lastly_few D l
    show (stepL D x (lastly D l)).2.length ≤ _
    unfold stepL
    split
    · rw [List.length_append]; simp; omega
    · simp; omega
theorem lastly_good (ep : Int) (l : List A) : SegL.Good (lastly (takes ep) l).1 := fun i x e => by
  rw [(lastly_is takes_low l).1 i] at e
  exact good_puts ep l non good_non i x e
/-- Is an act's place among these? -/
def metB (la : List A) (b : Int) : Bool := la.any fun y => y.1 == b
theorem met_next (la : List A) (b : Int) {j : Nat} (hj : j < la.length) : metB (la.take (j + 1)) b = (metB (la.take j) b || ((la.getD j noA).1 == b)) := by
  unfold metB
  rw [List.take_succ_eq_append_getElem hj, List.any_append, at_a _ hj]
  simp
theorem step_met {D : A → Option L} {x : A} {S : Pl × List A} (h : metB S.2 x.1 = true) : stepL D x S = S := by
  unfold stepL
  rw [if_neg]
  rintro ⟨h1, _⟩
  unfold metB at h
  rw [h] at h1
  simp at h1
theorem step_no {D : A → Option L} {x : A} {S : Pl × List A} (h : D x = none) : stepL D x S = S := by
  unfold stepL
  rw [if_neg]
  rintro ⟨_, h1⟩
  rw [h] at h1
  simp at h1
theorem step_yes {D : A → Option L} {x : A} {S : Pl × List A} {hh : L} (h : D x = some hh) (h1 : metB S.2 x.1 = false) : stepL D x S = (upd S.1 x.1.toNat hh, S.2 ++ [x]) := by
  unfold stepL
  rw [if_pos ⟨h1, by rw [h]; rfl⟩, put1_some _ h]
theorem upd_here {C : Pl} {x : A} {ep lba : Int} {hh : L} (e : x.1 = lba) : upd C x.1.toNat hh lba.toNat = some hh := by rw [e, upd_at]
theorem upd_there {C : Pl} {x : A} {ep lba : Int} {hh : L} (hy : takes ep x = some hh) (hb : 0 ≤ lba) (e : x.1 ≠ lba) : upd C x.1.toNat hh lba.toNat = C lba.toNat := by
  have := takes_low x hh hy
  exact upd_other C hh (by omega)
end Go.Proofs.YtdkcebaehdkphaaGreatDoor.SegY
