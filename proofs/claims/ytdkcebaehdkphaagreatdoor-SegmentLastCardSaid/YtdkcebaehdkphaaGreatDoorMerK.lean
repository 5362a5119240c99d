/- The program's package merkle: climb: the walk of its text; the contract of what it iterates over. No conditions but those that each lemma names. -/
import Derived.Test.YtdkcebaehdkphaaGreatDoorLMerS
import Derived.Test.YtdkcebaehdkphaaGreatDoorMerE
import Derived.Test.YtdkcebaehdkphaaGreatDoorMerD
namespace Go.Proofs.YtdkcebaehdkphaaGreatDoor.MerK
open Go.RowKit Go.Shelf STurn SSum MerG MerQ MerN MerM MerC MerS MerB MerA MerP MerE
attribute [local go_sem] Oper.semAt_some
theorem climb_in (n i : Int) (x : L) (a : Option Addr) (m c : Nat) (w : World) : Calls Tryz.prog 97 #[sv, .int .i64 n, .int .i64 i, str x, .slice a m c] w fun e w' =>
    e = .returned (.func (.func 120) #[] #[.pointer (some ⟨w.heap.size + 1 + 1 + 1, 0, none⟩), .pointer (some ⟨w.heap.size + 1, 0, none⟩), .pointer (some ⟨w.heap.size + 1 + 1, 0, none⟩), .pointer (some ⟨w.heap.size + 1 + 1 + 1 + 1, 0, none⟩), .pointer (some ⟨w.heap.size, 0, none⟩)]) ∧
    w' = ((((w.alloc (.cells #[sv] 125)).alloc (.cells #[.int .i64 n] 3)).alloc (.cells #[.int .i64 i] 3)).alloc (.cells #[str x] 9)).alloc (.cells #[.slice a m c] 46) := by
  go_enter Tryz.func97, Tryz.ntmps97
  go_wp2
  go_ret
  exact ⟨rfl, rfl⟩
theorem two (w : World) (o o' : Obj) : (((w.alloc o).alloc o').drew).heap.size = w.heap.size + 2 ∧ (((w.alloc o).alloc o').drew).heap[w.heap.size]? = some o ∧ (((w.alloc o).alloc o').drew).heap[w.heap.size + 1]? = some o' ∧ Below w.heap.size w (((w.alloc o).alloc o').drew) := by
  have h0 := World.alloc_heap_new w o
  have h1 := World.alloc_heap_new (w.alloc o) o'
  simp only [World.size_alloc] at h1
  refine ⟨by show ((w.alloc o).alloc o').heap.size = _; simp only [World.size_alloc], ?_, h1, (((Below.refl _ w).alloc (Nat.le_refl _) _).alloc (by simp only [World.size_alloc]; omega) _).drew⟩
  exact (Below.heap_alloc _ _ _ (by simp only [World.size_alloc]; omega)).trans h0
theorem two' (w : World) (o o' : Obj) : ((w.alloc o).alloc o').heap.size = w.heap.size + 2 ∧ ((w.alloc o).alloc o').heap[w.heap.size]? = some o ∧ ((w.alloc o).alloc o').heap[w.heap.size + 1]? = some o' ∧ Below w.heap.size w ((w.alloc o).alloc o') := by
  have h := two w o o'
  exact ⟨h.1, h.2.1, h.2.2.1, (((Below.refl _ w).alloc (Nat.le_refl _) _).alloc (by simp only [World.size_alloc]; omega) _)⟩
theorem cat3 (a b c : L) : ((⟨a.toArray⟩ ++ ⟨b.toArray⟩ ++ ⟨c.toArray⟩ : ByteArray)) = ⟨(a ++ b ++ c).toArray⟩ := by
  apply ByteArray.ext
  simp
/-- What lies while it runs: what it tells, its place, its node. -/
structure Sk (J : (Nat → Prop) → List (L × L) → World → Prop) (RO RI OB : Nat → Prop) (w0 : World) (n₁ Xt A N : Nat) (tv : Value) (T : Nat → Prop) (ns : List (L × L)) (k : Nat) (h o : L) (W : World) : Prop where
  pass : Pass J RO RI OB T ns W
  low : ∀ b, T b → n₁ ≤ b
  size : n₁ ≤ W.heap.size
  ro : Kept RO w0 W
  tell : W.heap[Xt]? = some (.cells #[tv] 180 (0, 0))
  box : Boxed W A 3 (.int .i64 (k : Int))
  node : W.heap[N]? = some (.cells #[str h, str o] 153 (0, 0))
section
variable {J J' : (Nat → Prop) → List (L × L) → World → Prop} {RO RI OB : Nat → Prop} {w0 : World} {n₁ Xt A N : Nat} {tv : Value} {T T' : Nat → Prop} {ns ns' : List (L × L)} {k : Nat} {h o : L} {W V : World}
theorem Sk.turns (hs : Sk J RO RI OB w0 n₁ Xt A N tv T ns k h o W) (hJ : Abide false J) (hRO : ∀ b, RO b → b < w0.heap.size) (h0 : w0.heap.size ≤ n₁) (ht : OB Xt) (ha : OB A) (hn : OB N) (hT : Turns T T' W V) : Sk J RO RI OB w0 n₁ Xt A N tv T' ns k h o V := by
  obtain ⟨U, h1, h2, h3, h4⟩ := hs.pass
  have hz := hs.size
  refine ⟨hs.pass.turns hJ hT, fun b hb => (hT.new b hb).elim (hs.low b) (fun e => by omega), Nat.le_trans hz hT.size, ⟨Nat.le_trans hs.ro.size hT.size, fun b hb hr => ?_⟩,
    (hT.block _ (h3 _ ht).2.2.2 (h3 _ ht).2.1).trans hs.tell, (hT.block _ (h3 _ ha).2.2.2 (h3 _ ha).2.1).trans hs.box, (hT.block _ (h3 _ hn).2.2.2 (h3 _ hn).2.1).trans hs.node⟩
  have hb0 := hRO b hr
  exact (hT.block b (by have := hs.ro.size; omega) (fun e => by have := hs.low b e; omega)).trans (hs.ro.block b hb hr)
theorem Sk.went (hs : Sk J RO RI OB w0 n₁ Xt A N tv T ns k h o W) (hRI : ∀ b, RO b → RI b) (ht : OB Xt) (ha : OB A) (hn : OB N) (hk : Kept (fun b => (T b ∨ RI b) ∨ OB b) W V) (hP : Pass J' RO RI OB T ns' V) : Sk J' RO RI OB w0 n₁ Xt A N tv T ns' k h o V :=
  ⟨hP, hs.low, Nat.le_trans hs.size hk.size, hs.ro.trans (hk.mono fun b hb => .inl (.inr (hRI b hb))), hk.heap hs.tell (.inr ht), hk.heap hs.box (.inr ha), hk.heap hs.node (.inr hn)⟩
theorem Sk.setAt (hs : Sk J RO RI OB w0 n₁ Xt A N tv T ns k h o W) (hJ : Abide false J) (hRI : ∀ b, RO b → RI b) (ha : OB A) (h1 : Xt ≠ A) (h2 : N ≠ A) (m : Nat) (v : Int) (hv : (m : Int) = v) :
    Sk J RO RI OB w0 n₁ Xt A N tv T ns m h o (W.setCell ⟨A, 0, none⟩ (.int .i64 v)) ∧ Kept (fun b => T b ∨ RI b) W (W.setCell ⟨A, 0, none⟩ (.int .i64 v)) := by
  subst hv
  obtain ⟨hp, hk⟩ := hs.pass.own hJ (Turns.setCell (p := ⟨A, 0, none⟩) ha (.int .i64 (m : Int)))
  exact ⟨⟨hp, hs.low, Nat.le_trans hs.size hk.size, hs.ro.trans (hk.mono fun b hb => .inr (hRI b hb)), (Below.heap_setCell W ⟨A, 0, none⟩ _ Xt h1).trans hs.tell, hs.box.set _, (Below.heap_setCell W ⟨A, 0, none⟩ _ N h2).trans hs.node⟩, hk⟩
theorem Sk.below (hs : Sk J RO RI OB w0 n₁ Xt A N tv T ns k h o W) (hJ : Abide false J) (hRO : ∀ b, RO b → b < w0.heap.size) (h0 : w0.heap.size ≤ n₁) (ht : OB Xt) (ha : OB A) (hn : OB N) (hb : Below W.heap.size W V) :
    Sk J RO RI OB w0 n₁ Xt A N tv T ns k h o V ∧ Kept (fun b => T b ∨ RI b) W V :=
  ⟨hs.turns hJ hRO h0 ht ha hn ((Turns.of_below hb).less fun _ e => .inl e), ⟨hb.size, fun b hb' _ => hb.block b hb'⟩⟩
theorem Sk.setNode (hs : Sk J RO RI OB w0 n₁ Xt A N tv T ns k h o W) (hJ : Abide false J) (hRI : ∀ b, RO b → RI b) (hn : OB N) (h1 : Xt ≠ N) (h2 : A ≠ N) (h' o' : L) :
    Sk J RO RI OB w0 n₁ Xt A N tv T ns k h' o' ((W.setCell ⟨N, 0, none⟩ (str h')).setCell ⟨N, 1, none⟩ (str o')) ∧ Kept (fun b => T b ∨ RI b) W ((W.setCell ⟨N, 0, none⟩ (str h')).setCell ⟨N, 1, none⟩ (str o')) := by
  obtain ⟨hp, hk⟩ := hs.pass.own hJ (Turns.setCell (p := ⟨N, 0, none⟩) hn (str h'))
  obtain ⟨hp2, hk2⟩ := hp.own hJ (Turns.setCell (p := ⟨N, 1, none⟩) hn (str o'))
  have hkk := hk.trans hk2
  refine ⟨⟨hp2, hs.low, Nat.le_trans hs.size hkk.size, hs.ro.trans (hkk.mono fun b hb => .inr (hRI b hb)), ?_, ?_, blk_set (blk_set hs.node)⟩, hkk⟩
  · exact (Below.heap_setCell _ ⟨N, 1, none⟩ _ Xt h1).trans ((Below.heap_setCell W ⟨N, 0, none⟩ _ Xt h1).trans hs.tell)
  · exact (Below.heap_setCell _ ⟨N, 1, none⟩ _ A h2).trans ((Below.heap_setCell W ⟨N, 0, none⟩ _ A h2).trans hs.box)
end
/-- Behind its first two statements. -/
def Made (l : Nat) (x : L) (Bx Bn Bi Bp Bs : Nat) (W W1 : World) (a' : Act) (w' : World) : Prop :=
  ∃ A N : Nat, A ≠ N ∧ W1.heap.size ≤ A ∧ W1.heap.size ≤ N ∧ w'.heap.size = W1.heap.size + 2 ∧ w'.heap[A]? = some (.cells #[.int .i64 0] 3 (0, 0)) ∧ w'.heap[N]? = some (.cells #[str x, str []] 153 (0, 0)) ∧ Below W1.heap.size W1 w' ∧
    a' = { tmps := #[.func (.yield l) #[] #[], .pointer (some ⟨Bx, 0, none⟩), .pointer (some ⟨Bn, 0, none⟩), .pointer (some ⟨Bi, 0, none⟩), .pointer (some ⟨Bp, 0, none⟩), .pointer (some ⟨Bs, 0, none⟩), .pointer (some ⟨W.heap.size, 0, none⟩), .pointer (some ⟨A, 0, none⟩), .pointer (some ⟨N, 0, none⟩), undef, undef, undef, undef, str x, .agg #[str x, str []], undef, undef, undef, undef, undef, undef, undef, undef, undef, undef, undef, undef, undef, undef, undef, undef, undef, undef, undef, undef, undef, undef, undef, undef, undef, undef, undef, undef, undef], defers := [] }
set_option maxRecDepth 100000 in
set_option maxHeartbeats 4000000 in
theorem climb1 (n i : Nat) (hi : i < n) (hn : n ≤ 1048576) (x : L) (hx : x.length = 32) (p : List L) (h32 : ∀ x ∈ p, x.length = 32) (hp : p.length = longN n i) (a : Option Addr) (c n₀ Bx Bn Bi Bp Bs : Nat) (RO : Nat → Prop) (hRO : ∀ b, b < n₀ → RO b) (hRx : RO Bx) (hRn : RO Bn) (hRi : RO Bi) (hRp : RO Bp) (hRs : RO Bs) (w : World) (hRw : ∀ b, RO b → b < w.heap.size)
    (hrow : Strs w n₀ a p.length p) (hrd : Rds w) (hgn : 0 < n₀) (h0 : w.cell? ⟨Bx, 0, none⟩ = some (str x)) (h1 : w.cell? ⟨Bn, 0, none⟩ = some (.int .i64 (n : Int))) (h2 : w.cell? ⟨Bi, 0, none⟩ = some (.int .i64 (i : Int))) (h3 : w.cell? ⟨Bp, 0, none⟩ = some (.slice a p.length c)) (h4 : w.cell? ⟨Bs, 0, none⟩ = some sv) :
    Seq false Fence.wide 5 Tryz.prog 120 #[.pointer (some ⟨Bx, 0, none⟩), .pointer (some ⟨Bn, 0, none⟩), .pointer (some ⟨Bi, 0, none⟩), .pointer (some ⟨Bp, 0, none⟩), .pointer (some ⟨Bs, 0, none⟩)] encN (Nxt (nodes (sidesN n i) x p)) (fun ys => ys = nodes (sidesN n i) x p) (fun _ => True) RO w := by
  intro l J Jx W hW hJ hJx hY hJ0
  have c0 := hW.cell h0 hRx
  have c1 := hW.cell h1 hRn
  have c2 := hW.cell h2 hRi
  have c3 := hW.cell h3 hRp
  have c4 := hW.cell h4 hRs
  have hs0 := hW.size
  have HR := Lib.hid (rds_kept hrd hW (hRO _ hgn))
  have HW0 := Lib.hid (strs_kept hrow hW hRO)
  have HRW : Hid (∀ b, RO b → b < W.heap.size) := Lib.hid (fun b hb => Nat.lt_of_lt_of_le (hRw b hb) hs0)
  have HY := Lib.hid hY
  have HJ := Lib.hid hJ
  have HJx := Lib.hid hJx
  have HJ0 := Lib.hid hJ0
  have HRO := Lib.hid hRO
  have HP := Lib.hid hp
  have H32 := Lib.hid h32
  have HX := Lib.hid hx
  have b0 : Bx < W.heap.size := HRW.out _ hRx
  have b1 : Bn < W.heap.size := HRW.out _ hRn
  have b2 : Bi < W.heap.size := HRW.out _ hRi
  have b3 : Bp < W.heap.size := HRW.out _ hRp
  have b4 : Bs < W.heap.size := HRW.out _ hRs
  clear hW hJ hJx hY h0 h1 h2 h3 h4 hJ0 hrow hrd hRO hRw hp h32 hx
  refine callsIn_of_wp_marks Tryz.func120 rfl trivial ?_ rfl
  simp only [Tryz.ntmps120, List.size_toArray, List.length_cons, List.length_nil, Nat.reduceAdd, Nat.reduceSub, Array.replicate_succ, Array.replicate_zero, List.push_toArray, List.append_toArray, List.nil_append, List.cons_append]
  gi_wp2
  obtain ⟨W1, hW1⟩ : ∃ W1, W.alloc (.cells #[.func (.yield l) #[] #[]] 180) = W1 := ⟨_, rfl⟩
  have hb1 : Below W.heap.size W W1 := hW1 ▸ (Below.refl _ _).alloc (Nat.le_refl _) _
  have cx : W1.cell? ⟨Bx, 0, none⟩ = some (str x) := (hb1.cell (p := ⟨Bx, 0, none⟩) b0).trans c0
  rw [hW1]
  refine wpIn_mono (Q := fun e a' w' => e = Exit.normal ∧ Made l x Bx Bn Bi Bp Bs W W1 a' w') ?first ?rest
  case first =>
    refine wpIn_wide.2 ?_
    have hlx : Bx < W1.heap.size := Nat.lt_of_lt_of_le b0 hb1.size
    have K1 := Lib.hid (fun o => (((Below.refl _ W1).alloc (Nat.le_refl _) o).drew.cell (p := ⟨Bx, 0, none⟩) hlx).trans cx)
    have K2 := Lib.hid (fun o o' => ((((Below.refl _ W1).alloc (Nat.le_refl _) o).alloc (by simp only [World.size_alloc]; omega) o').drew.cell (p := ⟨Bx, 0, none⟩) hlx).trans cx)
    clear hb1 hW1 c0 c1 c2 c3 c4
    go_region_held3 (fun w' => w'.cell? ⟨Bx, 0, none⟩ = some (str x)) (first | exact cx | exact K1.out _ | exact K2.out _ _) (fail)
    · exact ⟨rfl, W1.heap.size, W1.heap.size + 1, by omega, Nat.le_refl _, by omega, (two W1 _ _).1, (two W1 _ _).2.1, (two W1 _ _).2.2.1, (two W1 _ _).2.2.2, rfl⟩
    · exact ⟨rfl, W1.heap.size + 1, W1.heap.size, by omega, by omega, Nat.le_refl _, (two W1 _ _).1, (two W1 _ _).2.2.1, (two W1 _ _).2.1, (two W1 _ _).2.2.2, rfl⟩
  case rest =>
    have hT1 : W1.heap[W.heap.size]? = some (.cells #[.func (.yield l) #[] #[]] 180 (0, 0)) := hW1 ▸ World.alloc_heap_new W _
    have hs1 : W1.heap.size = W.heap.size + 1 := hW1 ▸ World.size_alloc W _
    rintro e a' w' ⟨rfl, A, N, hne, hA, hN, hsz, xA, xN, hB, rfl⟩
    have d1 := (hb1.trans (hB.mono hb1.size)).cell (p := ⟨Bn, 0, none⟩) b1 |>.trans c1
    have d2 := (hb1.trans (hB.mono hb1.size)).cell (p := ⟨Bi, 0, none⟩) b2 |>.trans c2
    have HBa := Lib.hid (hb1.trans (hB.mono hb1.size))
    have hXt := (hB.block _ (by omega)).trans hT1
    have hlA : A < w'.heap.size := (Array.getElem?_eq_some_iff.1 xA).1
    have hlN : N < w'.heap.size := (Array.getElem?_eq_some_iff.1 xN).1
    have hlX : W.heap.size < A := by omega
    have hlY : W.heap.size < N := by omega
    clear hb1 hW1 hB hT1 hsz hs1 hA hN
    gi_wp2_with (refine ⟨trivial, ?_⟩; gi_at_call 118; refine (callsIn_wide.2 (sides_in _ _ _)).mono ?_; rintro e w' ⟨rfl, rfl⟩)
    obtain ⟨hsz, hX0, hX1, hB⟩ := two' w' (.cells #[.int .i64 (n : Int)] 3) (.cells #[.int .i64 (i : Int)] 3)
    obtain ⟨W0, hW0⟩ : ∃ W0, (w'.alloc (.cells #[.int .i64 (n : Int)] 3)).alloc (.cells #[.int .i64 (i : Int)] 3) = W0 := ⟨_, rfl⟩
    rw [hW0] at hsz hX0 hX1 hB ⊢
    clear hW0
    obtain ⟨RI, hRI⟩ : ∃ RI : Nat → Prop, RI = fun b => RO b ∨ b = w'.heap.size ∨ b = w'.heap.size + 1 := ⟨_, rfl⟩
    obtain ⟨OB, hOB⟩ : ∃ OB : Nat → Prop, OB = fun b => b = W.heap.size ∨ b = A ∨ b = N := ⟨_, rfl⟩
    have hOt : OB W.heap.size := by rw [hOB]; exact .inl rfl
    have hOa : OB A := by rw [hOB]; exact .inr (.inl rfl)
    have hOn : OB N := by rw [hOB]; exact .inr (.inr rfl)
    have hRR : ∀ b, RO b → RI b := fun b hb => by rw [hRI]; exact .inl hb
    have hBw : Below W.heap.size W W0 := HBa.out.trans (hB.mono (by have := HBa.out.size; omega))
    have hkb : Kept RO W W0 := ⟨hBw.size, fun b hb _ => hBw.block b hb⟩
    have hseq := sides1 4 n i (by omega) hi hn w'.heap.size (w'.heap.size + 1) RI (by rw [hRI]; exact .inr (.inl rfl)) (by rw [hRI]; exact .inr (.inr rfl)) W0 (blk_cell hX0 rfl) (blk_cell hX1 rfl)
    have hWw := HBa.out.size
    have h0 : Sk J RO RI OB W W0.heap.size W.heap.size A N (.func (.yield l) #[] #[]) Non [] 0 x [] W0 := by
      refine ⟨⟨fun b => W.heap.size ≤ b ∧ b < W0.heap.size, fun b hb => hb.elim, fun b hb => ?_, fun b hb => ?_, HJ.out _ _ _ _ _ HJ0.out ((Turns.of_below hBw).less fun b hb => .inr hb) (.no _ _)⟩, fun b hb => hb.elim, Nat.le_refl _, hkb, (hB.block _ (by omega)).trans hXt, (hB.block _ hlA).trans xA, (hB.block _ hlN).trans xN⟩
      · rw [hRI] at hb
        rcases hb with hb | hb | hb
        · exact .inr hb
        · exact .inl ⟨by omega, by omega⟩
        · exact .inl ⟨by omega, by omega⟩
      · rw [hOB] at hb
        rw [hRI]
        refine ⟨⟨by omega, by omega⟩, fun e => e, fun e => ?_, by omega⟩
        rcases e with e | e | e
        · have := HRW.out _ e; omega
        · omega
        · omega
    have hRIw : ∀ b, RI b → b < W0.heap.size := fun b hb => by
      rw [hRI] at hb
      rcases hb with hb | hb | hb
      · have := HRW.out _ hb; omega
      · omega
      · omega
    have hW00 : W.heap.size ≤ W0.heap.size := hBw.size
    have hxs : ∃ o, Sk J RO RI OB W W0.heap.size W.heap.size A N (.func (.yield l) #[] #[]) Non (nodes [] x p) 0 (last x (nodes [] x p)) o W0 := by
      have e0 : nodes [] x p = [] := by cases p <;> simp [nodes]
      rw [e0, last_nil]
      exact ⟨[], h0⟩
    clear hRI hOB hB hX0 hX1 hkb h0 xA xN hXt
    refine range rfl (show 1 ≤ 5 by omega) (gf := 129) (lb := #[.pointer (some ⟨w'.heap.size, 0, none⟩), .pointer (some ⟨w'.heap.size + 1, 0, none⟩)]) rfl trivial (enters_of Tryz.func129 (by kernel_rfl) rfl)
      hseq hRIw (fun _ => rfl)
      (fun T pre W' => ∃ o, Sk J RO RI OB W W0.heap.size W.heap.size A N (.func (.yield l) #[] #[]) T (nodes pre x p) pre.length (last x (nodes pre x p)) o W') (fun j T pre W' => j = .ret ∧ ∃ p, Pass Jx RO RI OB T p W')
      (fun s T T' A B h ht _ => MerG.some_of h fun o h => h.turns HJ.out HRW.out hW00 hOt hOa hOn ht) (fun j s T T' A B h ht _ => ⟨h.1, MerG.some_of h.2 fun p hp => hp.turns HJx.out ht⟩) hxs
      (fun T s W' => (∃ o, Sk J RO RI OB W W0.heap.size W.heap.size A N (.func (.yield l) #[] #[]) T (nodes s.1 x p) s.1.length (last x (nodes s.1 x p)) o W') ∧ s.1 ++ [s.2.1] <+: sidesN n i ∧
        s.2.2 = { tmps := #[.func (.yield l) #[] #[], .pointer (some ⟨Bx, 0, none⟩), .pointer (some ⟨Bn, 0, none⟩), .pointer (some ⟨Bi, 0, none⟩), .pointer (some ⟨Bp, 0, none⟩), .pointer (some ⟨Bs, 0, none⟩), .pointer (some ⟨W.heap.size, 0, none⟩), .pointer (some ⟨A, 0, none⟩), .pointer (some ⟨N, 0, none⟩), .bool s.2.1, undef, undef, undef, str x, .agg #[str x, str []], .int .i64 (n : Int), .int .i64 (i : Int), .func (.func 129) #[] #[.pointer (some ⟨w'.heap.size, 0, none⟩), .pointer (some ⟨w'.heap.size + 1, 0, none⟩)], .bool s.2.1, undef, undef, undef, undef, undef, undef, undef, undef, undef, undef, undef, undef, undef, undef, undef, undef, undef, undef, undef, undef, undef, undef, undef, undef, undef], defers := [] })
      (fun T s W' l' r r' ⟨⟨o, hs⟩, h2⟩ hl ho => ⟨⟨o, hs.turns HJ.out HRW.out hW00 hOt hOa hOn (Turns.putObj hl _)⟩, h2⟩) ?assign ?body ?done ?stop
    case assign =>
      rintro l' T pre b W' K hI ⟨K0, hK0, hg⟩ hK
      gi_wp2
      exact hK _ _ (Kept.refl _ _) ⟨hI, hg, rfl⟩
    case body =>
      rintro l' T pre b a'' W' ⟨⟨o, hS⟩, hg, ha⟩
      dsimp only at hS hg ha
      subst ha
      have hkl : pre.length < p.length := by
        have h1 := hg.length_le
        rw [sidesN_length, ← HP.out, List.length_append, List.length_singleton] at h1
        omega
      have HN := Lib.hid (nodes_snoc pre b x p hkl)
      have HPf := Lib.hid (nodes_pre (pre ++ [b]) (sidesN n i) x p hg)
      have HLs : Hid (last x (nodes (pre ++ [b]) x p) = sum (ofs b (last x (nodes pre x p)) (p.getD pre.length []))) := Lib.hid (by rw [HN.out, last_snoc])
      have hh := last_length HX.out pre p
      have hyl : (p.getD pre.length []).length = 32 := H32.out _ (by rw [getD_at _ _ hkl]; exact List.getElem_mem hkl)
      have hpl : p.length ≤ 1048576 := by rw [HP.out]; exact Nat.le_trans (long_le _ _ _) hn
      obtain ⟨q, off, rfl, _, hc⟩ := (strs_kept HW0.out hS.ro HRO.out).2 (by omega)
      have cy := hc _ hkl
      have cP := hS.ro.cell c3 hRp
      have cS := hS.ro.cell c4 hRs
      have hrd := rds_kept HR.out hS.ro (HRO.out _ hgn)
      have HS := Lib.hid hS
      have HLen : Hid ((pre ++ [b]).length = pre.length + 1) := Lib.hid (by simp)
      clear hc hS hg c0 c1 c2 c3 c4
      generalize last x (nodes pre x p) = h at *
      generalize p.getD pre.length [] = y at *
      generalize nodes pre x p = ns at *
      generalize pre.length = k at *
      have HSd := Lib.hid (HS.out.turns HJ.out HRW.out hW00 hOt hOa hOn (Turns.drew W'))
      have HKd : Hid (∀ K A, Kept K W'.drew A → Kept K W' A) := Lib.hid fun K A h => ⟨h.size, h.block⟩
      have hrd' : Rds W'.drew := hrd.step ((Below.refl _ W').drew)
      gi_wp2
      refine MerF.still (by kernel_rfl) (by kernel_rfl) (by kernel_rfl) ?_
      have cy' : W'.drew.cell? ⟨q, off + k, none⟩ = some (str y) := cy
      have cP' : W'.drew.cell? ⟨Bp, 0, none⟩ = some (.slice (some ⟨q, off, none⟩) p.length c) := cP
      have cS' : W'.drew.cell? ⟨Bs, 0, none⟩ = some sv := cS
      obtain ⟨WD, hWD⟩ : ∃ WD, W'.drew = WD := ⟨_, rfl⟩
      rw [hWD] at cy' cP' cS' HSd HKd hrd' ⊢
      have cT := blk_cell (i := 0) HSd.out.tell rfl
      have cA := HSd.out.box.cell
      have cN := blk_cell (i := 0) HSd.out.node rfl
      have q1 : (k : Int) < (p.length : Int) := by omega
      have q0 : (0 : Int) ≤ (k : Int) := by omega
      clear cy cP cS hWD
      repeat still_step
      refine wpStill_nil ?_
      obtain ⟨of, hof⟩ : ∃ of, ofs b h y = of := ⟨_, rfl⟩
      have hol : of.length = 65 := by rw [← hof]; exact ofs_length b hh hyl
      have hcat : (if b then (⟨#[1]⟩ ++ ⟨y.toArray⟩ ++ ⟨h.toArray⟩ : ByteArray) else ⟨#[1]⟩ ++ ⟨h.toArray⟩ ++ ⟨y.toArray⟩) = ⟨of.toArray⟩ := by
        rw [← hof, cat3, cat3]
        cases b <;> rfl
      have HSm := Lib.hid (summed_one of (by omega) WD hrd')
      rw [hof] at HN HLs
      have hlq : A ≠ N := hne
      have hlr : N ≠ A := fun e => hne e.symm
      have hls : W.heap.size ≠ N := by omega
      have hlt : W.heap.size ≠ A := by omega
      have HBl := Lib.hid (fun V => HSd.out.below (V := V) HJ.out HRW.out hW00 hOt hOa hOn)
      have hh' : h.length ≤ 32 := by omega
      have hyl' : y.length ≤ 32 := by omega
      have HNx : ∀ K V, Nxt (nodes (sidesN n i) x p) K ns (sum of, of) V := fun K V => by
        show _ <+: _
        rw [← HN.out]
        exact HPf.out
      have HYY := Lib.hid (fun (V : World) (hs : Sk J RO RI OB W W0.heap.size W.heap.size A N (.func (.yield l) #[] #[]) T ns k (sum of) of V) => yield_round l' (yield_any rfl (5 - 1 - 1 - 1) (hs.pass.yield HY.out (sum of, of) (fun K => HNx K V))))
      simp only [encN] at HYY
      clear hof hh hyl hrd hrd' hkl HNx
      cases b
      all_goals
        simp only [Bool.false_eq_true, if_false, if_true] at hcat
        gi_wp2_with (refine ⟨trivial, ?_⟩; gi_at_call 34; refine (CallsIn.inRound l' (callsIn_wide.2 HSm.out)).mono ?_; rintro e W2 ⟨rfl, hb2⟩; obtain ⟨hS2, hK2⟩ := HBl.out _ hb2; have HS2 := Lib.hid hS2; have HK2 := Lib.hid hK2; have u0 := blk_cell (i := 0) hS2.node rfl; have u1 := blk_cell (i := 1) hS2.node rfl; have u2 := blk_free (i := 0) hS2.node; have u4 := blk_free (i := 1) hS2.node; have u3 := blk_cell (i := 0) hS2.tell rfl; have HS3 := Lib.hid (HS2.out.setNode HJ.out hRR hOn hls hlq (sum of) of); obtain ⟨fn, tmps, assign, body, hy, hR⟩ := HYY.out _ HS3.out.1; clear hb2 hS2 hK2)
        refine hR.mono ?_
        rintro e W4 ⟨⟨rfl, hP4⟩ | ⟨rfl, hP4⟩, hk4⟩
        · have HS4 := Lib.hid (HS3.out.1.went hRR hOt hOa hOn hk4 hP4)
          have HZ := Lib.hid (HS4.out.setAt HJ.out hRR hOa hlt hlr (k + 1) ((k : Int) + 1) (by omega))
          have c9 := HS4.out.box.cell
          have f9 := HS4.out.box.frozen
          have HK := Lib.hid (HKd.out _ _ (HK2.out.trans (HS3.out.2.trans ((hk4.mono (T' := fun b => T b ∨ RI b) fun b hb => .inl hb).trans HZ.out.2))))
          clear u0 u1 u2 u3 u4 cT cA cN cy' cP' cS' hP4 hk4 hy hR
          gi_wp2
          refine ⟨HK.out, of, ?_⟩
          rw [HLs.out, HN.out, HLen.out]
          exact HZ.out.1
        · gi_wp2
          exact ⟨HKd.out _ _ (HK2.out.trans (HS3.out.2.trans (hk4.mono fun b hb => .inl hb))), rfl, _, hP4⟩
    case done =>
      rintro D T ys W' hD hT rfl ⟨o, hS⟩ hK
      have HPs := Lib.hid hS.pass
      clear hS
      gi_wp2
      refine ⟨by simp, .inl ⟨_, _, rfl, run_takeDeferred hK, ?_⟩⟩
      obtain ⟨U, hU⟩ := (HPs.out.turns HJ.out (Turns.putObj hT (.deferred none))).last
      exact ⟨_, results_none rfl _ _ _, ⟨_, rfl⟩, U, .inl ⟨_, rfl, hU⟩⟩
    case stop =>
      rintro D j T pre W' hD hT _ ⟨rfl, p', hp⟩ hK
      gi_wp2
      refine ⟨by simp, .inl ⟨_, _, rfl, run_takeDeferred hK, ?_⟩⟩
      obtain ⟨U, hU⟩ := (hp.turns HJx.out (Turns.putObj hT (.deferred none))).last
      exact ⟨_, results_none rfl _ _ _, ⟨_, rfl⟩, U, .inr ⟨_, trivial, hU⟩⟩
end Go.Proofs.YtdkcebaehdkphaaGreatDoor.MerK
