/- MerU MerV: one behind the other. -/
import Derived.Test.YtdkcebaehdkphaaGreatDoorMerR
import Derived.Test.YtdkcebaehdkphaaGreatDoorMerK
/- The program's package merkle: up, check: the walks of their texts. No conditions but those that each lemma names. -/
namespace Go.Proofs.YtdkcebaehdkphaaGreatDoor.MerU
open Go.RowKit Go.Shelf STurn SSum MerG MerQ MerN MerM MerC MerS MerB MerA MerP MerE MerK MerR
attribute [local go_sem] Oper.semAt_some
/-- What lies while up runs: the root so far. -/
structure Ru (w : World) (X : Nat) (x : L) (T : Nat → Prop) (ns : List (L × L)) (W : World) : Prop where
  safe : MerG.Safe w.heap.size w T W
  low : Low T W
  box : ¬ T X ∧ Boxed W X 9 (str (last x ns))
theorem Ru.turns {w : World} {X : Nat} {x : L} {T T' : Nat → Prop} {ns : List (L × L)} {A B : World} (h : Ru w X x T ns A) (ht : Turns T T' A B) : Ru w X x T' ns B :=
  ⟨h.safe.turns (Nat.le_refl _) ht, h.low.turns ht, ht.heap h.box⟩
/-- May there be such a leaf? -/
def mayBe (n i : Int) : Bool := decide (n ≤ 1048576) && decide (0 ≤ i ∧ i < n)
/-- Is the path a path of hashes, of the right length? -/
def fitB (n i : Nat) (x : L) (p : List L) : Bool := decide (x.length = 32) && all32 p && decide (p.length = longN n i)
/-- What up answers. -/
def upR (n i : Int) (x : L) (p : List L) : L × Nat :=
  if mayBe n i = false then ([], 2) else if fitB n.toNat i.toNat x p = true then (climbN nd n.toNat i.toNat x p, 0) else ([], 17)
theorem five (w : World) (o0 o1 o2 o3 o4 : Obj) : ((((((w.alloc o0).alloc o1).alloc o2).alloc o3).alloc o4).heap.size = w.heap.size + 5 ∧ (((((w.alloc o0).alloc o1).alloc o2).alloc o3).alloc o4).heap[w.heap.size]? = some o0 ∧ (((((w.alloc o0).alloc o1).alloc o2).alloc o3).alloc o4).heap[w.heap.size + 1]? = some o1 ∧
    (((((w.alloc o0).alloc o1).alloc o2).alloc o3).alloc o4).heap[w.heap.size + 1 + 1]? = some o2 ∧ (((((w.alloc o0).alloc o1).alloc o2).alloc o3).alloc o4).heap[w.heap.size + 1 + 1 + 1]? = some o3 ∧ (((((w.alloc o0).alloc o1).alloc o2).alloc o3).alloc o4).heap[w.heap.size + 1 + 1 + 1 + 1]? = some o4 ∧
    Below w.heap.size w (((((w.alloc o0).alloc o1).alloc o2).alloc o3).alloc o4)) := by
  obtain ⟨hs, h0, h1, h2, h3, hb⟩ := MerD.alloc4 w o0 o1 o2 o3
  obtain ⟨w4, hw4⟩ : ∃ w4, (((w.alloc o0).alloc o1).alloc o2).alloc o3 = w4 := ⟨_, rfl⟩
  rw [hw4] at hs h0 h1 h2 h3 hb ⊢
  have h4 := World.alloc_heap_new w4 o4
  rw [hs] at h4
  refine ⟨by rw [World.size_alloc, hs], ?_, ?_, ?_, ?_, h4, hb.alloc (by omega) _⟩
  all_goals (rw [Below.heap_alloc _ _ _ (by omega)]; assumption)
section
variable (a : Option Addr) (n i : Int) (x : L) (m c : Nat) (p : List L) (w : World)
theorem up_arg (hno : mayBe n i = false) : Calls Tryz.prog 95 #[sv, .int .i64 n, .int .i64 i, str x, .slice a m c] w fun e w' => e = .returned (.tuple #[str [], .int .i64 2]) ∧ w = w' := by
  unfold mayBe at hno
  have HI := Lib.hid (fun W => isOf n i W)
  by_cases h1 : n ≤ 1048576
  · have hb : decide (0 ≤ i ∧ i < n) = false := by simpa [h1] using hno
    rw [hb] at HI
    clear hno hb
    go_enter Tryz.func95, Tryz.ntmps95
    go_wp2_with (go_at_call 92; refine (HI.out _).mono ?_; rintro e w' ⟨rfl, rfl⟩)
    go_ret2
    exact ⟨rfl, rfl⟩
  · clear hno HI
    have h2 : 1048576 < n := by omega
    go_enter Tryz.func95, Tryz.ntmps95
    go_wp2
    go_ret2
    exact ⟨rfl, rfl⟩
end
theorem sided (n i : Nat) (hi : i < n) (hn : n ≤ 1048576) (w : World) :
    Calls Tryz.prog 117 #[.func (.func 129) #[] #[.pointer (some ⟨w.heap.size, 0, none⟩), .pointer (some ⟨w.heap.size + 1, 0, none⟩)]] ((w.alloc (.cells #[.int .i64 (n : Int)] 3)).alloc (.cells #[.int .i64 (i : Int)] 3))
      fun e w' => ∃ a' c', e = .returned (.slice a' (longN n i) c') ∧ Below w.heap.size w w' := by
  obtain ⟨hsz, hX0, hX1, hB⟩ := two' w (.cells #[.int .i64 (n : Int)] 3) (.cells #[.int .i64 (i : Int)] 3)
  obtain ⟨W0, hW0⟩ : ∃ W0, (w.alloc (.cells #[.int .i64 (n : Int)] 3)).alloc (.cells #[.int .i64 (i : Int)] 3) = W0 := ⟨_, rfl⟩
  rw [hW0] at hsz hX0 hX1 hB ⊢
  have hs := sides1 5 n i (by omega) hi hn w.heap.size (w.heap.size + 1) (fun b => b < W0.heap.size) (by omega) (by omega) W0 (blk_cell hX0 rfl) (blk_cell hX1 rfl)
  refine (collectB 129 _ (enters_of Tryz.func129 (by kernel_rfl) rfl) (sidesN n i) (by rw [sidesN_length]; exact Nat.le_trans (long_most hi (show n ≤ 2 ^ 20 by simpa using hn)) (by omega)) _ W0 (fun b hb => hb) hs).mono ?_
  rintro e w' ⟨a', c', rfl, ho, hb⟩
  rw [sidesN_length]
  exact ⟨a', c', rfl, hB.trans (hb.mono hB.size)⟩
section
variable (a : Option Addr) (n i : Nat) (hi : i < n) (hn : n ≤ 1048576) (x : L) (c : Nat) (p : List L) (w : World)
include hi hn
theorem up_proof (h : Strs w w.heap.size a p.length p) (hp : p.length ≤ 1000000) (hx : x.length ≤ 9223372036854775807) (hl : ∀ l ∈ p, l.length ≤ 9223372036854775807) (hno : fitB n i x p = false) :
    Calls Tryz.prog 95 #[sv, .int .i64 (n : Int), .int .i64 (i : Int), str x, .slice a p.length c] w fun e w' => e = .returned (.tuple #[str [], .int .i64 17]) ∧ Below w.heap.size w w' := by
  unfold fitB at hno
  have HI := Lib.hid (fun W => isOf (n : Int) (i : Int) W)
  rw [decide_eq_true (show 0 ≤ (i : Int) ∧ (i : Int) < (n : Int) by omega)] at HI
  have HX := Lib.hid (fun W => isHash x hx W)
  have HA := Lib.hid (areHashes a p.length c p w h hp hl)
  have HC := Lib.hid (sided n i hi hn w)
  have h1 : (n : Int) ≤ 1048576 := by omega
  have hln : longN n i ≤ 1048576 := Nat.le_trans (long_le _ _ _) hn
  have HNE : Hid ((p.length : Int) ≠ (longN n i : Int) ∨ decide (p.length = longN n i) = true) := Lib.hid (by
    by_cases e : p.length = longN n i
    · exact .inr (decide_eq_true e)
    · exact .inl (by omega))
  generalize decide (x.length = 32) = b1 at *
  generalize all32 p = b2 at *
  generalize decide (p.length = longN n i) = b3 at *
  generalize longN n i = k at *
  clear h hl hx
  cases b1
  · clear hno
    go_enter Tryz.func95, Tryz.ntmps95
    go_wp2_with (first | (go_at_call 92; refine (HI.out _).mono ?_; rintro e w' ⟨rfl, rfl⟩) | (go_at_call 112; refine (HX.out _).mono ?_; rintro e w' ⟨rfl, rfl⟩))
    go_ret2
    exact ⟨rfl, Below.refl _ _⟩
  · cases b2
    · clear hno
      go_enter Tryz.func95, Tryz.ntmps95
      go_wp2_with (first | (go_at_call 92; refine (HI.out _).mono ?_; rintro e w' ⟨rfl, rfl⟩) | (go_at_call 112; refine (HX.out _).mono ?_; rintro e w' ⟨rfl, rfl⟩) | (go_at_call 90; refine HA.out.mono ?_; rintro e w' ⟨rfl, rfl⟩))
      go_ret2
      exact ⟨rfl, Below.refl _ _⟩
    · obtain rfl : b3 = false := by simpa using hno
      have hne : ((p.length : Int) != (k : Int)) = true := by rw [bne_iff_ne]; exact HNE.out.resolve_right (by simp)
      clear hno HNE
      go_enter Tryz.func95, Tryz.ntmps95
      go_wp2_with (first | (go_at_call 92; refine (HI.out _).mono ?_; rintro e w' ⟨rfl, rfl⟩) | (go_at_call 112; refine (HX.out _).mono ?_; rintro e w' ⟨rfl, rfl⟩) | (go_at_call 90; refine HA.out.mono ?_; rintro e w' ⟨rfl, rfl⟩) | (go_at_call 118; refine (sides_in _ _ _).mono ?_; rintro e w' ⟨rfl, rfl⟩) | (go_at_call 117; refine HC.out.mono ?_; rintro e w' ⟨a', c', rfl, hb⟩; have HB := Lib.hid hb; clear hb))
      go_ret2
      exact ⟨rfl, HB.out⟩
end
set_option maxRecDepth 100000 in
set_option maxHeartbeats 4000000 in
theorem up_yes (a : Option Addr) (n i : Nat) (hi : i < n) (hn : n ≤ 1048576) (x : L) (c : Nat) (p : List L) (w : World) (h : Strs w w.heap.size a p.length p) (hr : Rds w) (hyes : fitB n i x p = true) :
    Calls Tryz.prog 95 #[sv, .int .i64 (n : Int), .int .i64 (i : Int), str x, .slice a p.length c] w fun e w' => e = .returned (.tuple #[str (climbN nd n i x p), .int .i64 0]) ∧ Below w.heap.size w w' := by
  unfold fitB at hyes
  rw [Bool.and_eq_true, Bool.and_eq_true, decide_eq_true_eq, decide_eq_true_eq] at hyes
  obtain ⟨⟨hx, hall⟩, hp⟩ := hyes
  have hpn : p.length ≤ 1000000 := by rw [hp]; exact Nat.le_trans (long_most hi (show n ≤ 2 ^ 20 by simpa using hn)) (by omega)
  have HI := Lib.hid (fun W => isOf (n : Int) (i : Int) W)
  rw [decide_eq_true (show 0 ≤ (i : Int) ∧ (i : Int) < (n : Int) by omega)] at HI
  have HX := Lib.hid (fun W => isHash x (by omega) W)
  rw [decide_eq_true hx] at HX
  have HA := Lib.hid (areHashes a p.length c p w h hpn (fun l hl => by rw [all32_at hall l hl]; omega))
  rw [hall] at HA
  have HC := Lib.hid (sided n i hi hn w)
  have h1 : (n : Int) ≤ 1048576 := by omega
  have hd1 : decide ((1048576 : Int) < (n : Int)) = false := by simp; omega
  have HXl := Lib.hid hx
  have HP := Lib.hid hp
  have HH := Lib.hid h
  have HR := Lib.hid hr
  have H32 := Lib.hid (all32_at hall)
  have hgn : 0 < w.heap.size := World.block_lt_of_cell? w _ (hr 0 (by omega))
  have hne : ((p.length : Int) != (longN n i : Int)) = false := by rw [hp]; simp
  clear h hr hx hp hall
  refine (callsIn_wide (n := 6)).1 ?_
  refine callsIn_of_wp_marks Tryz.func95 rfl trivial ?_ rfl
  simp only [Tryz.ntmps95, List.size_toArray, List.length_cons, List.length_nil, Nat.reduceAdd, Nat.reduceSub, Array.replicate_succ, Array.replicate_zero, List.push_toArray, List.append_toArray, List.nil_append, List.cons_append]
  gi_wp2_with (first | (refine ⟨trivial, ?_⟩; gi_at_call 92; refine (callsIn_wide.2 (HI.out _)).mono ?_; rintro e w' ⟨rfl, rfl⟩) | (refine ⟨trivial, ?_⟩; gi_at_call 112; refine (callsIn_wide.2 (HX.out _)).mono ?_; rintro e w' ⟨rfl, rfl⟩) | (refine ⟨trivial, ?_⟩; gi_at_call 90; refine (callsIn_wide.2 HA.out).mono ?_; rintro e w' ⟨rfl, rfl⟩) | (refine ⟨trivial, ?_⟩; gi_at_call 118; refine (callsIn_wide.2 (sides_in _ _ _)).mono ?_; rintro e w' ⟨rfl, rfl⟩) | (refine ⟨trivial, ?_⟩; gi_at_call 117; refine (callsIn_wide.2 HC.out).mono ?_; rintro e w2 ⟨a', c', rfl, hb⟩; have HB := Lib.hid hb; clear hb) | (refine ⟨trivial, ?_⟩; gi_at_call 97; refine (callsIn_wide.2 (climb_in _ _ _ _ _ _ _)).mono ?_; rintro e w' ⟨rfl, rfl⟩))
  have hne' := hne
  clear hne hd1 HI HX HA HC
  have hb0 := (Below.refl w2.heap.size w2).alloc (Nat.le_refl _) (.cells #[str x] 9)
  have hx0 := World.alloc_heap_new w2 (.cells #[str x] 9)
  have hs0 : (w2.alloc (.cells #[str x] 9)).heap.size = w2.heap.size + 1 := World.size_alloc _ _
  obtain ⟨w3, hw3⟩ : ∃ w3, w2.alloc (.cells #[str x] 9) = w3 := ⟨_, rfl⟩
  rw [hw3] at hb0 hx0 hs0 ⊢
  obtain ⟨hsz, hX0, hX1, hX2, hX3, hX4, hB⟩ := five w3 (.cells #[sv] 125) (.cells #[.int .i64 (n : Int)] 3) (.cells #[.int .i64 (i : Int)] 3) (.cells #[str x] 9) (.cells #[.slice a p.length c] 46)
  obtain ⟨W0, hW0⟩ : ∃ W0, ((((w3.alloc (.cells #[sv] 125)).alloc (.cells #[.int .i64 (n : Int)] 3)).alloc (.cells #[.int .i64 (i : Int)] 3)).alloc (.cells #[str x] 9)).alloc (.cells #[.slice a p.length c] 46) = W0 := ⟨_, rfl⟩
  rw [hW0] at hsz hX0 hX1 hX2 hX3 hX4 hB ⊢
  clear hW0 hw3
  rw [hs0] at hX0 hX1 hX2 hX3 hX4 hsz
  have hBw : Below w.heap.size w W0 := HB.out.trans ((hb0.trans (hB.mono (by omega))).mono HB.out.size)
  have hXr : W0.heap[w2.heap.size]? = some (.cells #[str x] 9 (0, 0)) := (hB.block _ (by omega)).trans hx0
  have hwl := HB.out.size
  obtain ⟨RO, hRO⟩ : ∃ RO : Nat → Prop, RO = fun b => b < W0.heap.size ∧ b ≠ w2.heap.size := ⟨_, rfl⟩
  have hROl : ∀ b, b < w.heap.size → RO b := fun b hb => by rw [hRO]; exact ⟨by omega, by omega⟩
  have hROw : ∀ b, RO b → b < W0.heap.size := fun b hb => by rw [hRO] at hb; exact hb.1
  have hROx : ¬ RO w2.heap.size := by rw [hRO]; exact fun e => e.2 rfl
  have hROy : ∀ k, w2.heap.size < k → k < W0.heap.size → RO k := fun k h1 h2 => by rw [hRO]; exact ⟨h2, by omega⟩
  have hseq := climb1 n i hi hn x HXl.out p H32.out HP.out a c w.heap.size (w2.heap.size + 1 + 1 + 1 + 1) (w2.heap.size + 1 + 1) (w2.heap.size + 1 + 1 + 1) (w2.heap.size + 1 + 1 + 1 + 1 + 1) (w2.heap.size + 1) RO hROl (hROy _ (by omega) (by omega)) (hROy _ (by omega) (by omega)) (hROy _ (by omega) (by omega)) (hROy _ (by omega) (by omega)) (hROy _ (by omega) (by omega)) W0 hROw
    (HH.out.below hBw) (HR.out.step hBw) hgn (blk_cell hX3 rfl) (blk_cell hX1 rfl) (blk_cell hX2 rfl) (blk_cell hX4 rfl) (blk_cell hX0 rfl)
  have h00 : Ru w w2.heap.size x Non [] W0 := ⟨⟨fun b h => h.elim, hBw⟩, fun b h => h.elim, fun h => h, hXr⟩
  clear hRO hX0 hX1 hX2 hX3 hX4 hXr hb0 hx0 hs0 hB hsz
  refine range rfl (show 1 ≤ 6 by omega) (gf := 120) (lb := #[.pointer (some ⟨w2.heap.size + 1 + 1 + 1 + 1, 0, none⟩), .pointer (some ⟨w2.heap.size + 1 + 1, 0, none⟩), .pointer (some ⟨w2.heap.size + 1 + 1 + 1, 0, none⟩), .pointer (some ⟨w2.heap.size + 1 + 1 + 1 + 1 + 1, 0, none⟩), .pointer (some ⟨w2.heap.size + 1, 0, none⟩)]) rfl trivial (enters_of Tryz.func120 (by kernel_rfl) rfl)
    hseq hROw (fun _ => rfl)
    (fun T pre W' => Ru w w2.heap.size x T pre W') (fun _ _ _ _ => False)
    (fun s T T' A B h ht _ => h.turns ht) (fun _ => abide_none) h00
    (fun T s W' => Ru w w2.heap.size x T s.1 W' ∧ ∃ Bx, ¬ T Bx ∧ W'.heap[Bx]? = some (.cells #[str s.2.1.1, str s.2.1.2] 153 (0, 0)) ∧
      s.2.2 = { tmps := #[sv, .int .i64 (n : Int), .int .i64 (i : Int), str x, .slice a p.length c, undef, undef, undef, undef, undef, .string ⟨#[]⟩, .int .i64 0, .pointer (some ⟨w2.heap.size, 0, none⟩), .pointer (some ⟨Bx, 0, none⟩), .int .i64 (n : Int), .bool false, .bool false, .int .i64 (n : Int), .int .i64 (i : Int), .bool true, .bool false, .bool false, str x, .bool true, .bool false, .bool false, .slice a p.length c, .bool true, .bool false, .bool false, .bool false, .slice a p.length c, .int .i64 (p.length : Int), .int .i64 (n : Int), .int .i64 (i : Int),
        .func (.func 129) #[] #[.pointer (some ⟨w.heap.size, 0, none⟩), .pointer (some ⟨w.heap.size + 1, 0, none⟩)], .slice a' (longN n i) c', .int .i64 (longN n i : Int), .bool false, .bool false, str x, sv, .int .i64 (n : Int), .int .i64 (i : Int), str x, .slice a p.length c,
        .func (.func 120) #[] #[.pointer (some ⟨w2.heap.size + 1 + 1 + 1 + 1, 0, none⟩), .pointer (some ⟨w2.heap.size + 1 + 1, 0, none⟩), .pointer (some ⟨w2.heap.size + 1 + 1 + 1, 0, none⟩), .pointer (some ⟨w2.heap.size + 1 + 1 + 1 + 1 + 1, 0, none⟩), .pointer (some ⟨w2.heap.size + 1, 0, none⟩)], .agg #[str s.2.1.1, str s.2.1.2], undef, undef, undef], defers := [] })
    (fun T s W' l' r r' ⟨hs, Bx, h3, h4, h5⟩ hl ho => ⟨hs.turns (Turns.putObj hl _), Bx, h3, (World.putObj_heap_other (fun e => h3 (by rw [e]; exact hl))).trans h4, h5⟩) ?assign ?body ?done ?stop
  case assign =>
    rintro l' T pre z W' K hI ⟨K0, hK0, hg⟩ hK
    simp only [encN]
    gi_wp2
    exact hK _ _ ((Kept.refl _ _).alloc _) ⟨hI.turns (Turns.alloc' _), W'.heap.size, fun e => by have := hI.low _ e; omega, World.alloc_heap_new _ _, rfl⟩
  case body =>
    rintro l' T pre z a'' W' ⟨hS, Bx, hTx, hXx, ha⟩
    dsimp only at hS hXx ha
    subst ha
    have y0 := blk_cell (i := 0) hXx rfl
    have y2 := hS.box.2.cell
    have y3 := hS.box.2.frozen
    have HS := Lib.hid hS
    clear hS hXx
    gi_wp2
    have hk : Kept (fun b => T b ∨ RO b) W' (W'.setCell ⟨w2.heap.size, 0, none⟩ (str z.1)) := (Kept.refl _ _).setCell (p := ⟨w2.heap.size, 0, none⟩) (fun e => e.elim HS.out.box.1 hROx) _
    refine ⟨hk, ⟨HS.out.safe.1, HS.out.safe.2.setCell (p := ⟨w2.heap.size, 0, none⟩) hwl _⟩, HS.out.low.kept hk, HS.out.box.1, ?_⟩
    rw [last_snoc]
    exact HS.out.box.2.set _
  case done =>
    rintro D T ys W' hD hT rfl hS hK
    have y2 := hS.box.2.cell
    have HE := Lib.hid (climbN_nodes (n := n) (i := i) x HP.out)
    have HB2 := Lib.hid hS.safe.2
    have HTD := Lib.hid (hS.safe.1 D hT)
    rw [← HE.out] at y2
    clear hS
    obtain ⟨rt, hrt⟩ : ∃ rt, climbN nd n i x p = rt := ⟨_, rfl⟩
    rw [hrt] at y2
    have HRt := Lib.hid hrt
    clear hrt
    gi_wp2
    refine ⟨by simp, .inl ⟨_, _, rfl, run_takeDeferred hK, ?_⟩⟩
    refine ⟨.tuple #[str rt, .int .i64 0], by simp [results, Tryz.f95, go_sem], by rw [HRt.out], HB2.out.trans ⟨rfl, rfl, rfl, by simp, fun b hb => World.putObj_heap_other (by have := HTD.out; omega)⟩⟩
  case stop =>
    rintro D j T pre W' _ _ _ h _
    exact h.elim
end Go.Proofs.YtdkcebaehdkphaaGreatDoor.MerU
/- The program's package merkle: Up, Check: contracts. No conditions but those that each lemma names. -/
namespace Go.Proofs.YtdkcebaehdkphaaGreatDoor.MerV
open Go.RowKit Go.Shelf STurn SSum MerG MerQ MerN MerM MerC MerS MerB MerA MerP MerE MerK MerR MerU
section
variable (a : Option Addr) (n i : Int) (x : L) (c : Nat) (p : List L) (w : World) (h : Strs w w.heap.size a p.length p) (hp : p.length ≤ 1000000) (hx : x.length ≤ 9223372036854775807) (hl : ∀ l ∈ p, l.length ≤ 9223372036854775807) (hr : Rds w)
include h hp hx hl hr
/-- THE CONTRACT of up. -/
theorem up_any : Calls Tryz.prog 95 #[sv, .int .i64 n, .int .i64 i, str x, .slice a p.length c] w fun e w' => e = .returned (.tuple #[str (upR n i x p).1, .int .i64 ((upR n i x p).2 : Nat)]) ∧ Below w.heap.size w w' := by
  unfold upR
  cases hm : mayBe n i with
  | false => exact (up_arg a n i x p.length c w hm).mono fun e w' ⟨h1, h2⟩ => ⟨h1, h2 ▸ Below.refl _ _⟩
  | true =>
    have hm' := hm
    unfold mayBe at hm'
    rw [Bool.and_eq_true, decide_eq_true_eq, decide_eq_true_eq] at hm'
    obtain ⟨k, rfl⟩ : ∃ k : Nat, n = (k : Int) := ⟨n.toNat, by omega⟩
    obtain ⟨j, rfl⟩ : ∃ j : Nat, i = (j : Int) := ⟨i.toNat, by omega⟩
    simp only [Int.toNat_natCast, Bool.true_eq_false, if_false]
    cases hf : fitB k j x p with
    | true => exact up_yes a k j (by omega) (by omega) x c p w h hr hf
    | false => exact up_proof a k j (by omega) (by omega) x c p w h hp hx hl hf
end
/-- What check answers. -/
def checkB (r : L) (n i : Int) (x : L) (p : List L) : Bool := decide ((upR n i x p).2 = 0) && decide ((upR n i x p).1 = r)
section
variable (r : L) (a : Option Addr) (n i : Int) (x : L) (c : Nat) (p : List L) (w : World) (h : Strs w w.heap.size a p.length p) (hp : p.length ≤ 1000000) (hx : x.length ≤ 9223372036854775807) (hl : ∀ l ∈ p, l.length ≤ 9223372036854775807) (hr : Rds w)
include h hp hx hl hr
/-- THE CONTRACT of check. -/
theorem check_any : Calls Tryz.prog 76 #[sv, str r, .int .i64 n, .int .i64 i, str x, .slice a p.length c] w fun e w' => e = .returned (.bool (checkB r n i x p)) ∧ Below w.heap.size w w' := by
  have HU := Lib.hid (up_any a n i x c p w h hp hx hl hr)
  clear h hp hx hl hr
  unfold checkB
  generalize upR n i x p = t at *
  obtain ⟨u, v⟩ := t
  dsimp only at HU ⊢
  by_cases hv : v = 0
  · subst hv
    by_cases hu : u = r
    · subst hu
      rw [decide_eq_true rfl, decide_eq_true rfl]
      have he : (u == u) = true := by simp
      go_enter Tryz.func76, Tryz.ntmps76
      go_wp2_with (go_at_call 95; refine HU.out.mono ?_; rintro e w' ⟨rfl, hb⟩; have HB := Lib.hid hb; clear hb)
      go_ret
      exact ⟨rfl, HB.out⟩
    · rw [decide_eq_true rfl, decide_eq_false hu]
      have he : (u == r) = false := by simp [hu]
      clear hu
      go_enter Tryz.func76, Tryz.ntmps76
      go_wp2_with (go_at_call 95; refine HU.out.mono ?_; rintro e w' ⟨rfl, hb⟩; have HB := Lib.hid hb; clear hb)
      go_ret
      exact ⟨rfl, HB.out⟩
  · rw [decide_eq_false hv]
    have he : ((v : Int) == 0) = false := by rw [beq_eq_false_iff_ne]; omega
    clear hv
    go_enter Tryz.func76, Tryz.ntmps76
    go_wp2_with (go_at_call 95; refine HU.out.mono ?_; rintro e w' ⟨rfl, hb⟩; have HB := Lib.hid hb; clear hb)
    go_ret
    exact ⟨rfl, HB.out⟩
theorem Check : Calls Tryz.prog 54 #[str r, .int .i64 n, .int .i64 i, str x, .slice a p.length c] w fun e w' => e = .returned (.bool (checkB r n i x p)) ∧ Below w.heap.size w w' := by
  have HU := Lib.hid (check_any r a n i x c p w h hp hx hl hr)
  clear h hp hx hl hr
  generalize checkB r n i x p = t at *
  go_enter Tryz.func54, Tryz.ntmps54
  go_wp2_with (go_at_call 76; refine HU.out.mono ?_; rintro e w' ⟨rfl, hb⟩; have HB := Lib.hid hb; clear hb)
  go_ret
  exact ⟨rfl, HB.out⟩
end
end Go.Proofs.YtdkcebaehdkphaaGreatDoor.MerV
