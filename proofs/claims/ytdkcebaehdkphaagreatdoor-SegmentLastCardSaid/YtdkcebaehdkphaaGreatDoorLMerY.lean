/- MerY MerW: one behind the other. -/
import Derived.Test.YtdkcebaehdkphaaGreatDoorLMerX
/- The program's package merkle: clash, where a path leads another leaf to the root. No conditions but those that each lemma names. -/
namespace Go.Proofs.YtdkcebaehdkphaaGreatDoor.MerY
open Go.RowKit Go.Shelf STurn SSum MerG MerQ MerN MerM MerC MerS MerB MerA MerP MerE MerK MerR MerU MerV MerX
attribute [local go_sem] Oper.semAt_some
/-- What lies while clash runs: the results' boxes. -/
structure Rx (w : World) (n₁ : Nat) (u v t : Value) (T : Nat → Prop) (W : World) : Prop where
  low1 : ∀ b, T b → n₁ ≤ b
  size : n₁ ≤ W.heap.size
  bx : Bx3 w u v t W
theorem bx_at {w W V : World} {n₁ : Nat} {u v t : Value} (h : Bx3 w u v t W) (hn : w.heap.size + 3 ≤ n₁) (hb : Below n₁ W V) : Bx3 w u v t V :=
  ⟨h.below.trans (hb.mono (by omega)), Nat.le_trans h.lt hb.size, (hb.block _ (by omega)).trans h.b0, (hb.block _ (by omega)).trans h.b1, (hb.block _ (by omega)).trans h.b2⟩
theorem turns_below {T T' : Nat → Prop} {A B : World} {n₁ : Nat} (ht : Turns T T' A B) (hl : ∀ b, T b → n₁ ≤ b) (hs : n₁ ≤ A.heap.size) : Below n₁ A B :=
  ⟨ht.os, ht.tape, ht.output, ht.size, fun b hb => ht.block b (Nat.lt_of_lt_of_le hb hs) (fun e => by have := hl b e; omega)⟩
theorem Rx.turns {w A B : World} {n₁ : Nat} {u v t : Value} {T T' : Nat → Prop} (h : Rx w n₁ u v t T A) (hn : w.heap.size + 3 ≤ n₁) (ht : Turns T T' A B) : Rx w n₁ u v t T' B := by
  have hz := h.size
  exact ⟨fun b hb => (ht.new b hb).elim (h.low1 b) (fun e => by omega), Nat.le_trans hz ht.size, bx_at h.bx hn (turns_below ht h.low1 hz)⟩
structure Rc (w : World) (W0 : World) (RO : Nat → Prop) (XA : Nat) (T : Nat → Prop) (k : Nat) (W : World) : Prop where
  rx : Rx w W0.heap.size (str []) (str []) (.bool false) T W
  ro : Kept RO W0 W
  low : Low T W
  box : Boxed W XA 3 (.int .i64 (k : Int))
theorem Rc.turns {w W0 A B : World} {RO : Nat → Prop} {XA k : Nat} {T T' : Nat → Prop} (h : Rc w W0 RO XA T k A) (hn : w.heap.size + 3 ≤ W0.heap.size) (hx : XA < W0.heap.size) (ht : Turns T T' A B) : Rc w W0 RO XA T' k B := by
  have hb := turns_below ht h.rx.low1 h.rx.size
  exact ⟨h.rx.turns hn ht, ⟨Nat.le_trans h.ro.size ht.size, fun b hb' hr => (hb.block b hb').trans (h.ro.block b hb' hr)⟩, h.low.turns ht, (hb.block _ hx).trans h.box⟩
theorem ours_in (n i : Nat) (hi : i < n) (hn : n ≤ 100000) (x : L) (hx : x.length = 32) (p : List L) (h32 : ∀ x ∈ p, x.length = 32) (hp : p.length = longN n i) (a : Option Addr) (c : Nat) (w : World) (h : Strs w w.heap.size a p.length p) (hr : Rds w) :
    Calls Tryz.prog 96 #[.func (.func 120) #[] #[.pointer (some ⟨w.heap.size + 1 + 1 + 1, 0, none⟩), .pointer (some ⟨w.heap.size + 1, 0, none⟩), .pointer (some ⟨w.heap.size + 1 + 1, 0, none⟩), .pointer (some ⟨w.heap.size + 1 + 1 + 1 + 1, 0, none⟩), .pointer (some ⟨w.heap.size, 0, none⟩)]]
      (((((w.alloc (.cells #[sv] 125)).alloc (.cells #[.int .i64 (n : Int)] 3)).alloc (.cells #[.int .i64 (i : Int)] 3)).alloc (.cells #[str x] 9)).alloc (.cells #[.slice a p.length c] 46))
      fun e w' => ∃ a' c', e = .returned (.slice a' (nodes (sidesN n i) x p).length c') ∧ w'.ownsRow w.heap.size 153 2 (.slice a' (nodes (sidesN n i) x p).length c') (nodes (sidesN n i) x p).length (cellsN (nodes (sidesN n i) x p)) ∧ Below w.heap.size w w' := by
  obtain ⟨hsz, hX0, hX1, hX2, hX3, hX4, hB⟩ := five w (.cells #[sv] 125) (.cells #[.int .i64 (n : Int)] 3) (.cells #[.int .i64 (i : Int)] 3) (.cells #[str x] 9) (.cells #[.slice a p.length c] 46)
  obtain ⟨W0, hW0⟩ : ∃ W0, ((((w.alloc (.cells #[sv] 125)).alloc (.cells #[.int .i64 (n : Int)] 3)).alloc (.cells #[.int .i64 (i : Int)] 3)).alloc (.cells #[str x] 9)).alloc (.cells #[.slice a p.length c] 46) = W0 := ⟨_, rfl⟩
  rw [hW0] at hsz hX0 hX1 hX2 hX3 hX4 hB ⊢
  have hgn : 0 < w.heap.size := World.block_lt_of_cell? w _ (hr 0 (by omega))
  have hs := climb1 n i hi (by omega) x hx p h32 hp a c w.heap.size (w.heap.size + 1 + 1 + 1) (w.heap.size + 1) (w.heap.size + 1 + 1) (w.heap.size + 1 + 1 + 1 + 1) w.heap.size (fun b => b < W0.heap.size) (fun b hb => by omega) (by omega) (by omega) (by omega) (by omega) (by omega) W0 (fun b hb => hb)
    (h.below hB) (hr.step hB) hgn (blk_cell hX3 rfl) (blk_cell hX1 rfl) (blk_cell hX2 rfl) (blk_cell hX4 rfl) (blk_cell hX0 rfl)
  refine (collectN 120 _ (enters_of Tryz.func120 (by kernel_rfl) rfl) (nodes (sidesN n i) x p) (by rw [nodes_len _ _ _ (by rw [sidesN_length, hp]; exact Nat.le_refl _), sidesN_length]; exact Nat.le_trans (long_le _ _ _) (by omega)) _ W0 (fun b hb => hb) hs).mono ?_
  rintro e w' ⟨a', c', rfl, ho, hb⟩
  refine ⟨a', c', rfl, ?_, hB.trans (hb.mono hB.size)⟩
  refine ⟨ho.1, MerG.either ho.2 id ?_⟩
  rintro ⟨g, cap, cur, h1, h2, h3⟩
  exact ⟨g, cap, cur, h1, Nat.le_trans hB.size h2, h3⟩
set_option maxRecDepth 100000 in
set_option maxHeartbeats 4000000 in
theorem clash_yes (b : Option Addr) (ls : List L) (d : Nat) (k : Nat) (x : L) (a : Option Addr) (p : List L) (c : Nat) (w : World) (hls : Strs w w.heap.size b ls.length ls) (hln : ls.length ≤ 100000)
    (h : Strs w w.heap.size a p.length p) (hp : p.length ≤ 1000000) (hr : Rds w) (hk : k < ls.length) (hall : all32 ls = true) (hfit : fitB ls.length k x p = true) (hcl : climbN nd ls.length k x p = MerN.root nd (sum []) ls) (hck : checkB (MerN.root nd (sum []) ls) (ls.length : Int) (k : Int) x p = true) (hne : x ≠ ls.getD k []) :
    Calls Tryz.prog 77 #[sv, .slice b ls.length d, .int .i64 (k : Int), str x, .slice a p.length c] w fun e w' => ∃ u v, e = .returned (.tuple #[str u, str v, .bool true]) ∧ (u ≠ v ∧ sum u = sum v ∧ u.length = 65 ∧ v.length = 65) ∧ Below w.heap.size w w' := by
  unfold fitB at hfit
  rw [Bool.and_eq_true, Bool.and_eq_true, decide_eq_true_eq, decide_eq_true_eq] at hfit
  obtain ⟨⟨hx, hpall⟩, hpl⟩ := hfit
  have hll : ∀ l ∈ ls, l.length ≤ 9223372036854775807 := fun l hl => by rw [all32_at hall l hl]; omega
  have hlp : ∀ l ∈ p, l.length ≤ 9223372036854775807 := fun l hl => by rw [all32_at hpall l hl]; omega
  have hyl : (ls.getD k []).length = 32 := all32_at hall _ (by rw [getD_at _ _ hk]; exact List.getElem_mem hk)
  have HRo := Lib.hid (fun W (hb : Below w.heap.size w W) => root_any' b ls.length d ls W (hls.below hb |>.more hb.size) hln hll (hr.step hb))
  simp only [rootR, hall, if_true] at HRo
  have HCk := Lib.hid (fun W (hb : Below w.heap.size w W) => check_any (MerN.root nd (sum []) ls) a (ls.length : Int) (k : Int) x c p W (h.below hb |>.more hb.size) hp (by omega) hlp (hr.step hb))
  rw [hck] at HCk
  have HPa := Lib.hid (fun W (hb : Below w.heap.size w W) => path_yes b d ls k W (hls.below hb |>.more hb.size) hln hk (hr.step hb) hall)
  have HOu := Lib.hid (fun a' c' W (hb : Below w.heap.size w W) (hs : Strs W W.heap.size a' (pathN nd ls k).length (pathN nd ls k)) => ours_in ls.length k hk hln (ls.getD k []) hyl (pathN nd ls k) (path_all (fun x : L => x.length = 32) nd_length _ ls k (all32_at hall)) (pathN_length nd hk) a' c' W hs (hr.step hb))
  obtain ⟨q, off, rfl, hq, hc⟩ := hls.2 (by omega)
  have HCel := Lib.hid (fun W (hb : Below w.heap.size w W) => (hb.cell (p := ⟨q, off + k, none⟩) hq).trans (hc k hk))
  have HX := Lib.hid (⟨hx, hpall, hpl, hyl, hcl, hne⟩ : x.length = 32 ∧ all32 p = true ∧ p.length = longN ls.length k ∧ (ls.getD k []).length = 32 ∧ climbN nd ls.length k x p = MerN.root nd (sum []) ls ∧ x ≠ ls.getD k [])
  have HH := Lib.hid h
  have HR := Lib.hid hr
  have HLs := Lib.hid hls
  have HAll := Lib.hid hall
  have X0 := Lib.hid (bx3 w)
  have q0 : (0 : Int) ≤ (k : Int) := by omega
  have q1 : (k : Int) < (ls.length : Int) := by omega
  have hn1 : ls.length ≤ 100000 := hln
  have he : (x == ls.getD k []) = false := by rw [beq_eq_false_iff_ne]; exact hne
  obtain ⟨y, hy⟩ : ∃ y, ls.getD k [] = y := ⟨_, rfl⟩
  rw [hy] at he HCel HOu HX
  have HY := Lib.hid hy
  clear hx hpall hpl hyl hcl hne h hr hls hall hq hc hll hlp hck hy hln
  refine (callsIn_wide (n := 6)).1 ?_
  refine callsIn_of_wp_marks Tryz.func77 rfl trivial ?_ rfl
  simp only [Tryz.ntmps77, List.size_toArray, List.length_cons, List.length_nil, Nat.reduceAdd, Nat.reduceSub, Array.replicate_succ, Array.replicate_zero, List.push_toArray, List.append_toArray, List.nil_append, List.cons_append]
  gi_wp2_with (first
    | (refine ⟨trivial, ?_⟩; gi_at_call 74; refine (callsIn_wide.2 (HRo.out _ X0.out.below)).mono ?_; rintro e W1 ⟨rfl, hb1⟩; have X1 := Lib.hid (X0.out.step hb1); clear hb1)
    | (refine ⟨trivial, ?_⟩; gi_at_call 76; refine (callsIn_wide.2 (HCk.out _ X1.out.below)).mono ?_; rintro e W2 ⟨rfl, hb2⟩; have X2 := Lib.hid (X1.out.step hb2); have cy := HCel.out _ X2.out.below; clear hb2)
    | (refine ⟨trivial, ?_⟩; gi_at_call 75; refine (callsIn_wide.2 (HPa.out _ X2.out.below)).mono ?_; rintro e W3 ⟨a', c', rfl, hs3, hb3⟩; have X3 := Lib.hid (X2.out.step hb3); have cz := HCel.out _ X3.out.below; have HS3 := Lib.hid hs3; clear hb3 hs3)
    | (refine ⟨trivial, ?_⟩; gi_at_call 97; refine (callsIn_wide.2 (climb_in _ _ _ _ _ _ _)).mono ?_; rintro e w' ⟨rfl, rfl⟩)
    | (refine ⟨trivial, ?_⟩; gi_at_call 96; refine (callsIn_wide.2 (HOu.out _ _ _ X3.out.below HS3.out)).mono ?_; rintro e W4 ⟨a4, c4, rfl, ho4, hb4⟩; have X4 := Lib.hid (X3.out.step hb4); have HO4 := Lib.hid ho4; clear hb4 ho4))
  obtain ⟨ns, hns⟩ : ∃ ns, nodes (sidesN ls.length k) y (pathN nd ls k) = ns := ⟨_, rfl⟩
  obtain ⟨rt, hrt⟩ : ∃ rt, MerN.root nd (sum []) ls = rt := ⟨_, rfl⟩
  rw [hns] at HO4 ⊢
  rw [hrt]
  have HNs := Lib.hid hns
  clear hns hrt cy cz he HCk HPa HOu HRo HCel
  obtain ⟨hsz5, hY0, hY1, hB5⟩ := two' W4 (.cells #[.slice a4 ns.length c4] 150) (.cells #[.int .i64 0] 3)
  obtain ⟨W5, hW5⟩ : ∃ W5, (W4.alloc (.cells #[.slice a4 ns.length c4] 150)).alloc (.cells #[.int .i64 0] 3) = W5 := ⟨_, rfl⟩
  rw [hW5] at hsz5 hY0 hY1 hB5 ⊢
  obtain ⟨hsz, hX0, hX1, hX2, hX3, hX4, hB⟩ := five W5 (.cells #[sv] 125) (.cells #[.int .i64 (ls.length : Int)] 3) (.cells #[.int .i64 (k : Int)] 3) (.cells #[str x] 9) (.cells #[.slice a p.length c] 46)
  obtain ⟨W0, hW0⟩ : ∃ W0, ((((W5.alloc (.cells #[sv] 125)).alloc (.cells #[.int .i64 (ls.length : Int)] 3)).alloc (.cells #[.int .i64 (k : Int)] 3)).alloc (.cells #[str x] 9)).alloc (.cells #[.slice a p.length c] 46) = W0 := ⟨_, rfl⟩
  rw [hW0] at hsz hX0 hX1 hX2 hX3 hX4 hB ⊢
  clear hW0 hW5
  rw [hsz5] at hX0 hX1 hX2 hX3 hX4 hsz
  have hB40 : Below W4.heap.size W4 W0 := hB5.trans (hB.mono (by omega))
  have hl4 := X4.out.lt
  have XW := X4.out.step hB40
  have hn3 : w.heap.size + 3 ≤ W0.heap.size := XW.lt
  have hXS : W0.heap[W4.heap.size]? = some (.cells #[.slice a4 ns.length c4] 150 (0, 0)) := (hB.block _ (by omega)).trans hY0
  have hXA : W0.heap[W4.heap.size + 1]? = some (.cells #[.int .i64 0] 3 (0, 0)) := (hB.block _ (by omega)).trans hY1
  have hgn : 0 < w.heap.size := World.block_lt_of_cell? w _ (HR.out 0 (by omega))
  obtain ⟨RO, hRO⟩ : ∃ RO : Nat → Prop, RO = fun b => b < W0.heap.size ∧ b ≠ W4.heap.size + 1 ∧ ¬ (w.heap.size ≤ b ∧ b < w.heap.size + 3) := ⟨_, rfl⟩
  have hROl : ∀ b, b < w.heap.size → RO b := fun b hb => by rw [hRO]; exact ⟨by omega, by omega, by omega⟩
  have hROw : ∀ b, RO b → b < W0.heap.size := fun b hb => by rw [hRO] at hb; exact hb.1
  have hROx : ¬ RO (W4.heap.size + 1) := by rw [hRO]; exact fun e => e.2.1 rfl
  have hROr : ∀ j, w.heap.size ≤ j → j < w.heap.size + 3 → ¬ RO j := fun j h1 h2 => by rw [hRO]; exact fun e => e.2.2 ⟨h1, h2⟩
  have hROy : ∀ j, w.heap.size + 3 ≤ j → j < W0.heap.size → j ≠ W4.heap.size + 1 → RO j := fun j h1 h2 h3 => by rw [hRO]; exact ⟨h2, h3, by omega⟩
  have hxa : W4.heap.size + 1 < W0.heap.size := by omega
  have hseq := climb1 ls.length k hk (by omega) x HX.out.1 p (all32_at HX.out.2.1) HX.out.2.2.1 a c w.heap.size (W4.heap.size + 2 + 1 + 1 + 1) (W4.heap.size + 2 + 1) (W4.heap.size + 2 + 1 + 1) (W4.heap.size + 2 + 1 + 1 + 1 + 1) (W4.heap.size + 2) RO hROl
    (hROy _ (by omega) (by omega) (by omega)) (hROy _ (by omega) (by omega) (by omega)) (hROy _ (by omega) (by omega) (by omega)) (hROy _ (by omega) (by omega) (by omega)) (hROy _ (by omega) (by omega) (by omega)) W0 hROw
    (HH.out.below XW.below) (HR.out.step XW.below) hgn (blk_cell hX3 rfl) (blk_cell hX1 rfl) (blk_cell hX2 rfl) (blk_cell hX4 rfl) (blk_cell hX0 rfl)
  have HOw := Lib.hid (own_at HO4.out (fun j hj => hB40.block j (HO4.out.lt j hj).2))
  have hog : ∀ j, (Value.slice a4 ns.length c4).ownBlock = some j → RO j := fun j hj => by
    have := HO4.out.lt j hj
    have h3 := (X3.out).lt
    exact hROy j (by omega) (by omega) (by omega)
  have HOg := Lib.hid hog
  have h00 : Rc w W0 RO (W4.heap.size + 1) Non 0 W0 := ⟨⟨fun b h => h.elim, Nat.le_refl _, XW⟩, Kept.refl _ _, fun b h => h.elim, hXA⟩
  have HRS : Hid (RO W4.heap.size) := Lib.hid (hROy _ (by omega) (by omega) (by omega))
  have hwl : w.heap.size + 3 ≤ W4.heap.size := hl4
  have HnsL : Hid (ns.length = (nodes (sidesN ls.length k) x p).length) := Lib.hid (by
    rw [← HNs.out, nodes_len _ _ _ (by rw [sidesN_length, pathN_length nd hk]; exact Nat.le_refl _), nodes_len _ _ _ (by rw [sidesN_length, HX.out.2.2.1]; exact Nat.le_refl _)])
  have hnsb : ns.length ≤ 1000000 := by
    rw [← HNs.out, nodes_len _ _ _ (by rw [sidesN_length, pathN_length nd hk]; exact Nat.le_refl _), sidesN_length]
    exact Nat.le_trans (long_le _ _ _) (by omega)
  clear hRO hX0 hX1 hX2 hX3 hX4 hB hB5 hY0 hY1 hXA hog hB40 XW hl4 hsz hsz5
  refine range rfl (show 1 ≤ 6 by omega) (gf := 120) (lb := #[.pointer (some ⟨W4.heap.size + 1 + 1 + 1 + 1 + 1, 0, none⟩), .pointer (some ⟨W4.heap.size + 1 + 1 + 1, 0, none⟩), .pointer (some ⟨W4.heap.size + 1 + 1 + 1 + 1, 0, none⟩), .pointer (some ⟨W4.heap.size + 1 + 1 + 1 + 1 + 1 + 1, 0, none⟩), .pointer (some ⟨W4.heap.size + 1 + 1, 0, none⟩)]) rfl trivial (enters_of Tryz.func120 (by kernel_rfl) rfl)
    hseq hROw (fun _ => rfl)
    (fun T pre W' => Rc w W0 RO (W4.heap.size + 1) T pre.length W' ∧ ∀ j z o, j < pre.length → (nodes (sidesN ls.length k) x p)[j]? = some z → ns[j]? = some o → z.1 ≠ o.1)
    (fun j T _ W' => j = .ret ∧ ∃ u v : L, (u ≠ v ∧ sum u = sum v ∧ u.length = 65 ∧ v.length = 65) ∧ Rx w W0.heap.size (str u) (str v) (.bool true) T W')
    (fun s T T' A B h ht _ => ⟨h.1.turns hn3 hxa ht, h.2⟩) (fun j s T T' A B ⟨h1, u, v, h2, h3⟩ ht _ => ⟨h1, u, v, h2, h3.turns hn3 ht⟩) ⟨h00, fun j z o hj => absurd hj (by simp)⟩
    (fun T s W' => (Rc w W0 RO (W4.heap.size + 1) T s.1.length W' ∧ ∀ j z o, j < s.1.length → (nodes (sidesN ls.length k) x p)[j]? = some z → ns[j]? = some o → z.1 ≠ o.1) ∧ s.1 ++ [s.2.1] <+: nodes (sidesN ls.length k) x p ∧ ∃ Bx, ¬ T Bx ∧ W'.heap[Bx]? = some (.cells #[str s.2.1.1, str s.2.1.2] 153 (0, 0)) ∧ W0.heap.size ≤ Bx ∧
      s.2.2 = { tmps := #[sv, .slice (some ⟨q, off, none⟩) ls.length d, .int .i64 (k : Int), str x, .slice a p.length c, undef, undef, undef, undef, undef, .pointer (some ⟨w.heap.size, 0, none⟩), .pointer (some ⟨w.heap.size + 1, 0, none⟩), .pointer (some ⟨w.heap.size + 1 + 1, 0, none⟩), str rt, .int .i64 0, .slice a' (pathN nd ls k).length c', .int .i64 0, .pointer (some ⟨W4.heap.size, 0, none⟩), .pointer (some ⟨W4.heap.size + 1, 0, none⟩), .pointer (some ⟨Bx, 0, none⟩),
        .tuple #[str rt, .int .i64 0], sv, .slice (some ⟨q, off, none⟩) ls.length d, .tuple #[str rt, .int .i64 0], str rt, .int .i64 0, .int .i64 0, .bool false, .bool false, sv, str rt, .slice (some ⟨q, off, none⟩) ls.length d, .int .i64 (ls.length : Int), .int .i64 (k : Int), str x, .slice a p.length c, .bool true, .bool false, .bool false, .bool false, str x, .slice (some ⟨q, off, none⟩) ls.length d, .int .i64 (k : Int), .pointer (some ⟨q, off + k, none⟩), str y, .bool false, .bool false,
        .tuple #[.slice a' (pathN nd ls k).length c', .int .i64 0], sv, .slice (some ⟨q, off, none⟩) ls.length d, .int .i64 (k : Int), .tuple #[.slice a' (pathN nd ls k).length c', .int .i64 0], .slice a' (pathN nd ls k).length c', .int .i64 0, sv, .slice (some ⟨q, off, none⟩) ls.length d, .int .i64 (ls.length : Int), .int .i64 (k : Int), .slice (some ⟨q, off, none⟩) ls.length d, .int .i64 (k : Int), .pointer (some ⟨q, off + k, none⟩), str y, .slice a' (pathN nd ls k).length c',
        .func (.func 120) #[] #[.pointer (some ⟨W3.heap.size + 1 + 1 + 1, 0, none⟩), .pointer (some ⟨W3.heap.size + 1, 0, none⟩), .pointer (some ⟨W3.heap.size + 1 + 1, 0, none⟩), .pointer (some ⟨W3.heap.size + 1 + 1 + 1 + 1, 0, none⟩), .pointer (some ⟨W3.heap.size, 0, none⟩)],
        .slice a4 ns.length c4, sv, .slice (some ⟨q, off, none⟩) ls.length d, .int .i64 (ls.length : Int), .int .i64 (k : Int), str x, .slice a p.length c,
        .func (.func 120) #[] #[.pointer (some ⟨W4.heap.size + 1 + 1 + 1 + 1 + 1, 0, none⟩), .pointer (some ⟨W4.heap.size + 1 + 1 + 1, 0, none⟩), .pointer (some ⟨W4.heap.size + 1 + 1 + 1 + 1, 0, none⟩), .pointer (some ⟨W4.heap.size + 1 + 1 + 1 + 1 + 1 + 1, 0, none⟩), .pointer (some ⟨W4.heap.size + 1 + 1, 0, none⟩)],
        .agg #[str s.2.1.1, str s.2.1.2], undef, undef, undef, undef, undef, undef, undef, undef, undef, undef, undef, undef, undef, undef, undef, undef, undef], defers := [] })
    (fun T s W' l' r r' ⟨⟨hs, h6⟩, h7, Bx, h3, h4, h8, h5⟩ hl ho => ⟨⟨hs.turns hn3 hxa (Turns.putObj hl _), h6⟩, h7, Bx, h3, (World.putObj_heap_other (fun e => h3 (by rw [e]; exact hl))).trans h4, h8, h5⟩) ?assign ?body ?done ?stop
  case assign =>
    rintro l' T pre z W' K hI ⟨K0, hK0, hg⟩ hK
    simp only [encN]
    gi_wp2
    exact hK _ _ ((Kept.refl _ _).alloc _) ⟨⟨hI.1.turns hn3 hxa (Turns.alloc' _), hI.2⟩, hg, W'.heap.size, fun e => by have := hI.1.low _ e; omega, World.alloc_heap_new _ _, hI.1.rx.size, rfl⟩
  case body =>
    rintro l' T pre z a'' W' ⟨⟨hS, h6⟩, hg, Bx, hTx, hXx, hBx, ha⟩
    dsimp only at hS hXx ha h6 hg
    subst ha
    obtain ⟨hx, hpa, hpl, hyl, hcl, hne⟩ := HX.out
    have hzl : (nodes (sidesN ls.length k) x p)[pre.length]? = some z := by
      obtain ⟨r, hr⟩ := hg
      rw [← hr]; simp
    have hlt : pre.length < ns.length := by
      rw [HnsL.out]
      exact (List.getElem?_eq_some_iff.1 hzl).1
    obtain ⟨o, hol⟩ : ∃ o, ns[pre.length]? = some o := ⟨_, List.getElem?_eq_getElem hlt⟩
    have hog : ns[pre.length] = o := (List.getElem?_eq_some_iff.1 hol).2
    have HF : Hid (z.1 = o.1 → z.2 ≠ o.2 ∧ sum z.2 = sum o.2 ∧ z.2.length = 65 ∧ o.2.length = 65) := Lib.hid fun he => by
      rw [← HNs.out] at hol h6
      exact first pre.length (sidesN ls.length k) x y p (pathN nd ls k) z o hx hyl (all32_at hpa) (path_all (fun x : L => x.length = 32) nd_length _ ls k (all32_at HAll.out)) hne hzl hol (fun j a b hj h1 h2 => h6 j a b hj h1 h2) he
    have H6 : Hid (z.1 ≠ o.1 → ∀ j z o, j < pre.length + 1 → (nodes (sidesN ls.length k) x p)[j]? = some z → ns[j]? = some o → z.1 ≠ o.1) := Lib.hid fun hz j z' o' hj h1 h2 => by
      by_cases hjk : j < pre.length
      · exact h6 j z' o' hjk h1 h2
      · obtain rfl : j = pre.length := by omega
        rw [hzl] at h1
        rw [hol] at h2
        cases h1
        cases h2
        exact hz
    have hrow := own_at HOw.out (fun j hj => hS.ro.block j (hROw j (HOg.out j hj)) (HOg.out j hj))
    have hcs := cellsN_at ns pre.length hlt
    rw [hog] at hcs
    have hcl4 := hrow.2
    rcases hcl4 with ⟨h1, h2⟩ | ⟨g, cap, cur, h1, _⟩
    · omega
    simp only [Value.slice.injEq] at h1
    obtain ⟨rfl, _, rfl⟩ := h1
    have co0 := hrow.cells (g := g) rfl _ _ hcs.1
    have co1 := hrow.cells (g := g) rfl _ _ hcs.2
    rw [add_off] at co0 co1
    have cS := hS.ro.cell (p := ⟨W4.heap.size, 0, none⟩) (blk_cell hXS rfl) HRS.out
    have cA := hS.box.cell
    have y0 := blk_cell (i := 0) hXx rfl
    have y1 := blk_cell (i := 1) hXx rfl
    have HS := Lib.hid hS
    have HLen : Hid ((pre ++ [z]).length = pre.length + 1) := Lib.hid (by simp)
    have hpb : (pre.length : Int) < (ns.length : Int) := by omega
    have hpb0 : (0 : Int) ≤ (pre.length : Int) := by omega
    obtain ⟨z1, z2⟩ := z
    obtain ⟨o1, o2⟩ := o
    dsimp only at HF H6 co0 co1 y0 y1
    clear hx hpa hpl hyl hcl hne hzl hol hog h6 hrow hcs hS hg
    generalize pre.length = m at *
    rw [show 0 + 2 * m = m * 2 by omega] at co0
    rw [show 0 + (2 * m + 1) = m * 2 + 1 by omega] at co1
    have HSd := Lib.hid (HS.out.turns hn3 hxa (Turns.drew W'))
    have HKd : Hid (∀ K A, Kept K W'.drew A → Kept K W' A) := Lib.hid fun K A h => ⟨h.size, h.block⟩
    have e0 : W'.drew.cell? ⟨g, m * 2, none⟩ = some (str o1) := co0
    have e1 : W'.drew.cell? ⟨g, m * 2 + 1, none⟩ = some (str o2) := co1
    have e2 : W'.drew.cell? ⟨W4.heap.size, 0, none⟩ = some (.slice (some ⟨g, 0, none⟩) ns.length c4) := cS
    have e3 : W'.drew.cell? ⟨W4.heap.size + 1, 0, none⟩ = some (.int .i64 (m : Int)) := cA
    have e4 : W'.drew.cell? ⟨Bx, 0, none⟩ = some (str z1) := y0
    have e5 : W'.drew.cell? ⟨Bx, 1, none⟩ = some (str z2) := y1
    clear co0 co1 cS cA y0 y1
    gi_wp2
    refine MerF.still (by kernel_rfl) (by kernel_rfl) (by kernel_rfl) ?_
    obtain ⟨WD, hWD⟩ : ∃ WD, W'.drew = WD := ⟨_, rfl⟩
    rw [hWD] at HSd HKd e0 e1 e2 e3 e4 e5 ⊢
    clear hWD
    by_cases hz : z1 = o1
    · have heq : (z1 == o1) = true := by rw [beq_iff_eq]; exact hz
      have HFF := Lib.hid (HF.out hz)
      clear hz HF H6
      repeat still_step
      refine wpStill_nil ?_
      gi_wp2
      have HSe := Lib.hid (HSd.out.turns hn3 hxa (Turns.drew WD))
      have HKe : Hid (∀ K A, Kept K WD.drew A → Kept K W' A) := Lib.hid fun K A h => HKd.out K A ⟨h.size, h.block⟩
      have g1 : WD.drew.cell? ⟨g, m * 2 + 1, none⟩ = some (str o2) := e1
      have g2 : WD.drew.cell? ⟨W4.heap.size, 0, none⟩ = some (.slice (some ⟨g, 0, none⟩) ns.length c4) := e2
      have g3 : WD.drew.cell? ⟨W4.heap.size + 1, 0, none⟩ = some (.int .i64 (m : Int)) := e3
      have g5 : WD.drew.cell? ⟨Bx, 1, none⟩ = some (str z2) := e5
      clear e0 e1 e2 e3 e4 e5
      have c0 := blk_cell (i := 0) HSe.out.rx.bx.b0 rfl
      have c1 := blk_cell (i := 0) HSe.out.rx.bx.b1 rfl
      have c2 := blk_cell (i := 0) HSe.out.rx.bx.b2 rfl
      have f0 := blk_free (i := 0) HSe.out.rx.bx.b0
      have f1 := blk_free (i := 0) HSe.out.rx.bx.b1
      have f2 := blk_free (i := 0) HSe.out.rx.bx.b2
      have hgr : ¬ (w.heap.size ≤ g ∧ g < w.heap.size + 3) := fun e => hROr g e.1 e.2 (HOg.out g rfl)
      have hnoS : ∀ j, w.heap.size ≤ j → j < w.heap.size + 3 → ¬ (j = g ∨ j = W4.heap.size ∨ j = W4.heap.size + 1 ∨ j = Bx) := fun j h1 h2 e => by omega
      have hnn0 : ¬ (w.heap.size = g ∨ w.heap.size = W4.heap.size ∨ w.heap.size = W4.heap.size + 1 ∨ w.heap.size = Bx) := hnoS _ (by omega) (by omega)
      have hnn1 : ¬ (w.heap.size + 1 = g ∨ w.heap.size + 1 = W4.heap.size ∨ w.heap.size + 1 = W4.heap.size + 1 ∨ w.heap.size + 1 = Bx) := hnoS _ (by omega) (by omega)
      have hnn2 : ¬ (w.heap.size + 1 + 1 = g ∨ w.heap.size + 1 + 1 = W4.heap.size ∨ w.heap.size + 1 + 1 = W4.heap.size + 1 ∨ w.heap.size + 1 + 1 = Bx) := hnoS _ (by omega) (by omega)
      have HK0 := Lib.hid ((Kept.refl (fun b => b = g ∨ b = W4.heap.size ∨ b = W4.heap.size + 1 ∨ b = Bx) WD.drew).setCell (p := ⟨w.heap.size, 0, none⟩) hnn0 (str z2))
      have HK1 := Lib.hid (HK0.out.setCell (p := ⟨w.heap.size + 1, 0, none⟩) hnn1 (str o2))
      have HK2 := Lib.hid (HK1.out.setCell (p := ⟨w.heap.size + 1 + 1, 0, none⟩) hnn2 (.bool true))
      have hS : Kept (fun b => b = g ∨ b = W4.heap.size ∨ b = W4.heap.size + 1 ∨ b = Bx) WD.drew WD.drew := Kept.refl _ _
      clear hgr hnoS hnn0 hnn1 hnn2
      refine MerF.held (S := fun w' => Kept (fun b => b = g ∨ b = W4.heap.size ∨ b = W4.heap.size + 1 ∨ b = Bx) WD.drew w') (by kernel_rfl) (by kernel_rfl) (by rintro ⟨_, _, h⟩; exact h) hS (fun _ => ?_)
      change wpAnyH _ _ _ _ _ _ #[false, false, false, false, false, false, false, false, false, false] _ _
      obtain ⟨WE, hWE⟩ : ∃ WE, WD.drew = WE := ⟨_, rfl⟩
      rw [hWE] at HSe HKe g1 g2 g3 g5 c0 c1 c2 f0 f1 f2 HK0 HK1 HK2 hS ⊢
      clear hWE
      refine wpAnyH_take (i := 0) (v := ?v0) (by rw [List.getElem?_toArray]; rfl) (by kernel_rfl) (by kernel_rfl) (by kernel_rfl) (by intro _ _ _ h; exact h) (Or.inl ⟨by rfl, ?hy0⟩) (by assumption) ?rest0
      case hy0 => (intro W hSW; (try dsimp only at hSW); go_simp; try with_reducible rfl)
      try simp only [Act.put, List.setIfInBounds_toArray, List.set_cons_zero, List.set_cons_succ]
      refine wpAnyH_take (i := 1) (v := ?v1) (by rw [List.getElem?_toArray]; rfl) (by kernel_rfl) (by kernel_rfl) (by kernel_rfl) (by intro _ _ _ h; exact h) (Or.inl ⟨by rfl, ?hy1⟩) (by assumption) ?rest1
      case hy1 => (intro W hSW; have qq := hSW.cell g5 (.inr (.inr (.inr rfl))); (try dsimp only at hSW); go_simp; try with_reducible rfl)
      try simp only [Act.put, List.setIfInBounds_toArray, List.set_cons_zero, List.set_cons_succ]
      refine wpAnyH_take (i := 2) (v := ?v2) (by rw [List.getElem?_toArray]; rfl) (by kernel_rfl) (by kernel_rfl) (by kernel_rfl) (by intro _ _ _ h; exact h) (Or.inl ⟨by rfl, ?hy2⟩) (by assumption) ?rest2
      case hy2 => (intro W hSW; have qq := hSW.cell g2 (.inr (.inl rfl)); (try dsimp only at hSW); go_simp; try with_reducible rfl)
      try simp only [Act.put, List.setIfInBounds_toArray, List.set_cons_zero, List.set_cons_succ]
      refine wpAnyH_take (i := 3) (v := ?v3) (by rw [List.getElem?_toArray]; rfl) (by kernel_rfl) (by kernel_rfl) (by kernel_rfl) (by intro _ _ _ h; exact h) (Or.inl ⟨by rfl, ?hy3⟩) (by assumption) ?rest3
      case hy3 => (intro W hSW; have qq := hSW.cell g3 (.inr (.inr (.inl rfl))); (try dsimp only at hSW); go_simp; try with_reducible rfl)
      try simp only [Act.put, List.setIfInBounds_toArray, List.set_cons_zero, List.set_cons_succ]
      refine wpAnyH_take (i := 4) (v := ?v4) (by rw [List.getElem?_toArray]; rfl) (by kernel_rfl) (by kernel_rfl) (by kernel_rfl) (by intro _ _ _ h; exact h) (Or.inl ⟨by rfl, ?hy4⟩) (by assumption) ?rest4
      case hy4 => (intro W hSW; (try dsimp only at hSW); go_simp; try with_reducible rfl)
      try simp only [Act.put, List.setIfInBounds_toArray, List.set_cons_zero, List.set_cons_succ]
      refine wpAnyH_take (i := 5) (v := ?v5) (by rw [List.getElem?_toArray]; rfl) (by kernel_rfl) (by kernel_rfl) (by kernel_rfl) (by intro _ _ _ h; exact h) (Or.inl ⟨by rfl, ?hy5⟩) (by assumption) ?rest5
      case hy5 => (intro W hSW; (try dsimp only at hSW); go_simp; try with_reducible rfl)
      try simp only [Act.put, List.setIfInBounds_toArray, List.set_cons_zero, List.set_cons_succ]
      refine wpAnyH_take (i := 6) (v := ?v6) (by rw [List.getElem?_toArray]; rfl) (by kernel_rfl) (by kernel_rfl) (by kernel_rfl) (by intro _ _ _ h; exact h) (Or.inl ⟨by rfl, ?hy6⟩) (by assumption) ?rest6
      case hy6 => (intro W hSW; have qq := hSW.cell g1 (.inl rfl); (try dsimp only at hSW); go_simp; try with_reducible rfl)
      try simp only [Act.put, List.setIfInBounds_toArray, List.set_cons_zero, List.set_cons_succ]
      refine wpAnyH_ready (rs := [7]) (by kernel_rfl) (by simp) (AllReadyH.cons (by rw [List.getElem?_toArray]; rfl) (fun K hK => ?_) AllReadyH.nil)
      go_simp
      refine hK.out _ _ (HK0.out) (fun _ => ?_)
      clear hK K
      try simp only [List.setIfInBounds_toArray, List.set_cons_zero, List.set_cons_succ]
      refine wpAnyH_ready (rs := [8]) (by kernel_rfl) (by simp) (AllReadyH.cons (by rw [List.getElem?_toArray]; rfl) (fun K hK => ?_) AllReadyH.nil)
      go_simp
      refine hK.out _ _ (HK1.out) (fun _ => ?_)
      clear hK K
      try simp only [List.setIfInBounds_toArray, List.set_cons_zero, List.set_cons_succ]
      refine wpAnyH_ready (rs := [9]) (by kernel_rfl) (by simp) (AllReadyH.cons (by rw [List.getElem?_toArray]; rfl) (fun K hK => ?_) AllReadyH.nil)
      go_simp
      refine hK.out _ _ (HK2.out) (fun _ => ?_)
      clear hK K
      try simp only [List.setIfInBounds_toArray, List.set_cons_zero, List.set_cons_succ]
      refine wpAnyH_done (by kernel_rfl) ?_ _
      gi_wp2
      refine ⟨?_, rfl, z2, o2, HFF.out, HSe.out.rx.low1, Nat.le_trans HSe.out.rx.size (Nat.le_trans (KeepsWalks.setCell _ _ _).size (Nat.le_trans (KeepsWalks.setCell _ _ _).size (KeepsWalks.setCell _ _ _).size)), HSe.out.rx.bx.fin (str z2) (str o2) (.bool true)⟩
      have hno : ∀ j, w.heap.size ≤ j → j < w.heap.size + 3 → ¬ (T j ∨ RO j) := fun j h1 h2 e => e.elim (fun e => by have := HSe.out.rx.low1 j e; omega) (hROr j h1 h2)
      have hn0 := hno w.heap.size (by omega) (by omega)
      have hn1 := hno (w.heap.size + 1) (by omega) (by omega)
      have hn2 := hno (w.heap.size + 1 + 1) (by omega) (by omega)
      exact HKe.out _ _ ((((Kept.refl _ _).setCell (p := ⟨w.heap.size, 0, none⟩) hn0 _).setCell (p := ⟨w.heap.size + 1, 0, none⟩) hn1 _).setCell (p := ⟨w.heap.size + 1 + 1, 0, none⟩) hn2 _)
    · have heq : (z1 == o1) = false := by rw [beq_eq_false_iff_ne]; exact hz
      have H7 := Lib.hid (H6.out hz)
      clear hz HF H6
      repeat still_step
      refine wpStill_nil ?_
      have f3 := HSd.out.box.frozen
      gi_wp2
      have hno : ¬ (T (W4.heap.size + 1) ∨ RO (W4.heap.size + 1)) := fun e => e.elim (fun e => by have := HSd.out.rx.low1 _ e; omega) hROx
      have hk2 : Kept (fun b => T b ∨ RO b) WD (WD.setCell ⟨W4.heap.size + 1, 0, none⟩ (.int .i64 ((m : Int) + 1))) := (Kept.refl _ _).setCell (p := ⟨W4.heap.size + 1, 0, none⟩) hno _
      refine ⟨HKd.out _ _ hk2, ⟨⟨HSd.out.rx.low1, Nat.le_trans HSd.out.rx.size hk2.size, ?_⟩, HSd.out.ro.trans (hk2.mono fun b hb => .inr hb), HSd.out.low.kept hk2, ?_⟩, ?_⟩
      · have hB := (Below.refl (w.heap.size + 3) WD).setCell (p := ⟨W4.heap.size + 1, 0, none⟩) (by show w.heap.size + 3 ≤ W4.heap.size + 1; omega) (.int .i64 ((m : Int) + 1))
        exact bx_at HSd.out.rx.bx (Nat.le_refl _) hB
      · rw [HLen.out]
        exact HSd.out.box.set _
      · rw [HLen.out]
        exact H7.out
  case done =>
    rintro D T ys W' hD hT rfl ⟨hS, h6⟩ hK
    exfalso
    obtain ⟨hx, hpa, hpl, hyl, hcl, hne⟩ := HX.out
    have hp2 := pathN_length nd hk
    have e1 := climbN_nodes (n := ls.length) (i := k) x hpl
    have e2 := climbN_nodes (n := ls.length) (i := k) y hp2
    have e3 := climb_own nd (sum []) ls k hk
    rw [show ls[k] = y by rw [← HY.out, getD_at _ _ hk], ← hcl] at e3
    obtain ⟨j, z, o, g1, g2, g3⟩ := meet (sidesN ls.length k) x y p (pathN nd ls k) (by rw [sidesN_length, hpl]) (by rw [sidesN_length, hp2]) hx hyl (all32_at hpa) (path_all (fun x : L => x.length = 32) nd_length _ ls k (all32_at HAll.out)) hne (by rw [← e1, ← e2, e3])
    exact h6 j z o (by obtain ⟨hlt, _⟩ := List.getElem?_eq_some_iff.1 g1; exact hlt) g1 (by rw [← HNs.out]; exact g2) g3
  case stop =>
    rintro D j T pre W' hD hT _ ⟨rfl, u, v, huv, hR⟩ hK
    have HD := Lib.hid (hR.low1 D hT)
    have XF := bx_at hR.bx hn3 (turns_below (Turns.putObj (A := W') hT (.deferred none)) hR.low1 hR.size)
    have d0 := blk_cell (i := 0) XF.b0 rfl
    have d1 := blk_cell (i := 0) XF.b1 rfl
    have d2 := blk_cell (i := 0) XF.b2 rfl
    gi_wp2
    refine ⟨by simp, .inl ⟨_, _, rfl, run_takeDeferred hK, ?_⟩⟩
    exact ⟨.tuple #[str u, str v, .bool true], by simp [results, Tryz.f77, go_sem, d0, d1, d2], u, v, rfl, huv, XF.below⟩
end Go.Proofs.YtdkcebaehdkphaaGreatDoor.MerY
/- The program's package merkle: Clash: its contract; what the statements want of a leaf's own path. No conditions but those that each lemma names. -/
namespace Go.Proofs.YtdkcebaehdkphaaGreatDoor.MerW
open Go.RowKit Go.Shelf STurn SSum MerG MerQ MerN MerM MerC MerP MerR MerU MerV MerX MerY MerZ
/-- What Clash answers. -/
def ClashAns (w : World) (ls : List L) (i : Int) (x : L) (p : List L) (e : Ending) (w' : World) : Prop :=
  if clashB ls i x p = true then ∃ u v, e = .returned (.tuple #[str u, str v, .bool true]) ∧ (u ≠ v ∧ sum u = sum v ∧ u.length = 65 ∧ v.length = 65) ∧ Below w.heap.size w w'
  else e = .returned (.tuple #[str [], str [], .bool false]) ∧ Below w.heap.size w w'
section
variable (b : Option Addr) (ls : List L) (d : Nat) (i : Int) (x : L) (a : Option Addr) (p : List L) (c : Nat) (w : World) (hls : Strs w w.heap.size b ls.length ls) (hln : ls.length ≤ 100000) (hll : ∀ l ∈ ls, l.length ≤ 9223372036854775807)
  (h : Strs w w.heap.size a p.length p) (hp : p.length ≤ 1000000) (hx : x.length ≤ 9223372036854775807) (hl : ∀ l ∈ p, l.length ≤ 9223372036854775807) (hr : Rds w)
include hls hln hll h hp hx hl hr
theorem clash_any : Calls Tryz.prog 77 #[sv, .slice b ls.length d, .int .i64 i, str x, .slice a p.length c] w (ClashAns w ls i x p) := by
  unfold ClashAns
  by_cases hc : clashB ls i x p = true
  · simp only [if_pos hc]
    unfold clashB at hc
    rw [Bool.and_eq_true, Bool.and_eq_true] at hc
    obtain ⟨⟨hall, hck⟩, hne⟩ := hc
    obtain ⟨hm, hf, hcl⟩ := check_in hck
    unfold mayBe at hm
    rw [Bool.and_eq_true, decide_eq_true_eq, decide_eq_true_eq] at hm
    obtain ⟨k, rfl⟩ : ∃ k : Nat, i = (k : Int) := ⟨i.toNat, by omega⟩
    rw [Int.toNat_natCast] at hne hf hcl
    rw [Int.toNat_natCast] at hf hcl
    exact clash_yes b ls d k x a p c w hls hln h hp hr (by omega) hall hf hcl hck (by simpa using hne)
  · simp only [if_neg hc]
    exact clash_no b ls d i x a p c w hls hln hll h hp hx hl hr (by simpa using hc)
theorem Clash : Calls Tryz.prog 55 #[.slice b ls.length d, .int .i64 i, str x, .slice a p.length c] w (ClashAns w ls i x p) := by
  have HC := Lib.hid (clash_any b ls d i x a p c w hls hln hll h hp hx hl hr)
  clear hls hll h hp hx hl hr
  unfold ClashAns at *
  by_cases hc : clashB ls i x p = true
  · simp only [if_pos hc] at HC ⊢
    clear hc
    go_enter Tryz.func55, Tryz.ntmps55
    go_wp2_with (go_at_call 77; refine HC.out.mono ?_; rintro e w' ⟨u, v, rfl, hu, hb⟩; have HB := Lib.hid hb; have HU := Lib.hid hu; clear hb hu)
    go_ret3
    exact ⟨u, v, rfl, HU.out, HB.out⟩
  · simp only [if_neg hc] at HC ⊢
    clear hc
    go_enter Tryz.func55, Tryz.ntmps55
    go_wp2_with (go_at_call 77; refine HC.out.mono ?_; rintro e w' ⟨rfl, hb⟩; have HB := Lib.hid hb; clear hb)
    go_ret3
    exact ⟨rfl, HB.out⟩
end
theorem path_32 {ls : List L} {k : Nat} (h : all32 ls = true) : ∀ x ∈ pathN nd ls k, x.length = 32 := path_all (fun x : L => x.length = 32) nd_length _ ls k (all32_at h)
theorem all32_of {ls : List L} (h : ∀ x ∈ ls, x.length = 32) : all32 ls = true := by
  unfold all32
  rw [List.all_eq_true]
  intro x hx
  exact decide_eq_true (h x hx)
/-- A leaf's own path leads to the root. -/
theorem own_check {ls : List L} {k : Nat} (hk : k < ls.length) (hn : ls.length ≤ 1048576) (h : all32 ls = true) : checkB (MerN.root nd (sum []) ls) (ls.length : Int) (k : Int) (ls.getD k []) (pathN nd ls k) = true := by
  have hm : mayBe (ls.length : Int) (k : Int) = true := by
    unfold mayBe
    rw [Bool.and_eq_true, decide_eq_true_eq, decide_eq_true_eq]
    omega
  have hf : fitB ls.length k (ls.getD k []) (pathN nd ls k) = true := by
    unfold fitB
    rw [Bool.and_eq_true, Bool.and_eq_true, decide_eq_true_eq, decide_eq_true_eq]
    exact ⟨⟨all32_at h _ (by rw [getD_at _ _ hk]; exact List.getElem_mem hk), all32_of (path_32 h)⟩, pathN_length nd hk⟩
  have hc := climb_own nd (sum []) ls k hk
  rw [← getD_at _ _ hk] at hc
  unfold checkB upR
  rw [hm, Int.toNat_natCast, Int.toNat_natCast, hf]
  simpa [List.getD_eq_getElem?_getD] using hc
end Go.Proofs.YtdkcebaehdkphaaGreatDoor.MerW
