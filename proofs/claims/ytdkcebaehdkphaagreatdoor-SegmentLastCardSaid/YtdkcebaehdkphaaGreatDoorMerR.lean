/- The program's package merkle: root, path: the walks of their texts. No conditions but those that each lemma names. -/
import Derived.Test.YtdkcebaehdkphaaGreatDoorMerD
namespace Go.Proofs.YtdkcebaehdkphaaGreatDoor.MerR
open Go.RowKit Go.Shelf STurn SSum MerG MerQ MerN MerM MerC MerS MerB MerA MerL MerP MerD
attribute [local go_sem] Oper.semAt_some
theorem stays_cell {A B : World} (h : Stays true A B) {p : Addr} {v : Value} (hc : A.cell? p = some v) : B.cell? p = some v := by
  have hlt := World.block_lt_of_cell? A p hc
  obtain ⟨o, ho⟩ : ∃ o, A.heap[p.block]? = some o := ⟨_, Array.getElem?_eq_getElem hlt⟩
  have hi : o.isCells = true := by
    cases o <;> first | rfl | (simp [World.cell?, ho] at hc)
  exact (World.cell?_of_block ((h rfl _ o ho hi).trans ho.symm)).trans hc
theorem strs_stays {A B : World} {a : Option Addr} {n : Nat} {ls : List L} (h : Strs A A.heap.size a n ls) (hs : Stays true A B) (hz : A.heap.size ≤ B.heap.size) : Strs B B.heap.size a n ls :=
  ⟨h.1, fun hn => by
    obtain ⟨b, off, e, hb, hc⟩ := h.2 hn
    exact ⟨b, off, e, by omega, fun i hi => stays_cell hs (p := ⟨b, off + i, none⟩) (hc i hi)⟩⟩
/-- What root answers. -/
def rootR (ls : List L) : L × Nat := if all32 ls then (MerN.root nd (sum []) ls, 0) else ([], 2)
theorem all32_at {ls : List L} (h : all32 ls = true) : ∀ x ∈ ls, x.length = 32 := fun x hx => by
  unfold all32 at h
  simpa using List.all_eq_true.1 h x hx
/-- What lies while root runs. -/
structure Rt (w : World) (X : Nat) (ls : List L) (T : Nat → Prop) (k : Nat) (W : World) : Prop where
  safe : MerG.Safe w.heap.size w T W
  top : ∃ a n c, (¬ T X ∧ Boxed W X 42 (.slice a n c)) ∧ (0 < k → Strs W W.heap.size a n (lvl nd (k - 1) ls))
theorem Rt.turns {w : World} {X : Nat} {ls : List L} {T T' : Nat → Prop} {k : Nat} {A B : World} (h : Rt w X ls T k A) (ht : Turns T T' A B) (hs : Stays true A B) : Rt w X ls T' k B := by
  obtain ⟨a, n, c, hb, hl⟩ := h.top
  exact ⟨h.safe.turns (Nat.le_refl _) ht, a, n, c, ht.heap hb, fun hk => strs_stays (hl hk) hs ht.size⟩
theorem three (w : World) (o0 o1 o2 : Obj) : (((w.alloc o0).alloc o1).alloc o2).heap.size = w.heap.size + 3 ∧ (((w.alloc o0).alloc o1).alloc o2).heap[w.heap.size]? = some o0 ∧ (((w.alloc o0).alloc o1).alloc o2).heap[w.heap.size + 1]? = some o1 ∧
    (((w.alloc o0).alloc o1).alloc o2).heap[w.heap.size + 1 + 1]? = some o2 ∧ Below w.heap.size w (((w.alloc o0).alloc o1).alloc o2) := by
  have h0 := World.alloc_heap_new w o0
  have h1 := World.alloc_heap_new (w.alloc o0) o1
  have h2 := World.alloc_heap_new ((w.alloc o0).alloc o1) o2
  simp only [World.size_alloc] at h1 h2
  refine ⟨by simp only [World.size_alloc], ?_, ?_, h2, ((((Below.refl _ w).alloc (Nat.le_refl _) _).alloc (by simp only [World.size_alloc]; omega) _).alloc (by simp only [World.size_alloc]; omega) _)⟩
  · rw [Below.heap_alloc _ _ _ (by simp only [World.size_alloc]; omega), Below.heap_alloc _ _ _ (by simp only [World.size_alloc]; omega), h0]
  · rw [Below.heap_alloc _ _ _ (by simp only [World.size_alloc]; omega), h1]
/-- The top level's only hash. -/
theorem top_root {ls : List L} {k : Nat} (h0 : 0 < ls.length) (h : (lvl nd k ls).length ≤ 1) : (lvl nd k ls).length = 1 ∧ (lvl nd k ls).getD 0 [] = MerN.root nd (sum []) ls := by
  have h1 := lvl_length nd k ls h0 (lvl_few k ls h)
  refine ⟨h1, ?_⟩
  rw [← root_any nd (sum []) (lvl_few k ls h)]
  match hl : lvl nd k ls, h1 with
  | [x], _ => rfl
theorem root_no (a : Option Addr) (n c : Nat) (ls : List L) (w : World) (h : Strs w w.heap.size a n ls) (hn : n ≤ 100000) (hl : ∀ l ∈ ls, l.length ≤ 9223372036854775807) (hno : all32 ls = false) :
    Calls Tryz.prog 74 #[sv, .slice a n c] w fun e w' => e = .returned (.tuple #[str [], .int .i64 2]) ∧ w = w' := by
  have HH := Lib.hid (areHashes a n c ls w h (by omega) hl)
  rw [hno] at HH
  clear h hl hno
  go_enter Tryz.func74, Tryz.ntmps74
  go_wp2_with (go_at_call 90; refine HH.out.mono ?_; rintro e w' ⟨rfl, rfl⟩)
  go_ret2
  exact ⟨rfl, rfl⟩
theorem root_nil (a : Option Addr) (c : Nat) (w : World) (hr : Rds w) :
    Calls Tryz.prog 74 #[sv, .slice a 0 c] w fun e w' => e = .returned (.tuple #[str (sum []), .int .i64 0]) ∧ Below w.heap.size w w' := by
  have HH := Lib.hid (areHashes a 0 c [] w ⟨rfl, fun h => absurd h (by omega)⟩ (by omega) (fun l hl => by simp at hl))
  rw [show all32 [] = true from rfl] at HH
  have HS := Lib.hid (summed_none w hr)
  clear hr
  go_enter Tryz.func74, Tryz.ntmps74
  go_wp2_with (first
    | (go_at_call 90; refine HH.out.mono ?_; rintro e w' ⟨rfl, rfl⟩)
    | (go_at_call 34; refine HS.out.mono ?_; rintro e w' ⟨rfl, hb⟩; have HB := Lib.hid hb; clear hb))
  go_ret2
  exact ⟨rfl, HB.out⟩
set_option maxRecDepth 100000 in
set_option maxHeartbeats 4000000 in
theorem root_yes (a : Option Addr) (n c : Nat) (ls : List L) (w : World) (h : Strs w w.heap.size a n ls) (hn : n ≤ 100000) (h0 : 0 < n) (hr : Rds w) (hall : all32 ls = true) :
    Calls Tryz.prog 74 #[sv, .slice a n c] w fun e w' => e = .returned (.tuple #[str (MerN.root nd (sum []) ls), .int .i64 0]) ∧ Below w.heap.size w w' := by
  have h32 := all32_at hall
  have HH := Lib.hid (areHashes a n c ls w h (by omega) (fun l hl => by rw [h32 l hl]; omega))
  rw [hall] at HH
  have HR := Lib.hid hr
  have HS := Lib.hid h
  have H32 := Lib.hid h32
  have hnn : (n : Int) ≤ 100000 := by omega
  have hn0 : ((n : Int) == 0) = false := by rw [beq_eq_false_iff_ne]; omega
  have hgn : 0 < w.heap.size := World.block_lt_of_cell? w _ (hr 0 (by omega))
  clear h hr h32 hall
  refine (callsIn_wide (n := 6)).1 ?_
  refine callsIn_of_wp_marks Tryz.func74 rfl trivial ?_ rfl
  simp only [Tryz.ntmps74, List.size_toArray, List.length_cons, List.length_nil, Nat.reduceAdd, Nat.reduceSub, Array.replicate_succ, Array.replicate_zero, List.push_toArray, List.append_toArray, List.nil_append, List.cons_append]
  gi_wp2_with (first
    | (refine ⟨trivial, ?_⟩; gi_at_call 90; refine (callsIn_wide.2 HH.out).mono ?_; rintro e w' ⟨rfl, rfl⟩)
    | (refine ⟨trivial, ?_⟩; gi_at_call 91; refine (callsIn_wide.2 (levels_in _ _ _ _)).mono ?_; rintro e w' ⟨rfl, rfl⟩))
  obtain ⟨hsz, hX0, hX1, hX2, hB⟩ := three w (.cells #[.slice none 0 0] 42) (.cells #[sv] 125) (.cells #[.slice a n c] 42)
  obtain ⟨W0, hW0⟩ : ∃ W0, ((w.alloc (.cells #[.slice none 0 0] 42)).alloc (.cells #[sv] 125)).alloc (.cells #[.slice a n c] 42) = W0 := ⟨_, rfl⟩
  rw [hW0] at hsz hX0 hX1 hX2 hB ⊢
  clear hW0
  obtain ⟨RO, hRO⟩ : ∃ RO : Nat → Prop, RO = fun b => b < W0.heap.size ∧ b ≠ w.heap.size := ⟨_, rfl⟩
  have hROl : ∀ b, b < w.heap.size → RO b := fun b hb => by rw [hRO]; exact ⟨by omega, by omega⟩
  have hROw : ∀ b, RO b → b < W0.heap.size := fun b hb => by rw [hRO] at hb; exact hb.1
  have hROx : ¬ RO w.heap.size := by rw [hRO]; exact fun e => e.2 rfl
  have hln : ls.length = n := HS.out.1
  have hseq : MerG.Seq true Fence.wide 5 Tryz.prog 113 #[.pointer (some ⟨w.heap.size + 1 + 1, 0, none⟩), .pointer (some ⟨w.heap.size + 1, 0, none⟩)] encs (MerL.Told ls) (All ls) (fun _ => True) RO W0 := by
    subst hln
    exact levels1 5 (by omega) ls hn H32.out a c w.heap.size (w.heap.size + 1 + 1) (w.heap.size + 1) RO hROl (by rw [hRO]; exact ⟨by omega, by omega⟩) (by rw [hRO]; exact ⟨by omega, by omega⟩) W0 (HS.out.below hB) (HR.out.step hB) hgn (blk_cell hX2 rfl) (blk_cell hX1 rfl)
  have h00 : Rt w w.heap.size ls Non 0 W0 := ⟨⟨fun b h => h.elim, hB⟩, none, 0, 0, ⟨fun h => h, hX0⟩, fun h => absurd h (by omega)⟩
  have HLn := Lib.hid hln
  clear hRO hln hX0 hX1 hX2
  refine range rfl (show 1 ≤ 6 by omega) (gf := 113) (lb := #[.pointer (some ⟨w.heap.size + 1 + 1, 0, none⟩), .pointer (some ⟨w.heap.size + 1, 0, none⟩)]) rfl trivial (enters_of Tryz.func113 (by kernel_rfl) rfl)
    hseq hROw (fun _ => rfl)
    (fun T pre W' => Rt w w.heap.size ls T pre.length W') (fun _ _ _ _ => False)
    (fun s T T' A B h ht hs => h.turns ht hs) (fun _ => abide_none) h00
    (fun T s W' => Rt w w.heap.size ls T s.1.length W' ∧ RowK (fun b => T b ∨ RO b) W' s.2.1.1 s.2.1.2.1 s.2.1.2.2.2 ∧ s.2.1.2.2.2 = lvl nd s.1.length ls ∧
      s.2.2 = { tmps := #[sv, .slice a n c, undef, undef, .string ⟨#[]⟩, .int .i64 0, .pointer (some ⟨w.heap.size, 0, none⟩), .slice s.2.1.1 s.2.1.2.1 s.2.1.2.2.1, .slice a n c, .bool true, .bool false, .slice a n c, .int .i64 (n : Int), .bool false, undef, undef, sv, .slice a n c, .func (.func 113) #[] #[.pointer (some ⟨w.heap.size + 1 + 1, 0, none⟩), .pointer (some ⟨w.heap.size + 1, 0, none⟩)], .slice s.2.1.1 s.2.1.2.1 s.2.1.2.2.1, undef, undef, undef, undef], defers := [] })
    (fun T s W' l' r r' ⟨hs, hr, h2⟩ hl ho => ⟨hs.turns (Turns.putObj hl _) (Stays.putObj ho rfl _), hr.putObj ho rfl _, h2⟩) ?assign ?body ?done ?stop
  case assign =>
    rintro l' T pre x W' K hI ⟨K0, hK0, hg, hgl⟩ hK
    simp only [encs]
    gi_wp2
    exact hK _ _ (Kept.refl _ _) ⟨hI, hg.mono hK0, hgl, rfl⟩
  case body =>
    rintro l' T pre ⟨a', n', c', lv⟩ a'' W' ⟨hS, hRow, hlv, ha⟩
    dsimp only at hS hRow hlv ha
    subst ha
    obtain ⟨a1, n1, c1, hbx, _⟩ := hS.top
    have hc1 := hbx.2.cell
    have hf1 := hbx.2.frozen
    have HLv := Lib.hid hlv
    have HSf := Lib.hid hS.safe
    have HRow := Lib.hid hRow
    have HX := Lib.hid hbx
    clear hS hRow hlv hbx
    gi_wp2
    have hk : Kept (fun b => T b ∨ RO b) W' (W'.setCell ⟨w.heap.size, 0, none⟩ (.slice a' n' c')) := (Kept.refl _ _).setCell (p := ⟨w.heap.size, 0, none⟩) (fun e => e.elim HX.out.1 hROx) _
    refine ⟨hk, ⟨⟨HSf.out.1, HSf.out.2.setCell (p := ⟨w.heap.size, 0, none⟩) (Nat.le_refl _) _⟩, a', n', c', ⟨HX.out.1, HX.out.2.set _⟩, fun _ => ?_⟩⟩
    rw [List.length_append, List.length_singleton, Nat.add_sub_cancel, ← HLv.out]
    exact (HRow.out.kept hk (fun _ h => h)).strs
  case done =>
    rintro D T ys W' hD hT ⟨m, hm, hfew⟩ hS hK
    obtain ⟨a1, n1, c1, hbx, hst⟩ := hS.top
    have hst' := hst (by omega)
    rw [hm, Nat.add_sub_cancel] at hst'
    obtain ⟨hl1, hr1⟩ := top_root (by rw [HLn.out]; exact h0) hfew
    obtain rfl : n1 = 1 := by rw [← hst'.1, hl1]
    obtain ⟨q, off, rfl, _, hc⟩ := hst'.2 (by omega)
    have hc0 := hc 0 (by omega)
    rw [hr1] at hc0
    simp only [Nat.add_zero] at hc0
    have hc1 := hbx.2.cell
    have HB2 := Lib.hid hS.safe.2
    have HTD := Lib.hid (hS.safe.1 D hT)
    clear hst hst' hc hbx hS hl1 hr1 hm hfew
    obtain ⟨rt, hrt⟩ : ∃ rt, MerN.root nd (sum []) ls = rt := ⟨_, rfl⟩
    rw [hrt] at hc0
    have HRt := Lib.hid hrt
    clear hrt
    gi_wp2
    refine ⟨by simp, .inl ⟨_, _, rfl, run_takeDeferred hK, ?_⟩⟩
    refine ⟨.tuple #[str rt, .int .i64 0], by simp [results, Tryz.f74, go_sem], by rw [HRt.out], HB2.out.trans ⟨rfl, rfl, rfl, by simp, fun b hb => World.putObj_heap_other (by have := HTD.out; omega)⟩⟩
  case stop =>
    rintro D j T pre W' _ _ _ h _
    exact h.elim
/-- THE CONTRACT of root. -/
theorem root_any' (a : Option Addr) (n c : Nat) (ls : List L) (w : World) (h : Strs w w.heap.size a n ls) (hn : n ≤ 100000) (hl : ∀ l ∈ ls, l.length ≤ 9223372036854775807) (hr : Rds w) :
    Calls Tryz.prog 74 #[sv, .slice a n c] w fun e w' => e = .returned (.tuple #[str (rootR ls).1, .int .i64 ((rootR ls).2 : Nat)]) ∧ Below w.heap.size w w' := by
  unfold rootR
  cases hall : all32 ls with
  | false => exact (root_no a n c ls w h hn hl hall).mono fun e w' ⟨h1, h2⟩ => ⟨h1, h2 ▸ Below.refl _ _⟩
  | true =>
    by_cases h0 : 0 < n
    · exact root_yes a n c ls w h hn h0 hr hall
    · obtain rfl : n = 0 := by omega
      obtain rfl : ls = [] := List.eq_nil_of_length_eq_zero h.1
      exact root_nil a c w hr
theorem Root (a : Option Addr) (n c : Nat) (ls : List L) (w : World) (h : Strs w w.heap.size a n ls) (hn : n ≤ 100000) (hl : ∀ l ∈ ls, l.length ≤ 9223372036854775807) (hr : Rds w) :
    Calls Tryz.prog 52 #[.slice a n c] w fun e w' => e = .returned (.tuple #[str (rootR ls).1, .int .i64 ((rootR ls).2 : Nat)]) ∧ Below w.heap.size w w' := by
  have HH := Lib.hid (root_any' a n c ls w h hn hl hr)
  clear h hl hr
  generalize rootR ls = r at *
  go_enter Tryz.func52, Tryz.ntmps52
  go_wp2_with (go_at_call 74; refine HH.out.mono ?_; rintro e w' ⟨rfl, hb⟩; have HB := Lib.hid hb; clear hb)
  go_ret2
  exact ⟨rfl, HB.out⟩
/-- An own row of texts reads so. -/
theorem own_strs {w : World} {base n c : Nat} {a : Option Addr} {e : TypeId} {ls : List L} (h : w.ownsRow base e 1 (.slice a n c) n (ls.map str)) : Strs w w.heap.size a n ls := by
  have hl : ls.length = n := by have := h.1; simpa using this
  rcases h.2 with ⟨h0, h1⟩ | ⟨g, cap, cur, h1, _⟩
  · subst h1
    exact ⟨hl, fun hn => absurd hn (by omega)⟩
  · cases h1
    refine ⟨hl, fun hn => ⟨g, 0, rfl, (h.lt g rfl).2, fun i hi => ?_⟩⟩
    have := h.cells (g := g) rfl i (str (ls.getD i [])) (by simp [List.getD, show i < ls.length by omega])
    rwa [add_off] at this
/-- What path answers, where it is OK. -/
def PathOk (w : World) (ps : List L) (e : Ending) (w' : World) : Prop :=
  ∃ a c, e = .returned (.tuple #[.slice a ps.length c, .int .i64 0]) ∧ Strs w' w'.heap.size a ps.length ps ∧ Below w.heap.size w w'
theorem path_no (a : Option Addr) (n c : Nat) (ls : List L) (i : Int) (w : World) (h : Strs w w.heap.size a n ls) (hn : n ≤ 100000) (hl : ∀ l ∈ ls, l.length ≤ 9223372036854775807) (hno : (all32 ls && decide (0 ≤ i ∧ i < (n : Int))) = false) :
    Calls Tryz.prog 75 #[sv, .slice a n c, .int .i64 i] w fun e w' => e = .returned (.tuple #[.slice none 0 0, .int .i64 2]) ∧ w = w' := by
  have HH := Lib.hid (areHashes a n c ls w h (by omega) hl)
  have HI := Lib.hid (fun W => isOf (n : Int) i W)
  clear h hl
  generalize decide (0 ≤ i ∧ i < (n : Int)) = b at *
  generalize all32 ls = d at *
  cases d
  · go_enter Tryz.func75, Tryz.ntmps75
    go_wp2_with (first | (go_at_call 90; refine HH.out.mono ?_; rintro e w' ⟨rfl, rfl⟩))
    go_ret2
    exact ⟨rfl, rfl⟩
  · obtain rfl : b = false := by simpa using hno
    clear hno
    go_enter Tryz.func75, Tryz.ntmps75
    go_wp2_with (first | (go_at_call 90; refine HH.out.mono ?_; rintro e w' ⟨rfl, rfl⟩) | (go_at_call 92; refine (HI.out _).mono ?_; rintro e w' ⟨rfl, rfl⟩))
    go_ret2
    exact ⟨rfl, rfl⟩
theorem collected (a : Option Addr) (c : Nat) (ls : List L) (i : Nat) (w : World) (h : Strs w w.heap.size a ls.length ls) (hn : ls.length ≤ 100000) (hi : i < ls.length) (hr : Rds w) (hall : all32 ls = true) :
    Calls Tryz.prog 93 #[.func (.func 115) #[] #[.pointer (some ⟨w.heap.size + 2, 0, none⟩), .pointer (some ⟨w.heap.size, 0, none⟩), .pointer (some ⟨w.heap.size + 1, 0, none⟩)]] (((w.alloc (.cells #[sv] 125)).alloc (.cells #[.slice a ls.length c] 42)).alloc (.cells #[.int .i64 (i : Int)] 3))
      fun e w' => ∃ a' c', e = .returned (.slice a' (pathN nd ls i).length c') ∧ Strs w' w'.heap.size a' (pathN nd ls i).length (pathN nd ls i) ∧ Below w.heap.size w w' := by
  obtain ⟨hsz, hX0, hX1, hX2, hB⟩ := three w (.cells #[sv] 125) (.cells #[.slice a ls.length c] 42) (.cells #[.int .i64 (i : Int)] 3)
  obtain ⟨W0, hW0⟩ : ∃ W0, ((w.alloc (.cells #[sv] 125)).alloc (.cells #[.slice a ls.length c] 42)).alloc (.cells #[.int .i64 (i : Int)] 3) = W0 := ⟨_, rfl⟩
  rw [hW0] at hsz hX0 hX1 hX2 hB ⊢
  have hgn : 0 < w.heap.size := World.block_lt_of_cell? w _ (hr 0 (by omega))
  have hpl : (pathN nd ls i).length ≤ 1000000 := by rw [pathN_length nd hi]; exact Nat.le_trans (long_le _ _ _) (by omega)
  have hs := beside1 ls hn (all32_at hall) i hi a c w.heap.size (w.heap.size + 2) w.heap.size (w.heap.size + 1) (fun b => b < W0.heap.size) (fun b hb => by omega) (by omega) (by omega) (by omega) W0 (fun b hb => hb) (h.below hB) (hr.step hB) hgn (blk_cell hX2 rfl) (blk_cell hX0 rfl) (blk_cell hX1 rfl)
  refine (collectS 115 _ (enters_of Tryz.func115 (by kernel_rfl) rfl) (pathN nd ls i) hpl _ W0 (fun b hb => hb) hs).mono ?_
  rintro e w' ⟨a', c', rfl, ho, hb⟩
  exact ⟨a', c', rfl, own_strs ho, hB.trans (hb.mono hB.size)⟩
theorem path_yes (a : Option Addr) (c : Nat) (ls : List L) (i : Nat) (w : World) (h : Strs w w.heap.size a ls.length ls) (hn : ls.length ≤ 100000) (hi : i < ls.length) (hr : Rds w) (hall : all32 ls = true) :
    Calls Tryz.prog 75 #[sv, .slice a ls.length c, .int .i64 (i : Int)] w (PathOk w (pathN nd ls i)) := by
  have HH := Lib.hid (areHashes a ls.length c ls w h (by omega) (fun l hl => by rw [all32_at hall l hl]; omega))
  have HI := Lib.hid (fun W => isOf (ls.length : Int) (i : Int) W)
  have HC := Lib.hid (collected a c ls i w h hn hi hr hall)
  rw [hall] at HH
  rw [decide_eq_true (show 0 ≤ (i : Int) ∧ (i : Int) < (ls.length : Int) by omega)] at HI
  clear h hr hall hi
  go_enter Tryz.func75, Tryz.ntmps75
  go_wp2_with (first
    | (go_at_call 90; refine HH.out.mono ?_; rintro e w' ⟨rfl, rfl⟩)
    | (go_at_call 92; refine (HI.out _).mono ?_; rintro e w' ⟨rfl, rfl⟩)
    | (go_at_call 94; refine (beside_in _ _ _ _ _).mono ?_; rintro e w' ⟨rfl, rfl⟩)
    | (go_at_call 93; refine HC.out.mono ?_; rintro e w' ⟨a', c', rfl, hs, hb⟩; have HS := Lib.hid hs; have HB := Lib.hid hb; clear hs hb))
  go_ret2
  exact ⟨_, _, rfl, HS.out, HB.out⟩
/-- What path answers. -/
def PathAns (w : World) (ls : List L) (i : Int) (e : Ending) (w' : World) : Prop :=
  if (all32 ls && decide (0 ≤ i ∧ i < (ls.length : Int))) = true then PathOk w (pathN nd ls i.toNat) e w' else e = .returned (.tuple #[.slice none 0 0, .int .i64 2]) ∧ w = w'
/-- THE CONTRACT of path. -/
theorem path_any' (a : Option Addr) (c : Nat) (ls : List L) (i : Int) (w : World) (h : Strs w w.heap.size a ls.length ls) (hn : ls.length ≤ 100000) (hl : ∀ l ∈ ls, l.length ≤ 9223372036854775807) (hr : Rds w) :
    Calls Tryz.prog 75 #[sv, .slice a ls.length c, .int .i64 i] w (PathAns w ls i) := by
  unfold PathAns
  by_cases hc : (all32 ls && decide (0 ≤ i ∧ i < (ls.length : Int))) = true
  · simp only [if_pos hc]
    rw [Bool.and_eq_true, decide_eq_true_eq] at hc
    obtain ⟨h1, h2, h3⟩ := hc
    obtain ⟨k, rfl⟩ : ∃ k : Nat, i = (k : Int) := ⟨i.toNat, by omega⟩
    rw [Int.toNat_natCast]
    exact path_yes a c ls k w h hn (by omega) hr h1
  · simp only [if_neg hc]
    exact path_no a _ c ls i w h hn hl (by simpa using hc)
theorem Path (a : Option Addr) (c : Nat) (ls : List L) (i : Int) (w : World) (h : Strs w w.heap.size a ls.length ls) (hn : ls.length ≤ 100000) (hl : ∀ l ∈ ls, l.length ≤ 9223372036854775807) (hr : Rds w) :
    Calls Tryz.prog 53 #[.slice a ls.length c, .int .i64 i] w (PathAns w ls i) := by
  have HH := Lib.hid (path_any' a c ls i w h hn hl hr)
  clear h hl hr
  unfold PathAns at *
  by_cases hc : (all32 ls && decide (0 ≤ i ∧ i < (ls.length : Int))) = true
  · simp only [if_pos hc] at HH ⊢
    clear hc
    go_enter Tryz.func53, Tryz.ntmps53
    go_wp2_with (go_at_call 75; refine HH.out.mono ?_; rintro e w' ⟨a', c', rfl, hs, hb⟩; have HS := Lib.hid hs; have HB := Lib.hid hb; clear hs hb)
    go_ret2
    exact ⟨_, _, rfl, HS.out, HB.out⟩
  · simp only [if_neg hc] at HH ⊢
    clear hc
    go_enter Tryz.func53, Tryz.ntmps53
    go_wp2_with (go_at_call 75; refine HH.out.mono ?_; rintro e w' ⟨rfl, rfl⟩)
    go_ret2
    exact ⟨rfl, rfl⟩
end Go.Proofs.YtdkcebaehdkphaaGreatDoor.MerR
