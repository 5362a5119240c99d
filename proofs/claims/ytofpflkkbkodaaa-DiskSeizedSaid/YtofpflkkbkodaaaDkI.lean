/- slices.Backward over a row of writes; the program's disk: shows, Read: the walks of their texts. No conditions but those that each lemma names. -/
import Derived.RangeFuncNested
import Derived.RangeFuncBound
import Derived.RangeFuncCalls
import Derived.RangeFuncLeaves
import Derived.Shelf.Abstract
import Derived.Shelf.RegionOpen
import Derived.WalkKit
import Derived.OwnWalkIn
import Derived.TacticsInMore
import Derived.LoopNIn
import Derived.LoopIn
import Derived.Test.YtofpflkkbkodaaaDkF
namespace Go.Proofs.Ytofpflkkbkodaaa.DkI
open Go.RowKit Go.Shelf
open DkN DkM DkQ
attribute [local go_sem] Oper.semAt_some
/-- What is handed over: the number, and the write. -/
abbrev It := Nat × (Nat × ByteArray)
def encs (x : It) : Array Value := #[.int .i64 (x.1 : Int), .agg #[.int .i64 (x.2.1 : Int), .string x.2.2]]
/-- What has come in k rounds: from the last one on. -/
def upto (l : List (Nat × ByteArray)) (k : Nat) : List It := (List.range k).map fun j => (l.length - 1 - j, l.getD (l.length - 1 - j) (0, ByteArray.empty))
theorem upto_succ (l : List (Nat × ByteArray)) (k : Nat) : upto l (k + 1) = upto l k ++ [(l.length - 1 - k, l.getD (l.length - 1 - k) (0, ByteArray.empty))] := by simp [upto, List.range_succ]
theorem upto_length (l : List (Nat × ByteArray)) (k : Nat) : (upto l k).length = k := by simp [upto]
theorem upto_take (l : List (Nat × ByteArray)) (k : Nat) (h : k ≤ l.length) : (upto l k).map (·.2) = l.reverse.take k := by
  apply List.ext_getElem
  · simp [upto]; omega
  · intro i h1 h2
    have hi : i < k := by simpa [upto] using h1
    simp [upto, List.getElem_reverse, show l.length - 1 - i < l.length from by omega]
theorem upto_next (l : List (Nat × ByteArray)) (m : Nat) (h : m < l.length) : upto l (l.length - m) = upto l (l.length - (m + 1)) ++ [(m, l[m])] := by
  rw [show l.length - m = (l.length - (m + 1)) + 1 from by omega, upto_succ, show l.length - 1 - (l.length - (m + 1)) = m from by omega]
  simp [List.getD, h]
set_option maxRecDepth 100000 in
set_option maxHeartbeats 2000000 in
theorem back1_in (F : Fence) (n : Nat) (h7 : F.fn 72) (hro : F.round = none) (hn : 1 ≤ n) (l Bs n₀ : Nat) (a : Option Addr) (cap : Nat) (ca : List (Nat × ByteArray)) (hreach : ca.length ≤ 4096) (J Jx : List It → World → Prop)
    (hY : ∀ pre x W, J pre W → pre.length < ca.length → YieldAt F (n - 1) Try.prog l (encs x) W fun e W' =>
      (e = .returned (.bool true) ∧ J (pre ++ [x]) W' ∧ Below n₀ W W') ∨ (e = .returned (.bool false) ∧ Jx (pre ++ [x]) W'))
    (W : World) (hBs : W.cell? ⟨Bs, 0, none⟩ = some (.slice a ca.length cap)) (hB0 : Bs < n₀) (hc : ∀ k (_ : k < ca.length), ∃ g o, a = some ⟨g, o, none⟩ ∧ g < n₀ ∧ W.cell? ⟨g, o + k * 2, none⟩ = some (.int .i64 ca[k].1) ∧ W.cell? ⟨g, o + k * 2 + 1, none⟩ = some (.string ca[k].2)) (h0 : J [] W) :
    CallsIn F n Try.prog 72 #[.func (.yield l) #[] #[], .pointer (some ⟨Bs, 0, none⟩)] W fun e W' => (∃ v, e = .returned v) ∧
      ((∃ ys, ys.map (·.2) = ca.reverse ∧ J ys W') ∨ (∃ pre, pre.map (·.2) <+: ca.reverse ∧ Jx pre W')) := by
  obtain ⟨N, hN⟩ : ∃ N, ca.length = N := ⟨_, rfl⟩
  rw [hN] at hBs hreach
  have HN := Lib.hid hN
  have HC := Lib.hid hc
  clear hN hc
  refine callsIn_of_wp Try.func72 rfl h7 ?_ hro
  simp only [Try.ntmps72, List.size_toArray, List.length_cons, List.length_nil, Nat.reduceAdd, Nat.reduceSub, Array.replicate_succ, Array.replicate_zero, List.push_toArray, List.append_toArray, List.nil_append, List.cons_append]
  gi_wp2
  gi_loopw [3] (fun i wr => ∃ m : Nat, m ≤ N ∧ i = .int .i64 ((m : Int) - 1) ∧ J (upto ca (ca.length - m)) wr ∧ Below n₀ W wr)
    (fun i _ => (intOf i + 1).toNat)
  case atStart => exact ⟨N, Nat.le_refl _, rfl, by rw [HN.out, Nat.sub_self]; exact h0, Below.refl _ _⟩
  case round =>
    obtain ⟨m, hm, rfl, hJs, hnx⟩ := hrel
    have HJ := Lib.hid hJs
    have HB := Lib.hid hnx
    have hBs' := (hnx.cell (p := ⟨Bs, 0, none⟩) hB0).trans hBs
    clear hJs hnx
    match m, hm, HJ with
    | 0, hm, HJ =>
      rw [show ((0 : Nat) : Int) - 1 = -1 from rfl]
      gi_wp2
      go_end0
      exact ⟨⟨_, rfl⟩, .inl ⟨_, by rw [upto_take _ _ (Nat.sub_le _ _), Nat.sub_zero, List.take_of_length_le (by simp)], HJ.out⟩⟩
    | m + 1, hm, HJ =>
      rw [show ((m + 1 : Nat) : Int) - 1 = (m : Int) from by omega]
      have hmn : m < ca.length := by rw [HN.out]; omega
      obtain ⟨g, o, rfl, hg, q0, q1⟩ := HC.out m hmn
      have HX := Lib.hid (upto_next ca m hmn)
      have HU : Hid ((upto ca (ca.length - m)).map (·.2) <+: ca.reverse) := Lib.hid (by rw [upto_take _ _ (Nat.sub_le _ _)]; exact List.take_prefix _ _)
      have r0 := (HB.out.cell (p := ⟨g, o + m * 2, none⟩) hg).trans q0
      have r1 := (HB.out.cell (p := ⟨g, o + m * 2 + 1, none⟩) hg).trans q1
      obtain ⟨fn, tmps, assign, body, hy, hR⟩ := hY _ (m, ca[m]) wr HJ.out (by rw [upto_length]; omega)
      rw [← HX.out] at hR
      simp only [encs] at hy hR
      have hmN : (m : Int) < (N : Int) := by omega
      have hm4 : m < 4096 := by omega
      clear q0 q1 hBs
      generalize ca[m].1 = j at *
      generalize ca[m].2 = s at *
      gi_wp2
      refine hR.mono ?_
      rintro e W3 (⟨rfl, hJ3, hk3⟩ | ⟨rfl, hJx3⟩)
      · gi_wp2
        go_roundw
        case rel => exact ⟨m, by omega, rfl, hJ3, HB.out.trans hk3⟩
        case measure => simp [intOf]
      · gi_wp2
        refine bodyPost_ret (results_none rfl _ _ _) rfl ?_
        exact ⟨⟨_, rfl⟩, .inr ⟨_, HU.out, hJx3⟩⟩
/-- The row's cells, below n₀. -/
def Cells (n₀ : Nat) (W : World) (a : Option Addr) (ca : List (Nat × ByteArray)) : Prop :=
  ∀ k (_ : k < ca.length), ∃ g o, a = some ⟨g, o, none⟩ ∧ g < n₀ ∧ W.cell? ⟨g, o + k * 2, none⟩ = some (.int .i64 ca[k].1) ∧ W.cell? ⟨g, o + k * 2 + 1, none⟩ = some (.string ca[k].2)
theorem Cells.below {n₀ : Nat} {A B : World} {a : Option Addr} {ca : List (Nat × ByteArray)} (h : Cells n₀ A a ca) (hb : Below n₀ A B) : Cells n₀ B a ca := fun k hk => by
  obtain ⟨g, o, e, hg, h0, h1⟩ := h k hk
  exact ⟨g, o, e, hg, (hb.cell (p := ⟨g, o + k * 2, none⟩) hg).trans h0, (hb.cell (p := ⟨g, o + k * 2 + 1, none⟩) hg).trans h1⟩
theorem cells_of {w : World} {a : Option Addr} {l : List (Nat × ByteArray)} (h : PutRow w a l) : Cells w.heap.size w a l := fun k hk => by
  obtain ⟨g, o, e, hg, hc⟩ := h (by omega)
  exact ⟨g, o, e, hg, (hc k hk).1, (hc k hk).2⟩
theorem back_stops (F : Fence) (n : Nat) (h7 : F.fn 72) (hro : F.round = none) (hn : 1 ≤ n) (Bs n₀ : Nat) (a : Option Addr) (cap : Nat) (ca : List (Nat × ByteArray)) (hreach : ca.length ≤ 4096) (w : World) (hBs : Bs < n₀) (hn₀ : n₀ ≤ w.heap.size)
    (hc : w.cell? ⟨Bs, 0, none⟩ = some (.slice a ca.length cap)) (hI : Cells n₀ w a ca) :
    SeqStopsK F n Try.prog 72 #[.pointer (some ⟨Bs, 0, none⟩)] encs (Below n₀) (fun ys => ys.map (·.2) = ca.reverse) (fun pre => pre.map (·.2) <+: ca.reverse) ca.length w := fun l J Jx W hW _ _ hY h0 => by
  have hW' := hW.mono hn₀
  exact back1_in F n h7 hro hn l Bs n₀ a cap ca hreach J Jx hY W ((hW'.cell (p := ⟨Bs, 0, none⟩) hBs).trans hc) hBs (hI.below hW') h0
set_option maxHeartbeats 1000000 in
theorem back_in (F : Fence) (n : Nat) (h5 : F.fn 66) (hro : F.round = none) (a : Option Addr) (len cap : Nat) (w : World) :
    CallsIn F n Try.prog 66 #[.slice a len cap] w fun e w' => e = .returned (.func (.func 72) #[] #[.pointer (some ⟨w.heap.size, 0, none⟩)]) ∧ w' = w.alloc (.cells #[.slice a len cap] 37) := by
  refine callsIn_of_wp Try.func66 rfl h5 ?_ hro
  simp only [Try.ntmps66, List.size_toArray, List.length_cons, List.length_nil, Nat.reduceAdd, Nat.reduceSub, Array.replicate_succ, Array.replicate_zero, List.push_toArray, List.append_toArray, List.nil_append, List.cons_append]
  gi_wp2
  go_ret
  exact ⟨rfl, rfl⟩
theorem seen_append (i : Nat) (a b : List (Nat × ByteArray)) (s : ByteArray) : DkN.seen i (a ++ b) s = DkN.seen i b (DkN.seen i a s) := by
  induction a generalizing s with
  | nil => rfl
  | cons x a ih => exact ih _
theorem seen_none (i : Nat) (l : List (Nat × ByteArray)) (s : ByteArray) (h : ∀ x ∈ l, x.1 ≠ i) : DkN.seen i l s = s := by
  induction l generalizing s with
  | nil => rfl
  | cons x l ih =>
    rw [DkN.seen, if_neg (h x (List.mem_cons_self ..))]
    exact ih s fun y hy => h y (List.mem_cons_of_mem _ hy)
theorem seen_hit (i : Nat) (l q : List (Nat × ByteArray)) (x : Nat × ByteArray) (s : ByteArray) (h : q ++ [x] <+: l.reverse) (hq : ∀ y ∈ q, y.1 ≠ i) (hx : x.1 = i) : DkN.seen i l s = x.2 := by
  obtain ⟨r, hr⟩ := h
  have : l = r.reverse ++ ([x] ++ q.reverse) := by
    have := congrArg List.reverse hr
    simpa using this.symm
  rw [this, seen_append, seen_append, DkN.seen, if_pos hx, DkN.seen]
  exact seen_none i _ _ fun y hy => hq y (List.mem_reverse.1 hy)
/-- What stands in a block that a round lays. -/
theorem block_own {β : Type} (B : Nat) (cs : Array Value) (t : TypeId) : Own (fun (_ : β) W => W.heap[B]? = some (.cells cs t (0, 0))) := fun s X Y row hs hg hrow =>
  (hg.block B (Array.getElem?_eq_some_iff.1 hs).1 (fun e => by obtain ⟨o, ho, hc⟩ := hrow B e.symm; rw [show X.heap[B]? = _ from hs] at ho; cases ho; cases hc)).trans hs
set_option maxRecDepth 100000 in
set_option maxHeartbeats 4000000 in
theorem shows_k {w : World} {b : Nat} {bv cv : Value} {D : Dk} (h : Has false w b bv cv D) (k : Nat) (hk : k < D.bl.length) :
    Calls Try.prog 54 #[.pointer (some ⟨b, 0, none⟩), .int .i64 k] w fun e w' => e = .returned (.string (D.shown k)) ∧ Below w.heap.size w w' := by
  have HH := Lib.hid h
  obtain ⟨a, c, rfl⟩ := h.cv_eq
  obtain ⟨g, cg, rfl⟩ := h.bv_eq
  have c0 := h.c0
  have c1 := h.c1
  have cb := h.block k hk
  have hfew := h.ok.few
  have hcells := cells_of h.puts
  have hlt := h.lt
  have hgl : g < w.heap.size := h.foot_lt g (.inr (.inl rfl))
  clear h
  refine (callsIn_wide (n := 6)).1 ?_
  refine callsIn_of_wp_marks Try.func54 rfl trivial ?_ rfl
  simp only [Try.ntmps54, List.size_toArray, List.length_cons, List.length_nil, Nat.reduceAdd, Nat.reduceSub, Array.replicate_succ, Array.replicate_zero, List.push_toArray, List.append_toArray, List.nil_append, List.cons_append]
  gi_wp2_with (refine ⟨trivial, ?_⟩; gi_at_call 66; refine (back_in _ _ trivial rfl _ _ _ _).mono ?_; rintro e w' ⟨rfl, rfl⟩)
  have x0 : (((w.alloc (.cells #[.int .i64 (k : Int)] 3)).alloc (.cells #[.string { data := #[] }] 9)).alloc (.cells #[.slice a D.ca.length c] 37)).heap[w.heap.size]? = some (.cells #[.int .i64 (k : Int)] 3 (0, 0)) := alloc3_0 w _ _ _
  have x1 := alloc3_1 w (.cells #[.int .i64 (k : Int)] 3) (.cells #[.string { data := #[] }] 9) (.cells #[.slice a D.ca.length c] 37)
  have x2 := alloc3_2 w (.cells #[.int .i64 (k : Int)] 3) (.cells #[.string { data := #[] }] 9) (.cells #[.slice a D.ca.length c] 37)
  have hB0 := below_alloc3 w (.cells #[.int .i64 (k : Int)] 3) (.cells #[.string { data := #[] }] 9) (.cells #[.slice a D.ca.length c] 37)
  have hsz : (((w.alloc (.cells #[.int .i64 (k : Int)] 3)).alloc (.cells #[.string { data := #[] }] 9)).alloc (.cells #[.slice a D.ca.length c] 37)).heap.size = w.heap.size + 3 := by simp
  obtain ⟨W0, hW0⟩ : ∃ W0, ((w.alloc (.cells #[.int .i64 (k : Int)] 3)).alloc (.cells #[.string { data := #[] }] 9)).alloc (.cells #[.slice a D.ca.length c] 37) = W0 := ⟨_, rfl⟩
  rw [hW0] at x0 x1 x2 hB0 hsz ⊢
  clear hW0
  have hc0 : Cells W0.heap.size W0 a D.ca := fun k hk => by
    obtain ⟨g, o, e, hg, h0, h1⟩ := (hcells.below hB0) k hk
    exact ⟨g, o, e, by omega, h0, h1⟩
  refine wpIn_rangeFunc_ownH rfl (by omega) (gf := 72) (lb := #[.pointer (some ⟨w.heap.size + 1 + 1, 0, none⟩)]) rfl trivial (enters_of Try.func72 (by kernel_rfl) rfl)
    (back_stops Fence.wide _ trivial rfl (by omega) (w.heap.size + 1 + 1) W0.heap.size a c D.ca hfew W0 (by omega) (Nat.le_refl _) (blk_cell x2 rfl) hc0) belowK_t (belowK_b (Nat.le_refl _)) (Below.refl _ _) (fun _ => rfl)
    (fun pre W => (∀ y ∈ pre, y.2.1 ≠ k) ∧ Below W0.heap.size W0 W)
    (fun c pre W => (c = .ret ∧ ∃ q x, pre = q ++ [x] ∧ (∀ y ∈ q, y.2.1 ≠ k) ∧ x.2.1 = k ∧ W.cell? ⟨w.heap.size + 1, 0, none⟩ = some (.string x.2.2)) ∧ Below w.heap.size w W)
    (OwnFrom.and (ownFrom_pure _ _) (ownFrom_below (Nat.le_refl _) (Nat.le_refl _)))
    (fun c => OwnFrom.and (Own.from (fun s A B row hs hg hr => by obtain ⟨e, q, x, h1, h2, h3, h4⟩ := hs; exact ⟨e, q, x, h1, h2, h3, cell_kept h4 hg hr⟩) _) (ownFrom_below (Nat.le_refl _) (by omega)))
    ⟨by simp, Below.refl _ _⟩
    (fun x a' W => ∃ Bx, W0.heap.size ≤ Bx ∧ W.heap[Bx]? = some (.cells #[.int .i64 (x.2.1 : Int), .string x.2.2] 76 (0, 0)) ∧ a' = { tmps := #[.pointer (some ⟨b, 0, none⟩), .int .i64 (k : Int), undef, .pointer (some ⟨w.heap.size, 0, none⟩), .pointer (some ⟨w.heap.size + 1, 0, none⟩), undef, .pointer (some ⟨Bx, 0, none⟩), .pointer (some ⟨b, 0, none⟩), .pointer (some ⟨b, 0, none⟩), .pointer (some ⟨b, 1, none⟩), .slice a D.ca.length c, .func (.func 72) #[] #[.pointer (some ⟨w.heap.size + 1 + 1, 0, none⟩)], .int .i64 (x.1 : Int), .agg #[.int .i64 (x.2.1 : Int), .string x.2.2], undef, undef, undef, undef, undef, undef, undef, undef, undef, undef, undef, undef, undef], defers := [] })
    (fun x a' => fun s X Y row hs hg hr => by obtain ⟨Bx, h1, h2, h3⟩ := hs; exact ⟨Bx, h1, (Own.from (block_own Bx _ _) _) () X Y row h2 hg hr, h3⟩) ?assign ?body ?done ?stop
  case assign =>
    rintro l pre x W K ⟨hp, hB⟩ hK
    simp only [encs]
    gi_wp2
    exact hK _ _ ((KeepsOthers.alloc _ _).from _) ((Below.refl _ W).alloc hB.size _) ⟨hp, hB.alloc hB.size _⟩ ⟨W.heap.size, hB.size, heap_alloc_new _ _, rfl⟩
  case body =>
    rintro l pre x a' W hl ⟨r, hr⟩ ⟨hp, hB⟩ ⟨Bx, hBx, bX, rfl⟩ hlt'
    have y0 := blk_cell (i := 0) bX rfl
    have y1 := blk_cell (i := 1) bX rfl
    have z0 : W.cell? ⟨w.heap.size, 0, none⟩ = some (.int .i64 (k : Int)) := (hB.cell (p := ⟨w.heap.size, 0, none⟩) (by simp; omega)).trans (blk_cell x0 rfl)
    have z1 : W.cell? ⟨w.heap.size + 1, 0, none⟩ = some (.string { data := #[] }) := (hB.cell (p := ⟨w.heap.size + 1, 0, none⟩) (by simp; omega)).trans (blk_cell x1 rfl)
    have zf : W.frozen? ⟨w.heap.size + 1, 0, none⟩ = false := (hB.frozen (p := ⟨w.heap.size + 1, 0, none⟩) (by simp; omega)).trans (blk_free x1)
    have HBw := Lib.hid (hB0.trans (hB.mono (by omega)))
    by_cases hx : x.2.1 = k
    · have he : ((x.2.1 : Int) == (k : Int)) = true := by rw [beq_iff_eq]; omega
      gi_wp2
      exact ⟨(KeepsOthers.setCell _ _ _).from _, ⟨rfl, pre, x, rfl, hp, hx, World.cell?_setCell_same' _ _ _ (by rw [z1]; rfl)⟩, HBw.out.setCell (p := ⟨w.heap.size + 1, 0, none⟩) (by simp) _⟩
    · have he : ((x.2.1 : Int) == (k : Int)) = false := by rw [beq_eq_false_iff_ne]; omega
      gi_wp2
      exact ⟨KeepsFrom.refl _ _, Below.refl _ _, (fun y hy => (List.mem_append.1 hy).elim (hp y) (fun e => by rw [List.mem_singleton.1 e]; exact hx)), hB⟩
  case done =>
    rintro Dd ys W hD hys ⟨hp, hB⟩ hK
    have HBw := Lib.hid (hB0.trans (hB.mono (by omega)))
    have y0 : W.cell? ⟨b, 0, none⟩ = some (.slice (some ⟨g, 0, none⟩) D.bl.length cg) := (HBw.out.cell (p := ⟨b, 0, none⟩) hlt).trans c0
    have y1 : W.cell? ⟨g, k, none⟩ = some (.string D.bl[k]) := (HBw.out.cell (p := ⟨g, k, none⟩) hgl).trans cb
    have z0 : W.cell? ⟨w.heap.size, 0, none⟩ = some (.int .i64 (k : Int)) := (hB.cell (p := ⟨w.heap.size, 0, none⟩) (by simp; omega)).trans (blk_cell x0 rfl)
    have z1 : W.cell? ⟨w.heap.size + 1, 0, none⟩ = some (.string { data := #[] }) := (hB.cell (p := ⟨w.heap.size + 1, 0, none⟩) (by simp; omega)).trans (blk_cell x1 rfl)
    have zf : W.frozen? ⟨w.heap.size + 1, 0, none⟩ = false := (hB.frozen (p := ⟨w.heap.size + 1, 0, none⟩) (by simp; omega)).trans (blk_free x1)
    have hv : D.shown (k : Int) = D.bl[k] := by
      unfold Dk.shown
      rw [Int.toNat_natCast, seen_none k D.ca _ (fun x hx => by
        obtain ⟨y, hy, rfl⟩ := List.mem_map.1 (show x ∈ ys.map (·.2) by rw [hys]; exact List.mem_reverse.2 hx)
        exact hp y hy)]
      simp [List.getD, hk]
    have HV := Lib.hid hv
    have hkl : (k : Int) < (D.bl.length : Int) := by omega
    clear hv hys hp c0 c1 cb x0 x1 x2 hc0 hcells
    generalize D.bl[k] = v at *
    generalize D.bl.length = m at *
    gi_wp2
    gi_region
    all_goals
      gi_wp2
      have hK' : ((W.setCell ⟨w.heap.size + 1, 0, none⟩ (.string v)).drew).heap[Dd]? = some (.deferred (some [])) := (KeepsOthers.setCell W ⟨w.heap.size + 1, 0, none⟩ (.string v)).same Dd _ hK rfl
      have hc4 : ((W.setCell ⟨w.heap.size + 1, 0, none⟩ (.string v)).drew).cell? ⟨w.heap.size + 1, 0, none⟩ = some (.string v) := World.cell?_setCell_same' _ _ _ (by rw [z1]; rfl)
      have hBX : Below w.heap.size w ((W.setCell ⟨w.heap.size + 1, 0, none⟩ (.string v)).drew) := (HBw.out.setCell (p := ⟨w.heap.size + 1, 0, none⟩) (by simp) _).drew
      refine ⟨by simp, .inl ⟨_, _, rfl, run_takeDeferred hK', ?_⟩⟩
      have hc5 := cell_kept hc4 (grownBy_putObj' _ Dd (.deferred none)) (fun r e => by cases e; exact ⟨_, hK', rfl⟩)
      refine ⟨.string v, ?_, by rw [HV.out], hBX.trans (belowK_b (w := w) (Nat.le_refl _) _ Dd _ _ (by omega) hK' rfl rfl)⟩
      simp [results, Try.f54, go_sem, hc5]
  case stop =>
    rintro Dd c' pre W hD hpre ⟨⟨rfl, q, x, rfl, hq, hx, hcr⟩, hB⟩ hK
    have hv : D.shown (k : Int) = x.2.2 := by
      unfold Dk.shown
      rw [Int.toNat_natCast]
      exact seen_hit k D.ca (q.map (·.2)) x.2 _ (by simpa using hpre) (fun y hy => by obtain ⟨z, hz, rfl⟩ := List.mem_map.1 hy; exact hq z hz) hx
    gi_wp2
    refine ⟨by simp, .inl ⟨_, _, rfl, run_takeDeferred hK, ?_⟩⟩
    have hc5 := cell_kept hcr (grownBy_putObj' _ Dd (.deferred none)) (fun r e => by cases e; exact ⟨_, hK, rfl⟩)
    refine ⟨.string x.2.2, ?_, by rw [hv], hB.trans (belowK_b (w := w) (Nat.le_refl _) W Dd _ _ (by omega) hK rfl rfl)⟩
    simp [results, Try.f54, go_sem, hc5]
theorem shows {w : World} {b : Nat} {bv cv : Value} {D : Dk} (h : Has false w b bv cv D) (i : Int) (hi : D.has i = true) :
    Calls Try.prog 54 #[.pointer (some ⟨b, 0, none⟩), .int .i64 i] w fun e w' => e = .returned (.string (D.shown i)) ∧ Below w.heap.size w w' := by
  have hi' : 0 ≤ i ∧ i < (D.bl.length : Int) := of_decide_eq_true hi
  obtain ⟨k, rfl⟩ : ∃ k : Nat, i = (k : Int) := ⟨i.toNat, by omega⟩
  exact shows_k h k (by omega)
/-- THE CONTRACT of Read. -/
theorem Read {w : World} {b : Nat} {bv cv : Value} {D : Dk} (h : Has false w b bv cv D) (i : Int) :
    Calls Try.prog 25 #[.pointer (some ⟨b, 0, none⟩), .int .i64 i] w fun e w' => e = .returned (.tuple #[.string (D.rd i).1, .int .i64 ((D.rd i).2 : Nat)]) ∧ Below w.heap.size w w' := by
  have HR := Lib.hid (ready h)
  by_cases hd : D.down = true
  · have e : D.rd i = (ByteArray.empty, 14) := by unfold Dk.rd; rw [if_pos hd]
    rw [e]
    rw [if_pos hd] at HR
    clear h hd e
    go_enter Try.func25, Try.ntmps25
    go_wp2_with (go_at_call 47; refine (HR.out).mono ?_; rintro e w' ⟨rfl, rfl⟩)
    go_ret2
    exact ⟨rfl, Below.refl _ _⟩
  · rw [if_neg hd] at HR
    have HT := Lib.hid (has h i)
    by_cases hi : D.has i = true
    · have HS := Lib.hid (shows h i hi)
      have e : D.rd i = (D.shown i, 0) := by unfold Dk.rd; rw [if_neg hd, if_pos hi]
      rw [e]
      rw [hi] at HT
      clear h hd e hi
      generalize D.shown i = v at *
      go_enter Try.func25, Try.ntmps25
      go_wp2_with (first
        | (go_at_call 47; refine (HR.out).mono ?_; rintro e w' ⟨rfl, rfl⟩)
        | (go_at_call 53; refine (HT.out).mono ?_; rintro e w' ⟨rfl, rfl⟩)
        | (go_at_call 54; refine (HS.out).mono ?_; rintro e w1 ⟨rfl, hb1⟩; have HB := Lib.hid hb1; clear hb1))
      go_ret2
      exact ⟨rfl, HB.out⟩
    · have e : D.rd i = (ByteArray.empty, 4) := by unfold Dk.rd; rw [if_neg hd, if_neg hi]
      rw [e]
      rw [show D.has i = false by simpa using hi] at HT
      clear h hd e hi
      go_enter Try.func25, Try.ntmps25
      go_wp2_with (first
        | (go_at_call 47; refine (HR.out).mono ?_; rintro e w' ⟨rfl, rfl⟩)
        | (go_at_call 53; refine (HT.out).mono ?_; rintro e w' ⟨rfl, rfl⟩))
      go_ret2
      exact ⟨rfl, Below.refl _ _⟩
end Go.Proofs.Ytofpflkkbkodaaa.DkI
