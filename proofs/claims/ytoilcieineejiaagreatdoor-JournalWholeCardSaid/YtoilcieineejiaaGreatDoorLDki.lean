/- DkI DkA DkC DkU: one behind the other. -/
import Derived.RangeFuncNested
import Derived.RangeFuncBound
import Derived.RangeFuncCalls
import Derived.RangeFuncLeaves
import Derived.Shelf.Abstract
import Derived.Shelf.RegionOpen
import Derived.WalkKit
import Derived.OwnWalkIn
import Derived.TacticsInMore
import Derived.LoopNIn
import Derived.LoopIn
import Derived.Test.YtoilcieineejiaaGreatDoorLDkr
import Derived.Test.YtoilcieineejiaaGreatDoorLRef
import Derived.Deep.RegionHeld3
import Derived.Lib.SliceRun
/- slices.Backward over a row of writes; the program's disk: shows, Read: the walks of their texts. No conditions but those that each lemma names. -/
namespace Go.Proofs.YtoilcieineejiaaGreatDoor.DkI
open Go.RowKit Go.Shelf
open DkN DkM DkQ
attribute [local go_sem] Oper.semAt_some
/-- What is handed over: the number, and the write. -/
abbrev It := Nat × (Nat × ByteArray)
def encs (x : It) : Array Value := #[.int .i64 (x.1 : Int), .agg #[.int .i64 (x.2.1 : Int), .string x.2.2]]
/-- What has come in k rounds: from the last one on. -/
def upto (l : List (Nat × ByteArray)) (k : Nat) : List It := (List.range k).map fun j => (l.length - 1 - j, l.getD (l.length - 1 - j) (0, ByteArray.empty))
theorem upto_succ (l : List (Nat × ByteArray)) (k : Nat) : upto l (k + 1) = upto l k ++ [(l.length - 1 - k, l.getD (l.length - 1 - k) (0, ByteArray.empty))] := by simp [upto, List.range_succ]
theorem upto_length (l : List (Nat × ByteArray)) (k : Nat) : (upto l k).length = k := by simp [upto]
theorem upto_take (l : List (Nat × ByteArray)) (k : Nat) (h : k ≤ l.length) : (upto l k).map (·.2) = l.reverse.take k := by
  apply List.ext_getElem
  · simp [upto]; omega
  · intro i h1 h2
    have hi : i < k := by simpa [upto] using h1
    simp [upto, List.getElem_reverse, show l.length - 1 - i < l.length from by omega]
theorem upto_next (l : List (Nat × ByteArray)) (m : Nat) (h : m < l.length) : upto l (l.length - m) = upto l (l.length - (m + 1)) ++ [(m, l[m])] := by
  rw [show l.length - m = (l.length - (m + 1)) + 1 from by omega, upto_succ, show l.length - 1 - (l.length - (m + 1)) = m from by omega]
  simp [List.getD, h]
set_option maxRecDepth 100000 in
set_option maxHeartbeats 2000000 in
theorem back1_in (F : Fence) (n : Nat) (h7 : F.fn 150) (hro : F.round = none) (hn : 1 ≤ n) (l Bs n₀ : Nat) (a : Option Addr) (cap : Nat) (ca : List (Nat × ByteArray)) (hreach : ca.length ≤ 4096) (J Jx : List It → World → Prop)
    (hY : ∀ pre x W, J pre W → pre.length < ca.length → YieldAt F (n - 1) Tryz.prog l (encs x) W fun e W' =>
      (e = .returned (.bool true) ∧ J (pre ++ [x]) W' ∧ Below n₀ W W') ∨ (e = .returned (.bool false) ∧ Jx (pre ++ [x]) W'))
    (W : World) (hBs : W.cell? ⟨Bs, 0, none⟩ = some (.slice a ca.length cap)) (hB0 : Bs < n₀) (hc : ∀ k (_ : k < ca.length), ∃ g o, a = some ⟨g, o, none⟩ ∧ g < n₀ ∧ W.cell? ⟨g, o + k * 2, none⟩ = some (.int .i64 ca[k].1) ∧ W.cell? ⟨g, o + k * 2 + 1, none⟩ = some (.string ca[k].2)) (h0 : J [] W) :
    CallsIn F n Tryz.prog 150 #[.func (.yield l) #[] #[], .pointer (some ⟨Bs, 0, none⟩)] W fun e W' => (∃ v, e = .returned v) ∧
      ((∃ ys, ys.map (·.2) = ca.reverse ∧ J ys W') ∨ (∃ pre, pre.map (·.2) <+: ca.reverse ∧ Jx pre W')) := by
  obtain ⟨N, hN⟩ : ∃ N, ca.length = N := ⟨_, rfl⟩
  rw [hN] at hBs hreach
  have HN := Lib.hid hN
  have HC := Lib.hid hc
  clear hN hc
  refine callsIn_of_wp Tryz.func150 rfl h7 ?_ hro
  simp only [Tryz.ntmps150, List.size_toArray, List.length_cons, List.length_nil, Nat.reduceAdd, Nat.reduceSub, Array.replicate_succ, Array.replicate_zero, List.push_toArray, List.append_toArray, List.nil_append, List.cons_append]
  gi_wp2
  gi_loopw [3] (fun i wr => ∃ m : Nat, m ≤ N ∧ i = .int .i64 ((m : Int) - 1) ∧ J (upto ca (ca.length - m)) wr ∧ Below n₀ W wr)
    (fun i _ => (intOf i + 1).toNat)
  case atStart => exact ⟨N, Nat.le_refl _, rfl, by rw [HN.out, Nat.sub_self]; exact h0, Below.refl _ _⟩
  case round =>
    obtain ⟨m, hm, rfl, hJs, hnx⟩ := hrel
    have HJ := Lib.hid hJs
    have HB := Lib.hid hnx
    have hBs' := (hnx.cell (p := ⟨Bs, 0, none⟩) hB0).trans hBs
    clear hJs hnx
    match m, hm, HJ with
    | 0, hm, HJ =>
      rw [show ((0 : Nat) : Int) - 1 = -1 from rfl]
      gi_wp2
      go_end0
      exact ⟨⟨_, rfl⟩, .inl ⟨_, by rw [upto_take _ _ (Nat.sub_le _ _), Nat.sub_zero, List.take_of_length_le (by simp)], HJ.out⟩⟩
    | m + 1, hm, HJ =>
      rw [show ((m + 1 : Nat) : Int) - 1 = (m : Int) from by omega]
      have hmn : m < ca.length := by rw [HN.out]; omega
      obtain ⟨g, o, rfl, hg, q0, q1⟩ := HC.out m hmn
      have HX := Lib.hid (upto_next ca m hmn)
      have HU : Hid ((upto ca (ca.length - m)).map (·.2) <+: ca.reverse) := Lib.hid (by rw [upto_take _ _ (Nat.sub_le _ _)]; exact List.take_prefix _ _)
      have r0 := (HB.out.cell (p := ⟨g, o + m * 2, none⟩) hg).trans q0
      have r1 := (HB.out.cell (p := ⟨g, o + m * 2 + 1, none⟩) hg).trans q1
      obtain ⟨fn, tmps, assign, body, hy, hR⟩ := hY _ (m, ca[m]) wr HJ.out (by rw [upto_length]; omega)
      rw [← HX.out] at hR
      simp only [encs] at hy hR
      have hmN : (m : Int) < (N : Int) := by omega
      have hm4 : m < 4096 := by omega
      clear q0 q1 hBs
      generalize ca[m].1 = j at *
      generalize ca[m].2 = s at *
      gi_wp2
      refine hR.mono ?_
      rintro e W3 (⟨rfl, hJ3, hk3⟩ | ⟨rfl, hJx3⟩)
      · gi_wp2
        go_roundw
        case rel => exact ⟨m, by omega, rfl, hJ3, HB.out.trans hk3⟩
        case measure => simp [intOf]
      · gi_wp2
        refine bodyPost_ret (results_none rfl _ _ _) rfl ?_
        exact ⟨⟨_, rfl⟩, .inr ⟨_, HU.out, hJx3⟩⟩
/-- The row's cells, below n₀. -/
def Cells (n₀ : Nat) (W : World) (a : Option Addr) (ca : List (Nat × ByteArray)) : Prop :=
  ∀ k (_ : k < ca.length), ∃ g o, a = some ⟨g, o, none⟩ ∧ g < n₀ ∧ W.cell? ⟨g, o + k * 2, none⟩ = some (.int .i64 ca[k].1) ∧ W.cell? ⟨g, o + k * 2 + 1, none⟩ = some (.string ca[k].2)
theorem Cells.below {n₀ : Nat} {A B : World} {a : Option Addr} {ca : List (Nat × ByteArray)} (h : Cells n₀ A a ca) (hb : Below n₀ A B) : Cells n₀ B a ca := fun k hk => by
  obtain ⟨g, o, e, hg, h0, h1⟩ := h k hk
  exact ⟨g, o, e, hg, (hb.cell (p := ⟨g, o + k * 2, none⟩) hg).trans h0, (hb.cell (p := ⟨g, o + k * 2 + 1, none⟩) hg).trans h1⟩
theorem cells_of {w : World} {a : Option Addr} {l : List (Nat × ByteArray)} (h : PutRow w a l) : Cells w.heap.size w a l := fun k hk => by
  obtain ⟨g, o, e, hg, hc⟩ := h (by omega)
  exact ⟨g, o, e, hg, (hc k hk).1, (hc k hk).2⟩
theorem back_stops (F : Fence) (n : Nat) (h7 : F.fn 150) (hro : F.round = none) (hn : 1 ≤ n) (Bs n₀ : Nat) (a : Option Addr) (cap : Nat) (ca : List (Nat × ByteArray)) (hreach : ca.length ≤ 4096) (w : World) (hBs : Bs < n₀) (hn₀ : n₀ ≤ w.heap.size)
    (hc : w.cell? ⟨Bs, 0, none⟩ = some (.slice a ca.length cap)) (hI : Cells n₀ w a ca) :
    SeqStopsK F n Tryz.prog 150 #[.pointer (some ⟨Bs, 0, none⟩)] encs (Below n₀) (fun ys => ys.map (·.2) = ca.reverse) (fun pre => pre.map (·.2) <+: ca.reverse) ca.length w := fun l J Jx W hW _ _ hY h0 => by
  have hW' := hW.mono hn₀
  exact back1_in F n h7 hro hn l Bs n₀ a cap ca hreach J Jx hY W ((hW'.cell (p := ⟨Bs, 0, none⟩) hBs).trans hc) hBs (hI.below hW') h0
set_option maxHeartbeats 1000000 in
theorem back_in (F : Fence) (n : Nat) (h5 : F.fn 134) (hro : F.round = none) (a : Option Addr) (len cap : Nat) (w : World) :
    CallsIn F n Tryz.prog 134 #[.slice a len cap] w fun e w' => e = .returned (.func (.func 150) #[] #[.pointer (some ⟨w.heap.size, 0, none⟩)]) ∧ w' = w.alloc (.cells #[.slice a len cap] 47) := by
  refine callsIn_of_wp Tryz.func134 rfl h5 ?_ hro
  simp only [Tryz.ntmps134, List.size_toArray, List.length_cons, List.length_nil, Nat.reduceAdd, Nat.reduceSub, Array.replicate_succ, Array.replicate_zero, List.push_toArray, List.append_toArray, List.nil_append, List.cons_append]
  gi_wp2
  go_ret
  exact ⟨rfl, rfl⟩
theorem seen_append (i : Nat) (a b : List (Nat × ByteArray)) (s : ByteArray) : DkN.seen i (a ++ b) s = DkN.seen i b (DkN.seen i a s) := by
  induction a generalizing s with
  | nil => rfl
  | cons x a ih => exact ih _
theorem seen_none (i : Nat) (l : List (Nat × ByteArray)) (s : ByteArray) (h : ∀ x ∈ l, x.1 ≠ i) : DkN.seen i l s = s := by
  induction l generalizing s with
  | nil => rfl
  | cons x l ih =>
    rw [DkN.seen, if_neg (h x (List.mem_cons_self ..))]
    exact ih s fun y hy => h y (List.mem_cons_of_mem _ hy)
theorem seen_hit (i : Nat) (l q : List (Nat × ByteArray)) (x : Nat × ByteArray) (s : ByteArray) (h : q ++ [x] <+: l.reverse) (hq : ∀ y ∈ q, y.1 ≠ i) (hx : x.1 = i) : DkN.seen i l s = x.2 := by
  obtain ⟨r, hr⟩ := h
  have : l = r.reverse ++ ([x] ++ q.reverse) := by
    have := congrArg List.reverse hr
    simpa using this.symm
  rw [this, seen_append, seen_append, DkN.seen, if_pos hx, DkN.seen]
  exact seen_none i _ _ fun y hy => hq y (List.mem_reverse.1 hy)
/-- What stands in a block that a round lays. -/
theorem block_own {β : Type} (B : Nat) (cs : Array Value) (t : TypeId) : Own (fun (_ : β) W => W.heap[B]? = some (.cells cs t (0, 0))) := fun s X Y row hs hg hrow =>
  (hg.block B (Array.getElem?_eq_some_iff.1 hs).1 (fun e => by obtain ⟨o, ho, hc⟩ := hrow B e.symm; rw [show X.heap[B]? = _ from hs] at ho; cases ho; cases hc)).trans hs
set_option maxRecDepth 100000 in
set_option maxHeartbeats 4000000 in
theorem shows_k {w : World} {b : Nat} {bv cv : Value} {D : Dk} (h : Has false w b bv cv D) (k : Nat) (hk : k < D.bl.length) :
    Calls Tryz.prog 112 #[.pointer (some ⟨b, 0, none⟩), .int .i64 k] w fun e w' => e = .returned (.string (D.shown k)) ∧ Below w.heap.size w w' := by
  have HH := Lib.hid h
  obtain ⟨a, c, rfl⟩ := h.cv_eq
  obtain ⟨g, cg, rfl⟩ := h.bv_eq
  have c0 := h.c0
  have c1 := h.c1
  have cb := h.block k hk
  have hfew := h.ok.few
  have hcells := cells_of h.puts
  have hlt := h.lt
  have hgl : g < w.heap.size := h.foot_lt g (.inr (.inl rfl))
  clear h
  refine (callsIn_wide (n := 6)).1 ?_
  refine callsIn_of_wp_marks Tryz.func112 rfl trivial ?_ rfl
  simp only [Tryz.ntmps112, List.size_toArray, List.length_cons, List.length_nil, Nat.reduceAdd, Nat.reduceSub, Array.replicate_succ, Array.replicate_zero, List.push_toArray, List.append_toArray, List.nil_append, List.cons_append]
  gi_wp2_with (refine ⟨trivial, ?_⟩; gi_at_call 134; refine (back_in _ _ trivial rfl _ _ _ _).mono ?_; rintro e w' ⟨rfl, rfl⟩)
  have x0 : (((w.alloc (.cells #[.int .i64 (k : Int)] 3)).alloc (.cells #[.string { data := #[] }] 9)).alloc (.cells #[.slice a D.ca.length c] 47)).heap[w.heap.size]? = some (.cells #[.int .i64 (k : Int)] 3 (0, 0)) := alloc3_0 w _ _ _
  have x1 := alloc3_1 w (.cells #[.int .i64 (k : Int)] 3) (.cells #[.string { data := #[] }] 9) (.cells #[.slice a D.ca.length c] 47)
  have x2 := alloc3_2 w (.cells #[.int .i64 (k : Int)] 3) (.cells #[.string { data := #[] }] 9) (.cells #[.slice a D.ca.length c] 47)
  have hB0 := below_alloc3 w (.cells #[.int .i64 (k : Int)] 3) (.cells #[.string { data := #[] }] 9) (.cells #[.slice a D.ca.length c] 47)
  have hsz : (((w.alloc (.cells #[.int .i64 (k : Int)] 3)).alloc (.cells #[.string { data := #[] }] 9)).alloc (.cells #[.slice a D.ca.length c] 47)).heap.size = w.heap.size + 3 := by simp
  obtain ⟨W0, hW0⟩ : ∃ W0, ((w.alloc (.cells #[.int .i64 (k : Int)] 3)).alloc (.cells #[.string { data := #[] }] 9)).alloc (.cells #[.slice a D.ca.length c] 47) = W0 := ⟨_, rfl⟩
  rw [hW0] at x0 x1 x2 hB0 hsz ⊢
  clear hW0
  have hc0 : Cells W0.heap.size W0 a D.ca := fun k hk => by
    obtain ⟨g, o, e, hg, h0, h1⟩ := (hcells.below hB0) k hk
    exact ⟨g, o, e, by omega, h0, h1⟩
  refine wpIn_rangeFunc_ownH rfl (by omega) (gf := 150) (lb := #[.pointer (some ⟨w.heap.size + 1 + 1, 0, none⟩)]) rfl trivial (enters_of Tryz.func150 (by kernel_rfl) rfl)
    (back_stops Fence.wide _ trivial rfl (by omega) (w.heap.size + 1 + 1) W0.heap.size a c D.ca hfew W0 (by omega) (Nat.le_refl _) (blk_cell x2 rfl) hc0) belowK_t (belowK_b (Nat.le_refl _)) (Below.refl _ _) (fun _ => rfl)
    (fun pre W => (∀ y ∈ pre, y.2.1 ≠ k) ∧ Below W0.heap.size W0 W)
    (fun c pre W => (c = .ret ∧ ∃ q x, pre = q ++ [x] ∧ (∀ y ∈ q, y.2.1 ≠ k) ∧ x.2.1 = k ∧ W.cell? ⟨w.heap.size + 1, 0, none⟩ = some (.string x.2.2)) ∧ Below w.heap.size w W)
    (OwnFrom.and (ownFrom_pure _ _) (ownFrom_below (Nat.le_refl _) (Nat.le_refl _)))
    (fun c => OwnFrom.and (Own.from (fun s A B row hs hg hr => by obtain ⟨e, q, x, h1, h2, h3, h4⟩ := hs; exact ⟨e, q, x, h1, h2, h3, cell_kept h4 hg hr⟩) _) (ownFrom_below (Nat.le_refl _) (by omega)))
    ⟨by simp, Below.refl _ _⟩
    (fun x a' W => ∃ Bx, W0.heap.size ≤ Bx ∧ W.heap[Bx]? = some (.cells #[.int .i64 (x.2.1 : Int), .string x.2.2] 107 (0, 0)) ∧ a' = { tmps := #[.pointer (some ⟨b, 0, none⟩), .int .i64 (k : Int), undef, .pointer (some ⟨w.heap.size, 0, none⟩), .pointer (some ⟨w.heap.size + 1, 0, none⟩), undef, .pointer (some ⟨Bx, 0, none⟩), .pointer (some ⟨b, 0, none⟩), .pointer (some ⟨b, 0, none⟩), .pointer (some ⟨b, 1, none⟩), .slice a D.ca.length c, .func (.func 150) #[] #[.pointer (some ⟨w.heap.size + 1 + 1, 0, none⟩)], .int .i64 (x.1 : Int), .agg #[.int .i64 (x.2.1 : Int), .string x.2.2], undef, undef, undef, undef, undef, undef, undef, undef, undef, undef, undef, undef, undef], defers := [] })
    (fun x a' => fun s X Y row hs hg hr => by obtain ⟨Bx, h1, h2, h3⟩ := hs; exact ⟨Bx, h1, (Own.from (block_own Bx _ _) _) () X Y row h2 hg hr, h3⟩) ?assign ?body ?done ?stop
  case assign =>
    rintro l pre x W K ⟨hp, hB⟩ hK
    simp only [encs]
    gi_wp2
    exact hK _ _ ((KeepsOthers.alloc _ _).from _) ((Below.refl _ W).alloc hB.size _) ⟨hp, hB.alloc hB.size _⟩ ⟨W.heap.size, hB.size, heap_alloc_new _ _, rfl⟩
  case body =>
    rintro l pre x a' W hl ⟨r, hr⟩ ⟨hp, hB⟩ ⟨Bx, hBx, bX, rfl⟩ hlt'
    have y0 := blk_cell (i := 0) bX rfl
    have y1 := blk_cell (i := 1) bX rfl
    have z0 : W.cell? ⟨w.heap.size, 0, none⟩ = some (.int .i64 (k : Int)) := (hB.cell (p := ⟨w.heap.size, 0, none⟩) (by simp; omega)).trans (blk_cell x0 rfl)
    have z1 : W.cell? ⟨w.heap.size + 1, 0, none⟩ = some (.string { data := #[] }) := (hB.cell (p := ⟨w.heap.size + 1, 0, none⟩) (by simp; omega)).trans (blk_cell x1 rfl)
    have zf : W.frozen? ⟨w.heap.size + 1, 0, none⟩ = false := (hB.frozen (p := ⟨w.heap.size + 1, 0, none⟩) (by simp; omega)).trans (blk_free x1)
    have HBw := Lib.hid (hB0.trans (hB.mono (by omega)))
    by_cases hx : x.2.1 = k
    · have he : ((x.2.1 : Int) == (k : Int)) = true := by rw [beq_iff_eq]; omega
      gi_wp2
      exact ⟨(KeepsOthers.setCell _ _ _).from _, ⟨rfl, pre, x, rfl, hp, hx, World.cell?_setCell_same' _ _ _ (by rw [z1]; rfl)⟩, HBw.out.setCell (p := ⟨w.heap.size + 1, 0, none⟩) (by simp) _⟩
    · have he : ((x.2.1 : Int) == (k : Int)) = false := by rw [beq_eq_false_iff_ne]; omega
      gi_wp2
      exact ⟨KeepsFrom.refl _ _, Below.refl _ _, (fun y hy => (List.mem_append.1 hy).elim (hp y) (fun e => by rw [List.mem_singleton.1 e]; exact hx)), hB⟩
  case done =>
    rintro Dd ys W hD hys ⟨hp, hB⟩ hK
    have HBw := Lib.hid (hB0.trans (hB.mono (by omega)))
    have y0 : W.cell? ⟨b, 0, none⟩ = some (.slice (some ⟨g, 0, none⟩) D.bl.length cg) := (HBw.out.cell (p := ⟨b, 0, none⟩) hlt).trans c0
    have y1 : W.cell? ⟨g, k, none⟩ = some (.string D.bl[k]) := (HBw.out.cell (p := ⟨g, k, none⟩) hgl).trans cb
    have z0 : W.cell? ⟨w.heap.size, 0, none⟩ = some (.int .i64 (k : Int)) := (hB.cell (p := ⟨w.heap.size, 0, none⟩) (by simp; omega)).trans (blk_cell x0 rfl)
    have z1 : W.cell? ⟨w.heap.size + 1, 0, none⟩ = some (.string { data := #[] }) := (hB.cell (p := ⟨w.heap.size + 1, 0, none⟩) (by simp; omega)).trans (blk_cell x1 rfl)
    have zf : W.frozen? ⟨w.heap.size + 1, 0, none⟩ = false := (hB.frozen (p := ⟨w.heap.size + 1, 0, none⟩) (by simp; omega)).trans (blk_free x1)
    have hv : D.shown (k : Int) = D.bl[k] := by
      unfold Dk.shown
      rw [Int.toNat_natCast, seen_none k D.ca _ (fun x hx => by
        obtain ⟨y, hy, rfl⟩ := List.mem_map.1 (show x ∈ ys.map (·.2) by rw [hys]; exact List.mem_reverse.2 hx)
        exact hp y hy)]
      simp [List.getD, hk]
    have HV := Lib.hid hv
    have hkl : (k : Int) < (D.bl.length : Int) := by omega
    clear hv hys hp c0 c1 cb x0 x1 x2 hc0 hcells
    generalize D.bl[k] = v at *
    generalize D.bl.length = m at *
    gi_wp2
    gi_region
    all_goals
      gi_wp2
      have hK' : ((W.setCell ⟨w.heap.size + 1, 0, none⟩ (.string v)).drew).heap[Dd]? = some (.deferred (some [])) := (KeepsOthers.setCell W ⟨w.heap.size + 1, 0, none⟩ (.string v)).same Dd _ hK rfl
      have hc4 : ((W.setCell ⟨w.heap.size + 1, 0, none⟩ (.string v)).drew).cell? ⟨w.heap.size + 1, 0, none⟩ = some (.string v) := World.cell?_setCell_same' _ _ _ (by rw [z1]; rfl)
      have hBX : Below w.heap.size w ((W.setCell ⟨w.heap.size + 1, 0, none⟩ (.string v)).drew) := (HBw.out.setCell (p := ⟨w.heap.size + 1, 0, none⟩) (by simp) _).drew
      refine ⟨by simp, .inl ⟨_, _, rfl, run_takeDeferred hK', ?_⟩⟩
      have hc5 := cell_kept hc4 (grownBy_putObj' _ Dd (.deferred none)) (fun r e => by cases e; exact ⟨_, hK', rfl⟩)
      refine ⟨.string v, ?_, by rw [HV.out], hBX.trans (belowK_b (w := w) (Nat.le_refl _) _ Dd _ _ (by omega) hK' rfl rfl)⟩
      simp [results, Tryz.f112, go_sem, hc5]
  case stop =>
    rintro Dd c' pre W hD hpre ⟨⟨rfl, q, x, rfl, hq, hx, hcr⟩, hB⟩ hK
    have hv : D.shown (k : Int) = x.2.2 := by
      unfold Dk.shown
      rw [Int.toNat_natCast]
      exact seen_hit k D.ca (q.map (·.2)) x.2 _ (by simpa using hpre) (fun y hy => by obtain ⟨z, hz, rfl⟩ := List.mem_map.1 hy; exact hq z hz) hx
    gi_wp2
    refine ⟨by simp, .inl ⟨_, _, rfl, run_takeDeferred hK, ?_⟩⟩
    have hc5 := cell_kept hcr (grownBy_putObj' _ Dd (.deferred none)) (fun r e => by cases e; exact ⟨_, hK, rfl⟩)
    refine ⟨.string x.2.2, ?_, by rw [hv], hB.trans (belowK_b (w := w) (Nat.le_refl _) W Dd _ _ (by omega) hK rfl rfl)⟩
    simp [results, Tryz.f112, go_sem, hc5]
theorem shows {w : World} {b : Nat} {bv cv : Value} {D : Dk} (h : Has false w b bv cv D) (i : Int) (hi : D.has i = true) :
    Calls Tryz.prog 112 #[.pointer (some ⟨b, 0, none⟩), .int .i64 i] w fun e w' => e = .returned (.string (D.shown i)) ∧ Below w.heap.size w w' := by
  have hi' : 0 ≤ i ∧ i < (D.bl.length : Int) := of_decide_eq_true hi
  obtain ⟨k, rfl⟩ : ∃ k : Nat, i = (k : Int) := ⟨i.toNat, by omega⟩
  exact shows_k h k (by omega)
/-- THE CONTRACT of Read. -/
theorem Read {w : World} {b : Nat} {bv cv : Value} {D : Dk} (h : Has false w b bv cv D) (i : Int) :
    Calls Tryz.prog 73 #[.pointer (some ⟨b, 0, none⟩), .int .i64 i] w fun e w' => e = .returned (.tuple #[.string (D.rd i).1, .int .i64 ((D.rd i).2 : Nat)]) ∧ Below w.heap.size w w' := by
  have HR := Lib.hid (ready h)
  by_cases hd : D.down = true
  · have e : D.rd i = (ByteArray.empty, 14) := by unfold Dk.rd; rw [if_pos hd]
    rw [e]
    rw [if_pos hd] at HR
    clear h hd e
    go_enter Tryz.func73, Tryz.ntmps73
    go_wp2_with (go_at_call 50; refine (HR.out).mono ?_; rintro e w' ⟨rfl, rfl⟩)
    go_ret2
    exact ⟨rfl, Below.refl _ _⟩
  · rw [if_neg hd] at HR
    have HT := Lib.hid (has h i)
    by_cases hi : D.has i = true
    · have HS := Lib.hid (shows h i hi)
      have e : D.rd i = (D.shown i, 0) := by unfold Dk.rd; rw [if_neg hd, if_pos hi]
      rw [e]
      rw [hi] at HT
      clear h hd e hi
      generalize D.shown i = v at *
      go_enter Tryz.func73, Tryz.ntmps73
      go_wp2_with (first
        | (go_at_call 50; refine (HR.out).mono ?_; rintro e w' ⟨rfl, rfl⟩)
        | (go_at_call 111; refine (HT.out).mono ?_; rintro e w' ⟨rfl, rfl⟩)
        | (go_at_call 112; refine (HS.out).mono ?_; rintro e w1 ⟨rfl, hb1⟩; have HB := Lib.hid hb1; clear hb1))
      go_ret2
      exact ⟨rfl, HB.out⟩
    · have e : D.rd i = (ByteArray.empty, 4) := by unfold Dk.rd; rw [if_neg hd, if_neg hi]
      rw [e]
      rw [show D.has i = false by simpa using hi] at HT
      clear h hd e hi
      go_enter Tryz.func73, Tryz.ntmps73
      go_wp2_with (first
        | (go_at_call 50; refine (HR.out).mono ?_; rintro e w' ⟨rfl, rfl⟩)
        | (go_at_call 111; refine (HT.out).mono ?_; rintro e w' ⟨rfl, rfl⟩))
      go_ret2
      exact ⟨rfl, Below.refl _ _⟩
end Go.Proofs.YtoilcieineejiaaGreatDoor.DkI
/- keepsakeref08.Full4; the chapter's example: the walks of their texts. No conditions but those that each lemma names. -/
namespace Go.Proofs.YtoilcieineejiaaGreatDoor.DkA
open Go.RowKit
open DkN DkM DkQ DkF
theorem full4_size (s : ByteArray) : (full4 s).size = 4096 := by
  unfold full4
  split
  · simp [ByteArray.size_extract]; omega
  · rw [ByteArray.size_append, nou_size]; omega
theorem Full4_long (s : ByteArray) (w : World) (h : 4096 < s.size) : Calls Tryz.prog 22 #[.string s] w fun e w' => e = .returned (.string (full4 s)) ∧ Below w.heap.size w w' := by
  have hv : full4 s = s.extract 0 4096 := by unfold full4; rw [if_pos h]
  have HV := Lib.hid hv
  have h1 : 4096 < (s.size : Int) := by omega
  have h2 : (4096 : Int) ≤ (s.size : Int) := by omega
  have h3 : 4096 ≤ s.size := by omega
  clear hv h
  go_enter Tryz.func22, Tryz.ntmps22
  go_wp2
  go_ret
  rw [HV.out]
  exact ⟨rfl, Below.refl _ _⟩
theorem Full4_short (s : ByteArray) (w : World) (h : ¬ 4096 < s.size) : Calls Tryz.prog 22 #[.string s] w fun e w' => e = .returned (.string (full4 s)) ∧ Below w.heap.size w w' := by
  have hv : full4 s = s ++ nou (4096 - s.size) := by unfold full4; rw [if_neg h]
  have HV := Lib.hid hv
  have HN : Hid (∀ W : World, Calls Tryz.prog 58 #[.int .i64 ((4096 - s.size : Nat) : Int)] W fun e w' => e = .returned (.string (nou (4096 - s.size))) ∧ Below W.heap.size W w') := Lib.hid fun W => RNou.noughts (4096 - s.size) W (by omega)
  have hl := nou_size (4096 - s.size)
  have he : 4096 - (s.size : Int) = ((4096 - s.size : Nat) : Int) := by omega
  have HE := Lib.hid he
  have h1 : ¬ 4096 < (s.size : Int) := by omega
  have hs : s.size ≤ 4096 := by omega
  have hl' : (nou (4096 - s.size)).size ≤ 4096 := by omega
  clear hv h hl he
  generalize 4096 - s.size = q at *
  generalize nou q = z at *
  go_enter Tryz.func22, Tryz.ntmps22
  go_wp2_with fail
  rw [HE.out]
  refine (HN.out _).mono ?_
  rintro e w1 ⟨rfl, hb1⟩
  have HB := Lib.hid hb1
  clear hb1
  go_wp2
  go_ret
  rw [HV.out]
  exact ⟨rfl, HB.out⟩
/-- THE CONTRACT of Full4. -/
theorem Full4 (s : ByteArray) (w : World) : Calls Tryz.prog 22 #[.string s] w fun e w' => e = .returned (.string (full4 s)) ∧ Below w.heap.size w w' := by
  by_cases h : 4096 < s.size
  · exact Full4_long s w h
  · exact Full4_short s w h
/-- A disk of the call's own. -/
structure Solo (r : Bool) (w0 w : World) (b : Nat) (bv cv : Value) (D : Dk) : Prop where
  has : Has r w b bv cv D
  below : Below w0.heap.size w0 w
  foot : ∀ k, Foot b bv cv k → w0.heap.size ≤ k
theorem Solo.did {r : Bool} {w0 w w' : World} {b : Nat} {bv cv : Value} {D D' : Dk} (h : Solo r w0 w b bv cv D) (hd : Did r w b bv cv D' w') : ∃ cv', Solo r w0 w' b bv cv' D' := by
  obtain ⟨c, h1, n1, k1⟩ := hd
  have hs := h.below.size
  refine ⟨c, h1, h.below.trans (k1.below h.foot hs), fun k hk => ?_⟩
  rcases hk with rfl | hk | hk
  · exact h.foot _ (.inl rfl)
  · exact h.foot _ (.inr (.inl hk))
  · rcases n1 k hk with h' | h'
    · exact h.foot _ (.inr (.inr h'))
    · omega
theorem Solo.step {r : Bool} {w0 w w' : World} {b : Nat} {bv cv : Value} {D : Dk} (h : Solo r w0 w b bv cv D) (hb : Below w.heap.size w w') : Solo r w0 w' b bv cv D :=
  ⟨h.has.step hb, h.below.trans (hb.mono h.below.size), h.foot⟩
/-! The example's states. -/
def E1 (s : ByteArray) : Dk := { made 8 with ca := [(1, s)] }
def E2 (s t : ByteArray) : Dk := { made 8 with ca := [(1, s), (1, t)] }
def E3 (s : ByteArray) : Dk := { made 8 with bl := (made 8).bl.set 1 s, down := true }
def E4 (s : ByteArray) : Dk := { made 8 with bl := (made 8).bl.set 1 s }
theorem w1 (s : ByteArray) (h : s.size = 4096) : (made 8).wr 1 s = (0, E1 s) := by
  simp [Dk.wr, Dk.no, Dk.has, made, Dk.tick, E1, h]
theorem w2 (s t : ByteArray) (h : t.size = 4096) : (E1 s).wr 1 t = (0, E2 s t) := by
  simp [Dk.wr, Dk.no, Dk.has, made, Dk.tick, E1, E2, h]
theorem w3 (s t : ByteArray) : (E2 s t).crash [0] = E3 s := by
  simp [Dk.crash, made, E2, E3, kset, keepB]
theorem w4 (s : ByteArray) : (E3 s).boot = E4 s := rfl
theorem w5 (s : ByteArray) : (E4 s).rd 1 = (s, 0) := by
  simp [Dk.rd, Dk.has, E4, made, Dk.shown, DkN.seen]
theorem w6 (s : ByteArray) : (E4 s).bl.length = 8 := by simp [E4, made]
end Go.Proofs.YtoilcieineejiaaGreatDoor.DkA
/- slices.Clone of a row of texts (by the library's own contract) and of a row of writes (the walk of its text); the program's disk: copied, Seize. No conditions but those that each lemma names. -/
namespace Go.Proofs.YtoilcieineejiaaGreatDoor.DkC
open Go.RowKit
open DkN DkM DkQ DkW
/-- What a copy of a row leaves. -/
def Cloned (e : TypeId) (size : Nat) (xs : List Value) (n : Nat) (w : World) (r : Ending) (w' : World) : Prop :=
  ∃ v, r = .returned v ∧ w'.ownsRow w.heap.size e size v n xs ∧ Below w.heap.size w w'
theorem cloneS (a : Option Addr) (c : Nat) (l : List ByteArray) (w : World) (h : StrRow w a l) (hl : l.length ≤ 100000) :
    Calls Tryz.prog 49 #[.slice a l.length c] w (Cloned 9 1 (l.map Value.string) l.length w) := by
  cases a with
  | none =>
    have h0 : l = [] := by
      cases l with
      | nil => rfl
      | cons x l => obtain ⟨g, o, e, _⟩ := h (by simp); cases e
    subst h0
    exact (Tryz.slices_Clone_string_nil 0 c w).mono fun e w' ⟨h1, h2⟩ => ⟨_, h1, World.ownsRow_nil _ _ _ _, h2 ▸ Below.refl _ _⟩
  | some ad =>
    by_cases h0 : 0 < l.length
    · obtain ⟨g, o, e, hg, hc⟩ := h h0
      cases e
      refine (Tryz.slices_Clone_string g o l.length c l w (Nat.le_refl _) (by omega) (fun j hj => ?_)).mono fun e w' ⟨v, h1, h2, h3, h4⟩ => ⟨v, h1, by rw [List.take_length] at h2; exact h2, h4⟩
      rw [hc j hj]
      simp [List.getD, hj]
    · have h1 : l = [] := List.eq_nil_of_length_eq_zero (by omega)
      subst h1
      exact (Tryz.slices_Clone_string_zero ad c w).mono fun e w' ⟨v, h1, h2, h3, h4⟩ => ⟨v, h1, h2, h4⟩
theorem nil_eq (w : World) (a : Option Addr) (n c n' c' : Nat) : (binOp .eql 47 (.slice a n c) (.slice none n' c')).run Tryz.prog w = .ok (.bool a.isNone) w := Lib.run_eql_slice_nil w _ _ a n c n' c' Tryz.underlying47
set_option maxRecDepth 100000 in
theorem cloneP_none (n c : Nat) (w : World) : Calls Tryz.prog 93 #[.slice none n c] w fun e w' => e = .returned (.slice none 0 0) ∧ w = w' := by
  have q := nil_eq
  go_enter Tryz.func93, Tryz.ntmps93
  go_wp2
  go_ret
  exact ⟨rfl, rfl⟩
set_option maxRecDepth 100000 in
set_option maxHeartbeats 2000000 in
theorem cloneP_some (ad : Addr) (n c : Nat) (xs : List Value) (w : World) (hl : xs.length = n * 2) (hn : n ≤ 100000) (hc : ∀ j u, xs[j]? = some u → w.cell? (ad.add j) = some u) (h1 : ∀ v ∈ xs, v.oneCell' = true) :
    Calls Tryz.prog 93 #[.slice (some ad) n c] w (Cloned 107 2 xs n w) := by
  have q := nil_eq
  obtain ⟨i0, hi, hz0, hz1, hz2⟩ := info_parts info_put
  have HA : Hid (∀ j u, xs[j]? = some u → (w.alloc (.cells #[] 107)).cell? (ad.add j) = some u) := Lib.hid fun j u hj => Lib.cell?_alloc_some _ (hc j u hj)
  clear hc
  go_enter Tryz.func93, Tryz.ntmps93
  go_wp2_with (at_builtin; refine wpList_append_own _ rfl _ _ 47 rfl w.heap.size 107 i0 (.agg #[.int .i64 0, .string ⟨#[]⟩]) 2 24 Tryz.underlying47 hi hz0 hz1 hz2 rfl (by decide) _ _ _ rfl (World.ownsRow_made w #[] 0 (Nat.le_refl _) (Nat.zero_le _) rfl) ad n c xs rfl hl HA.out h1 (by unfold maxLen; omega) (by omega) (by simp) ?_; intro v' w1 hown hgrow hnil; obtain ⟨a2, l2, c2, rfl⟩ := own_slice hown)
  go_ret
  refine ⟨_, rfl, by simpa using hown, ?_⟩
  exact ((Below.refl _ w).alloc (Nat.le_refl _) _).grown hgrow (by simp) (fun k hk => by have e : w.heap.size = k := Option.some.inj hk; omega)
theorem puts_at {w : World} {g o : Nat} {l : List (Nat × ByteArray)} (h : ∀ k (_ : k < l.length), w.cell? ⟨g, o + k * 2, none⟩ = some (.int .i64 l[k].1) ∧ w.cell? ⟨g, o + k * 2 + 1, none⟩ = some (.string l[k].2)) :
    ∀ j u, (putCells l)[j]? = some u → w.cell? ((⟨g, o, none⟩ : Addr).add j) = some u := by
  intro j u hj
  rw [add_off]
  have hlt : j < l.length * 2 := by rw [← putCells_length]; exact (List.getElem?_eq_some_iff.1 hj).1
  rcases Nat.mod_two_eq_zero_or_one j with hm | hm
  · obtain ⟨k, rfl⟩ : ∃ k, j = k * 2 := ⟨j / 2, by omega⟩
    rw [putCells_0 l k (by omega)] at hj
    rw [(h k (by omega)).1]; exact hj
  · obtain ⟨k, rfl⟩ : ∃ k, j = k * 2 + 1 := ⟨j / 2, by omega⟩
    rw [putCells_1 l k (by omega)] at hj
    rw [← Nat.add_assoc, (h k (by omega)).2]; exact hj
theorem cloneP (a : Option Addr) (c : Nat) (l : List (Nat × ByteArray)) (w : World) (h : PutRow w a l) (hl : l.length ≤ 100000) :
    Calls Tryz.prog 93 #[.slice a l.length c] w (Cloned 107 2 (putCells l) l.length w) := by
  cases a with
  | none =>
    have h0 : l = [] := by
      cases l with
      | nil => rfl
      | cons x l => obtain ⟨g, o, e, _⟩ := h (by simp); cases e
    subst h0
    exact (cloneP_none _ c w).mono fun e w' ⟨h1, h2⟩ => ⟨_, h1, World.ownsRow_nil _ _ _ _, h2 ▸ Below.refl _ _⟩
  | some ad =>
    refine cloneP_some ad l.length c (putCells l) w (putCells_length l) hl ?_ (putCells_one l)
    intro j u hj
    have hlt : j < l.length * 2 := by rw [← putCells_length]; exact (List.getElem?_eq_some_iff.1 hj).1
    obtain ⟨g, o, e, hg, hc⟩ := h (by omega)
    cases e
    exact puts_at hc j u hj
theorem far2 {w : World} {b r i : Nat} (hne : b < r) (u v : Value) : ((w.setCell ⟨r, 0, none⟩ u).setCell ⟨r, 1, none⟩ v).cell? ⟨b, i, none⟩ = w.cell? ⟨b, i, none⟩ :=
  World.cell?_of_block (a := ⟨b, i, none⟩) ((set_cell_block (Nat.ne_of_lt hne)).trans (set_cell_block (Nat.ne_of_lt hne)))
theorem own_base {w : World} {base B : Nat} {e : TypeId} {size : Nat} {v : Value} {n : Nat} {xs : List Value} (h : w.ownsRow base e size v n xs) (hb : B ≤ base) : w.ownsRow B e size v n xs := by
  refine ⟨h.1, ?_⟩
  rcases h.2 with hn | ⟨g, cap, cur, hv, hg, rest⟩
  · exact .inl hn
  · exact .inr ⟨g, cap, cur, hv, Nat.le_trans hb hg, rest⟩
/-- What a copy of an image leaves. -/
def Copied (bl : List ByteArray) (ca : List (Nat × ByteArray)) (w : World) (r : Ending) (w' : World) : Prop :=
  ∃ v u, r = .returned (.agg #[v, u]) ∧ w'.ownsRow w.heap.size 9 1 v bl.length (bl.map Value.string) ∧ w'.ownsRow w.heap.size 107 2 u ca.length (putCells ca) ∧ (∀ k, v.ownBlock = some k → u.ownBlock ≠ some k) ∧ Below w.heap.size w w'
theorem StrRow.below {w w' : World} {a : Option Addr} {l : List ByteArray} (h : StrRow w a l) (hb : Below w.heap.size w w') : StrRow w' a l := h.keep hb.block hb.size
theorem PutRow.below {w w' : World} {a : Option Addr} {l : List (Nat × ByteArray)} (h : PutRow w a l) (hb : Below w.heap.size w w') : PutRow w' a l := h.keep hb.block hb.size
set_option maxRecDepth 100000 in
set_option maxHeartbeats 2000000 in
theorem copied_any (b c c' : Nat) (a a' : Option Addr) (bl : List ByteArray) (ca : List (Nat × ByteArray)) (w : World) (h0 : w.cell? ⟨b, 0, none⟩ = some (.slice a bl.length c)) (h1 : w.cell? ⟨b, 1, none⟩ = some (.slice a' ca.length c')) (hs : StrRow w a bl) (hp : PutRow w a' ca) (hl : bl.length ≤ 100000) (hm : ca.length ≤ 100000) :
    Calls Tryz.prog 54 #[.pointer (some ⟨b, 0, none⟩)] w (Copied bl ca w) := by
  have HS : Hid (∀ W, Below w.heap.size w W → Calls Tryz.prog 49 #[.slice a bl.length c] W (Cloned 9 1 (bl.map Value.string) bl.length W)) := Lib.hid fun W hW => cloneS a c bl W (StrRow.below hs hW) hl
  have HP : Hid (∀ W, Below w.heap.size w W → Calls Tryz.prog 93 #[.slice a' ca.length c'] W (Cloned 107 2 (putCells ca) ca.length W)) := Lib.hid fun W hW => cloneP a' c' ca W (PutRow.below hp hW) hm
  clear hs hp hl hm
  have hblt : b < w.heap.size := World.block_lt_of_cell? w _ h0
  go_enter Tryz.func54, Tryz.ntmps54
  go_wp2_with fail
  have hB0 : Below w.heap.size w (w.alloc (.cells #[.slice none 0 0, .slice none 0 0] 75)).drew := ((Below.refl _ _).alloc (Nat.le_refl _) _).drew
  have hR : (w.alloc (.cells #[.slice none 0 0, .slice none 0 0] 75)).drew.heap[w.heap.size]? = some (.cells #[.slice none 0 0, .slice none 0 0] 75 (0, 0)) := heap_alloc_new w _
  have hz : (w.alloc (.cells #[.slice none 0 0, .slice none 0 0] 75)).drew.heap.size = w.heap.size + 1 := by simp
  have HB0 := Lib.hid hB0
  have HR := Lib.hid hR
  have HZ := Lib.hid hz
  have k0 : (w.alloc (.cells #[.slice none 0 0, .slice none 0 0] 75)).drew.cell? ⟨b, 0, none⟩ = some (.slice a bl.length c) := (hB0.cell (p := ⟨b, 0, none⟩) hblt).trans h0
  have k1 : (w.alloc (.cells #[.slice none 0 0, .slice none 0 0] 75)).drew.cell? ⟨b, 1, none⟩ = some (.slice a' ca.length c') := (hB0.cell (p := ⟨b, 1, none⟩) hblt).trans h1
  clear hB0 hR hz
  go_region_held3 (fun w' => w'.cell? ⟨b, 0, none⟩ = some (.slice a bl.length c) ∧ w'.cell? ⟨b, 1, none⟩ = some (.slice a' ca.length c'))
    (first | exact ⟨k0, k1⟩ | exact hS2 | exact hS1 | exact ⟨(far2 hblt _ _).trans hS2.1, (far2 hblt _ _).trans hS2.2⟩)
    (first
      | (go_at_call 49; refine (HS.out _ HB0.out).mono ?_; rintro e w1 ⟨v, rfl, hv, hb1⟩; obtain ⟨va, vl, vc, rfl⟩ := own_slice hv; have HV := Lib.hid hv; have HB1 := Lib.hid hb1; clear hv; have HB01 := Lib.hid (HB0.out.trans (hb1.mono HB0.out.size)); have hS1 : w1.cell? ⟨b, 0, none⟩ = some (.slice a bl.length c) ∧ w1.cell? ⟨b, 1, none⟩ = some (.slice a' ca.length c') := ⟨(HB01.out.cell (p := ⟨b, 0, none⟩) hblt).trans h0, (HB01.out.cell (p := ⟨b, 1, none⟩) hblt).trans h1⟩; clear hb1)
      | (go_at_call 93; refine (HP.out _ HB01.out).mono ?_; rintro e w2 ⟨u, rfl, hu, hb2⟩; obtain ⟨ua, ul, uc, rfl⟩ := own_slice hu; have HU := Lib.hid hu; have HB2 := Lib.hid hb2; clear hu; have HB12 := Lib.hid (HB01.out.trans (hb2.mono HB01.out.size)); have hS2 : w2.cell? ⟨b, 0, none⟩ = some (.slice a bl.length c) ∧ w2.cell? ⟨b, 1, none⟩ = some (.slice a' ca.length c') := ⟨(HB12.out.cell (p := ⟨b, 0, none⟩) hblt).trans h0, (HB12.out.cell (p := ⟨b, 1, none⟩) hblt).trans h1⟩; have hR2 : w2.heap[w.heap.size]? = some (.cells #[.slice none 0 0, .slice none 0 0] 75 (0, 0)) := (hb2.block _ (by have := HB1.out.size; rw [HZ.out] at this; omega)).trans ((HB1.out.block _ (by rw [HZ.out]; omega)).trans HR.out); have r0 : w2.cell? ⟨w.heap.size, 0, none⟩ = some (.slice none 0 0) := blk_cell hR2 rfl; have r1 : w2.cell? ⟨w.heap.size, 1, none⟩ = some (.slice none 0 0) := blk_cell hR2 rfl; have f0 := blk_free (i := 0) hR2; have f1 := blk_free (i := 1) hR2; have HR2 := Lib.hid hR2; clear hb2 hR2))
  rename_i hHeld
  have hb3 : (((w2.setCell ⟨w.heap.size, 0, none⟩ (.slice va vl vc)).setCell ⟨w.heap.size, 1, none⟩ (.slice ua ul uc))).heap[w.heap.size]? = some (.cells #[.slice va vl vc, .slice ua ul uc] 75 (0, 0)) := (blk_set (blk_set HR2.out)).trans rfl
  have hfar : ∀ k, w.heap.size < k → (((w2.setCell ⟨w.heap.size, 0, none⟩ (.slice va vl vc)).setCell ⟨w.heap.size, 1, none⟩ (.slice ua ul uc))).heap[k]? = w2.heap[k]? := fun k hk => (set_cell_block (Nat.ne_of_gt hk)).trans (set_cell_block (Nat.ne_of_gt hk))
  have hb4 : Below w.heap.size w ((w2.setCell ⟨w.heap.size, 0, none⟩ (.slice va vl vc)).setCell ⟨w.heap.size, 1, none⟩ (.slice ua ul uc)) := (HB12.out.setCell (p := ⟨w.heap.size, 0, none⟩) (Nat.le_refl _) _).setCell (p := ⟨w.heap.size, 1, none⟩) (Nat.le_refl _) _
  have hv := HV.out
  have hu := HU.out
  rw [HZ.out] at hv
  have s1 := HB1.out.size
  rw [HZ.out] at s1
  have hne : ∀ k, (Value.slice va vl vc).ownBlock = some k → (Value.slice ua ul uc).ownBlock ≠ some k := fun k e f => by
    have q1 := (hv.lt k e).2
    have q2 := (hu.lt k f).1
    omega
  have hv' := own_base (own_kept hv (fun k e => (hfar k (by have := (hv.lt k e).1; omega)).trans (HB2.out.block k (hv.lt k e).2))) (B := w.heap.size) (by omega)
  have hu' := own_base (own_kept hu (fun k e => hfar k (by have := (hu.lt k e).1; omega))) (B := w.heap.size) (by omega)
  have HV' := Lib.hid hv'
  have HU' := Lib.hid hu'
  have HN := Lib.hid hne
  have HB4 := Lib.hid hb4
  have c0 : _ = some (Value.slice va vl vc) := blk_cell (i := 0) hb3 rfl
  have c1 : _ = some (Value.slice ua ul uc) := blk_cell (i := 1) hb3 rfl
  clear hHeld hb3 hfar hv hu hne hv' hu' hb4 r0 r1 f0 f1 HR2 hS2 hS1 k0 k1 h0 h1 HV HU HB1 HB2 HB12 HB01 HZ HR HB0
  generalize (w2.setCell ⟨w.heap.size, 0, none⟩ (.slice va vl vc)).setCell ⟨w.heap.size, 1, none⟩ (.slice ua ul uc) = W at *
  go_wp2
  exact bodyPost_ret (v := .agg #[.slice va vl vc, .slice ua ul uc]) (by simp [results, Tryz.results54, go_sem, c0, c1]) rfl ⟨_, _, rfl, HV'.out, HU'.out, HN.out, HB4.out⟩
theorem copied {r : Bool} {w : World} {b : Nat} {bv cv : Value} {D : Dk} (h : Has r w b bv cv D) :
    Calls Tryz.prog 54 #[.pointer (some ⟨b, 0, none⟩)] w (Copied D.bl D.ca w) := by
  obtain ⟨a, c, rfl⟩ := h.cv_eq
  obtain ⟨g, c', rfl⟩ := h.bv_eq
  exact copied_any b _ _ _ _ D.bl D.ca w h.c0 h.c1 h.strs h.puts (by have := h.ok.hi; omega) (by have := h.ok.few; omega)
set_option maxRecDepth 100000 in
set_option maxHeartbeats 1000000 in
/-- THE CONTRACT of Seize. -/
theorem Seize {w : World} {b : Nat} {bv cv : Value} {D : Dk} (h : Has false w b bv cv D) :
    Calls Tryz.prog 17 #[.pointer (some ⟨b, 0, none⟩)] w (Copied D.bl D.ca w) := by
  have hz : (w.alloc (.cells #[.slice none 0 0, .slice none 0 0] 49)).heap.size = w.heap.size + 1 := by simp
  have hB0 : Below w.heap.size w (w.alloc (.cells #[.slice none 0 0, .slice none 0 0] 49)) := (Below.refl _ _).alloc (Nat.le_refl _) _
  have H := Lib.hid (isNone (h.step hB0))
  have HC := Lib.hid (copied (h.step hB0))
  have HZ := Lib.hid hz
  have HB0 := Lib.hid hB0
  have HR := Lib.hid (heap_alloc_new w (.cells #[.slice none 0 0, .slice none 0 0] 49))
  clear h hz hB0
  go_enter Tryz.func17, Tryz.ntmps17
  go_wp2_with (go_at_call 51; refine (H.out).mono ?_; rintro e w' ⟨rfl, rfl⟩)
  refine (HC.out).mono ?_
  rintro e w1 ⟨v, u, rfl, hv, hu, hne, hb1⟩
  obtain ⟨va, vl, vc, rfl⟩ := own_slice hv
  obtain ⟨ua, ul, uc, rfl⟩ := own_slice hu
  rw [HZ.out] at hv hu hb1
  have hR1 : w1.heap[w.heap.size]? = some (.cells #[.slice none 0 0, .slice none 0 0] 49 (0, 0)) := (hb1.block _ (by omega)).trans HR.out
  have hs1 := hb1.size
  rw [HZ.out] at hs1
  have hR2 : (w1.alloc (.cells #[.slice va vl vc, .slice ua ul uc] 75)).heap[w.heap.size]? = some (.cells #[.slice none 0 0, .slice none 0 0] 49 (0, 0)) := (heap_alloc_old _ _ _ (by omega)).trans hR1
  have hb2 : Below w.heap.size w (w1.alloc (.cells #[.slice va vl vc, .slice ua ul uc] 75)) := (HB0.out.trans (hb1.mono (by omega))).alloc (by omega) _
  have hv2 := hv.alloc (.cells #[.slice va vl vc, .slice ua ul uc] 75)
  have hu2 := hu.alloc (.cells #[.slice va vl vc, .slice ua ul uc] 75)
  generalize hW2 : w1.alloc (.cells #[.slice va vl vc, .slice ua ul uc] 75) = W2 at *
  have r0 : W2.cell? ⟨w.heap.size, 0, none⟩ = some (.slice none 0 0) := blk_cell hR2 rfl
  have r1 : W2.cell? ⟨w.heap.size, 1, none⟩ = some (.slice none 0 0) := blk_cell hR2 rfl
  have f0 := blk_free (i := 0) hR2
  have f1 := blk_free (i := 1) hR2
  have hb3 : ((W2.setCell ⟨w.heap.size, 0, none⟩ (.slice va vl vc)).setCell ⟨w.heap.size, 1, none⟩ (.slice ua ul uc)).heap[w.heap.size]? = some (.cells #[.slice va vl vc, .slice ua ul uc] 49 (0, 0)) := (blk_set (blk_set hR2)).trans rfl
  have hfar : ∀ k, w.heap.size < k → ((W2.setCell ⟨w.heap.size, 0, none⟩ (.slice va vl vc)).setCell ⟨w.heap.size, 1, none⟩ (.slice ua ul uc)).heap[k]? = W2.heap[k]? := fun k hk => (set_cell_block (Nat.ne_of_gt hk)).trans (set_cell_block (Nat.ne_of_gt hk))
  have HB4 := Lib.hid ((hb2.setCell (p := ⟨w.heap.size, 0, none⟩) (Nat.le_refl _) (.slice va vl vc)).setCell (p := ⟨w.heap.size, 1, none⟩) (Nat.le_refl _) (.slice ua ul uc))
  have HV' := Lib.hid (own_base (own_kept hv2 (fun k e => hfar k (by have := (hv2.lt k e).1; omega))) (B := w.heap.size) (by omega))
  have HU' := Lib.hid (own_base (own_kept hu2 (fun k e => hfar k (by have := (hu2.lt k e).1; omega))) (B := w.heap.size) (by omega))
  have HN := Lib.hid hne
  have hw1 : w1.heap.size ≠ w.heap.size := by omega
  have i0 : W2.cell? ⟨w1.heap.size, 0, none⟩ = some (.slice va vl vc) := by rw [← hW2]; exact blk_cell (heap_alloc_new w1 _) rfl
  have i1 : W2.cell? ⟨w1.heap.size, 1, none⟩ = some (.slice ua ul uc) := by rw [← hW2]; exact blk_cell (heap_alloc_new w1 _) rfl
  have c0 : _ = some (Value.slice va vl vc) := blk_cell (i := 0) hb3 rfl
  have c1 : _ = some (Value.slice ua ul uc) := blk_cell (i := 1) hb3 rfl
  clear hv hu hne hR1 hs1 hR2 hb2 hv2 hu2 hb3 hfar hb1
  go_wp2
  exact bodyPost_ret (v := .agg #[.slice va vl vc, .slice ua ul uc]) (by simp [results, Tryz.results17, go_sem, c0, c1]) rfl ⟨_, _, rfl, HV'.out, HU'.out, HN.out, HB4.out⟩
end Go.Proofs.YtoilcieineejiaaGreatDoor.DkC
/- A disk that is none, and one that no call made: what each call answers: the walks of their texts. No conditions but those that each lemma names. -/
namespace Go.Proofs.YtoilcieineejiaaGreatDoor.DkU
open Go.RowKit
open DkN DkM DkQ
/-- None, or one that no call made. -/
def Un (w : World) (p : Option Addr) : Prop := p = none ∨ ∃ b, p = some ⟨b, 0, none⟩ ∧ w.cell? ⟨b, 0, none⟩ = some (.slice none 0 0)
theorem Un.step {w w' : World} {p : Option Addr} (h : Un w p) (hb : Below w.heap.size w w') : Un w' p := by
  rcases h with rfl | ⟨b, rfl, hc⟩
  · exact .inl rfl
  · exact .inr ⟨b, rfl, (hb.cell (p := ⟨b, 0, none⟩) (World.block_lt_of_cell? w _ hc)).trans hc⟩
theorem isNone {w : World} {p : Option Addr} (h : Un w p) : Calls Tryz.prog 51 #[.pointer p] w fun e w' => e = .returned (.bool true) ∧ w = w' := by
  rcases h with rfl | ⟨b, rfl, hc⟩
  · exact isNone_nil w
  · exact isNone_un b w hc
theorem ready {w : World} {p : Option Addr} (h : Un w p) : Calls Tryz.prog 50 #[.pointer p] w fun e w' => e = .returned (.int .i64 1) ∧ w = w' := by
  rcases h with rfl | ⟨b, rfl, hc⟩
  · exact ready_nil w
  · exact ready_un b w hc
theorem Read {w : World} {p : Option Addr} (h : Un w p) (i : Int) : Calls Tryz.prog 73 #[.pointer p, .int .i64 i] w fun e w' => e = .returned (.tuple #[.string ⟨#[]⟩, .int .i64 1]) ∧ w = w' := by
  have H := Lib.hid (ready h)
  clear h
  go_enter Tryz.func73, Tryz.ntmps73
  go_wp2_with (go_at_call 50; refine (H.out).mono ?_; rintro e w' ⟨rfl, rfl⟩)
  go_ret2
  exact ⟨rfl, rfl⟩
theorem Write {w : World} {p : Option Addr} (h : Un w p) (i : Int) (s : ByteArray) : Calls Tryz.prog 83 #[.pointer p, .int .i64 i, .string s] w fun e w' => e = .returned (.int .i64 1) ∧ w = w' := by
  have H := Lib.hid (ready h)
  clear h
  go_enter Tryz.func83, Tryz.ntmps83
  go_wp2_with (go_at_call 50; refine (H.out).mono ?_; rintro e w' ⟨rfl, rfl⟩)
  go_ret
  exact ⟨rfl, rfl⟩
theorem Flush {w : World} {p : Option Addr} (h : Un w p) : Calls Tryz.prog 41 #[.pointer p] w fun e w' => e = .returned (.int .i64 1) ∧ w = w' := by
  have H := Lib.hid (ready h)
  clear h
  go_enter Tryz.func41, Tryz.ntmps41
  go_wp2_with (go_at_call 50; refine (H.out).mono ?_; rintro e w' ⟨rfl, rfl⟩)
  go_ret
  exact ⟨rfl, rfl⟩
theorem Arm {w : World} {p : Option Addr} (h : Un w p) (n : Int) : Calls Tryz.prog 11 #[.pointer p, .int .i64 n] w fun e w' => e = .returned (.int .i64 1) ∧ w = w' := by
  have H := Lib.hid (ready h)
  clear h
  go_enter Tryz.func11, Tryz.ntmps11
  go_wp2_with (go_at_call 50; refine (H.out).mono ?_; rintro e w' ⟨rfl, rfl⟩)
  go_ret
  exact ⟨rfl, rfl⟩
theorem Crash {w : World} {p : Option Addr} (h : Un w p) (v : Value) : Calls Tryz.prog 14 #[.pointer p, v] w fun e w' => e = .returned (.int .i64 1) ∧ w = w' := by
  have H := Lib.hid (isNone h)
  clear h
  go_enter Tryz.func14, Tryz.ntmps14
  go_wp2_with (go_at_call 51; refine (H.out).mono ?_; rintro e w' ⟨rfl, rfl⟩)
  go_ret
  exact ⟨rfl, rfl⟩
theorem Boot {w : World} {p : Option Addr} (h : Un w p) : Calls Tryz.prog 15 #[.pointer p] w fun e w' => e = .returned (.int .i64 1) ∧ w = w' := by
  have H := Lib.hid (isNone h)
  clear h
  go_enter Tryz.func15, Tryz.ntmps15
  go_wp2_with (go_at_call 51; refine (H.out).mono ?_; rintro e w' ⟨rfl, rfl⟩)
  go_ret
  exact ⟨rfl, rfl⟩
theorem Size {w : World} {p : Option Addr} (h : Un w p) : Calls Tryz.prog 35 #[.pointer p] w fun e w' => e = .returned (.int .i64 0) ∧ w = w' := by
  have H := Lib.hid (isNone h)
  clear h
  go_enter Tryz.func35, Tryz.ntmps35
  go_wp2_with (go_at_call 51; refine (H.out).mono ?_; rintro e w' ⟨rfl, rfl⟩)
  go_ret
  exact ⟨rfl, rfl⟩
theorem Down {w : World} {p : Option Addr} (h : Un w p) : Calls Tryz.prog 13 #[.pointer p] w fun e w' => e = .returned (.bool false) ∧ w = w' := by
  have H := Lib.hid (isNone h)
  clear h
  go_enter Tryz.func13, Tryz.ntmps13
  go_wp2_with (go_at_call 51; refine (H.out).mono ?_; rintro e w' ⟨rfl, rfl⟩)
  go_ret
  exact ⟨rfl, rfl⟩
theorem Seize {w : World} {p : Option Addr} (h : Un w p) : Calls Tryz.prog 17 #[.pointer p] w fun e w' => e = .returned (.agg #[.slice none 0 0, .slice none 0 0]) ∧ Below w.heap.size w w' := by
  have H := Lib.hid (isNone (h.step ((Below.refl _ _).alloc (Nat.le_refl _) (.cells #[.slice none 0 0, .slice none 0 0] 49))))
  clear h
  go_enter Tryz.func17, Tryz.ntmps17
  go_wp2_with (go_at_call 51; refine (H.out).mono ?_; rintro e w' ⟨rfl, rfl⟩)
  exact bodyPost_ret (v := .agg #[.slice none 0 0, .slice none 0 0]) (by simp [results, Tryz.results17, go_sem]) rfl ⟨rfl, (Below.refl _ _).alloc (Nat.le_refl _) _⟩
/-! An act, as it is handed over. -/
structure RawAct where
  kind : Int
  at_ : Int
  n : Int
  text : ByteArray
  raw : Bool
  ka : Option Addr
  kn : Nat
  kc : Nat
def RawAct.cells (a : RawAct) : Array Value := #[.int .i64 a.kind, .int .i64 a.at_, .int .i64 a.n, .string a.text, .bool a.raw, .slice a.ka a.kn a.kc]
def RawAct.txt (a : RawAct) : ByteArray := if a.raw then a.text else full4 a.text
end Go.Proofs.YtoilcieineejiaaGreatDoor.DkU
