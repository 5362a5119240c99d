/- slices.AppendSeq, slices.Collect over any iterator that tells given nodes: the walks of their texts. No conditions but those that each lemma names. -/
import Derived.Test.YtdkcebaehdkphaaGreatDoorMerB
import Derived.Test.YtdkcebaehdkphaaGreatDoorMem
namespace Go.Proofs.YtdkcebaehdkphaaGreatDoor.MerE
open Go.RowKit Go.Shelf MerG MerA MerB
attribute [local go_sem] Oper.semAt_some
theorem info_n : (Tryz.prog.info? 153).map (fun i => (i.zero, i.size, i.bytes)) = some (some (.agg #[.string ByteArray.empty, .string ByteArray.empty]), 2, 32) := by kernel_rfl
/-- A node as it is handed over, and the cells of some. -/
def encN (x : List UInt8 × List UInt8) : Array Value := #[.agg #[.string ⟨x.1.toArray⟩, .string ⟨x.2.toArray⟩]]
def cellsN (xs : List (List UInt8 × List UInt8)) : List Value := xs.flatMap fun x => [.string ⟨x.1.toArray⟩, .string ⟨x.2.toArray⟩]
theorem cellsN_at (xs : List (List UInt8 × List UInt8)) (j : Nat) (h : j < xs.length) : (cellsN xs)[2 * j]? = some (.string ⟨xs[j].1.toArray⟩) ∧ (cellsN xs)[2 * j + 1]? = some (.string ⟨xs[j].2.toArray⟩) := by
  induction xs generalizing j with
  | nil => simp at h
  | cons x xs ih =>
    cases j with
    | zero => simp [cellsN]
    | succ j =>
      have := ih j (by simpa using h)
      simp only [cellsN, List.flatMap_cons, List.getElem_cons_succ] at this ⊢
      rw [show 2 * (j + 1) = 2 * j + 1 + 1 by omega]
      simpa using this
theorem cell_two_new (w : World) (x y : Value) (t : TypeId) : ∀ j u, [x, y][j]? = some u → (w.alloc (.cells #[x, y] t)).cell? ((⟨w.heap.size, 0, none⟩ : Addr).add j) = some u := by
  intro j u hu
  have h := World.alloc_heap_new w (.cells #[x, y] t)
  match j with
  | 0 => simp at hu; subst hu; exact blk_cell (i := 0) h rfl
  | 1 => simp at hu; subst hu; exact blk_cell (i := 1) h rfl
  | j + 2 => simp at hu
set_option maxRecDepth 100000 in
set_option maxHeartbeats 2000000 in
theorem appendN {c : Bool} (gf : Nat) (lb : Array Value) (eg : ∀ args w, (callFunc gf args).run Tryz.prog w = .ok (.enter gf args) w) (xs : List (List UInt8 × List UInt8)) (hx : xs.length ≤ 1000000) (RO : Nat → Prop) (w : World) (hRO : ∀ b, RO b → b < w.heap.size)
    (hseq : Seq c Fence.wide 5 Tryz.prog gf lb encN (Nxt xs) (fun ys => ys = xs) (fun _ => True) RO w) :
    Calls Tryz.prog 119 #[.slice none 0 0, .func (.func gf) #[] lb] w (Coll w.heap.size w 153 2 xs.length (cellsN xs)) := by
  refine (callsIn_wide (n := 6)).1 ?_
  refine callsIn_of_wp_marks Tryz.func119 rfl trivial ?_ rfl
  simp only [Tryz.ntmps119, List.size_toArray, List.length_cons, List.length_nil, Nat.reduceAdd, Nat.reduceSub, Array.replicate_succ, Array.replicate_zero, List.push_toArray, List.append_toArray, List.nil_append, List.cons_append]
  gi_wp2
  have hB0 : Below w.heap.size w (w.alloc (.cells #[.slice none 0 0] 150)) := (Below.refl _ _).alloc (Nat.le_refl _) _
  have hBx := Boxed.new w 150 (.slice none 0 0)
  have hsz : (w.alloc (.cells #[.slice none 0 0] 150)).heap.size = w.heap.size + 1 := by simp
  obtain ⟨W0, hW0⟩ : ∃ W0, w.alloc (.cells #[.slice none 0 0] 150) = W0 := ⟨_, rfl⟩
  rw [hW0] at hB0 hBx hsz ⊢
  clear hW0
  obtain ⟨i0, hi, hz0, hz1, hz2⟩ := info_parts info_n
  refine range rfl (by omega) (gf := gf) (lb := lb) rfl trivial eg (hseq.later ⟨by omega, fun b hb _ => hB0.block b hb⟩) (fun b hb => by have := hRO b hb; omega) (fun _ => rfl)
    (fun T pre W => ∃ v, Col w.heap.size w w.heap.size 150 153 2 T pre.length (cellsN pre) v W) (fun _ _ _ _ => False)
    (fun s T T' A B ⟨v, h⟩ ht _ => ⟨v, h.turns (Nat.le_refl _) ht⟩) (fun _ => abide_none) ⟨_, Col.start hBx hB0⟩
    (fun T s W => (∃ v, Col w.heap.size w w.heap.size 150 153 2 T s.1.length (cellsN s.1) v W) ∧ s.1.length < xs.length ∧ ∃ Bx, ¬ T Bx ∧ W.heap[Bx]? = some (.cells #[.string ⟨s.2.1.1.toArray⟩, .string ⟨s.2.1.2.toArray⟩] 153 (0, 0)) ∧ s.2.2 = { tmps := #[.slice none 0 0, .func (.func gf) #[] lb, .pointer (some ⟨w.heap.size, 0, none⟩), undef, .slice none 0 0, .pointer (some ⟨Bx, 0, none⟩), .func (.func gf) #[] lb, .agg #[.string ⟨s.2.1.1.toArray⟩, .string ⟨s.2.1.2.toArray⟩], undef, undef, undef, undef, undef], defers := [] })
    (fun T s W l r r' ⟨⟨v, h⟩, h2, Bx, h3, h4, h5⟩ hl _ => ⟨⟨v, h.putObj (Nat.le_refl _) hl _⟩, h2, Bx, h3, (World.putObj_heap_other (fun e => h3 (by rw [e]; exact hl))).trans h4, h5⟩) ?assign ?body ?done ?stop
  case assign =>
    rintro l T pre x W K ⟨v, hI⟩ ⟨K0, _, hg⟩ hK
    simp only [encN]
    gi_wp2
    exact hK _ _ ((Kept.refl _ _).alloc _) ⟨⟨v, hI.turns (Nat.le_refl _) (Turns.alloc' _)⟩, hg.lt, W.heap.size, fun e => by have := hI.low _ e; omega, World.alloc_heap_new _ _, rfl⟩
  case body =>
    rintro l T pre x a' W ⟨⟨v, hC⟩, hlt, Bx, hT, hX, ha⟩
    dsimp only at hC hlt ha hX
    subst ha
    have HC := Lib.hid hC
    have hc := hC.box.2.cell
    have y0 := blk_cell (i := 0) hX rfl
    have y1 := blk_cell (i := 1) hX rfl
    have hle := hC.safe.2.size
    clear hC
    gi_wp2_with (gi_at_builtin; (refine wpListIn_append_own_at _ rfl _ _ _ rfl w.heap.size 153 i0 _ 2 32 Tryz.underlying150 hi hz0 hz1 hz2 rfl (by decide) _ _ _ rfl (HC.out.own.alloc _) ⟨W.heap.size, 0, none⟩ 1 1 [.string ⟨x.1.toArray⟩, .string ⟨x.2.toArray⟩] rfl rfl (cell_two_new _ _ _ _) (by simp [Value.oneCell']) (by unfold maxLen; omega) (by omega) (by simp; omega) ?_; intro v' w1 hown' hgrow _ hat; obtain ⟨g', cap', rfl⟩ := ownsRow_succ hown'; have HA := Lib.hid (HC.out.appended (by decide) (Nat.le_refl _) hle hRO ((Below.refl _ W).alloc (Nat.le_refl _) _) hown' hgrow hat); have hc1 := HA.out.1.cell; have hf1 := HA.out.1.frozen; clear hown' hgrow hat))
    exact ⟨HA.out.2.2, _, by simpa [cellsN] using HA.out.2.1⟩
  case done =>
    rintro D T ys W hD hT rfl ⟨v, hC⟩ hK
    have HC := Lib.hid hC
    have hc := hC.box.2.cell
    obtain ⟨a, cc, rfl⟩ := own_slice hC.own
    clear hC
    gi_wp2
    refine ⟨by simp, .inl ⟨_, _, rfl, run_takeDeferred hK, ?_⟩⟩
    exact ⟨_, results_tmp rfl _ _ _, by simpa using coll_end HC.out hT hK _⟩
  case stop =>
    rintro D c T pre W _ _ _ h _
    exact h.elim
theorem collectN {c : Bool} (gf : Nat) (lb : Array Value) (eg : ∀ args w, (callFunc gf args).run Tryz.prog w = .ok (.enter gf args) w) (xs : List (List UInt8 × List UInt8)) (hx : xs.length ≤ 1000000) (RO : Nat → Prop) (w : World) (hRO : ∀ b, RO b → b < w.heap.size)
    (hseq : Seq c Fence.wide 5 Tryz.prog gf lb encN (Nxt xs) (fun ys => ys = xs) (fun _ => True) RO w) :
    Calls Tryz.prog 96 #[.func (.func gf) #[] lb] w (Coll w.heap.size w 153 2 xs.length (cellsN xs)) := by
  have HA := Lib.hid (appendN gf lb eg xs hx RO w hRO hseq)
  clear hseq eg
  go_enter Tryz.func96, Tryz.ntmps96
  go_wp2_with (go_at_call 119; refine HA.out.mono ?_; rintro e w' ⟨a, cc, rfl, hr⟩; have HR := Lib.hid hr; clear hr)
  go_ret
  exact ⟨a, cc, rfl, HR.out⟩
end Go.Proofs.YtdkcebaehdkphaaGreatDoor.MerE
