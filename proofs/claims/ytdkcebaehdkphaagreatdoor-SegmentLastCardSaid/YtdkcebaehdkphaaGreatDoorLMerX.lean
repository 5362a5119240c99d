/- MerX MerZ: one behind the other. -/
import Derived.Test.YtdkcebaehdkphaaGreatDoorLMerU
import Derived.Test.YtdkcebaehdkphaaGreatDoorLSum
/- The program's package merkle: clash: where it tells none. No conditions but those that each lemma names. -/
namespace Go.Proofs.YtdkcebaehdkphaaGreatDoor.MerX
open Go.RowKit Go.Shelf STurn SSum MerG MerQ MerN MerM MerC MerS MerB MerA MerP MerE MerK MerR MerU MerV
/-- Does a path lead another leaf to the root? -/
def clashB (ls : List L) (i : Int) (x : L) (p : List L) : Bool :=
  all32 ls && checkB (MerN.root nd (sum []) ls) (ls.length : Int) i x p && !decide (x = ls.getD i.toNat [])
theorem check_in {r : L} {n i : Int} {x : L} {p : List L} (h : checkB r n i x p = true) : mayBe n i = true ∧ fitB n.toNat i.toNat x p = true ∧ climbN nd n.toNat i.toNat x p = r := by
  unfold checkB upR at h
  cases hm : mayBe n i with
  | false => rw [hm] at h; simp at h
  | true =>
    cases hf : fitB n.toNat i.toNat x p with
    | false => rw [hm, hf] at h; simp at h
    | true => rw [hm, hf] at h; simpa using h
/-- The results' boxes. -/
structure Bx3 (w : World) (v0 v1 v2 : Value) (W : World) : Prop where
  below : Below w.heap.size w W
  lt : w.heap.size + 3 ≤ W.heap.size
  b0 : W.heap[w.heap.size]? = some (.cells #[v0] 9 (0, 0))
  b1 : W.heap[w.heap.size + 1]? = some (.cells #[v1] 9 (0, 0))
  b2 : W.heap[w.heap.size + 1 + 1]? = some (.cells #[v2] 4 (0, 0))
theorem Bx3.step {w W V : World} {v0 v1 v2 : Value} (h : Bx3 w v0 v1 v2 W) (hb : Below W.heap.size W V) : Bx3 w v0 v1 v2 V := by
  have hl := h.lt
  exact ⟨h.below.trans (hb.mono h.below.size), Nat.le_trans hl hb.size, (hb.block _ (by omega)).trans h.b0, (hb.block _ (by omega)).trans h.b1, (hb.block _ (by omega)).trans h.b2⟩
theorem Bx3.fin {w W : World} {v0 v1 v2 : Value} (h : Bx3 w v0 v1 v2 W) (x0 x1 x2 : Value) :
    Bx3 w x0 x1 x2 (((W.setCell ⟨w.heap.size, 0, none⟩ x0).setCell ⟨w.heap.size + 1, 0, none⟩ x1).setCell ⟨w.heap.size + 1 + 1, 0, none⟩ x2) := by
  refine ⟨((h.below.setCell (p := ⟨w.heap.size, 0, none⟩) (Nat.le_refl _) _).setCell (p := ⟨w.heap.size + 1, 0, none⟩) (Nat.le_succ _) _).setCell (p := ⟨w.heap.size + 1 + 1, 0, none⟩) (by show w.heap.size ≤ w.heap.size + 1 + 1; omega) _,
    Nat.le_trans h.lt (Nat.le_trans (KeepsWalks.setCell W _ x0).size (Nat.le_trans (KeepsWalks.setCell _ _ x1).size (KeepsWalks.setCell _ _ x2).size)), ?_, ?_, ?_⟩
  · exact (Below.heap_setCell _ ⟨w.heap.size + 1 + 1, 0, none⟩ x2 _ (show w.heap.size ≠ w.heap.size + 1 + 1 by omega)).trans ((Below.heap_setCell _ ⟨w.heap.size + 1, 0, none⟩ x1 _ (show w.heap.size ≠ w.heap.size + 1 by omega)).trans (Boxed.set x0 h.b0))
  · exact (Below.heap_setCell _ ⟨w.heap.size + 1 + 1, 0, none⟩ x2 _ (show w.heap.size + 1 ≠ w.heap.size + 1 + 1 by omega)).trans (Boxed.set x1 ((Below.heap_setCell W ⟨w.heap.size, 0, none⟩ x0 _ (show w.heap.size + 1 ≠ w.heap.size by omega)).trans h.b1))
  · exact Boxed.set x2 ((Below.heap_setCell _ ⟨w.heap.size + 1, 0, none⟩ x1 _ (show w.heap.size + 1 + 1 ≠ w.heap.size + 1 by omega)).trans ((Below.heap_setCell W ⟨w.heap.size, 0, none⟩ x0 _ (show w.heap.size + 1 + 1 ≠ w.heap.size by omega)).trans h.b2))
theorem bx3 (w : World) : Bx3 w (.string ⟨#[]⟩) (.string ⟨#[]⟩) (.bool false) (((w.alloc (.cells #[.string ⟨#[]⟩] 9)).alloc (.cells #[.string ⟨#[]⟩] 9)).alloc (.cells #[.bool false] 4)) := by
  obtain ⟨hs, h0, h1, h2, hb⟩ := MerR.three w (.cells #[.string ⟨#[]⟩] 9) (.cells #[.string ⟨#[]⟩] 9) (.cells #[.bool false] 4)
  exact ⟨hb, by omega, h0, h1, h2⟩
section
variable (b : Option Addr) (ls : List L) (d : Nat) (i : Int) (x : L) (a : Option Addr) (p : List L) (c : Nat) (w : World) (hls : Strs w w.heap.size b ls.length ls) (hln : ls.length ≤ 100000) (hll : ∀ l ∈ ls, l.length ≤ 9223372036854775807)
  (h : Strs w w.heap.size a p.length p) (hp : p.length ≤ 1000000) (hx : x.length ≤ 9223372036854775807) (hl : ∀ l ∈ p, l.length ≤ 9223372036854775807) (hr : Rds w)
include hls hln hll h hp hx hl hr
theorem clash_no (hno : clashB ls i x p = false) :
    Calls Tryz.prog 77 #[sv, .slice b ls.length d, .int .i64 i, str x, .slice a p.length c] w fun e w' => e = .returned (.tuple #[str [], str [], .bool false]) ∧ Below w.heap.size w w' := by
  have HRo := Lib.hid (fun W (hb : Below w.heap.size w W) => root_any' b ls.length d ls W (hls.below hb |>.more hb.size) hln hll (hr.step hb))
  have HCk := Lib.hid (fun r W (hb : Below w.heap.size w W) => check_any r a (ls.length : Int) i x c p W (h.below hb |>.more hb.size) hp hx hl (hr.step hb))
  have HLs := Lib.hid hls
  clear hls hll h hp hx hl hr
  unfold clashB at hno
  unfold rootR at HRo
  cases hall : all32 ls with
  | false =>
    simp only [hall, Bool.false_eq_true, if_false] at HRo
    clear hno hall HCk HLs
    have X0 := Lib.hid (bx3 w)
    go_enter Tryz.func77, Tryz.ntmps77
    go_wp2_with (go_at_call 74; refine (HRo.out _ X0.out.below).mono ?_; rintro e W1 ⟨rfl, hb1⟩; have X1 := Lib.hid (X0.out.step hb1); have c0 := blk_cell (i := 0) X1.out.b0 rfl; have c1 := blk_cell (i := 0) X1.out.b1 rfl; have c2 := blk_cell (i := 0) X1.out.b2 rfl; have f0 := blk_free (i := 0) X1.out.b0; have f1 := blk_free (i := 0) X1.out.b1; have f2 := blk_free (i := 0) X1.out.b2; clear hb1)
    have XF := X1.out.fin (str []) (str []) (.bool false)
    have d0 := blk_cell (i := 0) XF.b0 rfl
    have d1 := blk_cell (i := 0) XF.b1 rfl
    have d2 := blk_cell (i := 0) XF.b2 rfl
    exact bodyPost_ret (v := .tuple #[str [], str [], .bool false]) (by simp [results, Tryz.f77, go_sem, d0, d1, d2]) rfl ⟨rfl, XF.below⟩
  | true =>
    simp only [hall, if_true] at HRo
    rw [hall, Bool.true_and] at hno
    clear hall
    have X0 := Lib.hid (bx3 w)
    have HCk2 := Lib.hid (fun W hb => HCk.out (MerN.root nd (sum []) ls) W hb)
    cases hck : checkB (MerN.root nd (sum []) ls) (ls.length : Int) i x p with
    | false =>
      rw [hck] at HCk2
      clear hno hck HCk HLs
      generalize MerN.root nd (sum []) ls = rt at *
      go_enter Tryz.func77, Tryz.ntmps77
      go_wp2_with (first
        | (go_at_call 74; refine (HRo.out _ X0.out.below).mono ?_; rintro e W1 ⟨rfl, hb1⟩; have X1 := Lib.hid (X0.out.step hb1); clear hb1)
        | (go_at_call 76; refine (HCk2.out _ X1.out.below).mono ?_; rintro e W2 ⟨rfl, hb2⟩; have X2 := Lib.hid (X1.out.step hb2); have c0 := blk_cell (i := 0) X2.out.b0 rfl; have c1 := blk_cell (i := 0) X2.out.b1 rfl; have c2 := blk_cell (i := 0) X2.out.b2 rfl; have f0 := blk_free (i := 0) X2.out.b0; have f1 := blk_free (i := 0) X2.out.b1; have f2 := blk_free (i := 0) X2.out.b2; clear hb2))
      have XF := X2.out.fin (str []) (str []) (.bool false)
      have d0 := blk_cell (i := 0) XF.b0 rfl
      have d1 := blk_cell (i := 0) XF.b1 rfl
      have d2 := blk_cell (i := 0) XF.b2 rfl
      exact bodyPost_ret (v := .tuple #[str [], str [], .bool false]) (by simp [results, Tryz.f77, go_sem, d0, d1, d2]) rfl ⟨rfl, XF.below⟩
    | true =>
      obtain ⟨hm, _, _⟩ := check_in hck
      unfold mayBe at hm
      rw [Bool.and_eq_true, decide_eq_true_eq, decide_eq_true_eq] at hm
      obtain ⟨k, rfl⟩ : ∃ k : Nat, i = (k : Int) := ⟨i.toNat, by omega⟩
      have hk : k < ls.length := by omega
      rw [hck, Int.toNat_natCast] at hno
      have hxe : x = ls.getD k [] := by simpa using hno
      rw [hck] at HCk2
      obtain ⟨q, off, rfl, hq, hc⟩ := HLs.out.2 (by omega)
      have HCel := Lib.hid (fun W (hb : Below w.heap.size w W) => (hb.cell (p := ⟨q, off + k, none⟩) hq).trans (hc k hk))
      rw [← hxe] at HCel
      have q0 : (0 : Int) ≤ (k : Int) := by omega
      have q1 : (k : Int) < (ls.length : Int) := by omega
      have he : (x == x) = true := by simp
      clear hno hck hm hxe hc hq HCk HLs
      generalize MerN.root nd (sum []) ls = rt at *
      go_enter Tryz.func77, Tryz.ntmps77
      go_wp2_with (first
        | (go_at_call 74; refine (HRo.out _ X0.out.below).mono ?_; rintro e W1 ⟨rfl, hb1⟩; have X1 := Lib.hid (X0.out.step hb1); clear hb1)
        | (go_at_call 76; refine (HCk2.out _ X1.out.below).mono ?_; rintro e W2 ⟨rfl, hb2⟩; have X2 := Lib.hid (X1.out.step hb2); have c0 := blk_cell (i := 0) X2.out.b0 rfl; have c1 := blk_cell (i := 0) X2.out.b1 rfl; have c2 := blk_cell (i := 0) X2.out.b2 rfl; have f0 := blk_free (i := 0) X2.out.b0; have f1 := blk_free (i := 0) X2.out.b1; have f2 := blk_free (i := 0) X2.out.b2; have cy := HCel.out _ X2.out.below; clear hb2))
      have XF := X2.out.fin (str []) (str []) (.bool false)
      have d0 := blk_cell (i := 0) XF.b0 rfl
      have d1 := blk_cell (i := 0) XF.b1 rfl
      have d2 := blk_cell (i := 0) XF.b2 rfl
      exact bodyPost_ret (v := .tuple #[str [], str [], .bool false]) (by simp [results, Tryz.f77, go_sem, d0, d1, d2]) rfl ⟨rfl, XF.below⟩
end
end Go.Proofs.YtdkcebaehdkphaaGreatDoor.MerX
/- The statements' own calls for the program's package merkle: the chapter's example; whether hashes are gone through. No conditions but those that each lemma names. -/
namespace Go.Proofs.YtdkcebaehdkphaaGreatDoor.MerZ
open Go.RowKit Go.Shelf STurn SSum MerG MerQ MerN MerM MerC MerR MerU MerV
theorem root3 (a b c : L) : MerN.root nd (sum []) [a, b, c] = nd (nd a b) c := rfl
theorem path3 (a b c : L) : pathN nd [a, b, c] 2 = [nd a b] := rfl
/-- Are hashes gone through? -/
def fewB (ls : List L) : Bool := decide (ls.length ≤ 70) && decide (bsum ls ≤ 5000)
theorem few_len {ls : List L} (h : fewB ls = true) : ls.length ≤ 70 := by
  unfold fewB at h
  rw [Bool.and_eq_true, decide_eq_true_eq] at h
  exact h.1
end Go.Proofs.YtdkcebaehdkphaaGreatDoor.MerZ
