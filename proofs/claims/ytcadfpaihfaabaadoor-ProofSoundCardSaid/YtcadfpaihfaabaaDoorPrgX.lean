/- The program's package proof: apart: two unlike texts with one sum, of a leaf that is named where another one stands: the walk of its text. The condition: the rounds' numbers lie in the program's variable. -/
import Derived.Test.YtcadfpaihfaabaaDoorLPrgV
import Derived.Test.YtcadfpaihfaabaaDoorLMerY
namespace Go.Proofs.YtcadfpaihfaabaaDoor.PrgX
set_option linter.unusedVariables false
open Go.RowKit STurn SSum
open PrfL PrfN PrfM PrfB PrfG PrgN PrgC PrgK PrgB PrgT PrgI PrgL PrgV MerQ MerC MerV MerX MerW
/-- Two unlike texts with one sum are told. -/
def Pair (w : World) (e : Ending) (w' : World) : Prop := ∃ u v, e = .returned (.tuple #[str u, str v, .bool true]) ∧ (u ≠ v ∧ sum u = sum v ∧ u.length ≤ 1000 ∧ v.length ≤ 1000) ∧ Below w.heap.size w w'
/-- The boxes of the trees' functions, a seat and a leaf. -/
structure Tq (w : World) (m : MSeat) (y : Lf) (W : World) : Prop where
  d : Below w.heap.size w W
  t : W.heap[w.heap.size]? = some (.cells tc 50 (0, 0))
  s : W.heap[w.heap.size + 1]? = some (.cells (sa m) 72 (0, 0))
  o : W.heap[w.heap.size + 1 + 1]? = some (.cells #[.int .i64 y.1, st y.2] 25 (0, 0))
theorem Tq.step {w : World} {m : MSeat} {y : Lf} {W V : World} (h : Tq w m y W) (hb : Below W.heap.size W V) : Tq w m y V :=
  have h0 := (Array.getElem?_eq_some_iff.1 h.t).1
  have h1 := (Array.getElem?_eq_some_iff.1 h.s).1
  have h2 := (Array.getElem?_eq_some_iff.1 h.o).1
  ⟨h.d.trans (hb.mono (by omega)), (hb.block _ h0).trans h.t, (hb.block _ h1).trans h.s, (hb.block _ h2).trans h.o⟩
theorem tq_new (w : World) (m : MSeat) (y : Lf) : Tq w m y (((w.alloc (.cells tc 50)).alloc (.cells (sa m) 72)).alloc (.cells #[.int .i64 y.1, st y.2] 25)) :=
  ⟨below_alloc3 _ _ _ _, alloc3_0 _ _ _ _, alloc3_1 _ _ _ _, alloc3_2 _ _ _ _⟩
theorem zero_cons (s : L) : (⟨#[0]⟩ ++ ⟨s.toArray⟩ : ByteArray) = ⟨(0 :: s).toArray⟩ := by
  apply ByteArray.ext
  simp
section
variable (l : List Lf) (p : Option Addr) (n c : Nat) (m : MSeat) (w : World) (hln : l.length = n) (hn : n ≤ 100000) (hh : Strs w w.heap.size p n (hs l)) (hf : Fit m.s.leaf) (hfo : Fit (l.getD m.s.at_.toNat no))
  (hp : Strs w w.heap.size m.a m.s.path.length m.s.path) (hpl : m.s.path.length ≤ 1000000) (hl : ∀ x ∈ m.s.path, x.length ≤ 9223372036854775807) (hr : Rds w) (hnm : named l m.s.at_ m.s.leaf m.s.path = true)
include hln hn hh hf hfo hp hpl hl hr hnm
set_option maxRecDepth 100000 in
set_option maxHeartbeats 2000000 in
theorem apart : Calls Tryd.prog 36 #[.agg tc, .slice p n c, .agg (sa m), .agg #[.int .i64 (l.getD m.s.at_.toNat no).1, st (l.getD m.s.at_.toNat no).2]] w (Pair w) := by
  obtain ⟨W1, hW1⟩ : ∃ W1, W1 = ((w.alloc (.cells tc 50)).alloc (.cells (sa m) 72)).alloc (.cells #[.int .i64 (l.getD m.s.at_.toNat no).1, st (l.getD m.s.at_.toNat no).2] 25) := ⟨_, rfl⟩
  have TQ := Lib.hid (show Tq w m (l.getD m.s.at_.toNat no) W1 by rw [hW1]; exact tq_new w m _)
  have hld : leads (rt l) (l.length : Int) m.s.at_ m.s.leaf m.s.path = true := by
    have := hnm
    unfold named at this
    rw [Bool.and_eq_true] at this
    exact this.1
  obtain ⟨hok, ⟨hi0, hi1⟩, _⟩ := leads_in hld
  obtain ⟨k, hk⟩ : ∃ k : Nat, m.s.at_ = (k : Int) := ⟨m.s.at_.toNat, by omega⟩
  have hkn : k < n := by omega
  have hkl : k < (hs l).length := by rw [hs_length]; omega
  have HSd := Lib.hid (fun W => Said m.s.leaf W hf)
  have hsl := said_length hok
  have HLf := Lib.hid (fun W (hb : Below w.heap.size w W) => Leaf (said m.s.leaf) (by omega) W (hr.step hb))
  rw [show sum (0 :: said m.s.leaf) = lh m.s.leaf from rfl] at HLf
  have hcell : ∃ g o, p = some ⟨g, o, none⟩ ∧ g < w.heap.size ∧ w.cell? ⟨g, o + k, none⟩ = some (st (lh (l.getD k no))) := by
    obtain ⟨g, o, e, hg, hc⟩ := hh.2 (by omega)
    exact ⟨g, o, e, hg, by rw [← hs_at l (by omega)]; exact hc k hkn⟩
  obtain ⟨g, o, rfl, hg, hc⟩ := hcell
  have HC := Lib.hid (fun W (hb : Below w.heap.size w W) => (hb.cell (p := ⟨g, o + k, none⟩) hg).trans hc)
  have q0 : (0 : Int) ≤ (k : Int) := by omega
  have q1 : (k : Int) < (n : Int) := by omega
  rw [hk, Int.toNat_natCast] at hfo TQ hW1 ⊢
  by_cases he : lh m.s.leaf = lh (l.getD k no)
  · have HN := Lib.hid (named_same hnm (by rw [hk, Int.toNat_natCast]; exact he))
    rw [hk, Int.toNat_natCast] at HN
    have HSo := Lib.hid (fun W => Said (l.getD k no) W hfo)
    have hlo : (said (l.getD k no)).length ≤ 36 := PrgH.said_le _
    rw [← he] at HC
    obtain ⟨⟨s0, s1, ⟨s2, s3⟩, s4⟩, ma, mc⟩ := m
    dsimp only at hk HSd HLf HC HN hsl
    subst hk
    generalize said (s2, s3) = sd at *
    generalize said (l.getD k no) = so at *
    generalize lh (s2, s3) = y at *
    generalize l.getD k no = yo at *
    have hee : (y == y) = true := by simp
    obtain ⟨yo0, yo1⟩ := yo
    dsimp only at HSo hW1
    clear hln hn hh hf hfo hp hpl hl hr hnm hld hok hi0 hi1 hc hg hkl he hkn
    go_enter Tryd.func36, Tryd.ntmps36
    go_upto_region 1 with (fail)
    rw [← hW1]
    clear hW1
    have k2 : W1.cell? ⟨w.heap.size + 1, 2, none⟩ = some (.int .i64 s2) := blk_cell TQ.out.s rfl
    have k3 : W1.cell? ⟨w.heap.size + 1, 3, none⟩ = some (st s3) := blk_cell TQ.out.s rfl
    have F1 : Hid True := Lib.hid trivial
    go_wp2_with (first
      | (clear F1; go_at_call 47; refine (HSd.out _).mono ?_; rintro e w2 ⟨rfl, hb⟩; replace TQ := Lib.hid (TQ.out.step hb); have k0 : w2.cell? ⟨w.heap.size, 0, none⟩ = some (fv 21) := blk_cell TQ.out.t rfl; clear hb k2 k3)
      | (go_at_call 21; refine (HLf.out _ TQ.out.d).mono ?_; rintro e w3 ⟨rfl, hb⟩; replace TQ := Lib.hid (TQ.out.step hb); have k1 : w3.cell? ⟨w.heap.size + 1, 0, none⟩ = some (.int .i64 (k : Int)) := blk_cell TQ.out.s rfl; have kc := HC.out _ TQ.out.d; have m0 : w3.cell? ⟨w.heap.size + 1 + 1, 0, none⟩ = some (.int .i64 yo0) := blk_cell TQ.out.o rfl; have m1 : w3.cell? ⟨w.heap.size + 1 + 1, 1, none⟩ = some (st yo1) := blk_cell TQ.out.o rfl; clear hb k0)
      | (go_at_call 47; refine (HSo.out _).mono ?_; rintro e w4 ⟨rfl, hb⟩; replace TQ := Lib.hid (TQ.out.step hb); clear hb))
    go_ret3
    exact ⟨0 :: sd, 0 :: so, by rw [zero_cons, zero_cons]; rfl, ⟨HN.out.1, HN.out.2, by simp; omega, by simp; omega⟩, TQ.out.d⟩
  · have HK := Lib.hid (named_tree hnm (by rw [hk, Int.toNat_natCast]; exact he))
    have HCl := Lib.hid (fun W (hb : Below w.heap.size w W) => Clash (some ⟨g, o, none⟩) (hs l) c m.s.at_ (lh m.s.leaf) m.a m.s.path m.c W (by rw [hs_length, hln]; exact (hh.below hb).more hb.size) (by rw [hs_length]; omega) (PrgR.hs_le l) ((hp.below hb).more hb.size) hpl (by rw [lh_length]; omega) hl (hr.step hb))
    have HCl2 : Hid (∀ W, Below w.heap.size w W → Calls Tryd.prog 25 #[.slice (some ⟨g, o, none⟩) n c, .int .i64 m.s.at_, str (lh m.s.leaf), .slice m.a m.s.path.length m.c] W fun e w' => ∃ u v, e = .returned (.tuple #[str u, str v, .bool true]) ∧ (u ≠ v ∧ sum u = sum v ∧ u.length = 65 ∧ v.length = 65) ∧ Below W.heap.size W w') := Lib.hid fun W hb => by
      have := HCl.out W hb
      unfold ClashAns at this
      rw [hs_length, hln] at this
      simp only [if_pos HK.out] at this
      exact this
    have hee : (lh m.s.leaf == lh (l.getD k no)) = false := by rw [beq_eq_false_iff_ne]; exact he
    obtain ⟨⟨s0, s1, ⟨s2, s3⟩, s4⟩, ma, mc⟩ := m
    dsimp only at hk HSd HLf HC HCl2 hee hsl
    subst hk
    generalize said (s2, s3) = sd at *
    generalize lh (s2, s3) = y at *
    generalize lh (l.getD k no) = z at *
    generalize l.getD k no = yo at *
    clear hln hn hh hf hfo hp hpl hl hr hnm hld hok hi0 hi1 hc hg hkl he hkn HK HCl
    go_enter Tryd.func36, Tryd.ntmps36
    go_upto_region 1 with (fail)
    rw [← hW1]
    clear hW1
    have k2 : W1.cell? ⟨w.heap.size + 1, 2, none⟩ = some (.int .i64 s2) := blk_cell TQ.out.s rfl
    have k3 : W1.cell? ⟨w.heap.size + 1, 3, none⟩ = some (st s3) := blk_cell TQ.out.s rfl
    go_wp2_with (first
      | (go_at_call 47; refine (HSd.out _).mono ?_; rintro e w2 ⟨rfl, hb⟩; replace TQ := Lib.hid (TQ.out.step hb); have k0 : w2.cell? ⟨w.heap.size, 0, none⟩ = some (fv 21) := blk_cell TQ.out.t rfl; clear hb k2 k3)
      | (go_at_call 21; refine (HLf.out _ TQ.out.d).mono ?_; rintro e w3 ⟨rfl, hb⟩; replace TQ := Lib.hid (TQ.out.step hb); have k1 : w3.cell? ⟨w.heap.size + 1, 0, none⟩ = some (.int .i64 (k : Int)) := blk_cell TQ.out.s rfl; have k4 : w3.cell? ⟨w.heap.size + 1, 4, none⟩ = some (.slice ma s4.length mc) := blk_cell TQ.out.s rfl; have kc := HC.out _ TQ.out.d; have kk : w3.cell? ⟨w.heap.size, 4, none⟩ = some (fv 25) := blk_cell TQ.out.t rfl; clear hb k0)
      | (go_at_call 25; refine (HCl2.out _ TQ.out.d).mono ?_; rintro e w4 ⟨u, v, rfl, ⟨hu1, hu2, hu3, hu4⟩, hb⟩; replace TQ := Lib.hid (TQ.out.step hb); have HU := Lib.hid (And.intro hu1 (And.intro hu2 (And.intro hu3 hu4))); clear hb hu1 hu2 hu3 hu4))
    go_ret3
    exact ⟨u, v, rfl, ⟨HU.out.1, HU.out.2.1, by rw [HU.out.2.2.1]; omega, by rw [HU.out.2.2.2]; omega⟩, TQ.out.d⟩
end
end Go.Proofs.YtcadfpaihfaabaaDoor.PrgX
