/- What same.Less answers, at any texts: the walks of its closure and of its text. -/
import Derived.Test.YtcnmhldcgmfaeaaSClo
import Derived.StillTailTactics
import Derived.Deep.RegionWith
namespace Go.Proofs.Ytcnmhldcgmfaeaa.SLes
open Go.RowKit
open SamN
/-- What is borrowed of a byte less a byte less what was borrowed. -/
theorem borrow (x y b : Int) (hx : 0 ≤ x ∧ x < 256) (hy : 0 ≤ y ∧ y < 256) (hb : 0 ≤ b ∧ b ≤ 1) : bits .and .i64 ((x - y - b) / 256) 1 = if x < y + b then 1 else 0 := by
  by_cases h : x < y + b
  · rw [if_pos h, show (x - y - b) / 256 = -1 from by omega]
    rfl
  · rw [if_neg h, show (x - y - b) / 256 = 0 from by omega]
    rfl
set_option maxRecDepth 100000 in
/-- The closure: what is borrowed stands in its cell. -/
theorem clos (M : Nat) (x y : UInt8) (b : Nat) (W : World) (hb : b ≤ 1) (hm : W.heap[M]? = some (.cells #[.int .i64 b] 3 (0, 0))) :
    Calls Try.prog 16 #[.int .u8 x.toNat, .int .u8 y.toNat, .pointer (some ⟨M, 0, none⟩)] W fun e w' => e = .returned (.tuple #[]) ∧ w' = W.setCell ⟨M, 0, none⟩ (.int .i64 ((nb x y b : Nat) : Int)) := by
  have hc := blk_cell (i := 0) hm rfl
  have hf := blk_free (i := 0) hm
  have hx := x.toNat_lt
  have hy := y.toNat_lt
  have HX : Hid (bits .and .i64 (((x.toNat : Int) - (y.toNat : Int) - (b : Int)) / 256) 1 = ((nb x y b : Nat) : Int)) := by
    show _ = _
    rw [borrow _ _ _ (by omega) (by omega) (by omega), nb]
    by_cases h : x.toNat < y.toNat + b
    · rw [if_pos h, if_pos (by omega)]; rfl
    · rw [if_neg h, if_neg (by omega)]; rfl
  go_enter Try.func16, Try.ntmps16
  go_wp2_with fail
  rw [HX.out]
  go_end0
  exact ⟨rfl, rfl⟩
theorem Less_len (a b : List UInt8) (w : World) (h : ¬ a.length = b.length) :
    Calls Try.prog 10 #[.string ⟨a.toArray⟩, .string ⟨b.toArray⟩] w fun e w' => e = .returned (.int .i64 (less a b)) ∧ Below w.heap.size w w' := by
  rw [less_len a b h]
  have hne : ((a.length : Int) == (b.length : Int)) = false := by rw [beq_eq_false_iff_ne]; omega
  have hne' : ((a.length : Int) != (b.length : Int)) = true := by rw [bne, hne]; rfl
  have HB := Lib.hid (Below.refl w.heap.size w)
  go_enter Try.func10, Try.ntmps10
  go_wp2
  go_ret
  exact ⟨rfl, HB.out⟩
set_option maxRecDepth 100000 in
theorem Less_good (a b : List UInt8) (w : World) (h : a.length = b.length) (hm : a.length ≤ maxLen) :
    Calls Try.prog 10 #[.string ⟨a.toArray⟩, .string ⟨b.toArray⟩] w fun e w' => e = .returned (.int .i64 (less a b)) ∧ Below w.heap.size w w' := by
  unfold maxLen at hm
  have HE := Lib.hid (less_bor a b h)
  have HZ := Lib.hid (bor_zero a b h)
  have HL := Lib.hid h
  have hne : ((a.length : Int) == (b.length : Int)) = true := by rw [beq_iff_eq]; omega
  have hne' : ((a.length : Int) != (b.length : Int)) = false := by rw [bne, hne]; rfl
  have hmf : ∀ (fn : Fn) (first cap : Array Value) (w : World), (Instr.makeFunc fn first cap).run Try.prog w = .ok (.func fn first cap) w := fun _ _ _ _ => rfl
  clear h
  go_enter Try.func10, Try.ntmps10
  go_wp2_with fail
  go_loopw [17] (fun i wr => ∃ j : Nat, j ≤ a.length ∧ i = .int .i64 j ∧ wr.heap[w.heap.size]? = some (.cells #[.int .i64 (bor a b j)] 3 (0, 0)) ∧ Below w.heap.size w wr) (fun i _ => a.length - (intOf i).toNat)
  case atStart => exact ⟨0, Nat.zero_le _, rfl, by rw [HZ.out]; exact heap_alloc_new w _, (Below.refl _ _).alloc (Nat.le_refl _) _⟩
  case round =>
    obtain ⟨j, hj, rfl, hb0, hbel⟩ := hrel
    by_cases hlt : j < a.length
    · obtain ⟨at_, hat⟩ : ∃ x, x = a.length - 1 - j := ⟨_, rfl⟩
      have hat' : (a.length : Int) - 1 - (j : Int) = (at_ : Int) := by omega
      have HX := Lib.hid (bor_next a b j at_ HL.out hlt hat)
      have g1 : (at_ : Int) < (a.length : Int) := by omega
      have g2 : (at_ : Int) < (b.length : Int) := by have := HL.out; omega
      have z1 : (0 : Int) ≤ (at_ : Int) := by omega
      have HA : Hid (∀ h, (((⟨a.toArray⟩ : ByteArray)[at_]'h).toNat : Int) = ((a.getD at_ 0).toNat : Int)) := by intro h; rw [at_list]
      have HB : Hid (∀ h, (((⟨b.toArray⟩ : ByteArray)[at_]'h).toNat : Int) = ((b.getD at_ 0).toNat : Int)) := by intro h; rw [at_list]
      have HC := Lib.hid (fun x y W h => clos w.heap.size x y (bor a b j) W (bor_le a b j) h)
      have HB0 := Lib.hid hb0
      clear hb0 hat
      go_wp2_with fail
      refine wp_region_still_tail 7 (by kernel_rfl) (by kernel_rfl) ?_
      simp only [List.take_succ_cons, List.take_zero, List.drop_succ_cons, List.drop_zero]
      change wpStill _ _ wr.drew _ _ _
      iterate 7 still_step
      refine wpStill_nil ?_
      rw [HA.out, HB.out]
      go_wp2_with fail
      refine (HC.out _ _ wr.drew HB0.out).mono ?_
      rintro e w1 ⟨rfl, rfl⟩
      go_wp2
      go_roundw
      case rel =>
        refine ⟨j + 1, by omega, by go_num, ?_, ?_⟩
        · rw [HX.out]; exact blk_set (w := wr) HB0.out
        · exact (hbel.setCell (Nat.le_refl _) _).trans (below_drewN _ 1)
      case measure => simp [intOf]; omega
    · have hk : j = a.length := by omega
      subst hk
      rw [HE.out] at hb0
      have hc := blk_cell (i := 0) hb0 rfl
      go_wp2
      go_ret
      exact ⟨rfl, hbel⟩
/-- THE CONTRACT of same.Less. -/
theorem Less (a b : List UInt8) (w : World) (hm : a.length ≤ maxLen) :
    Calls Try.prog 10 #[.string ⟨a.toArray⟩, .string ⟨b.toArray⟩] w fun e w' => e = .returned (.int .i64 (less a b)) ∧ Below w.heap.size w w' := by
  by_cases h : a.length = b.length
  · exact Less_good a b w h hm
  · exact Less_len a b w h
end Go.Proofs.Ytcnmhldcgmfaeaa.SLes
