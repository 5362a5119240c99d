/- The program's disk: step, Arm, Boot, Over: the walks of their texts. No conditions but those that each lemma names. -/
import Derived.Test.YtofpflkkbkodaaaDkQ
namespace Go.Proofs.Ytofpflkkbkodaaa.DkS
open Go.RowKit
open DkN DkM DkQ
theorem set23 {w : World} {b : Nat} {bv cv : Value} {D : Dk} (h : Has false w b bv cv D) (a' : Nat) (f : Bool) (ha : a' ≤ 9223372036854775807) :
    Has false ((w.setCell ⟨b, 2, none⟩ (.int .i64 a')).setCell ⟨b, 3, none⟩ (.bool f)) b bv cv { D with armed := a', down := f } := by
  refine h.rehead ?_ (fun k hk => (set_cell_block hk).trans (set_cell_block hk)) rfl rfl ⟨h.ok.lo, h.ok.hi, h.ok.full, h.ok.few, h.ok.good, ha⟩
  exact (blk_set (blk_set h.head)).trans rfl
theorem set2 {w : World} {b : Nat} {bv cv : Value} {D : Dk} (h : Has false w b bv cv D) (a' : Nat) (ha : a' ≤ 9223372036854775807) :
    Has false (w.setCell ⟨b, 2, none⟩ (.int .i64 a')) b bv cv { D with armed := a' } := by
  refine h.rehead ?_ (fun k hk => set_cell_block hk) rfl rfl ⟨h.ok.lo, h.ok.hi, h.ok.full, h.ok.few, h.ok.good, ha⟩
  exact (blk_set h.head).trans rfl
theorem step_0 {w : World} {b : Nat} {bv cv : Value} {D : Dk} (h : Has false w b bv cv D) (hd : D.down = false) (ha : D.armed = 0) :
    Calls Try.prog 48 #[.pointer (some ⟨b, 0, none⟩)] w fun e w' => e = .returned (.int .i64 0) ∧ Did false w b bv cv D.tick w' := by
  have ht : D.tick = D := by
    obtain ⟨x, y, z, f⟩ := D
    simp only at hd ha
    subst hd ha
    rfl
  have HR := ready h
  rw [if_neg (by rw [hd]; exact Bool.false_ne_true)] at HR
  have H := Lib.hid HR
  have h2 := h.d2
  rw [ha] at h2
  rw [ht]
  have HH := Lib.hid h
  clear h HR hd ha ht
  go_enter Try.func48, Try.ntmps48
  go_wp2_with (go_at_call 47; refine (H.out).mono ?_; rintro e w' ⟨rfl, rfl⟩)
  go_ret
  exact ⟨rfl, HH.out.same⟩
theorem step_1 {w : World} {b : Nat} {bv cv : Value} {D : Dk} (h : Has false w b bv cv D) (k : Nat) (ha : D.armed = k + 1) (q : Bool) (hq : decide (k = 0) = q) :
    Calls Try.prog 48 #[.pointer (some ⟨b, 0, none⟩)] w fun e w' => e = .returned (.int .i64 (if q then 14 else 0)) ∧ Did false w b bv cv D.tick w' := by
  have hk : k + 1 ≤ 9223372036854775807 := by have := h.ok.arm; omega
  have ht : D.tick = { D with armed := k, down := q } := by
    unfold Dk.tick
    rw [ha, ← hq]
    simp
  have H1 := set23 h k q (by omega)
  rw [← ht] at H1
  have HR := ready H1
  have hdq : D.tick.down = q := by rw [ht]
  rw [hdq] at HR
  have H := Lib.hid HR
  have h2 := h.d2
  have h3 := h.d3
  have f2 := h.free 2
  have f3 := h.free 3
  rw [ha] at h2
  have h2' : w.cell? ⟨b, 2, none⟩ = some (.int .i64 ((k : Int) + 1)) := h2
  have HD : Hid (Did false w b bv cv D.tick ((w.setCell ⟨b, 2, none⟩ (.int .i64 k)).setCell ⟨b, 3, none⟩ (.bool q))) := did_rehead H1 (Kept.set2 w (.inl rfl) _ _ _ _)
  have hkq : ((k : Int) == 0) = q := by rw [← hq]; cases k <;> simp; omega
  have hc2 : (w.setCell ⟨b, 2, none⟩ (.int .i64 (k : Int))).cell? ⟨b, 2, none⟩ = some (.int .i64 (k : Int)) := World.cell?_setCell_same' _ _ _ (by rw [h2]; rfl)
  clear h HR H1 ha ht hdq h2 hq
  generalize D.tick = T at *
  cases q
  all_goals
    go_enter Try.func48, Try.ntmps48
    go_wp2_with (go_at_call 47; refine (H.out).mono ?_; rintro e w' ⟨rfl, rfl⟩)
    go_ret
    exact ⟨rfl, HD.out⟩
/-- THE CONTRACT of step, at a disk that has power. -/
theorem step {w : World} {b : Nat} {bv cv : Value} {D : Dk} (h : Has false w b bv cv D) (hd : D.down = false) :
    Calls Try.prog 48 #[.pointer (some ⟨b, 0, none⟩)] w fun e w' => e = .returned (.int .i64 (if decide (D.armed = 1) then 14 else 0)) ∧ Did false w b bv cv D.tick w' := by
  match ha : D.armed with
  | 0 => exact step_0 h hd ha
  | k + 1 => exact step_1 h k ha _ (by simp)
end Go.Proofs.Ytofpflkkbkodaaa.DkS
