/- The document's disk: last, Arm, Boot, Over, Write: the walks of their texts. No conditions but those that each lemma names. -/
import Derived.Test.YtofpflkkbkodaaaDkA
namespace Go.Proofs.Ytofpflkkbkodaaa.DkRA
open Go.RowKit
open DkN DkM DkB DkW
theorem set23 {w : World} {b : Nat} {bv cv : Value} {D : Dk} (h : Has true w b bv cv D) (a' : Nat) (ha : a' ≤ 9223372036854775807) :
    Has true (w.setCell ⟨b, 3, none⟩ (.int .i64 a')) b bv cv { D with armed := a' } := by
  refine h.rehead ?_ (fun k hk => set_cell_block hk) rfl rfl ⟨h.ok.lo, h.ok.hi, h.ok.full, h.ok.few, h.ok.good, ha⟩
  exact (blk_set h.head).trans rfl
theorem set32 {w : World} {b : Nat} {bv cv : Value} {D : Dk} (h : Has true w b bv cv D) (a' : Nat) (f : Bool) (ha : a' ≤ 9223372036854775807) :
    Has true ((w.setCell ⟨b, 3, none⟩ (.int .i64 a')).setCell ⟨b, 2, none⟩ (.bool f)) b bv cv { D with armed := a', down := f } := by
  refine h.rehead ?_ (fun k hk => (set_cell_block hk).trans (set_cell_block hk)) rfl rfl ⟨h.ok.lo, h.ok.hi, h.ok.full, h.ok.few, h.ok.good, ha⟩
  exact (blk_set (blk_set h.head)).trans rfl
theorem last_0 {w : World} {b : Nat} {bv cv : Value} {D : Dk} (h : Has true w b bv cv D) (hd : D.down = false) (ha : D.armed = 0) :
    Calls Try.prog 61 #[.pointer (some ⟨b, 0, none⟩)] w fun e w' => e = .returned (.bool false) ∧ Did true w b bv cv D.tick w' := by
  have ht : D.tick = D := by
    obtain ⟨x, y, z, f⟩ := D
    simp only at hd ha
    subst hd ha
    rfl
  have h3 := h.r3
  rw [ha] at h3
  rw [ht]
  have HH := Lib.hid h
  clear h hd ha ht
  go_enter Try.func61, Try.ntmps61
  go_wp2
  go_ret
  exact ⟨rfl, HH.out.same⟩
theorem last_1 {w : World} {b : Nat} {bv cv : Value} {D : Dk} (h : Has true w b bv cv D) (hd : D.down = false) (ha : D.armed = 1) :
    Calls Try.prog 61 #[.pointer (some ⟨b, 0, none⟩)] w fun e w' => e = .returned (.bool true) ∧ Did true w b bv cv D.tick w' := by
  have ht : D.tick = { D with armed := 0, down := true } := by
    unfold Dk.tick
    rw [ha]
    simp
  have h2 := h.r2
  have h3 := h.r3
  have f2 := h.free 2
  have f3 := h.free 3
  rw [ha] at h3
  rw [hd] at h2
  have h3' : w.cell? ⟨b, 3, none⟩ = some (.int .i64 1) := h3
  have HD : Hid (Did true w b bv cv D.tick ((w.setCell ⟨b, 3, none⟩ (.int .i64 0)).setCell ⟨b, 2, none⟩ (.bool true))) := by rw [ht]; exact did_rehead (set32 h 0 true (by omega)) (Kept.set2 w (.inl rfl) _ _ _ _)
  clear h hd ha ht h3
  generalize D.tick = T at *
  go_enter Try.func61, Try.ntmps61
  go_wp2
  go_ret
  exact ⟨rfl, HD.out⟩
theorem last_2 {w : World} {b : Nat} {bv cv : Value} {D : Dk} (h : Has true w b bv cv D) (hd : D.down = false) (m : Nat) (hm : 0 < m) (ha : D.armed = m + 1) :
    Calls Try.prog 61 #[.pointer (some ⟨b, 0, none⟩)] w fun e w' => e = .returned (.bool false) ∧ Did true w b bv cv D.tick w' := by
  have ht : D.tick = { D with armed := m } := by
    unfold Dk.tick
    rw [ha, hd]
    simp; omega
  have hk : m + 1 ≤ 9223372036854775807 := by have := h.ok.arm; omega
  have h2 := h.r2
  have h3 := h.r3
  have f3 := h.free 3
  rw [ha] at h3
  rw [hd] at h2
  have h3' : w.cell? ⟨b, 3, none⟩ = some (.int .i64 ((m : Int) + 1)) := h3
  have HD : Hid (Did true w b bv cv D.tick (w.setCell ⟨b, 3, none⟩ (.int .i64 (m : Int)))) := by rw [ht]; exact did_rehead (set23 h m (by omega)) ((Kept.refl _ w).set_ (.inl rfl) _ _)
  have hne : ((m : Int) + 1 == 0) = false := by rw [beq_eq_false_iff_ne]; omega
  have hne1 : ((m : Int) == 0) = false := by rw [beq_eq_false_iff_ne]; omega
  have hb2 : (w.setCell ⟨b, 3, none⟩ (.int .i64 (m : Int))).cell? ⟨b, 3, none⟩ = some (.int .i64 (m : Int)) := World.cell?_setCell_same' _ _ _ (by rw [h3]; rfl)
  clear h hd ha ht h3
  generalize D.tick = T at *
  go_enter Try.func61, Try.ntmps61
  go_wp2
  go_ret
  exact ⟨rfl, HD.out⟩
/-- THE CONTRACT of last, at a disk that has power. -/
theorem last {w : World} {b : Nat} {bv cv : Value} {D : Dk} (h : Has true w b bv cv D) (hd : D.down = false) :
    Calls Try.prog 61 #[.pointer (some ⟨b, 0, none⟩)] w fun e w' => e = .returned (.bool (decide (D.armed = 1))) ∧ Did true w b bv cv D.tick w' := by
  match ha : D.armed with
  | 0 => exact last_0 h hd ha
  | 1 => exact last_1 h hd ha
  | m + 2 =>
    rw [decide_eq_false (by omega)]
    exact last_2 h hd (m + 1) (by omega) ha
theorem Arm {w : World} {b : Nat} {bv cv : Value} {D : Dk} (h : Has true w b bv cv D) (n : Int) (hn : n ≤ 9223372036854775807) :
    Calls Try.prog 37 #[.pointer (some ⟨b, 0, none⟩), .int .i64 n] w fun e w' => e = .returned (.int .i64 ((D.arm_ n).1 : Nat)) ∧ Did true w b bv cv (D.arm_ n).2 w' := by
  have h2 := h.r2
  cases hd : D.down with
  | true =>
    have e : D.arm_ n = (14, D) := by unfold Dk.arm_; rw [if_pos hd]
    rw [e]
    rw [hd] at h2
    have HD := Lib.hid h.same
    clear h hd e
    go_enter Try.func37, Try.ntmps37
    go_wp2
    go_ret
    exact ⟨rfl, HD.out⟩
  | false =>
    have hd' : ¬ D.down = true := by rw [hd]; exact Bool.false_ne_true
    rw [hd] at h2
    by_cases h0 : n < 0
    · have e : D.arm_ n = (2, D) := by unfold Dk.arm_; rw [if_neg hd', if_pos h0]
      rw [e]
      have HD := Lib.hid h.same
      clear h hd e hd'
      go_enter Try.func37, Try.ntmps37
      go_wp2
      go_ret
      exact ⟨rfl, HD.out⟩
    · obtain ⟨k, rfl⟩ : ∃ k : Nat, n = (k : Int) := ⟨n.toNat, by omega⟩
      have e : D.arm_ (k : Int) = (0, { D with armed := k }) := by unfold Dk.arm_; rw [if_neg hd', if_neg h0]; rfl
      rw [e]
      have h3 := h.r3
      have f3 := h.free 3
      have HD : Hid (Did true w b bv cv { D with armed := k } (w.setCell ⟨b, 3, none⟩ (.int .i64 k))) := did_rehead (set23 h k (by omega)) ((Kept.refl _ w).set_ (.inl rfl) _ _)
      clear h hd e hd'
      go_enter Try.func37, Try.ntmps37
      go_wp2
      go_ret
      exact ⟨rfl, HD.out⟩
theorem set123 {w : World} {b : Nat} {bv cv : Value} {D : Dk} (h : Has true w b bv cv D) :
    Has true (((w.setCell ⟨b, 1, none⟩ (.slice none 0 0)).setCell ⟨b, 2, none⟩ (.bool false)).setCell ⟨b, 3, none⟩ (.int .i64 0)) b bv (.slice none 0 0) D.boot := by
  refine h.renil ?_ (fun k hk => ((set_cell_block hk).trans (set_cell_block hk)).trans (set_cell_block hk)) rfl rfl (boot_ok h.ok)
  exact (blk_set (blk_set (blk_set h.head))).trans rfl
theorem Boot {w : World} {b : Nat} {bv cv : Value} {D : Dk} (h : Has true w b bv cv D) :
    Calls Try.prog 39 #[.pointer (some ⟨b, 0, none⟩)] w fun e w' => e = .returned (.tuple #[]) ∧ Did true w b bv cv D.boot w' := by
  have HD : Hid (Did true w b bv cv D.boot _) := did_nil (set123 h) (Kept.set3 w (.inl rfl) _ _ _ _ _ _)
  have h1 := h.c1
  have h2 := h.r2
  have h3 := h.r3
  have f1 := h.free 1
  have f2 := h.free 2
  have f3 := h.free 3
  obtain ⟨a, c, rfl⟩ := h.cv_eq
  clear h
  go_enter Try.func39, Try.ntmps39
  go_wp2
  go_end0
  exact ⟨rfl, HD.out⟩
end Go.Proofs.Ytofpflkkbkodaaa.DkRA
