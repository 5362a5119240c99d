/- The program's disk: Arm, Boot, Over: the walks of their texts. No conditions but those that each lemma names. -/
import Derived.Test.YtofpflkkbkodaaaDkS
namespace Go.Proofs.Ytofpflkkbkodaaa.DkB
open Go.RowKit
open DkN DkM DkQ DkS
theorem Arm {w : World} {b : Nat} {bv cv : Value} {D : Dk} (h : Has false w b bv cv D) (n : Int) (hn : n ≤ 9223372036854775807) :
    Calls Try.prog 26 #[.pointer (some ⟨b, 0, none⟩), .int .i64 n] w fun e w' => e = .returned (.int .i64 ((D.arm_ n).1 : Nat)) ∧ Did false w b bv cv (D.arm_ n).2 w' := by
  have HR := Lib.hid (ready h)
  by_cases hd : D.down = true
  · have e : D.arm_ n = (14, D) := by unfold Dk.arm_; rw [if_pos hd]
    rw [e]
    rw [if_pos hd] at HR
    have HD := Lib.hid h.same
    clear h hd e
    go_enter Try.func26, Try.ntmps26
    go_wp2_with (go_at_call 47; refine (HR.out).mono ?_; rintro e w' ⟨rfl, rfl⟩)
    go_ret
    exact ⟨rfl, HD.out⟩
  · rw [if_neg hd] at HR
    by_cases h0 : n < 0
    · have e : D.arm_ n = (2, D) := by unfold Dk.arm_; rw [if_neg hd, if_pos h0]
      rw [e]
      have HD := Lib.hid h.same
      clear h hd e
      go_enter Try.func26, Try.ntmps26
      go_wp2_with (go_at_call 47; refine (HR.out).mono ?_; rintro e w' ⟨rfl, rfl⟩)
      go_ret
      exact ⟨rfl, HD.out⟩
    · obtain ⟨k, rfl⟩ : ∃ k : Nat, n = (k : Int) := ⟨n.toNat, by omega⟩
      have e : D.arm_ (k : Int) = (0, { D with armed := k }) := by unfold Dk.arm_; rw [if_neg hd, if_neg h0]; rfl
      rw [e]
      have h2 := h.d2
      have f2 := h.free 2
      have HD : Hid (Did false w b bv cv { D with armed := k } (w.setCell ⟨b, 2, none⟩ (.int .i64 k))) := did_rehead (set2 h k (by omega)) ((Kept.refl _ w).set_ (.inl rfl) _ _)
      clear h hd e
      go_enter Try.func26, Try.ntmps26
      go_wp2_with (go_at_call 47; refine (HR.out).mono ?_; rintro e w' ⟨rfl, rfl⟩)
      go_ret
      exact ⟨rfl, HD.out⟩
theorem set123 {w : World} {b : Nat} {bv cv : Value} {D : Dk} (h : Has false w b bv cv D) :
    Has false (((w.setCell ⟨b, 1, none⟩ (.slice none 0 0)).setCell ⟨b, 2, none⟩ (.int .i64 0)).setCell ⟨b, 3, none⟩ (.bool false)) b bv (.slice none 0 0) D.boot := by
  refine h.renil ?_ (fun k hk => ((set_cell_block hk).trans (set_cell_block hk)).trans (set_cell_block hk)) rfl rfl (boot_ok h.ok)
  exact (blk_set (blk_set (blk_set h.head))).trans rfl
theorem Boot {w : World} {b : Nat} {bv cv : Value} {D : Dk} (h : Has false w b bv cv D) :
    Calls Try.prog 18 #[.pointer (some ⟨b, 0, none⟩)] w fun e w' => e = .returned (.int .i64 0) ∧ Did false w b bv cv D.boot w' := by
  have H := Lib.hid (isNone h)
  have HD : Hid (Did false w b bv cv D.boot _) := did_nil (set123 h) (Kept.set3 w (.inl rfl) _ _ _ _ _ _)
  have h1 := h.c1
  have h2 := h.d2
  have h3 := h.d3
  have f1 := h.free 1
  have f2 := h.free 2
  have f3 := h.free 3
  obtain ⟨a, c, rfl⟩ := h.cv_eq
  clear h
  go_enter Try.func18, Try.ntmps18
  go_wp2_with (go_at_call 46; refine (H.out).mono ?_; rintro e w' ⟨rfl, rfl⟩)
  go_ret
  exact ⟨rfl, HD.out⟩
/-- A block of the row is written. -/
theorem own_set_at {w : World} {base : Nat} {e : TypeId} {g n c : Nat} {xs : List Value} (h : w.ownsRow base e 1 (.slice (some ⟨g, 0, none⟩) n c) n xs) (i : Nat) (v : Value) :
    (w.setCell ⟨g, i, none⟩ v).ownsRow base e 1 (.slice (some ⟨g, 0, none⟩) n c) n (xs.set i v) := by
  refine ⟨by simpa using h.1, .inr ?_⟩
  rcases h.2 with ⟨h0, _⟩ | ⟨g', cap, cur, hv, hb, hg, hn, hm, hs, ht⟩
  · cases h0
  · cases hv
    exact ⟨g, c, cur.setIfInBounds i v, rfl, hb, blk_set hg, hn, hm, by simpa using hs, by rw [Array.toList_setIfInBounds, List.take_set, ht]⟩
theorem strs_set (l : List ByteArray) (i : Nat) (s : ByteArray) : (l.set i s).map Value.string = (l.map Value.string).set i (.string s) := by rw [List.map_set]
/-- A block in its own place. -/
theorem Has.setBlock {r : Bool} {w : World} {b g n c : Nat} {cv : Value} {D : Dk} (h : Has r w b (.slice (some ⟨g, 0, none⟩) n c) cv D) (i : Nat) (s : ByteArray) (ho : Dk.ok { D with bl := D.bl.set i s }) :
    Has r (w.setCell ⟨g, i, none⟩ (.string s)) b (.slice (some ⟨g, 0, none⟩) n c) cv { D with bl := D.bl.set i s } := by
  have hbg : b ≠ g := fun e => h.bne (by rw [e]; rfl)
  obtain ⟨g', c', e⟩ := h.bv_eq
  have hn : n = D.bl.length := by cases e; rfl
  subst hn
  refine ⟨ho, ?_, ?_, own_kept h.rc fun k e => set_cell_block (fun e' => h.bcne k (by rw [e']; rfl) e)⟩
  · rw [set_cell_block hbg]; exact h.head
  · show (w.setCell ⟨g, i, none⟩ (.string s)).ownsRow 0 9 1 (.slice (some ⟨g, 0, none⟩) D.bl.length c) (D.bl.set i s).length ((D.bl.set i s).map Value.string)
    rw [List.length_set, strs_set]
    exact own_set_at h.rb i _
theorem Over_no {w : World} {b : Nat} {bv cv : Value} {D : Dk} (h : Has false w b bv cv D) (i : Int) (s : ByteArray) (m : Nat) (hm : D.no i s = m + 1) :
    Calls Try.prog 27 #[.pointer (some ⟨b, 0, none⟩), .int .i64 i, .string s] w fun e w' => e = .returned (.int .i64 ((D.over i s).1 : Nat)) ∧ Did false w b bv cv (D.over i s).2 w' := by
  have H := Lib.hid (isNone h)
  have HT := Lib.hid (takes h i s)
  have e : D.over i s = (D.no i s, D) := by unfold Dk.over; rw [if_neg (by omega)]
  rw [e]
  have HD := Lib.hid h.same
  have hne : (((m + 1 : Nat) : Int) != 0) = true := by rw [bne_iff_ne]; omega
  rw [hm] at HT ⊢
  clear h e hm
  generalize m + 1 = q at *
  go_enter Try.func27, Try.ntmps27
  go_wp2_with (first
    | (go_at_call 46; refine (H.out).mono ?_; rintro e w' ⟨rfl, rfl⟩)
    | (go_at_call 51; refine (HT.out).mono ?_; rintro e w' ⟨rfl, rfl⟩))
  go_ret
  exact ⟨rfl, HD.out⟩
theorem Over_yes {w : World} {b : Nat} {bv cv : Value} {D : Dk} (h : Has false w b bv cv D) (i : Int) (s : ByteArray) (hm : D.no i s = 0) :
    Calls Try.prog 27 #[.pointer (some ⟨b, 0, none⟩), .int .i64 i, .string s] w fun e w' => e = .returned (.int .i64 ((D.over i s).1 : Nat)) ∧ Did false w b bv cv (D.over i s).2 w' := by
  have H := Lib.hid (isNone h)
  have HT := Lib.hid (takes h i s)
  have ho := over_ok h.ok i s
  have e : D.over i s = (0, { D with bl := D.bl.set i.toNat s }) := by unfold Dk.over; rw [if_pos hm]
  rw [e] at ho ⊢
  rw [hm] at HT
  obtain ⟨h0, h1, h2⟩ := no_zero hm
  obtain ⟨k, rfl⟩ : ∃ k : Nat, i = (k : Int) := ⟨i.toNat, by omega⟩
  rw [Int.toNat_natCast] at *
  obtain ⟨g, c, rfl⟩ := h.bv_eq
  have c0 := h.c0
  have hc := h.block k h1
  have hf := h.block_free k
  have HD : Hid (Did false w b (.slice (some ⟨g, 0, none⟩) D.bl.length c) cv { D with bl := D.bl.set k s } _) := did_rehead (Has.setBlock h k s ho) ((Kept.refl _ w).set_ (.inr (.inl rfl)) _ _)
  have hkn : (k : Int) < (D.bl.length : Int) := by omega
  clear h e hm ho h2 h0
  generalize D.bl[k] = x at *
  generalize D.bl.length = n at *
  go_enter Try.func27, Try.ntmps27
  go_wp2_with (first
    | (go_at_call 46; refine (H.out).mono ?_; rintro e w' ⟨rfl, rfl⟩)
    | (go_at_call 51; refine (HT.out).mono ?_; rintro e w' ⟨rfl, rfl⟩))
  go_ret
  exact ⟨rfl, HD.out⟩
/-- THE CONTRACT of Over. -/
theorem Over {w : World} {b : Nat} {bv cv : Value} {D : Dk} (h : Has false w b bv cv D) (i : Int) (s : ByteArray) :
    Calls Try.prog 27 #[.pointer (some ⟨b, 0, none⟩), .int .i64 i, .string s] w fun e w' => e = .returned (.int .i64 ((D.over i s).1 : Nat)) ∧ Did false w b bv cv (D.over i s).2 w' := by
  match hm : D.no i s with
  | 0 => exact Over_yes h i s hm
  | m + 1 => exact Over_no h i s m hm
end Go.Proofs.Ytofpflkkbkodaaa.DkB
