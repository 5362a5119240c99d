/- The program's disk: isNone, ready, has, takes, Size, Down: the walks of their texts. No conditions but those that each lemma names. -/
import Derived.Test.YtofpflkkbkodaaaDkM
namespace Go.Proofs.Ytofpflkkbkodaaa.DkQ
open Go.RowKit
open DkN DkM
theorem isNone_nil (w : World) : Calls Try.prog 46 #[.pointer none] w fun e w' => e = .returned (.bool true) ∧ w = w' := by
  go_enter Try.func46, Try.ntmps46
  go_wp2
  go_ret
  exact ⟨rfl, rfl⟩
theorem isNone_un (b : Nat) (w : World) (h : w.cell? ⟨b, 0, none⟩ = some (.slice none 0 0)) : Calls Try.prog 46 #[.pointer (some ⟨b, 0, none⟩)] w fun e w' => e = .returned (.bool true) ∧ w = w' := by
  go_enter Try.func46, Try.ntmps46
  go_wp2
  go_ret
  exact ⟨rfl, rfl⟩
theorem isNone_n (b n c : Nat) (a : Option Addr) (w : World) (h : w.cell? ⟨b, 0, none⟩ = some (.slice a n c)) (hn : 8 ≤ n) : Calls Try.prog 46 #[.pointer (some ⟨b, 0, none⟩)] w fun e w' => e = .returned (.bool false) ∧ w = w' := by
  have h0 : ((n : Int) == 0) = false := by rw [beq_eq_false_iff_ne]; omega
  go_enter Try.func46, Try.ntmps46
  go_wp2
  go_ret
  exact ⟨rfl, rfl⟩
theorem isNone {w : World} {b : Nat} {bv cv : Value} {D : Dk} (h : Has false w b bv cv D) : Calls Try.prog 46 #[.pointer (some ⟨b, 0, none⟩)] w fun e w' => e = .returned (.bool false) ∧ w = w' := by
  obtain ⟨g, c, rfl⟩ := h.bv_eq
  exact isNone_n b _ c _ w h.c0 h.ok.lo
theorem ready {w : World} {b : Nat} {bv cv : Value} {D : Dk} (h : Has false w b bv cv D) : Calls Try.prog 47 #[.pointer (some ⟨b, 0, none⟩)] w fun e w' => e = .returned (.int .i64 (if D.down then 14 else 0)) ∧ w = w' := by
  have H := Lib.hid (isNone h)
  have h3 := h.d3
  clear h
  generalize D.down = q at *
  cases q
  all_goals
    first | rw [if_pos rfl] | rw [if_neg Bool.false_ne_true]
    go_enter Try.func47, Try.ntmps47
    go_wp2_with (go_at_call 46; refine (H.out).mono ?_; rintro e w' ⟨rfl, rfl⟩)
    go_ret
    exact ⟨rfl, rfl⟩
theorem ready_nil (w : World) : Calls Try.prog 47 #[.pointer none] w fun e w' => e = .returned (.int .i64 1) ∧ w = w' := by
  go_enter Try.func47, Try.ntmps47
  go_wp2_with (go_at_call 46; refine (isNone_nil _).mono ?_; rintro e w' ⟨rfl, rfl⟩)
  go_ret
  exact ⟨rfl, rfl⟩
theorem ready_un (b : Nat) (w : World) (h : w.cell? ⟨b, 0, none⟩ = some (.slice none 0 0)) : Calls Try.prog 47 #[.pointer (some ⟨b, 0, none⟩)] w fun e w' => e = .returned (.int .i64 1) ∧ w = w' := by
  go_enter Try.func47, Try.ntmps47
  go_wp2_with (go_at_call 46; refine (isNone_un b _ h).mono ?_; rintro e w' ⟨rfl, rfl⟩)
  go_ret
  exact ⟨rfl, rfl⟩
/-- Is there such a place? -/
def hasB (n : Nat) (i : Int) : Bool := decide (0 ≤ i ∧ i < (n : Int))
theorem has_any (b n c : Nat) (a : Option Addr) (i : Int) (w : World) (h : w.cell? ⟨b, 0, none⟩ = some (.slice a n c)) : Calls Try.prog 53 #[.pointer (some ⟨b, 0, none⟩), .int .i64 i] w fun e w' => e = .returned (.bool (hasB n i)) ∧ w = w' := by
  by_cases h0 : 0 ≤ i
  · by_cases h1 : i < (n : Int)
    · have hv : hasB n i = true := decide_eq_true ⟨h0, h1⟩
      rw [hv]
      clear hv
      go_enter Try.func53, Try.ntmps53
      go_wp2
      go_ret
      exact ⟨rfl, rfl⟩
    · have hv : hasB n i = false := decide_eq_false fun x => h1 x.2
      rw [hv]
      clear hv
      go_enter Try.func53, Try.ntmps53
      go_wp2
      go_ret
      exact ⟨rfl, rfl⟩
  · have hv : hasB n i = false := decide_eq_false fun x => h0 x.1
    rw [hv]
    clear hv
    go_enter Try.func53, Try.ntmps53
    go_wp2
    go_ret
    exact ⟨rfl, rfl⟩
/-- Why this may not be written here, or 0. -/
def noB (n : Nat) (i : Int) (k : Nat) : Nat := if hasB n i then (if k = 4096 then 0 else 2) else 4
theorem no_eq (D : Dk) (i : Int) (s : ByteArray) : D.no i s = noB D.bl.length i s.size := rfl
theorem takes_any (b n c : Nat) (a : Option Addr) (i : Int) (s : ByteArray) (w : World) (h : w.cell? ⟨b, 0, none⟩ = some (.slice a n c)) : Calls Try.prog 51 #[.pointer (some ⟨b, 0, none⟩), .int .i64 i, .string s] w fun e w' => e = .returned (.int .i64 (noB n i s.size : Nat)) ∧ w = w' := by
  have H := Lib.hid (has_any b n c a i w h)
  clear h
  unfold noB
  generalize hasB n i = q at *
  cases q
  · rw [if_neg Bool.false_ne_true]
    go_enter Try.func51, Try.ntmps51
    go_wp2_with (go_at_call 53; refine (H.out).mono ?_; rintro e w' ⟨rfl, rfl⟩)
    go_ret
    exact ⟨rfl, rfl⟩
  · rw [if_pos rfl]
    by_cases hs : s.size = 4096
    · rw [if_pos hs]
      have h0 : ((s.size : Int) != 4096) = false := by rw [hs]; rfl
      clear hs
      go_enter Try.func51, Try.ntmps51
      go_wp2_with (go_at_call 53; refine (H.out).mono ?_; rintro e w' ⟨rfl, rfl⟩)
      go_ret
      exact ⟨rfl, rfl⟩
    · rw [if_neg hs]
      have h0 : ((s.size : Int) != 4096) = true := by rw [bne_iff_ne]; omega
      clear hs
      go_enter Try.func51, Try.ntmps51
      go_wp2_with (go_at_call 53; refine (H.out).mono ?_; rintro e w' ⟨rfl, rfl⟩)
      go_ret
      exact ⟨rfl, rfl⟩
theorem has {w : World} {b : Nat} {bv cv : Value} {D : Dk} (h : Has false w b bv cv D) (i : Int) : Calls Try.prog 53 #[.pointer (some ⟨b, 0, none⟩), .int .i64 i] w fun e w' => e = .returned (.bool (D.has i)) ∧ w = w' := by
  obtain ⟨g, c, rfl⟩ := h.bv_eq
  exact has_any b _ c _ i w h.c0
theorem takes {w : World} {b : Nat} {bv cv : Value} {D : Dk} (h : Has false w b bv cv D) (i : Int) (s : ByteArray) : Calls Try.prog 51 #[.pointer (some ⟨b, 0, none⟩), .int .i64 i, .string s] w fun e w' => e = .returned (.int .i64 (D.no i s : Nat)) ∧ w = w' := by
  obtain ⟨g, c, rfl⟩ := h.bv_eq
  exact takes_any b _ c _ i s w h.c0
theorem Size {w : World} {b : Nat} {bv cv : Value} {D : Dk} (h : Has false w b bv cv D) : Calls Try.prog 28 #[.pointer (some ⟨b, 0, none⟩)] w fun e w' => e = .returned (.int .i64 D.bl.length) ∧ w = w' := by
  have H := Lib.hid (isNone h)
  obtain ⟨g, c, rfl⟩ := h.bv_eq
  have h0 := h.c0
  clear h
  generalize D.bl.length = n at *
  go_enter Try.func28, Try.ntmps28
  go_wp2_with (go_at_call 46; refine (H.out).mono ?_; rintro e w' ⟨rfl, rfl⟩)
  go_ret
  exact ⟨rfl, rfl⟩
theorem Down {w : World} {b : Nat} {bv cv : Value} {D : Dk} (h : Has false w b bv cv D) : Calls Try.prog 24 #[.pointer (some ⟨b, 0, none⟩)] w fun e w' => e = .returned (.bool D.down) ∧ w = w' := by
  have H := Lib.hid (isNone h)
  have h3 := h.d3
  clear h
  generalize D.down = q at *
  cases q
  all_goals
    go_enter Try.func24, Try.ntmps24
    go_wp2_with (go_at_call 46; refine (H.out).mono ?_; rintro e w' ⟨rfl, rfl⟩)
    go_ret
    exact ⟨rfl, rfl⟩
end Go.Proofs.Ytofpflkkbkodaaa.DkQ
