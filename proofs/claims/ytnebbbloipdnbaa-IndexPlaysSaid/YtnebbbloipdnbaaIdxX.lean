/- Copy and Add: the walks of their texts. The condition: that the row stands in its order. -/
import Derived.Test.YtnebbbloipdnbaaIdxW
namespace Go.Proofs.Ytnebbbloipdnbaa.IdxX
open Go.RowKit
open IdxN IdxM IdxC IdxD IdxF IdxH IdxI IdxK IdxJ IdxV IdxW
theorem Copy_none (s : Option Addr) (w : World) (h : Non w s) : Calls Try.prog 21 #[.pointer s] w fun e w' => e = .returned (.pointer none) ∧ w = w' := by
  have HN := Lib.hid (isNone_yes s w h)
  clear h
  go_enter Try.func21, Try.ntmps21
  go_wp2_with (go_at_call 25; refine HN.out.mono ?_; rintro e _ ⟨rfl, rfl⟩)
  go_ret
  exact ⟨rfl, rfl⟩
set_option maxRecDepth 100000 in
theorem Copy (B X H : Nat) (v : Value) (r : List V) (w : World) (h : Ix B X H v r w) (hl : r.length ≤ 100000) : Calls Try.prog 21 #[.pointer (some ⟨X, 0, none⟩)] w (Made r w) := by
  have HN := Lib.hid (isNone_no w h.cx)
  have k0 := h.cx
  have k1 := h.ch
  obtain ⟨a, c, rfl, hc, hlies⟩ := h.lies
  have HC := Lib.hid (Clone a c r w hlies hl)
  clear h hlies
  go_enter Try.func21, Try.ntmps21
  go_wp2_with (first
    | (go_at_call 25; refine HN.out.mono ?_; rintro e _ ⟨rfl, rfl⟩)
    | (go_at_call 36; refine HC.out.mono ?_; rintro e w1 ⟨v, rfl, hown, hb⟩; obtain ⟨va, vc', rfl⟩ := own_slice_len hown; have HO := Lib.hid hown; have HB := Lib.hid hb; clear hown hb HC))
  go_ret
  have hs := HB.out.size
  have hlt := HO.out.lt
  refine ⟨w1.heap.size + 1, w1.heap.size, _, rfl, ⟨heap_alloc2_new w1 _ _, heap_alloc2_old w1 _ _, own_step HO.out (((Below.refl _ _).alloc (Nat.le_refl _) _).alloc (by simp) _), by omega, by omega, ?_, ?_⟩, HB.out.trans ((((Below.refl _ _).alloc (Nat.le_refl _) _).alloc (by simp) _).mono hs)⟩
  · intro e; have := (hlt _ e).2; omega
  · intro e; have := (hlt _ e).2; omega
end Go.Proofs.Ytnebbbloipdnbaa.IdxX
