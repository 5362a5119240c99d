/- New, Newest, Of, All, Places: the walks of their texts, of an index and of one that is none. The condition: that the row stands in its order. -/
import Derived.Test.YtnebbbloipdnbaaIdxV
namespace Go.Proofs.Ytnebbbloipdnbaa.IdxW
open Go.RowKit
open IdxN IdxM IdxC IdxD IdxH IdxI IdxK IdxJ IdxV
/-- An index of the call's own. -/
def Made (r : List V) (w : World) (e : Ending) (w' : World) : Prop := ∃ X H v, e = .returned (.pointer (some ⟨X, 0, none⟩)) ∧ Ix w.heap.size X H v r w' ∧ Below w.heap.size w w'
theorem New (w : World) : Calls Try.prog 8 #[] w (Made [] w) := by
  go_enter Try.func8, Try.ntmps8
  go_wp2
  go_ret
  have a0 := alloc3_0 w (.cells #[] 27) (.cells #[.slice (some ⟨w.heap.size, 0, none⟩) 0 0] 49) (.cells #[.pointer (some ⟨w.heap.size + 1, 0, none⟩)] 47)
  have a1 := alloc3_1 w (.cells #[] 27) (.cells #[.slice (some ⟨w.heap.size, 0, none⟩) 0 0] 49) (.cells #[.pointer (some ⟨w.heap.size + 1, 0, none⟩)] 47)
  have a2 := alloc3_2 w (.cells #[] 27) (.cells #[.slice (some ⟨w.heap.size, 0, none⟩) 0 0] 49) (.cells #[.pointer (some ⟨w.heap.size + 1, 0, none⟩)] 47)
  refine ⟨w.heap.size + 1 + 1, w.heap.size + 1, .slice (some ⟨w.heap.size, 0, none⟩) 0 0, rfl, ⟨a2, a1, ⟨rfl, .inr ⟨w.heap.size, 0, #[], rfl, Nat.le_refl _, a0, Nat.le_refl _, Nat.zero_le _, rfl, rfl⟩⟩, by omega, by omega, ?_, ?_⟩, below_alloc3 _ _ _ _⟩
  · intro e; have := Option.some.inj e; dsimp only at this; omega
  · intro e; have := Option.some.inj e; dsimp only at this; omega
theorem own_slice_len {w : World} {base : Nat} {e : TypeId} {size : Nat} {v : Value} {n : Nat} {xs : List Value} (h : w.ownsRow base e size v n xs) : ∃ a c, v = .slice a n c := by
  rcases h.2 with ⟨rfl, rfl⟩ | ⟨g, cap, cur, rfl, _⟩
  · exact ⟨_, _, rfl⟩
  · exact ⟨_, _, rfl⟩
/-- A pointer by which a row is told: an index's, or none's. -/
def Rd (s : Option Addr) (r : List V) (W : World) : Prop := (Non W s ∧ r = []) ∨ ∃ B X H v, s = some ⟨X, 0, none⟩ ∧ Ix B X H v r W
theorem Rd.step {s : Option Addr} {r : List V} {W W' : World} (h : Rd s r W) (hb : Below W.heap.size W W') : Rd s r W' := by
  rcases h with ⟨h, k⟩ | ⟨B, X, H, v, h, k⟩
  · exact .inl ⟨h.step hb, k⟩
  · exact .inr ⟨B, X, H, v, h, k.step hb⟩
theorem Ix.rd {B X H : Nat} {v : Value} {r : List V} {W : World} (h : Ix B X H v r W) : Rd (some ⟨X, 0, none⟩) r W := .inr ⟨B, X, H, v, rfl, h⟩
theorem Non.rd {s : Option Addr} {W : World} (h : Non W s) : Rd s [] W := .inl ⟨h, rfl⟩
def Row_ (r : List V) (w : World) (e : Ending) (w' : World) : Prop := ∃ a c, e = .returned (.slice a r.length c) ∧ r.length ≤ c ∧ Lies w a r ∧ w = w'
theorem row (s : Option Addr) (r : List V) (w : World) (h : Rd s r w) : Calls Try.prog 31 #[.pointer s] w (Row_ r w) := by
  rcases h with ⟨h, rfl⟩ | ⟨B, X, H, v, rfl, h⟩
  · exact (row_none s w h).mono fun e w' ⟨h1, h2⟩ => ⟨none, 0, h1, Nat.le_refl _, Lies.nil _ _, h2⟩
  · obtain ⟨a, c, e0, hc, hl⟩ := h.lies
    exact (row_some w h).mono fun e w' ⟨h1, h2⟩ => ⟨a, c, by rw [h1, e0], hc, hl, h2⟩
set_option maxRecDepth 100000 in
theorem Newest (s : Option Addr) (r : List V) (lba ep : Int) (w : World) (h : Rd s r w) (hl : r.length ≤ 100000) (hs : Sorted r) :
    Calls Try.prog 11 #[.pointer s, .int .i64 lba, .int .i64 ep] w (Tvb (newest r lba ep) w) := by
  obtain ⟨W0, hW0⟩ : ∃ W0, W0 = w.alloc (.cells #[.int .i64 0, .int .i64 0, .int .i64 0] 27) := ⟨_, rfl⟩
  have B0 := Lib.hid (show Below w.heap.size w W0 by rw [hW0]; exact below_new w _)
  have K0 := Lib.hid (show W0.heap[w.heap.size]? = some (.cells #[.int .i64 0, .int .i64 0, .int .i64 0] 27 (0, 0)) by rw [hW0]; exact heap_alloc_new w _)
  have HR := Lib.hid (row s r W0 (h.step B0.out))
  have HC := Lib.hid (fun a c W (hh : Lies W a r) => cnewest c a r lba ep W (by omega) hs hh)
  clear h hs
  generalize newest r lba ep = x at *
  obtain ⟨⟨x0, x1, x2⟩, xb⟩ := x
  go_enter Try.func11, Try.ntmps11
  go_upto_region 1 with (fail)
  rw [← hW0]
  clear hW0
  go_wp2_with (first
    | (go_at_call 31; refine HR.out.mono ?_; rintro e _ ⟨a, c, rfl, hc, hlies, rfl⟩; have HL := Lib.hid hlies; clear hlies hc)
    | (go_at_call 32; refine (HC.out _ _ _ HL.out).mono ?_; rintro e w1 ⟨rfl, hb⟩; have K1 := Lib.hid ((hb.block _ (lt_of K0.out)).trans K0.out); have B1 := Lib.hid (B0.out.trans (hb.mono B0.out.size)); clear hb HC K0 B0)
    | (refine wpList_store_row rfl 27 _ _ rfl w.heap.size _ rfl rfl 27 _ K1.out infoV rfl (one3 (x0, x1, x2)) ?_))
  refine bodyPost_ret (v := .tuple #[.agg #[.int .i64 x0, .int .i64 x1, .int .i64 x2], .bool xb])
    (results_cell_tmp_row Try.results11 _ _ w.heap.size 27 _ (0, 0) _ rfl (setRow_same K1.out) Try.underlying27 rfl infoV) rfl
    ⟨rfl, below_setRow B1.out (Nat.le_refl _) _⟩
set_option maxRecDepth 100000 in
theorem Of (s : Option Addr) (r : List V) (lba ep : Int) (w : World) (h : Rd s r w) (hl : r.length ≤ 100000) (hs : Sorted r) :
    Calls Try.prog 13 #[.pointer s, .int .i64 lba, .int .i64 ep] w (Tvb (IdxM.of r lba ep) w) := by
  obtain ⟨W0, hW0⟩ : ∃ W0, W0 = w.alloc (.cells #[.int .i64 0, .int .i64 0, .int .i64 0] 27) := ⟨_, rfl⟩
  have B0 := Lib.hid (show Below w.heap.size w W0 by rw [hW0]; exact below_new w _)
  have K0 := Lib.hid (show W0.heap[w.heap.size]? = some (.cells #[.int .i64 0, .int .i64 0, .int .i64 0] 27 (0, 0)) by rw [hW0]; exact heap_alloc_new w _)
  have HR := Lib.hid (row s r W0 (h.step B0.out))
  have HC := Lib.hid (fun a c W (hh : Lies W a r) => cof c a r lba ep W (by omega) hs hh)
  clear h hs
  generalize IdxM.of r lba ep = x at *
  obtain ⟨⟨x0, x1, x2⟩, xb⟩ := x
  go_enter Try.func13, Try.ntmps13
  go_upto_region 1 with (fail)
  rw [← hW0]
  clear hW0
  go_wp2_with (first
    | (go_at_call 31; refine HR.out.mono ?_; rintro e _ ⟨a, c, rfl, hc, hlies, rfl⟩; have HL := Lib.hid hlies; clear hlies hc)
    | (go_at_call 34; refine (HC.out _ _ _ HL.out).mono ?_; rintro e w1 ⟨rfl, hb⟩; have K1 := Lib.hid ((hb.block _ (lt_of K0.out)).trans K0.out); have B1 := Lib.hid (B0.out.trans (hb.mono B0.out.size)); clear hb HC K0 B0)
    | (refine wpList_store_row rfl 27 _ _ rfl w.heap.size _ rfl rfl 27 _ K1.out infoV rfl (one3 (x0, x1, x2)) ?_))
  refine bodyPost_ret (v := .tuple #[.agg #[.int .i64 x0, .int .i64 x1, .int .i64 x2], .bool xb])
    (results_cell_tmp_row Try.results13 _ _ w.heap.size 27 _ (0, 0) _ rfl (setRow_same K1.out) Try.underlying27 rfl infoV) rfl
    ⟨rfl, below_setRow B1.out (Nat.le_refl _) _⟩
set_option maxRecDepth 100000 in
theorem All (s : Option Addr) (r : List V) (w : World) (h : Rd s r w) (hl : r.length ≤ 100000) :
    Calls Try.prog 17 #[.pointer s] w (Cloned r w) := by
  have HR := Lib.hid (row s r w h)
  have HC := Lib.hid (fun a c W (hh : Lies W a r) => Clone a c r W hh hl)
  clear h
  go_enter Try.func17, Try.ntmps17
  go_wp2_with (first
    | (go_at_call 31; refine HR.out.mono ?_; rintro e _ ⟨a, c, rfl, hc, hlies, rfl⟩; have HL := Lib.hid hlies; clear hlies hc)
    | (go_at_call 36; refine (HC.out _ _ _ HL.out).mono ?_; rintro e w1 ⟨v, rfl, hown, hb⟩; have HO := Lib.hid hown; have HB := Lib.hid hb; clear hown hb HC))
  go_ret
  exact ⟨v, rfl, HO.out, HB.out⟩
set_option maxRecDepth 100000 in
theorem Places (s : Option Addr) (r : List V) (w : World) (h : Rd s r w) (hl : r.length ≤ 100000) (hs : Sorted r) :
    Calls Try.prog 19 #[.pointer s] w fun e w' => e = .returned (.int .i64 (plc r).length) ∧ Below w.heap.size w w' := by
  have HR := Lib.hid (row s r w h)
  have HC := Lib.hid (fun a c W (hc : r.length ≤ c) (hh : Lies W a r) => cplaces c a r W hl hc hs hh)
  clear h hs
  generalize plc r = pl at *
  go_enter Try.func19, Try.ntmps19
  go_wp2_with (first
    | (go_at_call 31; refine HR.out.mono ?_; rintro e _ ⟨a, c, rfl, hc, hlies, rfl⟩; have HL := Lib.hid hlies; have HQ := Lib.hid hc; clear hlies hc)
    | (go_at_call 35; refine (HC.out _ _ _ HQ.out HL.out).mono ?_; rintro e w1 ⟨v, rfl, hown, hb⟩; obtain ⟨va, vc, rfl⟩ := own_slice_len hown; have HB := Lib.hid hb; clear hown hb HC))
  go_ret
  exact ⟨rfl, HB.out⟩
end Go.Proofs.Ytnebbbloipdnbaa.IdxW
