/- Take, Close and Back: the walks of their texts. The condition: that the least and the most numbers lie in the program's two variables. -/
import Derived.Test.YtmghkacbphdakaaDoorSpaG
namespace Go.Proofs.YtmghkacbphdakaaDoor.SpaH
open Go.RowKit
open GeoN GeoC GeoS SpaN SpaC SpaE SpaF SpaD SpaG
set_option maxRecDepth 100000 in
theorem Take_none (s : Option Addr) (w : World) (h : Non w s) :
    Calls Tryd.prog 10 #[.pointer s] w fun e w' => e = .returned (.tuple #[.int .i64 0, .int .i64 1]) ∧ Below w.heap.size w w' := by
  have HN := Lib.hid (next_none s 5 20 #[.pointer s] #[] w h)
  have hmf := makes
  clear h
  go_enter Tryd.func10, Tryd.ntmps10
  go_wp2_with (go_at_call 19; refine HN.out.mono ?_; rintro e w2 ⟨rfl, hb2⟩; have B2 := Lib.hid hb2; clear hb2)
  go_ret2
  exact ⟨rfl, B2.out⟩
set_option maxRecDepth 100000 in
theorem Close_none (s : Option Addr) (w : World) (h : Non w s) :
    Calls Tryd.prog 12 #[.pointer s] w fun e w' => e = .returned (.tuple #[.int .i64 0, .int .i64 1]) ∧ Below w.heap.size w w' := by
  have HN := Lib.hid (next_none s 6 21 #[.pointer s] #[] w h)
  have hmf := makes
  clear h
  go_enter Tryd.func12, Tryd.ntmps12
  go_wp2_with (go_at_call 19; refine HN.out.mono ?_; rintro e w2 ⟨rfl, hb2⟩; have B2 := Lib.hid hb2; clear hb2)
  go_ret2
  exact ⟨rfl, B2.out⟩
set_option maxRecDepth 100000 in
theorem Take_no (B : Nat) (b l f u : Int) (w : World) (h : Sp w B b l f u) (hb : (b == 0) = false) (hg : Bnd w) (hu : u ≤ 9223372036854775807) (hr : room b l f u = 0) :
    Calls Tryd.prog 10 #[.pointer (some ⟨B, 0, none⟩)] w fun e w' => e = .returned (.tuple #[.int .i64 0, .int .i64 5]) ∧ Below w.heap.size w w' := by
  have HN := Lib.hid (next_no B b l f u 5 20 #[.pointer (some ⟨B, 0, none⟩)] #[] w h hb rfl (fun _ _ => rfl) (fun W h1 => by have := isFull B b l f u W (h.step h1) hb (hg.step h1) hu; rw [full_yes hr] at this; exact this))
  have hmf := makes
  clear h hb hg hu hr
  go_enter Tryd.func10, Tryd.ntmps10
  go_wp2_with (go_at_call 19; refine HN.out.mono ?_; rintro e w2 ⟨rfl, hb2⟩; have B2 := Lib.hid hb2; clear hb2)
  go_ret2
  exact ⟨rfl, B2.out⟩
set_option maxRecDepth 100000 in
theorem Take_yes (B : Nat) (b l f u : Int) (w : World) (h : Sp w B b l f u) (hb : (b == 0) = false) (hg : Bnd w) (hu0 : 0 ≤ u) (hu1 : u ≤ 1020) (hr : ¬ room b l f u = 0) :
    Calls Tryd.prog 10 #[.pointer (some ⟨B, 0, none⟩)] w fun e w' => e = .returned (.tuple #[.int .i64 u, .int .i64 0]) ∧ Sp w' B b l f (u + 1) ∧ But B w w' := by
  have HN := Lib.hid (next_yes B b l f u 5 20 #[.pointer (some ⟨B, 0, none⟩)] #[] w h hb hu0 hu1 (fun _ _ => rfl) (fun W h1 => by have := isFull B b l f u W (h.step h1) hb (hg.step h1) (by omega); rw [full_no hr] at this; exact this))
  have hmf := makes
  clear h hb hg hu0 hu1 hr
  go_enter Tryd.func10, Tryd.ntmps10
  go_wp2_with (go_at_call 19; refine HN.out.mono ?_; rintro e w2 ⟨rfl, hb2⟩; have B2 := Lib.hid hb2; clear hb2)
  go_ret2
  exact ⟨rfl, B2.out⟩
set_option maxRecDepth 100000 in
theorem Close_no (B : Nat) (b l f u : Int) (w : World) (h : Sp w B b l f u) (hb : (b == 0) = false) (hg : Bnd w) (hr : ¬ u < data b l f) :
    Calls Tryd.prog 12 #[.pointer (some ⟨B, 0, none⟩)] w fun e w' => e = .returned (.tuple #[.int .i64 0, .int .i64 6]) ∧ Below w.heap.size w w' := by
  have HN := Lib.hid (next_no B b l f u 6 21 #[.pointer (some ⟨B, 0, none⟩)] #[] w h hb rfl (fun _ _ => rfl) (fun W h1 => by have := isOver B b l f u W (h.step h1) hb (hg.step h1); rw [opened_no hr] at this; exact this))
  have hmf := makes
  clear h hb hg hr
  go_enter Tryd.func12, Tryd.ntmps12
  go_wp2_with (go_at_call 19; refine HN.out.mono ?_; rintro e w2 ⟨rfl, hb2⟩; have B2 := Lib.hid hb2; clear hb2)
  go_ret2
  exact ⟨rfl, B2.out⟩
set_option maxRecDepth 100000 in
theorem Close_yes (B : Nat) (b l f u : Int) (w : World) (h : Sp w B b l f u) (hb : (b == 0) = false) (hg : Bnd w) (hu0 : 0 ≤ u) (hu1 : u ≤ 1020) (hr : u < data b l f) :
    Calls Tryd.prog 12 #[.pointer (some ⟨B, 0, none⟩)] w fun e w' => e = .returned (.tuple #[.int .i64 u, .int .i64 0]) ∧ Sp w' B b l f (u + 1) ∧ But B w w' := by
  have HN := Lib.hid (next_yes B b l f u 6 21 #[.pointer (some ⟨B, 0, none⟩)] #[] w h hb hu0 hu1 (fun _ _ => rfl) (fun W h1 => by have := isOver B b l f u W (h.step h1) hb (hg.step h1); rw [opened_yes hr] at this; exact this))
  have hmf := makes
  clear h hb hg hu0 hu1 hr
  go_enter Tryd.func12, Tryd.ntmps12
  go_wp2_with (go_at_call 19; refine HN.out.mono ?_; rintro e w2 ⟨rfl, hb2⟩; have B2 := Lib.hid hb2; clear hb2)
  go_ret2
  exact ⟨rfl, B2.out⟩
/-- Both boxes of Back. -/
structure Bx (w : World) (s : Option Addr) (n : Int) (W : World) : Prop where
  bel : Below w.heap.size w W
  s : W.heap[w.heap.size]? = some (.cells #[.pointer s] 26 (0, 0))
  n : W.heap[w.heap.size + 1]? = some (.cells #[.int .i64 n] 3 (0, 0))
theorem bx_new (w : World) (s : Option Addr) (n : Int) : Bx w s n ((w.alloc (.cells #[.pointer s] 26)).alloc (.cells #[.int .i64 n] 3)) :=
  ⟨(box_new w _).trans ((box_new _ _).mono (by simp)), heap_alloc2_old w _ _, heap_alloc2_new w _ _⟩
theorem Bx.lt {w W : World} {s : Option Addr} {n : Int} (h : Bx w s n W) : w.heap.size + 1 < W.heap.size := (Array.getElem?_eq_some_iff.1 h.n).1
theorem Bx.step {w W W' : World} {s : Option Addr} {n : Int} (h : Bx w s n W) (hb : Below W.heap.size W W') : Bx w s n W' :=
  ⟨h.bel.trans (hb.mono h.bel.size), (hb.block _ (by have := h.lt; omega)).trans h.s, (hb.block _ h.lt).trans h.n⟩
theorem Bx.cells {w W : World} {s : Option Addr} {n : Int} (h : Bx w s n W) : W.cell? ⟨w.heap.size, 0, none⟩ = some (.pointer s) ∧ W.cell? ⟨w.heap.size + 1, 0, none⟩ = some (.int .i64 n) := ⟨blk_cell h.s rfl, blk_cell h.n rfl⟩
set_option maxRecDepth 100000 in
theorem Back_none (s : Option Addr) (n : Int) (w : World) (h : Non w s) :
    Calls Tryd.prog 13 #[.pointer s, .int .i64 n] w fun e w' => e = .returned (.int .i64 1) ∧ Below w.heap.size w w' := by
  have HN := Lib.hid (fun W h => refused_none s 2 22 #[] #[.pointer (some ⟨w.heap.size + 1, 0, none⟩), .pointer (some ⟨w.heap.size, 0, none⟩)] W h)
  have hmf := makes
  obtain ⟨W2, hW2⟩ : ∃ W2, W2 = (w.alloc (.cells #[.pointer s] 26)).alloc (.cells #[.int .i64 n] 3) := ⟨_, rfl⟩
  have XX := Lib.hid (show Bx w s n W2 by rw [hW2]; exact bx_new w s n)
  have HS := Lib.hid (h.step XX.out.bel)
  obtain ⟨k0, k1⟩ := XX.out.cells
  clear h
  go_enter Tryd.func13, Tryd.ntmps13
  go_upto_region 1 with (fail)
  rw [← hW2]
  clear hW2
  go_wp2_with (go_at_call 23; refine (HN.out _ HS.out).mono ?_; rintro e w3 ⟨rfl, hb3⟩; replace XX := Lib.hid (XX.out.step hb3); clear hb3 k0 k1)
  go_ret
  exact ⟨rfl, XX.out.bel⟩
set_option maxRecDepth 100000 in
theorem Back_no (B : Nat) (b l f u n : Int) (w : World) (h : Sp w B b l f u) (hb : (b == 0) = false) (hn : n < 0 ∨ u < n) :
    Calls Tryd.prog 13 #[.pointer (some ⟨B, 0, none⟩), .int .i64 n] w fun e w' => e = .returned (.int .i64 2) ∧ Below w.heap.size w w' := by
  have hmf := makes
  obtain ⟨W2, hW2⟩ : ∃ W2, W2 = (w.alloc (.cells #[.pointer (some ⟨B, 0, none⟩)] 26)).alloc (.cells #[.int .i64 n] 3) := ⟨_, rfl⟩
  have XX := Lib.hid (show Bx w (some ⟨B, 0, none⟩) n W2 by rw [hW2]; exact bx_new w _ n)
  have HN := Lib.hid (refused_some B b l f u 2 22 #[] #[.pointer (some ⟨w.heap.size + 1, 0, none⟩), .pointer (some ⟨w.heap.size, 0, none⟩)] true W2 (h.step XX.out.bel) hb (fun _ _ => rfl) (fun W h1 => by
    have := asked n _ _ B b l f u W (XX.out.step h1).cells.2 (XX.out.step h1).cells.1 ((h.step XX.out.bel).step h1)
    rw [out_yes hn] at this
    exact this))
  obtain ⟨k0, k1⟩ := XX.out.cells
  clear h hb hn
  go_enter Tryd.func13, Tryd.ntmps13
  go_upto_region 1 with (fail)
  rw [← hW2]
  clear hW2
  go_wp2_with (go_at_call 23; refine HN.out.mono ?_; rintro e w3 ⟨rfl, hb3⟩; replace XX := Lib.hid (XX.out.step hb3); clear hb3 k0 k1)
  go_ret
  exact ⟨rfl, XX.out.bel⟩
set_option maxRecDepth 100000 in
theorem Back_yes (B : Nat) (b l f u n : Int) (w : World) (h : Sp w B b l f u) (hb : (b == 0) = false) (hn0 : ¬ n < 0) (hn1 : ¬ u < n) :
    Calls Tryd.prog 13 #[.pointer (some ⟨B, 0, none⟩), .int .i64 n] w fun e w' => e = .returned (.int .i64 0) ∧ Sp w' B b l f n ∧ But B w w' := by
  have hmf := makes
  obtain ⟨W2, hW2⟩ : ∃ W2, W2 = (w.alloc (.cells #[.pointer (some ⟨B, 0, none⟩)] 26)).alloc (.cells #[.int .i64 n] 3) := ⟨_, rfl⟩
  have XX := Lib.hid (show Bx w (some ⟨B, 0, none⟩) n W2 by rw [hW2]; exact bx_new w _ n)
  have HN := Lib.hid (refused_some B b l f u 2 22 #[] #[.pointer (some ⟨w.heap.size + 1, 0, none⟩), .pointer (some ⟨w.heap.size, 0, none⟩)] false W2 (h.step XX.out.bel) hb (fun _ _ => rfl) (fun W h1 => by
    have := asked n _ _ B b l f u W (XX.out.step h1).cells.2 (XX.out.step h1).cells.1 ((h.step XX.out.bel).step h1)
    rw [out_no hn0 hn1] at this
    exact this))
  have HS := Lib.hid h
  obtain ⟨k0, k1⟩ := XX.out.cells
  clear h hb hn0 hn1
  go_enter Tryd.func13, Tryd.ntmps13
  go_upto_region 1 with (fail)
  rw [← hW2]
  clear hW2
  go_wp2_with (go_at_call 23; refine HN.out.mono ?_; rintro e w3 ⟨rfl, hb3⟩; clear k0 k1; replace XX := Lib.hid (XX.out.step hb3); obtain ⟨k0, k1⟩ := XX.out.cells; have f3 := blk_free (i := 3) (HS.out.step XX.out.bel); have c3 := (HS.out.step XX.out.bel).cells.2.2.2; clear hb3)
  go_ret
  exact ⟨rfl, (HS.out.step XX.out.bel).set_ _, (But.of_below XX.out.bel).set_ _ _⟩
end Go.Proofs.YtmghkacbphdakaaDoor.SpaH
