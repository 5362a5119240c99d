/- super.Take, super.Choose: the walks of their texts. The condition: that the least and the most numbers, and the rounds' numbers, lie in the program's variables. -/
import Derived.Test.YtghljhohbhkdeaaDoorSupT
namespace Go.Proofs.YtghljhohbhkdeaaDoor.SupU
open Go.RowKit
open GeoN GeoC GeoS SupN SupC SupD SupP SupT
open GeoP (lt_of_some)
open SupE (results_cell_tmp_row)
/-- What stands while Take runs: what was stays, the variables, the result's block. -/
structure Tk (w W : World) : Prop where
  bel : Below w.heap.size w W
  gl : Gl W
  k : Bk W w.heap.size 0 0 0 0 0 0 0
theorem tk_new {w : World} (hg : Gl w) : Tk w (w.alloc (.cells #[.int .i64 0, .int .i64 0, .int .i64 0, .int .i64 0, .int .i64 0, .int .i64 0, .int .i64 0] 25)) :=
  have h : Below w.heap.size w (w.alloc (.cells #[.int .i64 0, .int .i64 0, .int .i64 0, .int .i64 0, .int .i64 0, .int .i64 0, .int .i64 0] 25)) := (Below.refl _ _).alloc (Nat.le_refl _) _
  ⟨h, hg.step h, heap_alloc_new w _⟩
theorem Tk.step {w W W' : World} (h : Tk w W) (hb : Below W.heap.size W W') : Tk w W' := ⟨h.bel.trans (hb.mono h.bel.size), h.gl.step hb, h.k.step hb⟩
set_option maxRecDepth 100000 in
theorem Take_no (s : List UInt8) (hr : readOf s = (nil_, 3)) (w : World) (hg : Gl w) :
    Calls Tryd.prog 12 #[.string ⟨s.toArray⟩] w fun r w' => r = .returned (.tuple #[.agg #[.int .i64 0, .int .i64 0, .int .i64 0, .int .i64 0, .int .i64 0, .int .i64 0, .int .i64 0], .int .i64 3]) ∧ Below w.heap.size w w' := by
  obtain ⟨W1, hW1⟩ : ∃ W1, W1 = w.alloc (.cells #[.int .i64 0, .int .i64 0, .int .i64 0, .int .i64 0, .int .i64 0, .int .i64 0, .int .i64 0] 25) := ⟨_, rfl⟩
  have TT : Hid (Tk w W1) := Lib.hid (by rw [hW1]; exact tk_new hg)
  have HR := Lib.hid (fun W h => SupT.read s W h)
  rw [hr] at HR
  go_enter Tryd.func12, Tryd.ntmps12
  go_upto_region 1 with (fail)
  rw [← hW1]
  clear hW1 hg
  go_upto_region 2 with (first
    | (go_at_call 28; refine (HR.out _ TT.out.gl.bn).mono ?_; rintro r w2 ⟨rfl, hb2⟩; replace TT := Lib.hid (TT.out.step hb2); clear hb2)
    | (refine wpList_store_row rfl 25 _ _ rfl w2.heap.size _ rfl rfl 25 _ (heap_alloc_new w2 _) infoS rfl (one7 0 0 0 0 0 0 0) ?_))
  generalize hW3 : World.setRow (World.alloc w2 _) _ _ = W3
  replace TT : Hid (Tk w W3) := Lib.hid (by rw [← hW3]; exact TT.out.step (kept_new _ _ _ _))
  have KK : Hid (Bk W3 w2.heap.size 0 0 0 0 0 0 0) := Lib.hid (by rw [← hW3]; exact has_new _ _ _ _)
  clear hW3
  generalize w2.heap.size = X at *
  go_wp2_with (refine wpList_store_row rfl 25 _ _ rfl w.heap.size _ rfl rfl 25 _ TT.out.k infoS rfl (one7 0 0 0 0 0 0 0) ?_)
  refine bodyPost_ret (v := .tuple #[.agg #[.int .i64 0, .int .i64 0, .int .i64 0, .int .i64 0, .int .i64 0, .int .i64 0, .int .i64 0], .int .i64 3])
    (results_cell_tmp_row Tryd.results12 _ _ w.heap.size 25 _ (0, 0) _ rfl (setRow_same TT.out.k) Tryd.underlying25 rfl infoS) rfl
    ⟨rfl, below_setRow TT.out.bel (Nat.le_refl _) _⟩
set_option maxRecDepth 100000 in
theorem Take_other (s : List UInt8) (g t e k b l f : Int) (p : List UInt8) (c : Int) (hr : readOf s = (⟨g, t, e, k, b, l, f⟩, 0)) (hp : put_ ⟨g, t, e, k, b, l, f⟩ = (p, c)) (hn : (p == s) = false) (w : World) (hg : Gl w) :
    Calls Tryd.prog 12 #[.string ⟨s.toArray⟩] w fun r w' => r = .returned (.tuple #[.agg #[.int .i64 0, .int .i64 0, .int .i64 0, .int .i64 0, .int .i64 0, .int .i64 0, .int .i64 0], .int .i64 3]) ∧ Below w.heap.size w w' := by
  obtain ⟨W1, hW1⟩ : ∃ W1, W1 = w.alloc (.cells #[.int .i64 0, .int .i64 0, .int .i64 0, .int .i64 0, .int .i64 0, .int .i64 0, .int .i64 0] 25) := ⟨_, rfl⟩
  have TT : Hid (Tk w W1) := Lib.hid (by rw [hW1]; exact tk_new hg)
  have HR := Lib.hid (fun W h => SupT.read s W h)
  rw [hr] at HR
  have HP := Lib.hid (fun W h => SupP.Put g t e k b l f W h)
  rw [hp] at HP
  clear hr hp
  go_enter Tryd.func12, Tryd.ntmps12
  go_upto_region 1 with (fail)
  rw [← hW1]
  clear hW1 hg
  go_upto_region 2 with (first
    | (go_at_call 28; refine (HR.out _ TT.out.gl.bn).mono ?_; rintro r w2 ⟨rfl, hb2⟩; replace TT := Lib.hid (TT.out.step hb2); clear hb2)
    | (refine wpList_store_row rfl 25 _ _ rfl w2.heap.size _ rfl rfl 25 _ (heap_alloc_new w2 _) infoS rfl (one7 g t e k b l f) ?_))
  generalize hW3 : World.setRow (World.alloc w2 _) _ _ = W3
  replace TT : Hid (Tk w W3) := Lib.hid (by rw [← hW3]; exact TT.out.step (kept_new _ _ _ _))
  have KK : Hid (Bk W3 w2.heap.size g t e k b l f) := Lib.hid (by rw [← hW3]; exact has_new _ _ _ _)
  clear hW3
  generalize w2.heap.size = X at *
  obtain ⟨k0, k1, k2, k3, k4, k5, k6⟩ := KK.out.cells
  go_wp2_with (first
    | (go_at_call 7; refine (HP.out _ TT.out.gl).mono ?_; rintro r w4 ⟨rfl, hb4⟩; replace TT := Lib.hid (TT.out.step hb4); replace KK := Lib.hid (KK.out.step hb4); clear hb4 k0 k1 k2 k3 k4 k5 k6; obtain ⟨k0, k1, k2, k3, k4, k5, k6⟩ := KK.out.cells)
    | (refine wpList_store_row rfl 25 _ _ rfl w.heap.size _ rfl rfl 25 _ TT.out.k infoS rfl (one7 0 0 0 0 0 0 0) ?_))
  refine bodyPost_ret (v := .tuple #[.agg #[.int .i64 0, .int .i64 0, .int .i64 0, .int .i64 0, .int .i64 0, .int .i64 0, .int .i64 0], .int .i64 3])
    (results_cell_tmp_row Tryd.results12 _ _ w.heap.size 25 _ (0, 0) _ rfl (setRow_same TT.out.k) Tryd.underlying25 rfl infoS) rfl
    ⟨rfl, below_setRow TT.out.bel (Nat.le_refl _) _⟩
set_option maxRecDepth 100000 in
theorem Take_same (s : List UInt8) (g t e k b l f : Int) (c : Int) (hr : readOf s = (⟨g, t, e, k, b, l, f⟩, 0)) (hp : put_ ⟨g, t, e, k, b, l, f⟩ = (s, c)) (w : World) (hg : Gl w) :
    Calls Tryd.prog 12 #[.string ⟨s.toArray⟩] w fun r w' => r = .returned (.tuple #[.agg #[.int .i64 g, .int .i64 t, .int .i64 e, .int .i64 k, .int .i64 b, .int .i64 l, .int .i64 f], .int .i64 0]) ∧ Below w.heap.size w w' := by
  obtain ⟨W1, hW1⟩ : ∃ W1, W1 = w.alloc (.cells #[.int .i64 0, .int .i64 0, .int .i64 0, .int .i64 0, .int .i64 0, .int .i64 0, .int .i64 0] 25) := ⟨_, rfl⟩
  have TT : Hid (Tk w W1) := Lib.hid (by rw [hW1]; exact tk_new hg)
  have HR := Lib.hid (fun W h => SupT.read s W h)
  rw [hr] at HR
  have HP := Lib.hid (fun W h => SupP.Put g t e k b l f W h)
  rw [hp] at HP
  clear hr hp
  go_enter Tryd.func12, Tryd.ntmps12
  go_upto_region 1 with (fail)
  rw [← hW1]
  clear hW1 hg
  go_upto_region 2 with (first
    | (go_at_call 28; refine (HR.out _ TT.out.gl.bn).mono ?_; rintro r w2 ⟨rfl, hb2⟩; replace TT := Lib.hid (TT.out.step hb2); clear hb2)
    | (refine wpList_store_row rfl 25 _ _ rfl w2.heap.size _ rfl rfl 25 _ (heap_alloc_new w2 _) infoS rfl (one7 g t e k b l f) ?_))
  generalize hW3 : World.setRow (World.alloc w2 _) _ _ = W3
  replace TT : Hid (Tk w W3) := Lib.hid (by rw [← hW3]; exact TT.out.step (kept_new _ _ _ _))
  have KK : Hid (Bk W3 w2.heap.size g t e k b l f) := Lib.hid (by rw [← hW3]; exact has_new _ _ _ _)
  clear hW3
  generalize w2.heap.size = X at *
  obtain ⟨k0, k1, k2, k3, k4, k5, k6⟩ := KK.out.cells
  go_wp2_with (first
    | (go_at_call 7; refine (HP.out _ TT.out.gl).mono ?_; rintro r w4 ⟨rfl, hb4⟩; replace TT := Lib.hid (TT.out.step hb4); replace KK := Lib.hid (KK.out.step hb4); clear hb4 k0 k1 k2 k3 k4 k5 k6; obtain ⟨k0, k1, k2, k3, k4, k5, k6⟩ := KK.out.cells)
    | (refine wpList_store_row rfl 25 _ _ rfl w.heap.size _ rfl rfl 25 _ TT.out.k infoS rfl (one7 g t e k b l f) ?_))
  refine bodyPost_ret (v := .tuple #[.agg #[.int .i64 g, .int .i64 t, .int .i64 e, .int .i64 k, .int .i64 b, .int .i64 l, .int .i64 f], .int .i64 0])
    (results_cell_tmp_row Tryd.results12 _ _ w.heap.size 25 _ (0, 0) _ rfl (setRow_same TT.out.k) Tryd.underlying25 rfl infoS) rfl
    ⟨rfl, below_setRow TT.out.bel (Nat.le_refl _) _⟩
/-- What super.Take answers. -/
theorem Take (s : List UInt8) (w : World) (hg : Gl w) :
    Calls Tryd.prog 12 #[.string ⟨s.toArray⟩] w fun r w' => r = .returned (.tuple #[.agg #[.int .i64 ((take s).1).g, .int .i64 ((take s).1).t, .int .i64 ((take s).1).e, .int .i64 ((take s).1).k, .int .i64 ((take s).1).b, .int .i64 ((take s).1).l, .int .i64 ((take s).1).f], .int .i64 (take s).2]) ∧ Below w.heap.size w w' := by
  by_cases hr : readable s
  · by_cases hs : good s
    · rw [take_yes hs]
      exact Take_same s _ _ _ _ _ _ _ _ (read_yes hr) (put_take hs) w hg
    · rw [take_no hs]
      have hne : ¬ (put_ (rd s)).1 = s := fun hh => hs ((again_good hr.1).1 hh)
      exact Take_other s _ _ _ _ _ _ _ _ _ (read_yes hr) rfl (beq_eq_false_iff_ne.2 hne) w hg
  · rw [take_no (fun hs => hr (good_readable hs))]
    exact Take_no s (read_no hr) w hg
end Go.Proofs.YtghljhohbhkdeaaDoor.SupU
