/- keepsakeref10.Take: the walk of its text. No conditions. -/
import Derived.Test.YtghljhohbhkdeaaDoorSupS
import Derived.Test.YtghljhohbhkdeaaDoorSupT
namespace Go.Proofs.YtghljhohbhkdeaaDoor.SupW
open Go.RowKit
open GeoN GeoC GeoS SupN SupC
open SupE (results_cell_tmp_row)
open SupT (ext_at)
/-- What stands while Take runs: what was stays, the result's block. -/
structure Rk (w W : World) : Prop where
  bel : Below w.heap.size w W
  k : Bk W w.heap.size 0 0 0 0 0 0 0
theorem rk_new (w : World) : Rk w (w.alloc (.cells #[.int .i64 0, .int .i64 0, .int .i64 0, .int .i64 0, .int .i64 0, .int .i64 0, .int .i64 0] 25)) := ⟨(Below.refl _ _).alloc (Nat.le_refl _) _, heap_alloc_new w _⟩
theorem Rk.step {w W W' : World} (h : Rk w W) (hb : Below W.heap.size W W') : Rk w W' := ⟨h.bel.trans (hb.mono h.bel.size), h.k.step hb⟩
theorem get_at (p : List UInt8) (x c : Int) (h : get p = (x, c)) (w : World) :
    Calls Tryd.prog 29 #[.string ⟨p.toArray⟩] w fun r w' => r = .returned (.tuple #[.int .i64 x, .int .i64 c]) ∧ w = w' := by
  have := RGet.any ⟨p.toArray⟩ w
  rw [show (⟨p.toArray⟩ : ByteArray).data.toList = p from rfl, h] at this
  exact this
set_option maxRecDepth 100000 in
theorem Take_len (s : List UInt8) (w : World) (h : (((s.length : Nat) : Int) == 4096) = false) :
    Calls Tryd.prog 13 #[.string ⟨s.toArray⟩] w fun r w' => r = .returned (.tuple #[.agg #[.int .i64 0, .int .i64 0, .int .i64 0, .int .i64 0, .int .i64 0, .int .i64 0, .int .i64 0], .bool false]) ∧ Below w.heap.size w w' := by
  have hz := GeoQ.size_mk s
  go_enter Tryd.func13, Tryd.ntmps13
  go_wp2_with (refine wpList_store_row rfl 25 _ _ rfl w.heap.size _ rfl rfl 25 _ (heap_alloc_new w _) infoS rfl (one7 0 0 0 0 0 0 0) ?_)
  refine bodyPost_ret (v := .tuple #[.agg #[.int .i64 0, .int .i64 0, .int .i64 0, .int .i64 0, .int .i64 0, .int .i64 0, .int .i64 0], .bool false])
    (results_cell_tmp_row Tryd.results13 _ _ w.heap.size 25 _ (0, 0) _ rfl (setRow_same (heap_alloc_new w _)) Tryd.underlying25 rfl infoS) rfl
    ⟨rfl, below_setRow ((Below.refl _ _).alloc (Nat.le_refl _) _) (Nat.le_refl _) _⟩
set_option maxRecDepth 100000 in
set_option maxHeartbeats 2000000 in
theorem Take_bad (s : List UInt8) (g t e k b l f ea ed c : Int) (is : Bool) (w : World) (h : s.length = 4096) (h0 : get (r0 s) = (g, ea)) (h1 : get (r1 s) = (t, 0)) (h2 : get (r2 s) = (e, 0)) (h3 : get (r3 s) = (k, ed)) (h4 : GeoU.take (r4 s) = ((b, l, f), c)) (h5 : decide ((GeoU.take (r4 s)).2 = 0) = is)
    (hbad : ea = 3 ∨ (ea = 0 ∧ ed = 3) ∨ (ea = 0 ∧ ed = 0 ∧ is = false)) :
    Calls Tryd.prog 13 #[.string ⟨s.toArray⟩] w fun r w' => r = .returned (.tuple #[.agg #[.int .i64 0, .int .i64 0, .int .i64 0, .int .i64 0, .int .i64 0, .int .i64 0, .int .i64 0], .bool false]) ∧ Below w.heap.size w w' := by
  obtain ⟨W1, hW1⟩ : ∃ W1, W1 = w.alloc (.cells #[.int .i64 0, .int .i64 0, .int .i64 0, .int .i64 0, .int .i64 0, .int .i64 0, .int .i64 0] 25) := ⟨_, rfl⟩
  have TT : Hid (Rk w W1) := Lib.hid (by rw [hW1]; exact rk_new w)
  have hz := GeoQ.size_mk s
  have s0 := fun W => run_slice_string (P := Tryd.prog) (w := W) 9 ⟨s.toArray⟩ .i64 .i64 9 17 Tryd.underlying9 (by omega) (by omega) (show (17 : Int) ≤ ((s.length : Nat) : Int) by omega)
  rw [show (⟨s.toArray⟩ : ByteArray).extract (9 : Int).toNat (17 : Int).toNat = ⟨(r0 s).toArray⟩ from ext_at s 9 17] at s0
  have s1 := fun W => run_slice_string (P := Tryd.prog) (w := W) 9 ⟨s.toArray⟩ .i64 .i64 17 21 Tryd.underlying9 (by omega) (by omega) (show (21 : Int) ≤ ((s.length : Nat) : Int) by omega)
  rw [show (⟨s.toArray⟩ : ByteArray).extract (17 : Int).toNat (21 : Int).toNat = ⟨(r1 s).toArray⟩ from ext_at s 17 21] at s1
  have s2 := fun W => run_slice_string (P := Tryd.prog) (w := W) 9 ⟨s.toArray⟩ .i64 .i64 21 25 Tryd.underlying9 (by omega) (by omega) (show (25 : Int) ≤ ((s.length : Nat) : Int) by omega)
  rw [show (⟨s.toArray⟩ : ByteArray).extract (21 : Int).toNat (25 : Int).toNat = ⟨(r2 s).toArray⟩ from ext_at s 21 25] at s2
  have s3 := fun W => run_slice_string (P := Tryd.prog) (w := W) 9 ⟨s.toArray⟩ .i64 .i64 25 33 Tryd.underlying9 (by omega) (by omega) (show (33 : Int) ≤ ((s.length : Nat) : Int) by omega)
  rw [show (⟨s.toArray⟩ : ByteArray).extract (25 : Int).toNat (33 : Int).toNat = ⟨(r3 s).toArray⟩ from ext_at s 25 33] at s3
  have s4 := fun W => run_slice_string (P := Tryd.prog) (w := W) 9 ⟨s.toArray⟩ .i64 .i64 33 45 Tryd.underlying9 (by omega) (by omega) (show (45 : Int) ≤ ((s.length : Nat) : Int) by omega)
  rw [show (⟨s.toArray⟩ : ByteArray).extract (33 : Int).toNat (45 : Int).toNat = ⟨(r4 s).toArray⟩ from ext_at s 33 45] at s4
  have G0 := Lib.hid (fun W => get_at _ _ _ h0 W)
  have G1 := Lib.hid (fun W => get_at _ _ _ h1 W)
  have G2 := Lib.hid (fun W => get_at _ _ _ h2 W)
  have G3 := Lib.hid (fun W => get_at _ _ _ h3 W)
  have G4 := Lib.hid (fun W => GeoQ.Take (r4 s) W)
  rw [h5, h4] at G4
  clear h0 h1 h2 h3 h4 h5
  generalize r0 s = q0 at *
  generalize r1 s = q1 at *
  generalize r2 s = q2 at *
  generalize r3 s = q3 at *
  generalize r4 s = q4 at *
  go_enter Tryd.func13, Tryd.ntmps13
  go_upto_region 1 with (fail)
  rw [← hW1]
  clear hW1
  go_upto_region 4 with (go_at_call 29; refine (G0.out _).mono ?_; rintro r _ ⟨rfl, rfl⟩)
  clear s0 G0
  go_upto_region 5 with (go_at_call 29; refine (G1.out _).mono ?_; rintro r _ ⟨rfl, rfl⟩)
  clear s1 G1
  go_upto_region 6 with (go_at_call 29; refine (G2.out _).mono ?_; rintro r _ ⟨rfl, rfl⟩)
  clear s2 G2
  go_upto_region 7 with (go_at_call 29; refine (G3.out _).mono ?_; rintro r _ ⟨rfl, rfl⟩)
  clear s3 G3
  go_upto_region 8 with (first
    | (go_at_call 30; refine (G4.out _).mono ?_; rintro r w2 ⟨rfl, hb2⟩; replace TT := Lib.hid (TT.out.step hb2); clear hb2)
    | (refine wpList_store_row rfl 23 _ _ rfl w2.heap.size _ rfl rfl 23 _ (heap_alloc_new w2 _) infoG rfl (one3 b l f) ?_))
  generalize hW3 : World.setRow (World.alloc w2 _) _ _ = W3
  replace TT : Hid (Rk w W3) := Lib.hid (by rw [← hW3]; exact TT.out.step (kept_new _ _ _ _))
  have KG : Hid (GeoS.At W3 w2.heap.size b l f) := Lib.hid (by rw [← hW3]; exact has_new _ _ _ _)
  clear hW3 G4 s4
  generalize w2.heap.size = X at *
  rcases hbad with rfl | ⟨rfl, rfl⟩ | ⟨rfl, rfl, rfl⟩
  all_goals
    go_wp2_with (refine wpList_store_row rfl 25 _ _ rfl w.heap.size _ rfl rfl 25 _ TT.out.k infoS rfl (one7 0 0 0 0 0 0 0) ?_)
    refine bodyPost_ret (v := .tuple #[.agg #[.int .i64 0, .int .i64 0, .int .i64 0, .int .i64 0, .int .i64 0, .int .i64 0, .int .i64 0], .bool false])
      (results_cell_tmp_row Tryd.results13 _ _ w.heap.size 25 _ (0, 0) _ rfl (setRow_same TT.out.k) Tryd.underlying25 rfl infoS) rfl
      ⟨rfl, below_setRow TT.out.bel (Nat.le_refl _) _⟩
set_option maxRecDepth 100000 in
set_option maxHeartbeats 2000000 in
theorem Take_other (s : List UInt8) (g t e k b l f ea ed c : Int) (is : Bool) (w : World) (h : s.length = 4096) (h0 : get (r0 s) = (g, ea)) (h1 : get (r1 s) = (t, 0)) (h2 : get (r2 s) = (e, 0)) (h3 : get (r3 s) = (k, ed)) (h4 : GeoU.take (r4 s) = ((b, l, f), c)) (h5 : decide ((GeoU.take (r4 s)).2 = 0) = is)
    (hok : ea = 0 ∧ ed = 0 ∧ is = true) (p : List UInt8) (pc : Int) (so : Bool) (hp : put_ ⟨g, t, e, k, b, l, f⟩ = (p, pc)) (hm : decide (may ⟨g, t, e, k, b, l, f⟩) = so) (hno : so = false ∨ (so = true ∧ (p == s) = false)) :
    Calls Tryd.prog 13 #[.string ⟨s.toArray⟩] w fun r w' => r = .returned (.tuple #[.agg #[.int .i64 0, .int .i64 0, .int .i64 0, .int .i64 0, .int .i64 0, .int .i64 0, .int .i64 0], .bool false]) ∧ Below w.heap.size w w' := by
  obtain ⟨W1, hW1⟩ : ∃ W1, W1 = w.alloc (.cells #[.int .i64 0, .int .i64 0, .int .i64 0, .int .i64 0, .int .i64 0, .int .i64 0, .int .i64 0] 25) := ⟨_, rfl⟩
  have TT : Hid (Rk w W1) := Lib.hid (by rw [hW1]; exact rk_new w)
  have hz := GeoQ.size_mk s
  have s0 := fun W => run_slice_string (P := Tryd.prog) (w := W) 9 ⟨s.toArray⟩ .i64 .i64 9 17 Tryd.underlying9 (by omega) (by omega) (show (17 : Int) ≤ ((s.length : Nat) : Int) by omega)
  rw [show (⟨s.toArray⟩ : ByteArray).extract (9 : Int).toNat (17 : Int).toNat = ⟨(r0 s).toArray⟩ from ext_at s 9 17] at s0
  have s1 := fun W => run_slice_string (P := Tryd.prog) (w := W) 9 ⟨s.toArray⟩ .i64 .i64 17 21 Tryd.underlying9 (by omega) (by omega) (show (21 : Int) ≤ ((s.length : Nat) : Int) by omega)
  rw [show (⟨s.toArray⟩ : ByteArray).extract (17 : Int).toNat (21 : Int).toNat = ⟨(r1 s).toArray⟩ from ext_at s 17 21] at s1
  have s2 := fun W => run_slice_string (P := Tryd.prog) (w := W) 9 ⟨s.toArray⟩ .i64 .i64 21 25 Tryd.underlying9 (by omega) (by omega) (show (25 : Int) ≤ ((s.length : Nat) : Int) by omega)
  rw [show (⟨s.toArray⟩ : ByteArray).extract (21 : Int).toNat (25 : Int).toNat = ⟨(r2 s).toArray⟩ from ext_at s 21 25] at s2
  have s3 := fun W => run_slice_string (P := Tryd.prog) (w := W) 9 ⟨s.toArray⟩ .i64 .i64 25 33 Tryd.underlying9 (by omega) (by omega) (show (33 : Int) ≤ ((s.length : Nat) : Int) by omega)
  rw [show (⟨s.toArray⟩ : ByteArray).extract (25 : Int).toNat (33 : Int).toNat = ⟨(r3 s).toArray⟩ from ext_at s 25 33] at s3
  have s4 := fun W => run_slice_string (P := Tryd.prog) (w := W) 9 ⟨s.toArray⟩ .i64 .i64 33 45 Tryd.underlying9 (by omega) (by omega) (show (45 : Int) ≤ ((s.length : Nat) : Int) by omega)
  rw [show (⟨s.toArray⟩ : ByteArray).extract (33 : Int).toNat (45 : Int).toNat = ⟨(r4 s).toArray⟩ from ext_at s 33 45] at s4
  have G0 := Lib.hid (fun W => get_at _ _ _ h0 W)
  have G1 := Lib.hid (fun W => get_at _ _ _ h1 W)
  have G2 := Lib.hid (fun W => get_at _ _ _ h2 W)
  have G3 := Lib.hid (fun W => get_at _ _ _ h3 W)
  have G4 := Lib.hid (fun W => GeoQ.Take (r4 s) W)
  rw [h5, h4] at G4
  have HP := Lib.hid (fun W => SupS.Put g t e k b l f W)
  rw [hp, hm] at HP
  obtain ⟨rfl, rfl, rfl⟩ := hok
  clear hp hm
  clear h0 h1 h2 h3 h4 h5
  generalize r0 s = q0 at *
  generalize r1 s = q1 at *
  generalize r2 s = q2 at *
  generalize r3 s = q3 at *
  generalize r4 s = q4 at *
  go_enter Tryd.func13, Tryd.ntmps13
  go_upto_region 1 with (fail)
  rw [← hW1]
  clear hW1
  go_upto_region 4 with (go_at_call 29; refine (G0.out _).mono ?_; rintro r _ ⟨rfl, rfl⟩)
  clear s0 G0
  go_upto_region 5 with (go_at_call 29; refine (G1.out _).mono ?_; rintro r _ ⟨rfl, rfl⟩)
  clear s1 G1
  go_upto_region 6 with (go_at_call 29; refine (G2.out _).mono ?_; rintro r _ ⟨rfl, rfl⟩)
  clear s2 G2
  go_upto_region 7 with (go_at_call 29; refine (G3.out _).mono ?_; rintro r _ ⟨rfl, rfl⟩)
  clear s3 G3
  go_upto_region 8 with (first
    | (go_at_call 30; refine (G4.out _).mono ?_; rintro r w2 ⟨rfl, hb2⟩; replace TT := Lib.hid (TT.out.step hb2); clear hb2)
    | (refine wpList_store_row rfl 23 _ _ rfl w2.heap.size _ rfl rfl 23 _ (heap_alloc_new w2 _) infoG rfl (one3 b l f) ?_))
  generalize hW3 : World.setRow (World.alloc w2 _) _ _ = W3
  replace TT : Hid (Rk w W3) := Lib.hid (by rw [← hW3]; exact TT.out.step (kept_new _ _ _ _))
  have KG : Hid (GeoS.At W3 w2.heap.size b l f) := Lib.hid (by rw [← hW3]; exact has_new _ _ _ _)
  clear hW3 G4 s4
  generalize w2.heap.size = X at *
  obtain ⟨g0, g1, g2⟩ := KG.out.cells
  go_upto_region 11 with (refine wpList_store_row rfl 25 _ _ rfl W3.heap.size _ rfl rfl 25 _ (heap_alloc_new W3 _) infoS rfl (one7 g t e k b l f) ?_)
  generalize hW4 : World.setRow (World.alloc W3 _) _ _ = W4
  replace TT : Hid (Rk w W4) := Lib.hid (by rw [← hW4]; exact TT.out.step (kept_new _ _ _ _))
  have KK : Hid (Bk W4 W3.heap.size g t e k b l f) := Lib.hid (by rw [← hW4]; exact has_new _ _ _ _)
  clear hW4 KG g0 g1 g2
  generalize W3.heap.size = Y at *
  obtain ⟨k0, k1, k2, k3, k4, k5, k6⟩ := KK.out.cells
  rcases hno with rfl | ⟨rfl, hne⟩
  all_goals
    go_wp2_with (first
      | (go_at_call 8; refine (HP.out _).mono ?_; rintro r w4 ⟨rfl, hb4⟩; replace TT := Lib.hid (TT.out.step hb4); replace KK := Lib.hid (KK.out.step hb4); clear hb4 k0 k1 k2 k3 k4 k5 k6; obtain ⟨k0, k1, k2, k3, k4, k5, k6⟩ := KK.out.cells)
      | (refine wpList_store_row rfl 25 _ _ rfl w.heap.size _ rfl rfl 25 _ TT.out.k infoS rfl (one7 0 0 0 0 0 0 0) ?_))
    refine bodyPost_ret (v := .tuple #[.agg #[.int .i64 0, .int .i64 0, .int .i64 0, .int .i64 0, .int .i64 0, .int .i64 0, .int .i64 0], .bool false])
      (results_cell_tmp_row Tryd.results13 _ _ w.heap.size 25 _ (0, 0) _ rfl (setRow_same TT.out.k) Tryd.underlying25 rfl infoS) rfl
      ⟨rfl, below_setRow TT.out.bel (Nat.le_refl _) _⟩
set_option maxRecDepth 100000 in
set_option maxHeartbeats 2000000 in
theorem Take_same (s : List UInt8) (g t e k b l f ea ed c : Int) (is : Bool) (w : World) (h : s.length = 4096) (h0 : get (r0 s) = (g, ea)) (h1 : get (r1 s) = (t, 0)) (h2 : get (r2 s) = (e, 0)) (h3 : get (r3 s) = (k, ed)) (h4 : GeoU.take (r4 s) = ((b, l, f), c)) (h5 : decide ((GeoU.take (r4 s)).2 = 0) = is)
    (hok : ea = 0 ∧ ed = 0 ∧ is = true) (pc : Int) (hp : put_ ⟨g, t, e, k, b, l, f⟩ = (s, pc)) (hm : decide (may ⟨g, t, e, k, b, l, f⟩) = true) :
    Calls Tryd.prog 13 #[.string ⟨s.toArray⟩] w fun r w' => r = .returned (.tuple #[.agg #[.int .i64 g, .int .i64 t, .int .i64 e, .int .i64 k, .int .i64 b, .int .i64 l, .int .i64 f], .bool true]) ∧ Below w.heap.size w w' := by
  obtain ⟨W1, hW1⟩ : ∃ W1, W1 = w.alloc (.cells #[.int .i64 0, .int .i64 0, .int .i64 0, .int .i64 0, .int .i64 0, .int .i64 0, .int .i64 0] 25) := ⟨_, rfl⟩
  have TT : Hid (Rk w W1) := Lib.hid (by rw [hW1]; exact rk_new w)
  have hz := GeoQ.size_mk s
  have s0 := fun W => run_slice_string (P := Tryd.prog) (w := W) 9 ⟨s.toArray⟩ .i64 .i64 9 17 Tryd.underlying9 (by omega) (by omega) (show (17 : Int) ≤ ((s.length : Nat) : Int) by omega)
  rw [show (⟨s.toArray⟩ : ByteArray).extract (9 : Int).toNat (17 : Int).toNat = ⟨(r0 s).toArray⟩ from ext_at s 9 17] at s0
  have s1 := fun W => run_slice_string (P := Tryd.prog) (w := W) 9 ⟨s.toArray⟩ .i64 .i64 17 21 Tryd.underlying9 (by omega) (by omega) (show (21 : Int) ≤ ((s.length : Nat) : Int) by omega)
  rw [show (⟨s.toArray⟩ : ByteArray).extract (17 : Int).toNat (21 : Int).toNat = ⟨(r1 s).toArray⟩ from ext_at s 17 21] at s1
  have s2 := fun W => run_slice_string (P := Tryd.prog) (w := W) 9 ⟨s.toArray⟩ .i64 .i64 21 25 Tryd.underlying9 (by omega) (by omega) (show (25 : Int) ≤ ((s.length : Nat) : Int) by omega)
  rw [show (⟨s.toArray⟩ : ByteArray).extract (21 : Int).toNat (25 : Int).toNat = ⟨(r2 s).toArray⟩ from ext_at s 21 25] at s2
  have s3 := fun W => run_slice_string (P := Tryd.prog) (w := W) 9 ⟨s.toArray⟩ .i64 .i64 25 33 Tryd.underlying9 (by omega) (by omega) (show (33 : Int) ≤ ((s.length : Nat) : Int) by omega)
  rw [show (⟨s.toArray⟩ : ByteArray).extract (25 : Int).toNat (33 : Int).toNat = ⟨(r3 s).toArray⟩ from ext_at s 25 33] at s3
  have s4 := fun W => run_slice_string (P := Tryd.prog) (w := W) 9 ⟨s.toArray⟩ .i64 .i64 33 45 Tryd.underlying9 (by omega) (by omega) (show (45 : Int) ≤ ((s.length : Nat) : Int) by omega)
  rw [show (⟨s.toArray⟩ : ByteArray).extract (33 : Int).toNat (45 : Int).toNat = ⟨(r4 s).toArray⟩ from ext_at s 33 45] at s4
  have G0 := Lib.hid (fun W => get_at _ _ _ h0 W)
  have G1 := Lib.hid (fun W => get_at _ _ _ h1 W)
  have G2 := Lib.hid (fun W => get_at _ _ _ h2 W)
  have G3 := Lib.hid (fun W => get_at _ _ _ h3 W)
  have G4 := Lib.hid (fun W => GeoQ.Take (r4 s) W)
  rw [h5, h4] at G4
  have HP := Lib.hid (fun W => SupS.Put g t e k b l f W)
  rw [hp, hm] at HP
  obtain ⟨rfl, rfl, rfl⟩ := hok
  clear hp hm
  clear h0 h1 h2 h3 h4 h5
  generalize r0 s = q0 at *
  generalize r1 s = q1 at *
  generalize r2 s = q2 at *
  generalize r3 s = q3 at *
  generalize r4 s = q4 at *
  go_enter Tryd.func13, Tryd.ntmps13
  go_upto_region 1 with (fail)
  rw [← hW1]
  clear hW1
  go_upto_region 4 with (go_at_call 29; refine (G0.out _).mono ?_; rintro r _ ⟨rfl, rfl⟩)
  clear s0 G0
  go_upto_region 5 with (go_at_call 29; refine (G1.out _).mono ?_; rintro r _ ⟨rfl, rfl⟩)
  clear s1 G1
  go_upto_region 6 with (go_at_call 29; refine (G2.out _).mono ?_; rintro r _ ⟨rfl, rfl⟩)
  clear s2 G2
  go_upto_region 7 with (go_at_call 29; refine (G3.out _).mono ?_; rintro r _ ⟨rfl, rfl⟩)
  clear s3 G3
  go_upto_region 8 with (first
    | (go_at_call 30; refine (G4.out _).mono ?_; rintro r w2 ⟨rfl, hb2⟩; replace TT := Lib.hid (TT.out.step hb2); clear hb2)
    | (refine wpList_store_row rfl 23 _ _ rfl w2.heap.size _ rfl rfl 23 _ (heap_alloc_new w2 _) infoG rfl (one3 b l f) ?_))
  generalize hW3 : World.setRow (World.alloc w2 _) _ _ = W3
  replace TT : Hid (Rk w W3) := Lib.hid (by rw [← hW3]; exact TT.out.step (kept_new _ _ _ _))
  have KG : Hid (GeoS.At W3 w2.heap.size b l f) := Lib.hid (by rw [← hW3]; exact has_new _ _ _ _)
  clear hW3 G4 s4
  generalize w2.heap.size = X at *
  obtain ⟨g0, g1, g2⟩ := KG.out.cells
  go_upto_region 11 with (refine wpList_store_row rfl 25 _ _ rfl W3.heap.size _ rfl rfl 25 _ (heap_alloc_new W3 _) infoS rfl (one7 g t e k b l f) ?_)
  generalize hW4 : World.setRow (World.alloc W3 _) _ _ = W4
  replace TT : Hid (Rk w W4) := Lib.hid (by rw [← hW4]; exact TT.out.step (kept_new _ _ _ _))
  have KK : Hid (Bk W4 W3.heap.size g t e k b l f) := Lib.hid (by rw [← hW4]; exact has_new _ _ _ _)
  clear hW4 KG g0 g1 g2
  generalize W3.heap.size = Y at *
  obtain ⟨k0, k1, k2, k3, k4, k5, k6⟩ := KK.out.cells
  go_wp2_with (first
    | (go_at_call 8; refine (HP.out _).mono ?_; rintro r w4 ⟨rfl, hb4⟩; replace TT := Lib.hid (TT.out.step hb4); replace KK := Lib.hid (KK.out.step hb4); clear hb4 k0 k1 k2 k3 k4 k5 k6; obtain ⟨k0, k1, k2, k3, k4, k5, k6⟩ := KK.out.cells)
    | (refine wpList_store_row rfl 25 _ _ rfl w.heap.size _ rfl rfl 25 _ TT.out.k infoS rfl (one7 g t e k b l f) ?_))
  refine bodyPost_ret (v := .tuple #[.agg #[.int .i64 g, .int .i64 t, .int .i64 e, .int .i64 k, .int .i64 b, .int .i64 l, .int .i64 f], .bool true])
    (results_cell_tmp_row Tryd.results13 _ _ w.heap.size 25 _ (0, 0) _ rfl (setRow_same TT.out.k) Tryd.underlying25 rfl infoS) rfl
    ⟨rfl, below_setRow TT.out.bel (Nat.le_refl _) _⟩
theorem get_eight {p : List UInt8} (h : p.length = 8) : (get p = ((num p : Int), 0) ∧ num p < 9223372036854775808) ∨ (get p = (0, 3) ∧ ¬ num p < 9223372036854775808) := by
  by_cases hn : num p < 9223372036854775808
  · exact .inl ⟨get_good p (by omega) (by omega) hn, hn⟩
  · exact .inr ⟨get_bad p (fun hh => hn hh.2.2), hn⟩
theorem dec0 : decide ((0 : Int) = 0) = true := rfl
/-- What the document's Take answers. -/
theorem Take (s : List UInt8) (w : World) :
    Calls Tryd.prog 13 #[.string ⟨s.toArray⟩] w fun r w' => r = .returned (.tuple #[.agg #[.int .i64 ((take s).1).g, .int .i64 ((take s).1).t, .int .i64 ((take s).1).e, .int .i64 ((take s).1).k, .int .i64 ((take s).1).b, .int .i64 ((take s).1).l, .int .i64 ((take s).1).f], .bool (decide (good s))]) ∧ Below w.heap.size w w' := by
  by_cases h : s.length = 4096
  · obtain ⟨l0, l1, l2, l3, l4⟩ := r_len h
    have h1 := GeoU.get4 (r1 s) l1
    have h2 := GeoU.get4 (r2 s) l2
    rcases get_eight l0 with ⟨h0, n0⟩ | ⟨h0, n0⟩
    · rcases get_eight l3 with ⟨h3, n3⟩ | ⟨h3, n3⟩
      · by_cases hr : right (nb (r4 s)) (nl (r4 s)) (nf (r4 s))
        · have h4 := GeoU.take_yes (s := r4 s) ⟨l4, hr⟩
          have h5 : decide ((GeoU.take (r4 s)).2 = 0) = true := by rw [h4]; rfl
          by_cases hs : good s
          · rw [take_yes hs, decide_eq_true hs]
            exact Take_same s _ _ _ _ _ _ _ _ _ _ _ w h h0 h1 h2 h3 h4 h5 ⟨rfl, rfl, rfl⟩ _ (put_take hs) (decide_eq_true hs.1)
          · rw [take_no hs, decide_eq_false hs]
            have hne : ¬ (put_ (rd s)).1 = s := fun hh => hs ((again_good h).1 hh)
            by_cases hm : may (rd s)
            · exact Take_other s _ _ _ _ _ _ _ _ _ _ _ w h h0 h1 h2 h3 h4 h5 ⟨rfl, rfl, rfl⟩ _ _ true rfl (decide_eq_true hm) (.inr ⟨rfl, beq_eq_false_iff_ne.2 hne⟩)
            · exact Take_other s _ _ _ _ _ _ _ _ _ _ _ w h h0 h1 h2 h3 h4 h5 ⟨rfl, rfl, rfl⟩ _ _ false rfl (decide_eq_false hm) (.inl rfl)
        · have h4 := GeoU.take_no (s := r4 s) (fun hh => hr hh.2)
          have h5 : decide ((GeoU.take (r4 s)).2 = 0) = false := by rw [h4]; rfl
          have hs : ¬ good s := fun hh => hr (good_readable hh).2.2.2
          rw [take_no hs, decide_eq_false hs]
          exact Take_bad s _ _ _ _ _ _ _ _ _ _ _ w h h0 h1 h2 h3 h4 h5 (.inr (.inr ⟨rfl, rfl, rfl⟩))
      · have hs : ¬ good s := fun hh => n3 (good_readable hh).2.2.1
        rw [take_no hs, decide_eq_false hs]
        exact Take_bad s _ _ _ _ _ _ _ _ _ _ _ w h h0 h1 h2 h3 rfl rfl (.inr (.inl ⟨rfl, rfl⟩))
    · have hs : ¬ good s := fun hh => n0 (good_readable hh).2.1
      rw [take_no hs, decide_eq_false hs]
      rcases get_eight l3 with ⟨h3, n3⟩ | ⟨h3, n3⟩
      · exact Take_bad s _ _ _ _ _ _ _ _ _ _ _ w h h0 h1 h2 h3 rfl rfl (.inl rfl)
      · exact Take_bad s _ _ _ _ _ _ _ _ _ _ _ w h h0 h1 h2 h3 rfl rfl (.inl rfl)
  · have hs : ¬ good s := fun hh => h (good_len hh)
    rw [take_no hs, decide_eq_false hs]
    exact Take_len s w (by rw [beq_eq_false_iff_ne]; omega)
end Go.Proofs.YtghljhohbhkdeaaDoor.SupW
