/- super.read: the walk of its text. The condition: that the least and the most numbers lie in the program's two variables. -/
import Derived.Test.YtghljhohbhkdeaaDoorSupP
import Derived.Test.YtghljhohbhkdeaaDoorSupE
import Derived.StillTailTactics
namespace Go.Proofs.YtghljhohbhkdeaaDoor.SupT
open Go.RowKit
open GeoN GeoC GeoS SupN SupC SupD SupP
open GeoP (lt_of_some)
open SupE (results_cell_tmp_row)
theorem own4 {w : World} {base : Nat} {v : Value} {xs : List Value} (h : w.ownsRow base 3 1 v 4 xs) : ∃ g c, v = .slice (some ⟨g, 0, none⟩) 4 c := by
  rcases h.2 with ⟨_, h0⟩ | ⟨g, cap, cur, hv, _⟩
  · omega
  · exact ⟨g, cap, hv⟩
/-- Four cells of a row. -/
theorem cells4 {w : World} {B b : Nat} {x y z u : Int} (h : Row w B (some ⟨b, 0, none⟩) 4 [x, y, z, u]) : w.cell? ⟨b, 0, none⟩ = some (.int .i64 x) ∧ w.cell? ⟨b, 1, none⟩ = some (.int .i64 y) ∧ w.cell? ⟨b, 2, none⟩ = some (.int .i64 z) ∧ w.cell? ⟨b, 3, none⟩ = some (.int .i64 u) := by
  obtain ⟨b', o', e, _, hc⟩ := h.2 (by omega)
  injection e with e
  injection e with e1 e2
  subst e1 e2
  have h0 := hc 0 (by omega)
  have h1 := hc 1 (by omega)
  have h2 := hc 2 (by omega)
  have h3 := hc 3 (by omega)
  exact ⟨h0, h1, h2, h3⟩
theorem ext_at (s : List UInt8) (n m : Nat) : (⟨s.toArray⟩ : ByteArray).extract n m = ⟨((s.drop n).take (m - n)).toArray⟩ := by rw [ByteArray.extract_mk]
set_option maxRecDepth 100000 in
theorem read_len (s : List UInt8) (w : World) (h : (((s.length : Nat) : Int) == 4096) = false) :
    Calls Tryd.prog 28 #[.string ⟨s.toArray⟩] w fun r w' => r = .returned (.tuple #[.agg #[.int .i64 0, .int .i64 0, .int .i64 0, .int .i64 0, .int .i64 0, .int .i64 0, .int .i64 0], .int .i64 3]) ∧ Below w.heap.size w w' := by
  have hz := GeoQ.size_mk s
  go_enter Tryd.func28, Tryd.ntmps28
  go_wp2_with (refine wpList_store_row rfl 25 _ _ rfl w.heap.size _ rfl rfl 25 _ (heap_alloc_new w _) infoS rfl (one7 0 0 0 0 0 0 0) ?_)
  refine bodyPost_ret (v := .tuple #[.agg #[.int .i64 0, .int .i64 0, .int .i64 0, .int .i64 0, .int .i64 0, .int .i64 0, .int .i64 0], .int .i64 3])
    (results_cell_tmp_row Tryd.results28 _ _ w.heap.size 25 _ (0, 0) _ rfl (setRow_same (heap_alloc_new w _)) Tryd.underlying25 rfl infoS) rfl
    ⟨rfl, below_setRow ((Below.refl _ _).alloc (Nat.le_refl _) _) (Nat.le_refl _) _⟩
set_option maxRecDepth 100000 in
theorem read_bad (s : List UInt8) (w : World) (h : s.length = 4096) (hu : unpack [8, 4, 4, 8] ((s.drop 9).take 24) = ([], 3)) :
    Calls Tryd.prog 28 #[.string ⟨s.toArray⟩] w fun r w' => r = .returned (.tuple #[.agg #[.int .i64 0, .int .i64 0, .int .i64 0, .int .i64 0, .int .i64 0, .int .i64 0, .int .i64 0], .int .i64 3]) ∧ Below w.heap.size w w' := by
  obtain ⟨W1, hW1⟩ : ∃ W1, W1 = w.alloc (.cells #[.int .i64 0, .int .i64 0, .int .i64 0, .int .i64 0, .int .i64 0, .int .i64 0, .int .i64 0] 25) := ⟨_, rfl⟩
  have KK : Hid (Bk W1 w.heap.size 0 0 0 0 0 0 0) := Lib.hid (by rw [hW1]; exact heap_alloc_new w _)
  have HB : Hid (Below w.heap.size w W1) := Lib.hid (by rw [hW1]; exact (Below.refl _ _).alloc (Nat.le_refl _) _)
  have hz := GeoQ.size_mk s
  have s0 := fun W => run_slice_string (P := Tryd.prog) (w := W) 9 ⟨s.toArray⟩ .i64 .i64 9 33 Tryd.underlying9 (by omega) (by omega) (show (33 : Int) ≤ ((s.length : Nat) : Int) by omega)
  rw [show (⟨s.toArray⟩ : ByteArray).extract (9 : Int).toNat (33 : Int).toNat = ⟨((s.drop 9).take 24).toArray⟩ from ext_at s 9 33] at s0
  have HU := Lib.hid (fun W (h : W.heap[W1.heap.size]? = some (.cells #[.int .i64 8, .int .i64 4, .int .i64 4, .int .i64 8] 3 (0, 0))) => OUnp.any (some ⟨W1.heap.size, 0, none⟩) 4 4 [8, 4, 4, 8] ((s.drop 9).take 24) W (row4 h) (by omega) (by simp [maxLen]; omega))
  rw [hu] at HU
  clear hu
  generalize (s.drop 9).take 24 = p at *
  go_enter Tryd.func28, Tryd.ntmps28
  go_upto_region 1 with (fail)
  rw [← hW1]
  clear hW1
  go_upto_region 3 with (fail)
  have hS : True := trivial
  go_region_held3 (fun _ => True)
    (exact trivial)
    (first
      | (go_at_call 17; refine (widths _).mono ?_; rintro r w2 ⟨rfl, hk2, hb2⟩; have HB2 := Lib.hid hb2; have HK2 := Lib.hid hk2; clear hb2 hk2)
      | (go_at_call 48; refine (HU.out _ HK2.out).mono ?_; rintro r w3 ⟨v, rfl, hown, hb3⟩; obtain ⟨va, vn, vc, rfl⟩ := own_slice hown; have HB3 := Lib.hid hb3; clear hb3 hown))
  have hb := (HB.out.drew.trans (HB2.out.mono HB.out.size)).trans (HB3.out.mono (Nat.le_trans HB.out.size HB2.out.size))
  have hk := KK.out.drew.step (HB2.out.trans (HB3.out.mono HB2.out.size))
  have HBe := Lib.hid hb
  have KKe := Lib.hid hk
  clear hb hk HB HB2 HB3 HK2 HU s0 KK
  go_wp2_with (refine wpList_store_row rfl 25 _ _ rfl w.heap.size _ rfl rfl 25 _ KKe.out infoS rfl (one7 0 0 0 0 0 0 0) ?_)
  refine bodyPost_ret (v := .tuple #[.agg #[.int .i64 0, .int .i64 0, .int .i64 0, .int .i64 0, .int .i64 0, .int .i64 0, .int .i64 0], .int .i64 3])
    (results_cell_tmp_row Tryd.results28 _ _ w.heap.size 25 _ (0, 0) _ rfl (setRow_same KKe.out) Tryd.underlying25 rfl infoS) rfl
    ⟨rfl, below_setRow HBe.out (Nat.le_refl _) _⟩
set_option maxRecDepth 100000 in
theorem read_shape (s : List UInt8) (g t e k : Int) (w : World) (hg : Bnd w) (h : s.length = 4096) (hu : unpack [8, 4, 4, 8] ((s.drop 9).take 24) = ([g, t, e, k], 0)) (ht : GeoU.take (r4 s) = ((0, 0, 0), 3)) :
    Calls Tryd.prog 28 #[.string ⟨s.toArray⟩] w fun r w' => r = .returned (.tuple #[.agg #[.int .i64 0, .int .i64 0, .int .i64 0, .int .i64 0, .int .i64 0, .int .i64 0, .int .i64 0], .int .i64 3]) ∧ Below w.heap.size w w' := by
  obtain ⟨W1, hW1⟩ : ∃ W1, W1 = w.alloc (.cells #[.int .i64 0, .int .i64 0, .int .i64 0, .int .i64 0, .int .i64 0, .int .i64 0, .int .i64 0] 25) := ⟨_, rfl⟩
  have KK : Hid (Bk W1 w.heap.size 0 0 0 0 0 0 0) := Lib.hid (by rw [hW1]; exact heap_alloc_new w _)
  have HB : Hid (Below w.heap.size w W1) := Lib.hid (by rw [hW1]; exact (Below.refl _ _).alloc (Nat.le_refl _) _)
  have HG := Lib.hid hg
  have hz := GeoQ.size_mk s
  have s0 := fun W => run_slice_string (P := Tryd.prog) (w := W) 9 ⟨s.toArray⟩ .i64 .i64 9 33 Tryd.underlying9 (by omega) (by omega) (show (33 : Int) ≤ ((s.length : Nat) : Int) by omega)
  rw [show (⟨s.toArray⟩ : ByteArray).extract (9 : Int).toNat (33 : Int).toNat = ⟨((s.drop 9).take 24).toArray⟩ from ext_at s 9 33] at s0
  have s1 := fun W => run_slice_string (P := Tryd.prog) (w := W) 9 ⟨s.toArray⟩ .i64 .i64 33 45 Tryd.underlying9 (by omega) (by omega) (show (45 : Int) ≤ ((s.length : Nat) : Int) by omega)
  rw [show (⟨s.toArray⟩ : ByteArray).extract (33 : Int).toNat (45 : Int).toNat = ⟨(r4 s).toArray⟩ from ext_at s 33 45] at s1
  have HU := Lib.hid (fun W (h : W.heap[W1.heap.size]? = some (.cells #[.int .i64 8, .int .i64 4, .int .i64 4, .int .i64 8] 3 (0, 0))) => OUnp.any (some ⟨W1.heap.size, 0, none⟩) 4 4 [8, 4, 4, 8] ((s.drop 9).take 24) W (row4 h) (by omega) (by simp [maxLen]; omega))
  rw [hu] at HU
  have HT := Lib.hid (fun W h' => GeoP.Take (r4 s) W h' (by have := (r_len h).2.2.2.2; rw [this]; unfold maxLen; omega))
  rw [ht] at HT
  clear hu ht hg
  generalize (s.drop 9).take 24 = p at *
  generalize r4 s = q at *
  go_enter Tryd.func28, Tryd.ntmps28
  go_upto_region 1 with (fail)
  rw [← hW1]
  clear hW1
  go_upto_region 3 with (fail)
  have hS : True := trivial
  go_region_held3 (fun _ => True)
    (exact trivial)
    (first
      | (go_at_call 17; refine (widths _).mono ?_; rintro r w2 ⟨rfl, hk2, hb2⟩; have HB2 := Lib.hid hb2; have HK2 := Lib.hid hk2; clear hb2 hk2)
      | (go_at_call 48; refine (HU.out _ HK2.out).mono ?_; rintro r w3 ⟨v, rfl, hown, hb3⟩; obtain ⟨va, vc, rfl⟩ := own4 hown; have HB3 := Lib.hid hb3; have HO := Lib.hid (cells4 (row_own (l := [g, t, e, k]) hown)); clear hb3 hown))
  have hb := (HB.out.drew.trans (HB2.out.mono HB.out.size)).trans (HB3.out.mono (Nat.le_trans HB.out.size HB2.out.size))
  have hk := KK.out.drew.step (HB2.out.trans (HB3.out.mono HB2.out.size))
  have HBe := Lib.hid hb
  have KKe := Lib.hid hk
  have HGe := Lib.hid (HG.out.step hb)
  clear hb hk HB HB2 HB3 HK2 HU s0 KK HG
  clear HO
  go_upto_region 7 with (first
    | (go_at_call 49; refine (HT.out _ HGe.out).mono ?_; rintro r w4 ⟨rfl, hb4⟩; have HB4 := Lib.hid hb4; clear hb4)
    | (refine wpList_store_row rfl 23 _ _ rfl w4.heap.size _ rfl rfl 23 _ (heap_alloc_new w4 _) infoG rfl (one3 0 0 0) ?_))
  generalize hW5 : World.setRow (World.alloc w4 _) _ _ = W5
  have HB5 : Hid (Below w.heap.size w W5) := Lib.hid (by rw [← hW5]; exact (HBe.out.trans (HB4.out.mono HBe.out.size)).trans ((kept_new _ _ _ _).mono (Nat.le_trans HBe.out.size HB4.out.size)))
  have K5 : Hid (Bk W5 w.heap.size 0 0 0 0 0 0 0) := Lib.hid (by rw [← hW5]; exact (KKe.out.step HB4.out).step (kept_new _ _ _ _))
  clear hW5 HB4 HBe KKe HGe HT
  go_wp2_with (refine wpList_store_row rfl 25 _ _ rfl w.heap.size _ rfl rfl 25 _ K5.out infoS rfl (one7 0 0 0 0 0 0 0) ?_)
  refine bodyPost_ret (v := .tuple #[.agg #[.int .i64 0, .int .i64 0, .int .i64 0, .int .i64 0, .int .i64 0, .int .i64 0, .int .i64 0], .int .i64 3])
    (results_cell_tmp_row Tryd.results28 _ _ w.heap.size 25 _ (0, 0) _ rfl (setRow_same K5.out) Tryd.underlying25 rfl infoS) rfl
    ⟨rfl, below_setRow HB5.out (Nat.le_refl _) _⟩
set_option maxRecDepth 100000 in
theorem read_ok (s : List UInt8) (g t e k b l f : Int) (w : World) (hg : Bnd w) (h : s.length = 4096) (hu : unpack [8, 4, 4, 8] ((s.drop 9).take 24) = ([g, t, e, k], 0)) (ht : GeoU.take (r4 s) = ((b, l, f), 0)) :
    Calls Tryd.prog 28 #[.string ⟨s.toArray⟩] w fun r w' => r = .returned (.tuple #[.agg #[.int .i64 g, .int .i64 t, .int .i64 e, .int .i64 k, .int .i64 b, .int .i64 l, .int .i64 f], .int .i64 0]) ∧ Below w.heap.size w w' := by
  obtain ⟨W1, hW1⟩ : ∃ W1, W1 = w.alloc (.cells #[.int .i64 0, .int .i64 0, .int .i64 0, .int .i64 0, .int .i64 0, .int .i64 0, .int .i64 0] 25) := ⟨_, rfl⟩
  have KK : Hid (Bk W1 w.heap.size 0 0 0 0 0 0 0) := Lib.hid (by rw [hW1]; exact heap_alloc_new w _)
  have HB : Hid (Below w.heap.size w W1) := Lib.hid (by rw [hW1]; exact (Below.refl _ _).alloc (Nat.le_refl _) _)
  have HG := Lib.hid hg
  have hz := GeoQ.size_mk s
  have s0 := fun W => run_slice_string (P := Tryd.prog) (w := W) 9 ⟨s.toArray⟩ .i64 .i64 9 33 Tryd.underlying9 (by omega) (by omega) (show (33 : Int) ≤ ((s.length : Nat) : Int) by omega)
  rw [show (⟨s.toArray⟩ : ByteArray).extract (9 : Int).toNat (33 : Int).toNat = ⟨((s.drop 9).take 24).toArray⟩ from ext_at s 9 33] at s0
  have s1 := fun W => run_slice_string (P := Tryd.prog) (w := W) 9 ⟨s.toArray⟩ .i64 .i64 33 45 Tryd.underlying9 (by omega) (by omega) (show (45 : Int) ≤ ((s.length : Nat) : Int) by omega)
  rw [show (⟨s.toArray⟩ : ByteArray).extract (33 : Int).toNat (45 : Int).toNat = ⟨(r4 s).toArray⟩ from ext_at s 33 45] at s1
  have HU := Lib.hid (fun W (h : W.heap[W1.heap.size]? = some (.cells #[.int .i64 8, .int .i64 4, .int .i64 4, .int .i64 8] 3 (0, 0))) => OUnp.any (some ⟨W1.heap.size, 0, none⟩) 4 4 [8, 4, 4, 8] ((s.drop 9).take 24) W (row4 h) (by omega) (by simp [maxLen]; omega))
  rw [hu] at HU
  have HT := Lib.hid (fun W h' => GeoP.Take (r4 s) W h' (by have := (r_len h).2.2.2.2; rw [this]; unfold maxLen; omega))
  rw [ht] at HT
  clear hu ht hg
  generalize (s.drop 9).take 24 = p at *
  generalize r4 s = q at *
  go_enter Tryd.func28, Tryd.ntmps28
  go_upto_region 1 with (fail)
  rw [← hW1]
  clear hW1
  go_upto_region 3 with (fail)
  have hS : True := trivial
  go_region_held3 (fun _ => True)
    (exact trivial)
    (first
      | (go_at_call 17; refine (widths _).mono ?_; rintro r w2 ⟨rfl, hk2, hb2⟩; have HB2 := Lib.hid hb2; have HK2 := Lib.hid hk2; clear hb2 hk2)
      | (go_at_call 48; refine (HU.out _ HK2.out).mono ?_; rintro r w3 ⟨v, rfl, hown, hb3⟩; obtain ⟨va, vc, rfl⟩ := own4 hown; have HB3 := Lib.hid hb3; have HO := Lib.hid (cells4 (row_own (l := [g, t, e, k]) hown)); clear hb3 hown))
  have hb := (HB.out.drew.trans (HB2.out.mono HB.out.size)).trans (HB3.out.mono (Nat.le_trans HB.out.size HB2.out.size))
  have hk := KK.out.drew.step (HB2.out.trans (HB3.out.mono HB2.out.size))
  have HBe := Lib.hid hb
  have KKe := Lib.hid hk
  have HGe := Lib.hid (HG.out.step hb)
  clear hb hk HB HB2 HB3 HK2 HU s0 KK HG
  go_upto_region 9 with (first
    | (go_at_call 49; refine (HT.out _ HGe.out).mono ?_; rintro r w4 ⟨rfl, hb4⟩; have HB4 := Lib.hid hb4; clear hb4)
    | (refine wpList_store_row rfl 23 _ _ rfl w4.heap.size _ rfl rfl 23 _ (heap_alloc_new w4 _) infoG rfl (one3 b l f) ?_))
  generalize hW5 : World.setRow (World.alloc w4 _) _ _ = W5
  have b35 : Below w3.heap.size w3 W5 := by rw [← hW5]; exact HB4.out.trans ((kept_new _ _ _ _).mono HB4.out.size)
  have HB5 : Hid (Below w.heap.size w W5) := Lib.hid (HBe.out.trans (b35.mono HBe.out.size))
  have K5 : Hid (Bk W5 w.heap.size 0 0 0 0 0 0 0) := Lib.hid (KKe.out.step b35)
  have G5 : GeoS.At W5 w4.heap.size b l f := by rw [← hW5]; exact has_new _ _ _ _
  have hlt := World.block_lt_of_cell? w3 _ HO.out.1
  have c0 := (b35.cell (p := ⟨va, 0, none⟩) hlt).trans HO.out.1
  have c1 := (b35.cell (p := ⟨va, 1, none⟩) hlt).trans HO.out.2.1
  have c2 := (b35.cell (p := ⟨va, 2, none⟩) hlt).trans HO.out.2.2.1
  have c3 := (b35.cell (p := ⟨va, 3, none⟩) hlt).trans HO.out.2.2.2
  obtain ⟨g0, g1, g2⟩ := G5.cells
  clear hW5 HB4 HBe KKe HGe HT b35 G5 HO hlt
  generalize w4.heap.size = B at *
  refine wp_region_still_tail 14 (by kernel_rfl) (by kernel_rfl) ?_
  simp only [List.take_succ_cons, List.take_zero, List.drop_succ_cons, List.drop_zero]
  change wpStill _ _ W5.drew _ _ _
  repeat still_step
  refine wpStill_nil ?_
  go_wp2_with (refine wpList_store_row rfl 25 _ _ rfl w.heap.size _ rfl rfl 25 _ K5.out.drew infoS rfl (one7 g t e k b l f) ?_)
  refine bodyPost_ret (v := .tuple #[.agg #[.int .i64 g, .int .i64 t, .int .i64 e, .int .i64 k, .int .i64 b, .int .i64 l, .int .i64 f], .int .i64 0])
    (results_cell_tmp_row Tryd.results28 _ _ w.heap.size 25 _ (0, 0) _ rfl (setRow_same K5.out.drew) Tryd.underlying25 rfl infoS) rfl
    ⟨rfl, below_setRow HB5.out.drew (Nat.le_refl _) _⟩
/-- What super.read answers. -/
theorem read (s : List UInt8) (w : World) (hg : Bnd w) :
    Calls Tryd.prog 28 #[.string ⟨s.toArray⟩] w fun r w' => r = .returned (.tuple #[.agg #[.int .i64 ((readOf s).1).g, .int .i64 ((readOf s).1).t, .int .i64 ((readOf s).1).e, .int .i64 ((readOf s).1).k, .int .i64 ((readOf s).1).b, .int .i64 ((readOf s).1).l, .int .i64 ((readOf s).1).f], .int .i64 (readOf s).2]) ∧ Below w.heap.size w w' := by
  by_cases h : s.length = 4096
  · have hu := unpack_read h
    by_cases hn : num (r0 s) < 9223372036854775808 ∧ num (r3 s) < 9223372036854775808
    · rw [if_pos hn] at hu
      have h12 := (r_len h).2.2.2.2
      by_cases hr : right (nb (r4 s)) (nl (r4 s)) (nf (r4 s))
      · rw [read_yes ⟨h, hn.1, hn.2, hr⟩]
        exact read_ok s _ _ _ _ _ _ _ w hg h hu (GeoU.take_yes ⟨h12, hr⟩)
      · rw [read_no (fun hh => hr hh.2.2.2)]
        exact read_shape s _ _ _ _ w hg h hu (GeoU.take_no (fun hh => hr hh.2))
    · rw [if_neg hn] at hu
      rw [read_no (fun hh => hn ⟨hh.2.1, hh.2.2.1⟩)]
      exact read_bad s w h hu
  · rw [read_no (fun hh => h hh.1)]
    exact read_len s w (by rw [beq_eq_false_iff_ne]; omega)
end Go.Proofs.YtghljhohbhkdeaaDoor.SupT
