/- SupT SupU SupV: one behind the other. -/
import Derived.Test.YtoilcieineejiaaGreatDoorLSup
import Derived.Test.YtoilcieineejiaaGreatDoorLSup
import Derived.StillTailTactics
/- super.read: the walk of its text. The condition: that the least and the most numbers lie in the program's two variables. -/
namespace Go.Proofs.YtoilcieineejiaaGreatDoor.SupT
open Go.RowKit
open GeoN GeoC GeoS SupN SupC SupD SupP
open GeoP (lt_of_some)
open SupE (results_cell_tmp_row)
theorem own4 {w : World} {base : Nat} {v : Value} {xs : List Value} (h : w.ownsRow base 3 1 v 4 xs) : ∃ g c, v = .slice (some ⟨g, 0, none⟩) 4 c := by
  rcases h.2 with ⟨_, h0⟩ | ⟨g, cap, cur, hv, _⟩
  · omega
  · exact ⟨g, cap, hv⟩
/-- Four cells of a row. -/
theorem cells4 {w : World} {B b : Nat} {x y z u : Int} (h : Row w B (some ⟨b, 0, none⟩) 4 [x, y, z, u]) : w.cell? ⟨b, 0, none⟩ = some (.int .i64 x) ∧ w.cell? ⟨b, 1, none⟩ = some (.int .i64 y) ∧ w.cell? ⟨b, 2, none⟩ = some (.int .i64 z) ∧ w.cell? ⟨b, 3, none⟩ = some (.int .i64 u) := by
  obtain ⟨b', o', e, _, hc⟩ := h.2 (by omega)
  injection e with e
  injection e with e1 e2
  subst e1 e2
  have h0 := hc 0 (by omega)
  have h1 := hc 1 (by omega)
  have h2 := hc 2 (by omega)
  have h3 := hc 3 (by omega)
  exact ⟨h0, h1, h2, h3⟩
theorem ext_at (s : List UInt8) (n m : Nat) : (⟨s.toArray⟩ : ByteArray).extract n m = ⟨((s.drop n).take (m - n)).toArray⟩ := by rw [ByteArray.extract_mk]
set_option maxRecDepth 100000 in
theorem read_len (s : List UInt8) (w : World) (h : (((s.length : Nat) : Int) == 4096) = false) :
    Calls Tryz.prog 143 #[.string ⟨s.toArray⟩] w fun r w' => r = .returned (.tuple #[.agg #[.int .i64 0, .int .i64 0, .int .i64 0, .int .i64 0, .int .i64 0, .int .i64 0, .int .i64 0], .int .i64 3]) ∧ Below w.heap.size w w' := by
  have hz := GeoQ.size_mk s
  go_enter Tryz.func143, Tryz.ntmps143
  go_wp2_with (refine wpList_store_row rfl 53 _ _ rfl w.heap.size _ rfl rfl 53 _ (heap_alloc_new w _) infoS rfl (one7 0 0 0 0 0 0 0) ?_)
  refine bodyPost_ret (v := .tuple #[.agg #[.int .i64 0, .int .i64 0, .int .i64 0, .int .i64 0, .int .i64 0, .int .i64 0, .int .i64 0], .int .i64 3])
    (results_cell_tmp_row Tryz.results143 _ _ w.heap.size 53 _ (0, 0) _ rfl (setRow_same (heap_alloc_new w _)) Tryz.underlying53 rfl infoS) rfl
    ⟨rfl, below_setRow ((Below.refl _ _).alloc (Nat.le_refl _) _) (Nat.le_refl _) _⟩
set_option maxRecDepth 100000 in
theorem read_bad (s : List UInt8) (w : World) (h : s.length = 4096) (hu : unpack [8, 4, 4, 8] ((s.drop 9).take 24) = ([], 3)) :
    Calls Tryz.prog 143 #[.string ⟨s.toArray⟩] w fun r w' => r = .returned (.tuple #[.agg #[.int .i64 0, .int .i64 0, .int .i64 0, .int .i64 0, .int .i64 0, .int .i64 0, .int .i64 0], .int .i64 3]) ∧ Below w.heap.size w w' := by
  obtain ⟨W1, hW1⟩ : ∃ W1, W1 = w.alloc (.cells #[.int .i64 0, .int .i64 0, .int .i64 0, .int .i64 0, .int .i64 0, .int .i64 0, .int .i64 0] 53) := ⟨_, rfl⟩
  have KK : Hid (Bk W1 w.heap.size 0 0 0 0 0 0 0) := Lib.hid (by rw [hW1]; exact heap_alloc_new w _)
  have HB : Hid (Below w.heap.size w W1) := Lib.hid (by rw [hW1]; exact (Below.refl _ _).alloc (Nat.le_refl _) _)
  have hz := GeoQ.size_mk s
  have s0 := fun W => run_slice_string (P := Tryz.prog) (w := W) 9 ⟨s.toArray⟩ .i64 .i64 9 33 Tryz.underlying9 (by omega) (by omega) (show (33 : Int) ≤ ((s.length : Nat) : Int) by omega)
  rw [show (⟨s.toArray⟩ : ByteArray).extract (9 : Int).toNat (33 : Int).toNat = ⟨((s.drop 9).take 24).toArray⟩ from ext_at s 9 33] at s0
  have HU := Lib.hid (fun W (h : W.heap[W1.heap.size]? = some (.cells #[.int .i64 8, .int .i64 4, .int .i64 4, .int .i64 8] 3 (0, 0))) => OUnp.any (some ⟨W1.heap.size, 0, none⟩) 4 4 [8, 4, 4, 8] ((s.drop 9).take 24) W (row4 h) (by omega) (by simp [maxLen]; omega))
  rw [hu] at HU
  clear hu
  generalize (s.drop 9).take 24 = p at *
  go_enter Tryz.func143, Tryz.ntmps143
  go_upto_region 1 with (fail)
  rw [← hW1]
  clear hW1
  go_upto_region 3 with (fail)
  have hS : True := trivial
  go_region_held3 (fun _ => True)
    (exact trivial)
    (first
      | (go_at_call 120; refine (widths _).mono ?_; rintro r w2 ⟨rfl, hk2, hb2⟩; have HB2 := Lib.hid hb2; have HK2 := Lib.hid hk2; clear hb2 hk2)
      | (go_at_call 153; refine (HU.out _ HK2.out).mono ?_; rintro r w3 ⟨v, rfl, hown, hb3⟩; obtain ⟨va, vn, vc, rfl⟩ := own_slice hown; have HB3 := Lib.hid hb3; clear hb3 hown))
  have hb := (HB.out.drew.trans (HB2.out.mono HB.out.size)).trans (HB3.out.mono (Nat.le_trans HB.out.size HB2.out.size))
  have hk := KK.out.drew.step (HB2.out.trans (HB3.out.mono HB2.out.size))
  have HBe := Lib.hid hb
  have KKe := Lib.hid hk
  clear hb hk HB HB2 HB3 HK2 HU s0 KK
  go_wp2_with (refine wpList_store_row rfl 53 _ _ rfl w.heap.size _ rfl rfl 53 _ KKe.out infoS rfl (one7 0 0 0 0 0 0 0) ?_)
  refine bodyPost_ret (v := .tuple #[.agg #[.int .i64 0, .int .i64 0, .int .i64 0, .int .i64 0, .int .i64 0, .int .i64 0, .int .i64 0], .int .i64 3])
    (results_cell_tmp_row Tryz.results143 _ _ w.heap.size 53 _ (0, 0) _ rfl (setRow_same KKe.out) Tryz.underlying53 rfl infoS) rfl
    ⟨rfl, below_setRow HBe.out (Nat.le_refl _) _⟩
set_option maxRecDepth 100000 in
theorem read_shape (s : List UInt8) (g t e k : Int) (w : World) (hg : Bnd w) (h : s.length = 4096) (hu : unpack [8, 4, 4, 8] ((s.drop 9).take 24) = ([g, t, e, k], 0)) (ht : GeoU.take (r4 s) = ((0, 0, 0), 3)) :
    Calls Tryz.prog 143 #[.string ⟨s.toArray⟩] w fun r w' => r = .returned (.tuple #[.agg #[.int .i64 0, .int .i64 0, .int .i64 0, .int .i64 0, .int .i64 0, .int .i64 0, .int .i64 0], .int .i64 3]) ∧ Below w.heap.size w w' := by
  obtain ⟨W1, hW1⟩ : ∃ W1, W1 = w.alloc (.cells #[.int .i64 0, .int .i64 0, .int .i64 0, .int .i64 0, .int .i64 0, .int .i64 0, .int .i64 0] 53) := ⟨_, rfl⟩
  have KK : Hid (Bk W1 w.heap.size 0 0 0 0 0 0 0) := Lib.hid (by rw [hW1]; exact heap_alloc_new w _)
  have HB : Hid (Below w.heap.size w W1) := Lib.hid (by rw [hW1]; exact (Below.refl _ _).alloc (Nat.le_refl _) _)
  have HG := Lib.hid hg
  have hz := GeoQ.size_mk s
  have s0 := fun W => run_slice_string (P := Tryz.prog) (w := W) 9 ⟨s.toArray⟩ .i64 .i64 9 33 Tryz.underlying9 (by omega) (by omega) (show (33 : Int) ≤ ((s.length : Nat) : Int) by omega)
  rw [show (⟨s.toArray⟩ : ByteArray).extract (9 : Int).toNat (33 : Int).toNat = ⟨((s.drop 9).take 24).toArray⟩ from ext_at s 9 33] at s0
  have s1 := fun W => run_slice_string (P := Tryz.prog) (w := W) 9 ⟨s.toArray⟩ .i64 .i64 33 45 Tryz.underlying9 (by omega) (by omega) (show (45 : Int) ≤ ((s.length : Nat) : Int) by omega)
  rw [show (⟨s.toArray⟩ : ByteArray).extract (33 : Int).toNat (45 : Int).toNat = ⟨(r4 s).toArray⟩ from ext_at s 33 45] at s1
  have HU := Lib.hid (fun W (h : W.heap[W1.heap.size]? = some (.cells #[.int .i64 8, .int .i64 4, .int .i64 4, .int .i64 8] 3 (0, 0))) => OUnp.any (some ⟨W1.heap.size, 0, none⟩) 4 4 [8, 4, 4, 8] ((s.drop 9).take 24) W (row4 h) (by omega) (by simp [maxLen]; omega))
  rw [hu] at HU
  have HT := Lib.hid (fun W h' => GeoP.Take (r4 s) W h' (by have := (r_len h).2.2.2.2; rw [this]; unfold maxLen; omega))
  rw [ht] at HT
  clear hu ht hg
  generalize (s.drop 9).take 24 = p at *
  generalize r4 s = q at *
  go_enter Tryz.func143, Tryz.ntmps143
  go_upto_region 1 with (fail)
  rw [← hW1]
  clear hW1
  go_upto_region 3 with (fail)
  have hS : True := trivial
  go_region_held3 (fun _ => True)
    (exact trivial)
    (first
      | (go_at_call 120; refine (widths _).mono ?_; rintro r w2 ⟨rfl, hk2, hb2⟩; have HB2 := Lib.hid hb2; have HK2 := Lib.hid hk2; clear hb2 hk2)
      | (go_at_call 153; refine (HU.out _ HK2.out).mono ?_; rintro r w3 ⟨v, rfl, hown, hb3⟩; obtain ⟨va, vc, rfl⟩ := own4 hown; have HB3 := Lib.hid hb3; have HO := Lib.hid (cells4 (row_own (l := [g, t, e, k]) hown)); clear hb3 hown))
  have hb := (HB.out.drew.trans (HB2.out.mono HB.out.size)).trans (HB3.out.mono (Nat.le_trans HB.out.size HB2.out.size))
  have hk := KK.out.drew.step (HB2.out.trans (HB3.out.mono HB2.out.size))
  have HBe := Lib.hid hb
  have KKe := Lib.hid hk
  have HGe := Lib.hid (HG.out.step hb)
  clear hb hk HB HB2 HB3 HK2 HU s0 KK HG
  clear HO
  go_upto_region 7 with (first
    | (go_at_call 154; refine (HT.out _ HGe.out).mono ?_; rintro r w4 ⟨rfl, hb4⟩; have HB4 := Lib.hid hb4; clear hb4)
    | (refine wpList_store_row rfl 32 _ _ rfl w4.heap.size _ rfl rfl 32 _ (heap_alloc_new w4 _) infoG rfl (one3 0 0 0) ?_))
  generalize hW5 : World.setRow (World.alloc w4 _) _ _ = W5
  have HB5 : Hid (Below w.heap.size w W5) := Lib.hid (by rw [← hW5]; exact (HBe.out.trans (HB4.out.mono HBe.out.size)).trans ((kept_new _ _ _ _).mono (Nat.le_trans HBe.out.size HB4.out.size)))
  have K5 : Hid (Bk W5 w.heap.size 0 0 0 0 0 0 0) := Lib.hid (by rw [← hW5]; exact (KKe.out.step HB4.out).step (kept_new _ _ _ _))
  clear hW5 HB4 HBe KKe HGe HT
  go_wp2_with (refine wpList_store_row rfl 53 _ _ rfl w.heap.size _ rfl rfl 53 _ K5.out infoS rfl (one7 0 0 0 0 0 0 0) ?_)
  refine bodyPost_ret (v := .tuple #[.agg #[.int .i64 0, .int .i64 0, .int .i64 0, .int .i64 0, .int .i64 0, .int .i64 0, .int .i64 0], .int .i64 3])
    (results_cell_tmp_row Tryz.results143 _ _ w.heap.size 53 _ (0, 0) _ rfl (setRow_same K5.out) Tryz.underlying53 rfl infoS) rfl
    ⟨rfl, below_setRow HB5.out (Nat.le_refl _) _⟩
set_option maxRecDepth 100000 in
theorem read_ok (s : List UInt8) (g t e k b l f : Int) (w : World) (hg : Bnd w) (h : s.length = 4096) (hu : unpack [8, 4, 4, 8] ((s.drop 9).take 24) = ([g, t, e, k], 0)) (ht : GeoU.take (r4 s) = ((b, l, f), 0)) :
    Calls Tryz.prog 143 #[.string ⟨s.toArray⟩] w fun r w' => r = .returned (.tuple #[.agg #[.int .i64 g, .int .i64 t, .int .i64 e, .int .i64 k, .int .i64 b, .int .i64 l, .int .i64 f], .int .i64 0]) ∧ Below w.heap.size w w' := by
  obtain ⟨W1, hW1⟩ : ∃ W1, W1 = w.alloc (.cells #[.int .i64 0, .int .i64 0, .int .i64 0, .int .i64 0, .int .i64 0, .int .i64 0, .int .i64 0] 53) := ⟨_, rfl⟩
  have KK : Hid (Bk W1 w.heap.size 0 0 0 0 0 0 0) := Lib.hid (by rw [hW1]; exact heap_alloc_new w _)
  have HB : Hid (Below w.heap.size w W1) := Lib.hid (by rw [hW1]; exact (Below.refl _ _).alloc (Nat.le_refl _) _)
  have HG := Lib.hid hg
  have hz := GeoQ.size_mk s
  have s0 := fun W => run_slice_string (P := Tryz.prog) (w := W) 9 ⟨s.toArray⟩ .i64 .i64 9 33 Tryz.underlying9 (by omega) (by omega) (show (33 : Int) ≤ ((s.length : Nat) : Int) by omega)
  rw [show (⟨s.toArray⟩ : ByteArray).extract (9 : Int).toNat (33 : Int).toNat = ⟨((s.drop 9).take 24).toArray⟩ from ext_at s 9 33] at s0
  have s1 := fun W => run_slice_string (P := Tryz.prog) (w := W) 9 ⟨s.toArray⟩ .i64 .i64 33 45 Tryz.underlying9 (by omega) (by omega) (show (45 : Int) ≤ ((s.length : Nat) : Int) by omega)
  rw [show (⟨s.toArray⟩ : ByteArray).extract (33 : Int).toNat (45 : Int).toNat = ⟨(r4 s).toArray⟩ from ext_at s 33 45] at s1
  have HU := Lib.hid (fun W (h : W.heap[W1.heap.size]? = some (.cells #[.int .i64 8, .int .i64 4, .int .i64 4, .int .i64 8] 3 (0, 0))) => OUnp.any (some ⟨W1.heap.size, 0, none⟩) 4 4 [8, 4, 4, 8] ((s.drop 9).take 24) W (row4 h) (by omega) (by simp [maxLen]; omega))
  rw [hu] at HU
  have HT := Lib.hid (fun W h' => GeoP.Take (r4 s) W h' (by have := (r_len h).2.2.2.2; rw [this]; unfold maxLen; omega))
  rw [ht] at HT
  clear hu ht hg
  generalize (s.drop 9).take 24 = p at *
  generalize r4 s = q at *
  go_enter Tryz.func143, Tryz.ntmps143
  go_upto_region 1 with (fail)
  rw [← hW1]
  clear hW1
  go_upto_region 3 with (fail)
  have hS : True := trivial
  go_region_held3 (fun _ => True)
    (exact trivial)
    (first
      | (go_at_call 120; refine (widths _).mono ?_; rintro r w2 ⟨rfl, hk2, hb2⟩; have HB2 := Lib.hid hb2; have HK2 := Lib.hid hk2; clear hb2 hk2)
      | (go_at_call 153; refine (HU.out _ HK2.out).mono ?_; rintro r w3 ⟨v, rfl, hown, hb3⟩; obtain ⟨va, vc, rfl⟩ := own4 hown; have HB3 := Lib.hid hb3; have HO := Lib.hid (cells4 (row_own (l := [g, t, e, k]) hown)); clear hb3 hown))
  have hb := (HB.out.drew.trans (HB2.out.mono HB.out.size)).trans (HB3.out.mono (Nat.le_trans HB.out.size HB2.out.size))
  have hk := KK.out.drew.step (HB2.out.trans (HB3.out.mono HB2.out.size))
  have HBe := Lib.hid hb
  have KKe := Lib.hid hk
  have HGe := Lib.hid (HG.out.step hb)
  clear hb hk HB HB2 HB3 HK2 HU s0 KK HG
  go_upto_region 9 with (first
    | (go_at_call 154; refine (HT.out _ HGe.out).mono ?_; rintro r w4 ⟨rfl, hb4⟩; have HB4 := Lib.hid hb4; clear hb4)
    | (refine wpList_store_row rfl 32 _ _ rfl w4.heap.size _ rfl rfl 32 _ (heap_alloc_new w4 _) infoG rfl (one3 b l f) ?_))
  generalize hW5 : World.setRow (World.alloc w4 _) _ _ = W5
  have b35 : Below w3.heap.size w3 W5 := by rw [← hW5]; exact HB4.out.trans ((kept_new _ _ _ _).mono HB4.out.size)
  have HB5 : Hid (Below w.heap.size w W5) := Lib.hid (HBe.out.trans (b35.mono HBe.out.size))
  have K5 : Hid (Bk W5 w.heap.size 0 0 0 0 0 0 0) := Lib.hid (KKe.out.step b35)
  have G5 : GeoS.At W5 w4.heap.size b l f := by rw [← hW5]; exact has_new _ _ _ _
  have hlt := World.block_lt_of_cell? w3 _ HO.out.1
  have c0 := (b35.cell (p := ⟨va, 0, none⟩) hlt).trans HO.out.1
  have c1 := (b35.cell (p := ⟨va, 1, none⟩) hlt).trans HO.out.2.1
  have c2 := (b35.cell (p := ⟨va, 2, none⟩) hlt).trans HO.out.2.2.1
  have c3 := (b35.cell (p := ⟨va, 3, none⟩) hlt).trans HO.out.2.2.2
  obtain ⟨g0, g1, g2⟩ := G5.cells
  clear hW5 HB4 HBe KKe HGe HT b35 G5 HO hlt
  generalize w4.heap.size = B at *
  refine wp_region_still_tail 14 (by kernel_rfl) (by kernel_rfl) ?_
  simp only [List.take_succ_cons, List.take_zero, List.drop_succ_cons, List.drop_zero]
  change wpStill _ _ W5.drew _ _ _
  repeat still_step
  refine wpStill_nil ?_
  go_wp2_with (refine wpList_store_row rfl 53 _ _ rfl w.heap.size _ rfl rfl 53 _ K5.out.drew infoS rfl (one7 g t e k b l f) ?_)
  refine bodyPost_ret (v := .tuple #[.agg #[.int .i64 g, .int .i64 t, .int .i64 e, .int .i64 k, .int .i64 b, .int .i64 l, .int .i64 f], .int .i64 0])
    (results_cell_tmp_row Tryz.results143 _ _ w.heap.size 53 _ (0, 0) _ rfl (setRow_same K5.out.drew) Tryz.underlying53 rfl infoS) rfl
    ⟨rfl, below_setRow HB5.out.drew (Nat.le_refl _) _⟩
/-- What super.read answers. -/
theorem read (s : List UInt8) (w : World) (hg : Bnd w) :
    Calls Tryz.prog 143 #[.string ⟨s.toArray⟩] w fun r w' => r = .returned (.tuple #[.agg #[.int .i64 ((readOf s).1).g, .int .i64 ((readOf s).1).t, .int .i64 ((readOf s).1).e, .int .i64 ((readOf s).1).k, .int .i64 ((readOf s).1).b, .int .i64 ((readOf s).1).l, .int .i64 ((readOf s).1).f], .int .i64 (readOf s).2]) ∧ Below w.heap.size w w' := by
  by_cases h : s.length = 4096
  · have hu := unpack_read h
    by_cases hn : num (r0 s) < 9223372036854775808 ∧ num (r3 s) < 9223372036854775808
    · rw [if_pos hn] at hu
      have h12 := (r_len h).2.2.2.2
      by_cases hr : right (nb (r4 s)) (nl (r4 s)) (nf (r4 s))
      · rw [read_yes ⟨h, hn.1, hn.2, hr⟩]
        exact read_ok s _ _ _ _ _ _ _ w hg h hu (GeoU.take_yes ⟨h12, hr⟩)
      · rw [read_no (fun hh => hr hh.2.2.2)]
        exact read_shape s _ _ _ _ w hg h hu (GeoU.take_no (fun hh => hr hh.2))
    · rw [if_neg hn] at hu
      rw [read_no (fun hh => hn ⟨hh.2.1, hh.2.2.1⟩)]
      exact read_bad s w h hu
  · rw [read_no (fun hh => h hh.1)]
    exact read_len s w (by rw [beq_eq_false_iff_ne]; omega)
end Go.Proofs.YtoilcieineejiaaGreatDoor.SupT
/- super.Take, super.Choose: the walks of their texts. The condition: that the least and the most numbers, and the rounds' numbers, lie in the program's variables. -/
namespace Go.Proofs.YtoilcieineejiaaGreatDoor.SupU
open Go.RowKit
open GeoN GeoC GeoS SupN SupC SupD SupP SupT
open GeoP (lt_of_some)
open SupE (results_cell_tmp_row)
/-- What stands while Take runs: what was stays, the variables, the result's block. -/
structure Tk (w W : World) : Prop where
  bel : Below w.heap.size w W
  gl : Gl W
  k : Bk W w.heap.size 0 0 0 0 0 0 0
theorem tk_new {w : World} (hg : Gl w) : Tk w (w.alloc (.cells #[.int .i64 0, .int .i64 0, .int .i64 0, .int .i64 0, .int .i64 0, .int .i64 0, .int .i64 0] 53)) :=
  have h : Below w.heap.size w (w.alloc (.cells #[.int .i64 0, .int .i64 0, .int .i64 0, .int .i64 0, .int .i64 0, .int .i64 0, .int .i64 0] 53)) := (Below.refl _ _).alloc (Nat.le_refl _) _
  ⟨h, hg.step h, heap_alloc_new w _⟩
theorem Tk.step {w W W' : World} (h : Tk w W) (hb : Below W.heap.size W W') : Tk w W' := ⟨h.bel.trans (hb.mono h.bel.size), h.gl.step hb, h.k.step hb⟩
set_option maxRecDepth 100000 in
theorem Take_no (s : List UInt8) (hr : readOf s = (nil_, 3)) (w : World) (hg : Gl w) :
    Calls Tryz.prog 122 #[.string ⟨s.toArray⟩] w fun r w' => r = .returned (.tuple #[.agg #[.int .i64 0, .int .i64 0, .int .i64 0, .int .i64 0, .int .i64 0, .int .i64 0, .int .i64 0], .int .i64 3]) ∧ Below w.heap.size w w' := by
  obtain ⟨W1, hW1⟩ : ∃ W1, W1 = w.alloc (.cells #[.int .i64 0, .int .i64 0, .int .i64 0, .int .i64 0, .int .i64 0, .int .i64 0, .int .i64 0] 53) := ⟨_, rfl⟩
  have TT : Hid (Tk w W1) := Lib.hid (by rw [hW1]; exact tk_new hg)
  have HR := Lib.hid (fun W h => SupT.read s W h)
  rw [hr] at HR
  go_enter Tryz.func122, Tryz.ntmps122
  go_upto_region 1 with (fail)
  rw [← hW1]
  clear hW1 hg
  go_upto_region 2 with (first
    | (go_at_call 143; refine (HR.out _ TT.out.gl.bn).mono ?_; rintro r w2 ⟨rfl, hb2⟩; replace TT := Lib.hid (TT.out.step hb2); clear hb2)
    | (refine wpList_store_row rfl 53 _ _ rfl w2.heap.size _ rfl rfl 53 _ (heap_alloc_new w2 _) infoS rfl (one7 0 0 0 0 0 0 0) ?_))
  generalize hW3 : World.setRow (World.alloc w2 _) _ _ = W3
  replace TT : Hid (Tk w W3) := Lib.hid (by rw [← hW3]; exact TT.out.step (kept_new _ _ _ _))
  have KK : Hid (Bk W3 w2.heap.size 0 0 0 0 0 0 0) := Lib.hid (by rw [← hW3]; exact has_new _ _ _ _)
  clear hW3
  generalize w2.heap.size = X at *
  go_wp2_with (refine wpList_store_row rfl 53 _ _ rfl w.heap.size _ rfl rfl 53 _ TT.out.k infoS rfl (one7 0 0 0 0 0 0 0) ?_)
  refine bodyPost_ret (v := .tuple #[.agg #[.int .i64 0, .int .i64 0, .int .i64 0, .int .i64 0, .int .i64 0, .int .i64 0, .int .i64 0], .int .i64 3])
    (results_cell_tmp_row Tryz.results122 _ _ w.heap.size 53 _ (0, 0) _ rfl (setRow_same TT.out.k) Tryz.underlying53 rfl infoS) rfl
    ⟨rfl, below_setRow TT.out.bel (Nat.le_refl _) _⟩
set_option maxRecDepth 100000 in
theorem Take_other (s : List UInt8) (g t e k b l f : Int) (p : List UInt8) (c : Int) (hr : readOf s = (⟨g, t, e, k, b, l, f⟩, 0)) (hp : put_ ⟨g, t, e, k, b, l, f⟩ = (p, c)) (hn : (p == s) = false) (w : World) (hg : Gl w) :
    Calls Tryz.prog 122 #[.string ⟨s.toArray⟩] w fun r w' => r = .returned (.tuple #[.agg #[.int .i64 0, .int .i64 0, .int .i64 0, .int .i64 0, .int .i64 0, .int .i64 0, .int .i64 0], .int .i64 3]) ∧ Below w.heap.size w w' := by
  obtain ⟨W1, hW1⟩ : ∃ W1, W1 = w.alloc (.cells #[.int .i64 0, .int .i64 0, .int .i64 0, .int .i64 0, .int .i64 0, .int .i64 0, .int .i64 0] 53) := ⟨_, rfl⟩
  have TT : Hid (Tk w W1) := Lib.hid (by rw [hW1]; exact tk_new hg)
  have HR := Lib.hid (fun W h => SupT.read s W h)
  rw [hr] at HR
  have HP := Lib.hid (fun W h => SupP.Put g t e k b l f W h)
  rw [hp] at HP
  clear hr hp
  go_enter Tryz.func122, Tryz.ntmps122
  go_upto_region 1 with (fail)
  rw [← hW1]
  clear hW1 hg
  go_upto_region 2 with (first
    | (go_at_call 143; refine (HR.out _ TT.out.gl.bn).mono ?_; rintro r w2 ⟨rfl, hb2⟩; replace TT := Lib.hid (TT.out.step hb2); clear hb2)
    | (refine wpList_store_row rfl 53 _ _ rfl w2.heap.size _ rfl rfl 53 _ (heap_alloc_new w2 _) infoS rfl (one7 g t e k b l f) ?_))
  generalize hW3 : World.setRow (World.alloc w2 _) _ _ = W3
  replace TT : Hid (Tk w W3) := Lib.hid (by rw [← hW3]; exact TT.out.step (kept_new _ _ _ _))
  have KK : Hid (Bk W3 w2.heap.size g t e k b l f) := Lib.hid (by rw [← hW3]; exact has_new _ _ _ _)
  clear hW3
  generalize w2.heap.size = X at *
  obtain ⟨k0, k1, k2, k3, k4, k5, k6⟩ := KK.out.cells
  go_wp2_with (first
    | (go_at_call 85; refine (HP.out _ TT.out.gl).mono ?_; rintro r w4 ⟨rfl, hb4⟩; replace TT := Lib.hid (TT.out.step hb4); replace KK := Lib.hid (KK.out.step hb4); clear hb4 k0 k1 k2 k3 k4 k5 k6; obtain ⟨k0, k1, k2, k3, k4, k5, k6⟩ := KK.out.cells)
    | (refine wpList_store_row rfl 53 _ _ rfl w.heap.size _ rfl rfl 53 _ TT.out.k infoS rfl (one7 0 0 0 0 0 0 0) ?_))
  refine bodyPost_ret (v := .tuple #[.agg #[.int .i64 0, .int .i64 0, .int .i64 0, .int .i64 0, .int .i64 0, .int .i64 0, .int .i64 0], .int .i64 3])
    (results_cell_tmp_row Tryz.results122 _ _ w.heap.size 53 _ (0, 0) _ rfl (setRow_same TT.out.k) Tryz.underlying53 rfl infoS) rfl
    ⟨rfl, below_setRow TT.out.bel (Nat.le_refl _) _⟩
set_option maxRecDepth 100000 in
theorem Take_same (s : List UInt8) (g t e k b l f : Int) (c : Int) (hr : readOf s = (⟨g, t, e, k, b, l, f⟩, 0)) (hp : put_ ⟨g, t, e, k, b, l, f⟩ = (s, c)) (w : World) (hg : Gl w) :
    Calls Tryz.prog 122 #[.string ⟨s.toArray⟩] w fun r w' => r = .returned (.tuple #[.agg #[.int .i64 g, .int .i64 t, .int .i64 e, .int .i64 k, .int .i64 b, .int .i64 l, .int .i64 f], .int .i64 0]) ∧ Below w.heap.size w w' := by
  obtain ⟨W1, hW1⟩ : ∃ W1, W1 = w.alloc (.cells #[.int .i64 0, .int .i64 0, .int .i64 0, .int .i64 0, .int .i64 0, .int .i64 0, .int .i64 0] 53) := ⟨_, rfl⟩
  have TT : Hid (Tk w W1) := Lib.hid (by rw [hW1]; exact tk_new hg)
  have HR := Lib.hid (fun W h => SupT.read s W h)
  rw [hr] at HR
  have HP := Lib.hid (fun W h => SupP.Put g t e k b l f W h)
  rw [hp] at HP
  clear hr hp
  go_enter Tryz.func122, Tryz.ntmps122
  go_upto_region 1 with (fail)
  rw [← hW1]
  clear hW1 hg
  go_upto_region 2 with (first
    | (go_at_call 143; refine (HR.out _ TT.out.gl.bn).mono ?_; rintro r w2 ⟨rfl, hb2⟩; replace TT := Lib.hid (TT.out.step hb2); clear hb2)
    | (refine wpList_store_row rfl 53 _ _ rfl w2.heap.size _ rfl rfl 53 _ (heap_alloc_new w2 _) infoS rfl (one7 g t e k b l f) ?_))
  generalize hW3 : World.setRow (World.alloc w2 _) _ _ = W3
  replace TT : Hid (Tk w W3) := Lib.hid (by rw [← hW3]; exact TT.out.step (kept_new _ _ _ _))
  have KK : Hid (Bk W3 w2.heap.size g t e k b l f) := Lib.hid (by rw [← hW3]; exact has_new _ _ _ _)
  clear hW3
  generalize w2.heap.size = X at *
  obtain ⟨k0, k1, k2, k3, k4, k5, k6⟩ := KK.out.cells
  go_wp2_with (first
    | (go_at_call 85; refine (HP.out _ TT.out.gl).mono ?_; rintro r w4 ⟨rfl, hb4⟩; replace TT := Lib.hid (TT.out.step hb4); replace KK := Lib.hid (KK.out.step hb4); clear hb4 k0 k1 k2 k3 k4 k5 k6; obtain ⟨k0, k1, k2, k3, k4, k5, k6⟩ := KK.out.cells)
    | (refine wpList_store_row rfl 53 _ _ rfl w.heap.size _ rfl rfl 53 _ TT.out.k infoS rfl (one7 g t e k b l f) ?_))
  refine bodyPost_ret (v := .tuple #[.agg #[.int .i64 g, .int .i64 t, .int .i64 e, .int .i64 k, .int .i64 b, .int .i64 l, .int .i64 f], .int .i64 0])
    (results_cell_tmp_row Tryz.results122 _ _ w.heap.size 53 _ (0, 0) _ rfl (setRow_same TT.out.k) Tryz.underlying53 rfl infoS) rfl
    ⟨rfl, below_setRow TT.out.bel (Nat.le_refl _) _⟩
/-- What super.Take answers. -/
theorem Take (s : List UInt8) (w : World) (hg : Gl w) :
    Calls Tryz.prog 122 #[.string ⟨s.toArray⟩] w fun r w' => r = .returned (.tuple #[.agg #[.int .i64 ((take s).1).g, .int .i64 ((take s).1).t, .int .i64 ((take s).1).e, .int .i64 ((take s).1).k, .int .i64 ((take s).1).b, .int .i64 ((take s).1).l, .int .i64 ((take s).1).f], .int .i64 (take s).2]) ∧ Below w.heap.size w w' := by
  by_cases hr : readable s
  · by_cases hs : good s
    · rw [take_yes hs]
      exact Take_same s _ _ _ _ _ _ _ _ (read_yes hr) (put_take hs) w hg
    · rw [take_no hs]
      have hne : ¬ (put_ (rd s)).1 = s := fun hh => hs ((again_good hr.1).1 hh)
      exact Take_other s _ _ _ _ _ _ _ _ _ (read_yes hr) rfl (beq_eq_false_iff_ne.2 hne) w hg
  · rw [take_no (fun hs => hr (good_readable hs))]
    exact Take_no s (read_no hr) w hg
end Go.Proofs.YtoilcieineejiaaGreatDoor.SupU
/- super.Choose: the walk of its text. The condition: that the least and the most numbers, and the rounds' numbers, lie in the program's variables. -/
namespace Go.Proofs.YtoilcieineejiaaGreatDoor.SupV
open Go.RowKit
open GeoN GeoC GeoS SupN SupC SupD SupP SupU
/-- Results of which the first is a struct in a cell, and two more. -/
theorem results_cell_two_row {P : Program} {fn : Func} {p u v : Tmp} {ty : TypeId} (h : fn.results = #[.cell p ty, .tmp u, .tmp v]) (tmps : Array Value) (w : World) (g : Nat) (t : TypeId) (cs : Array Value) (fr : Nat × Nat) (d : TypeDesc)
    (hp : tmps.getD p undef = .pointer (some ⟨g, 0, none⟩)) (hg : w.heap[g]? = some (.cells cs t fr))
    (hu : P.underlying ty = some d) (hd : (match d with | .struct _ | .array _ _ => true | _ => false) = true) (hi : (P.info? ty).map (·.size) = some cs.size) :
    (results fn tmps).run P w = .ok (.tuple #[.agg cs, tmps.getD u undef, tmps.getD v undef]) w := by
  have e : (results fn tmps).run P w =
      ((asAddr (tmps.getD p undef)).run P w).andThen fun a w₁ => ((loadVar ty a).run P w₁).andThen fun x w₂ => .ok (.tuple #[x, tmps.getD u undef, tmps.getD v undef]) w₂ := by
    simp only [results, h]
    simp [Sem.run_bind, Result.andThen]
  rw [e, hp]
  simp [asAddr, run_loadVar_row w g t ty cs fr d hg hu hd hi]
/-- What stands while Choose runs, both superblocks with it. -/
structure Two (w : World) (X Y : Nat) (g1 t1 e1 k1 b1 l1 f1 g2 t2 e2 k2 b2 l2 f2 : Int) (W : World) : Prop where
  tk : Tk w W
  kx : Bk W X g1 t1 e1 k1 b1 l1 f1
  ky : Bk W Y g2 t2 e2 k2 b2 l2 f2
set_option maxRecDepth 100000 in
theorem Choose_one (a b : List UInt8) (g1 t1 e1 k1 b1 l1 f1 g2 t2 e2 k2 b2 l2 f2 c d : Int) (w : World) (hg : Gl w) (ha : take a = (⟨g1, t1, e1, k1, b1, l1, f1⟩, c)) (hb : take b = (⟨g2, t2, e2, k2, b2, l2, f2⟩, d)) (hl : g1 < g2) :
    Calls Tryz.prog 88 #[.string ⟨a.toArray⟩, .string ⟨b.toArray⟩] w fun r w' => r = .returned (.tuple #[.agg #[.int .i64 g2, .int .i64 t2, .int .i64 e2, .int .i64 k2, .int .i64 b2, .int .i64 l2, .int .i64 f2], .int .i64 1, .int .i64 0]) ∧ Below w.heap.size w w' := by
  obtain ⟨W1, hW1⟩ : ∃ W1, W1 = w.alloc (.cells #[.int .i64 0, .int .i64 0, .int .i64 0, .int .i64 0, .int .i64 0, .int .i64 0, .int .i64 0] 53) := ⟨_, rfl⟩
  have TT : Hid (Tk w W1) := Lib.hid (by rw [hW1]; exact tk_new hg)
  have HA := Lib.hid (fun W h => SupU.Take a W h)
  have HB := Lib.hid (fun W h => SupU.Take b W h)
  rw [ha] at HA
  rw [hb] at HB
  clear ha hb
  go_enter Tryz.func88, Tryz.ntmps88
  go_upto_region 1 with (fail)
  rw [← hW1]
  clear hW1 hg
  go_upto_region 2 with (first
    | (go_at_call 122; refine (HA.out _ TT.out.gl).mono ?_; rintro r w2 ⟨rfl, hb2⟩; replace TT := Lib.hid (TT.out.step hb2); clear hb2)
    | (refine wpList_store_row rfl 53 _ _ rfl w2.heap.size _ rfl rfl 53 _ (heap_alloc_new w2 _) infoS rfl (one7 g1 t1 e1 k1 b1 l1 f1) ?_))
  generalize hW3 : World.setRow (World.alloc w2 _) _ _ = W3
  replace TT : Hid (Tk w W3) := Lib.hid (by rw [← hW3]; exact TT.out.step (kept_new _ _ _ _))
  have KX : Hid (Bk W3 w2.heap.size g1 t1 e1 k1 b1 l1 f1) := Lib.hid (by rw [← hW3]; exact has_new _ _ _ _)
  clear hW3
  generalize w2.heap.size = X at *
  go_upto_region 3 with (first
    | (go_at_call 122; refine (HB.out _ TT.out.gl).mono ?_; rintro r w4 ⟨rfl, hb4⟩; replace TT := Lib.hid (TT.out.step hb4); replace KX := Lib.hid (KX.out.step hb4); clear hb4)
    | (refine wpList_store_row rfl 53 _ _ rfl w4.heap.size _ rfl rfl 53 _ (heap_alloc_new w4 _) infoS rfl (one7 g2 t2 e2 k2 b2 l2 f2) ?_))
  generalize hW5 : World.setRow (World.alloc w4 _) _ _ = W5
  replace TT : Hid (Tk w W5) := Lib.hid (by rw [← hW5]; exact TT.out.step (kept_new _ _ _ _))
  replace KX : Hid (Bk W5 X g1 t1 e1 k1 b1 l1 f1) := Lib.hid (by rw [← hW5]; exact KX.out.step (kept_new _ _ _ _))
  have KY : Hid (Bk W5 w4.heap.size g2 t2 e2 k2 b2 l2 f2) := Lib.hid (by rw [← hW5]; exact has_new _ _ _ _)
  clear hW5 HA HB
  generalize w4.heap.size = Y at *
  obtain ⟨x0, x1, x2, x3, x4, x5, x6⟩ := KX.out.cells
  obtain ⟨y0, y1, y2, y3, y4, y5, y6⟩ := KY.out.cells
  go_wp2_with (refine wpList_store_row rfl 53 _ _ rfl w.heap.size _ rfl rfl 53 _ TT.out.k infoS rfl (one7 g2 t2 e2 k2 b2 l2 f2) ?_)
  refine bodyPost_ret (v := .tuple #[.agg #[.int .i64 g2, .int .i64 t2, .int .i64 e2, .int .i64 k2, .int .i64 b2, .int .i64 l2, .int .i64 f2], .int .i64 1, .int .i64 0])
    (results_cell_two_row Tryz.results88 _ _ w.heap.size 53 _ (0, 0) _ rfl (setRow_same TT.out.k) Tryz.underlying53 rfl infoS) rfl
    ⟨rfl, below_setRow TT.out.bel (Nat.le_refl _) _⟩
set_option maxRecDepth 100000 in
theorem Choose_none (a b : List UInt8) (g1 t1 e1 k1 b1 l1 f1 g2 t2 e2 k2 b2 l2 f2 c d : Int) (w : World) (hg : Gl w) (ha : take a = (⟨g1, t1, e1, k1, b1, l1, f1⟩, c)) (hb : take b = (⟨g2, t2, e2, k2, b2, l2, f2⟩, d)) (hl : ¬ g1 < g2) (hs : same g1 t1 e1 k1 b1 l1 f1 0 0 0 0 0 0 0 = true) :
    Calls Tryz.prog 88 #[.string ⟨a.toArray⟩, .string ⟨b.toArray⟩] w fun r w' => r = .returned (.tuple #[.agg #[.int .i64 0, .int .i64 0, .int .i64 0, .int .i64 0, .int .i64 0, .int .i64 0, .int .i64 0], .int .i64 0, .int .i64 7]) ∧ Below w.heap.size w w' := by
  obtain ⟨W1, hW1⟩ : ∃ W1, W1 = w.alloc (.cells #[.int .i64 0, .int .i64 0, .int .i64 0, .int .i64 0, .int .i64 0, .int .i64 0, .int .i64 0] 53) := ⟨_, rfl⟩
  have TT : Hid (Tk w W1) := Lib.hid (by rw [hW1]; exact tk_new hg)
  have HA := Lib.hid (fun W h => SupU.Take a W h)
  have HB := Lib.hid (fun W h => SupU.Take b W h)
  rw [ha] at HA
  rw [hb] at HB
  clear ha hb
  have heq := fun W => run_eql_sup W g1 t1 e1 k1 b1 l1 f1 0 0 0 0 0 0 0 true hs
  clear hs
  go_enter Tryz.func88, Tryz.ntmps88
  go_upto_region 1 with (fail)
  rw [← hW1]
  clear hW1 hg
  go_upto_region 2 with (first
    | (go_at_call 122; refine (HA.out _ TT.out.gl).mono ?_; rintro r w2 ⟨rfl, hb2⟩; replace TT := Lib.hid (TT.out.step hb2); clear hb2)
    | (refine wpList_store_row rfl 53 _ _ rfl w2.heap.size _ rfl rfl 53 _ (heap_alloc_new w2 _) infoS rfl (one7 g1 t1 e1 k1 b1 l1 f1) ?_))
  generalize hW3 : World.setRow (World.alloc w2 _) _ _ = W3
  replace TT : Hid (Tk w W3) := Lib.hid (by rw [← hW3]; exact TT.out.step (kept_new _ _ _ _))
  have KX : Hid (Bk W3 w2.heap.size g1 t1 e1 k1 b1 l1 f1) := Lib.hid (by rw [← hW3]; exact has_new _ _ _ _)
  clear hW3
  generalize w2.heap.size = X at *
  go_upto_region 3 with (first
    | (go_at_call 122; refine (HB.out _ TT.out.gl).mono ?_; rintro r w4 ⟨rfl, hb4⟩; replace TT := Lib.hid (TT.out.step hb4); replace KX := Lib.hid (KX.out.step hb4); clear hb4)
    | (refine wpList_store_row rfl 53 _ _ rfl w4.heap.size _ rfl rfl 53 _ (heap_alloc_new w4 _) infoS rfl (one7 g2 t2 e2 k2 b2 l2 f2) ?_))
  generalize hW5 : World.setRow (World.alloc w4 _) _ _ = W5
  replace TT : Hid (Tk w W5) := Lib.hid (by rw [← hW5]; exact TT.out.step (kept_new _ _ _ _))
  replace KX : Hid (Bk W5 X g1 t1 e1 k1 b1 l1 f1) := Lib.hid (by rw [← hW5]; exact KX.out.step (kept_new _ _ _ _))
  have KY : Hid (Bk W5 w4.heap.size g2 t2 e2 k2 b2 l2 f2) := Lib.hid (by rw [← hW5]; exact has_new _ _ _ _)
  clear hW5 HA HB
  generalize w4.heap.size = Y at *
  obtain ⟨x0, x1, x2, x3, x4, x5, x6⟩ := KX.out.cells
  obtain ⟨y0, y1, y2, y3, y4, y5, y6⟩ := KY.out.cells
  go_wp2_with (refine wpList_store_row rfl 53 _ _ rfl w.heap.size _ rfl rfl 53 _ TT.out.k infoS rfl (one7 0 0 0 0 0 0 0) ?_)
  refine bodyPost_ret (v := .tuple #[.agg #[.int .i64 0, .int .i64 0, .int .i64 0, .int .i64 0, .int .i64 0, .int .i64 0, .int .i64 0], .int .i64 0, .int .i64 7])
    (results_cell_two_row Tryz.results88 _ _ w.heap.size 53 _ (0, 0) _ rfl (setRow_same TT.out.k) Tryz.underlying53 rfl infoS) rfl
    ⟨rfl, below_setRow TT.out.bel (Nat.le_refl _) _⟩
set_option maxRecDepth 100000 in
theorem Choose_zero (a b : List UInt8) (g1 t1 e1 k1 b1 l1 f1 g2 t2 e2 k2 b2 l2 f2 c d : Int) (w : World) (hg : Gl w) (ha : take a = (⟨g1, t1, e1, k1, b1, l1, f1⟩, c)) (hb : take b = (⟨g2, t2, e2, k2, b2, l2, f2⟩, d)) (hl : ¬ g1 < g2) (hs : same g1 t1 e1 k1 b1 l1 f1 0 0 0 0 0 0 0 = false) :
    Calls Tryz.prog 88 #[.string ⟨a.toArray⟩, .string ⟨b.toArray⟩] w fun r w' => r = .returned (.tuple #[.agg #[.int .i64 g1, .int .i64 t1, .int .i64 e1, .int .i64 k1, .int .i64 b1, .int .i64 l1, .int .i64 f1], .int .i64 0, .int .i64 0]) ∧ Below w.heap.size w w' := by
  obtain ⟨W1, hW1⟩ : ∃ W1, W1 = w.alloc (.cells #[.int .i64 0, .int .i64 0, .int .i64 0, .int .i64 0, .int .i64 0, .int .i64 0, .int .i64 0] 53) := ⟨_, rfl⟩
  have TT : Hid (Tk w W1) := Lib.hid (by rw [hW1]; exact tk_new hg)
  have HA := Lib.hid (fun W h => SupU.Take a W h)
  have HB := Lib.hid (fun W h => SupU.Take b W h)
  rw [ha] at HA
  rw [hb] at HB
  clear ha hb
  have heq := fun W => run_eql_sup W g1 t1 e1 k1 b1 l1 f1 0 0 0 0 0 0 0 false hs
  clear hs
  go_enter Tryz.func88, Tryz.ntmps88
  go_upto_region 1 with (fail)
  rw [← hW1]
  clear hW1 hg
  go_upto_region 2 with (first
    | (go_at_call 122; refine (HA.out _ TT.out.gl).mono ?_; rintro r w2 ⟨rfl, hb2⟩; replace TT := Lib.hid (TT.out.step hb2); clear hb2)
    | (refine wpList_store_row rfl 53 _ _ rfl w2.heap.size _ rfl rfl 53 _ (heap_alloc_new w2 _) infoS rfl (one7 g1 t1 e1 k1 b1 l1 f1) ?_))
  generalize hW3 : World.setRow (World.alloc w2 _) _ _ = W3
  replace TT : Hid (Tk w W3) := Lib.hid (by rw [← hW3]; exact TT.out.step (kept_new _ _ _ _))
  have KX : Hid (Bk W3 w2.heap.size g1 t1 e1 k1 b1 l1 f1) := Lib.hid (by rw [← hW3]; exact has_new _ _ _ _)
  clear hW3
  generalize w2.heap.size = X at *
  go_upto_region 3 with (first
    | (go_at_call 122; refine (HB.out _ TT.out.gl).mono ?_; rintro r w4 ⟨rfl, hb4⟩; replace TT := Lib.hid (TT.out.step hb4); replace KX := Lib.hid (KX.out.step hb4); clear hb4)
    | (refine wpList_store_row rfl 53 _ _ rfl w4.heap.size _ rfl rfl 53 _ (heap_alloc_new w4 _) infoS rfl (one7 g2 t2 e2 k2 b2 l2 f2) ?_))
  generalize hW5 : World.setRow (World.alloc w4 _) _ _ = W5
  replace TT : Hid (Tk w W5) := Lib.hid (by rw [← hW5]; exact TT.out.step (kept_new _ _ _ _))
  replace KX : Hid (Bk W5 X g1 t1 e1 k1 b1 l1 f1) := Lib.hid (by rw [← hW5]; exact KX.out.step (kept_new _ _ _ _))
  have KY : Hid (Bk W5 w4.heap.size g2 t2 e2 k2 b2 l2 f2) := Lib.hid (by rw [← hW5]; exact has_new _ _ _ _)
  clear hW5 HA HB
  generalize w4.heap.size = Y at *
  obtain ⟨x0, x1, x2, x3, x4, x5, x6⟩ := KX.out.cells
  obtain ⟨y0, y1, y2, y3, y4, y5, y6⟩ := KY.out.cells
  go_wp2_with (refine wpList_store_row rfl 53 _ _ rfl w.heap.size _ rfl rfl 53 _ TT.out.k infoS rfl (one7 g1 t1 e1 k1 b1 l1 f1) ?_)
  refine bodyPost_ret (v := .tuple #[.agg #[.int .i64 g1, .int .i64 t1, .int .i64 e1, .int .i64 k1, .int .i64 b1, .int .i64 l1, .int .i64 f1], .int .i64 0, .int .i64 0])
    (results_cell_two_row Tryz.results88 _ _ w.heap.size 53 _ (0, 0) _ rfl (setRow_same TT.out.k) Tryz.underlying53 rfl infoS) rfl
    ⟨rfl, below_setRow TT.out.bel (Nat.le_refl _) _⟩
theorem same_nil : same 0 0 0 0 0 0 0 0 0 0 0 0 0 0 = true := by simp [same]
theorem same_good {a : List UInt8} (h : 1 ≤ (take a).1.g) : same (take a).1.g (take a).1.t (take a).1.e (take a).1.k (take a).1.b (take a).1.l (take a).1.f 0 0 0 0 0 0 0 = false := by
  have h0 : ¬ (take a).1.g = 0 := by omega
  simp [same, h0]
theorem same_bad {a : List UInt8} (h : ¬ good a) : same (take a).1.g (take a).1.t (take a).1.e (take a).1.k (take a).1.b (take a).1.l (take a).1.f 0 0 0 0 0 0 0 = true := by rw [take_no h]; exact same_nil
/-- What super.Choose answers. -/
theorem Choose (a b : List UInt8) (w : World) (hg : Gl w) :
    Calls Tryz.prog 88 #[.string ⟨a.toArray⟩, .string ⟨b.toArray⟩] w fun r w' => r = .returned (.tuple #[.agg #[.int .i64 ((SupN.choose a b).1).g, .int .i64 ((SupN.choose a b).1).t, .int .i64 ((SupN.choose a b).1).e, .int .i64 ((SupN.choose a b).1).k, .int .i64 ((SupN.choose a b).1).b, .int .i64 ((SupN.choose a b).1).l, .int .i64 ((SupN.choose a b).1).f], .int .i64 (SupN.choose a b).2.1, .int .i64 (SupN.choose a b).2.2]) ∧ Below w.heap.size w w' := by
  by_cases hl : (take a).1.g < (take b).1.g
  · rw [choose_1 hl]
    exact Choose_one a b _ _ _ _ _ _ _ _ _ _ _ _ _ _ _ _ w hg rfl rfl hl
  · rcases take_g (a := a) with ⟨ha, h1⟩ | ⟨ha, h1⟩
    · rw [choose_0 hl ha]
      exact Choose_zero a b _ _ _ _ _ _ _ _ _ _ _ _ _ _ _ _ w hg rfl rfl hl (same_good h1)
    · rw [choose_n hl ha]
      exact Choose_none a b _ _ _ _ _ _ _ _ _ _ _ _ _ _ _ _ w hg rfl rfl hl (same_bad ha)
end Go.Proofs.YtoilcieineejiaaGreatDoor.SupV
