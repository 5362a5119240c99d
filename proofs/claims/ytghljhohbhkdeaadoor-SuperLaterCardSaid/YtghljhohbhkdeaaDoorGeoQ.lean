/- keepsakeref09.Put, Take: the walks of their texts. No conditions but those that each lemma names. -/
import Derived.Test.YtghljhohbhkdeaaDoorLGeo
import Derived.Test.YtghljhohbhkdeaaDoorGeoP
namespace Go.Proofs.YtghljhohbhkdeaaDoor.GeoQ
open Go.RowKit
open GeoN GeoC GeoU GeoR GeoP
theorem mk_append (l m : List UInt8) : (⟨l.toArray⟩ : ByteArray) ++ ⟨m.toArray⟩ = ⟨(l ++ m).toArray⟩ := by
  apply ByteArray.ext
  simp [ByteArray.data_append]
set_option maxRecDepth 100000 in
/-- What the document's Put answers. -/
theorem Put (a b c : Int) (w : World) :
    Calls Tryd.prog 23 #[.agg #[.int .i64 a, .int .i64 b, .int .i64 c]] w fun e w' => e = .returned (.tuple #[.string ⟨(put_ a b c).1.toArray⟩, .bool (decide (right a b c))]) ∧ Below w.heap.size w w' := by
  obtain ⟨W1, hW1⟩ : ∃ W1, W1 = w.alloc (.cells #[.int .i64 a, .int .i64 b, .int .i64 c] 23) := ⟨_, rfl⟩
  have hb1 : Below w.heap.size w W1 := by rw [hW1]; exact (Below.refl _ _).alloc (Nat.le_refl _) _
  have hk1 : W1.heap[w.heap.size]? = some (.cells #[.int .i64 a, .int .i64 b, .int .i64 c] 23 (0, 0)) := by rw [hW1]; exact heap_alloc_new w _
  have HN := Lib.hid (fun W => GeoR.Right a b c W)
  have k0 : W1.cell? ⟨w.heap.size, 0, none⟩ = some (.int .i64 a) := blk_cell hk1 rfl
  have k1 : W1.cell? ⟨w.heap.size, 1, none⟩ = some (.int .i64 b) := blk_cell hk1 rfl
  have k2 : W1.cell? ⟨w.heap.size, 2, none⟩ = some (.int .i64 c) := blk_cell hk1 rfl
  have HK := Lib.hid hk1
  have HB := Lib.hid hb1
  go_enter Tryd.func23, Tryd.ntmps23
  go_upto_region 1 with (fail)
  rw [← hW1]
  clear hW1 hb1 hk1
  by_cases hr : right a b c
  · have HP := Lib.hid (put_yes hr)
    have HD := Lib.hid (dec_yes hr)
    rw [dec_yes hr] at HN
    have P0 := Lib.hid (fun W => RPut.any a 4 W (by have := hr.2.1; omega))
    have P1 := Lib.hid (fun W => RPut.any b 4 W (by have := hr.2.2.2.1; omega))
    have P2 := Lib.hid (fun W => RPut.any c 4 W (by have := hr.2.2.2.2.2; omega))
    rw [put4 (by have := hr.1; omega) (by have := hr.2.1; omega)] at P0
    rw [put4 (by have := hr.2.2.1; omega) (by have := hr.2.2.2.1; omega)] at P1
    rw [put4 (by have := hr.2.2.2.2.1; omega) (by have := hr.2.2.2.2.2; omega)] at P2
    have HE : Hid (bytes3 a b c = be 4 a.toNat ++ be 4 b.toNat ++ be 4 c.toNat) := rfl
    have ha := be_length 4 a.toNat
    have hb := be_length 4 b.toNat
    have hc := be_length 4 c.toNat
    generalize be 4 a.toNat = la at *
    generalize be 4 b.toNat = lb at *
    generalize be 4 c.toNat = lc at *
    clear hr
    go_upto_region 4 with (first
      | (go_at_call 40; refine (HN.out _).mono ?_; rintro e w2 ⟨rfl, hb2⟩; have HB2 := Lib.hid hb2; have HK2 := Lib.hid ((hb2.block _ (lt_of_some HK.out)).trans HK.out); have c0 : w2.cell? ⟨w.heap.size, 0, none⟩ = some (.int .i64 a) := blk_cell HK2.out rfl; clear hb2)
      | (go_at_call 22; refine (P0.out _).mono ?_; rintro e w3 ⟨rfl, hb3⟩; have HB3 := Lib.hid hb3; have HK3 := Lib.hid ((hb3.block _ (lt_of_some HK2.out)).trans HK2.out); have d1 : w3.cell? ⟨w.heap.size, 1, none⟩ = some (.int .i64 b) := blk_cell HK3.out rfl; clear hb3))
    go_upto_region 5 with (first
      | (go_at_call 22; refine (P1.out _).mono ?_; rintro e w4 ⟨rfl, hb4⟩; have HB4 := Lib.hid hb4; have HK4 := Lib.hid ((hb4.block _ (lt_of_some HK3.out)).trans HK3.out); have e2 : w4.cell? ⟨w.heap.size, 2, none⟩ = some (.int .i64 c) := blk_cell HK4.out rfl; clear hb4))
    go_wp2_with (first
      | (go_at_call 22; refine (P2.out _).mono ?_; rintro e w5 ⟨rfl, hb5⟩; have HB5 := Lib.hid hb5; clear hb5))
    go_ret2
    have h2 := HB.out.trans (HB2.out.mono HB.out.size)
    have h3 := h2.trans (HB3.out.mono h2.size)
    have h4 := h3.trans (HB4.out.mono h3.size)
    exact ⟨by rw [HP.out, HD.out, HE.out, ← mk_append, ← mk_append] <;> rfl, h4.trans (HB5.out.mono h4.size)⟩
  · have HP := Lib.hid (GeoP.put_no hr)
    have HD := Lib.hid (dec_no hr)
    rw [dec_no hr] at HN
    clear hr
    go_wp2_with (first
      | (go_at_call 40; refine (HN.out _).mono ?_; rintro e w2 ⟨rfl, hb2⟩; have HB2 := Lib.hid hb2; clear hb2))
    go_ret2
    exact ⟨by rw [HP.out, HD.out] <;> rfl, HB.out.trans (HB2.out.mono HB.out.size)⟩
theorem get_tk (s : List UInt8) (h : s.length = 12) (w : World) :
    Calls Tryd.prog 29 #[.string ⟨(s.take 4).toArray⟩] w fun e w' => e = .returned (.tuple #[.int .i64 (nb s), .int .i64 0]) ∧ w = w' := by
  have := RGet.any ⟨(s.take 4).toArray⟩ w
  rw [get4 _ (by simp; omega)] at this
  exact this
theorem get_md (s : List UInt8) (h : s.length = 12) (w : World) :
    Calls Tryd.prog 29 #[.string ⟨((s.drop 4).take 4).toArray⟩] w fun e w' => e = .returned (.tuple #[.int .i64 (nl s), .int .i64 0]) ∧ w = w' := by
  have := RGet.any ⟨((s.drop 4).take 4).toArray⟩ w
  rw [get4 _ (by simp; omega)] at this
  exact this
theorem get_dp (s : List UInt8) (h : s.length = 12) (w : World) :
    Calls Tryd.prog 29 #[.string ⟨(s.drop 8).toArray⟩] w fun e w' => e = .returned (.tuple #[.int .i64 (nf s), .int .i64 0]) ∧ w = w' := by
  have := RGet.any ⟨(s.drop 8).toArray⟩ w
  rw [get4 _ (by simp; omega)] at this
  exact this
theorem size_mk (s : List UInt8) : (⟨s.toArray⟩ : ByteArray).size = s.length := by simp [ByteArray.size]
set_option maxRecDepth 100000 in
/-- What the document's Take answers. -/
theorem Take (s : List UInt8) (w : World) :
    Calls Tryd.prog 30 #[.string ⟨s.toArray⟩] w fun e w' => e = .returned (.tuple #[.agg #[.int .i64 (take s).1.1, .int .i64 (take s).1.2.1, .int .i64 (take s).1.2.2], .bool (decide ((take s).2 = 0))]) ∧ Below w.heap.size w w' := by
  by_cases h12 : s.length = 12
  · have G0 := Lib.hid (fun W => get_tk s h12 W)
    have G1 := Lib.hid (fun W => get_md s h12 W)
    have G2 := Lib.hid (fun W => get_dp s h12 W)
    have HN := Lib.hid (fun W => GeoR.Right (nb s) (nl s) (nf s) W)
    have HT : Hid (take s = if right (nb s) (nl s) (nf s) then ((nb s, nl s, nf s), 0) else ((0, 0, 0), 3)) := by
      show _ = _
      by_cases hr : right (nb s) (nl s) (nf s)
      · rw [if_pos hr]; exact take_yes ⟨h12, hr⟩
      · rw [if_neg hr]; exact take_no (fun h => hr h.2)
    have s0 := fun W => run_slice_string_h (P := Tryd.prog) (w := W) 9 ⟨s.toArray⟩ Tryd.underlying9 .i64 4 (by omega) (show (4 : Int) ≤ ((s.length : Nat) : Int) by omega)
    have s1 := fun W => run_slice_string (P := Tryd.prog) (w := W) 9 ⟨s.toArray⟩ .i64 .i64 4 8 Tryd.underlying9 (by omega) (by omega) (show (8 : Int) ≤ ((s.length : Nat) : Int) by omega)
    have s2 := fun W => run_slice_string_l (P := Tryd.prog) (w := W) 9 ⟨s.toArray⟩ Tryd.underlying9 .i64 8 (by omega) (show (8 : Int) ≤ ((s.length : Nat) : Int) by omega)
    rw [show (⟨s.toArray⟩ : ByteArray).extract (0 : Nat) (4 : Int).toNat = ⟨(s.take 4).toArray⟩ from by rw [ByteArray.extract_mk]; rfl] at s0
    rw [show (⟨s.toArray⟩ : ByteArray).extract (4 : Int).toNat (8 : Int).toNat = ⟨((s.drop 4).take 4).toArray⟩ from by rw [ByteArray.extract_mk]; rfl] at s1
    rw [show (⟨s.toArray⟩ : ByteArray).extract (8 : Int).toNat (⟨s.toArray⟩ : ByteArray).size = ⟨(s.drop 8).toArray⟩ from by rw [ByteArray.extract_mk]; congr 2; exact List.take_of_length_le (by simp [ByteArray.size])] at s2
    generalize nb s = x at *
    generalize nl s = y at *
    generalize nf s = z at *
    generalize s.take 4 = t0 at *
    generalize (s.drop 4).take 4 = t1 at *
    generalize s.drop 8 = t2 at *
    obtain ⟨W1, hW1⟩ : ∃ W1, W1 = w.alloc (.cells #[.int .i64 0, .int .i64 0, .int .i64 0] 23) := ⟨_, rfl⟩
    have hb1 : Below w.heap.size w W1 := by rw [hW1]; exact (Below.refl _ _).alloc (Nat.le_refl _) _
    have hk1 : W1.heap[w.heap.size]? = some (.cells #[.int .i64 0, .int .i64 0, .int .i64 0] 23 (0, 0)) := by rw [hW1]; exact heap_alloc_new w _
    have HK := Lib.hid hk1
    have HB := Lib.hid hb1
    go_enter Tryd.func30, Tryd.ntmps30
    go_upto_region 1 with (fail)
    rw [← hW1]
    clear hW1 hb1 hk1
    go_upto_region 4 with (first | (go_at_call 29; refine (G0.out _).mono ?_; rintro e _ ⟨rfl, rfl⟩))
    go_upto_region 5 with (first | (go_at_call 29; refine (G1.out _).mono ?_; rintro e _ ⟨rfl, rfl⟩))
    go_upto_region 7 with (first
      | (go_at_call 29; refine (G2.out _).mono ?_; rintro e _ ⟨rfl, rfl⟩)
      | (refine wpList_store_row rfl 23 _ _ rfl W1.heap.size _ rfl rfl 23 _ (heap_alloc_new W1 _) infoG rfl (one3 x y z) ?_))
    generalize hW7 : World.setRow (World.alloc W1 _) _ _ = W7
    have hb17 : Below W1.heap.size W1 W7 := by rw [← hW7]; exact below_setRow ((Below.refl _ _).alloc (Nat.le_refl _) _) (Nat.le_refl _) _
    have hb7 := HB.out.trans (hb17.mono HB.out.size)
    have hg7 := (hb17.block _ (lt_of_some HK.out)).trans HK.out
    have hk7 : W7.heap[W1.heap.size]? = some (.cells #[.int .i64 x, .int .i64 y, .int .i64 z] 23 (0, 0)) := by rw [← hW7]; exact setRow_same (heap_alloc_new W1 _)
    have c0 : W7.cell? ⟨W1.heap.size, 0, none⟩ = some (.int .i64 x) := blk_cell hk7 rfl
    have c1 : W7.cell? ⟨W1.heap.size, 1, none⟩ = some (.int .i64 y) := blk_cell hk7 rfl
    have c2 : W7.cell? ⟨W1.heap.size, 2, none⟩ = some (.int .i64 z) := blk_cell hk7 rfl
    have HB7 := Lib.hid hb7
    have HG7 := Lib.hid hg7
    have HK7 := Lib.hid hk7
    clear hW7 hb17 hb7 hg7 hk7 HB HK s0 s1 s2 G0 G1 G2
    generalize W1.heap.size = B at *
    by_cases hr : right x y z
    · rw [if_pos hr] at HT
      rw [dec_yes hr] at HN
      clear hr
      go_wp2_with (first
        | (go_at_call 40; refine (HN.out _).mono ?_; rintro e w8 ⟨rfl, hb8⟩; have HB8 := Lib.hid hb8; have HK8 := Lib.hid ((hb8.block _ (lt_of_some HK7.out)).trans HK7.out); have HG8 := Lib.hid ((hb8.block _ (lt_of_some HG7.out)).trans HG7.out); have d0 : w8.cell? ⟨B, 0, none⟩ = some (.int .i64 x) := blk_cell HK8.out rfl; have d1 : w8.cell? ⟨B, 1, none⟩ = some (.int .i64 y) := blk_cell HK8.out rfl; have d2 : w8.cell? ⟨B, 2, none⟩ = some (.int .i64 z) := blk_cell HK8.out rfl; clear hb8)
        | (refine wpList_store_row rfl 23 _ _ rfl w.heap.size _ rfl rfl 23 _ HG8.out infoG rfl (one3 x y z) ?_))
      refine bodyPost_ret (v := .tuple #[.agg #[.int .i64 x, .int .i64 y, .int .i64 z], .bool true])
        (results_cell_tmp_row Tryd.results30 _ _ w.heap.size 23 _ (0, 0) _ rfl (setRow_same HG8.out) Tryd.underlying23 rfl infoG) rfl
        ⟨by rw [HT.out] <;> rfl, below_setRow (HB7.out.trans (HB8.out.mono HB7.out.size)) (Nat.le_refl _) _⟩
    · rw [if_neg hr] at HT
      rw [dec_no hr] at HN
      clear hr
      go_wp2_with (first
        | (go_at_call 40; refine (HN.out _).mono ?_; rintro e w8 ⟨rfl, hb8⟩; have HB8 := Lib.hid hb8; have HG8 := Lib.hid ((hb8.block _ (lt_of_some HG7.out)).trans HG7.out); clear hb8)
        | (refine wpList_store_row rfl 23 _ _ rfl w.heap.size _ rfl rfl 23 _ HG8.out infoG rfl (one3 0 0 0) ?_))
      refine bodyPost_ret (v := .tuple #[.agg #[.int .i64 0, .int .i64 0, .int .i64 0], .bool false])
        (results_cell_tmp_row Tryd.results30 _ _ w.heap.size 23 _ (0, 0) _ rfl (setRow_same HG8.out) Tryd.underlying23 rfl infoG) rfl
        ⟨by rw [HT.out] <;> rfl, below_setRow (HB7.out.trans (HB8.out.mono HB7.out.size)) (Nat.le_refl _) _⟩
  · have HT := Lib.hid (take_no (s := s) (fun h => h12 h.1))
    go_enter Tryd.func30, Tryd.ntmps30
    go_wp2_with (refine wpList_store_row rfl 23 _ _ rfl w.heap.size _ rfl rfl 23 _ (heap_alloc_new w _) infoG rfl (one3 0 0 0) ?_)
    refine bodyPost_ret (v := .tuple #[.agg #[.int .i64 0, .int .i64 0, .int .i64 0], .bool false])
      (results_cell_tmp_row Tryd.results30 _ _ w.heap.size 23 _ (0, 0) _ rfl (setRow_same (heap_alloc_new w _)) Tryd.underlying23 rfl infoG) rfl
      ⟨by rw [HT.out] <;> rfl, below_setRow ((Below.refl _ _).alloc (Nat.le_refl _) _) (Nat.le_refl _) _⟩
end Go.Proofs.YtghljhohbhkdeaaDoor.GeoQ
