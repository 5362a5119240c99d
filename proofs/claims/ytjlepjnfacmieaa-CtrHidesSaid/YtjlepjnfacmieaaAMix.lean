/- What the state's mixed and unmixed answer: the walks of their texts. -/
import Derived.Test.YtjlepjnfacmieaaAOps
import Derived.StillTailTactics
namespace Go.Proofs.Ytjlepjnfacmieaa.AMix
open Go.RowKit
open AesM ADbl ATab AFill AOps
theorem dblx (a b : UInt8) (W : World) : Calls Try.prog 40 #[.int .u8 (bits .xor .u8 (a.toNat : Int) (b.toNat : Int))] W fun e w' => e = .returned (.int .u8 (dbl (a ^^^ b)).toNat) ∧ w' = W := by
  rw [x8]
  exact (double _ W).mono fun _ _ ⟨h1, h2⟩ => ⟨h1, h2.symm⟩
theorem front_len (s : List UInt8) (j : Nat) : ((List.range j).flatMap (colAt s)).length = 4 * j := by
  induction j with
  | zero => rfl
  | succ k ih => rw [List.range_succ, List.flatMap_append, List.length_append, ih]; simp [colAt, col]; omega
theorem four_of (l : List UInt8) (n : Nat) (h : n + 4 ≤ l.length) : l.drop n = l.getD n 0 :: l.getD (n + 1) 0 :: l.getD (n + 2) 0 :: l.getD (n + 3) 0 :: l.drop (n + 4) := by
  have e : ∀ k, k < l.length → l.drop k = l.getD k 0 :: l.drop (k + 1) := fun k hk => by
    rw [List.drop_eq_getElem_cons hk]; simp [List.getD, hk]
  rw [e n (by omega), e (n + 1) (by omega), e (n + 2) (by omega), e (n + 3) (by omega)]
theorem mixTo_at (s : List UInt8) (j i : Nat) : (mixTo s j).getD (4 * j + i) 0 = s.getD (4 * j + i) 0 := by
  rw [mixTo, List.getD, List.getElem?_append_right (by rw [front_len]; omega), front_len, List.getElem?_drop, List.getD]
  congr 2
  omega
theorem mixTo_next (s : List UInt8) (j : Nat) (hl : s.length = 16) (hj : j < 4) (a b c d : UInt8) (h : colAt s j = [a, b, c, d]) :
    ((((mixTo s j).set (4 * j) a).set (4 * j + 1) b).set (4 * j + 2) c).set (4 * j + 3) d = mixTo s (j + 1) := by
  have hf := front_len s j
  rw [mixTo, mixTo, List.range_succ, List.flatMap_append, List.append_assoc, four_of s (4 * j) (by omega)]
  rw [show [j].flatMap (colAt s) = colAt s j from by simp, h]
  generalize (List.range j).flatMap (colAt s) = F at *
  rw [List.set_append_right _ _ (by omega), List.set_append_right _ _ (by omega), List.set_append_right _ _ (by omega), List.set_append_right _ _ (by omega), hf]
  simp only [Nat.sub_self, show 4 * j + 1 - 4 * j = 1 from by omega, show 4 * j + 2 - 4 * j = 2 from by omega, show 4 * j + 3 - 4 * j = 3 from by omega, List.set_cons_zero, List.set_cons_succ, List.cons_append, List.nil_append]
  rfl
set_option maxRecDepth 100000 in
set_option maxHeartbeats 2000000 in
theorem mixed (s : List UInt8) (w : World) (hl : s.length = 16) :
    Calls Try.prog 44 #[.agg (bytesRow s)] w fun e w' => e = .returned (.agg (bytesRow (mixL s))) ∧ Below w.heap.size w w' := by
  have HL := Lib.hid hl
  clear hl
  have hm0 : s = mixTo s 0 := by simp [mixTo]
  have HM0 : Hid (bytesRow s = bytesRow (mixTo s 0)) := by show _ = _; rw [← hm0]
  clear hm0
  obtain ⟨cs, hcs⟩ : ∃ cs, cs = bytesRow s := ⟨_, rfl⟩
  rw [← hcs]
  rw [← hcs] at HM0
  clear hcs
  go_enter Try.func44, Try.ntmps44
  go_wp2_with fail
  go_loopw [3] (fun i wr => ∃ j m : Nat, j ≤ 4 ∧ m = 4 * j ∧ i = .int .i64 m ∧ wr.heap[w.heap.size]? = some (.cells (bytesRow (mixTo s j)) 76 (0, 0)) ∧ (∃ zs : Array Value, zs.size = 16 ∧ wr.heap[w.heap.size + 1]? = some (.cells zs 76 (0, 0))) ∧ Below w.heap.size w wr) (fun i _ => 16 - (intOf i).toNat)
  case atStart => exact ⟨0, 0, Nat.zero_le _, rfl, rfl, by rw [heap_alloc2_old, HM0.out], ⟨_, rfl, heap_alloc2_new w _ _⟩, ((Below.refl _ _).alloc (Nat.le_refl _) _).alloc (by simp) _⟩
  case round =>
    obtain ⟨j, m, hj, hm, rfl, hb0, ⟨zs, hzs, hb1⟩, hbel⟩ := hrel
    have hlen := mixTo_length s j HL.out hj
    by_cases hlt : j < 4
    · obtain ⟨m1, hm1⟩ : ∃ x, x = m + 1 := ⟨_, rfl⟩
      obtain ⟨m2, hm2⟩ : ∃ x, x = m + 2 := ⟨_, rfl⟩
      obtain ⟨m3, hm3⟩ : ∃ x, x = m + 3 := ⟨_, rfl⟩
      have e1 : IntKind.i64.wrap ((m : Int) + 1) = (m1 : Int) := by rw [IntWalk.i64_in _ (by omega)]; omega
      have e2 : IntKind.i64.wrap ((m : Int) + 2) = (m2 : Int) := by rw [IntWalk.i64_in _ (by omega)]; omega
      have e3 : IntKind.i64.wrap ((m : Int) + 3) = (m3 : Int) := by rw [IntWalk.i64_in _ (by omega)]; omega
      have g0 : (m : Int) < 16 := by omega
      have g1 : (m1 : Int) < 16 := by omega
      have g2 : (m2 : Int) < 16 := by omega
      have g3 : (m3 : Int) < 16 := by omega
      have z0 : (0 : Int) ≤ (m : Int) := by omega
      have z1 : (0 : Int) ≤ (m1 : Int) := by omega
      have z2 : (0 : Int) ≤ (m2 : Int) := by omega
      have z3 : (0 : Int) ≤ (m3 : Int) := by omega
      have n1 : m ≠ m1 := by omega
      have n2 : m ≠ m2 := by omega
      have n3 : m ≠ m3 := by omega
      have n12 : m1 ≠ m2 := by omega
      have n13 : m1 ≠ m3 := by omega
      have n23 : m2 ≠ m3 := by omega
      have HN : Hid (m ≠ m1 ∧ m ≠ m2 ∧ m ≠ m3 ∧ m1 ≠ m2 ∧ m1 ≠ m3 ∧ m2 ≠ m3) := ⟨n1, n2, n3, n12, n13, n23⟩
      have HM : Hid (m < 16 ∧ m1 < 16 ∧ m2 < 16 ∧ m3 < 16) := ⟨by omega, by omega, by omega, by omega⟩
      have c0 := state_cell hb0 hlen m (by omega)
      have c1 := state_cell hb0 hlen m1 (by omega)
      have c2 := state_cell hb0 hlen m2 (by omega)
      have c3 := state_cell hb0 hlen m3 (by omega)
      have HNX : Hid (∀ a b c d, colAt s j = [a, b, c, d] → ((((mixTo s j).set m a).set m1 b).set m2 c).set m3 d = mixTo s (j + 1)) := by
        intro a b c d h
        rw [hm3, hm2, hm1, hm]
        exact mixTo_next s j HL.out hlt a b c d h
      have HAT : Hid (colAt s j = col ((mixTo s j).getD m 0) ((mixTo s j).getD m1 0) ((mixTo s j).getD m2 0) ((mixTo s j).getD m3 0)) := by
        show _ = _
        rw [hm3, hm2, hm1, hm]
        have h0 := mixTo_at s j 0
        rw [Nat.add_zero] at h0
        rw [h0, mixTo_at s j 1, mixTo_at s j 2, mixTo_at s j 3]
        rfl
      have HQ : Hid (m = 4 * j ∧ j < 4) := ⟨hm, hlt⟩
      have HLEN := Lib.hid hlen
      have HJ : Hid (mixTo s (j + 1) = mixTo s (j + 1)) := rfl
      clear hm hm1 hm2 hm3 hlen hlt hj n1 n2 n3 n12 n13 n23
      generalize hR : mixTo s j = R at *
      generalize R.getD m 0 = a at *
      generalize R.getD m1 0 = b at *
      generalize R.getD m2 0 = c at *
      generalize R.getD m3 0 = d at *
      have HB0 := Lib.hid hb0
      have HB1 := Lib.hid hb1
      have HZ := Lib.hid hzs
      have HBL := Lib.hid hbel
      clear hR hb0 hb1 hzs hbel HM0
      go_upto_region 5 with (fail)
      go_quiet (fail)
      go_upto_region 6 with (fail)
      rw [x8, x8, x8]
      have HCOL : Hid (col a b c d = [a ^^^ (a ^^^ b ^^^ c ^^^ d ^^^ dbl (a ^^^ b)), b ^^^ (a ^^^ b ^^^ c ^^^ d ^^^ dbl (b ^^^ c)), c ^^^ (a ^^^ b ^^^ c ^^^ d ^^^ dbl (c ^^^ d)), d ^^^ (a ^^^ b ^^^ c ^^^ d ^^^ dbl (d ^^^ a))]) := rfl
      generalize a ^^^ b ^^^ c ^^^ d = al at *
      have HD0 := Lib.hid (fun W => dblx a b W)
      have HD1 := Lib.hid (fun W => dblx b c W)
      have HD2 := Lib.hid (fun W => dblx c d W)
      have HD3 := Lib.hid (fun W => dblx d a W)
      generalize dbl (a ^^^ b) = p0 at *
      generalize dbl (b ^^^ c) = p1 at *
      generalize dbl (c ^^^ d) = p2 at *
      generalize dbl (d ^^^ a) = p3 at *
      generalize hW : wr.drewN nq = W0 at *
      replace HB0 : Hid (W0.heap[w.heap.size]? = some (.cells (bytesRow R) 76 (0, 0))) := by rw [← hW]; exact HB0.out
      replace HB1 : Hid (W0.heap[w.heap.size + 1]? = some (.cells zs 76 (0, 0))) := by rw [← hW]; exact HB1.out
      replace HBL : Hid (Below w.heap.size w W0) := by rw [← hW]; exact HBL.out.trans (below_drewN wr nq)
      replace c0 : W0.cell? ⟨w.heap.size, m, none⟩ = some (.int .u8 a.toNat) := by rw [← hW]; exact c0
      replace c1 : W0.cell? ⟨w.heap.size, m1, none⟩ = some (.int .u8 b.toNat) := by rw [← hW]; exact c1
      replace c2 : W0.cell? ⟨w.heap.size, m2, none⟩ = some (.int .u8 c.toNat) := by rw [← hW]; exact c2
      replace c3 : W0.cell? ⟨w.heap.size, m3, none⟩ = some (.int .u8 d.toNat) := by rw [← hW]; exact c3
      clear hW
      have hz := blk_free (i := m) HB0.out
      refine wp_region_still_tail 10 (by kernel_rfl) (by kernel_rfl) ?_
      simp only [List.take_succ_cons, List.take_zero, List.drop_succ_cons, List.drop_zero]
      change wpStill _ _ W0.drew _ _ _
      iterate 7 still_step
      still_call (HD0.out _)
      iterate 2 still_step
      refine wpStill_nil ?_
      go_upto_region 7 with (fail)
      rw [x8 al p0, x8 a (al ^^^ p0)]
      obtain ⟨v0, hv0⟩ : ∃ v, v = a ^^^ (al ^^^ p0) := ⟨_, rfl⟩
      rw [← hv0]
      have HV0 := Lib.hid hv0
      clear hv0
      generalize hW : World.drew _ = W1
      replace HB0 : Hid (W1.heap[w.heap.size]? = some (.cells (bytesRow (R.set m v0)) 76 (0, 0))) := by
        have h := blk_set (i := m) (u := .int .u8 v0.toNat) HB0.out
        rw [bytesRow_set] at h
        show _ = _
        rw [← hW]
        exact h
      replace HB1 : Hid (W1.heap[w.heap.size + 1]? = some (.cells zs 76 (0, 0))) := by
        show _ = _
        rw [← hW]
        exact (Below.heap_setCell _ _ _ _ (by simp)).trans HB1.out
      replace HBL : Hid (Below w.heap.size w W1) := by
        show Below _ _ _
        rw [← hW]
        exact (HBL.out.setCell (by simp) _).trans (below_drewN _ 1)
      replace c1 : W1.cell? ⟨w.heap.size, m1, none⟩ = some (.int .u8 b.toNat) := by
        rw [← hW]
        exact (World.cell?_setCell_other _ _ _ _ (fun e => by injection e with e1 e2; have h := HN.out; omega)).trans c1
      replace c2 : W1.cell? ⟨w.heap.size, m2, none⟩ = some (.int .u8 c.toNat) := by
        rw [← hW]
        exact (World.cell?_setCell_other _ _ _ _ (fun e => by injection e with e1 e2; have h := HN.out; omega)).trans c2
      replace c3 : W1.cell? ⟨w.heap.size, m3, none⟩ = some (.int .u8 d.toNat) := by
        rw [← hW]
        exact (World.cell?_setCell_other _ _ _ _ (fun e => by injection e with e1 e2; have h := HN.out; omega)).trans c3
      clear hW hz c0
      have hz := blk_free (i := m1) HB0.out
      refine wp_region_still_tail 11 (by kernel_rfl) (by kernel_rfl) ?_
      simp only [List.take_succ_cons, List.take_zero, List.drop_succ_cons, List.drop_zero]
      change wpStill _ _ W1.drew _ _ _
      iterate 8 still_step
      still_call (HD1.out _)
      iterate 2 still_step
      refine wpStill_nil ?_
      go_upto_region 8 with (fail)
      rw [x8 al p1, x8 b (al ^^^ p1)]
      obtain ⟨v1, hv1⟩ : ∃ v, v = b ^^^ (al ^^^ p1) := ⟨_, rfl⟩
      rw [← hv1]
      have HV1 := Lib.hid hv1
      clear hv1
      generalize hW : World.drew _ = W2
      replace HB0 : Hid (W2.heap[w.heap.size]? = some (.cells (bytesRow ((R.set m v0).set m1 v1)) 76 (0, 0))) := by
        have h := blk_set (i := m1) (u := .int .u8 v1.toNat) HB0.out
        rw [bytesRow_set] at h
        show _ = _
        rw [← hW]
        exact h
      replace HB1 : Hid (W2.heap[w.heap.size + 1]? = some (.cells zs 76 (0, 0))) := by
        show _ = _
        rw [← hW]
        exact (Below.heap_setCell _ _ _ _ (by simp)).trans HB1.out
      replace HBL : Hid (Below w.heap.size w W2) := by
        show Below _ _ _
        rw [← hW]
        exact (HBL.out.setCell (by simp) _).trans (below_drewN _ 1)
      replace c2 : W2.cell? ⟨w.heap.size, m2, none⟩ = some (.int .u8 c.toNat) := by
        rw [← hW]
        exact (World.cell?_setCell_other _ _ _ _ (fun e => by injection e with e1 e2; have h := HN.out; omega)).trans c2
      replace c3 : W2.cell? ⟨w.heap.size, m3, none⟩ = some (.int .u8 d.toNat) := by
        rw [← hW]
        exact (World.cell?_setCell_other _ _ _ _ (fun e => by injection e with e1 e2; have h := HN.out; omega)).trans c3
      clear hW hz c1
      have hz := blk_free (i := m2) HB0.out
      refine wp_region_still_tail 11 (by kernel_rfl) (by kernel_rfl) ?_
      simp only [List.take_succ_cons, List.take_zero, List.drop_succ_cons, List.drop_zero]
      change wpStill _ _ W2.drew _ _ _
      iterate 8 still_step
      still_call (HD2.out _)
      iterate 2 still_step
      refine wpStill_nil ?_
      go_upto_region 9 with (fail)
      rw [x8 al p2, x8 c (al ^^^ p2)]
      obtain ⟨v2, hv2⟩ : ∃ v, v = c ^^^ (al ^^^ p2) := ⟨_, rfl⟩
      rw [← hv2]
      have HV2 := Lib.hid hv2
      clear hv2
      generalize hW : World.drew _ = W3
      replace HB0 : Hid (W3.heap[w.heap.size]? = some (.cells (bytesRow (((R.set m v0).set m1 v1).set m2 v2)) 76 (0, 0))) := by
        have h := blk_set (i := m2) (u := .int .u8 v2.toNat) HB0.out
        rw [bytesRow_set] at h
        show _ = _
        rw [← hW]
        exact h
      replace HB1 : Hid (W3.heap[w.heap.size + 1]? = some (.cells zs 76 (0, 0))) := by
        show _ = _
        rw [← hW]
        exact (Below.heap_setCell _ _ _ _ (by simp)).trans HB1.out
      replace HBL : Hid (Below w.heap.size w W3) := by
        show Below _ _ _
        rw [← hW]
        exact (HBL.out.setCell (by simp) _).trans (below_drewN _ 1)
      replace c3 : W3.cell? ⟨w.heap.size, m3, none⟩ = some (.int .u8 d.toNat) := by
        rw [← hW]
        exact (World.cell?_setCell_other _ _ _ _ (fun e => by injection e with e1 e2; have h := HN.out; omega)).trans c3
      clear hW hz c2
      have hz := blk_free (i := m3) HB0.out
      refine wp_region_still_tail 11 (by kernel_rfl) (by kernel_rfl) ?_
      simp only [List.take_succ_cons, List.take_zero, List.drop_succ_cons, List.drop_zero]
      change wpStill _ _ W3.drew _ _ _
      iterate 8 still_step
      still_call (HD3.out _)
      iterate 2 still_step
      refine wpStill_nil ?_
      go_upto_region 3 with (fail)
      rw [x8 al p3, x8 d (al ^^^ p3)]
      obtain ⟨v3, hv3⟩ : ∃ v, v = d ^^^ (al ^^^ p3) := ⟨_, rfl⟩
      rw [← hv3]
      have HV3 := Lib.hid hv3
      clear hv3
      generalize hW : World.drew _ = W4
      replace HB0 : Hid (W4.heap[w.heap.size]? = some (.cells (bytesRow ((((R.set m v0).set m1 v1).set m2 v2).set m3 v3)) 76 (0, 0))) := by
        have h := blk_set (i := m3) (u := .int .u8 v3.toNat) HB0.out
        rw [bytesRow_set] at h
        show _ = _
        rw [← hW]
        exact h
      replace HB1 : Hid (W4.heap[w.heap.size + 1]? = some (.cells zs 76 (0, 0))) := by
        show _ = _
        rw [← hW]
        exact (Below.heap_setCell _ _ _ _ (by simp)).trans HB1.out
      replace HBL : Hid (Below w.heap.size w W4) := by
        show Below _ _ _
        rw [← hW]
        exact (HBL.out.setCell (by simp) _).trans (below_drewN _ 1)
      clear hW hz c3
      go_wp2_with fail
      go_roundw
      case rel =>
        refine ⟨j + 1, m + 4, by have h := HQ.out; omega, by have h := HQ.out; omega, by go_num, ?_, ⟨zs, HZ.out, HB1.out⟩, HBL.out⟩
        rw [HB0.out, HNX.out v0 v1 v2 v3 (by rw [HAT.out, HCOL.out, HV0.out, HV1.out, HV2.out, HV3.out])]
      case measure => simp [intOf]; omega
    · have hk : j = 4 := by omega
      subst hk
      subst hm
      rw [show mixTo s 4 = mixL s from rfl] at hb0
      have hs : (bytesRow (mixL s)).size = 16 := by rw [bytesRow_size, mixL_length _ HL.out]
      have hone := bytes_one (mixL s)
      obtain ⟨rs, hrs⟩ : ∃ rs, rs = bytesRow (mixL s) := ⟨_, rfl⟩
      rw [← hrs] at hb0 hs hone
      have HR := Lib.hid hrs
      have HB0 := Lib.hid hb0
      have HB1 := Lib.hid hb1
      have HI := Lib.hid (show (Try.prog.info? 76).map (·.size) = some rs.size by rw [hs]; exact info16)
      have HS := Lib.hid (show zs.size = rs.size by rw [hs, hzs])
      have HO := Lib.hid hone
      clear hb0 hb1 hs hone hzs hrs HM0 hlen
      go_wp2_with (first
        | (refine wpList_load_row rfl 76 _ rfl w.heap.size rfl 76 _ (0, 0) _ HB0.out Try.underlying76 rfl HI.out ?_)
        | (refine wpList_store_row rfl 76 _ _ rfl (w.heap.size + 1) _ rfl rfl 76 _ HB1.out HI.out HS.out HO.out ?_))
      refine bodyPost_ret (v := .agg rs)
        (results_cell_row Try.results44 _ _ (w.heap.size + 1) 76 _ (0, 0) _ rfl (setRow_same HB1.out) Try.underlying76 rfl HI.out) rfl ⟨by rw [HR.out], below_setRow hbel (by omega) _⟩
end Go.Proofs.Ytjlepjnfacmieaa.AMix
