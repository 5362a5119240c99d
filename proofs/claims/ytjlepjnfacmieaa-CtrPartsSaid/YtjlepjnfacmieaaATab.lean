/- What aes.powers, standIns and about answer: the walks of their texts. -/
import Derived.Test.YtjlepjnfacmieaaADbl
import Derived.Test.YtjlepjnfacmieaaMem
import Derived.Deep.RegionHeld3
import Derived.IntWalk
import Derived.Deep.DeepCutAuto
namespace Go.Proofs.Ytjlepjnfacmieaa.ATab
open Go.RowKit
open AesM ADbl
theorem zero256' : (Try.prog.info? 67).map (·.zero) = some (some (.agg (bytesRow (List.replicate 256 0)))) := by kernel_rfl
theorem info256 : (Try.prog.info? 67).map (·.size) = some 256 := by kernel_rfl
/-- A great zero, under a name. -/
theorem zero_of {P : Program} {t : TypeId} {v : Value} (h : (P.info? t).map (·.zero) = some (some v)) (w : World) : (zeroValue t).run P w = .ok v w := by
  cases hq : P.info? t with
  | none => rw [hq] at h; cases h
  | some i =>
    rw [hq] at h
    have hz : i.zero = some v := by simpa using h
    simp [zeroValue, typeInfo, Sem.run_bind, hq, hz]
theorem zero256 : ∃ zs : Array Value, zs = bytesRow (List.replicate 256 0) ∧ zs.size = 256 ∧ ¬ zs = #[] ∧ ∀ w, (zeroValue 67).run Try.prog w = .ok (.agg zs) w :=
  ⟨_, rfl, by rw [bytesRow_size, List.length_replicate], (fun h => by have := congrArg Array.size h; rw [bytesRow_size, List.length_replicate] at this; cases this), fun w => zero_of zero256' w⟩
theorem prow_zero : (List.replicate 256 (0 : UInt8)).set 0 1 = [pwr 0] ++ List.replicate 255 0 := by decide +kernel
theorem bytes_one (l : List UInt8) : (bytesRow l).all (·.oneCell') = true := by
  rw [Array.all_eq_true_iff_forall_mem]
  intro v hv
  simp only [bytesRow, List.mem_toArray, List.mem_map] at hv
  obtain ⟨x, _, rfl⟩ := hv
  rfl
theorem cell_away {w : World} {g h i j n : Nat} {u v : Value} (hne : g ≠ h) (hc : w.cell? ⟨g, i, none⟩ = some v) : ((w.drewN n).setCell ⟨h, j, none⟩ u).cell? ⟨g, i, none⟩ = some v :=
  (World.cell?_setCell_other (w.drewN n) ⟨h, j, none⟩ ⟨g, i, none⟩ u (fun e => by injection e; omega)).trans hc
def prow (j : Nat) : List UInt8 := (List.range (j + 1)).map pwr ++ List.replicate (255 - j) 0
theorem prow_len (j : Nat) (h : j ≤ 255) : (prow j).length = 256 := by simp [prow]; omega
theorem prow_next (j : Nat) (h : j < 255) : (prow j).set (j + 1) (pwr (j + 1)) = prow (j + 1) := by
  unfold prow
  rw [List.set_append_right _ _ (by simp), show 255 - j = (255 - (j + 1)) + 1 from by omega, List.replicate_succ]
  simp only [List.length_map, List.length_range, Nat.sub_self, List.set_cons_zero]
  rw [List.range_succ (n := j + 1), List.map_append, List.append_assoc]
  rfl
theorem prow_getD (j i : Nat) (h : i ≤ j) : (prow j).getD i 0 = pwr i := by
  simp [prow, List.getD, List.getElem?_append, show i < j + 1 from by omega]
theorem byte_at (b : List UInt8) (i : Nat) (h : i < b.length) : (bytesRow b)[i]? = some (.int .u8 (b.getD i 0).toNat) := by
  rw [bytesRow_at b i h]; simp [List.getD, h]
set_option maxRecDepth 100000 in
theorem powers (w : World) : Calls Try.prog 38 #[] w fun e w' => e = .returned (.agg (bytesRow (prow 255))) ∧ Below w.heap.size w w' := by
  obtain ⟨zs, hzs, hsz, hne, hzv⟩ := zero256
  have HZ := Lib.hid hzs
  clear hzs
  go_enter Try.func38, Try.ntmps38
  go_wp2_with fail
  have HN := Lib.hid hne
  clear hne hzv
  have h0 : zs.setIfInBounds 0 (.int .u8 1) = bytesRow (prow 0) := by
    rw [HZ.out, show (Value.int .u8 1) = Value.int .u8 ((1 : UInt8).toNat : Int) from rfl, bytesRow_set, prow_zero]; rfl
  rw [h0]
  clear h0
  have hpz := prow_len 0 (by omega)
  go_loopw [4] (fun i wr => ∃ j : Nat, j ≤ 255 ∧ i = .int .i64 j ∧ wr.heap[w.heap.size]? = some (.cells zs 67 (0, 0)) ∧ wr.heap[w.heap.size + 1]? = some (.cells (bytesRow (prow j)) 67 (0, 0)) ∧ Below w.heap.size w wr) (fun i _ => 255 - (intOf i).toNat)
  case atStart => exact ⟨0, Nat.zero_le _, rfl, heap_alloc2_old w _ _, heap_alloc2_new w _ _, ((Below.refl _ _).alloc (Nat.le_refl _) _).alloc (by simp) _⟩
  case round =>
    obtain ⟨j, hj, rfl, hb0, hb1, hbel⟩ := hrel
    by_cases hlt : j < 255
    · have hl := prow_len j hj
      have cj := blk_cell hb1 (byte_at _ j (by omega))
      have cn := blk_cell hb1 (byte_at _ (j + 1) (by omega))
      have hfz := blk_free (i := j + 1) hb1
      rw [prow_getD j j (Nat.le_refl _)] at cj
      have HX := Lib.hid (prow_next j hlt)
      have HD := Lib.hid (fun W => double (pwr j) W)
      have HP : Hid (pwr (j + 1) = dbl (pwr j) ^^^ pwr j) := rfl
      have HV := Lib.hid (x8 (dbl (pwr j)) (pwr j))
      generalize (prow j).getD (j + 1) 0 = z at *
      generalize dbl (pwr j) = d at *
      generalize pwr j = x at *
      obtain ⟨p, hp⟩ : ∃ p, p = j + 1 := ⟨_, rfl⟩
      rw [← hp] at cn hfz
      have e2 : IntKind.i64.wrap ((j : Int) + 1) = (p : Int) := by rw [IntWalk.i64_in _ (by omega)]; omega
      have gp : (p : Int) < 256 := by omega
      have zp : (0 : Int) ≤ (p : Int) := by omega
      have gj : (j : Int) < 256 := by omega
      have zj : (0 : Int) ≤ (j : Int) := by omega
      have NE : j ≠ p := by omega
      have HE := Lib.hid hp
      have HB0 := Lib.hid hb0
      have HB1 := Lib.hid hb1
      clear hp hb0 hb1 hl
      go_wp2_with fail
      go_region_held3 (fun w' => w'.cell? ⟨w.heap.size + 1, j, none⟩ = some (.int .u8 x.toNat))
        (first | exact cj | exact cell_far NE cj)
        (first | (go_at_call 40; (with_reducible refine (HD.out _).mono ?_); rintro e w1 ⟨rfl, rfl⟩))
      go_wp2
      go_roundw
      case rel =>
        refine ⟨p, by omega, by go_num, ?_, ?_, ?_⟩
        · show (wr.setCell _ _).heap[_]? = _
          rw [Below.heap_setCell _ _ _ _ (by simp)]; exact HB0.out
        · show (wr.setCell _ _).heap[_]? = _
          rw [HV.out, ← HP.out, blk_set HB1.out, bytesRow_set, HE.out, HX.out]
        · exact (hbel.setCell (by simp) _).trans (below_drewN _ 1)
      case measure => have h := HE.out; simp [intOf]; omega
    · have hk : j = 255 := by omega
      subst hk
      have hs : (bytesRow (prow 255)).size = 256 := by rw [bytesRow_size, prow_len 255 (by omega)]
      have hone := bytes_one (prow 255)
      obtain ⟨rs, hrs⟩ : ∃ rs, rs = bytesRow (prow 255) := ⟨_, rfl⟩
      rw [← hrs] at hb1 hs hone
      have HR := Lib.hid hrs
      have HB0 := Lib.hid hb0
      have HB1 := Lib.hid hb1
      have HI := Lib.hid (show (Try.prog.info? 67).map (·.size) = some rs.size by rw [hs]; exact info256)
      have HS := Lib.hid (show zs.size = rs.size by rw [hs, hsz])
      have HO := Lib.hid hone
      clear hb0 hb1 hs hone hsz hrs HN hpz
      go_wp2_with (first
        | (refine wpList_load_row rfl 67 _ rfl (w.heap.size + 1) rfl 67 _ (0, 0) _ HB1.out Try.underlying67 rfl HI.out ?_)
        | (refine wpList_store_row rfl 67 _ _ rfl w.heap.size _ rfl rfl 67 _ HB0.out HI.out HS.out HO.out ?_))
      refine bodyPost_ret (v := .agg rs)
        (results_cell_row Try.results38 _ _ w.heap.size 67 _ (0, 0) _ rfl (setRow_same HB0.out) Try.underlying67 rfl HI.out) rfl ⟨by rw [HR.out], below_setRow hbel (Nat.le_refl _) _⟩
/-- The tables behind 'j' rounds. -/
theorem boxTo_len (j : Nat) : (boxTo j).length = 256 := by
  induction j with
  | zero => exact (by decide +kernel : (boxTo 0).length = 256)
  | succ j ih => rw [boxTo, List.length_set, ih]
theorem boxTo_zero : (List.replicate 256 (0 : UInt8)).set 0 99 = boxTo 0 := by decide +kernel
set_option maxRecDepth 100000 in
theorem standIns (w : World) : Calls Try.prog 33 #[] w fun e w' => e = .returned (.agg (bytesRow boxL)) ∧ Below w.heap.size w w' := by
  obtain ⟨zs, hzs, hsz, hne, hzv⟩ := zero256
  have hps : (bytesRow (prow 255)).size = 256 := by rw [bytesRow_size, prow_len 255 (by omega)]
  have hpo := bytes_one (prow 255)
  have hpa : ∀ i, i ≤ 255 → (bytesRow (prow 255))[i]? = some (.int .u8 (pwr i).toNat) := fun i hi => by
    rw [byte_at _ i (by rw [prow_len 255 (by omega)]; omega), prow_getD 255 i hi]
  have hpw := powers
  generalize bytesRow (prow 255) = ps at *
  have hbs0 : zs.setIfInBounds 0 (.int .u8 99) = bytesRow (boxTo 0) := by
    rw [hzs, show (Value.int .u8 99) = Value.int .u8 ((99 : UInt8).toNat : Int) from rfl, bytesRow_set, boxTo_zero]
  have hbs : (zs.setIfInBounds 0 (.int .u8 99)).size = 256 := by rw [hbs0, bytesRow_size, boxTo_len]
  have hbo : (zs.setIfInBounds 0 (.int .u8 99)).all (·.oneCell') = true := by rw [hbs0]; exact bytes_one (boxTo 0)
  have HBS := Lib.hid hbs0
  have HPW := Lib.hid hpw
  have HPA := Lib.hid hpa
  have IZ := Lib.hid (show (Try.prog.info? 67).map (·.size) = some ps.size by rw [hps]; exact info256)
  have SZ := Lib.hid (show zs.size = ps.size by rw [hps, hsz])
  have OZ := Lib.hid hpo
  have IB := Lib.hid (show (Try.prog.info? 67).map (·.size) = some (zs.setIfInBounds 0 (.int .u8 99)).size by rw [hbs]; exact info256)
  have SB := Lib.hid (show zs.size = (zs.setIfInBounds 0 (.int .u8 99)).size by rw [hbs, hsz])
  have OB := Lib.hid hbo
  clear hzs hbs0 hpw hpa hps hpo hbs hbo
  go_enter Try.func33, Try.ntmps33
  go_upto_region 1 with (fail)
  generalize hW : World.alloc w _ = W1
  have f0 : W1.heap[w.heap.size]? = some (.cells zs 67 (0, 0)) := by rw [← hW]; exact heap_alloc_new w _
  have fB : Below w.heap.size w W1 := by rw [← hW]; exact (Below.refl _ _).alloc (Nat.le_refl _) _
  have fS : W1.heap.size = w.heap.size + 1 := by rw [← hW]; simp
  have F0 := Lib.hid f0
  have FB := Lib.hid fB
  have FS := Lib.hid fS
  clear hW f0 fB fS
  go_upto_region 2 with (first
    | (go_at_call 38; refine (HPW.out _).mono ?_; rintro e w1 ⟨rfl, hb1⟩; have HB1 := Lib.hid hb1; clear hb1)
    | (refine wpList_store_row rfl 67 _ _ rfl w1.heap.size _ rfl rfl 67 _ (heap_alloc_new w1 _) IZ.out SZ.out OZ.out ?_))
  generalize hW : World.setRow (World.alloc w1 _) _ _ = W2
  have hs1 := HB1.out.size
  rw [FS.out] at hs1
  have k0 : W2.heap[w.heap.size]? = some (.cells zs 67 (0, 0)) := by
    rw [← hW, setRow_far (by omega), Below.heap_alloc _ _ _ (by omega), HB1.out.block _ (by rw [FS.out]; omega)]
    exact F0.out
  have k1 : W2.heap[w1.heap.size]? = some (.cells ps 67 (0, 0)) := by rw [← hW]; exact setRow_same (heap_alloc_new w1 _)
  have kB : Below w.heap.size w W2 := by
    rw [← hW]
    exact below_setRow ((FB.out.trans (HB1.out.mono (by rw [FS.out]; omega))).alloc (by omega) _) (by omega) _
  have kS : W2.heap.size = w1.heap.size + 1 := by rw [← hW]; simp [World.setRow]
  have K0 := Lib.hid k0
  have K1 := Lib.hid k1
  have KB := Lib.hid kB
  have KS := Lib.hid kS
  have HS1 := Lib.hid hs1
  clear hW k0 k1 kB kS F0 FB FS HB1 hs1 IZ SZ OZ
  generalize w1.heap.size = g1 at *
  go_upto_region 3 with (refine wpList_store_row rfl 67 _ _ rfl W2.heap.size _ rfl rfl 67 _ (heap_alloc_new W2 _) IB.out SB.out OB.out ?_)
  generalize hW : World.setRow (World.alloc W2 _) _ _ = W3
  have k0 : W3.heap[w.heap.size]? = some (.cells zs 67 (0, 0)) := by
    have h1 := KS.out
    have h2 := HS1.out
    rw [← hW, setRow_far (by omega), Below.heap_alloc _ _ _ (by omega)]
    exact K0.out
  have k1 : W3.heap[g1]? = some (.cells ps 67 (0, 0)) := by
    have h1 : g1 ≠ W2.heap.size := by rw [KS.out]; omega
    have h2 : g1 < W2.heap.size := by rw [KS.out]; omega
    rw [← hW, setRow_far h1, Below.heap_alloc _ _ _ h2]
    exact K1.out
  have k2 : W3.heap[W2.heap.size]? = some (.cells (bytesRow (boxTo 0)) 67 (0, 0)) := by rw [← hW, ← HBS.out]; exact setRow_same (heap_alloc_new W2 _)
  have kB : Below w.heap.size w W3 := by
    have h1 := KS.out
    have h2 := HS1.out
    rw [← hW]
    exact below_setRow (KB.out.alloc (by omega) _) (by omega) _
  have h12 : g1 < W2.heap.size := by rw [KS.out]; omega
  have h02 : w.heap.size < g1 := HS1.out
  generalize W2.heap.size = g2 at *
  have HG := Lib.hid h12
  have HG0 := Lib.hid h02
  clear hW K0 K1 KB KS HS1 IB SB OB h12 h02
  go_wp2_with fail
  go_loopw [6] (fun i wr => ∃ j : Nat, j ≤ 256 ∧ i = .int .i64 j ∧ wr.heap[w.heap.size]? = some (.cells zs 67 (0, 0)) ∧ wr.heap[g1]? = some (.cells ps 67 (0, 0)) ∧ wr.heap[g2]? = some (.cells (bytesRow (boxTo j)) 67 (0, 0)) ∧ Below w.heap.size w wr) (fun i _ => 256 - (intOf i).toNat)
  case atStart => exact ⟨0, Nat.zero_le _, rfl, k0, k1, k2, kB⟩
  case round =>
    clear k0 k1 k2 kB
    obtain ⟨j, hj, rfl, hb0, hb1, hb2', hbel⟩ := hrel
    by_cases hlt : j < 256
    · have cj := blk_cell hb1 (HPA.out j (by omega))
      have cq := blk_cell hb1 (HPA.out (255 - j) (by omega))
      have HX := Lib.hid (show boxTo (j + 1) = (boxTo j).set (pwr j).toNat (spr (pwr (255 - j))) from rfl)
      have HD := Lib.hid (fun W => spread (pwr (255 - j)) W)
      have hx := (pwr j).toNat_lt
      have cn := blk_cell hb2' (byte_at _ (pwr j).toNat (by rw [boxTo_len]; exact hx))
      have hfz := blk_free (i := (pwr j).toNat) hb2'
      generalize (boxTo j).getD (pwr j).toNat 0 = z at *
      generalize spr (pwr (255 - j)) = d at *
      generalize pwr (255 - j) = y at *
      generalize pwr j = x at *
      obtain ⟨p, hp⟩ : ∃ p, p = 255 - j := ⟨_, rfl⟩
      rw [← hp] at cq
      have e2 : IntKind.i64.wrap (255 - (j : Int)) = (p : Int) := by rw [IntWalk.i64_in _ (by omega)]; omega
      have gp : (p : Int) < 256 := by omega
      have zp : (0 : Int) ≤ (p : Int) := by omega
      have gj : (j : Int) < 256 := by omega
      have zj : (0 : Int) ≤ (j : Int) := by omega
      have gx : (x.toNat : Int) < 256 := by omega
      have zx : (0 : Int) ≤ (x.toNat : Int) := by omega
      have N1 : g1 ≠ g2 := by have := HG.out; omega
      have HB0 := Lib.hid hb0
      have HB1 := Lib.hid hb1
      have HB2 := Lib.hid hb2'
      have HN1 := Lib.hid N1
      clear hp hb0 hb1 hb2' N1 hx
      go_wp2_with fail
      go_region_held3 (fun w' => w'.cell? ⟨g1, j, none⟩ = some (.int .u8 x.toNat) ∧ w'.cell? ⟨g1, p, none⟩ = some (.int .u8 y.toNat))
        (first | exact ⟨cj, cq⟩ | exact ⟨cell_away HN1.out cj, cell_away HN1.out cq⟩)
        (first | (go_at_call 39; (with_reducible refine (HD.out _).mono ?_); rintro e w1 ⟨rfl, rfl⟩))
      go_wp2
      go_roundw
      case rel =>
        refine ⟨j + 1, by omega, by go_num, ?_, ?_, ?_, ?_⟩
        · show (wr.setCell _ _).heap[_]? = _
          rw [Below.heap_setCell _ _ _ _ (by have h1 := HG.out; have h2 := HG0.out; simp; omega)]; exact HB0.out
        · show (wr.setCell _ _).heap[_]? = _
          rw [Below.heap_setCell _ _ _ _ (by simpa using HN1.out)]; exact HB1.out
        · show (wr.setCell _ _).heap[_]? = _
          rw [blk_set HB2.out, bytesRow_set, HX.out]
        · exact (hbel.setCell (by have h1 := HG.out; have h2 := HG0.out; simp; omega) _).trans (below_drewN _ 1)
      case measure => simp [intOf]; omega
    · have hk : j = 256 := by omega
      subst hk
      rw [boxTo_all] at hb2'
      have hs : (bytesRow boxL).size = 256 := by rw [bytesRow_size, boxL_len]
      have hone := bytes_one boxL
      obtain ⟨rs, hrs⟩ : ∃ rs, rs = bytesRow boxL := ⟨_, rfl⟩
      rw [← hrs] at hb2' hs hone
      have HR := Lib.hid hrs
      have HB0 := Lib.hid hb0
      have HB2 := Lib.hid hb2'
      have HI := Lib.hid (show (Try.prog.info? 67).map (·.size) = some rs.size by rw [hs]; exact info256)
      have HS := Lib.hid (show zs.size = rs.size by rw [hs, hsz])
      have HO := Lib.hid hone
      clear hb0 hb1 hb2' hs hone hsz hrs hne hzv
      go_wp2_with (first
        | (refine wpList_load_row rfl 67 _ rfl g2 rfl 67 _ (0, 0) _ HB2.out Try.underlying67 rfl HI.out ?_)
        | (refine wpList_store_row rfl 67 _ _ rfl w.heap.size _ rfl rfl 67 _ HB0.out HI.out HS.out HO.out ?_))
      refine bodyPost_ret (v := .agg rs)
        (results_cell_row Try.results33 _ _ w.heap.size 67 _ (0, 0) _ rfl (setRow_same HB0.out) Try.underlying67 rfl HI.out) rfl ⟨by rw [HR.out], below_setRow hbel (Nat.le_refl _) _⟩
theorem aboutTo_len (t : List UInt8) (j : Nat) : (aboutTo t j).length = 256 := by
  induction j with
  | zero => rw [aboutTo, List.length_replicate]
  | succ j ih => rw [aboutTo, List.length_set, ih]
/-- A table that lies in memory, from a place on. -/
def TabAt (W : World) (g o : Nat) (t : List UInt8) : Prop := ∀ i, i < 256 → W.cell? ⟨g, o + i, none⟩ = some (.int .u8 (t.getD i 0).toNat)
theorem TabAt.lt {W : World} {g o : Nat} {t : List UInt8} (h : TabAt W g o t) : g < W.heap.size := World.block_lt_of_cell? W _ (h 0 (by omega))
theorem TabAt.below {W W' : World} {g o B : Nat} {t : List UInt8} (h : TabAt W g o t) (hb : Below B W W') (hg : g < B) : TabAt W' g o t := fun i hi => (hb.cell (p := ⟨g, o + i, none⟩) hg).trans (h i hi)
theorem TabAt.step {W W' : World} {g o : Nat} {t : List UInt8} (h : TabAt W g o t) (hb : Below W.heap.size W W') : TabAt W' g o t := h.below hb h.lt
end Go.Proofs.Ytjlepjnfacmieaa.ATab
