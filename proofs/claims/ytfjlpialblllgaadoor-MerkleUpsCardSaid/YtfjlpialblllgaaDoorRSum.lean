/- What the document's answer for layer 2 says of a step, of what stands behind a text, and of a text's sum: the walks of keepsakeref02.Step, Pad and Sum. -/
import Derived.Test.YtfjlpialblllgaaDoorRStp
import Derived.Test.YtfjlpialblllgaaDoorSPutN
namespace Go.Proofs.YtfjlpialblllgaaDoor.RSum
open Go.RowKit
open SSpr SByt STurn RRot RTxt RStp
/-- How long the text in a slot is. -/
def strLen : Value → Nat | .string s => s.size | _ => 0
theorem Pad (n : Nat) (w : World) (h : n ≤ 576460752303423488) :
    Calls Tryd.prog 45 #[.int .i64 n] w fun e w' => e = .returned (.string ⟨(pad n).toArray⟩) ∧ Below w.heap.size w w' := by
  obtain ⟨k, hk, hk2⟩ : ∃ k : Nat, k = (64 - (n + 9) % 64) % 64 ∧ k < 64 := ⟨_, rfl, by omega⟩
  have hpad : pad n = (128 :: List.replicate k 0) ++ be 8 (8 * n) := by rw [pad, hk]; rfl
  have HQ := Lib.hid hpad
  have HK := Lib.hid hk
  have hP : ∀ W, Calls Tryd.prog 66 #[.int .i64 (8 * (n : Int)), .int .i64 8] W fun e w' => e = .returned (.tuple #[.string ⟨(be 8 (8 * n)).toArray⟩, .int .i64 0]) ∧ Below W.heap.size W w' := by
    intro W
    have := RPut.any (8 * (n : Int)) 8 W (by omega)
    rw [put_good _ _ (by omega) (by omega) (by omega) (by simp only [Int.reduceToNat, Int.reducePow]; omega)] at this
    have e : (8 * (n : Int)).toNat = 8 * n := by omega
    rw [e] at this
    exact this
  have hbl : (be 8 (8 * n)).length ≤ 8 := by rw [be_length]; omega
  have HP := Lib.hid hP
  have hcv : ∀ W : World, (convert 71 9 (.slice (some ⟨W.heap.size, 0, none⟩) 1 1)).run Tryd.prog (W.alloc (.cells #[.int .u8 128] 5)) = .ok (.string ⟨#[128]⟩) (W.alloc (.cells #[.int .u8 128] 5)) := by
    intro W
    exact conv_row (l := [128]) (m := []) Tryd.underlying71 Tryd.underlying5 Tryd.underlying9 (by rw [heap_alloc_new]; rfl) rfl
  clear hP hpad hk
  generalize be 8 (8 * n) = y at *
  go_enter Tryd.func45, Tryd.ntmps45
  go_wp2
  clear hcv
  go_loopw [3] (fun t wr => ∃ j : Nat, j ≤ k ∧ t = .string ⟨(128 :: List.replicate j 0).toArray⟩ ∧ Below w.heap.size w wr) (fun t _ => 70 - strLen t)
  case atStart => exact ⟨0, Nat.zero_le _, rfl, (Below.refl _ _).alloc (Nat.le_refl _) _⟩
  case round =>
    obtain ⟨j, hj, rfl, hbel⟩ := hrel
    have HB := Lib.hid hbel
    clear hbel
    obtain ⟨z, hz⟩ : ∃ z : List UInt8, z = 128 :: List.replicate j 0 := ⟨_, rfl⟩
    have hzl : z.length = j + 1 := by rw [hz]; simp
    rw [← hz]
    by_cases hlt : j < k
    · have hc : (((n : Int) + (z.length : Int)) % 64 != 56) = true := by rw [bne_iff_ne]; have := HK.out; omega
      have HZ : Hid ((⟨z.toArray⟩ ++ ⟨#[0]⟩ : ByteArray) = ⟨(128 :: List.replicate (j + 1) 0).toArray⟩) := by
        show _ = _
        rw [hz, show (⟨#[0]⟩ : ByteArray) = ⟨([0] : List UInt8).toArray⟩ from rfl, ByteArray.mk_append_mk, List.replicate_succ']
        simp
      have hz64 : z.length ≤ 64 := by omega
      have HZL := Lib.hid hzl
      clear hz hzl
      go_wp2_with (go_at_call 65; refine (RNou.noughts 1 _ (by omega)).mono ?_; rintro e w1 ⟨rfl, hb1⟩; have HB1 := Lib.hid (HB.out.trans (hb1.mono HB.out.size)); clear hb1)
      go_roundw
      case rel => exact ⟨j + 1, by omega, by rw [← HZ.out], HB1.out⟩
      case measure =>
        have := HZL.out
        have e : (⟨z.toArray⟩ ++ ⟨(List.replicate 1 0).toArray⟩ : ByteArray).size = z.length + 1 := by rw [ByteArray.size_append]; rfl
        show 70 - (⟨z.toArray⟩ ++ ⟨(List.replicate 1 0).toArray⟩ : ByteArray).size < 70 - z.length
        omega
    · have hjk : j = k := by omega
      subst hjk
      have hc : (((n : Int) + (z.length : Int)) % 64 != 56) = false := by rw [bne_eq_false_iff_eq]; have := HK.out; omega
      have HZ : Hid ((⟨z.toArray⟩ ++ ⟨y.toArray⟩ : ByteArray) = ⟨(pad n).toArray⟩) := by
        show _ = _
        rw [HQ.out, hz, ByteArray.mk_append_mk]
      have hz64 : z.length ≤ 64 := by omega
      clear hz hzl
      go_wp2_with (go_at_call 66; refine (HP.out _).mono ?_; rintro e w1 ⟨rfl, hb1⟩; have HB1 := Lib.hid (HB.out.trans (hb1.mono HB.out.size)); clear hb1)
      rw [HZ.out]
      go_ret
      exact ⟨rfl, HB1.out⟩
theorem still_load {P : Program} {ops : Array Oper} {o : Oper} {a : Act} {w : World} {K : Act → Prop} (hgd : o.guard = none) (ty : TypeId) (x : Operand) (ho : o.op = .load ty x)
    (b off : Nat) (hx : a.eval x = .pointer (some ⟨b, off, none⟩)) (cs : List Value) (d : TypeDesc) (hc : w.rangeAt b off cs)
    (hu : P.underlying ty = some d) (hd : d.isRow = true) (hi : (P.info? ty).map (·.size) = some cs.length) (h : K (a.put o.dst (.agg cs.toArray))) :
    if Region.wanted o (yielded ops a.tmps) then o.still P a w K else K (a.put o.dst undef) := by
  have hw : Region.wanted o (yielded ops a.tmps) = true := by simp [Region.wanted, hgd]
  rw [if_pos hw]
  unfold Oper.still execOp
  simp only [ho, hx, Instr.loadAt, Instr.sureAddr, Sem.run_bind, Sem.run_pure, Result.andThen_ok, run_loadVar_mid w b off ty cs d hc hu hd hi]
  exact ⟨rfl, h⟩
set_option maxRecDepth 100000 in
set_option maxHeartbeats 1000000 in
theorem Sum (l : List UInt8) (w : World) (h : l.length ≤ 1000) :
    Calls Tryd.prog 30 #[.string ⟨l.toArray⟩] w fun e w' => e = .returned (.string ⟨(sum l).toArray⟩) ∧ Below w.heap.size w w' := by
  have HPad := Lib.hid (fun W => Pad l.length W (by omega))
  have hm := pad_mod l.length
  have hpl := pad_length l.length
  have HS : Hid (sum l = (blocks st0 ((l ++ pad l.length).length / 64) (l ++ pad l.length)).bytes) := by rw [sum, List.length_append]; rfl
  have hp2 : (pad l.length).length ≤ 80 := by omega
  generalize pad l.length = p at *
  have hap : (⟨l.toArray⟩ ++ ⟨p.toArray⟩ : ByteArray) = ⟨(l ++ p).toArray⟩ := by rw [ByteArray.mk_append_mk]
  have hal : (l ++ p).length ≤ 1100 := by rw [List.length_append]; omega
  have ham : (l ++ p).length % 64 = 0 := by rw [List.length_append]; exact hm
  obtain ⟨k, hk⟩ : ∃ k, (l ++ p).length = 64 * k := ⟨(l ++ p).length / 64, by omega⟩
  have HD : Hid ((l ++ p).length / 64 = k) := by rw [hk]; show 64 * k / 64 = k; omega
  generalize hA : l ++ p = A at *
  clear hA hm hpl ham
  have HK := Lib.hid hk
  have HAp := Lib.hid hap
  clear hk hap
  have HIk := Lib.hid (show (Tryd.prog.info? 78).map (·.size) = some (iRow kList).size by rw [iRow_size]; exact info55)
  have HOk := Lib.hid (iRow_one kList)
  have HZk := Lib.hid (show (iRow kList).size = 64 from rfl)
  go_enter Tryd.func30, Tryd.ntmps30
  go_upto_region 2 with (go_at_call 45; refine (HPad.out _).mono ?_; rintro e w1 ⟨rfl, hb1⟩; have HB1 := Lib.hid hb1; clear hb1)
  rw [HAp.out]
  go_upto_region 3 with (first
    | (go_at_call 46; refine (Begin _).mono ?_; rintro e w2 ⟨rfl, hb2⟩; have HB2 := Lib.hid (HB1.out.trans (hb2.mono HB1.out.size)); clear hb2)
    | (go_at_call 47; refine (Rounds _).mono ?_; rintro e w3 ⟨rfl, hb3⟩; have HB3 := Lib.hid (HB2.out.trans (hb3.mono HB2.out.size)); clear hb3)
    | (refine wpList_store_row rfl 76 _ _ rfl w3.heap.size _ rfl rfl 76 _ (heap_alloc2_old w3 _ _) (by exact info34) rfl (iSt_one _) ?_)
    | (refine wpList_store_row rfl 78 _ _ rfl (w3.heap.size + 1) _ rfl rfl 78 _ ((setRow_far (by omega)).trans (heap_alloc2_new w3 _ _)) HIk.out (by rw [HZk.out]; rfl) HOk.out ?_))
  generalize hW : World.setRow _ _ (iRow kList) = W
  have KX : Hid (W.heap[w3.heap.size]? = some (.cells (iSt (blocks st0 0 A)) 76 (0, 0))) := by
    show _ = _
    rw [← hW, setRow_far (by omega)]
    exact setRow_same (heap_alloc2_old w3 _ _)
  have KK : Hid (W.heap[w3.heap.size + 1]? = some (.cells (iRow kList) 78 (0, 0))) := by
    show _ = _
    rw [← hW]
    exact setRow_same ((setRow_far (by omega)).trans (heap_alloc2_new w3 _ _))
  have KB : Hid (Below w.heap.size w W) := by
    rw [← hW]
    have hs := HB3.out.size
    exact below_setRow (below_setRow ((HB3.out.alloc hs _).alloc (by simp; omega) _) hs _) (by omega) _
  have hgw := HB3.out.size
  clear hW HB1 HB2 HB3
  generalize w3.heap.size = g at *
  go_wp2
  go_loopw [6] (fun i wr => ∃ j : Nat, j ≤ k ∧ i = .int .i64 (64 * j : Nat) ∧ wr.heap[g]? = some (.cells (iSt (blocks st0 j A)) 76 (0, 0)) ∧ wr.heap[g + 1]? = some (.cells (iRow kList) 78 (0, 0)) ∧ Below w.heap.size w wr) (fun i _ => A.length - (intOf i).toNat)
  case atStart => exact ⟨0, Nat.zero_le _, rfl, KX.out, KK.out, KB.out⟩
  case round =>
    obtain ⟨j, hj, rfl, hbx, hbk, hbel⟩ := hrel
    have HBX := Lib.hid hbx
    have HBK := Lib.hid hbk
    have HBE := Lib.hid hbel
    clear hbx hbk hbel
    by_cases hlt : j < k
    · have hlt2 : ((64 * j : Nat) : Int) < (A.length : Int) := by have := HK.out; omega
      have hok := blocks_ok st0 st0_ok j A
      have hbl : ((A.drop (64 * j)).take 64).length = 64 := by have := HK.out; simp; omega
      have HSt := Lib.hid (fun W => RStp.step (blocks st0 j A) hok ((A.drop (64 * j)).take 64) hbl W)
      have HBN := Lib.hid (blocks_last st0 j A)
      obtain ⟨u, hu⟩ : ∃ u, u = 64 * j + 64 := ⟨_, rfl⟩
      have hkw : IntKind.i64.wrap (((64 * j : Nat) : Int) + 64) = (u : Int) := by rw [IntWalk.i64_in _ (by omega)]; omega
      have hsl : ∀ W : World, (Instr.slice 9 (.string ⟨A.toArray⟩) (some (.int .i64 ((64 * j : Nat) : Int))) (some (.int .i64 (u : Int))) none).run Tryd.prog W = .ok (.string ⟨((A.drop (64 * j)).take 64).toArray⟩) W := by
        intro W
        have := run_slice_string (P := Tryd.prog) (w := W) 9 ⟨A.toArray⟩ .i64 .i64 ((64 * j : Nat) : Int) (u : Int) Tryd.underlying9 (by omega) (by omega) (show _ ≤ ((A.length : Nat) : Int) by have := HK.out; omega)
        rw [this]
        rw [Int.toNat_natCast, Int.toNat_natCast, ByteArray.extract_mk, show u - 64 * j = 64 from by omega]
      have hr1 : wr.drew.rangeAt g 0 (iSt (blocks st0 j A)).toList := fun q v hv => by
        have := blk_cell HBX.out (show (iSt (blocks st0 j A))[q]? = some v by simpa using hv)
        rw [Nat.zero_add]; exact this
      have hr2 : wr.drew.rangeAt (g + 1) 0 (iRow kList).toList := fun q v hv => by
        have := blk_cell HBK.out (show (iRow kList)[q]? = some v by simpa using hv)
        rw [Nat.zero_add]; exact this
      have HR1 := Lib.hid hr1
      have HR2 := Lib.hid hr2
      have HU := Lib.hid hu
      have hglt := (Array.getElem?_eq_some_iff.1 HBK.out).1
      have HGL := Lib.hid hglt
      clear hr1 hr2 hok hbl hu hglt
      generalize hv : 64 * j = v at *
      have HV := Lib.hid hv
      clear hv
      generalize (A.drop v).take 64 = blk at *
      generalize blocks st0 j A = B at *
      go_upto_region 6 with (fail)
      refine wp_region_still_tail 7 (by kernel_rfl) (by kernel_rfl) ?_
      simp only [List.take_succ_cons, List.take_zero, List.drop_succ_cons, List.drop_zero]
      change wpStill _ _ wr.drew _ _ _
      refine wpStill_step (fun K hK => ?_)
      refine still_load rfl 76 _ rfl g 0 rfl (iSt B).toList _ HR1.out Tryd.underlying76 rfl (by exact info34) ?_
      refine hK _ ?_
      clear hK K
      still_step
      still_step
      still_step
      still_step
      still_step
      refine wpStill_step (fun K hK => ?_)
      refine still_load rfl 78 _ rfl (g + 1) 0 rfl (iRow kList).toList _ HR2.out Tryd.underlying78 rfl (by rw [Array.length_toList]; exact HIk.out) ?_
      refine hK _ ?_
      clear hK K
      refine wpStill_nil ?_
      change wpList _ _ _ _ _ wr.drew
      rw [Array.toArray_toList, Array.toArray_toList]
      clear hsl hkw
      have HS4 : Hid ((iSt B).size = (iSt (turnSt B blk)).size) := (iSt_size _).trans (iSt_size _).symm
      have HI4 : Hid ((Tryd.prog.info? 76).map (·.size) = some (iSt (turnSt B blk)).size) := info34.trans (congrArg some (iSt_size _).symm)
      have HO4 := Lib.hid (iSt_one (turnSt B blk))
      obtain ⟨B2, hB2⟩ : ∃ B2, B2 = blocks st0 (j + 1) A := ⟨_, rfl⟩
      rw [← HBN.out, ← hB2] at HS4 HI4 HO4 HSt
      have HE := Lib.hid hB2
      clear HBN hB2
      go_wp2_with (first
        | (go_at_call 48; refine (HSt.out _).mono ?_; rintro e w4 ⟨rfl, hb4⟩; have HX4 := Lib.hid ((hb4.block g (by have := HGL.out; show g < wr.heap.size; omega)).trans HBX.out); have HK4 := Lib.hid ((hb4.block (g + 1) (by have := HGL.out; show g + 1 < wr.heap.size; omega)).trans HBK.out); have HB4 := Lib.hid ((show Below w.heap.size w wr.drew from HBE.out.drew).trans (hb4.mono HBE.out.size)); clear hb4)
        | (refine wpList_store_row rfl 76 _ _ rfl g _ rfl rfl 76 _ HX4.out HI4.out HS4.out HO4.out ?_))
      go_roundw
      case rel => exact ⟨j + 1, by omega, by have := HV.out; exact vint (by omega), by rw [← HE.out]; exact setRow_same HX4.out, (setRow_far (by omega)).trans HK4.out, below_setRow HB4.out hgw _⟩
      case measure => have := HV.out; simp [intOf]; omega
    · have hjk : j = k := by omega
      subst hjk
      have hge : ¬ ((64 * j : Nat) : Int) < (A.length : Int) := by have := HK.out; omega
      have hs := HS.out
      rw [HD.out] at hs
      have HE := Lib.hid hs
      have HTx := Lib.hid (fun W => Text (blocks st0 j A) (blocks_ok st0 st0_ok j A) W)
      have HI4 : Hid ((Tryd.prog.info? 76).map (·.size) = some (iSt (blocks st0 j A)).size) := info34.trans (congrArg some (iSt_size _).symm)
      clear hs hlt
      generalize 64 * j = v at *
      generalize blocks st0 j A = B at *
      go_wp2_with (first
        | (refine wpList_load_row rfl 76 _ rfl g rfl 76 _ (0, 0) _ HBX.out Tryd.underlying76 rfl HI4.out ?_)
        | (go_at_call 49; refine (HTx.out _).mono ?_; rintro e w4 ⟨rfl, hb4⟩))
      go_ret
      exact ⟨by rw [HE.out]; rfl, HBE.out.trans (hb4.mono HBE.out.size)⟩
end Go.Proofs.YtfjlpialblllgaaDoor.RSum
