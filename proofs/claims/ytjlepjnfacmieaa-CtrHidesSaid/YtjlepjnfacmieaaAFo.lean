/- What the cipher's forth answers: the walk of its text. The condition: the cipher's words and stand-ins lie in memory. -/
import Derived.Test.YtjlepjnfacmieaaAForth
namespace Go.Proofs.Ytjlepjnfacmieaa.AFo
open Go.RowKit
open AesM ADbl ATab AFill AOps AMix AForth
set_option maxRecDepth 100000 in
set_option linter.unusedSimpArgs false in
set_option maxHeartbeats 2000000 in
theorem forth (g : Nat) (s ws t : List UInt8) (w : World) (hl : s.length = 16) (hw : WordsAt w g ws) (ht : TabAt w g 1 t) :
    Calls Try.prog 35 #[.pointer (some ⟨g, 0, none⟩), .agg (bytesRow s)] w fun e w' => e = .returned (.agg (bytesRow (forthL ws t s))) ∧ Below w.heap.size w w' := by
  have HAdd := Lib.hid (fun (r : Nat) (hr : r ≤ 10) (l : List UInt8) (hl : l.length = 16) (W : World) (hb : Below w.heap.size w W) => add g r l ws W hl (hw.below hb hw.lt) hr)
  have HSub := Lib.hid (fun (l : List UInt8) (hl : l.length = 16) (W : World) (hb : Below w.heap.size w W) => swapped g 1 l t W hl (ht.below hb ht.lt))
  have HTrn := Lib.hid (fun (l : List UInt8) (hl : l.length = 16) (W : World) => turned 1 l W hl (by omega))
  have HMix := Lib.hid (fun (l : List UInt8) (hl : l.length = 16) (W : World) => mixed l W hl)
  have HK := Lib.hid (rowOk s hl)
  have HA := Lib.hid (fun (W : World) (hb : Below w.heap.size w W) => (show Calls Try.prog 41 #[.pointer (some ⟨g, 0, none⟩), .agg (bytesRow s), .int .i64 0] W _ from HAdd.out 0 (by omega) s hl W hb))
  have HK2 := Lib.hid (rowOk (forthTo ws t s 0) (forthTo_length _ _ _ _))
  rw [show addL s ws 0 = forthTo ws t s 0 from rfl] at HA
  obtain ⟨r2, hr2⟩ : ∃ r, r = bytesRow (forthTo ws t s 0) := ⟨_, rfl⟩
  rw [← hr2] at HA HK2
  have HR2 := Lib.hid hr2
  have HFin : Hid (forthL ws t s = forthTo ws t s 10) := rfl
  obtain ⟨r, hr⟩ : ∃ r, r = bytesRow s := ⟨_, rfl⟩
  rw [← hr] at HA HK ⊢
  clear hw ht hl hr hr2
  go_enter Try.func35, Try.ntmps35
  go_upto_region 1 with (fail)
  generalize hW : World.alloc (World.alloc w _) _ = W0
  have HB : Hid (W0.heap[w.heap.size]? = some (.cells r 76 (0, 0))) := by show _ = _; rw [← hW]; exact heap_alloc2_old w _ _
  have HZ : Hid (∃ zs : Array Value, zs.size = 16 ∧ W0.heap[w.heap.size + 1]? = some (.cells zs 76 (0, 0))) := ⟨_, rfl, by rw [← hW]; exact heap_alloc2_new w _ _⟩
  have HBL : Hid (Below w.heap.size w W0) := by show Below _ _ _; rw [← hW]; exact ((Below.refl _ _).alloc (Nat.le_refl _) _).alloc (by simp) _
  have HLT : Hid (w.heap.size < W0.heap.size) := World_lt HB.out
  clear hW
  go_upto_region 2 with (first
    | (refine wpList_load_row rfl 76 _ rfl w.heap.size rfl 76 _ (0, 0) _ HB.out Try.underlying76 rfl HK.out.1 ?_)
    | (go_at_call 41; refine (HA.out _ HBL.out).mono ?_; rintro e w1 ⟨rfl, hb1⟩; have HB1 := Lib.hid hb1; clear hb1)
    | (refine wpList_store_row rfl 76 _ _ rfl w.heap.size _ rfl rfl 76 _ ((HB1.out.block _ HLT.out).trans HB.out) HK2.out.1 (HK.out.2.1.trans HK2.out.2.1.symm) HK2.out.2.2 ?_))
  generalize hW : World.setRow w1 _ _ = W1
  replace HBL : Hid (Below w.heap.size w W1) := by
    show Below _ _ _
    rw [← hW]
    exact below_setRow (HBL.out.trans (HB1.out.mono HBL.out.size)) (Nat.le_refl _) _
  replace HB : Hid (W1.heap[w.heap.size]? = some (.cells r2 76 (0, 0))) := by
    show _ = _
    rw [← hW]
    exact setRow_same ((HB1.out.block _ HLT.out).trans HB.out)
  replace HZ : Hid (∃ zs : Array Value, zs.size = 16 ∧ W1.heap[w.heap.size + 1]? = some (.cells zs 76 (0, 0))) := by
    obtain ⟨zs, h1, h2⟩ := HZ.out
    refine ⟨zs, h1, ?_⟩
    rw [← hW, setRow_far (by omega), HB1.out.block _ (World_lt h2)]
    exact h2
  replace HLT : Hid (w.heap.size < W1.heap.size) := World_lt HB.out
  clear hW HB1
  clear HK HK2 HA
  go_wp2_with fail
  go_loopw [9] (fun i wr => ∃ j : Nat, j ≤ 10 ∧ i = .int .i64 j ∧ wr.heap[w.heap.size]? = some (.cells (bytesRow (forthTo ws t s j)) 76 (0, 0)) ∧ (∃ zs : Array Value, zs.size = 16 ∧ wr.heap[w.heap.size + 1]? = some (.cells zs 76 (0, 0))) ∧ Below w.heap.size w wr) (fun i _ => 10 - (intOf i).toNat)
  case atStart => exact ⟨0, Nat.zero_le _, rfl, by rw [HB.out, HR2.out], HZ.out, HBL.out⟩
  case round =>
    clear HB HZ HBL HLT HR2
    obtain ⟨j, hj, rfl, hb0, hz, hbel⟩ := hrel
    have hlen := forthTo_length ws t s j
    by_cases hlt : j < 10
    · have HNX : Hid (forthTo ws t s (j + 1) = addL (if j < 9 then mixL (turnL 1 (subL t (forthTo ws t s j))) else turnL 1 (subL t (forthTo ws t s j))) ws (j + 1)) := rfl
      generalize forthTo ws t s j = l0 at *
      have HS := Lib.hid (fun W hb => HSub.out l0 hlen W hb)
      have HT := Lib.hid (fun W => HTrn.out (subL t l0) (subL_length _ _) W)
      have HM := Lib.hid (fun W => HMix.out (turnL 1 (subL t l0)) (turnL_length _ _) W)
      have HK0 := Lib.hid (rowOk l0 hlen)
      have HK2 := Lib.hid (rowOk (turnL 1 (subL t l0)) (turnL_length _ _))
      have HK3 := Lib.hid (rowOk (mixL (turnL 1 (subL t l0))) (mixL_length _ (turnL_length _ _)))
      have e1 : ((j + 1 : Nat) : Int) = (j : Int) + 1 := by omega
      have HA2 := Lib.hid (fun W hb => HAdd.out (j + 1) (by omega) (turnL 1 (subL t l0)) (turnL_length _ _) W hb)
      have HA3 := Lib.hid (fun W hb => HAdd.out (j + 1) (by omega) (mixL (turnL 1 (subL t l0))) (mixL_length _ (turnL_length _ _)) W hb)
      rw [e1] at HA2 HA3
      have HK4a := Lib.hid (rowOk (addL (turnL 1 (subL t l0)) ws (j + 1)) (addL_length _ _ _))
      have HK4b := Lib.hid (rowOk (addL (mixL (turnL 1 (subL t l0))) ws (j + 1)) (addL_length _ _ _))
      clear hlen e1
      generalize turnL 1 (subL t l0) = l2 at *
      generalize subL t l0 = l1 at *
      generalize bytesRow l0 = r0 at *
      generalize bytesRow l1 = r1 at *
      obtain ⟨l4a, hl4a⟩ : ∃ l, l = addL l2 ws (j + 1) := ⟨_, rfl⟩
      obtain ⟨l4b, hl4b⟩ : ∃ l, l = addL (mixL l2) ws (j + 1) := ⟨_, rfl⟩
      rw [← hl4a] at HA2 HK4a
      rw [← hl4b] at HA3 HK4b
      have H4a := Lib.hid hl4a
      have H4b := Lib.hid hl4b
      obtain ⟨r4a, hr4a⟩ : ∃ r, r = bytesRow l4a := ⟨_, rfl⟩
      obtain ⟨r4b, hr4b⟩ : ∃ r, r = bytesRow l4b := ⟨_, rfl⟩
      rw [← hr4a] at HA2 HK4a
      rw [← hr4b] at HA3 HK4b
      have HR4a := Lib.hid hr4a
      have HR4b := Lib.hid hr4b
      clear hl4a hl4b hr4a hr4b
      generalize bytesRow (mixL l2) = r3 at *
      generalize bytesRow l2 = r2 at *
      have HB := Lib.hid hb0
      have HZ := Lib.hid hz
      have HBL := Lib.hid hbel
      have HLT : Hid (w.heap.size < wr.heap.size) := World_lt hb0
      clear hb0 hz hbel
      go_upto_region 5 with (fail)
      refine wp_region_held_drew (S := fun _ => True) (by kernel_rfl) trivial (fun _ => ?_)
      refine wpAnyH_take (i := 1) (v := .pointer (some ⟨g, 0, none⟩)) (by rw [List.getElem?_toArray]; rfl) (by kernel_rfl) (by kernel_rfl) (by kernel_rfl) (by intro _ _ _ h; exact h) (Or.inl ⟨by rfl, fun W _ => by kernel_rfl⟩) trivial ?_
      try simp only [Act.put, List.setIfInBounds_toArray, List.set_cons_zero, List.set_cons_succ]
      refine wpAnyH_take (i := 2) (v := .pointer (some ⟨g, 0, none⟩)) (by rw [List.getElem?_toArray]; rfl) (by kernel_rfl) (by kernel_rfl) (by kernel_rfl) (by intro _ _ _ h; exact h) (Or.inl ⟨by rfl, fun W _ => by kernel_rfl⟩) trivial ?_
      try simp only [Act.put, List.setIfInBounds_toArray, List.set_cons_zero, List.set_cons_succ]
      refine wpAnyH_take (i := 3) (v := .pointer (some ⟨g, 1, none⟩)) (by rw [List.getElem?_toArray]; rfl) (by kernel_rfl) (by kernel_rfl) (by kernel_rfl) (by intro _ _ _ h; exact h) (Or.inl ⟨by rfl, fun W _ => by kernel_rfl⟩) trivial ?_
      try simp only [Act.put, List.setIfInBounds_toArray, List.set_cons_zero, List.set_cons_succ]
      refine wpAnyH_ready (rs := [0]) (by kernel_rfl) (by simp) (AllReadyH.cons (by rw [List.getElem?_toArray]; rfl) (fun K hK => ?_) AllReadyH.nil)
      rw [if_pos (by rfl)]
      refine wp_load_row 76 _ rfl w.heap.size rfl 76 _ (0, 0) _ HB.out Try.underlying76 rfl HK0.out.1 ?_
      refine hK.out _ _ trivial (fun _ => ?_)
      clear hK K
      try simp only [Act.put, List.setIfInBounds_toArray, List.set_cons_zero, List.set_cons_succ]
      refine wpAnyH_ready (rs := [4]) (by kernel_rfl) (by simp) (AllReadyH.cons (by rw [List.getElem?_toArray]; rfl) (fun K hK => ?_) AllReadyH.nil)
      go_simp
      refine (HS.out wr.drew (HBL.out.trans (below_drewN wr 1))).mono ?_
      rintro e w0 ⟨rfl, hb0⟩
      refine hK.out _ _ trivial (fun _ => ?_)
      clear hK K
      try simp only [Act.put, List.setIfInBounds_toArray, List.set_cons_zero, List.set_cons_succ]
      refine wpAnyH_ready (rs := [5]) (by kernel_rfl) (by simp) (AllReadyH.cons (by rw [List.getElem?_toArray]; rfl) (fun K hK => ?_) AllReadyH.nil)
      go_simp
      refine (HT.out w0).mono ?_
      rintro e w1 ⟨rfl, hb1⟩
      refine hK.out _ _ trivial (fun _ => ?_)
      clear hK K
      try simp only [Act.put, List.setIfInBounds_toArray, List.set_cons_zero, List.set_cons_succ]
      have hb01 : Below wr.heap.size wr w1 := (show Below wr.heap.size wr w0 from ⟨hb0.os, hb0.tape, hb0.output, hb0.size, hb0.block⟩).trans (hb1.mono hb0.size)
      have HB1 := Lib.hid hb01
      clear hb0 hb1 hb01
      refine wpAnyH_ready (rs := [6]) (by kernel_rfl) (by simp) (AllReadyH.cons (by rw [List.getElem?_toArray]; rfl) (fun K hK => ?_) AllReadyH.nil)
      rw [if_pos (by rfl)]
      refine wp_store_row 76 _ _ rfl w.heap.size _ rfl rfl 76 _ ((HB1.out.block _ HLT.out).trans HB.out) HK2.out.1 (HK0.out.2.1.trans HK2.out.2.1.symm) HK2.out.2.2 ?_
      refine hK.out _ _ trivial (fun _ => ?_)
      clear hK K
      try simp only [Act.put, List.setIfInBounds_toArray, List.set_cons_zero, List.set_cons_succ]
      generalize hW : World.setRow w1 _ _ = Wb
      replace HBL : Hid (Below w.heap.size w Wb) := by
        show Below _ _ _
        rw [← hW]
        exact below_setRow (HBL.out.trans (HB1.out.mono HBL.out.size)) (Nat.le_refl _) _
      replace HB : Hid (Wb.heap[w.heap.size]? = some (.cells r2 76 (0, 0))) := by
        show _ = _
        rw [← hW]
        exact setRow_same ((HB1.out.block _ HLT.out).trans HB.out)
      replace HZ : Hid (∃ zs : Array Value, zs.size = 16 ∧ Wb.heap[w.heap.size + 1]? = some (.cells zs 76 (0, 0))) := by
        obtain ⟨zs, h1, h2⟩ := HZ.out
        refine ⟨zs, h1, ?_⟩
        rw [← hW, setRow_far (by omega), HB1.out.block _ (World_lt h2)]
        exact h2
      replace HLT : Hid (w.heap.size < Wb.heap.size) := World_lt HB.out
      clear hW HB1
      refine wpAnyH_done (by kernel_rfl) ?_ _
      clear HS HT HK0
      by_cases h9 : j < 9
      · rw [if_pos h9] at HNX
        have h9' : (j : Int) < 9 := by omega
        go_upto_region 8 with (first
          | (refine wpList_load_row rfl 76 _ rfl w.heap.size rfl 76 _ (0, 0) _ HB.out Try.underlying76 rfl HK2.out.1 ?_)
          | (go_at_call 44; refine (HM.out _).mono ?_; rintro e w1 ⟨rfl, hb1⟩; have HB1 := Lib.hid hb1; clear hb1)
          | (refine wpList_store_row rfl 76 _ _ rfl w.heap.size _ rfl rfl 76 _ ((HB1.out.block _ HLT.out).trans HB.out) HK3.out.1 (HK2.out.2.1.trans HK3.out.2.1.symm) HK3.out.2.2 ?_))
        generalize hW : World.setRow w1 _ _ = Wc
        replace HBL : Hid (Below w.heap.size w Wc) := by
          show Below _ _ _
          rw [← hW]
          exact below_setRow (HBL.out.trans (HB1.out.mono HBL.out.size)) (Nat.le_refl _) _
        replace HB : Hid (Wc.heap[w.heap.size]? = some (.cells r3 76 (0, 0))) := by
          show _ = _
          rw [← hW]
          exact setRow_same ((HB1.out.block _ HLT.out).trans HB.out)
        replace HZ : Hid (∃ zs : Array Value, zs.size = 16 ∧ Wc.heap[w.heap.size + 1]? = some (.cells zs 76 (0, 0))) := by
          obtain ⟨zs, h1, h2⟩ := HZ.out
          refine ⟨zs, h1, ?_⟩
          rw [← hW, setRow_far (by omega), HB1.out.block _ (World_lt h2)]
          exact h2
        replace HLT : Hid (w.heap.size < Wc.heap.size) := World_lt HB.out
        clear hW HB1
        go_upto_region 9 with (first
          | (refine wpList_load_row rfl 76 _ rfl w.heap.size rfl 76 _ (0, 0) _ HB.out Try.underlying76 rfl HK3.out.1 ?_)
          | (go_at_call 41; refine (HA3.out _ HBL.out).mono ?_; rintro e w1 ⟨rfl, hb1⟩; have HB1 := Lib.hid hb1; clear hb1)
          | (refine wpList_store_row rfl 76 _ _ rfl w.heap.size _ rfl rfl 76 _ ((HB1.out.block _ HLT.out).trans HB.out) HK4b.out.1 (HK3.out.2.1.trans HK4b.out.2.1.symm) HK4b.out.2.2 ?_))
        generalize hW : World.setRow w1 _ _ = Wd
        replace HBL : Hid (Below w.heap.size w Wd) := by
          show Below _ _ _
          rw [← hW]
          exact below_setRow (HBL.out.trans (HB1.out.mono HBL.out.size)) (Nat.le_refl _) _
        replace HB : Hid (Wd.heap[w.heap.size]? = some (.cells r4b 76 (0, 0))) := by
          show _ = _
          rw [← hW]
          exact setRow_same ((HB1.out.block _ HLT.out).trans HB.out)
        replace HZ : Hid (∃ zs : Array Value, zs.size = 16 ∧ Wd.heap[w.heap.size + 1]? = some (.cells zs 76 (0, 0))) := by
          obtain ⟨zs, h1, h2⟩ := HZ.out
          refine ⟨zs, h1, ?_⟩
          rw [← hW, setRow_far (by omega), HB1.out.block _ (World_lt h2)]
          exact h2
        replace HLT : Hid (w.heap.size < Wd.heap.size) := World_lt HB.out
        clear hW HB1
        go_wp2_with fail
        go_roundw
        case rel => exact ⟨j + 1, by omega, by go_num, by rw [HB.out, HR4b.out, H4b.out, HNX.out], HZ.out, HBL.out⟩
        case measure => simp [intOf]; omega
      · rw [if_neg h9] at HNX
        have h9' : ¬ (j : Int) < 9 := by omega
        go_upto_region 9 with (first
          | (refine wpList_load_row rfl 76 _ rfl w.heap.size rfl 76 _ (0, 0) _ HB.out Try.underlying76 rfl HK2.out.1 ?_)
          | (go_at_call 41; refine (HA2.out _ HBL.out).mono ?_; rintro e w1 ⟨rfl, hb1⟩; have HB1 := Lib.hid hb1; clear hb1)
          | (refine wpList_store_row rfl 76 _ _ rfl w.heap.size _ rfl rfl 76 _ ((HB1.out.block _ HLT.out).trans HB.out) HK4a.out.1 (HK2.out.2.1.trans HK4a.out.2.1.symm) HK4a.out.2.2 ?_))
        generalize hW : World.setRow w1 _ _ = Wd
        replace HBL : Hid (Below w.heap.size w Wd) := by
          show Below _ _ _
          rw [← hW]
          exact below_setRow (HBL.out.trans (HB1.out.mono HBL.out.size)) (Nat.le_refl _) _
        replace HB : Hid (Wd.heap[w.heap.size]? = some (.cells r4a 76 (0, 0))) := by
          show _ = _
          rw [← hW]
          exact setRow_same ((HB1.out.block _ HLT.out).trans HB.out)
        replace HZ : Hid (∃ zs : Array Value, zs.size = 16 ∧ Wd.heap[w.heap.size + 1]? = some (.cells zs 76 (0, 0))) := by
          obtain ⟨zs, h1, h2⟩ := HZ.out
          refine ⟨zs, h1, ?_⟩
          rw [← hW, setRow_far (by omega), HB1.out.block _ (World_lt h2)]
          exact h2
        replace HLT : Hid (w.heap.size < Wd.heap.size) := World_lt HB.out
        clear hW HB1
        go_wp2_with fail
        go_roundw
        case rel => exact ⟨j + 1, by omega, by go_num, by rw [HB.out, HR4a.out, H4a.out, HNX.out], HZ.out, HBL.out⟩
        case measure => simp [intOf]; omega
    · have hk : j = 10 := by omega
      subst hk
      obtain ⟨zs, hzs, hz⟩ := hz
      have HK := Lib.hid (rowOk _ hlen)
      obtain ⟨rs, hrs⟩ : ∃ rs, rs = bytesRow (forthTo ws t s 10) := ⟨_, rfl⟩
      rw [← hrs] at hb0 HK
      have HR := Lib.hid hrs
      have HB := Lib.hid hb0
      have HZ := Lib.hid hz
      have HZS := Lib.hid hzs
      clear hb0 hz hzs hrs hlen
      go_wp2_with (first
        | (refine wpList_load_row rfl 76 _ rfl w.heap.size rfl 76 _ (0, 0) _ HB.out Try.underlying76 rfl HK.out.1 ?_)
        | (refine wpList_store_row rfl 76 _ _ rfl (w.heap.size + 1) _ rfl rfl 76 _ HZ.out HK.out.1 (HZS.out.trans HK.out.2.1.symm) HK.out.2.2 ?_))
      refine bodyPost_ret (v := .agg rs)
        (results_cell_row Try.results35 _ _ (w.heap.size + 1) 76 _ (0, 0) _ rfl (setRow_same HZ.out) Try.underlying76 rfl HK.out.1) rfl ⟨by rw [HR.out, HFin.out], below_setRow hbel (by omega) _⟩
end Go.Proofs.Ytjlepjnfacmieaa.AFo
