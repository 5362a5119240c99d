/- What the cipher's back answers: the walk of its text. The condition: the cipher's words and stand-ins lie in memory. -/
import Derived.Test.YtkkmcdimmjjokaaAForth
namespace Go.Proofs.Ytkkmcdimmjjokaa.ABack
open Go.RowKit
open AesM ADbl ATab AFill AOps AMix AForth ASub
set_option maxRecDepth 100000 in
set_option maxHeartbeats 2000000 in
theorem back (g : Nat) (s ws t : List UInt8) (w : World) (hl : s.length = 16) (hw : WordsAt w g ws) (ht : TabAt w g 1 t) :
    Calls Try.prog 32 #[.pointer (some ⟨g, 0, none⟩), .agg (bytesRow s)] w fun e w' => e = .returned (.agg (bytesRow (backL ws (aboutTo t 256) s))) ∧ Below w.heap.size w w' := by
  obtain ⟨zt, hzt, hzs, hzn, hzv⟩ := zero256
  clear hzt
  have HAdd := Lib.hid (fun (r : Nat) (hr : r ≤ 10) (l : List UInt8) (hl : l.length = 16) (W : World) (hb : Below w.heap.size w W) => add g r l ws W hl (hw.below hb hw.lt) hr)
  have HAb := Lib.hid (fun (W : World) (hb : Below w.heap.size w W) => about g 1 t W (ht.below hb ht.lt))
  have hul := aboutTo_len t 256
  generalize aboutTo t 256 = u at *
  have HU : Hid (∀ (q : Nat) (W : World), W.heap[q]? = some (.cells (bytesRow u) 42 (0, 0)) → TabAt W q 0 u) := fun q W h => tab_of hul h
  have hus : (bytesRow u).size = 256 := by rw [bytesRow_size, hul]
  have HUO := Lib.hid (bytes_one u)
  obtain ⟨us, hus0⟩ : ∃ us, us = bytesRow u := ⟨_, rfl⟩
  rw [← hus0] at HAb HU hus HUO
  have HUI := Lib.hid (show (Try.prog.info? 42).map (·.size) = some us.size by rw [hus]; exact info256)
  have HUZ := Lib.hid (show zt.size = us.size by rw [hus, hzs])
  have HTrn := Lib.hid (fun (l : List UInt8) (hl : l.length = 16) (W : World) => turned 3 l W hl (by omega))
  have HMix := Lib.hid (fun (l : List UInt8) (hl : l.length = 16) (W : World) => unmixed l W hl)
  have HSL := Lib.hid hl
  have HFin : Hid (backL ws u s = addL (backTo ws u s 10) ws 0) := rfl
  obtain ⟨r, hr⟩ : ∃ r, r = bytesRow s := ⟨_, rfl⟩
  rw [← hr]
  have HR := Lib.hid hr
  clear hw ht hl hr hul hus hus0
  go_enter Try.func32, Try.ntmps32
  go_upto_region 1 with (fail)
  generalize hW : World.alloc (World.alloc w _) _ = W0
  have HB : Hid (W0.heap[w.heap.size]? = some (.cells r 54 (0, 0))) := by show _ = _; rw [← hW]; exact heap_alloc2_old w _ _
  have HZ : Hid (∃ zs : Array Value, zs.size = 16 ∧ W0.heap[w.heap.size + 1]? = some (.cells zs 54 (0, 0))) := ⟨_, rfl, by rw [← hW]; exact heap_alloc2_new w _ _⟩
  have HBL : Hid (Below w.heap.size w W0) := by show Below _ _ _; rw [← hW]; exact ((Below.refl _ _).alloc (Nat.le_refl _) _).alloc (by simp) _
  have HLT : Hid (w.heap.size + 1 < W0.heap.size) := by show _ < _; rw [← hW]; simp
  clear hW
  go_upto_region 2 with (first
    | (go_at_call 28; refine (HAb.out _ HBL.out).mono ?_; rintro e w1 ⟨rfl, hb1⟩; have HB1 := Lib.hid hb1; clear hb1)
    | (refine wpList_store_row rfl 42 _ _ rfl w1.heap.size _ rfl rfl 42 _ (heap_alloc_new w1 _) HUI.out HUZ.out HUO.out ?_))
  generalize hW : World.setRow (World.alloc w1 _) _ _ = W2
  have h01 : w.heap.size + 1 < w1.heap.size := Nat.lt_of_lt_of_le HLT.out HB1.out.size
  replace HBL : Hid (Below w.heap.size w W2) := by
    show Below _ _ _
    rw [← hW]
    exact below_setRow ((HBL.out.trans (HB1.out.mono HBL.out.size)).alloc (by omega) _) (by omega) _
  replace HB : Hid (W2.heap[w.heap.size]? = some (.cells r 54 (0, 0))) := by
    show _ = _
    rw [← hW, setRow_far (by omega), Below.heap_alloc _ _ _ (by omega), HB1.out.block _ (World_lt HB.out)]
    exact HB.out
  replace HZ : Hid (∃ zs : Array Value, zs.size = 16 ∧ W2.heap[w.heap.size + 1]? = some (.cells zs 54 (0, 0))) := by
    obtain ⟨zs, h1, h2⟩ := HZ.out
    refine ⟨zs, h1, ?_⟩
    rw [← hW, setRow_far (by omega), Below.heap_alloc _ _ _ (by omega), HB1.out.block _ (World_lt h2)]
    exact h2
  have HTB : Hid (W2.heap[w1.heap.size]? = some (.cells us 42 (0, 0))) := by
    show _ = _
    rw [← hW]
    exact setRow_same (heap_alloc_new w1 _)
  have HG : Hid (w.heap.size + 1 < w1.heap.size) := h01
  generalize w1.heap.size = g1 at *
  clear hW HB1 h01 HLT hzn hzv hzs HUI HUZ HUO HAb
  go_wp2_with fail
  go_loopw [11] (fun i wr => ∃ j : Nat, j ≤ 10 ∧ i = .int .i64 j ∧ wr.heap[w.heap.size]? = some (.cells (bytesRow (backTo ws u s j)) 54 (0, 0)) ∧ (∃ zs : Array Value, zs.size = 16 ∧ wr.heap[w.heap.size + 1]? = some (.cells zs 54 (0, 0))) ∧ wr.heap[g1]? = some (.cells us 42 (0, 0)) ∧ Below w.heap.size w wr) (fun i _ => 10 - (intOf i).toNat)
  case atStart => exact ⟨0, Nat.zero_le _, rfl, by rw [HB.out, HR.out]; rfl, HZ.out, HTB.out, HBL.out⟩
  case round =>
    clear HB HZ HBL HTB
    obtain ⟨j, hj, rfl, hb0, hz, htb, hbel⟩ := hrel
    have hlen := backTo_length ws u s j HSL.out
    by_cases hlt : j < 10
    · have HNX : Hid (backTo ws u s (j + 1) = subL u (turnL 3 (if 0 < j then mix3 (addL (backTo ws u s j) ws (10 - j)) else addL (backTo ws u s j) ws (10 - j)))) := rfl
      generalize backTo ws u s j = l0 at *
      have HA := Lib.hid (fun W hb => HAdd.out (10 - j) (by omega) l0 hlen W hb)
      have e1 : ((10 - j : Nat) : Int) = 10 - (j : Int) := by omega
      rw [e1] at HA
      have HK0 := Lib.hid (rowOk l0 hlen)
      have HK1 := Lib.hid (rowOk (addL l0 ws (10 - j)) (addL_length _ _ _))
      have hl1 := addL_length l0 ws (10 - j)
      generalize addL l0 ws (10 - j) = l1 at *
      have HM := Lib.hid (fun W => HMix.out l1 hl1 W)
      have hl2 := mix3_length l1 hl1
      have HK2 := Lib.hid (rowOk (mix3 l1) hl2)
      have HSub := Lib.hid (fun (q : Nat) (l : List UInt8) (hl : l.length = 16) (W : World) (h : TabAt W q 0 u) => swapped q 0 l u W hl h)
      have HT1 := Lib.hid (fun W => HTrn.out l1 hl1 W)
      have HT2 := Lib.hid (fun W => HTrn.out (mix3 l1) hl2 W)
      have HS1 := Lib.hid (fun W h => HSub.out g1 (turnL 3 l1) (turnL_length _ _) W h)
      have HS2 := Lib.hid (fun W h => HSub.out g1 (turnL 3 (mix3 l1)) (turnL_length _ _) W h)
      have HK3 := Lib.hid (rowOk (subL u (turnL 3 l1)) (subL_length _ _))
      have HK4 := Lib.hid (rowOk (subL u (turnL 3 (mix3 l1))) (subL_length _ _))
      obtain ⟨r3, hr3⟩ : ∃ r, r = bytesRow (subL u (turnL 3 l1)) := ⟨_, rfl⟩
      obtain ⟨r4, hr4⟩ : ∃ r, r = bytesRow (subL u (turnL 3 (mix3 l1))) := ⟨_, rfl⟩
      rw [← hr3] at HS1 HK3
      rw [← hr4] at HS2 HK4
      have HR3 := Lib.hid hr3
      have HR4 := Lib.hid hr4
      clear hl1 hl2 hlen e1 hr3 hr4
      generalize bytesRow (turnL 3 (mix3 l1)) = q2 at *
      generalize bytesRow (turnL 3 l1) = q1 at *
      generalize bytesRow (mix3 l1) = r2 at *
      generalize bytesRow l0 = r0 at *
      generalize bytesRow l1 = r1 at *
      have HB := Lib.hid hb0
      have HZ := Lib.hid hz
      have HBL := Lib.hid hbel
      have HTB := Lib.hid htb
      have HLT : Hid (w.heap.size < wr.heap.size) := World_lt hb0
      clear hb0 hz hbel htb
      go_upto_region 6 with (first
        | (refine wpList_load_row rfl 54 _ rfl w.heap.size rfl 54 _ (0, 0) _ HB.out Try.underlying54 rfl HK0.out.1 ?_)
        | (go_at_call 35; refine (HA.out _ HBL.out).mono ?_; rintro e w1 ⟨rfl, hb1⟩; have HB1 := Lib.hid hb1; clear hb1)
        | (refine wpList_store_row rfl 54 _ _ rfl w.heap.size _ rfl rfl 54 _ ((HB1.out.block _ HLT.out).trans HB.out) HK1.out.1 (HK0.out.2.1.trans HK1.out.2.1.symm) HK1.out.2.2 ?_))
      generalize hW : World.setRow w1 _ _ = Wa
      replace HBL : Hid (Below w.heap.size w Wa) := by
        show Below _ _ _
        rw [← hW]
        exact below_setRow (HBL.out.trans (HB1.out.mono HBL.out.size)) (Nat.le_refl _) _
      replace HB : Hid (Wa.heap[w.heap.size]? = some (.cells r1 54 (0, 0))) := by
        show _ = _
        rw [← hW]
        exact setRow_same ((HB1.out.block _ HLT.out).trans HB.out)
      replace HZ : Hid (∃ zs : Array Value, zs.size = 16 ∧ Wa.heap[w.heap.size + 1]? = some (.cells zs 54 (0, 0))) := by
        obtain ⟨zs, h1, h2⟩ := HZ.out
        refine ⟨zs, h1, ?_⟩
        rw [← hW, setRow_far (by omega), HB1.out.block _ (World_lt h2)]
        exact h2
      replace HLT : Hid (w.heap.size < Wa.heap.size) := World_lt HB.out
      replace HTB : Hid (Wa.heap[g1]? = some (.cells us 42 (0, 0))) := by
        show _ = _
        rw [← hW, setRow_far (by have := HG.out; omega), HB1.out.block _ (World_lt HTB.out)]
        exact HTB.out
      clear hW HB1
      by_cases h0 : 0 < j
      · rw [if_pos h0] at HNX
        have h0' : (0 : Int) < (j : Int) := by omega
        go_upto_region 8 with (first
          | (refine wpList_load_row rfl 54 _ rfl w.heap.size rfl 54 _ (0, 0) _ HB.out Try.underlying54 rfl HK1.out.1 ?_)
          | (go_at_call 39; refine (HM.out _).mono ?_; rintro e w1 ⟨rfl, hb1⟩; have HB1 := Lib.hid hb1; clear hb1)
          | (refine wpList_store_row rfl 54 _ _ rfl w.heap.size _ rfl rfl 54 _ ((HB1.out.block _ HLT.out).trans HB.out) HK2.out.1 (HK1.out.2.1.trans HK2.out.2.1.symm) HK2.out.2.2 ?_))
        generalize hW : World.setRow w1 _ _ = Wb
        replace HBL : Hid (Below w.heap.size w Wb) := by
          show Below _ _ _
          rw [← hW]
          exact below_setRow (HBL.out.trans (HB1.out.mono HBL.out.size)) (Nat.le_refl _) _
        replace HB : Hid (Wb.heap[w.heap.size]? = some (.cells r2 54 (0, 0))) := by
          show _ = _
          rw [← hW]
          exact setRow_same ((HB1.out.block _ HLT.out).trans HB.out)
        replace HZ : Hid (∃ zs : Array Value, zs.size = 16 ∧ Wb.heap[w.heap.size + 1]? = some (.cells zs 54 (0, 0))) := by
          obtain ⟨zs, h1, h2⟩ := HZ.out
          refine ⟨zs, h1, ?_⟩
          rw [← hW, setRow_far (by omega), HB1.out.block _ (World_lt h2)]
          exact h2
        replace HLT : Hid (w.heap.size < Wb.heap.size) := World_lt HB.out
        replace HTB : Hid (Wb.heap[g1]? = some (.cells us 42 (0, 0))) := by
          show _ = _
          rw [← hW, setRow_far (by have := HG.out; omega), HB1.out.block _ (World_lt HTB.out)]
          exact HTB.out
        clear hW HB1
        go_upto_region 9 with (first
          | (refine wpList_load_row rfl 54 _ rfl w.heap.size rfl 54 _ (0, 0) _ HB.out Try.underlying54 rfl HK2.out.1 ?_)
          | (go_at_call 37; refine (HT2.out _).mono ?_; rintro e w0 ⟨rfl, hb0⟩; have HB0 := Lib.hid hb0; clear hb0)
          | (go_at_call 36; refine (HS2.out _ (HU.out g1 _ ((HB0.out.block _ (World_lt HTB.out)).trans HTB.out))).mono ?_; rintro e w1 ⟨rfl, hb1⟩; have HB1 := Lib.hid (HB0.out.trans (hb1.mono HB0.out.size)); clear hb1)
          | (refine wpList_store_row rfl 54 _ _ rfl w.heap.size _ rfl rfl 54 _ ((HB1.out.block _ HLT.out).trans HB.out) HK4.out.1 (HK2.out.2.1.trans HK4.out.2.1.symm) HK4.out.2.2 ?_))
        generalize hW : World.setRow w1 _ _ = Wc
        replace HBL : Hid (Below w.heap.size w Wc) := by
          show Below _ _ _
          rw [← hW]
          exact below_setRow (HBL.out.trans (HB1.out.mono HBL.out.size)) (Nat.le_refl _) _
        replace HB : Hid (Wc.heap[w.heap.size]? = some (.cells r4 54 (0, 0))) := by
          show _ = _
          rw [← hW]
          exact setRow_same ((HB1.out.block _ HLT.out).trans HB.out)
        replace HZ : Hid (∃ zs : Array Value, zs.size = 16 ∧ Wc.heap[w.heap.size + 1]? = some (.cells zs 54 (0, 0))) := by
          obtain ⟨zs, h1, h2⟩ := HZ.out
          refine ⟨zs, h1, ?_⟩
          rw [← hW, setRow_far (by omega), HB1.out.block _ (World_lt h2)]
          exact h2
        replace HLT : Hid (w.heap.size < Wc.heap.size) := World_lt HB.out
        replace HTB : Hid (Wc.heap[g1]? = some (.cells us 42 (0, 0))) := by
          show _ = _
          rw [← hW, setRow_far (by have := HG.out; omega), HB1.out.block _ (World_lt HTB.out)]
          exact HTB.out
        clear hW HB1 HB0
        go_wp2_with fail
        go_roundw
        case rel => exact ⟨j + 1, by omega, by go_num, by rw [HB.out, HR4.out, HNX.out], HZ.out, HTB.out, HBL.out⟩
        case measure => simp [intOf]; omega
      · rw [if_neg h0] at HNX
        have h0' : ¬ (0 : Int) < (j : Int) := by omega
        go_upto_region 9 with (first
          | (refine wpList_load_row rfl 54 _ rfl w.heap.size rfl 54 _ (0, 0) _ HB.out Try.underlying54 rfl HK1.out.1 ?_)
          | (go_at_call 37; refine (HT1.out _).mono ?_; rintro e w0 ⟨rfl, hb0⟩; have HB0 := Lib.hid hb0; clear hb0)
          | (go_at_call 36; refine (HS1.out _ (HU.out g1 _ ((HB0.out.block _ (World_lt HTB.out)).trans HTB.out))).mono ?_; rintro e w1 ⟨rfl, hb1⟩; have HB1 := Lib.hid (HB0.out.trans (hb1.mono HB0.out.size)); clear hb1)
          | (refine wpList_store_row rfl 54 _ _ rfl w.heap.size _ rfl rfl 54 _ ((HB1.out.block _ HLT.out).trans HB.out) HK3.out.1 (HK1.out.2.1.trans HK3.out.2.1.symm) HK3.out.2.2 ?_))
        generalize hW : World.setRow w1 _ _ = Wc
        replace HBL : Hid (Below w.heap.size w Wc) := by
          show Below _ _ _
          rw [← hW]
          exact below_setRow (HBL.out.trans (HB1.out.mono HBL.out.size)) (Nat.le_refl _) _
        replace HB : Hid (Wc.heap[w.heap.size]? = some (.cells r3 54 (0, 0))) := by
          show _ = _
          rw [← hW]
          exact setRow_same ((HB1.out.block _ HLT.out).trans HB.out)
        replace HZ : Hid (∃ zs : Array Value, zs.size = 16 ∧ Wc.heap[w.heap.size + 1]? = some (.cells zs 54 (0, 0))) := by
          obtain ⟨zs, h1, h2⟩ := HZ.out
          refine ⟨zs, h1, ?_⟩
          rw [← hW, setRow_far (by omega), HB1.out.block _ (World_lt h2)]
          exact h2
        replace HLT : Hid (w.heap.size < Wc.heap.size) := World_lt HB.out
        replace HTB : Hid (Wc.heap[g1]? = some (.cells us 42 (0, 0))) := by
          show _ = _
          rw [← hW, setRow_far (by have := HG.out; omega), HB1.out.block _ (World_lt HTB.out)]
          exact HTB.out
        clear hW HB1 HB0
        go_wp2_with fail
        go_roundw
        case rel => exact ⟨j + 1, by omega, by go_num, by rw [HB.out, HR3.out, HNX.out], HZ.out, HTB.out, HBL.out⟩
        case measure => simp [intOf]; omega
    · have hk : j = 10 := by omega
      subst hk
      obtain ⟨zs, hzs, hz⟩ := hz
      have HK := Lib.hid (rowOk _ hlen)
      have HA := Lib.hid (fun (W : World) (hb : Below w.heap.size w W) => (show Calls Try.prog 35 #[.pointer (some ⟨g, 0, none⟩), .agg (bytesRow (backTo ws u s 10)), .int .i64 0] W _ from HAdd.out 0 (by omega) _ hlen W hb))
      have HK2 := Lib.hid (rowOk (addL (backTo ws u s 10) ws 0) (addL_length _ _ _))
      rw [← HFin.out] at HA HK2
      obtain ⟨rs, hrs⟩ : ∃ rs, rs = bytesRow (backL ws u s) := ⟨_, rfl⟩
      rw [← hrs] at HA HK2
      have HRS := Lib.hid hrs
      generalize bytesRow (backTo ws u s 10) = r0 at *
      have HB := Lib.hid hb0
      have HZ := Lib.hid hz
      have HZS := Lib.hid hzs
      have HBL := Lib.hid hbel
      clear hb0 hz hzs hrs hlen htb hbel
      go_wp2_with (first
        | (refine wpList_load_row rfl 54 _ rfl w.heap.size rfl 54 _ (0, 0) _ HB.out Try.underlying54 rfl HK.out.1 ?_)
        | (go_at_call 35; refine (HA.out _ HBL.out).mono ?_; rintro e w2 ⟨rfl, hb2⟩; have HB2 := Lib.hid hb2; clear hb2)
        | (refine wpList_store_row rfl 54 _ _ rfl (w.heap.size + 1) _ rfl rfl 54 _ ((HB2.out.block _ (World_lt HZ.out)).trans HZ.out) HK2.out.1 (HZS.out.trans HK2.out.2.1.symm) HK2.out.2.2 ?_))
      refine bodyPost_ret (v := .agg rs)
        (results_cell_row Try.results32 _ _ (w.heap.size + 1) 54 _ (0, 0) _ rfl (setRow_same ((HB2.out.block _ (World_lt HZ.out)).trans HZ.out)) Try.underlying54 rfl HK2.out.1) rfl ⟨by rw [HRS.out], below_setRow (HBL.out.trans (HB2.out.mono HBL.out.size)) (by omega) _⟩
end Go.Proofs.Ytkkmcdimmjjokaa.ABack
