/- What the state's unmixed, and the cipher's forth and back, answer: the walks of their texts. The condition: the cipher's words and stand-ins lie in memory. -/
import Derived.Test.YtkkmcdimmjjokaaAMix
import Derived.Test.YtkkmcdimmjjokaaASub
namespace Go.Proofs.Ytkkmcdimmjjokaa.AForth
open Go.RowKit
open AesM ADbl ATab AFill AOps AMix
/-- The cells of a state. -/
def RowOk (r : Array Value) : Prop := (Try.prog.info? 54).map (·.size) = some r.size ∧ r.size = 16 ∧ r.all (·.oneCell') = true
theorem rowOk (l : List UInt8) (h : l.length = 16) : RowOk (bytesRow l) := by
  have hs : (bytesRow l).size = 16 := by rw [bytesRow_size, h]
  exact ⟨by rw [hs]; exact info16, hs, bytes_one l⟩
theorem World_lt {W : World} {g : Nat} {o : Obj} (h : W.heap[g]? = some o) : g < W.heap.size := (Array.getElem?_eq_some_iff.1 h).1
def mixN (s : List UInt8) : Nat → List UInt8
  | 0 => s
  | j + 1 => mixL (mixN s j)
theorem mixN_length (s : List UInt8) (h : s.length = 16) (j : Nat) : (mixN s j).length = 16 := by
  induction j with
  | zero => exact h
  | succ j ih => exact mixL_length _ ih
set_option maxRecDepth 100000 in
theorem unmixed (s : List UInt8) (w : World) (hl : s.length = 16) :
    Calls Try.prog 39 #[.agg (bytesRow s)] w fun e w' => e = .returned (.agg (bytesRow (mix3 s))) ∧ Below w.heap.size w w' := by
  have HL := Lib.hid hl
  clear hl
  go_enter Try.func39, Try.ntmps39
  go_wp2_with fail
  go_loopw [3] (fun i wr => ∃ j : Nat, j ≤ 3 ∧ i = .int .i64 j ∧ wr.heap[w.heap.size]? = some (.cells (bytesRow (mixN s j)) 54 (0, 0)) ∧ (∃ zs : Array Value, zs.size = 16 ∧ wr.heap[w.heap.size + 1]? = some (.cells zs 54 (0, 0))) ∧ Below w.heap.size w wr) (fun i _ => 3 - (intOf i).toNat)
  case atStart => exact ⟨0, Nat.zero_le _, rfl, heap_alloc2_old w _ _, ⟨_, rfl, heap_alloc2_new w _ _⟩, ((Below.refl _ _).alloc (Nat.le_refl _) _).alloc (by simp) _⟩
  case round =>
    obtain ⟨j, hj, rfl, hb0, hz, hbel⟩ := hrel
    obtain ⟨B, hB⟩ : ∃ B, B = w.heap.size := ⟨_, rfl⟩
    have HBW := Lib.hid (show w.heap.size ≤ B by omega)
    rw [← hB] at hb0 hz ⊢
    have HBE := Lib.hid hB
    clear hB
    by_cases hlt : j < 3
    · have HM := Lib.hid (fun W => mixed (mixN s j) W (mixN_length s HL.out j))
      have HK := Lib.hid (rowOk _ (mixN_length s HL.out j))
      have HK2 := Lib.hid (rowOk _ (mixN_length s HL.out (j + 1)))
      rw [show mixL (mixN s j) = mixN s (j + 1) from rfl] at HM
      have HB := Lib.hid hb0
      have HZ := Lib.hid hz
      have HBL := Lib.hid hbel
      have HLT : Hid (B < wr.heap.size) := World_lt hb0
      obtain ⟨r2, hr2⟩ : ∃ r, r = bytesRow (mixN s (j + 1)) := ⟨_, rfl⟩
      rw [← hr2] at HM HK2
      have HR2 := Lib.hid hr2
      generalize bytesRow (mixN s j) = r at *
      clear hb0 hz hbel hr2
      go_upto_region 4 with (first
        | (refine wpList_load_row rfl 54 _ rfl B rfl 54 _ (0, 0) _ HB.out Try.underlying54 rfl HK.out.1 ?_)
        | (go_at_call 38; refine (HM.out _).mono ?_; rintro e w1 ⟨rfl, hb1⟩; have HB1 := Lib.hid hb1; clear hb1)
        | (refine wpList_store_row rfl 54 _ _ rfl B _ rfl rfl 54 _ ((HB1.out.block _ HLT.out).trans HB.out) HK2.out.1 (HK.out.2.1.trans HK2.out.2.1.symm) HK2.out.2.2 ?_))
      generalize hW : World.setRow w1 _ _ = W2
      replace HBL : Hid (Below w.heap.size w W2) := by
        show Below _ _ _
        rw [← hW]
        exact below_setRow (HBL.out.trans (HB1.out.mono HBL.out.size)) HBW.out _
      replace HB : Hid (W2.heap[B]? = some (.cells r2 54 (0, 0))) := by
        show _ = _
        rw [← hW]
        exact setRow_same ((HB1.out.block _ HLT.out).trans HB.out)
      replace HZ : Hid (∃ zs : Array Value, zs.size = 16 ∧ W2.heap[B + 1]? = some (.cells zs 54 (0, 0))) := by
        obtain ⟨zs, h1, h2⟩ := HZ.out
        refine ⟨zs, h1, ?_⟩
        rw [← hW, setRow_far (by omega), HB1.out.block _ (World_lt h2)]
        exact h2
      replace HLT : Hid (B < W2.heap.size) := World_lt HB.out
      clear hW HB1
      go_wp2_with fail
      go_roundw
      case rel => exact ⟨j + 1, by omega, by go_num, by rw [HB.out, HR2.out], HZ.out, by rw [HBE.out]; exact HBL.out⟩
      case measure => simp [intOf]; omega
    · have hk : j = 3 := by omega
      subst hk
      obtain ⟨zs, hzs, hz⟩ := hz
      have HK := Lib.hid (rowOk _ (mix3_length s HL.out))
      rw [show mixN s 3 = mix3 s from rfl] at hb0
      obtain ⟨rs, hrs⟩ : ∃ rs, rs = bytesRow (mix3 s) := ⟨_, rfl⟩
      rw [← hrs] at hb0 HK
      have HR := Lib.hid hrs
      have HB := Lib.hid hb0
      have HZ := Lib.hid hz
      have HZS := Lib.hid hzs
      clear hb0 hz hzs hrs
      go_wp2_with (first
        | (refine wpList_load_row rfl 54 _ rfl B rfl 54 _ (0, 0) _ HB.out Try.underlying54 rfl HK.out.1 ?_)
        | (refine wpList_store_row rfl 54 _ _ rfl (B + 1) _ rfl rfl 54 _ HZ.out HK.out.1 (HZS.out.trans HK.out.2.1.symm) HK.out.2.2 ?_))
      refine bodyPost_ret (v := .agg rs)
        (results_cell_row Try.results39 _ _ (B + 1) 54 _ (0, 0) _ rfl (setRow_same HZ.out) Try.underlying54 rfl HK.out.1) rfl ⟨by rw [HR.out], below_setRow hbel (by have := HBW.out; omega) _⟩
end Go.Proofs.Ytkkmcdimmjjokaa.AForth
