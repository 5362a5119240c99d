/- derive's closure, that tells one piece after the other, and 'pieces', that makes it: the walks of their texts. The condition: the rounds' numbers lie in the program's variable. -/
import Derived.Test.YtcndlmkcnhhckaaDoorDrv
import Derived.Test.YtcndlmkcnhhckaaDoorHPart
namespace Go.Proofs.YtcndlmkcnhhckaaDoor.DPie
open Go.RowKit
open STurn SSum
/-- What the closure's four variables hold: the key's block, what is said, the piece ahead, and how many were told. -/
def Holds (S K : Nat) (b s p : List UInt8) (n : Nat) (W : World) : Prop :=
  S < K ∧ W.heap[S]? = some (.cells #[.string ⟨s.toArray⟩] 9 (0, 0)) ∧ W.heap[K]? = some (.cells #[.string ⟨b.toArray⟩] 9 (0, 0)) ∧
  W.heap[K + 1]? = some (.cells #[.string ⟨p.toArray⟩] 9 (0, 0)) ∧ W.heap[K + 2]? = some (.cells #[.int .u8 n] 5 (0, 0))
/-- But for two of them nothing turns. -/
def Kept (K : Nat) (W W' : World) : Prop := Below (K + 1) W W' ∧ ∀ g, K + 3 ≤ g → g < W.heap.size → W'.heap[g]? = W.heap[g]?
theorem Holds.below {S K : Nat} {b s p : List UInt8} {n : Nat} {W W' : World} (h : Holds S K b s p n W) (hb : Below (K + 3) W W') : Holds S K b s p n W' := by
  obtain ⟨h0, h1, h2, h3, h4⟩ := h
  exact ⟨h0, (hb.block _ (by omega)).trans h1, (hb.block _ (by omega)).trans h2, (hb.block _ (by omega)).trans h3, (hb.block _ (by omega)).trans h4⟩
def Post (S K : Nat) (b s p : List UInt8) (n : Nat) (W : World) (e : Ending) (W' : World) : Prop := e = .returned (.string ⟨p.toArray⟩) ∧ Holds S K b s p n W' ∧ Kept K W W'
theorem byte_cell (n : Nat) (h : n ≤ 255) : #[Value.int .u8 (n : Int)] = bytesRow ([UInt8.ofNat n] ++ []) := by
  have := one_byte n
  rw [show (n : Int) % 256 = n from by omega] at this
  exact this
set_option maxRecDepth 100000 in
set_option maxHeartbeats 1000000 in
theorem told (k s : List UInt8) (S K i : Nat) (W : World) (hr : Rds W) (hg : 0 < K) (hh : Holds S K (keyBlock k) s (dpiece k s i) i W) (hi : i ≤ 254) (hs : s.length ≤ 100) :
    Calls Tryd.prog 44 #[.pointer (some ⟨K + 2, 0, none⟩), .pointer (some ⟨K, 0, none⟩), .pointer (some ⟨K + 1, 0, none⟩), .pointer (some ⟨S, 0, none⟩)] W (Post S K (keyBlock k) s (dpiece k s (i + 1)) (i + 1) W) := by
  obtain ⟨hSK, hS, hK, hP, hN⟩ := hh
  have hbl := keyBlock_length k
  have hpl := dpiece_le k s i
  have hql := dpiece_le k s (i + 1)
  have hlt : K + 2 < W.heap.size := (Array.getElem?_eq_some_iff.1 hN).1
  obtain ⟨W1, hW1⟩ : ∃ W1, W1 = W.setCell ⟨K + 2, 0, none⟩ (.int .u8 ((i : Int) + 1)) := ⟨_, rfl⟩
  have hb1 : Below (K + 2) W W1 := by rw [hW1]; exact (Below.refl (K + 2) W).setCell (by simp) _
  have hs1 : W1.heap.size = W.heap.size := by rw [hW1]; simp
  have e1 : ((i + 1 : Nat) : Int) = (i : Int) + 1 := by omega
  have hN1 : W1.heap[K + 2]? = some (.cells #[.int .u8 ((i : Int) + 1)] 5 (0, 0)) := by rw [hW1, blk_set hN]; rfl
  have ho1 : ∀ g, K + 3 ≤ g → W1.heap[g]? = W.heap[g]? := by
    intro g hg
    rw [hW1, Below.heap_setCell _ _ _ _ (by show g ≠ K + 2; omega)]
  have hS1 := (hb1.block S (by omega)).trans hS
  have hK1 := (hb1.block K (by omega)).trans hK
  have hP1 := (hb1.block (K + 1) (by omega)).trans hP
  have hr1 : Rds W1 := hr.below hb1 (by omega)
  -- the byte
  obtain ⟨W2, hW2⟩ : ∃ W2, W2 = W1.alloc (.cells #[.int .u8 ((i : Int) + 1)] 5) := ⟨_, rfl⟩
  have hcv : (convert 47 9 (.slice (some ⟨W1.heap.size, 0, none⟩) 1 1)).run Tryd.prog W2 = .ok (.string ⟨[UInt8.ofNat (i + 1)].toArray⟩) W2 := by
    rw [hW2]
    exact conv_row Tryd.underlying47 Tryd.underlying5 Tryd.underlying9 (by rw [heap_alloc_new, ← e1, byte_cell _ (by omega)]) rfl
  have hb2 : Below W1.heap.size W1 W2 := by rw [hW2]; exact (Below.refl _ _).alloc (Nat.le_refl _) _
  have hs2 : W2.heap.size = W1.heap.size + 1 := by rw [hW2]; simp
  obtain ⟨W3, hW3⟩ : ∃ W3, W3 = W2.alloc (.cells #[.string ⟨(dpiece k s i).toArray⟩, .string ⟨s.toArray⟩, .string ⟨[UInt8.ofNat (i + 1)].toArray⟩] 9) := ⟨_, rfl⟩
  have hb3 : Below W2.heap.size W2 W3 := by rw [hW3]; exact (Below.refl _ _).alloc (Nat.le_refl _) _
  have hs3 : W3.heap.size = W2.heap.size + 1 := by rw [hW3]; simp
  have hb13 : Below W1.heap.size W1 W3 := hb2.trans (hb3.mono (by omega))
  have hst : Strs W3 W3.heap.size (some ⟨W2.heap.size, 0, none⟩) 3 [dpiece k s i, s, [UInt8.ofNat (i + 1)]] :=
    ⟨rfl, fun _ => ⟨_, _, rfl, by omega, fun j hj => by
      rw [hW3]
      match j, hj with
      | 0, _ => exact blk_cell (heap_alloc_new W2 _) rfl
      | 1, _ => exact blk_cell (heap_alloc_new W2 _) rfl
      | 2, _ => exact blk_cell (heap_alloc_new W2 _) rfl⟩⟩
  have hpt := HPart.Parts (keyBlock k) (some ⟨W2.heap.size, 0, none⟩) 3 3 _ W3 hst (fun e => by cases e) (hr1.below hb13 (by omega)) (by omega) (by omega) (by simp; omega)
  rw [mac_key, show ([dpiece k s i, s, [UInt8.ofNat (i + 1)]] : List (List UInt8)).flatten = dpiece k s i ++ (s ++ [UInt8.ofNat (i + 1)]) from by simp, show macOf k (dpiece k s i ++ (s ++ [UInt8.ofNat (i + 1)])) = dpiece k s (i + 1) from rfl, hs2] at hpt
  have HPT := Lib.hid hpt
  have HZ1 : Hid (W1.heap.size = W.heap.size) := Lib.hid hs1
  have HW1 := Lib.hid hW1
  have HW2 := Lib.hid hW2
  have HW3 := Lib.hid hW3
  have HB1 := Lib.hid hb1
  have HB13 := Lib.hid hb13
  have HO1 := Lib.hid ho1
  have HS1 := Lib.hid hs1
  have HK1 := Lib.hid hK1
  have HSS := Lib.hid hS1
  have HP1 := Lib.hid hP1
  have HN1 := Lib.hid hN1
  have hcN := blk_cell (i := 0) hN rfl
  have hfN := blk_free (i := 0) hN
  generalize UInt8.ofNat (i + 1) = d at *
  generalize dpiece k s (i + 1) = q at *
  generalize dpiece k s i = p at *
  generalize keyBlock k = b at *
  have E1 := Lib.hid e1
  clear e1 hpt hW1 hW2 hW3 hb1 hb13 ho1 hs1 hK1 hS1 hP1 hN1 hst hs2 hs3 hb2 hb3 hr1 hS hK hP hN hr
  go_enter Tryd.func44, Tryd.ntmps44
  go_upto_region 2 with fail
  rw [← HW1.out]
  clear hcN hfN HW1
  have c1 := blk_cell (i := 0) HSS.out rfl
  have c2 := blk_cell (i := 0) HK1.out rfl
  have c3 := blk_cell (i := 0) HP1.out rfl
  have c4 := blk_cell (i := 0) HN1.out rfl
  rw [HW2.out] at hcv
  go_wp2_with fail
  rw [← HW2.out, ← HW3.out]
  clear HW2 HW3 hcv
  refine HPT.out.mono ?_
  rintro e w4 ⟨rfl, hb4⟩
  have hb14 := HB13.out.trans (hb4.mono HB13.out.size)
  have hz4 : K + 2 < w4.heap.size := by have := hb14.size; have := HZ1.out; omega
  have hP4 := (hb14.block (K + 1) (by have := HZ1.out; omega)).trans HP1.out
  have hN4 := (hb14.block (K + 2) (by have := HZ1.out; omega)).trans HN1.out
  have hK4 := (hb14.block K (by have := HZ1.out; omega)).trans HK1.out
  have hS4 := (hb14.block S (by have := HZ1.out; omega)).trans HSS.out
  have hc4 := blk_cell (i := 0) hP4 rfl
  have hf4 := blk_free (i := 0) hP4
  have HP4 := Lib.hid hP4
  have HN4 := Lib.hid hN4
  have HK4 := Lib.hid hK4
  have HS4 := Lib.hid hS4
  have HB14 := Lib.hid hb14
  clear hb4 hb14 hP4 hN4 hK4 hS4 c1 c2 c3 c4
  go_wp2_with fail
  go_ret
  refine ⟨rfl, ⟨hSK, ?_, ?_, ?_, ?_⟩, ?_, ?_⟩
  · rw [Below.heap_setCell _ _ _ _ (by show S ≠ K + 1; omega)]; exact HS4.out
  · rw [Below.heap_setCell _ _ _ _ (by show K ≠ K + 1; omega)]; exact HK4.out
  · rw [blk_set HP4.out]; rfl
  · rw [Below.heap_setCell _ _ _ _ (by show K + 2 ≠ K + 1; omega), HN4.out, E1.out]
  · exact ((HB1.out.mono (by omega)).trans (HB14.out.mono (by have := HZ1.out; omega))).setCell (by simp) _
  · intro g hg1 hg2
    rw [Below.heap_setCell _ _ _ _ (by show g ≠ K + 1; omega), HB14.out.block g (by have := HZ1.out; omega), HO1.out g hg1]
def Made (k s : List UInt8) (w : World) (e : Ending) (w' : World) : Prop :=
  ∃ S K, w.heap.size ≤ S ∧ e = .returned (.func (.func 44) #[] #[.pointer (some ⟨K + 2, 0, none⟩), .pointer (some ⟨K, 0, none⟩), .pointer (some ⟨K + 1, 0, none⟩), .pointer (some ⟨S, 0, none⟩)]) ∧
    w'.heap.size = K + 3 ∧ Holds S K (keyBlock k) s (dpiece k s 0) 0 w' ∧ Below w.heap.size w w'
set_option maxRecDepth 100000 in
set_option maxHeartbeats 1000000 in
theorem made (k s : List UInt8) (w : World) (hr : Rds w) (hk : k.length ≤ 576460752303423488) :
    Calls Tryd.prog 31 #[.string ⟨k.toArray⟩, .string ⟨s.toArray⟩] w (Made k s w) := by
  obtain ⟨w1, hw1⟩ : ∃ w1, w1 = w.alloc (.cells #[.string ⟨s.toArray⟩] 9) := ⟨_, rfl⟩
  have hb1 : Below w.heap.size w w1 := by rw [hw1]; exact (Below.refl _ _).alloc (Nat.le_refl _) _
  have hS1 : w1.heap[w.heap.size]? = some (.cells #[.string ⟨s.toArray⟩] 9 (0, 0)) := by rw [hw1]; exact heap_alloc_new w _
  have hs1 : w1.heap.size = w.heap.size + 1 := by rw [hw1]; simp
  have HK := Lib.hid (HKey.Key k w1 (hr.step hb1) hk)
  have HW1 := Lib.hid hw1
  have HB1 := Lib.hid hb1
  have HS1 := Lib.hid hS1
  have HZ1 := Lib.hid hs1
  clear hw1 hb1 hS1 hs1 hr hk
  go_enter Tryd.func31, Tryd.ntmps31
  go_wp2_with fail
  rw [← HW1.out]
  clear HW1
  refine HK.out.mono ?_
  rintro e w2 ⟨rfl, hb2⟩
  have HB2 := Lib.hid hb2
  clear hb2
  go_wp2_with fail
  go_ret
  have hb5 := ((((Below.refl w2.heap.size w2).alloc (Nat.le_refl _) (.cells #[.string ⟨(keyBlock k).toArray⟩] 9)).alloc (by simp) (.cells #[.string ⟨#[]⟩] 9)).alloc (by simp; omega) (.cells #[.int .u8 0] 5))
  have hb15 := HB2.out.trans (hb5.mono HB2.out.size)
  refine ⟨w.heap.size, w2.heap.size, Nat.le_refl _, rfl, by simp, ⟨?_, ?_, ?_, ?_, ?_⟩, HB1.out.trans (hb15.mono HB1.out.size)⟩
  · have := HZ1.out
    have := HB2.out.size
    omega
  · exact (hb15.block _ (by have := HZ1.out; omega)).trans HS1.out
  · exact alloc3_0 w2 _ _ _
  · exact alloc3_1 w2 _ _ _
  · exact alloc3_2 w2 _ _ _
end Go.Proofs.YtcndlmkcnhhckaaDoor.DPie
