/- What the document's answer for layer 2 says of its first state: the walk of keepsakeref02.Roots. -/
import Derived.Test.YtkaeeedjkegdlaaDoorRBeh
namespace Go.Proofs.YtkaeeedjkegdlaaDoor.RRoo
open Go.RowKit
open RootN RPri RTim RBeh
def sq : List Nat := [st0.a, st0.b, st0.c, st0.d, st0.e, st0.f, st0.g, st0.h]
theorem iSt_sq : RRot.iSt st0 = RRot.iRow sq := rfl
set_option maxRecDepth 100000 in
theorem Roots (w : World) : Calls Tryd.prog 21 #[] w fun e w' => e = .returned (.bool true) ∧ Below w.heap.size w w' := by
  go_enter Tryd.func21, Tryd.ntmps21
  have HIk := Lib.hid (show (Tryd.prog.info? 34).map (·.size) = some (RRot.iRow sq).size by rw [RRot.iRow_size]; exact RRot.info34)
  have HOk := Lib.hid (RRot.iRow_one sq)
  have HZk := Lib.hid (show (RRot.iRow sq).size = 8 from rfl)
  have hg := fun W => RRot.Begin W
  rw [iSt_sq] at hg
  have HG := Lib.hid hg
  clear hg
  go_upto_region 2 with (first
    | (go_at_call 17; refine (HG.out _).mono ?_; rintro e w1 ⟨rfl, hb1⟩; have HB1 := Lib.hid hb1; clear hb1)
    | (refine wpList_store_row rfl 34 _ _ rfl w1.heap.size _ rfl rfl 34 _ (heap_alloc_new w1 _) HIk.out (by rw [HZk.out]; rfl) HOk.out ?_))
  generalize hW : World.setRow _ _ (RRot.iRow sq) = W
  have KK : Hid (W.heap[w1.heap.size]? = some (.cells (RRot.iRow sq) 34 (0, 0))) := by
    show _ = _
    rw [← hW]
    exact setRow_same (heap_alloc_new w1 _)
  have KB : Hid (Below w.heap.size w W) := by
    rw [← hW]
    have hs := HB1.out.size
    exact below_setRow (HB1.out.alloc hs _) hs _
  have hgw := HB1.out.size
  clear hW HB1
  generalize w1.heap.size = g at *
  go_wp2_with fail
  go_loopw [2] (fun i wr => ∃ j : Nat, j ≤ 8 ∧ i = .int .i64 j ∧ wr.heap[g]? = some (.cells (RRot.iRow sq) 34 (0, 0)) ∧ g < wr.heap.size ∧ Below w.heap.size w wr) (fun i _ => 8 - (intOf i).toNat)
  case atStart => exact ⟨0, Nat.zero_le _, rfl, KK.out, (Array.getElem?_eq_some_iff.1 KK.out).1, KB.out⟩
  case round =>
    obtain ⟨j, hj, rfl, hbk, hgl, hbel⟩ := hrel
    have HBK := Lib.hid hbk
    have HBE := Lib.hid hbel
    clear hbk hbel
    by_cases hlt : j < 8
    · have hp := fun W => prime j W (by omega)
      have h311 := (ps_good j (by omega)).2.2.1
      have hb := fun W => behind (ps.getD (j + 1) 0) 2 W (by omega) (by omega)
      rw [show RootN.behind (ps.getD (j + 1) 0) 2 = sq.getD j 0 from square j hlt] at hb
      have HP := Lib.hid hp
      have HBh := Lib.hid hb
      have hcell := blk_cell HBK.out (RRot.iRow_at sq j (by show j < 8; exact hlt))
      clear hp hb
      generalize sq.getD j 0 = x at *
      generalize ps.getD (j + 1) 0 = y at *
      go_wp2_with fail
      go_region_held3 (fun w' => w'.cell? ⟨g, j, none⟩ = some (.int .i64 x))
        (first | exact hcell | exact hS1)
        (first
          | (go_at_call 40; refine (HP.out _).mono ?_; rintro e w' ⟨rfl, rfl⟩)
          | (go_at_call 39; refine (HBh.out _).mono ?_; rintro e w2 ⟨rfl, hb1⟩; have hS1 := kept1 hb1 hcell))
      rename_i hHeld
      have hb0 : Below wr.heap.size wr w2 := ⟨hb1.os, hb1.tape, hb1.output, hb1.size, hb1.block⟩
      have HB := Lib.hid (HBE.out.trans (hb0.mono HBE.out.size))
      have HK2 := Lib.hid ((hb0.block g hgl).trans HBK.out)
      have HG2 := Lib.hid (Nat.lt_of_lt_of_le hgl hb0.size)
      clear hHeld hS1 hb1 hb0 hcell
      have hne : ((x : Int) != (x : Int)) = false := by simp
      go_wp2_with fail
      go_roundw
      case rel => exact ⟨j + 1, by omega, by go_num, HK2.out, HG2.out, HB.out⟩
      case measure => simp [intOf]; omega
    · obtain rfl : j = 8 := by omega
      go_wp2_with fail
      go_ret
      exact ⟨rfl, HBE.out⟩
end Go.Proofs.YtkaeeedjkegdlaaDoor.RRoo
