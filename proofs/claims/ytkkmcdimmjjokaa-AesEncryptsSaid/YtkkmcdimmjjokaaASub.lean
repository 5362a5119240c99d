/- What aes.Sub and Back answer: the walks of their texts. -/
import Derived.Test.YtkkmcdimmjjokaaATab
namespace Go.Proofs.Ytkkmcdimmjjokaa.ASub
open Go.RowKit
open AesM ADbl ATab
theorem und256 : Try.prog.underlying 42 = some (.array 256 5) := by kernel_rfl
/-- A byte of a table by value. -/
theorem index256 (cs : Array Value) (b : Nat) (v : Value) (hb : b < 256) (h : cs[b]? = some v) (W : World) : (Instr.index 42 (.agg cs) (.int .u8 b)).run Try.prog W = .ok v W := by
  simp [Instr.index, asIntOf, Sem.run_bind, run_underlying und256, hb, part, h]
theorem row_cell (t : List UInt8) (h : t.length = 256) (b : UInt8) : (bytesRow t)[b.toNat]? = some (.int .u8 (t.getD b.toNat 0).toNat) := byte_at t _ (by rw [h]; exact b.toNat_lt)
theorem Sub (b : UInt8) (w : World) : Calls Try.prog 10 #[.int .u8 b.toNat] w fun e w' => e = .returned (.int .u8 (boxL.getD b.toNat 0).toNat) ∧ Below w.heap.size w w' := by
  have hi := fun W => index256 (bytesRow boxL) b.toNat _ b.toNat_lt (row_cell boxL boxL_len b) W
  have HS := Lib.hid standIns
  generalize boxL.getD b.toNat 0 = x at *
  generalize bytesRow boxL = rs at *
  go_enter Try.func10, Try.ntmps10
  go_wp2_with (go_at_call 24; refine (HS.out _).mono ?_; rintro e w1 ⟨rfl, hb1⟩; have HB1 := Lib.hid hb1; clear hb1)
  go_ret
  exact ⟨rfl, HB1.out⟩
theorem tab_of {W : World} {g : Nat} {t : List UInt8} {ty : TypeId} {f : Nat × Nat} (ht : t.length = 256) (h : W.heap[g]? = some (.cells (bytesRow t) ty f)) : TabAt W g 0 t := fun i hi => by
  rw [Nat.zero_add]; exact blk_cell h (byte_at t i (by omega))
theorem Back (b : UInt8) (w : World) : Calls Try.prog 13 #[.int .u8 b.toNat] w fun e w' => e = .returned (.int .u8 (invL.getD b.toNat 0).toNat) ∧ Below w.heap.size w w' := by
  obtain ⟨zs, hzs, hsz, hne, hzv⟩ := zero256
  clear hzs
  have hi := fun W => index256 (bytesRow invL) b.toNat _ b.toNat_lt (row_cell invL (aboutTo_len boxL 256) b) W
  have HA := Lib.hid (fun (g : Nat) (W : World) (h : TabAt W g 0 boxL) => about g 0 boxL W h)
  rw [show aboutTo boxL 256 = invL from rfl] at HA
  generalize invL.getD b.toNat 0 = x at *
  generalize bytesRow invL = is at *
  have hs := bytes_one boxL
  have HT : Hid (∀ (g : Nat) (W : World), W.heap[g]? = some (.cells (bytesRow boxL) 42 (0, 0)) → TabAt W g 0 boxL) := fun g W h => tab_of boxL_len h
  have hs2 : (bytesRow boxL).size = 256 := by rw [bytesRow_size, boxL_len]
  have HS := Lib.hid standIns
  generalize bytesRow boxL = rs at *
  have HI := Lib.hid (show (Try.prog.info? 42).map (·.size) = some rs.size by rw [hs2]; exact info256)
  have HZ := Lib.hid (show zs.size = rs.size by rw [hs2, hsz])
  have HO := Lib.hid hs
  clear hs hs2
  go_enter Try.func13, Try.ntmps13
  go_upto_region 2 with (first
    | (go_at_call 24; refine (HS.out _).mono ?_; rintro e w1 ⟨rfl, hb1⟩; have HB1 := Lib.hid hb1; clear hb1)
    | (refine wpList_store_row rfl 42 _ _ rfl w1.heap.size _ rfl rfl 42 _ (heap_alloc_new w1 _) HI.out HZ.out HO.out ?_))
  generalize hW : World.setRow (World.alloc w1 _) _ _ = W2
  have HB2 : Hid (Below w.heap.size w W2) := by
    show Below _ _ _
    rw [← hW]
    exact below_setRow (HB1.out.alloc HB1.out.size _) HB1.out.size _
  have HK : Hid (TabAt W2 w1.heap.size 0 boxL) := HT.out _ _ (by rw [← hW]; exact setRow_same (heap_alloc_new w1 _))
  clear hW
  go_wp2_with (go_at_call 28; refine (HA.out _ _ HK.out).mono ?_; rintro e w3 ⟨rfl, hb3⟩; have HB3 := Lib.hid (HB2.out.trans (hb3.mono HB2.out.size)); clear hb3)
  go_ret
  exact ⟨rfl, HB3.out⟩
end Go.Proofs.Ytkkmcdimmjjokaa.ASub
