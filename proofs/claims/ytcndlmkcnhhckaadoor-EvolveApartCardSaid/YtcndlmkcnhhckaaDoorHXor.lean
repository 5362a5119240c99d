/- hmac's closure: the key's block, each byte held against one. -/
import Derived.Test.YtcndlmkcnhhckaaDoorHmac
import Derived.Test.YtcndlmkcnhhckaaDoorRows
import Derived.Test.YtcndlmkcnhhckaaDoorMem
namespace Go.Proofs.YtcndlmkcnhhckaaDoor.HXor
open Go.RowKit
theorem info5 : (Tryd.prog.info? 5).map (fun i => (i.zero, i.size, i.bytes)) = some (some (.int .u8 0), 1, 1) := by kernel_rfl
theorem u8_xor (a b : UInt8) : bits .xor .u8 (a.toNat : Int) (b.toNat : Int) = ((a ^^^ b).toNat : Int) := by
  have ha := a.toNat_lt
  have hb := b.toNat_lt
  show IntKind.u8.wrap ((BitVec.ofInt 8 (a.toNat : Int) ^^^ BitVec.ofInt 8 (b.toNat : Int)).toNat : Int) = _
  have e : ∀ c : UInt8, BitVec.ofInt 8 (c.toNat : Int) = c.toBitVec := by
    intro c
    apply BitVec.eq_of_toNat_eq
    have := c.toNat_lt
    simp
  rw [e, e, ← UInt8.toBitVec_xor]
  show IntKind.u8.wrap (((a ^^^ b).toNat : Nat) : Int) = _
  have hc := (a ^^^ b).toNat_lt
  exact IntWalk.u8_in _ (by omega)
/-- What stands behind 'j' rounds. -/
def row (b : List UInt8) (n : UInt8) (j : Nat) : List UInt8 := (heldBy b n).take j ++ List.replicate (64 - j) 0
theorem row_length (b : List UInt8) (n : UInt8) (j : Nat) (hb : b.length = 64) (h : j ≤ 64) : (row b n j).length = 64 := by
  rw [row, List.length_append, List.length_take, heldBy_length, List.length_replicate]; omega
theorem row_next (b : List UInt8) (n : UInt8) (j : Nat) (hb : b.length = 64) (h : j < 64) : (row b n j).set j (b.getD j 0 ^^^ n) = row b n (j + 1) := by
  have hl := heldBy_length b n
  have e : b.getD j 0 ^^^ n = (heldBy b n)[j]'(by omega) := by simp [heldBy, List.getD, show j < b.length from by omega]
  rw [row, row, List.set_append, if_neg (by rw [List.length_take]; omega), show 64 - j = (64 - (j + 1)) + 1 from by omega, List.replicate_succ]
  rw [List.length_take, Nat.min_eq_left (by omega), Nat.sub_self, List.set_cons_zero]
  rw [List.take_succ_eq_append_getElem (by omega), List.append_assoc, e]
  rfl
set_option maxRecDepth 100000 in
theorem turned (b : List UInt8) (n : UInt8) (c : Nat) (w : World) (hb : b.length = 64) (hc : w.cell? ⟨c, 0, none⟩ = some (.string ⟨b.toArray⟩)) :
    Calls Tryd.prog 68 #[.int .u8 n.toNat, .pointer (some ⟨c, 0, none⟩)] w fun e w' => e = .returned (.string ⟨(heldBy b n).toArray⟩) ∧ Below w.heap.size w w' := by
  obtain ⟨i0, hi, hz0, hz1, hz2⟩ := info_parts info5
  have hmk : ∀ W : World, (Instr.makeSlice 47 (.int .i64 64) (.int .i64 64)).run Tryd.prog W = .ok (.slice (some ⟨W.heap.size, 0, none⟩) 64 64) (W.alloc (.cells (bytesRow (List.replicate 64 0)) 5)) := by
    intro W
    have := run_make (P := Tryd.prog) W 47 5 i0 (.int .u8 0) Tryd.underlying47 hi hz0 .i64 .i64 (64 : Nat) (64 : Nat) (by omega) (by omega) (by rw [hz2]; omega) (by omega)
    simp only [hz1, Value.cells, Int.toNat_natCast, Nat.mul_one, made_bytes] at this
    exact this
  clear hi hz0 hz1 hz2
  have hrow : bytesRow (List.replicate 64 0) = bytesRow (row b n 0) := by simp [row]
  rw [hrow] at hmk
  clear hrow
  go_enter Tryd.func68, Tryd.ntmps68
  go_wp2_with fail
  have hcl : c < w.heap.size := World.block_lt_of_cell? w _ hc
  go_loopw [7] (fun i wr => ∃ j : Nat, j ≤ 64 ∧ i = .int .i64 j ∧ wr.heap[w.heap.size]? = some (.cells (bytesRow (row b n j)) 5 (0, 0)) ∧ Below w.heap.size w wr) (fun i _ => 64 - (intOf i).toNat)
  case atStart => exact ⟨0, Nat.zero_le _, rfl, heap_alloc_new w _, (Below.refl _ _).alloc (Nat.le_refl _) _⟩
  case round =>
    obtain ⟨j, hj, rfl, hblk, hbel⟩ := hrel
    clear hmk
    by_cases hlt : j < 64
    · have hcw := (hbel.cell (p := ⟨c, 0, none⟩) hcl).trans hc
      have hfz := blk_free (i := j) hblk
      have hv2 := blk_cell hblk (bytesRow_at _ j (by rw [row_length b n j hb hj]; exact hlt))
      have HN := Lib.hid (row_next b n j hb hlt)
      have HX : Hid (∀ h, bits .xor .u8 (((⟨b.toArray⟩ : ByteArray)[j]'h).toNat : Int) (n.toNat : Int) = ((b.getD j 0 ^^^ n).toNat : Int)) := by
        intro h
        rw [show (⟨b.toArray⟩ : ByteArray)[j]'h = b.getD j 0 from by
          have hj2 : j < b.length := by omega
          simp only [List.getD, List.getElem?_eq_getElem hj2, Option.getD_some]
          rfl]
        exact u8_xor _ n
      have HB := Lib.hid hblk
      have HBe := Lib.hid hbel
      clear hblk hbel
      go_wp2
      go_roundw
      case rel =>
        refine ⟨j + 1, by omega, by go_num, ?_, HBe.out.setCell (Nat.le_refl _) _⟩
        rw [blk_set HB.out, HX.out, bytesRow_set, HN.out]
      case measure => simp [intOf]; omega
    · have hk : j = 64 := by omega
      subst hk
      have hb' : wr.heap[w.heap.size]? = some (.cells (bytesRow (heldBy b n ++ [])) 5 (0, 0)) := by rw [hblk]; rw [row, List.take_of_length_le (by rw [heldBy_length]; omega), Nat.sub_self]; rfl
      have hcv := conv_row (P := Tryd.prog) (src := 47) (dst := 9) (len := 64) (cap := 64) Tryd.underlying47 Tryd.underlying5 Tryd.underlying9 hb' (by rw [heldBy_length]; exact hb)
      clear hblk hb'
      go_wp2
      go_ret
      exact ⟨rfl, hbel⟩
end Go.Proofs.YtcndlmkcnhhckaaDoor.HXor
