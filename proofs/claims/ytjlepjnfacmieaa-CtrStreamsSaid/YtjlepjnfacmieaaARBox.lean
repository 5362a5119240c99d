/- What the document's answers for layer 5 say of all stand-ins, and of numbers as bytes: the walks of keepsakeref05.Boxes and Text. -/
import Derived.Test.YtjlepjnfacmieaaARef
import Derived.Test.YtjlepjnfacmieaaSlice
import Derived.Test.YtjlepjnfacmieaaAesS
import Derived.Great.BuildSlice
import Derived.Great.Walk
namespace Go.Proofs.Ytjlepjnfacmieaa.ARBox
open Go.RowKit
open AesM ADbl ARef
/-- A row of bytes, as ints. -/
def ints (l : List UInt8) : List Int := l.map fun b => (b.toNat : Int)
theorem ints_length (l : List UInt8) : (ints l).length = l.length := by simp [ints]
theorem ints_getD (l : List UInt8) (i : Nat) : (ints l).getD i 0 = ((l.getD i 0).toNat : Int) := by
  by_cases h : i < l.length
  · simp [ints, List.getD, h]
  · simp [ints, List.getD, h]
theorem ints_append (l m : List UInt8) : ints (l ++ m) = ints l ++ ints m := by simp [ints]
def iRow (l : List UInt8) : Array Value := ((ints l).map (Value.int .i64)).toArray
theorem iRow_at (l : List UInt8) (i : Nat) (h : i < l.length) : (iRow l)[i]? = some (.int .i64 (l.getD i 0).toNat) := by
  simp [iRow, ints, List.getD, h]
theorem row_of_block {W : World} {g : Nat} {l : List UInt8} {t : TypeId} {f : Nat × Nat} (h : W.heap[g]? = some (.cells (iRow l) t f)) : Row W W.heap.size (some ⟨g, 0, none⟩) l.length (ints l) :=
  ⟨ints_length l, fun _ => ⟨g, 0, rfl, (Array.getElem?_eq_some_iff.1 h).1, fun i hi => by rw [Nat.zero_add, blk_cell h (iRow_at l i hi), ints_getD]⟩⟩
set_option maxRecDepth 100000 in
theorem Boxes (w : World) : Calls Try.prog 28 #[] w fun e w' => e = .returned (.slice (some ⟨w.heap.size, 0, none⟩) 256 256) ∧ w' = w.alloc (.cells (iRow boxL) 3) := by
  go_enter Try.func28, Try.ntmps28
  go_wp2_with (refine Go.Great.wpList_buildSliceTo rfl 39 3 256 _ rfl w.heap.size rfl _ rfl Try.underlying39 (iRow boxL) (by kernel_rfl) ?_)
  go_ret
  exact ⟨rfl, rfl⟩
theorem Text (a : Option Addr) (n c : Nat) (l : List UInt8) (w : World) (h : Row w w.heap.size a n (ints l)) (hn : n ≤ 1000) :
    Calls Try.prog 32 #[.slice a n c] w fun e w' => e = .returned (.string ⟨l.toArray⟩) ∧ Below w.heap.size w w' := by
  have hl : l.length = n := by have := h.1; rwa [ints_length] at this
  have HH := Lib.hid h
  have HL := Lib.hid hl
  clear h hl
  go_enter Try.func32, Try.ntmps32
  go_wp2_with fail
  go_loopw [3, 4] (fun t i wr => ∃ j : Nat, j ≤ n ∧ i = .int .i64 j ∧ t = .string ⟨(l.take j).toArray⟩ ∧ Below w.heap.size w wr) (fun _ i _ => n - (intOf i).toNat)
  case atStart => exact ⟨0, Nat.zero_le _, rfl, rfl, Below.refl _ _⟩
  case round =>
    obtain ⟨j, hj, rfl, rfl, hbel⟩ := hrel
    have HB := Lib.hid hbel
    by_cases hlt : j < n
    · obtain ⟨b, o, rfl, hb, hc⟩ := (HH.out.below hbel).2 (by omega)
      have hv := hc j hlt
      rw [ints_getD] at hv
      have htk : l.take (j + 1) = l.take j ++ [l.getD j 0] := by
        rw [List.take_succ_eq_append_getElem (by rw [HL.out]; exact hlt)]
        simp [List.getD, show j < l.length from by rw [HL.out]; exact hlt]
      have hcv : (convert 42 9 (.slice (some ⟨wr.heap.size, 0, none⟩) 1 1)).run Try.prog (wr.alloc (.cells #[.int .u8 (l.getD j 0).toNat] 5)) = .ok (.string ⟨[l.getD j 0].toArray⟩) (wr.alloc (.cells #[.int .u8 (l.getD j 0).toNat] 5)) :=
        conv_row (m := []) (len := 1) Try.underlying42 Try.underlying5 Try.underlying9 (heap_alloc_new wr _) rfl
      have h8 : ((l.getD j 0).toNat : Int) % 256 = ((l.getD j 0).toNat : Int) := by have := (l.getD j 0).toNat_lt; omega
      have htl : (l.take j).length ≤ 1000 := by rw [List.length_take, HL.out]; omega
      generalize l.getD j 0 = x at *
      have hap : (⟨(l.take j).toArray⟩ ++ ⟨[x].toArray⟩ : ByteArray) = ⟨(l.take (j + 1)).toArray⟩ := by rw [htk, ByteArray.mk_append_mk]
      have HAP := Lib.hid hap
      clear hc hbel htk hap
      go_wp2_with fail
      go_roundw
      case rel => exact ⟨j + 1, by omega, by go_num, by rw [← HAP.out], HB.out.alloc HB.out.size _⟩
      case measure => simp [intOf]; omega
    · have hk : j = n := by omega
      subst hk
      rw [List.take_of_length_le (by rw [HL.out]; exact Nat.le_refl _)]
      clear hbel
      go_wp2_with fail
      go_ret
      exact ⟨rfl, HB.out⟩
end Go.Proofs.Ytjlepjnfacmieaa.ARBox
