/- The document's trees of hashes: Root: the walk of its text. No conditions but those that each lemma names. -/
import Derived.Test.YtcadfpaihfaabaaDoorMerH
import Derived.Test.YtcadfpaihfaabaaDoorLRsum
import Derived.Deep.RegionHeld3
namespace Go.Proofs.YtcadfpaihfaabaaDoor.MerI
open Go.RowKit SSum MerQ MerN MerM MerC MerP MerH
theorem cut_h (q off n c k : Nat) (h0 : 0 < c) (hk : k ≤ c) (W : World) : (Instr.slice 26 (.slice (some ⟨q, off, none⟩) n c) none (some (.int .i64 (k : Int))) none).run Tryd.prog W = .ok (.slice (some ⟨q, off, none⟩) k c) W := by
  rw [run_slice_h (ht := by kernel_rfl) (h0 := by omega) (h2 := by omega)]
  simp [go_sem, sliced, show ¬ c = 0 by omega]
theorem cut_l (q off n c k : Nat) (hk : k ≤ n) (hc : k < c) (W : World) : (Instr.slice 26 (.slice (some ⟨q, off, none⟩) n c) (some (.int .i64 (k : Int))) none none).run Tryd.prog W = .ok (.slice (some ⟨q, off + k, none⟩) (n - k) (c - k)) W := by
  rw [run_slice_l (ht := by kernel_rfl) (h0 := by omega) (h1 := by omega)]
  simp [go_sem, sliced, show ¬ c = k by omega, add_off]
theorem add_l (a b c : L) (h : a ++ b = c) (ha : a.length ≤ 1000000) (hb : b.length ≤ 1000000) (W : World) : (Op.stringOp .add ⟨a.toArray⟩ ⟨b.toArray⟩).run Tryd.prog W = .ok (.string ⟨c.toArray⟩) W := by
  have hs : (⟨a.toArray⟩ : ByteArray).size + (⟨b.toArray⟩ : ByteArray).size ≤ 9223372036854775807 := by
    show a.toArray.size + b.toArray.size ≤ _
    simp
    omega
  have he : (⟨a.toArray⟩ ++ ⟨b.toArray⟩ : ByteArray) = ⟨c.toArray⟩ := by
    rw [← h]
    apply ByteArray.ext
    simp
  have := run_string_add_sum (P := Tryd.prog) (w := W) ⟨a.toArray⟩ ⟨b.toArray⟩ hs
  rw [he] at this
  exact this
theorem strs_take {w : World} {B q off n : Nat} {ls : List L} (h : Strs w B (some ⟨q, off, none⟩) n ls) (k : Nat) (hk : k ≤ n) : Strs w B (some ⟨q, off, none⟩) k (ls.take k) :=
  ⟨by rw [List.length_take, h.1]; omega, fun hn => by
    obtain ⟨b, o, e, hb, hc⟩ := h.2 (by omega)
    cases e
    refine ⟨q, off, rfl, hb, fun i hi => ?_⟩
    rw [hc i (by omega), List.getD_eq_getElem?_getD, List.getD_eq_getElem?_getD, List.getElem?_take_of_lt hi]⟩
theorem strs_drop {w : World} {B q off n : Nat} {ls : List L} (h : Strs w B (some ⟨q, off, none⟩) n ls) (k : Nat) (hk : k ≤ n) : Strs w B (some ⟨q, off + k, none⟩) (n - k) (ls.drop k) :=
  ⟨by rw [List.length_drop, h.1], fun hn => by
    obtain ⟨b, o, e, hb, hc⟩ := h.2 (by omega)
    cases e
    refine ⟨q, off + k, rfl, hb, fun i hi => ?_⟩
    rw [show off + k + i = off + (k + i) by omega, hc (k + i) (by omega), List.getD_eq_getElem?_getD, List.getD_eq_getElem?_getD, List.getElem?_drop]⟩
theorem root_length {ls : List L} (h : ∀ x ∈ ls, x.length = 32) : (MerN.root nd (sum []) ls).length = 32 := by
  unfold MerN.root
  have h1 := lvl_all (fun x : L => x.length = 32) nd_length ls.length ls h
  cases hl : lvl nd ls.length ls with
  | nil => exact sum_length _
  | cons x t => rw [hl] at h1; exact h1 x (by simp)
end Go.Proofs.YtcadfpaihfaabaaDoor.MerI
