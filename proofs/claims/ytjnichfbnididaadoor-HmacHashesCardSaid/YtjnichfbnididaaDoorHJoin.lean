/- What keepsakeref02.Join answers: the walk of its text. -/
import Derived.Test.YtjnichfbnididaaDoorSStrs
namespace Go.Proofs.YtjnichfbnididaaDoor.HJoin
open Go.RowKit SSum
theorem any (a : Option Addr) (n c : Nat) (ls : List (List UInt8)) (w : World) (h : Strs w w.heap.size a n ls) (hn : n ≤ 1000000) (hf : ls.flatten.length ≤ 1000000) :
    Calls Tryd.prog 17 #[.slice a n c] w fun e w' => e = .returned (.string ⟨ls.flatten.toArray⟩) ∧ w = w' := by
  have HH := Lib.hid h
  clear h
  go_enter Tryd.func17, Tryd.ntmps17
  go_wp2
  go_loop [3, 4] (fun s i => ∃ j : Nat, j ≤ n ∧ i = .int .i64 j ∧ s = .string ⟨(ls.take j).flatten.toArray⟩) (fun _ i => n - (intOf i).toNat)
  case atStart => exact ⟨0, Nat.zero_le _, rfl, rfl⟩
  case round =>
    obtain ⟨j, hj, rfl, rfl⟩ := hrel
    by_cases hlt : j < n
    · obtain ⟨q, off, rfl, hq, hc⟩ := HH.out.2 (by omega)
      have hcj := hc j hlt
      have hN := flat_next ls j (by rw [HH.out.1]; exact hlt)
      have hl1 := flat_le ls (j + 1)
      rw [hN, List.length_append] at hl1
      have HE : Hid ((⟨(ls.take j).flatten.toArray⟩ ++ ⟨(ls.getD j []).toArray⟩ : ByteArray) = ⟨(ls.take (j + 1)).flatten.toArray⟩) := by
        show _ = _
        rw [hN, ByteArray.mk_append_mk]
      have hcn : (j : Int) < (n : Int) := by omega
      clear hc hN
      generalize ls.getD j [] = x at *
      generalize (ls.take j).flatten = y at *
      go_wp2
      go_round
      case rel => exact ⟨j + 1, by omega, by go_num, by rw [HE.out]⟩
      case measure => simp [intOf]; omega
    · have hk : j = n := by omega
      subst hk
      have ht : ls.take j = ls := List.take_of_length_le (by rw [HH.out.1]; exact Nat.le_refl _)
      rw [ht]
      clear ht
      go_wp2
      go_ret
      exact ⟨rfl, rfl⟩
end Go.Proofs.YtjnichfbnididaaDoor.HJoin
