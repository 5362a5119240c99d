/- A slice of texts as it came in, and what keepsakeref01.Bytes answers of it: the walk of its text. -/
import Derived.Test.YtcadfpaihfaabaaGreatDoorSFold
import Derived.SliceStrings
namespace Go.Proofs.YtcadfpaihfaabaaGreatDoor
open Go.RowKit SSum
/-- A slice of texts as it came in: nil, or a row of cells (as the row's own reading gives it). -/
def StrsAt (w : World) (a : Option Addr) (len cap : Nat) (ss : List ByteArray) : Prop :=
  (a = none ∧ len = 0 ∧ cap = 0 ∧ ss = []) ∨
  ∃ x, a = some x ∧ len ≤ cap ∧ cap ≤ maxLen ∧ ss.length = cap ∧ (∀ i, i < ss.length → w.cell? (x.add i) = some (.string (ss.getD i ByteArray.empty))) ∧ ∀ s ∈ ss, s.size ≤ maxLen
theorem strs_at {w : World} {a : Option Addr} {len cap : Nat} {ss : List ByteArray} (h : StrsAt w a len cap ss) :
    ∃ ls, Strs w w.heap.size a len ls ∧ (∀ l ∈ ls, l.length ≤ maxLen) ∧ len ≤ maxLen := by
  rcases h with ⟨rfl, rfl, rfl, rfl⟩ | ⟨x, rfl, hl, hm, hz, hc, hw⟩
  · exact ⟨[], ⟨rfl, fun h => absurd h (by omega)⟩, (fun l hl => by simp at hl), Nat.zero_le _⟩
  · refine ⟨(ss.take len).map fun s => s.data.toList, ⟨by simp; omega, fun hn => ?_⟩, fun l hl => ?_, by omega⟩
    · obtain ⟨b, off, spot⟩ := x
      have hspot : spot = none := by simpa [Addr.add] using World.cell?_spot (hc 0 (by omega))
      subst hspot
      refine ⟨b, off, rfl, ?_, fun i hi => ?_⟩
      · have := hc 0 (by omega)
        exact World.block_lt_of_cell? w _ (by simpa [Addr.add] using this)
      · rw [← Go.WideShapes.add_plain, hc i (by omega)]
        have hi2 : i < ss.length := by omega
        simp [List.getD, hi, hi2]
    · obtain ⟨s, hs, rfl⟩ := List.mem_map.1 hl
      have := hw s (List.mem_of_mem_take hs)
      simpa using this
/-- The lengths' sum, none counted above 100,000. -/
def bsum (ls : List (List UInt8)) : Nat := (ls.map fun l => min l.length 100000).sum
theorem bsum_next (ls : List (List UInt8)) (j : Nat) (h : j < ls.length) : bsum (ls.take (j + 1)) = bsum (ls.take j) + min (ls.getD j []).length 100000 := by
  unfold bsum
  rw [List.take_succ_eq_append_getElem h, List.map_append, List.sum_append]
  simp [List.getD, h]
theorem bsum_le (ls : List (List UInt8)) : bsum ls ≤ 100000 * ls.length := by
  unfold bsum
  induction ls with
  | nil => simp
  | cons l ls ih =>
    rw [List.map_cons, List.sum_cons, List.length_cons]
    omega
theorem flat_bsum (ls : List (List UInt8)) (h : bsum ls ≤ 5000) : ls.flatten.length = bsum ls := by
  unfold bsum at *
  induction ls with
  | nil => rfl
  | cons l ls ih =>
    rw [List.map_cons, List.sum_cons] at *
    rw [List.flatten_cons, List.length_append, ih (by omega)]
    omega
theorem bytes_any (a : Option Addr) (n c : Nat) (ls : List (List UInt8)) (w : World) (h : Strs w w.heap.size a n ls) (hn : n ≤ 200) :
    Calls Tryz.prog 18 #[.slice a n c] w fun e w' => e = .returned (.int .i64 (bsum ls)) ∧ w = w' := by
  have HH := Lib.hid h
  clear h
  go_enter Tryz.func18, Tryz.ntmps18
  go_wp2
  go_loop [3, 4] (fun s i => ∃ j : Nat, j ≤ n ∧ i = .int .i64 j ∧ s = .int .i64 (bsum (ls.take j))) (fun _ i => n - (intOf i).toNat)
  case atStart => exact ⟨0, Nat.zero_le _, rfl, rfl⟩
  case round =>
    obtain ⟨j, hj, rfl, rfl⟩ := hrel
    by_cases hlt : j < n
    · obtain ⟨q, off, rfl, hq, hc⟩ := HH.out.2 (by omega)
      have hcj := hc j hlt
      have HN := Lib.hid (bsum_next ls j (by rw [HH.out.1]; exact hlt))
      have hb := bsum_le (ls.take j)
      have hlj : (ls.take j).length ≤ 200 := by rw [List.length_take, HH.out.1]; omega
      have h2000 : (j : Int) < 2000 := by omega
      have hcn : (j : Int) < (n : Int) := by omega
      have hbb : bsum (ls.take j) ≤ 100000 * 200 := by omega
      clear hc hb hlj
      generalize bsum (ls.take j) = m at *
      generalize ls.getD j [] = x at *
      go_wp2
      go_round
      case rel => exact ⟨j + 1, by omega, by go_num, by rw [HN.out]; exact STurn.vint (by omega)⟩
      case measure => simp [intOf]; omega
    · have hk : j = n := by omega
      subst hk
      have ht : ls.take j = ls := List.take_of_length_le (by rw [HH.out.1]; exact Nat.le_refl _)
      rw [ht]
      clear ht
      go_wp2
      go_ret
      exact ⟨rfl, rfl⟩
end Go.Proofs.YtcadfpaihfaabaaGreatDoor
