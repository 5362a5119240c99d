/- SFold SStrs: one behind the other. -/
import Derived.Test.YtcndlmkcnhhckaaDoorLHash
import Derived.SliceStrings
/- The sum of one text, as the statements call it; a state out of its bytes. No conditions but those that each lemma names. -/
namespace Go.Proofs.YtcndlmkcnhhckaaDoor.SFold
open Go.RowKit
open STurn SSum SStep
theorem num_be4 (x : Nat) (h : x < 4294967296) (r : List UInt8) (l : List UInt8) (i : Nat) (hl : l.length = 4 * i) : nth4 (l ++ (be 4 x ++ r)) i = x := by
  rw [nth4, List.drop_append, List.drop_eq_nil_of_le (by omega), List.nil_append, hl, Nat.sub_self, List.drop_zero, List.take_append_of_le_length (by rw [be_length]; omega), List.take_of_length_le (by rw [be_length]; omega), num_be, Nat.mod_eq_of_lt (by omega)]
theorem stOf_bytes (s : St) (h : s.ok) : stOf s.bytes = s := by
  obtain ⟨a, b, c, d, e, f, g, k⟩ := s
  obtain ⟨h1, h2, h3, h4, h5, h6, h7, h8⟩ := h
  simp only at h1 h2 h3 h4 h5 h6 h7 h8
  have e0 := num_be4 a h1 (be 4 b ++ (be 4 c ++ (be 4 d ++ (be 4 e ++ (be 4 f ++ (be 4 g ++ be 4 k)))))) [] 0 rfl
  have e1 := num_be4 b h2 (be 4 c ++ (be 4 d ++ (be 4 e ++ (be 4 f ++ (be 4 g ++ be 4 k))))) (be 4 a) 1 (by simp [be_length])
  have e2 := num_be4 c h3 (be 4 d ++ (be 4 e ++ (be 4 f ++ (be 4 g ++ be 4 k)))) (be 4 a ++ be 4 b) 2 (by simp [be_length])
  have e3 := num_be4 d h4 (be 4 e ++ (be 4 f ++ (be 4 g ++ be 4 k))) (be 4 a ++ be 4 b ++ be 4 c) 3 (by simp [be_length])
  have e4 := num_be4 e h5 (be 4 f ++ (be 4 g ++ be 4 k)) (be 4 a ++ be 4 b ++ be 4 c ++ be 4 d) 4 (by simp [be_length])
  have e5 := num_be4 f h6 (be 4 g ++ be 4 k) (be 4 a ++ be 4 b ++ be 4 c ++ be 4 d ++ be 4 e) 5 (by simp [be_length])
  have e6 := num_be4 g h7 (be 4 k) (be 4 a ++ be 4 b ++ be 4 c ++ be 4 d ++ be 4 e ++ be 4 f) 6 (by simp [be_length])
  have e7 := num_be4 k h8 [] (be 4 a ++ be 4 b ++ be 4 c ++ be 4 d ++ be 4 e ++ be 4 f ++ be 4 g) 7 (by simp [be_length])
  simp only [List.nil_append, List.append_nil, List.append_assoc] at e0 e1 e2 e3 e4 e5 e6 e7
  simp only [stOf, St.bytes, List.append_assoc, e0, e1, e2, e3, e4, e5, e6, e7]
theorem one (l : List UInt8) (w : World) (hr : Rds w) (hl : l.length ≤ 576460752303423488) :
    Calls Tryd.prog 39 #[.slice (some ⟨w.heap.size, 0, none⟩) 1 1] (w.alloc (.cells #[.string ⟨l.toArray⟩] 9)) fun e w' => e = .returned (.string ⟨(sum l).toArray⟩) ∧ Below w.heap.size w w' := by
  have h := sums (some ⟨w.heap.size, 0, none⟩) 1 1 [l] (w.alloc (.cells #[.string ⟨l.toArray⟩] 9))
    ⟨rfl, fun _ => ⟨_, _, rfl, by simp, fun i hi => by
      obtain rfl : i = 0 := by omega
      exact blk_cell (heap_alloc_new w _) rfl⟩⟩ (hr.step ((Below.refl _ _).alloc (Nat.le_refl _) _)) (by simpa using hl) (by omega)
  rw [show ([l] : List (List UInt8)).flatten = l from by simp] at h
  exact h.mono fun e w' ⟨h1, h2⟩ => ⟨h1, ((Below.refl w.heap.size w).alloc (Nat.le_refl _) _).trans (h2.mono (by simp))⟩
end Go.Proofs.YtcndlmkcnhhckaaDoor.SFold
/- A slice of texts as it came in, and what keepsakeref01.Bytes answers of it: the walk of its text. -/
namespace Go.Proofs.YtcndlmkcnhhckaaDoor
open Go.RowKit SSum
/-- A slice of texts as it came in: nil, or a row of cells (as the row's own reading gives it). -/
def StrsAt (w : World) (a : Option Addr) (len cap : Nat) (ss : List ByteArray) : Prop :=
  (a = none ∧ len = 0 ∧ cap = 0 ∧ ss = []) ∨
  ∃ x, a = some x ∧ len ≤ cap ∧ cap ≤ maxLen ∧ ss.length = cap ∧ (∀ i, i < ss.length → w.cell? (x.add i) = some (.string (ss.getD i ByteArray.empty))) ∧ ∀ s ∈ ss, s.size ≤ maxLen
theorem strs_at {w : World} {a : Option Addr} {len cap : Nat} {ss : List ByteArray} (h : StrsAt w a len cap ss) :
    ∃ ls, Strs w w.heap.size a len ls ∧ (∀ l ∈ ls, l.length ≤ maxLen) ∧ len ≤ maxLen := by
  rcases h with ⟨rfl, rfl, rfl, rfl⟩ | ⟨x, rfl, hl, hm, hz, hc, hw⟩
  · exact ⟨[], ⟨rfl, fun h => absurd h (by omega)⟩, (fun l hl => by simp at hl), Nat.zero_le _⟩
  · refine ⟨(ss.take len).map fun s => s.data.toList, ⟨by simp; omega, fun hn => ?_⟩, fun l hl => ?_, by omega⟩
    · obtain ⟨b, off, spot⟩ := x
      have hspot : spot = none := by simpa [Addr.add] using World.cell?_spot (hc 0 (by omega))
      subst hspot
      refine ⟨b, off, rfl, ?_, fun i hi => ?_⟩
      · have := hc 0 (by omega)
        exact World.block_lt_of_cell? w _ (by simpa [Addr.add] using this)
      · rw [← Go.WideShapes.add_plain, hc i (by omega)]
        have hi2 : i < ss.length := by omega
        simp [List.getD, hi, hi2]
    · obtain ⟨s, hs, rfl⟩ := List.mem_map.1 hl
      have := hw s (List.mem_of_mem_take hs)
      simpa using this
/-- The lengths' sum, none counted above 100,000. -/
def bsum (ls : List (List UInt8)) : Nat := (ls.map fun l => min l.length 100000).sum
theorem bsum_next (ls : List (List UInt8)) (j : Nat) (h : j < ls.length) : bsum (ls.take (j + 1)) = bsum (ls.take j) + min (ls.getD j []).length 100000 := by
  unfold bsum
  rw [List.take_succ_eq_append_getElem h, List.map_append, List.sum_append]
  simp [List.getD, h]
theorem bsum_le (ls : List (List UInt8)) : bsum ls ≤ 100000 * ls.length := by
  unfold bsum
  induction ls with
  | nil => simp
  | cons l ls ih =>
    rw [List.map_cons, List.sum_cons, List.length_cons]
    omega
theorem flat_bsum (ls : List (List UInt8)) (h : bsum ls ≤ 5000) : ls.flatten.length = bsum ls := by
  unfold bsum at *
  induction ls with
  | nil => rfl
  | cons l ls ih =>
    rw [List.map_cons, List.sum_cons] at *
    rw [List.flatten_cons, List.length_append, ih (by omega)]
    omega
end Go.Proofs.YtcndlmkcnhhckaaDoor
