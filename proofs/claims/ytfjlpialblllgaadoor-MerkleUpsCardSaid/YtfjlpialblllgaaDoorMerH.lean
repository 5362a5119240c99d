/- The document's trees of hashes: Whole, Half, Long; two rows of texts held against each other: the walks of their texts. No conditions but those that each lemma names. -/
import Derived.Test.YtfjlpialblllgaaDoorMerP
import Derived.LoopN
namespace Go.Proofs.YtfjlpialblllgaaDoor.MerH
open Go.RowKit SSum MerQ MerN MerM MerC MerP
theorem Whole (a : Option Addr) (n c : Nat) (ls : List L) (w : World) (h : Strs w w.heap.size a n ls) (hn : n ≤ 1000000) (hl : ∀ l ∈ ls, l.length ≤ 9223372036854775807) :
    Calls Tryd.prog 15 #[.slice a n c] w fun e w' => e = .returned (.bool (all32 ls)) ∧ w = w' := by
  have HH := Lib.hid h
  have HL := Lib.hid hl
  clear h hl
  go_enter Tryd.func15, Tryd.ntmps15
  go_wp2
  go_loopw [3] (fun i wr => ∃ j : Nat, j ≤ n ∧ i = .int .i64 j ∧ all32 (ls.take j) = true ∧ wr = w) (fun i _ => n - (intOf i).toNat)
  case atStart => exact ⟨0, Nat.zero_le _, rfl, rfl, rfl⟩
  case round =>
    obtain ⟨j, hj, rfl, ht, rfl⟩ := hrel
    have HT := Lib.hid ht
    clear ht
    by_cases hlt : j < n
    · obtain ⟨q, off, rfl, hq, hc⟩ := HH.out.2 (by omega)
      have hcj := hc j hlt
      have hjl : j < ls.length := by rw [HH.out.1]; exact hlt
      have HN : Hid (all32 (ls.take (j + 1)) = (all32 (ls.take j) && decide ((ls.getD j []).length = 32))) := Lib.hid (by
        rw [List.take_succ_eq_append_getElem hjl, getD_at _ _ hjl]; unfold all32; rw [List.all_append]; simp only [List.all_cons, List.all_nil, Bool.and_true])
      have HA : Hid ((ls.getD j []).length ≠ 32 → all32 ls = false) := Lib.hid (fun h => by
        rw [getD_at _ _ hjl] at h
        unfold all32
        rw [List.all_eq_false]
        exact ⟨_, List.getElem_mem hjl, by simpa using h⟩)
      have hxl := HL.out (ls.getD j []) (by rw [getD_at _ _ hjl]; exact List.getElem_mem hjl)
      clear hc
      generalize ls.getD j [] = x at *
      have q0 : (0 : Int) ≤ (j : Int) := by omega
      have q1 : (j : Int) < (n : Int) := by omega
      by_cases h32 : x.length = 32
      · have hx : ((x.length : Int) != 32) = false := by rw [h32]; rfl
        rw [decide_eq_true h32] at HN
        clear h32
        go_wp2
        go_roundw
        case rel => exact ⟨j + 1, by omega, by go_num, by rw [HN.out, HT.out]; rfl, by trivial⟩
        case measure => simp [intOf]; omega
      · have hx : ((x.length : Int) != 32) = true := by rw [bne_iff_ne]; omega
        have HF := Lib.hid (HA.out h32)
        clear h32
        go_wp2
        go_ret
        exact ⟨by rw [HF.out]; rfl, rfl⟩
    · obtain rfl : j = n := by omega
      have ha : all32 ls = true := by rw [← HT.out, List.take_of_length_le (by rw [HH.out.1]; exact Nat.le_refl _)]
      have HA := Lib.hid ha
      clear ha
      go_wp2
      go_ret
      exact ⟨by rw [HA.out]; rfl, rfl⟩
theorem Half (n : Nat) (h2 : 2 ≤ n) (hn : n ≤ 1048576) (w : World) : Calls Tryd.prog 31 #[.int .i64 (n : Int)] w fun e w' => e = .returned (.int .i64 (MerN.half n : Nat)) ∧ w = w' := by
  go_enter Tryd.func31, Tryd.ntmps31
  go_wp2
  go_loop [3] (fun i => ∃ j m : Nat, Hid (2 ^ j = m) ∧ i = .int .i64 m ∧ m < n ∧ 1 ≤ m) (fun i => n - (intOf i).toNat)
  case atStart => exact ⟨0, 1, Lib.hid rfl, rfl, by omega, by omega⟩
  case round =>
    obtain ⟨j, m, hm, rfl, hlt, h1⟩ := hrel
    by_cases h : 2 * m < n
    · have q1 : 2 * (m : Int) < (n : Int) := by omega
      go_wp2
      go_round
      case rel => exact ⟨j + 1, 2 * m, Lib.hid (by rw [Nat.pow_succ, hm.out, Nat.mul_comm]), by go_num, h, by omega⟩
      case measure => simp [intOf]; omega
    · have HE := Lib.hid (half_is (n := n) (j := j) (by rw [hm.out]; exact hlt) (by rw [hm.out]; omega))
      have q1 : ¬ 2 * (m : Int) < (n : Int) := by omega
      go_wp2
      go_ret
      exact ⟨by rw [HE.out, hm.out]; rfl, rfl⟩
theorem longN_le {n i : Nat} (hi : i < n) (hn : n ≤ 1048576) : longN n i ≤ 20 := long_most hi (show n ≤ 2 ^ 20 by simpa using hn)
theorem Long : ∀ (n i : Nat) (w : World), i < n → n ≤ 1048576 → Calls Tryd.prog 21 #[.int .i64 (n : Int), .int .i64 (i : Int)] w fun e w' => e = .returned (.int .i64 (longN n i : Nat)) ∧ w = w' := by
  intro n
  induction n using Nat.strongRecOn with
  | _ n ih =>
    intro i w hi hn
    by_cases h2 : n < 2
    · obtain rfl : n = 1 := by omega
      obtain rfl : i = 0 := by omega
      rw [long_one]
      rw [show ((1 : Nat) : Int) = 1 from rfl, show ((0 : Nat) : Int) = 0 from rfl]
      clear ih
      go_enter Tryd.func21, Tryd.ntmps21
      go_wp2
      go_ret
      exact ⟨rfl, rfl⟩
    · have hs := half_spec (n := n) (by omega)
      have HH := Lib.hid (fun W => Half n (by omega) hn W)
      have HL := Lib.hid (long_split (n := n) (i := i) (by omega) hi)
      have hlb := longN_le hi hn
      generalize MerN.half n = k at *
      have h2' : ¬ (n : Int) < 2 := by omega
      by_cases hk : i < k
      · have HI := Lib.hid (fun W => ih k (by omega) i W hk (by omega))
        rw [if_pos hk] at HL
        have hlk := longN_le (n := k) (i := i) hk (by omega)
        have q1 : (i : Int) < (k : Int) := by omega
        generalize longN k i = m at *
        clear ih
        go_enter Tryd.func21, Tryd.ntmps21
        go_wp2_with (first | (go_at_call 31; refine (HH.out _).mono ?_; rintro e w' ⟨rfl, rfl⟩) | (go_at_call 21; refine (HI.out _).mono ?_; rintro e w' ⟨rfl, rfl⟩))
        go_ret
        exact ⟨by rw [HL.out]; go_num, rfl⟩
      · have HI := Lib.hid (fun W => ih (n - k) (by omega) (i - k) W (by omega) (by omega))
        rw [if_neg hk] at HL
        have hlk := longN_le (n := n - k) (i := i - k) (by omega) (by omega)
        have q1 : ¬ (i : Int) < (k : Int) := by omega
        generalize longN (n - k) (i - k) = m at *
        rw [show ((n - k : Nat) : Int) = (n : Int) - (k : Int) by omega, show ((i - k : Nat) : Int) = (i : Int) - (k : Int) by omega] at HI
        clear ih
        go_enter Tryd.func21, Tryd.ntmps21
        go_wp2_with (first | (go_at_call 31; refine (HH.out _).mono ?_; rintro e w' ⟨rfl, rfl⟩) | (go_at_call 21; refine (HI.out _).mono ?_; rintro e w' ⟨rfl, rfl⟩))
        go_ret
        exact ⟨by rw [HL.out]; go_num, rfl⟩
end Go.Proofs.YtfjlpialblllgaaDoor.MerH
