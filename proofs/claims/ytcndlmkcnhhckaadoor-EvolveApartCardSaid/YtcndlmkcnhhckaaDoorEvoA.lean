/- What evolve.At answers: the walk of its text. The condition: the rounds' numbers lie in the program's variable. -/
import Derived.Test.YtcndlmkcnhhckaaDoorEvoP
import Derived.WalkMore
namespace Go.Proofs.YtcndlmkcnhhckaaDoor.EvoA
open Go.RowKit
open STurn EvoN
theorem bad (k : List UInt8) (f e : Int) (w : World) (hr : Rds w) (hf : f ≤ 9223372036854775807) (h : ¬ (k.length = 32 ∧ 0 ≤ f ∧ f ≤ 4294967295)) :
    Calls Tryd.prog 16 #[.string ⟨k.toArray⟩, .int .i64 f, .int .i64 e] w fun r w' => r = .returned (.tuple #[.string ⟨#[]⟩, .int .i64 2]) ∧ Below w.heap.size w w' := by
  have H := Lib.hid (EvoP.First k f w hr hf)
  rw [first_bad h] at H
  clear hr hf h
  go_enter Tryd.func16, Tryd.ntmps16
  go_wp2_with fail
  go_step3
  go_wp2_with (go_at_call 8; refine H.out.mono ?_; rintro r w1 ⟨rfl, hb1⟩)
  rw [Exit.noGoto_ret]
  go_ret2
  exact ⟨rfl, hb1⟩
theorem early (k : List UInt8) (f e : Int) (w : World) (hr : Rds w) (hk : k.length = 32) (h0 : 0 ≤ f) (h1 : f ≤ 4294967295) (h : e < f ∨ (¬ e < f ∧ 4294967295 < e)) :
    Calls Tryd.prog 16 #[.string ⟨k.toArray⟩, .int .i64 f, .int .i64 e] w fun r w' => r = .returned (.tuple #[.string ⟨#[]⟩, .int .i64 2]) ∧ Below w.heap.size w w' := by
  have H := Lib.hid (EvoP.First k f w hr (by omega))
  rw [first_good hk h0 h1] at H
  generalize macOf k (saidOf lSeal [f]) = z at *
  clear hr hk
  rcases h with h | ⟨h, h2⟩
  all_goals
    go_enter Tryd.func16, Tryd.ntmps16
    go_wp2_with fail
    go_step3
    go_wp2_with (go_at_call 8; refine H.out.mono ?_; rintro r w1 ⟨rfl, hb1⟩)
    rw [Exit.noGoto_ret]
    go_ret2
    exact ⟨rfl, hb1⟩
theorem far (k : List UInt8) (f e : Int) (w : World) (hr : Rds w) (hk : k.length = 32) (h0 : 0 ≤ f) (h1 : f ≤ e) (h2 : e ≤ 4294967295) (h : 4096 < e - f) :
    Calls Tryd.prog 16 #[.string ⟨k.toArray⟩, .int .i64 f, .int .i64 e] w fun r w' => r = .returned (.tuple #[.string ⟨#[]⟩, .int .i64 6]) ∧ Below w.heap.size w w' := by
  have H := Lib.hid (EvoP.First k f w hr (by omega))
  rw [first_good hk h0 (by omega)] at H
  generalize macOf k (saidOf lSeal [f]) = z at *
  have h3 : ¬ e < f := by omega
  have h4 : ¬ 4294967295 < e := by omega
  clear hr hk
  go_enter Tryd.func16, Tryd.ntmps16
  go_wp2_with fail
  go_step3
  go_wp2_with (go_at_call 8; refine H.out.mono ?_; rintro r w1 ⟨rfl, hb1⟩)
  rw [Exit.noGoto_ret]
  go_ret2
  exact ⟨rfl, hb1⟩
set_option maxRecDepth 100000 in
theorem good (k : List UInt8) (f e : Int) (n : Nat) (w : World) (hr : Rds w) (hk : k.length = 32) (h0 : 0 ≤ f) (hn : e - f = (n : Int)) (h2 : e ≤ 4294967295) (h : n ≤ 4096) :
    Calls Tryd.prog 16 #[.string ⟨k.toArray⟩, .int .i64 f, .int .i64 e] w fun r w' => r = .returned (.tuple #[.string ⟨(nextN (macOf k (saidOf lSeal [f])) n).toArray⟩, .int .i64 0]) ∧ Below w.heap.size w w' := by
  have H := Lib.hid (EvoP.First k f w hr (by omega))
  rw [first_good hk h0 (by omega)] at H
  have hz := first_length k f
  generalize macOf k (saidOf lSeal [f]) = z at *
  have HN : Hid (∀ (j : Nat) (W : World), Rds W → Calls Tryd.prog 9 #[.string ⟨(nextN z j).toArray⟩] W fun r w' => r = .returned (.tuple #[.string ⟨(nextN z (j + 1)).toArray⟩, .int .i64 0]) ∧ Below W.heap.size W w') := Lib.hid (fun j W hr => by
    have := EvoP.Next (nextN z j) W hr
    rw [made_next hz] at this
    exact this)
  have h3 : ¬ e < f := by omega
  have h4 : ¬ 4294967295 < e := by omega
  have h5 : ¬ 4096 < e - f := by omega
  have HR := Lib.hid hr
  clear hr hk hz
  go_enter Tryd.func16, Tryd.ntmps16
  go_wp2_with fail
  go_step3
  go_wp2_with (go_at_call 8; refine H.out.mono ?_; rintro r w1 ⟨rfl, hb1⟩; have HB1 := Lib.hid hb1; clear hb1)
  go_step3
  go_wp2_with fail
  go_loopw [8, 9, 33] (fun x t i wr => ∃ j : Nat, j ≤ n ∧ i = .int .i64 j ∧ t = .int .i64 0 ∧ x = .string ⟨(nextN z j).toArray⟩ ∧ Below w.heap.size w wr) (fun _ _ i _ => n - (intOf i).toNat)
  case atStart => exact ⟨0, Nat.zero_le _, rfl, rfl, rfl, HB1.out⟩
  case round =>
    obtain ⟨j, hj, rfl, rfl, rfl, hbe⟩ := hrel
    have HBe := Lib.hid hbe
    clear hbe
    by_cases hlt : j < n
    · have hx := HN.out j
      have HX := Lib.hid hx
      clear hx HN
      have hjn : (j : Int) < e - f := by omega
      generalize hy : nextN z (j + 1) = y at *
      generalize nextN z j = x at *
      have HY := Lib.hid hy
      clear hy
      go_wp2_with (go_at_call 9; refine (HX.out _ (HR.out.step HBe.out)).mono ?_; rintro r w2 ⟨rfl, hb2⟩; have HB2 := Lib.hid (HBe.out.trans (hb2.mono HBe.out.size)); clear hb2)
      go_roundw
      case rel => exact ⟨j + 1, by omega, by go_num, rfl, by rw [HY.out], HB2.out⟩
      case measure => simp [intOf]; omega
    · obtain rfl : j = n := by omega
      have hjn : ¬ (j : Int) < e - f := by omega
      go_wp2_with fail
      go_ret2
      exact ⟨rfl, HBe.out⟩
/-- THE CONTRACT of evolve.At. -/
theorem At (k : List UInt8) (f e : Int) (w : World) (hr : Rds w) (hf : f ≤ 9223372036854775807) :
    Calls Tryd.prog 16 #[.string ⟨k.toArray⟩, .int .i64 f, .int .i64 e] w fun r w' => r = .returned (.tuple #[.string ⟨(at_ k f e).1.toArray⟩, .int .i64 (at_ k f e).2]) ∧ Below w.heap.size w w' := by
  by_cases h : k.length = 32 ∧ 0 ≤ f ∧ f ≤ 4294967295
  · obtain ⟨hk, h0, h1⟩ := h
    by_cases h2 : f ≤ e ∧ e ≤ 4294967295
    · by_cases h3 : e - f ≤ 4096
      · rw [at_good hk h0 h2.1 h2.2 h3]
        exact good k f e (e - f).toNat w hr hk h0 (by omega) h2.2 (by omega)
      · rw [at_far hk h0 h2.1 h2.2 h3]
        exact far k f e w hr hk h0 h2.1 h2.2 (by omega)
    · rw [at_bad (fun h => h2 h.2.2)]
      exact early k f e w hr hk h0 h1 (by omega)
  · rw [at_bad (fun hh => h ⟨hh.1, hh.2.1, by omega⟩)]
    exact bad k f e w hr hf h
end Go.Proofs.YtcndlmkcnhhckaaDoor.EvoA
