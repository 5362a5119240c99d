/- EvoP EvoA: one behind the other. -/
import Derived.Test.YtkidehngleglnaaGreatDoorEvoN
import Derived.Test.YtkidehngleglnaaGreatDoorLDer
import Derived.Test.YtkidehngleglnaaGreatDoorLDer
import Derived.WalkMore
/- What the calls of package evolve answer: the walks of their texts. The condition: the rounds' numbers lie in the program's variable. -/
namespace Go.Proofs.YtkidehngleglnaaGreatDoor.EvoP
open Go.RowKit
open STurn EvoN
theorem row0 (w : World) : Row w w.heap.size none 0 [] := ⟨rfl, fun h => absurd h (by omega)⟩
theorem isKey (l : List UInt8) (w : World) : Calls Tryz.prog 69 #[.string ⟨l.toArray⟩] w fun e w' => e = .returned (.bool (decide (l.length = 32))) ∧ w = w' := by
  obtain ⟨b, hb⟩ : ∃ b : Bool, decide (l.length = 32) = b := ⟨_, rfl⟩
  rw [hb]
  have he : ((l.length : Int) == 32) = b := by
    rw [← hb]
    by_cases h : l.length = 32
    · rw [decide_eq_true h]; simp [h]
    · rw [decide_eq_false h]; simp; omega
  clear hb
  go_enter Tryz.func69, Tryz.ntmps69
  go_wp2
  go_ret
  exact ⟨rfl, rfl⟩
theorem inside_yes (n m : Int) (w : World) (h0 : 0 ≤ n) (h1 : n ≤ m) : Calls Tryz.prog 53 #[.int .i64 n, .int .i64 m] w fun e w' => e = .returned (.bool true) ∧ w = w' := by
  go_enter Tryz.func53, Tryz.ntmps53
  go_wp2
  go_ret
  exact ⟨rfl, rfl⟩
theorem inside_no (n m : Int) (w : World) (h : ¬ (0 ≤ n ∧ n ≤ m)) : Calls Tryz.prog 53 #[.int .i64 n, .int .i64 m] w fun e w' => e = .returned (.bool false) ∧ w = w' := by
  by_cases h0 : 0 ≤ n
  · have h1 : ¬ n ≤ m := by omega
    have h2 : m < n := by omega
    clear h
    go_enter Tryz.func53, Tryz.ntmps53
    go_wp2
    go_ret
    exact ⟨rfl, rfl⟩
  · have h1 : n < 0 := by omega
    clear h
    go_enter Tryz.func53, Tryz.ntmps53
    go_wp2
    go_ret
    exact ⟨rfl, rfl⟩
/-- THE CONTRACT of evolve's made. -/
theorem Made (k l : List UInt8) (a : Option Addr) (n cap : Nat) (c : List Int) (w : World) (hr : Rds w) (h : Row w w.heap.size a n c) (ha : a = none → n = 0 ∧ cap = 0) (hi : ∀ x ∈ c, x ≤ 9223372036854775807) :
    Calls Tryz.prog 54 #[.string ⟨k.toArray⟩, .string ⟨l.toArray⟩, .slice a n cap] w fun e w' => e = .returned (.tuple #[.string ⟨(made k l c).1.toArray⟩, .int .i64 (made k l c).2]) ∧ Below w.heap.size w w' := by
  have HI := Lib.hid (fun W => isKey k W)
  by_cases hk : k.length = 32
  · have HK := Lib.hid (DKey.Key k l a n cap c w hr h ha hi (by omega))
    rw [made_key hk]
    rw [decide_eq_true hk] at HI
    generalize keyFor k l c = r at *
    obtain ⟨r1, r2⟩ := r
    clear hr h ha hi hk
    go_enter Tryz.func54, Tryz.ntmps54
    go_wp2_with (first
      | (go_at_call 69; refine (HI.out _).mono ?_; rintro e _ ⟨rfl, rfl⟩)
      | (go_at_call 70; refine HK.out.mono ?_; rintro e w1 ⟨rfl, hb1⟩; have HB1 := Lib.hid hb1; clear hb1))
    go_ret2
    exact ⟨rfl, HB1.out⟩
  · rw [made_short hk]
    rw [decide_eq_false hk] at HI
    clear hr h ha hi hk
    go_enter Tryz.func54, Tryz.ntmps54
    go_wp2_with (go_at_call 69; refine (HI.out _).mono ?_; rintro e _ ⟨rfl, rfl⟩)
    go_ret2
    exact ⟨rfl, Below.refl _ _⟩
/-- The three that have no number. -/
theorem Next (k : List UInt8) (w : World) (hr : Rds w) : Calls Tryz.prog 33 #[.string ⟨k.toArray⟩] w fun e w' => e = .returned (.tuple #[.string ⟨(made k lNext []).1.toArray⟩, .int .i64 (made k lNext []).2]) ∧ Below w.heap.size w w' := by
  have H : Hid (Calls Tryz.prog 54 #[.string ⟨k.toArray⟩, .string ⟨#[110, 101, 120, 116]⟩, .slice none 0 0] w fun e w' => e = .returned (.tuple #[.string ⟨(made k lNext []).1.toArray⟩, .int .i64 (made k lNext []).2]) ∧ Below w.heap.size w w') := Lib.hid (Made k lNext none 0 0 [] w hr (row0 w) (fun _ => ⟨rfl, rfl⟩) (by simp))
  generalize made k lNext [] = r at *
  obtain ⟨r1, r2⟩ := r
  clear hr
  go_enter Tryz.func33, Tryz.ntmps33
  go_wp2_with (go_at_call 54; refine H.out.mono ?_; rintro e w1 ⟨rfl, hb1⟩)
  go_ret2
  exact ⟨rfl, hb1⟩
theorem Mac (k : List UInt8) (w : World) (hr : Rds w) : Calls Tryz.prog 34 #[.string ⟨k.toArray⟩] w fun e w' => e = .returned (.tuple #[.string ⟨(made k lMac []).1.toArray⟩, .int .i64 (made k lMac []).2]) ∧ Below w.heap.size w w' := by
  have H : Hid (Calls Tryz.prog 54 #[.string ⟨k.toArray⟩, .string ⟨#[109, 97, 99]⟩, .slice none 0 0] w fun e w' => e = .returned (.tuple #[.string ⟨(made k lMac []).1.toArray⟩, .int .i64 (made k lMac []).2]) ∧ Below w.heap.size w w') := Lib.hid (Made k lMac none 0 0 [] w hr (row0 w) (fun _ => ⟨rfl, rfl⟩) (by simp))
  generalize made k lMac [] = r at *
  obtain ⟨r1, r2⟩ := r
  clear hr
  go_enter Tryz.func34, Tryz.ntmps34
  go_wp2_with (go_at_call 54; refine H.out.mono ?_; rintro e w1 ⟨rfl, hb1⟩)
  go_ret2
  exact ⟨rfl, hb1⟩
/-- THE CONTRACT of First. -/
theorem First (k : List UInt8) (f : Int) (w : World) (hr : Rds w) (hf : f ≤ 9223372036854775807) : Calls Tryz.prog 32 #[.string ⟨k.toArray⟩, .int .i64 f] w fun e w' => e = .returned (.tuple #[.string ⟨(first k f).1.toArray⟩, .int .i64 (first k f).2]) ∧ Below w.heap.size w w' := by
  by_cases h : 0 ≤ f ∧ f ≤ 4294967295
  · have HI := Lib.hid (fun W => inside_yes f 4294967295 W h.1 h.2)
    obtain ⟨w1, hw1⟩ : ∃ w1, w1 = w.alloc (.cells #[.int .i64 f] 3) := ⟨_, rfl⟩
    have HB0 : Hid (Below w.heap.size w w1) := by rw [hw1]; exact (Below.refl _ _).alloc (Nat.le_refl _) _
    have hrow : Row w1 w1.heap.size (some ⟨w.heap.size, 0, none⟩) 1 [f] := by rw [hw1]; exact row_own (l := [f]) (DSaid.own_first f w)
    have H : Hid (Calls Tryz.prog 54 #[.string ⟨k.toArray⟩, .string ⟨#[115, 101, 97, 108]⟩, .slice (some ⟨w.heap.size, 0, none⟩) 1 1] w1 fun e w' => e = .returned (.tuple #[.string ⟨(made k lSeal [f]).1.toArray⟩, .int .i64 (made k lSeal [f]).2]) ∧ Below w1.heap.size w1 w') :=
      Lib.hid (Made k lSeal _ 1 1 [f] w1 (hr.step HB0.out) hrow (fun h => by cases h) (by simpa using hf))
    rw [first_in h.2]
    generalize made k lSeal [f] = r at *
    obtain ⟨r1, r2⟩ := r
    have HW1 := Lib.hid hw1
    clear hr h hrow hw1 hf
    go_enter Tryz.func32, Tryz.ntmps32
    go_wp2_with (first
      | (go_at_call 53; refine (HI.out _).mono ?_; rintro e _ ⟨rfl, rfl⟩)
      | (go_at_call 54; rw [← HW1.out]; refine H.out.mono ?_; rintro e w2 ⟨rfl, hb2⟩; have HB2 := Lib.hid (HB0.out.trans (hb2.mono HB0.out.size)); clear hb2))
    go_ret2
    exact ⟨rfl, HB2.out⟩
  · have HI := Lib.hid (fun W => inside_no f 4294967295 W h)
    rw [first_far h]
    clear hr h hf
    go_enter Tryz.func32, Tryz.ntmps32
    go_wp2_with (go_at_call 53; refine (HI.out _).mono ?_; rintro e _ ⟨rfl, rfl⟩)
    go_ret2
    exact ⟨rfl, Below.refl _ _⟩
end Go.Proofs.YtkidehngleglnaaGreatDoor.EvoP
/- What evolve.At answers: the walk of its text. The condition: the rounds' numbers lie in the program's variable. -/
namespace Go.Proofs.YtkidehngleglnaaGreatDoor.EvoA
open Go.RowKit
open STurn EvoN
theorem bad (k : List UInt8) (f e : Int) (w : World) (hr : Rds w) (hf : f ≤ 9223372036854775807) (h : ¬ (k.length = 32 ∧ 0 ≤ f ∧ f ≤ 4294967295)) :
    Calls Tryz.prog 16 #[.string ⟨k.toArray⟩, .int .i64 f, .int .i64 e] w fun r w' => r = .returned (.tuple #[.string ⟨#[]⟩, .int .i64 2]) ∧ Below w.heap.size w w' := by
  have H := Lib.hid (EvoP.First k f w hr hf)
  rw [first_bad h] at H
  clear hr hf h
  go_enter Tryz.func16, Tryz.ntmps16
  go_wp2_with fail
  go_step3
  go_wp2_with (go_at_call 32; refine H.out.mono ?_; rintro r w1 ⟨rfl, hb1⟩)
  rw [Exit.noGoto_ret]
  go_ret2
  exact ⟨rfl, hb1⟩
theorem early (k : List UInt8) (f e : Int) (w : World) (hr : Rds w) (hk : k.length = 32) (h0 : 0 ≤ f) (h1 : f ≤ 4294967295) (h : e < f ∨ (¬ e < f ∧ 4294967295 < e)) :
    Calls Tryz.prog 16 #[.string ⟨k.toArray⟩, .int .i64 f, .int .i64 e] w fun r w' => r = .returned (.tuple #[.string ⟨#[]⟩, .int .i64 2]) ∧ Below w.heap.size w w' := by
  have H := Lib.hid (EvoP.First k f w hr (by omega))
  rw [first_good hk h0 h1] at H
  generalize macOf k (saidOf lSeal [f]) = z at *
  clear hr hk
  rcases h with h | ⟨h, h2⟩
  all_goals
    go_enter Tryz.func16, Tryz.ntmps16
    go_wp2_with fail
    go_step3
    go_wp2_with (go_at_call 32; refine H.out.mono ?_; rintro r w1 ⟨rfl, hb1⟩)
    rw [Exit.noGoto_ret]
    go_ret2
    exact ⟨rfl, hb1⟩
theorem far (k : List UInt8) (f e : Int) (w : World) (hr : Rds w) (hk : k.length = 32) (h0 : 0 ≤ f) (h1 : f ≤ e) (h2 : e ≤ 4294967295) (h : 4096 < e - f) :
    Calls Tryz.prog 16 #[.string ⟨k.toArray⟩, .int .i64 f, .int .i64 e] w fun r w' => r = .returned (.tuple #[.string ⟨#[]⟩, .int .i64 6]) ∧ Below w.heap.size w w' := by
  have H := Lib.hid (EvoP.First k f w hr (by omega))
  rw [first_good hk h0 (by omega)] at H
  generalize macOf k (saidOf lSeal [f]) = z at *
  have h3 : ¬ e < f := by omega
  have h4 : ¬ 4294967295 < e := by omega
  clear hr hk
  go_enter Tryz.func16, Tryz.ntmps16
  go_wp2_with fail
  go_step3
  go_wp2_with (go_at_call 32; refine H.out.mono ?_; rintro r w1 ⟨rfl, hb1⟩)
  rw [Exit.noGoto_ret]
  go_ret2
  exact ⟨rfl, hb1⟩
set_option maxRecDepth 100000 in
theorem good (k : List UInt8) (f e : Int) (n : Nat) (w : World) (hr : Rds w) (hk : k.length = 32) (h0 : 0 ≤ f) (hn : e - f = (n : Int)) (h2 : e ≤ 4294967295) (h : n ≤ 4096) :
    Calls Tryz.prog 16 #[.string ⟨k.toArray⟩, .int .i64 f, .int .i64 e] w fun r w' => r = .returned (.tuple #[.string ⟨(nextN (macOf k (saidOf lSeal [f])) n).toArray⟩, .int .i64 0]) ∧ Below w.heap.size w w' := by
  have H := Lib.hid (EvoP.First k f w hr (by omega))
  rw [first_good hk h0 (by omega)] at H
  have hz := first_length k f
  generalize macOf k (saidOf lSeal [f]) = z at *
  have HN : Hid (∀ (j : Nat) (W : World), Rds W → Calls Tryz.prog 33 #[.string ⟨(nextN z j).toArray⟩] W fun r w' => r = .returned (.tuple #[.string ⟨(nextN z (j + 1)).toArray⟩, .int .i64 0]) ∧ Below W.heap.size W w') := Lib.hid (fun j W hr => by
    have := EvoP.Next (nextN z j) W hr
    rw [made_next hz] at this
    exact this)
  have h3 : ¬ e < f := by omega
  have h4 : ¬ 4294967295 < e := by omega
  have h5 : ¬ 4096 < e - f := by omega
  have HR := Lib.hid hr
  clear hr hk hz
  go_enter Tryz.func16, Tryz.ntmps16
  go_wp2_with fail
  go_step3
  go_wp2_with (go_at_call 32; refine H.out.mono ?_; rintro r w1 ⟨rfl, hb1⟩; have HB1 := Lib.hid hb1; clear hb1)
  go_step3
  go_wp2_with fail
  go_loopw [8, 9, 33] (fun x t i wr => ∃ j : Nat, j ≤ n ∧ i = .int .i64 j ∧ t = .int .i64 0 ∧ x = .string ⟨(nextN z j).toArray⟩ ∧ Below w.heap.size w wr) (fun _ _ i _ => n - (intOf i).toNat)
  case atStart => exact ⟨0, Nat.zero_le _, rfl, rfl, rfl, HB1.out⟩
  case round =>
    obtain ⟨j, hj, rfl, rfl, rfl, hbe⟩ := hrel
    have HBe := Lib.hid hbe
    clear hbe
    by_cases hlt : j < n
    · have hx := HN.out j
      have HX := Lib.hid hx
      clear hx HN
      have hjn : (j : Int) < e - f := by omega
      generalize hy : nextN z (j + 1) = y at *
      generalize nextN z j = x at *
      have HY := Lib.hid hy
      clear hy
      go_wp2_with (go_at_call 33; refine (HX.out _ (HR.out.step HBe.out)).mono ?_; rintro r w2 ⟨rfl, hb2⟩; have HB2 := Lib.hid (HBe.out.trans (hb2.mono HBe.out.size)); clear hb2)
      go_roundw
      case rel => exact ⟨j + 1, by omega, by go_num, rfl, by rw [HY.out], HB2.out⟩
      case measure => simp [intOf]; omega
    · obtain rfl : j = n := by omega
      have hjn : ¬ (j : Int) < e - f := by omega
      go_wp2_with fail
      go_ret2
      exact ⟨rfl, HBe.out⟩
/-- THE CONTRACT of evolve.At. -/
theorem At (k : List UInt8) (f e : Int) (w : World) (hr : Rds w) (hf : f ≤ 9223372036854775807) :
    Calls Tryz.prog 16 #[.string ⟨k.toArray⟩, .int .i64 f, .int .i64 e] w fun r w' => r = .returned (.tuple #[.string ⟨(at_ k f e).1.toArray⟩, .int .i64 (at_ k f e).2]) ∧ Below w.heap.size w w' := by
  by_cases h : k.length = 32 ∧ 0 ≤ f ∧ f ≤ 4294967295
  · obtain ⟨hk, h0, h1⟩ := h
    by_cases h2 : f ≤ e ∧ e ≤ 4294967295
    · by_cases h3 : e - f ≤ 4096
      · rw [at_good hk h0 h2.1 h2.2 h3]
        exact good k f e (e - f).toNat w hr hk h0 (by omega) h2.2 (by omega)
      · rw [at_far hk h0 h2.1 h2.2 h3]
        exact far k f e w hr hk h0 h2.1 h2.2 (by omega)
    · rw [at_bad (fun h => h2 h.2.2)]
      exact early k f e w hr hk h0 h1 (by omega)
  · rw [at_bad (fun hh => h ⟨hh.1, hh.2.1, by omega⟩)]
    exact bad k f e w hr hf h
end Go.Proofs.YtkidehngleglnaaGreatDoor.EvoA
