/- What the calls of package evolve answer: the walks of their texts. The condition: the rounds' numbers lie in the program's variable. -/
import Derived.Test.YtcndlmkcnhhckaaDoorEvoN
import Derived.Test.YtcndlmkcnhhckaaDoorDKey
import Derived.Test.YtcndlmkcnhhckaaDoorDLong
namespace Go.Proofs.YtcndlmkcnhhckaaDoor.EvoP
open Go.RowKit
open STurn EvoN
theorem row0 (w : World) : Row w w.heap.size none 0 [] := ⟨rfl, fun h => absurd h (by omega)⟩
theorem isKey (l : List UInt8) (w : World) : Calls Tryd.prog 22 #[.string ⟨l.toArray⟩] w fun e w' => e = .returned (.bool (decide (l.length = 32))) ∧ w = w' := by
  obtain ⟨b, hb⟩ : ∃ b : Bool, decide (l.length = 32) = b := ⟨_, rfl⟩
  rw [hb]
  have he : ((l.length : Int) == 32) = b := by
    rw [← hb]
    by_cases h : l.length = 32
    · rw [decide_eq_true h]; simp [h]
    · rw [decide_eq_false h]; simp; omega
  clear hb
  go_enter Tryd.func22, Tryd.ntmps22
  go_wp2
  go_ret
  exact ⟨rfl, rfl⟩
theorem inside_yes (n m : Int) (w : World) (h0 : 0 ≤ n) (h1 : n ≤ m) : Calls Tryd.prog 20 #[.int .i64 n, .int .i64 m] w fun e w' => e = .returned (.bool true) ∧ w = w' := by
  go_enter Tryd.func20, Tryd.ntmps20
  go_wp2
  go_ret
  exact ⟨rfl, rfl⟩
theorem inside_no (n m : Int) (w : World) (h : ¬ (0 ≤ n ∧ n ≤ m)) : Calls Tryd.prog 20 #[.int .i64 n, .int .i64 m] w fun e w' => e = .returned (.bool false) ∧ w = w' := by
  by_cases h0 : 0 ≤ n
  · have h1 : ¬ n ≤ m := by omega
    have h2 : m < n := by omega
    clear h
    go_enter Tryd.func20, Tryd.ntmps20
    go_wp2
    go_ret
    exact ⟨rfl, rfl⟩
  · have h1 : n < 0 := by omega
    clear h
    go_enter Tryd.func20, Tryd.ntmps20
    go_wp2
    go_ret
    exact ⟨rfl, rfl⟩
/-- THE CONTRACT of evolve's made. -/
theorem Made (k l : List UInt8) (a : Option Addr) (n cap : Nat) (c : List Int) (w : World) (hr : Rds w) (h : Row w w.heap.size a n c) (ha : a = none → n = 0 ∧ cap = 0) (hi : ∀ x ∈ c, x ≤ 9223372036854775807) :
    Calls Tryd.prog 21 #[.string ⟨k.toArray⟩, .string ⟨l.toArray⟩, .slice a n cap] w fun e w' => e = .returned (.tuple #[.string ⟨(made k l c).1.toArray⟩, .int .i64 (made k l c).2]) ∧ Below w.heap.size w w' := by
  have HI := Lib.hid (fun W => isKey k W)
  by_cases hk : k.length = 32
  · have HK := Lib.hid (DKey.Key k l a n cap c w hr h ha hi (by omega))
    rw [made_key hk]
    rw [decide_eq_true hk] at HI
    generalize keyFor k l c = r at *
    obtain ⟨r1, r2⟩ := r
    clear hr h ha hi hk
    go_enter Tryd.func21, Tryd.ntmps21
    go_wp2_with (first
      | (go_at_call 22; refine (HI.out _).mono ?_; rintro e _ ⟨rfl, rfl⟩)
      | (go_at_call 29; refine HK.out.mono ?_; rintro e w1 ⟨rfl, hb1⟩; have HB1 := Lib.hid hb1; clear hb1))
    go_ret2
    exact ⟨rfl, HB1.out⟩
  · rw [made_short hk]
    rw [decide_eq_false hk] at HI
    clear hr h ha hi hk
    go_enter Tryd.func21, Tryd.ntmps21
    go_wp2_with (go_at_call 22; refine (HI.out _).mono ?_; rintro e _ ⟨rfl, rfl⟩)
    go_ret2
    exact ⟨rfl, Below.refl _ _⟩
/-- The three that have no number. -/
theorem Next (k : List UInt8) (w : World) (hr : Rds w) : Calls Tryd.prog 9 #[.string ⟨k.toArray⟩] w fun e w' => e = .returned (.tuple #[.string ⟨(made k lNext []).1.toArray⟩, .int .i64 (made k lNext []).2]) ∧ Below w.heap.size w w' := by
  have H : Hid (Calls Tryd.prog 21 #[.string ⟨k.toArray⟩, .string ⟨#[110, 101, 120, 116]⟩, .slice none 0 0] w fun e w' => e = .returned (.tuple #[.string ⟨(made k lNext []).1.toArray⟩, .int .i64 (made k lNext []).2]) ∧ Below w.heap.size w w') := Lib.hid (Made k lNext none 0 0 [] w hr (row0 w) (fun _ => ⟨rfl, rfl⟩) (by simp))
  generalize made k lNext [] = r at *
  obtain ⟨r1, r2⟩ := r
  clear hr
  go_enter Tryd.func9, Tryd.ntmps9
  go_wp2_with (go_at_call 21; refine H.out.mono ?_; rintro e w1 ⟨rfl, hb1⟩)
  go_ret2
  exact ⟨rfl, hb1⟩
theorem Mac (k : List UInt8) (w : World) (hr : Rds w) : Calls Tryd.prog 10 #[.string ⟨k.toArray⟩] w fun e w' => e = .returned (.tuple #[.string ⟨(made k lMac []).1.toArray⟩, .int .i64 (made k lMac []).2]) ∧ Below w.heap.size w w' := by
  have H : Hid (Calls Tryd.prog 21 #[.string ⟨k.toArray⟩, .string ⟨#[109, 97, 99]⟩, .slice none 0 0] w fun e w' => e = .returned (.tuple #[.string ⟨(made k lMac []).1.toArray⟩, .int .i64 (made k lMac []).2]) ∧ Below w.heap.size w w') := Lib.hid (Made k lMac none 0 0 [] w hr (row0 w) (fun _ => ⟨rfl, rfl⟩) (by simp))
  generalize made k lMac [] = r at *
  obtain ⟨r1, r2⟩ := r
  clear hr
  go_enter Tryd.func10, Tryd.ntmps10
  go_wp2_with (go_at_call 21; refine H.out.mono ?_; rintro e w1 ⟨rfl, hb1⟩)
  go_ret2
  exact ⟨rfl, hb1⟩
theorem Ask (k : List UInt8) (w : World) (hr : Rds w) : Calls Tryd.prog 11 #[.string ⟨k.toArray⟩] w fun e w' => e = .returned (.tuple #[.string ⟨(made k lAsk []).1.toArray⟩, .int .i64 (made k lAsk []).2]) ∧ Below w.heap.size w w' := by
  have H : Hid (Calls Tryd.prog 21 #[.string ⟨k.toArray⟩, .string ⟨#[97, 115, 107]⟩, .slice none 0 0] w fun e w' => e = .returned (.tuple #[.string ⟨(made k lAsk []).1.toArray⟩, .int .i64 (made k lAsk []).2]) ∧ Below w.heap.size w w') := Lib.hid (Made k lAsk none 0 0 [] w hr (row0 w) (fun _ => ⟨rfl, rfl⟩) (by simp))
  generalize made k lAsk [] = r at *
  obtain ⟨r1, r2⟩ := r
  clear hr
  go_enter Tryd.func11, Tryd.ntmps11
  go_wp2_with (go_at_call 21; refine H.out.mono ?_; rintro e w1 ⟨rfl, hb1⟩)
  go_ret2
  exact ⟨rfl, hb1⟩
/-- THE CONTRACT of First. -/
theorem First (k : List UInt8) (f : Int) (w : World) (hr : Rds w) (hf : f ≤ 9223372036854775807) : Calls Tryd.prog 8 #[.string ⟨k.toArray⟩, .int .i64 f] w fun e w' => e = .returned (.tuple #[.string ⟨(first k f).1.toArray⟩, .int .i64 (first k f).2]) ∧ Below w.heap.size w w' := by
  by_cases h : 0 ≤ f ∧ f ≤ 4294967295
  · have HI := Lib.hid (fun W => inside_yes f 4294967295 W h.1 h.2)
    obtain ⟨w1, hw1⟩ : ∃ w1, w1 = w.alloc (.cells #[.int .i64 f] 3) := ⟨_, rfl⟩
    have HB0 : Hid (Below w.heap.size w w1) := by rw [hw1]; exact (Below.refl _ _).alloc (Nat.le_refl _) _
    have hrow : Row w1 w1.heap.size (some ⟨w.heap.size, 0, none⟩) 1 [f] := by rw [hw1]; exact row_own (l := [f]) (DSaid.own_first f w)
    have H : Hid (Calls Tryd.prog 21 #[.string ⟨k.toArray⟩, .string ⟨#[115, 101, 97, 108]⟩, .slice (some ⟨w.heap.size, 0, none⟩) 1 1] w1 fun e w' => e = .returned (.tuple #[.string ⟨(made k lSeal [f]).1.toArray⟩, .int .i64 (made k lSeal [f]).2]) ∧ Below w1.heap.size w1 w') :=
      Lib.hid (Made k lSeal _ 1 1 [f] w1 (hr.step HB0.out) hrow (fun h => by cases h) (by simpa using hf))
    rw [first_in h.2]
    generalize made k lSeal [f] = r at *
    obtain ⟨r1, r2⟩ := r
    have HW1 := Lib.hid hw1
    clear hr h hrow hw1 hf
    go_enter Tryd.func8, Tryd.ntmps8
    go_wp2_with (first
      | (go_at_call 20; refine (HI.out _).mono ?_; rintro e _ ⟨rfl, rfl⟩)
      | (go_at_call 21; rw [← HW1.out]; refine H.out.mono ?_; rintro e w2 ⟨rfl, hb2⟩; have HB2 := Lib.hid (HB0.out.trans (hb2.mono HB0.out.size)); clear hb2))
    go_ret2
    exact ⟨rfl, HB2.out⟩
  · have HI := Lib.hid (fun W => inside_no f 4294967295 W h)
    rw [first_far h]
    clear hr h hf
    go_enter Tryd.func8, Tryd.ntmps8
    go_wp2_with (go_at_call 20; refine (HI.out _).mono ?_; rintro e _ ⟨rfl, rfl⟩)
    go_ret2
    exact ⟨rfl, Below.refl _ _⟩
/-- THE CONTRACT of Data. -/
theorem Data (k : List UInt8) (w : World) (hr : Rds w) : Calls Tryd.prog 12 #[.string ⟨k.toArray⟩] w fun e w' => e = .returned (.tuple #[.string ⟨(data k).1.toArray⟩, .int .i64 (data k).2]) ∧ Below w.heap.size w w' := by
  have HI := Lib.hid (fun W => isKey k W)
  by_cases hk : k.length = 32
  · have H : Hid (Calls Tryd.prog 23 #[.string ⟨k.toArray⟩, .string ⟨#[100, 97, 116, 97]⟩, .int .i64 16] w fun e w' => e = .returned (.tuple #[.string ⟨(longFor k lData 16).1.toArray⟩, .int .i64 (longFor k lData 16).2]) ∧ Below w.heap.size w w') := Lib.hid (DLong.any k lData 16 w hr (by omega))
    rw [data_long hk] at H
    rw [decide_eq_true hk] at HI
    generalize data k = r at *
    obtain ⟨r1, r2⟩ := r
    clear hr hk
    go_enter Tryd.func12, Tryd.ntmps12
    go_wp2_with (first
      | (go_at_call 22; refine (HI.out _).mono ?_; rintro e _ ⟨rfl, rfl⟩)
      | (go_at_call 23; refine H.out.mono ?_; rintro e w1 ⟨rfl, hb1⟩; have HB1 := Lib.hid hb1; clear hb1))
    go_ret2
    exact ⟨rfl, HB1.out⟩
  · rw [data_bad hk]
    rw [decide_eq_false hk] at HI
    clear hr hk
    go_enter Tryd.func12, Tryd.ntmps12
    go_wp2_with (go_at_call 22; refine (HI.out _).mono ?_; rintro e _ ⟨rfl, rfl⟩)
    go_ret2
    exact ⟨rfl, Below.refl _ _⟩
end Go.Proofs.YtcndlmkcnhhckaaDoor.EvoP
