/- What the document's Made, Data and At answer, and whether an answer is what the document says: the walks of their texts. No conditions but those that each theorem names. -/
import Derived.Test.YtkidehngleglnaaGreatDoorLEvo
import Derived.Test.YtkidehngleglnaaGreatDoorLDer
import Derived.Test.YtkidehngleglnaaGreatDoorLRsum
namespace Go.Proofs.YtkidehngleglnaaGreatDoor.EvoR
set_option linter.unusedVariables false
open Go.RowKit
open EvoN EvoP
/-- Is an error's number that of none? -/
def okB (r : Int) : Bool := decide (r = 0)
theorem ne32 {l : List UInt8} (h : l.length = 32) : (((l.length : Nat) : Int) != 32) = false := by simp [h]
theorem is32 {l : List UInt8} (h : ¬ l.length = 32) : (((l.length : Nat) : Int) != 32) = true := by simp; omega
/-- THE CONTRACT of the document's Made. -/
theorem Made (k l : List UInt8) (a : Option Addr) (n cap : Nat) (c : List Int) (w : World) (h : Row w w.heap.size a n c) (hi : ∀ x ∈ c, x ≤ 9223372036854775807) :
    Calls Tryz.prog 38 #[.string ⟨k.toArray⟩, .string ⟨l.toArray⟩, .slice a n cap] w fun e w' => e = .returned (.tuple #[.string ⟨(made k l c).1.toArray⟩, .bool (okB (made k l c).2)]) ∧ Below w.heap.size w w' := by
  have HS := Lib.hid (DRSaid.any l a n cap c w h hi)
  clear h hi
  by_cases hk : k.length = 32
  · have hq := ne32 hk
    by_cases hc : saidOk l c
    · have hsl := said_le l c hc
      have HM := Lib.hid (fun W => RMacs.Mac k (saidOf l c) W (by omega) (by omega))
      rw [said_good hc] at HS
      rw [made_good hk hc, show okB 0 = true from rfl]
      generalize macOf k (saidOf l c) = z at *
      generalize saidOf l c = y at *
      clear hc hk hsl
      go_enter Tryz.func38, Tryz.ntmps38
      go_wp2_with (first
        | (go_at_call 58; refine HS.out.mono ?_; rintro e w1 ⟨rfl, hb1⟩; have HB1 := Lib.hid hb1; clear hb1)
        | (go_at_call 40; refine (HM.out _).mono ?_; rintro e w2 ⟨rfl, hb2⟩; have HB2 := Lib.hid (HB1.out.trans (hb2.mono HB1.out.size)); clear hb2))
      go_ret2
      exact ⟨rfl, HB2.out⟩
    · rw [said_bad hc] at HS
      rw [made_bad hc, show okB 2 = false from rfl]
      clear hc hk
      go_enter Tryz.func38, Tryz.ntmps38
      go_wp2_with (go_at_call 58; refine HS.out.mono ?_; rintro e w1 ⟨rfl, hb1⟩; have HB1 := Lib.hid hb1; clear hb1)
      go_ret2
      exact ⟨rfl, HB1.out⟩
  · have hq := is32 hk
    rw [made_short hk, show okB 2 = false from rfl]
    generalize said l c = r at *
    obtain ⟨r1, r2⟩ := r
    clear hk
    go_enter Tryz.func38, Tryz.ntmps38
    go_wp2_with (go_at_call 58; refine HS.out.mono ?_; rintro e w1 ⟨rfl, hb1⟩; have HB1 := Lib.hid hb1; clear hb1)
    go_ret2
    exact ⟨rfl, HB1.out⟩
theorem cut16 (y : List UInt8) (W : World) (h : y.length = 32) : (Instr.slice 9 (.string ⟨y.toArray⟩) none (some (.int .i64 16)) none).run Tryz.prog W = .ok (.string ⟨(y.take 16).toArray⟩) W := by
  have := run_slice_string_h (P := Tryz.prog) (w := W) 9 ⟨y.toArray⟩ Tryz.underlying9 .i64 16 (by omega) (show (16 : Int) ≤ ((y.length : Nat) : Int) by omega)
  rw [this]
  have e : (⟨y.toArray⟩ : ByteArray).extract 0 (16 : Int).toNat = ⟨(y.take 16).toArray⟩ := by
    rw [ByteArray.extract_mk, List.drop_zero, Nat.sub_zero]; rfl
  rw [e]
theorem wrong (k : List UInt8) (f e : Int) (w : World) (h : ¬ (k.length = 32 ∧ 0 ≤ f ∧ f ≤ e ∧ e ≤ 4294967295)) :
    Calls Tryz.prog 19 #[.string ⟨k.toArray⟩, .int .i64 f, .int .i64 e] w fun r w' => r = .returned (.tuple #[.string ⟨#[]⟩, .int .i64 2]) ∧ w = w' := by
  by_cases hk : k.length = 32
  · have hq := ne32 hk
    rcases (show f < 0 ∨ (¬ f < 0 ∧ e < f) ∨ (¬ f < 0 ∧ ¬ e < f ∧ 4294967295 < e) from by
      by_cases h1 : f < 0
      · exact .inl h1
      by_cases h2 : e < f
      · exact .inr (.inl ⟨h1, h2⟩)
      · exact .inr (.inr ⟨h1, h2, by
          by_cases h3 : 4294967295 < e
          · exact h3
          · exact absurd ⟨hk, by omega, by omega, by omega⟩ h⟩)) with h1 | ⟨h1, h2⟩ | ⟨h1, h2, h3⟩
    all_goals clear h hk
    all_goals
      go_enter Tryz.func19, Tryz.ntmps19
      go_wp2_with fail
      go_ret2
      exact ⟨rfl, rfl⟩
  · have hq := is32 hk
    clear h hk
    go_enter Tryz.func19, Tryz.ntmps19
    go_wp2_with fail
    go_ret2
    exact ⟨rfl, rfl⟩
theorem far (k : List UInt8) (f e : Int) (w : World) (hk : k.length = 32) (h0 : 0 ≤ f) (h1 : f ≤ e) (h2 : e ≤ 4294967295) (h : 4096 < e - f) :
    Calls Tryz.prog 19 #[.string ⟨k.toArray⟩, .int .i64 f, .int .i64 e] w fun r w' => r = .returned (.tuple #[.string ⟨#[]⟩, .int .i64 6]) ∧ w = w' := by
  have hq := ne32 hk
  have h3 : ¬ e < f := by omega
  have h4 : ¬ 4294967295 < e := by omega
  have h5 : ¬ f < 0 := by omega
  clear hk
  go_enter Tryz.func19, Tryz.ntmps19
  go_wp2_with fail
  go_ret2
  exact ⟨rfl, rfl⟩
set_option maxRecDepth 100000 in
theorem good (k : List UInt8) (f e : Int) (n : Nat) (w : World) (hk : k.length = 32) (h0 : 0 ≤ f) (hn : e - f = (n : Int)) (h2 : e ≤ 4294967295) (h : n ≤ 4096) :
    Calls Tryz.prog 19 #[.string ⟨k.toArray⟩, .int .i64 f, .int .i64 e] w fun r w' => r = .returned (.tuple #[.string ⟨(nextN (macOf k (saidOf lSeal [f])) n).toArray⟩, .int .i64 0]) ∧ Below w.heap.size w w' := by
  obtain ⟨w1, hw1⟩ : ∃ w1, w1 = w.alloc (.cells #[.int .i64 f] 3) := ⟨_, rfl⟩
  have HB0 : Hid (Below w.heap.size w w1) := by rw [hw1]; exact (Below.refl _ _).alloc (Nat.le_refl _) _
  have hrow : Row w1 w1.heap.size (some ⟨w.heap.size, 0, none⟩) 1 [f] := by rw [hw1]; exact row_own (l := [f]) (DSaid.own_first f w)
  have H : Hid (Calls Tryz.prog 38 #[.string ⟨k.toArray⟩, .string ⟨#[115, 101, 97, 108]⟩, .slice (some ⟨w.heap.size, 0, none⟩) 1 1] w1 fun e w' => e = .returned (.tuple #[.string ⟨(made k lSeal [f]).1.toArray⟩, .bool (okB (made k lSeal [f]).2)]) ∧ Below w1.heap.size w1 w') :=
    Lib.hid (Made k lSeal _ 1 1 [f] w1 hrow (by simp; omega))
  rw [made_good hk (ok_seal h0), show okB 0 = true from rfl] at H
  have hz := first_length k f
  generalize macOf k (saidOf lSeal [f]) = z at *
  have HN : Hid (∀ (j : Nat) (W : World), Calls Tryz.prog 38 #[.string ⟨(nextN z j).toArray⟩, .string ⟨#[110, 101, 120, 116]⟩, .slice none 0 0] W fun r w' => r = .returned (.tuple #[.string ⟨(nextN z (j + 1)).toArray⟩, .bool true]) ∧ Below W.heap.size W w') := Lib.hid (fun j W => by
    have := Made (nextN z j) lNext none 0 0 [] W (row0 W) (by simp)
    rw [made_next hz] at this
    exact this)
  have hq := ne32 hk
  have h3 : ¬ e < f := by omega
  have h4 : ¬ 4294967295 < e := by omega
  have h5 : ¬ 4096 < e - f := by omega
  have h6 : ¬ f < 0 := by omega
  have HW1 := Lib.hid hw1
  clear hk hz hrow hw1
  go_enter Tryz.func19, Tryz.ntmps19
  go_wp2_with (go_at_call 38; rw [← HW1.out]; refine H.out.mono ?_; rintro r w2 ⟨rfl, hb2⟩; have HB2 := Lib.hid (HB0.out.trans (hb2.mono HB0.out.size)); clear hb2)
  go_loopw [8, 10] (fun x i wr => ∃ j : Nat, j ≤ n ∧ i = .int .i64 (f + (j : Int)) ∧ x = .string ⟨(nextN z j).toArray⟩ ∧ Below w.heap.size w wr) (fun _ i _ => (e - intOf i).toNat)
  case atStart => exact ⟨0, Nat.zero_le _, by simp, rfl, HB2.out⟩
  case round =>
    obtain ⟨j, hj, rfl, rfl, hbe⟩ := hrel
    have HBe := Lib.hid hbe
    clear hbe
    by_cases hlt : j < n
    · have hx := HN.out j
      have HX := Lib.hid hx
      clear hx HN
      have hjn : f + (j : Int) < e := by omega
      generalize hy : nextN z (j + 1) = y at *
      generalize nextN z j = x at *
      have HY := Lib.hid hy
      clear hy
      go_wp2_with (go_at_call 38; refine (HX.out _).mono ?_; rintro r w3 ⟨rfl, hb3⟩; have HB3 := Lib.hid (HBe.out.trans (hb3.mono HBe.out.size)); clear hb3)
      go_roundw
      case rel => exact ⟨j + 1, by omega, by go_num, by rw [HY.out], HB3.out⟩
      case measure => simp [intOf]; omega
    · obtain rfl : j = n := by omega
      have hjn : ¬ f + (j : Int) < e := by omega
      go_wp2_with fail
      go_ret2
      exact ⟨rfl, HBe.out⟩
/-- THE CONTRACT of the document's At. -/
theorem At (k : List UInt8) (f e : Int) (w : World) :
    Calls Tryz.prog 19 #[.string ⟨k.toArray⟩, .int .i64 f, .int .i64 e] w fun r w' => r = .returned (.tuple #[.string ⟨(at_ k f e).1.toArray⟩, .int .i64 (at_ k f e).2]) ∧ Below w.heap.size w w' := by
  by_cases h : k.length = 32 ∧ 0 ≤ f ∧ f ≤ e ∧ e ≤ 4294967295
  · obtain ⟨hk, h0, h1, h2⟩ := h
    by_cases h3 : e - f ≤ 4096
    · rw [at_good hk h0 h1 h2 h3]
      exact good k f e (e - f).toNat w hk h0 (by omega) h2 (by omega)
    · rw [at_far hk h0 h1 h2 h3]
      exact (far k f e w hk h0 h1 h2 (by omega)).mono fun r w' ⟨a, b⟩ => ⟨a, b ▸ Below.refl _ _⟩
  · rw [at_bad h]
    exact (wrong k f e w h).mono fun r w' ⟨a, b⟩ => ⟨a, b ▸ Below.refl _ _⟩
theorem made_kind (k l : List UInt8) (c : List Int) : (made k l c).2 = 0 ∨ (made k l c).2 = 2 := by
  unfold made keyFor
  split
  · split
    · exact .inl rfl
    · exact .inr rfl
  · exact .inr rfl
theorem data_kind (k : List UInt8) : (data k).2 = 0 ∨ (data k).2 = 2 := by
  unfold data
  split
  · exact .inl rfl
  · exact .inr rfl
end Go.Proofs.YtkidehngleglnaaGreatDoor.EvoR
