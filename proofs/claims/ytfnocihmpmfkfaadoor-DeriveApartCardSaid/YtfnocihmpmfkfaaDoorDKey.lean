/- What derive.Key and keepsakeref04.Key answer, and the chapter's example: the walks of their texts. The condition of Key: the rounds' numbers lie in the program's variable. -/
import Derived.Test.YtfnocihmpmfkfaaDoorDSaid
import Derived.Test.YtfnocihmpmfkfaaDoorDRSaid
import Derived.Test.YtfnocihmpmfkfaaDoorHPart
import Derived.Test.YtfnocihmpmfkfaaDoorRMacs
namespace Go.Proofs.YtfnocihmpmfkfaaDoor.DKey
open Go.RowKit
open STurn
/-- THE CONTRACT of derive.Key. -/
theorem Key (k l : List UInt8) (a : Option Addr) (n cap : Nat) (c : List Int) (w : World) (hr : Rds w) (h : Row w w.heap.size a n c) (ha : a = none → n = 0 ∧ cap = 0) (hi : ∀ x ∈ c, x ≤ 9223372036854775807) (hk : k.length ≤ 576460752303423488) :
    Calls Tryd.prog 10 #[.string ⟨k.toArray⟩, .string ⟨l.toArray⟩, .slice a n cap] w fun e w' => e = .returned (.tuple #[.string ⟨(keyFor k l c).1.toArray⟩, .int .i64 (keyFor k l c).2]) ∧ Below w.heap.size w w' := by
  have HS := Lib.hid (DSaid.any l a n cap c w h ha hi)
  have HR := Lib.hid hr
  clear h ha hi hr
  by_cases hc : saidOk l c
  · have hsl := said_le l c hc
    have HM := Lib.hid (fun W hr => HPart.Mac k (saidOf l c) W hr hk (by omega))
    rw [said_good hc] at HS
    rw [key_good hc]
    generalize macOf k (saidOf l c) = z at *
    generalize saidOf l c = y at *
    clear hc
    go_enter Tryd.func10, Tryd.ntmps10
    go_wp2_with fail
    refine HS.out.mono ?_
    rintro e w1 ⟨rfl, hb1⟩
    have HB1 := Lib.hid hb1
    clear hb1
    go_wp2_with fail
    refine (HM.out _ (HR.out.step HB1.out)).mono ?_
    rintro e w2 ⟨rfl, hb2⟩
    have HB2 := Lib.hid (HB1.out.trans (hb2.mono HB1.out.size))
    clear hb2
    go_wp2
    go_ret2
    exact ⟨rfl, HB2.out⟩
  · rw [said_bad hc] at HS
    rw [key_bad hc]
    clear hc
    go_enter Tryd.func10, Tryd.ntmps10
    go_wp2_with fail
    refine HS.out.mono ?_
    rintro e w1 ⟨rfl, hb1⟩
    have HB1 := Lib.hid hb1
    clear hb1
    go_wp2_with fail
    go_ret2
    exact ⟨rfl, HB1.out⟩
/-- THE CONTRACT of keepsakeref04.Key. -/
theorem RKey (k l : List UInt8) (a : Option Addr) (n cap : Nat) (c : List Int) (w : World) (h : Row w w.heap.size a n c) (hi : ∀ x ∈ c, x ≤ 9223372036854775807) (hk : k.length ≤ 500) :
    Calls Tryd.prog 11 #[.string ⟨k.toArray⟩, .string ⟨l.toArray⟩, .slice a n cap] w fun e w' => e = .returned (.tuple #[.string ⟨(keyFor k l c).1.toArray⟩, .int .i64 (keyFor k l c).2]) ∧ Below w.heap.size w w' := by
  have HS := Lib.hid (DRSaid.any l a n cap c w h hi)
  clear h hi
  by_cases hc : saidOk l c
  · have hsl := said_le l c hc
    have HM := Lib.hid (fun W => RMacs.Mac k (saidOf l c) W hk (by omega))
    rw [said_good hc] at HS
    rw [key_good hc]
    generalize macOf k (saidOf l c) = z at *
    generalize saidOf l c = y at *
    clear hc
    go_enter Tryd.func11, Tryd.ntmps11
    go_wp2_with fail
    refine HS.out.mono ?_
    rintro e w1 ⟨rfl, hb1⟩
    have HB1 := Lib.hid hb1
    clear hb1
    go_wp2_with fail
    refine (HM.out _).mono ?_
    rintro e w2 ⟨rfl, hb2⟩
    have HB2 := Lib.hid (HB1.out.trans (hb2.mono HB1.out.size))
    clear hb2
    go_wp2
    go_ret2
    exact ⟨rfl, HB2.out⟩
  · rw [said_bad hc] at HS
    rw [key_bad hc]
    clear hc
    go_enter Tryd.func11, Tryd.ntmps11
    go_wp2_with fail
    refine HS.out.mono ?_
    rintro e w1 ⟨rfl, hb1⟩
    have HB1 := Lib.hid hb1
    clear hb1
    go_wp2_with fail
    go_ret2
    exact ⟨rfl, HB1.out⟩
/-- The chapter's example, as the statements ask for it: true in every world. -/
theorem alive (w : World) : Calls Tryd.prog 7 #[] w fun e w' => e = .returned (.bool true) ∧ Below w.heap.size w w' := by
  have hok : saidOk [0x61] [1] := by decide
  obtain ⟨w1, hw1⟩ : ∃ w1, w1 = w.alloc (.cells #[.int .i64 1] 3) := ⟨_, rfl⟩
  have hrow : Row w1 w1.heap.size (some ⟨w.heap.size, 0, none⟩) 1 [1] := by rw [hw1]; exact row_own (l := [1]) (DSaid.own_first 1 w)
  have HB0 : Hid (Below w.heap.size w w1) := by rw [hw1]; exact (Below.refl _ _).alloc (Nat.le_refl _) _
  have HS := Lib.hid (DSaid.any [0x61] (some ⟨w.heap.size, 0, none⟩) 1 1 [1] w1 hrow (fun h => by cases h) (by simp))
  rw [said_good hok, said_a] at HS
  have HW1 := Lib.hid hw1
  clear hok hrow hw1
  go_enter Tryd.func7, Tryd.ntmps7
  go_wp2_with fail
  rw [← HW1.out]
  refine HS.out.mono ?_
  rintro e w2 ⟨rfl, hb2⟩
  have HB2 := Lib.hid (HB0.out.trans (hb2.mono HB0.out.size))
  clear hb2
  go_wp2_with fail
  go_ret
  exact ⟨rfl, HB2.out⟩
end Go.Proofs.YtfnocihmpmfkfaaDoor.DKey
