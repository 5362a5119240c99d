/- What derive.Key and keepsakeref04.Key answer, and the chapter's example: the walks of their texts. The condition of Key: the rounds' numbers lie in the program's variable. -/
import Derived.Test.YtcndlmkcnhhckaaDoorDSaid
import Derived.Test.YtcndlmkcnhhckaaDoorDRSaid
import Derived.Test.YtcndlmkcnhhckaaDoorHPart
import Derived.Test.YtcndlmkcnhhckaaDoorRMacs
namespace Go.Proofs.YtcndlmkcnhhckaaDoor.DKey
open Go.RowKit
open STurn
/-- THE CONTRACT of derive.Key. -/
theorem Key (k l : List UInt8) (a : Option Addr) (n cap : Nat) (c : List Int) (w : World) (hr : Rds w) (h : Row w w.heap.size a n c) (ha : a = none → n = 0 ∧ cap = 0) (hi : ∀ x ∈ c, x ≤ 9223372036854775807) (hk : k.length ≤ 576460752303423488) :
    Calls Tryd.prog 29 #[.string ⟨k.toArray⟩, .string ⟨l.toArray⟩, .slice a n cap] w fun e w' => e = .returned (.tuple #[.string ⟨(keyFor k l c).1.toArray⟩, .int .i64 (keyFor k l c).2]) ∧ Below w.heap.size w w' := by
  have HS := Lib.hid (DSaid.any l a n cap c w h ha hi)
  have HR := Lib.hid hr
  clear h ha hi hr
  by_cases hc : saidOk l c
  · have hsl := said_le l c hc
    have HM := Lib.hid (fun W hr => HPart.Mac k (saidOf l c) W hr hk (by omega))
    rw [said_good hc] at HS
    rw [key_good hc]
    generalize macOf k (saidOf l c) = z at *
    generalize saidOf l c = y at *
    clear hc
    go_enter Tryd.func29, Tryd.ntmps29
    go_wp2_with fail
    refine HS.out.mono ?_
    rintro e w1 ⟨rfl, hb1⟩
    have HB1 := Lib.hid hb1
    clear hb1
    go_wp2_with fail
    refine (HM.out _ (HR.out.step HB1.out)).mono ?_
    rintro e w2 ⟨rfl, hb2⟩
    have HB2 := Lib.hid (HB1.out.trans (hb2.mono HB1.out.size))
    clear hb2
    go_wp2
    go_ret2
    exact ⟨rfl, HB2.out⟩
  · rw [said_bad hc] at HS
    rw [key_bad hc]
    clear hc
    go_enter Tryd.func29, Tryd.ntmps29
    go_wp2_with fail
    refine HS.out.mono ?_
    rintro e w1 ⟨rfl, hb1⟩
    have HB1 := Lib.hid hb1
    clear hb1
    go_wp2_with fail
    go_ret2
    exact ⟨rfl, HB1.out⟩
end Go.Proofs.YtcndlmkcnhhckaaDoor.DKey
