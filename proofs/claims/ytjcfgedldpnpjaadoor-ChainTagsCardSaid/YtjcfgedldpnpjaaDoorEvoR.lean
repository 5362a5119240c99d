/- What the document's Made, Data and At answer, and whether an answer is what the document says: the walks of their texts. No conditions but those that each theorem names. -/
import Derived.Test.YtjcfgedldpnpjaaDoorLEvo
import Derived.Test.YtjcfgedldpnpjaaDoorLDer
import Derived.Test.YtjcfgedldpnpjaaDoorLRsum
namespace Go.Proofs.YtjcfgedldpnpjaaDoor.EvoR
set_option linter.unusedVariables false
open Go.RowKit
open EvoN EvoP
/-- Is an error's number that of none? -/
def okB (r : Int) : Bool := decide (r = 0)
theorem ne32 {l : List UInt8} (h : l.length = 32) : (((l.length : Nat) : Int) != 32) = false := by simp [h]
theorem is32 {l : List UInt8} (h : ¬ l.length = 32) : (((l.length : Nat) : Int) != 32) = true := by simp; omega
/-- THE CONTRACT of the document's Made. -/
theorem Made (k l : List UInt8) (a : Option Addr) (n cap : Nat) (c : List Int) (w : World) (h : Row w w.heap.size a n c) (hi : ∀ x ∈ c, x ≤ 9223372036854775807) :
    Calls Tryd.prog 32 #[.string ⟨k.toArray⟩, .string ⟨l.toArray⟩, .slice a n cap] w fun e w' => e = .returned (.tuple #[.string ⟨(made k l c).1.toArray⟩, .bool (okB (made k l c).2)]) ∧ Below w.heap.size w w' := by
  have HS := Lib.hid (DRSaid.any l a n cap c w h hi)
  clear h hi
  by_cases hk : k.length = 32
  · have hq := ne32 hk
    by_cases hc : saidOk l c
    · have hsl := said_le l c hc
      have HM := Lib.hid (fun W => RMacs.Mac k (saidOf l c) W (by omega) (by omega))
      rw [said_good hc] at HS
      rw [made_good hk hc, show okB 0 = true from rfl]
      generalize macOf k (saidOf l c) = z at *
      generalize saidOf l c = y at *
      clear hc hk hsl
      go_enter Tryd.func32, Tryd.ntmps32
      go_wp2_with (first
        | (go_at_call 53; refine HS.out.mono ?_; rintro e w1 ⟨rfl, hb1⟩; have HB1 := Lib.hid hb1; clear hb1)
        | (go_at_call 33; refine (HM.out _).mono ?_; rintro e w2 ⟨rfl, hb2⟩; have HB2 := Lib.hid (HB1.out.trans (hb2.mono HB1.out.size)); clear hb2))
      go_ret2
      exact ⟨rfl, HB2.out⟩
    · rw [said_bad hc] at HS
      rw [made_bad hc, show okB 2 = false from rfl]
      clear hc hk
      go_enter Tryd.func32, Tryd.ntmps32
      go_wp2_with (go_at_call 53; refine HS.out.mono ?_; rintro e w1 ⟨rfl, hb1⟩; have HB1 := Lib.hid hb1; clear hb1)
      go_ret2
      exact ⟨rfl, HB1.out⟩
  · have hq := is32 hk
    rw [made_short hk, show okB 2 = false from rfl]
    generalize said l c = r at *
    obtain ⟨r1, r2⟩ := r
    clear hk
    go_enter Tryd.func32, Tryd.ntmps32
    go_wp2_with (go_at_call 53; refine HS.out.mono ?_; rintro e w1 ⟨rfl, hb1⟩; have HB1 := Lib.hid hb1; clear hb1)
    go_ret2
    exact ⟨rfl, HB1.out⟩
theorem cut16 (y : List UInt8) (W : World) (h : y.length = 32) : (Instr.slice 9 (.string ⟨y.toArray⟩) none (some (.int .i64 16)) none).run Tryd.prog W = .ok (.string ⟨(y.take 16).toArray⟩) W := by
  have := run_slice_string_h (P := Tryd.prog) (w := W) 9 ⟨y.toArray⟩ Tryd.underlying9 .i64 16 (by omega) (show (16 : Int) ≤ ((y.length : Nat) : Int) by omega)
  rw [this]
  have e : (⟨y.toArray⟩ : ByteArray).extract 0 (16 : Int).toNat = ⟨(y.take 16).toArray⟩ := by
    rw [ByteArray.extract_mk, List.drop_zero, Nat.sub_zero]; rfl
  rw [e]
theorem made_kind (k l : List UInt8) (c : List Int) : (made k l c).2 = 0 ∨ (made k l c).2 = 2 := by
  unfold made keyFor
  split
  · split
    · exact .inl rfl
    · exact .inr rfl
  · exact .inr rfl
theorem data_kind (k : List UInt8) : (data k).2 = 0 ∨ (data k).2 = 2 := by
  unfold data
  split
  · exact .inl rfl
  · exact .inr rfl
end Go.Proofs.YtjcfgedldpnpjaaDoor.EvoR
