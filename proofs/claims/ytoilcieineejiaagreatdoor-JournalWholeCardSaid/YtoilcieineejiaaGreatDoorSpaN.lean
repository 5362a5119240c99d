/- Plain mathematics of space: what a call answers, and how many are taken behind it. No program is reached here; no conditions. -/
import Derived.Test.YtoilcieineejiaaGreatDoorLGeo
namespace Go.Proofs.YtoilcieineejiaaGreatDoor.SpaN
open GeoN
/-- A space that may be: its shape, and how many of its blocks are taken. -/
def good (b l f u : Int) : Prop := right b l f ∧ 0 ≤ u ∧ u ≤ b - 4
instance (b l f u : Int) : Decidable (good b l f u) := inferInstanceAs (Decidable (_ ∧ _))
theorem good.data {b l f u : Int} (h : good b l f u) : GeoN.data b l f = b - 4 := data_yes h.1
theorem good.b {b l f u : Int} (h : good b l f u) : 8 ≤ b ∧ b ≤ 1024 := ⟨h.1.1, h.1.2.1⟩
/-- Is there no room? -/
def full (b l f u : Int) : Bool := decide (room b l f u = 0)
/-- Is an epoch open? -/
def opened (b l f u : Int) : Bool := decide (u < GeoN.data b l f)
theorem full_yes {b l f u : Int} (h : room b l f u = 0) : full b l f u = true := decide_eq_true h
theorem full_no {b l f u : Int} (h : ¬ room b l f u = 0) : full b l f u = false := decide_eq_false h
theorem opened_yes {b l f u : Int} (h : u < GeoN.data b l f) : opened b l f u = true := decide_eq_true h
theorem opened_no {b l f u : Int} (h : ¬ u < GeoN.data b l f) : opened b l f u = false := decide_eq_false h
/-- The next number is one that may be, too, where an epoch is open; and where there is room one is. -/
theorem good.next {b l f u : Int} (h : good b l f u) (ho : u < GeoN.data b l f) : good b l f (u + 1) := by
  rw [h.data] at ho
  exact ⟨h.1, by have := h.2.1; omega, by omega⟩
theorem good.room {b l f u : Int} (h : good b l f u) (ho : ¬ GeoN.room b l f u = 0) : u < GeoN.data b l f := by
  rw [h.data]
  by_cases hh : GeoN.right b l f ∧ 0 ≤ u ∧ u < b - 5
  · omega
  · exact absurd (room_no hh) ho
theorem good.back {b l f u n : Int} (h : good b l f u) (h0 : ¬ n < 0) (h1 : ¬ u < n) : good b l f n := ⟨h.1, by omega, by have := h.2.2; omega⟩
theorem good.u {b l f u : Int} (h : good b l f u) : 0 ≤ u ∧ u ≤ 1020 := by have := h.b; exact ⟨h.2.1, by have := h.2.2; omega⟩
end Go.Proofs.YtoilcieineejiaaGreatDoor.SpaN
