/- hmac's 'clash', by what it finds: the walks of its text. -/
import Derived.Test.YtcndlmkcnhhckaaDoorRows
import Derived.Test.YtcndlmkcnhhckaaDoorMem
import Derived.Test.YtcndlmkcnhhckaaDoorLOct
import Derived.Deep.QuietTactic
import Derived.BigQuiet
namespace Go.Proofs.YtcndlmkcnhhckaaDoor.HCla
open Go.RowKit
/-- What two sides tell: two unlike texts of one sum, if they are unlike and have one tag. -/
def found (a0 a1 a2 a3 a4 b0 b1 b2 b3 b4 : List UInt8) : List UInt8 × List UInt8 × Bool :=
  if a4 = b4 ∧ ¬ (a0 = b0 ∧ a1 = b1) then if a3 = b3 then (a2, b2, true) else (a3, b3, true) else ([], [], false)
set_option maxHeartbeats 1000000 in
theorem tags (a0 a1 a2 a3 a4 b0 b1 b2 b3 b4 : List UInt8) (w : World) (h : (!a4 == b4) = true) :
    Calls Tryd.prog 27 #[.agg #[.string ⟨a0.toArray⟩, .string ⟨a1.toArray⟩, .string ⟨a2.toArray⟩, .string ⟨a3.toArray⟩, .string ⟨a4.toArray⟩], .agg #[.string ⟨b0.toArray⟩, .string ⟨b1.toArray⟩, .string ⟨b2.toArray⟩, .string ⟨b3.toArray⟩, .string ⟨b4.toArray⟩]] w fun e w' => e = .returned (.tuple #[.string ⟨#[]⟩, .string ⟨#[]⟩, .bool false]) ∧ Below w.heap.size w w' := by
  have hb : Below w.heap.size w ((w.alloc (.cells #[.string ⟨a0.toArray⟩, .string ⟨a1.toArray⟩, .string ⟨a2.toArray⟩, .string ⟨a3.toArray⟩, .string ⟨a4.toArray⟩] 51)).alloc (.cells #[.string ⟨b0.toArray⟩, .string ⟨b1.toArray⟩, .string ⟨b2.toArray⟩, .string ⟨b3.toArray⟩, .string ⟨b4.toArray⟩] 51)) := ((Below.refl _ _).alloc (Nat.le_refl _) _).alloc (by simp) _
  have HB := Lib.hid hb
  clear hb
  go_enter Tryd.func27, Tryd.ntmps27
  go_wp2_with fail
  go_ret3
  exact ⟨rfl, HB.out⟩
set_option maxHeartbeats 1000000 in
theorem same (a0 a1 a2 a3 a4 b2 b3 : List UInt8) (w : World) :
    Calls Tryd.prog 27 #[.agg #[.string ⟨a0.toArray⟩, .string ⟨a1.toArray⟩, .string ⟨a2.toArray⟩, .string ⟨a3.toArray⟩, .string ⟨a4.toArray⟩], .agg #[.string ⟨a0.toArray⟩, .string ⟨a1.toArray⟩, .string ⟨b2.toArray⟩, .string ⟨b3.toArray⟩, .string ⟨a4.toArray⟩]] w fun e w' => e = .returned (.tuple #[.string ⟨#[]⟩, .string ⟨#[]⟩, .bool false]) ∧ Below w.heap.size w w' := by
  have hb : Below w.heap.size w ((w.alloc (.cells #[.string ⟨a0.toArray⟩, .string ⟨a1.toArray⟩, .string ⟨a2.toArray⟩, .string ⟨a3.toArray⟩, .string ⟨a4.toArray⟩] 51)).alloc (.cells #[.string ⟨a0.toArray⟩, .string ⟨a1.toArray⟩, .string ⟨b2.toArray⟩, .string ⟨b3.toArray⟩, .string ⟨a4.toArray⟩] 51)) := ((Below.refl _ _).alloc (Nat.le_refl _) _).alloc (by simp) _
  have HB := Lib.hid hb
  clear hb
  go_enter Tryd.func27, Tryd.ntmps27
  go_wp2_with fail
  go_ret3
  exact ⟨rfl, HB.out⟩
set_option maxHeartbeats 1000000 in
theorem key_outer (a0 a1 a2 a3 a4 b0 b1 b2 b3 : List UInt8) (w : World) (h0 : (a0 == b0) = false) (h3 : (!a3 == b3) = true) :
    Calls Tryd.prog 27 #[.agg #[.string ⟨a0.toArray⟩, .string ⟨a1.toArray⟩, .string ⟨a2.toArray⟩, .string ⟨a3.toArray⟩, .string ⟨a4.toArray⟩], .agg #[.string ⟨b0.toArray⟩, .string ⟨b1.toArray⟩, .string ⟨b2.toArray⟩, .string ⟨b3.toArray⟩, .string ⟨a4.toArray⟩]] w fun e w' => e = .returned (.tuple #[.string ⟨a3.toArray⟩, .string ⟨b3.toArray⟩, .bool true]) ∧ Below w.heap.size w w' := by
  have hb : Below w.heap.size w ((w.alloc (.cells #[.string ⟨a0.toArray⟩, .string ⟨a1.toArray⟩, .string ⟨a2.toArray⟩, .string ⟨a3.toArray⟩, .string ⟨a4.toArray⟩] 51)).alloc (.cells #[.string ⟨b0.toArray⟩, .string ⟨b1.toArray⟩, .string ⟨b2.toArray⟩, .string ⟨b3.toArray⟩, .string ⟨a4.toArray⟩] 51)) := ((Below.refl _ _).alloc (Nat.le_refl _) _).alloc (by simp) _
  have HB := Lib.hid hb
  clear hb
  go_enter Tryd.func27, Tryd.ntmps27
  go_wp2_with fail
  go_quiet (fail)
  go_wp2
  go_ret3
  exact ⟨rfl, HB.out.trans (below_drewN _ _)⟩
set_option maxHeartbeats 1000000 in
theorem key_inner (a0 a1 a2 a3 a4 b0 b1 b2 : List UInt8) (w : World) (h0 : (a0 == b0) = false) :
    Calls Tryd.prog 27 #[.agg #[.string ⟨a0.toArray⟩, .string ⟨a1.toArray⟩, .string ⟨a2.toArray⟩, .string ⟨a3.toArray⟩, .string ⟨a4.toArray⟩], .agg #[.string ⟨b0.toArray⟩, .string ⟨b1.toArray⟩, .string ⟨b2.toArray⟩, .string ⟨a3.toArray⟩, .string ⟨a4.toArray⟩]] w fun e w' => e = .returned (.tuple #[.string ⟨a2.toArray⟩, .string ⟨b2.toArray⟩, .bool true]) ∧ Below w.heap.size w w' := by
  have hb : Below w.heap.size w ((w.alloc (.cells #[.string ⟨a0.toArray⟩, .string ⟨a1.toArray⟩, .string ⟨a2.toArray⟩, .string ⟨a3.toArray⟩, .string ⟨a4.toArray⟩] 51)).alloc (.cells #[.string ⟨b0.toArray⟩, .string ⟨b1.toArray⟩, .string ⟨b2.toArray⟩, .string ⟨a3.toArray⟩, .string ⟨a4.toArray⟩] 51)) := ((Below.refl _ _).alloc (Nat.le_refl _) _).alloc (by simp) _
  have HB := Lib.hid hb
  clear hb
  go_enter Tryd.func27, Tryd.ntmps27
  go_wp2_with fail
  go_quiet (fail)
  go_wp2
  go_ret3
  exact ⟨rfl, HB.out.trans (below_drewN _ _)⟩
set_option maxHeartbeats 1000000 in
theorem msg_outer (a0 a1 a2 a3 a4 b1 b2 b3 : List UInt8) (w : World) (h1 : (a1 == b1) = false) (h3 : (!a3 == b3) = true) :
    Calls Tryd.prog 27 #[.agg #[.string ⟨a0.toArray⟩, .string ⟨a1.toArray⟩, .string ⟨a2.toArray⟩, .string ⟨a3.toArray⟩, .string ⟨a4.toArray⟩], .agg #[.string ⟨a0.toArray⟩, .string ⟨b1.toArray⟩, .string ⟨b2.toArray⟩, .string ⟨b3.toArray⟩, .string ⟨a4.toArray⟩]] w fun e w' => e = .returned (.tuple #[.string ⟨a3.toArray⟩, .string ⟨b3.toArray⟩, .bool true]) ∧ Below w.heap.size w w' := by
  have hb : Below w.heap.size w ((w.alloc (.cells #[.string ⟨a0.toArray⟩, .string ⟨a1.toArray⟩, .string ⟨a2.toArray⟩, .string ⟨a3.toArray⟩, .string ⟨a4.toArray⟩] 51)).alloc (.cells #[.string ⟨a0.toArray⟩, .string ⟨b1.toArray⟩, .string ⟨b2.toArray⟩, .string ⟨b3.toArray⟩, .string ⟨a4.toArray⟩] 51)) := ((Below.refl _ _).alloc (Nat.le_refl _) _).alloc (by simp) _
  have HB := Lib.hid hb
  clear hb
  go_enter Tryd.func27, Tryd.ntmps27
  go_wp2_with fail
  go_quiet (fail)
  go_wp2
  go_ret3
  exact ⟨rfl, HB.out.trans (below_drewN _ _)⟩
set_option maxHeartbeats 1000000 in
theorem msg_inner (a0 a1 a2 a3 a4 b1 b2 : List UInt8) (w : World) (h1 : (a1 == b1) = false) :
    Calls Tryd.prog 27 #[.agg #[.string ⟨a0.toArray⟩, .string ⟨a1.toArray⟩, .string ⟨a2.toArray⟩, .string ⟨a3.toArray⟩, .string ⟨a4.toArray⟩], .agg #[.string ⟨a0.toArray⟩, .string ⟨b1.toArray⟩, .string ⟨b2.toArray⟩, .string ⟨a3.toArray⟩, .string ⟨a4.toArray⟩]] w fun e w' => e = .returned (.tuple #[.string ⟨a2.toArray⟩, .string ⟨b2.toArray⟩, .bool true]) ∧ Below w.heap.size w w' := by
  have hb : Below w.heap.size w ((w.alloc (.cells #[.string ⟨a0.toArray⟩, .string ⟨a1.toArray⟩, .string ⟨a2.toArray⟩, .string ⟨a3.toArray⟩, .string ⟨a4.toArray⟩] 51)).alloc (.cells #[.string ⟨a0.toArray⟩, .string ⟨b1.toArray⟩, .string ⟨b2.toArray⟩, .string ⟨a3.toArray⟩, .string ⟨a4.toArray⟩] 51)) := ((Below.refl _ _).alloc (Nat.le_refl _) _).alloc (by simp) _
  have HB := Lib.hid hb
  clear hb
  go_enter Tryd.func27, Tryd.ntmps27
  go_wp2_with fail
  go_quiet (fail)
  go_wp2
  go_ret3
  exact ⟨rfl, HB.out.trans (below_drewN _ _)⟩
/-- THE CONTRACT of hmac's clash, at any two sides. -/
theorem any (a0 a1 a2 a3 a4 b0 b1 b2 b3 b4 : List UInt8) (w : World) :
    Calls Tryd.prog 27 #[.agg #[.string ⟨a0.toArray⟩, .string ⟨a1.toArray⟩, .string ⟨a2.toArray⟩, .string ⟨a3.toArray⟩, .string ⟨a4.toArray⟩], .agg #[.string ⟨b0.toArray⟩, .string ⟨b1.toArray⟩, .string ⟨b2.toArray⟩, .string ⟨b3.toArray⟩, .string ⟨b4.toArray⟩]] w fun e w' => e = .returned (.tuple #[.string ⟨(found a0 a1 a2 a3 a4 b0 b1 b2 b3 b4).1.toArray⟩, .string ⟨(found a0 a1 a2 a3 a4 b0 b1 b2 b3 b4).2.1.toArray⟩, .bool (found a0 a1 a2 a3 a4 b0 b1 b2 b3 b4).2.2]) ∧ Below w.heap.size w w' := by
  by_cases h4 : a4 = b4
  · subst h4
    by_cases h : a0 = b0 ∧ a1 = b1
    · obtain ⟨rfl, rfl⟩ := h
      rw [show found a0 a1 a2 a3 a4 a0 a1 b2 b3 a4 = ([], [], false) from if_neg (fun h => h.2 ⟨rfl, rfl⟩)]
      exact same _ _ _ _ _ _ _ w
    · by_cases h3 : a3 = b3
      · subst h3
        rw [show found a0 a1 a2 a3 a4 b0 b1 b2 a3 a4 = (a2, b2, true) from (if_pos ⟨rfl, h⟩).trans (if_pos rfl)]
        by_cases h0 : a0 = b0
        · subst h0
          exact msg_inner _ _ _ _ _ _ _ w (by simpa using fun e => h ⟨rfl, e⟩)
        · exact key_inner _ _ _ _ _ _ _ _ w (by simpa using h0)
      · rw [show found a0 a1 a2 a3 a4 b0 b1 b2 b3 a4 = (a3, b3, true) from (if_pos ⟨rfl, h⟩).trans (if_neg h3)]
        by_cases h0 : a0 = b0
        · subst h0
          exact msg_outer _ _ _ _ _ _ _ _ w (by simpa using fun e => h ⟨rfl, e⟩) (by simpa using h3)
        · exact key_outer _ _ _ _ _ _ _ _ _ w (by simpa using h0) (by simpa using h3)
  · rw [show found a0 a1 a2 a3 a4 b0 b1 b2 b3 b4 = ([], [], false) from if_neg (fun h => h4 h.1)]
    exact tags _ _ _ _ _ _ _ _ _ _ w (by simpa using h4)
end Go.Proofs.YtcndlmkcnhhckaaDoor.HCla
