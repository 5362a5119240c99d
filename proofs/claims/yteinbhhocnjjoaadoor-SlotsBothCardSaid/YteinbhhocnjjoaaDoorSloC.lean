/- isEpoch, place, isEmpty of slots, and the document's Right: the walks of their texts. No conditions but those that each lemma names. -/
import Derived.Test.YteinbhhocnjjoaaDoorSloN
import Derived.Test.YteinbhhocnjjoaaDoorSSame
namespace Go.Proofs.YteinbhhocnjjoaaDoor.SloC
open Go.RowKit
open SloN
theorem mk_append (l m : List UInt8) : (⟨l.toArray⟩ : ByteArray) ++ ⟨m.toArray⟩ = ⟨(l ++ m).toArray⟩ := by
  apply ByteArray.ext
  simp [ByteArray.data_append]
theorem size_mk (s : List UInt8) : (⟨s.toArray⟩ : ByteArray).size = s.length := by simp [ByteArray.size]
theorem ext_at (s : List UInt8) (n m : Nat) : (⟨s.toArray⟩ : ByteArray).extract n m = ⟨((s.drop n).take (m - n)).toArray⟩ := by rw [ByteArray.extract_mk]
theorem dt {p : Prop} [Decidable p] (h : p) : decide p = true := decide_eq_true h
theorem df {p : Prop} [Decidable p] (h : ¬ p) : decide p = false := decide_eq_false h
/-- What isEpoch answers. -/
theorem isEpoch (n : Int) (w : World) :
    Calls Tryd.prog 21 #[.int .i64 n] w fun r w' => r = .returned (.bool (decide (may n))) ∧ w = w' := by
  by_cases h0 : 0 ≤ n
  · by_cases h1 : n ≤ 4294967295
    · have HD := Lib.hid (dt (show may n from ⟨h0, h1⟩))
      go_enter Tryd.func21, Tryd.ntmps21
      go_wp2
      go_ret
      exact ⟨by rw [HD.out] <;> rfl, rfl⟩
    · have HD := Lib.hid (df (fun h : may n => h1 h.2))
      go_enter Tryd.func21, Tryd.ntmps21
      go_wp2
      go_ret
      exact ⟨by rw [HD.out] <;> rfl, rfl⟩
  · have HD := Lib.hid (df (fun h : may n => h0 h.1))
    go_enter Tryd.func21, Tryd.ntmps21
    go_wp2
    go_ret
    exact ⟨by rw [HD.out] <;> rfl, rfl⟩
/-- What the document's Right answers. -/
theorem Right (n : Int) (w : World) :
    Calls Tryd.prog 25 #[.int .i64 n] w fun r w' => r = .returned (.bool (decide (may n))) ∧ w = w' := by
  by_cases h0 : 0 ≤ n
  · by_cases h1 : n ≤ 4294967295
    · have HD := Lib.hid (dt (show may n from ⟨h0, h1⟩))
      go_enter Tryd.func25, Tryd.ntmps25
      go_wp2
      go_ret
      exact ⟨by rw [HD.out] <;> rfl, rfl⟩
    · have HD := Lib.hid (df (fun h : may n => h1 h.2))
      go_enter Tryd.func25, Tryd.ntmps25
      go_wp2
      go_ret
      exact ⟨by rw [HD.out] <;> rfl, rfl⟩
  · have HD := Lib.hid (df (fun h : may n => h0 h.1))
    go_enter Tryd.func25, Tryd.ntmps25
    go_wp2
    go_ret
    exact ⟨by rw [HD.out] <;> rfl, rfl⟩
/-- What place answers of a number that is not below 0. -/
theorem place (n : Int) (w : World) (h0 : 0 ≤ n) :
    Calls Tryd.prog 32 #[.int .i64 n] w fun r w' => r = .returned (.int .i64 (n % 2)) ∧ w = w' := by
  have ht : Int.tmod n 2 = n % 2 := Int.tmod_eq_emod_of_nonneg h0
  have HT := Lib.hid ht
  clear ht
  go_enter Tryd.func32, Tryd.ntmps32
  go_wp2
  go_ret
  exact ⟨by first | rfl | rw [HT.out], rfl⟩
/-- What isEmpty answers of a text. -/
theorem isEmpty_len (s : List UInt8) (w : World) (h : (((s.length : Nat) : Int) == 4096) = false) :
    Calls Tryd.prog 28 #[.string ⟨s.toArray⟩] w fun r w' => r = .returned (.bool false) ∧ Below w.heap.size w w' := by
  have hz := size_mk s
  go_enter Tryd.func28, Tryd.ntmps28
  go_wp2
  go_ret
  exact ⟨rfl, Below.refl _ _⟩
theorem isEmpty_any (s : List UInt8) (n : Int) (r : Bool) (w : World) (h : s.length = 4096) (hn : SamN.any s = n) (hr : (n == 0) = r) :
    Calls Tryd.prog 28 #[.string ⟨s.toArray⟩] w fun e w' => e = .returned (.bool r) ∧ Below w.heap.size w w' := by
  have hz := size_mk s
  have HA := Lib.hid (fun W => SBit.Any s W (by simp [maxLen]; omega))
  rw [hn] at HA
  clear hn
  go_enter Tryd.func28, Tryd.ntmps28
  go_wp2_with (go_at_call 44; refine (HA.out _).mono ?_; rintro e w1 ⟨rfl, hb1⟩)
  go_ret
  exact ⟨by rw [← hr] <;> rfl, hb1⟩
theorem isEmpty (s : List UInt8) (w : World) :
    Calls Tryd.prog 28 #[.string ⟨s.toArray⟩] w fun e w' => e = .returned (.bool (decide (s = empty))) ∧ Below w.heap.size w w' := by
  by_cases h : s.length = 4096
  · have hn : SamN.any s = if s = empty then 0 else 1 := by unfold SamN.any; rw [h]; rfl
    by_cases he : s = empty
    · rw [dt he]
      rw [if_pos he] at hn
      exact isEmpty_any s 0 true w h hn rfl
    · rw [df he]
      rw [if_neg he] at hn
      exact isEmpty_any s 1 false w h hn rfl
  · rw [df (fun e : s = empty => h (by rw [e]; exact empty_len))]
    exact isEmpty_len s w (by rw [beq_eq_false_iff_ne]; omega)
end Go.Proofs.YteinbhhocnjjoaaDoor.SloC
