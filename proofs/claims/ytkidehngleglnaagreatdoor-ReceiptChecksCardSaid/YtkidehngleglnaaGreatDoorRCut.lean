/- What keepsakeref01.Cut answers: the walk of its text. -/
import Derived.Test.YtkidehngleglnaaGreatDoorLRef
import Derived.Deep.QuietTactic
import Derived.BigQuiet
namespace Go.Proofs.YtkidehngleglnaaGreatDoor.RCut
open Go.RowKit
theorem short (l : List UInt8) (w : World) (h : l.length < 4) :
    Calls Tryz.prog 49 #[.string ⟨l.toArray⟩] w fun e w' => e = .returned (.tuple #[.string ⟨#[]⟩, .string ⟨#[]⟩, .int .i64 3]) ∧ w = w' := by
  go_enter Tryz.func49, Tryz.ntmps49
  go_wp2
  go_ret3
  exact ⟨rfl, rfl⟩
theorem good (l : List UInt8) (w : World) (h : ¬ l.length < 4) (hm : l.length ≤ maxLen) :
    Calls Tryz.prog 49 #[.string ⟨l.toArray⟩] w fun e w' => e = .returned (.tuple #[.string ⟨(cut l).1.toArray⟩, .string ⟨(cut l).2.1.toArray⟩, .int .i64 (cut l).2.2]) ∧ ∃ n, w' = w.drewN n := by
  unfold maxLen at hm
  obtain ⟨hg, hn⟩ := get_four l (by omega)
  have hget : ∀ W, Calls Tryz.prog 27 #[.string ((⟨l.toArray⟩ : ByteArray).extract 0 4)] W fun e w' => e = .returned (.tuple #[.int .i64 (num (l.take 4) : Int), .int .i64 0]) ∧ W = w' := by
    intro W
    have := RGet.any ((⟨l.toArray⟩ : ByteArray).extract 0 4) W
    rw [ByteArray.extract_mk, List.drop_zero, show ((⟨(l.take (4 - 0)).toArray⟩ : ByteArray)).data.toList = l.take 4 from rfl, hg] at this
    rw [ByteArray.extract_mk, List.drop_zero]
    exact this
  have Hget := Lib.hid hget
  clear hget hg
  by_cases hb : l.length - 4 < num (l.take 4)
  · rw [cut_bad l (.inr hb)]
    generalize num (l.take 4) = n at *
    go_enter Tryz.func49, Tryz.ntmps49
    go_wp2_with (go_at_call 27; refine (Hget.out _).mono ?_; rintro e w' ⟨rfl, rfl⟩)
    go_ret3
    exact ⟨rfl, 0, rfl⟩
  · rw [cut_good l (by omega) (by omega)]
    have e1 := ext_mid l (num (l.take 4))
    have e2 := ext_end l (num (l.take 4))
    generalize num (l.take 4) = n at *
    have E1 := Lib.hid e1
    have E2 := Lib.hid e2
    clear e1 e2
    go_enter Tryz.func49, Tryz.ntmps49
    go_wp2_with (go_at_call 27; refine (Hget.out _).mono ?_; rintro e w' ⟨rfl, rfl⟩)
    have q1 : 4 + n ≤ l.length := by omega
    have q2 : (4 : Int) + (n : Int) ≤ (l.length : Int) := by omega
    have q3 : (0 : Int) ≤ 4 + (n : Int) := by omega
    have q4 : IntKind.i64.wrap (4 + (n : Int)) = 4 + (n : Int) := IntWalk.i64_in _ (by omega)
    have q5 : ((4 : Int) + (n : Int)).toNat = 4 + n := by omega
    have hs1 : ∀ W, (Instr.slice 9 (.string ⟨l.toArray⟩) (some (.int .i64 4)) (some (.int .i64 (4 + (n : Int)))) none).run Tryz.prog W = .ok (.string ((⟨l.toArray⟩ : ByteArray).extract 4 (4 + n))) W := by
      intro W
      have := run_slice_string (P := Tryz.prog) (w := W) 9 ⟨l.toArray⟩ .i64 .i64 4 (4 + (n : Int)) Tryz.underlying9 (by omega) (by omega) q2
      rw [q5] at this
      exact this
    go_quiet (fail)
    clear q4 q5
    go_wp2
    go_ret3
    exact ⟨by rw [E1.out, E2.out]; rfl, nq, rfl⟩
/-- THE CONTRACT of keepsakeref01.Cut, at any text. -/
theorem any (s : ByteArray) (w : World) (hm : s.size ≤ maxLen) :
    Calls Tryz.prog 49 #[.string s] w fun e w' => e = .returned (.tuple #[.string ⟨(cut s.data.toList).1.toArray⟩, .string ⟨(cut s.data.toList).2.1.toArray⟩, .int .i64 (cut s.data.toList).2.2]) ∧ ∃ n, w' = w.drewN n := by
  obtain ⟨l, rfl⟩ : ∃ l : List UInt8, s = ⟨l.toArray⟩ := ⟨s.data.toList, rfl⟩
  by_cases h : l.length < 4
  · rw [show ((⟨l.toArray⟩ : ByteArray)).data.toList = l from rfl, cut_bad l (.inl h)]
    exact (short l w h).mono fun _ _ ⟨h1, h2⟩ => ⟨h1, 0, h2.symm⟩
  · exact good l w h hm
end Go.Proofs.YtkidehngleglnaaGreatDoor.RCut
