/- SameThree: of any two texts that have as many bytes (at most 5,000; of others the chapter's examples alone) just one is so: the one is less, the other one is less, both are the same; and Choose, by Bit's answer, is the second one. No condition but that the arguments are a Go program's (a string of at most 2^47 bytes). -/
import Derived.Test.YtcnmhldcgmfaeaaSSame
import Derived.Test.YtcnmhldcgmfaeaaRows
import Derived.WalkKit
import Derived.ProofKit
import Derived.OpenShut
import Derived.ShutString
import Derived.ChangeOld
import Derived.Below
namespace Go.Proofs.Ytcnmhldcgmfaeaa.sameThree
open Go.ChangeShapes Go.WideShapes Go.ChangeAt Go.RowKit
open Go.ChangeMaps (open_string shut_string)
set_option linter.unusedVariables false
open SamN
theorem long (a b : ByteArray) (w : World) (h : 5000 < (a.size : Int) ∨ ¬ 5000 < (a.size : Int) ∧ ¬ (b.size : Int) = (a.size : Int)) :
    Calls Try.prog 5 #[.string a, .string b] w fun e w' => e = .returned (.bool true) ∧ Below w.heap.size w w' := by
  rcases h with h | ⟨h1, h2⟩
  · go_enter Try.func5, Try.ntmps5
    go_wp2_with fail
    refine (SSame.alive _).mono ?_
    rintro e w1 ⟨rfl, hb1⟩
    go_wp2
    go_ret
    exact ⟨rfl, hb1⟩
  · have hne : ((b.size : Int) == (a.size : Int)) = false := by rw [beq_eq_false_iff_ne]; exact h2
    have hne' : ((b.size : Int) != (a.size : Int)) = true := by rw [bne, hne]; rfl
    clear h2
    go_enter Try.func5, Try.ntmps5
    go_wp2_with fail
    refine (SSame.alive _).mono ?_
    rintro e w1 ⟨rfl, hb1⟩
    go_wp2
    go_ret
    exact ⟨rfl, hb1⟩
set_option maxHeartbeats 1000000 in
theorem core (a b c : List UInt8) (x y z : Int) (w : World) (h1 : a.length ≤ 5000) (h2 : b.length = a.length) (hx : less a b = x) (hy : less b a = y) (hz : bit a b = z) (hc : SCho.chosen z a b = c) (hcb : (c == b) = true)
    (h : x = 0 ∧ y = 0 ∧ z = 1 ∨ x = 1 ∧ y = 0 ∧ z = 0 ∨ x = 0 ∧ y = 1 ∧ z = 0) :
    Calls Try.prog 5 #[.string ⟨a.toArray⟩, .string ⟨b.toArray⟩] w fun e w' => e = .returned (.bool true) ∧ Below w.heap.size w w' := by
  have P1 := Lib.hid (fun W => SLes.Less a b W (by unfold maxLen; omega))
  have P2 := Lib.hid (fun W => SLes.Less b a W (by unfold maxLen; omega))
  have P3 := Lib.hid (fun W => SBit.Bit a b W (by unfold maxLen; omega))
  have P4 := Lib.hid (fun W => SCho.Choose z a b W (by omega))
  rw [hx] at P1
  rw [hy] at P2
  rw [hz] at P3
  rw [hc] at P4
  have hal : ¬ 5000 < (a.length : Int) := by omega
  have hne : ((b.length : Int) == (a.length : Int)) = true := by rw [beq_iff_eq]; omega
  have hne' : ((b.length : Int) != (a.length : Int)) = false := by rw [bne, hne]; rfl
  clear hx hy hz hc h1 h2
  rcases h with ⟨rfl, rfl, rfl⟩ | ⟨rfl, rfl, rfl⟩ | ⟨rfl, rfl, rfl⟩
  all_goals
    go_enter Try.func5, Try.ntmps5
    go_wp2_with fail
    refine (P1.out _).mono ?_
    rintro e w1 ⟨rfl, hb1⟩
    have B1 := Lib.hid hb1
    clear hb1
    go_wp2_with fail
    refine (P2.out _).mono ?_
    rintro e w2 ⟨rfl, hb2⟩
    have B2 := Lib.hid (B1.out.trans (hb2.mono B1.out.size))
    clear hb2
    go_wp2_with fail
    refine (P3.out _).mono ?_
    rintro e w3 ⟨rfl, hb3⟩
    have B3 := Lib.hid (B2.out.trans (hb3.mono B2.out.size))
    clear hb3
    go_wp2_with fail
    refine (P3.out _).mono ?_
    rintro e w4 ⟨rfl, hb4⟩
    have B4 := Lib.hid (B3.out.trans (hb4.mono B3.out.size))
    clear hb4
    go_wp2_with fail
    refine (P4.out _).mono ?_
    rintro e w5 ⟨rfl, hb5⟩
    have B5 := Lib.hid (B4.out.trans (hb5.mono B4.out.size))
    clear hb5
    go_wp2_with fail
    refine (SSame.alive _).mono ?_
    rintro e w6 ⟨rfl, hb6⟩
    have B6 := Lib.hid (B5.out.trans (hb6.mono B5.out.size))
    clear hb6
    go_wp2
    go_ret
    exact ⟨rfl, B6.out⟩
theorem walk (a b : ByteArray) (w : World) (w0 : a.size ≤ maxLen) (w1 : b.size ≤ maxLen) :
    Calls Try.prog 5 #[.string a, .string b] w fun e w' => e = .returned (.bool true) ∧ Below w.heap.size w w' := by
  clear w0 w1
  by_cases h : 5000 < (a.size : Int) ∨ ¬ 5000 < (a.size : Int) ∧ ¬ (b.size : Int) = (a.size : Int)
  · exact long a b w h
  · obtain ⟨l, rfl⟩ : ∃ l : List UInt8, a = ⟨l.toArray⟩ := ⟨a.data.toList, rfl⟩
    obtain ⟨m, rfl⟩ : ∃ l : List UInt8, b = ⟨l.toArray⟩ := ⟨b.data.toList, rfl⟩
    have hl : (⟨l.toArray⟩ : ByteArray).size = l.length := rfl
    have hm : (⟨m.toArray⟩ : ByteArray).size = m.length := rfl
    have he : m.length = l.length := by omega
    by_cases hh : l = m
    · subst hh
      refine core l l l _ _ _ w (by omega) rfl rfl rfl rfl ?_ (by rw [beq_iff_eq]) (.inl ⟨?_, ?_, ?_⟩)
      · simp [SCho.chosen]
      · simp [less]
      · simp [less]
      · simp [bit]
    · have hb : bit l m = 0 := if_neg hh
      refine core l m m _ _ _ w (by omega) he rfl rfl rfl ?_ (by rw [beq_iff_eq]) (.inr ?_)
      · rw [hb, SCho.chosen, if_pos he.symm]; rfl
      · have hn : num l ≠ num m := fun g => hh (num_inj l m he.symm g)
        by_cases hx : num l < num m
        · exact .inl ⟨if_pos ⟨he.symm, hx⟩, if_neg (fun g => by have := g.2; omega), hb⟩
        · exact .inr ⟨if_neg (fun g => hx g.2), if_pos ⟨he, by omega⟩, hb⟩
theorem own : ownKnob Try.prog.godebug = none := by kernel_rfl
theorem laidOut : laidOutB Try.prog = true := by kernel_rfl
set_option maxRecDepth 100000 in
theorem lifted (os : Os) (started : os.Started) (H : Type) (enc : TypeId × Value → H) :
    ReturnsInHanded {} Try.checked os 5 .any (Rows.sameThreeSpec.pre6 enc Try.prog Try.f5 Rows.sameThreeRow.domain false) (Rows.sameThreeSpec.post enc Try.prog Try.f5 false true false false) := by
  refine returnsInHanded_of_change (C := Try.checked) own started (by kernel_rfl) Try.func5
    (ChangeSpec.witness6 (enc := enc) (C := Try.checked) false ⟨#[], #[.string ByteArray.empty, .string ByteArray.empty], []⟩ 8 (by kernel_rfl) (by kernel_rfl) (by kernel_rfl) (by kernel_rfl)) ?_
  intro W base args ds gs before hval0 hW hcnd _
  have hval : ∀ (j : Nat) t v, Try.f5.params[j]? = some t → args[j]? = some v → Value.okWide Try.prog W .any base t v := hval0
  have hW' := hW
  obtain ⟨p, q, hA0, hV, rfl, hfz, hnd⟩ := hW
  have hA : DataW.TrodAll enc Try.prog W 0 (fun _ => true) true Try.f5.params.toList args.toList ds p := hA0
  rw [Try.params5] at hA hval
  obtain ⟨v0, vs0, d0, ds0, p0, q0, hargs, rfl, rfl, h0, r0⟩ := trodAll_cons hA
  obtain ⟨v1, vs1, d1, ds1, p1, q1, rfl, rfl, rfl, h1, r1⟩ := trodAll_cons r0
  obtain ⟨rfl, rfl, rfl⟩ := trodAll_nil r1
  obtain rfl : args = #[v0, v1] := by cases args; simp_all
  obtain ⟨rfl, rfl⟩ := trodVars_none hV
  obtain ⟨a0, rfl, rfl, rfl, w0⟩ := open_string Try.underlying9 (hval 0 9 v0 rfl rfl) h0
  obtain ⟨a1, rfl, rfl, rfl, w1⟩ := open_string Try.underlying9 (hval 1 9 v1 rfl rfl) h1
  clear hA0 hval0
  refine (walk a0 a1 W w0 w1).mono fun e W' ⟨he, bel⟩ => ?_
  subst he
  exact ⟨_, rfl, _, _, _, [], _, [], hW', trodAll_mk1 (shut_bool Try.underlying4 _), (trodAll_cons_mk (shut_string Try.underlying9 w0) (trodAll_cons_mk (shut_string Try.underlying9 w1) trodAll_mk0)), rfl, bel.frame _, fun h => by cases h⟩
theorem over : Rows.sameThreeRow.holds Try.pinned (OpenSpec.ofChange Rows.sameThreeSpec) :=
  OpenClaim.holds_of_wide 5 Try.f5 rfl rfl rfl rfl rfl rfl rfl ⟨rfl, rfl, rfl, rfl, rfl⟩ rfl rfl rfl rfl rfl (by kernel_rfl) Try.func5 (by kernel_rfl)
    (of_decide_eq_true (by kernel_rfl)) (by unfold Func.isWrapper; first | (rw [if_pos (by decide +kernel)]; kernel_rfl) | (rw [if_neg (by decide +kernel)]; exact ⟨rfl, rfl⟩))
    (fun os started H enc _ => lifted os started H enc)
/-- THE STATEMENT, proved. -/
theorem proved : Rows.SameThreeSaid := over
#print axioms proved
end Go.Proofs.Ytcnmhldcgmfaeaa.sameThree
