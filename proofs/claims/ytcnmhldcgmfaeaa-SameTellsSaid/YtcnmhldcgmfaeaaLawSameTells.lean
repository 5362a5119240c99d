/- SameTells: of any two texts (of at most 5,000 bytes each; of longer ones the chapter's examples alone) Bit and Equal tell whether they are the same, and Less whether the one is less, both having as many bytes. No condition but that the arguments are a Go program's (a string of at most 2^47 bytes). -/
import Derived.Test.YtcnmhldcgmfaeaaSSame
import Derived.Test.YtcnmhldcgmfaeaaRows
import Derived.WalkKit
import Derived.ProofKit
import Derived.OpenShut
import Derived.ShutString
import Derived.ChangeOld
import Derived.Below
namespace Go.Proofs.Ytcnmhldcgmfaeaa.sameTells
open Go.ChangeShapes Go.WideShapes Go.ChangeAt Go.RowKit
open Go.ChangeMaps (open_string shut_string)
set_option linter.unusedVariables false
open SamN
theorem long (a b : ByteArray) (w : World) (h : 5000 < (a.size : Int) ∨ ¬ 5000 < (a.size : Int) ∧ 5000 < (b.size : Int)) :
    Calls Try.prog 3 #[.string a, .string b] w fun e w' => e = .returned (.bool true) ∧ Below w.heap.size w w' := by
  rcases h with h | ⟨h1, h2⟩
  all_goals
    go_enter Try.func3, Try.ntmps3
    go_wp2_with fail
    refine (SSame.alive _).mono ?_
    rintro e w1 ⟨rfl, hb1⟩
    go_wp2
    go_ret
    exact ⟨rfl, hb1⟩
set_option maxHeartbeats 1000000 in
theorem core (a b : List UInt8) (w : World) (h1 : a.length ≤ 5000) (h2 : b.length ≤ 5000) (e q l : Bool) (he : (a == b) = e) (hq : ((a.length : Int) == (b.length : Int)) = q) (hl : Op.bytesLess a b = l)
    (hb : bit a b = if e then 1 else 0) (hs : less a b = if q && l then 1 else 0) :
    Calls Try.prog 3 #[.string ⟨a.toArray⟩, .string ⟨b.toArray⟩] w fun e w' => e = .returned (.bool true) ∧ Below w.heap.size w w' := by
  have P1 := Lib.hid (fun W => SBit.Bit a b W (by unfold maxLen; omega))
  have P2 := Lib.hid (fun W => SSame.Equal a b W (by unfold maxLen; omega))
  have P3 := Lib.hid (fun W => SLes.Less a b W (by unfold maxLen; omega))
  rw [hb] at P1
  rw [he] at P2
  rw [hs] at P3
  have PT := Lib.hid SSame.number_t
  have PF := Lib.hid SSame.number_f
  have hal : ¬ 5000 < (a.length : Int) := by omega
  have hbl : ¬ 5000 < (b.length : Int) := by omega
  clear hb hs h1 h2
  cases e <;> cases q <;> cases l
  all_goals
    go_enter Try.func3, Try.ntmps3
    go_wp2_with fail
    refine (P1.out _).mono ?_
    rintro e w1 ⟨rfl, hb1⟩
    have B1 := Lib.hid hb1
    clear hb1
    go_wp2_with fail
    (first | refine (PT.out _).mono ?_ | refine (PF.out _).mono ?_)
    rintro e _ ⟨rfl, rfl⟩
    go_wp2_with fail
    refine (P2.out _).mono ?_
    rintro e w2 ⟨rfl, hb2⟩
    have B2 := Lib.hid (B1.out.trans (hb2.mono B1.out.size))
    clear hb2
    go_wp2_with fail
    refine (P3.out _).mono ?_
    rintro e w3 ⟨rfl, hb3⟩
    have B3 := Lib.hid (B2.out.trans (hb3.mono B2.out.size))
    clear hb3
    go_wp2_with fail
    (first | refine (PT.out _).mono ?_ | refine (PF.out _).mono ?_)
    rintro e _ ⟨rfl, rfl⟩
    go_wp2_with fail
    refine (SSame.alive _).mono ?_
    rintro e w4 ⟨rfl, hb4⟩
    have B4 := Lib.hid (B3.out.trans (hb4.mono B3.out.size))
    clear hb4
    go_wp2
    go_ret
    exact ⟨rfl, B4.out⟩
theorem walk (a b : ByteArray) (w : World) (w0 : a.size ≤ maxLen) (w1 : b.size ≤ maxLen) :
    Calls Try.prog 3 #[.string a, .string b] w fun e w' => e = .returned (.bool true) ∧ Below w.heap.size w w' := by
  clear w0 w1
  by_cases h : 5000 < (a.size : Int) ∨ ¬ 5000 < (a.size : Int) ∧ 5000 < (b.size : Int)
  · exact long a b w h
  · obtain ⟨l, rfl⟩ : ∃ l : List UInt8, a = ⟨l.toArray⟩ := ⟨a.data.toList, rfl⟩
    obtain ⟨m, rfl⟩ : ∃ l : List UInt8, b = ⟨l.toArray⟩ := ⟨b.data.toList, rfl⟩
    have hl : (⟨l.toArray⟩ : ByteArray).size = l.length := rfl
    have hm : (⟨m.toArray⟩ : ByteArray).size = m.length := rfl
    refine core l m w (by omega) (by omega) _ _ _ rfl rfl rfl ?_ ?_
    · unfold bit
      by_cases hh : l = m
      · rw [if_pos hh, if_pos (by rw [beq_iff_eq]; exact hh)]
      · rw [if_neg hh, if_neg (by rw [beq_iff_eq]; exact hh)]
    · by_cases hh : l.length = m.length
      · rw [less_num l m hh]
        unfold less
        have hq : ((l.length : Int) == (m.length : Int)) = true := by rw [beq_iff_eq]; omega
        rw [hq]
        by_cases hx : num l < num m
        · rw [if_pos ⟨hh, hx⟩, if_pos (by simpa using hx)]
        · rw [if_neg (fun g => hx g.2), if_neg (by simpa using hx)]
      · have hq : ((l.length : Int) == (m.length : Int)) = false := by rw [beq_eq_false_iff_ne]; omega
        rw [less_len l m hh, hq]
        rfl
theorem own : ownKnob Try.prog.godebug = none := by kernel_rfl
theorem laidOut : laidOutB Try.prog = true := by kernel_rfl
set_option maxRecDepth 100000 in
theorem lifted (os : Os) (started : os.Started) (H : Type) (enc : TypeId × Value → H) :
    ReturnsInHanded {} Try.checked os 3 .any (Rows.sameTellsSpec.pre6 enc Try.prog Try.f3 Rows.sameTellsRow.domain false) (Rows.sameTellsSpec.post enc Try.prog Try.f3 false true false false) := by
  refine returnsInHanded_of_change (C := Try.checked) own started (by kernel_rfl) Try.func3
    (ChangeSpec.witness6 (enc := enc) (C := Try.checked) false ⟨#[], #[.string ByteArray.empty, .string ByteArray.empty], []⟩ 8 (by kernel_rfl) (by kernel_rfl) (by kernel_rfl) (by kernel_rfl)) ?_
  intro W base args ds gs before hval0 hW hcnd _
  have hval : ∀ (j : Nat) t v, Try.f3.params[j]? = some t → args[j]? = some v → Value.okWide Try.prog W .any base t v := hval0
  have hW' := hW
  obtain ⟨p, q, hA0, hV, rfl, hfz, hnd⟩ := hW
  have hA : DataW.TrodAll enc Try.prog W 0 (fun _ => true) true Try.f3.params.toList args.toList ds p := hA0
  rw [Try.params3] at hA hval
  obtain ⟨v0, vs0, d0, ds0, p0, q0, hargs, rfl, rfl, h0, r0⟩ := trodAll_cons hA
  obtain ⟨v1, vs1, d1, ds1, p1, q1, rfl, rfl, rfl, h1, r1⟩ := trodAll_cons r0
  obtain ⟨rfl, rfl, rfl⟩ := trodAll_nil r1
  obtain rfl : args = #[v0, v1] := by cases args; simp_all
  obtain ⟨rfl, rfl⟩ := trodVars_none hV
  obtain ⟨a0, rfl, rfl, rfl, w0⟩ := open_string Try.underlying9 (hval 0 9 v0 rfl rfl) h0
  obtain ⟨a1, rfl, rfl, rfl, w1⟩ := open_string Try.underlying9 (hval 1 9 v1 rfl rfl) h1
  clear hA0 hval0
  refine (walk a0 a1 W w0 w1).mono fun e W' ⟨he, bel⟩ => ?_
  subst he
  exact ⟨_, rfl, _, _, _, [], _, [], hW', trodAll_mk1 (shut_bool Try.underlying4 _), (trodAll_cons_mk (shut_string Try.underlying9 w0) (trodAll_cons_mk (shut_string Try.underlying9 w1) trodAll_mk0)), rfl, bel.frame _, fun h => by cases h⟩
theorem over : Rows.sameTellsRow.holds Try.pinned (OpenSpec.ofChange Rows.sameTellsSpec) :=
  OpenClaim.holds_of_wide 3 Try.f3 rfl rfl rfl rfl rfl rfl rfl ⟨rfl, rfl, rfl, rfl, rfl⟩ rfl rfl rfl rfl rfl (by kernel_rfl) Try.func3 (by kernel_rfl)
    (of_decide_eq_true (by kernel_rfl)) (by unfold Func.isWrapper; first | (rw [if_pos (by decide +kernel)]; kernel_rfl) | (rw [if_neg (by decide +kernel)]; exact ⟨rfl, rfl⟩))
    (fun os started H enc _ => lifted os started H enc)
/-- THE STATEMENT, proved. -/
theorem proved : Rows.SameTellsSaid := over
#print axioms proved
end Go.Proofs.Ytcnmhldcgmfaeaa.sameTells
