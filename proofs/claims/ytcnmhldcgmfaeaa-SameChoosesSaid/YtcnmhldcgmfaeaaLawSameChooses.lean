/- SameChooses: at any number and any two texts (of at most 5,000 bytes each; of longer ones the chapter's examples alone) Choose is the one or the other by the number's lowest bit, or empty where they have not as many bytes, and Any tells whether the first one has a byte that is not 0. No condition but that the arguments are a Go program's (a string of at most 2^47 bytes). -/
import Derived.Test.YtcnmhldcgmfaeaaSSame
import Derived.Test.YtcnmhldcgmfaeaaRFill
import Derived.Test.YtcnmhldcgmfaeaaRows
import Derived.WalkKit
import Derived.ProofKit
import Derived.OpenShut
import Derived.ShutString
import Derived.ChangeOld
import Derived.Below
namespace Go.Proofs.Ytcnmhldcgmfaeaa.sameChooses
open Go.ChangeShapes Go.WideShapes Go.ChangeAt Go.RowKit
open Go.ChangeMaps (open_string shut_string)
set_option linter.unusedVariables false
open SamN
theorem long (n : Int) (a b : ByteArray) (w : World) (h : 5000 < (a.size : Int) ∨ ¬ 5000 < (a.size : Int) ∧ 5000 < (b.size : Int)) :
    Calls Try.prog 4 #[.int .i64 n, .string a, .string b] w fun e w' => e = .returned (.bool true) ∧ Below w.heap.size w w' := by
  rcases h with h | ⟨h1, h2⟩
  all_goals
    go_enter Try.func4, Try.ntmps4
    go_wp2_with fail
    refine (SSame.alive _).mono ?_
    rintro e w1 ⟨rfl, hb1⟩
    go_wp2
    go_ret
    exact ⟨rfl, hb1⟩
set_option maxHeartbeats 1000000 in
theorem core (n r : Int) (a b y : List UInt8) (w : World) (h1 : a.length ≤ 5000) (h2 : b.length ≤ 5000) (hr : n % 2 = r) (hr2 : r = 0 ∨ r = 1) (q z : Bool) (hq : ((a.length : Int) == (b.length : Int)) = q) (hy : List.replicate a.length 0 = y) (hz : (a == y) = z)
    (hc : SCho.chosen n a b = if q then (if r = 1 then a else b) else []) (ha : any a = if z then 0 else 1) :
    Calls Try.prog 4 #[.int .i64 n, .string ⟨a.toArray⟩, .string ⟨b.toArray⟩] w fun e w' => e = .returned (.bool true) ∧ Below w.heap.size w w' := by
  have P1 := Lib.hid (fun W => SCho.Choose n a b W (by omega))
  have P2 := Lib.hid (fun W => SBit.Any a W (by unfold maxLen; omega))
  have P3 := Lib.hid (fun W => RFill.noughts a.length W (by omega))
  rw [hc] at P1
  rw [ha] at P2
  rw [hy] at P3
  have PT := Lib.hid SSame.number_t
  have PF := Lib.hid SSame.number_f
  have hand := SCho.and1 n
  rw [hr] at hand
  have hal : ¬ 5000 < (a.length : Int) := by omega
  have hbl : ¬ 5000 < (b.length : Int) := by omega
  have hq' : ((a.length : Int) != (b.length : Int)) = !q := by rw [bne, hq]
  have hz' : (a != y) = !z := by rw [bne, hz]
  clear hc ha hy h1 h2 hr
  rcases hr2 with rfl | rfl <;> cases q <;> cases z
  all_goals
    go_enter Try.func4, Try.ntmps4
    go_wp2_with fail
    refine (P1.out _).mono ?_
    rintro e w1 ⟨rfl, hb1⟩
    have B1 := Lib.hid hb1
    clear hb1
    go_wp2_with fail
    refine (P2.out _).mono ?_
    rintro e w2 ⟨rfl, hb2⟩
    have B2 := Lib.hid (B1.out.trans (hb2.mono B1.out.size))
    clear hb2
    go_wp2_with fail
    refine (P3.out _).mono ?_
    rintro e w3 ⟨rfl, hb3⟩
    have B3 := Lib.hid (B2.out.trans (hb3.mono B2.out.size))
    clear hb3
    go_wp2_with fail
    (first | refine (PT.out _).mono ?_ | refine (PF.out _).mono ?_)
    rintro e _ ⟨rfl, rfl⟩
    go_wp2_with fail
    refine (SSame.alive _).mono ?_
    rintro e w4 ⟨rfl, hb4⟩
    have B4 := Lib.hid (B3.out.trans (hb4.mono B3.out.size))
    clear hb4
    go_wp2
    go_ret
    exact ⟨rfl, B4.out⟩
theorem walk (n : Int) (a b : ByteArray) (w : World) (w0 : (Lit.int .i64 n).wf = true) (w1 : a.size ≤ maxLen) (w2 : b.size ≤ maxLen) :
    Calls Try.prog 4 #[.int .i64 n, .string a, .string b] w fun e w' => e = .returned (.bool true) ∧ Below w.heap.size w w' := by
  clear w0 w1 w2
  by_cases h : 5000 < (a.size : Int) ∨ ¬ 5000 < (a.size : Int) ∧ 5000 < (b.size : Int)
  · exact long n a b w h
  · obtain ⟨l, rfl⟩ : ∃ l : List UInt8, a = ⟨l.toArray⟩ := ⟨a.data.toList, rfl⟩
    obtain ⟨m, rfl⟩ : ∃ l : List UInt8, b = ⟨l.toArray⟩ := ⟨b.data.toList, rfl⟩
    have hl : (⟨l.toArray⟩ : ByteArray).size = l.length := rfl
    have hm : (⟨m.toArray⟩ : ByteArray).size = m.length := rfl
    refine core n _ l m _ w (by omega) (by omega) rfl (by omega) _ _ rfl rfl rfl ?_ ?_
    · unfold SCho.chosen
      by_cases hh : l.length = m.length
      · rw [if_pos hh, show ((l.length : Int) == (m.length : Int)) = true from by rw [beq_iff_eq]; omega]
        rfl
      · rw [if_neg hh, show ((l.length : Int) == (m.length : Int)) = false from by rw [beq_eq_false_iff_ne]; omega]
        rfl
    · unfold any
      by_cases hh : l = List.replicate l.length 0
      · rw [if_pos hh, if_pos (by rw [beq_iff_eq]; exact hh)]
      · rw [if_neg hh, if_neg (by rw [beq_iff_eq]; exact hh)]
theorem own : ownKnob Try.prog.godebug = none := by kernel_rfl
theorem laidOut : laidOutB Try.prog = true := by kernel_rfl
set_option maxRecDepth 100000 in
theorem lifted (os : Os) (started : os.Started) (H : Type) (enc : TypeId × Value → H) :
    ReturnsInHanded {} Try.checked os 4 .any (Rows.sameChoosesSpec.pre6 enc Try.prog Try.f4 Rows.sameChoosesRow.domain false) (Rows.sameChoosesSpec.post enc Try.prog Try.f4 false true false false) := by
  refine returnsInHanded_of_change (C := Try.checked) own started (by kernel_rfl) Try.func4
    (ChangeSpec.witness6 (enc := enc) (C := Try.checked) false ⟨#[], #[.int .i64 0, .string ByteArray.empty, .string ByteArray.empty], []⟩ 8 (by kernel_rfl) (by kernel_rfl) (by kernel_rfl) (by kernel_rfl)) ?_
  intro W base args ds gs before hval0 hW hcnd _
  have hval : ∀ (j : Nat) t v, Try.f4.params[j]? = some t → args[j]? = some v → Value.okWide Try.prog W .any base t v := hval0
  have hW' := hW
  obtain ⟨p, q, hA0, hV, rfl, hfz, hnd⟩ := hW
  have hA : DataW.TrodAll enc Try.prog W 0 (fun _ => true) true Try.f4.params.toList args.toList ds p := hA0
  rw [Try.params4] at hA hval
  obtain ⟨v0, vs0, d0, ds0, p0, q0, hargs, rfl, rfl, h0, r0⟩ := trodAll_cons hA
  obtain ⟨v1, vs1, d1, ds1, p1, q1, rfl, rfl, rfl, h1, r1⟩ := trodAll_cons r0
  obtain ⟨v2, vs2, d2, ds2, p2, q2, rfl, rfl, rfl, h2, r2⟩ := trodAll_cons r1
  obtain ⟨rfl, rfl, rfl⟩ := trodAll_nil r2
  obtain rfl : args = #[v0, v1, v2] := by cases args; simp_all
  obtain ⟨rfl, rfl⟩ := trodVars_none hV
  obtain ⟨a0, rfl, rfl, rfl, w0⟩ := open_int Try.underlying3 (hval 0 3 v0 rfl rfl) h0
  obtain ⟨a1, rfl, rfl, rfl, w1⟩ := open_string Try.underlying9 (hval 1 9 v1 rfl rfl) h1
  obtain ⟨a2, rfl, rfl, rfl, w2⟩ := open_string Try.underlying9 (hval 2 9 v2 rfl rfl) h2
  clear hA0 hval0
  refine (walk a0 a1 a2 W w0 w1 w2).mono fun e W' ⟨he, bel⟩ => ?_
  subst he
  exact ⟨_, rfl, _, _, _, [], _, [], hW', trodAll_mk1 (shut_bool Try.underlying4 _), (trodAll_cons_mk (shut_int Try.underlying3 w0) (trodAll_cons_mk (shut_string Try.underlying9 w1) (trodAll_cons_mk (shut_string Try.underlying9 w2) trodAll_mk0))), rfl, bel.frame _, fun h => by cases h⟩
theorem over : Rows.sameChoosesRow.holds Try.pinned (OpenSpec.ofChange Rows.sameChoosesSpec) :=
  OpenClaim.holds_of_wide 4 Try.f4 rfl rfl rfl rfl rfl rfl rfl ⟨rfl, rfl, rfl, rfl, rfl⟩ rfl rfl rfl rfl rfl (by kernel_rfl) Try.func4 (by kernel_rfl)
    (of_decide_eq_true (by kernel_rfl)) (by unfold Func.isWrapper; first | (rw [if_pos (by decide +kernel)]; kernel_rfl) | (rw [if_neg (by decide +kernel)]; exact ⟨rfl, rfl⟩))
    (fun os started H enc _ => lifted os started H enc)
/-- THE STATEMENT, proved. -/
theorem proved : Rows.SameChoosesSaid := over
#print axioms proved
end Go.Proofs.Ytcnmhldcgmfaeaa.sameChooses
