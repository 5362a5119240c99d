/- CtrHides: at any key, epoch, slot and text (at most 100 bytes), what Xor answers, or that it refuses, is the document's answer, and hidden again the text is what it was. No condition but that the arguments are a Go program's (a string of at most 2^47 bytes). -/
import Derived.Test.YtjlepjnfacmieaaCXor
import Derived.Test.YtjlepjnfacmieaaRXor
import Derived.Test.YtjlepjnfacmieaaRows
import Derived.WalkKit
import Derived.ProofKit
import Derived.OpenShut
import Derived.ShutString
import Derived.ChangeOld
import Derived.Below
namespace Go.Proofs.Ytjlepjnfacmieaa.ctrHides
open Go.ChangeShapes Go.WideShapes Go.ChangeAt Go.RowKit
open Go.ChangeMaps (open_string shut_string)
set_option linter.unusedVariables false
open CtrN
theorem long (k : ByteArray) (e s : Int) (x : ByteArray) (w : World) (h : 100 < (x.size : Int)) :
    Calls Try.prog 4 #[.string k, .int .i64 e, .int .i64 s, .string x] w fun e w' => e = .returned (.bool true) ∧ Below w.heap.size w w' := by
  go_enter Try.func4, Try.ntmps4
  go_wp2_with fail
  refine (CCount.alive _).mono ?_
  rintro e w1 ⟨rfl, hb1⟩
  go_wp2
  go_ret
  exact ⟨rfl, hb1⟩
theorem no (k : List UInt8) (e s : Int) (x : List UInt8) (w : World) (he : IsInt e) (hs : IsInt s) (hx : x.length ≤ 100) (h : ¬ (hide k e s x).2 = 0) :
    Calls Try.prog 4 #[.string ⟨k.toArray⟩, .int .i64 e, .int .i64 s, .string ⟨x.toArray⟩] w fun e w' => e = .returned (.bool true) ∧ Below w.heap.size w w' := by
  have P1 := Lib.hid (fun W => CXor.any k e s x W)
  have P2 := Lib.hid (fun W => RXor.any k e s x W he hs (by omega))
  obtain ⟨_, _, h3⟩ := RXor.stream_hide k e s x
  unfold RXor.can at P2
  rw [(h3 h).1] at P1 P2
  have hxl : ¬ 100 < (x.length : Int) := by omega
  clear h h3 he hs hx
  go_enter Try.func4, Try.ntmps4
  go_wp2_with fail
  refine (P1.out _).mono ?_
  rintro e w1 ⟨rfl, hb1⟩
  have HB1 := Lib.hid hb1
  clear hb1
  go_wp2_with fail
  refine (P2.out _).mono ?_
  rintro e w2 ⟨rfl, hb2⟩
  have HB2 := Lib.hid (HB1.out.trans (hb2.mono HB1.out.size))
  clear hb2
  go_wp2_with fail
  refine (CCount.alive _).mono ?_
  rintro e w5 ⟨rfl, hb5⟩
  have HB5 := Lib.hid (HB2.out.trans (hb5.mono HB2.out.size))
  clear hb5
  go_wp2
  go_ret
  exact ⟨rfl, HB5.out⟩
theorem yes (k : List UInt8) (e s : Int) (x : List UInt8) (w : World) (he : IsInt e) (hs : IsInt s) (hx : x.length ≤ 100) (h : (hide k e s x).2 = 0) :
    Calls Try.prog 4 #[.string ⟨k.toArray⟩, .int .i64 e, .int .i64 s, .string ⟨x.toArray⟩] w fun e w' => e = .returned (.bool true) ∧ Below w.heap.size w w' := by
  have P1 := Lib.hid (fun W => CXor.any k e s x W)
  have P2 := Lib.hid (fun W => RXor.any k e s x W he hs (by omega))
  have P3 := Lib.hid (fun W => CXor.any k e s (hide k e s x).1 W)
  obtain ⟨h1, h2⟩ := hide_back k e s x h
  rw [h1] at P3
  unfold RXor.can at P2
  have hp : hide k e s x = ((hide k e s x).1, 0) := by rw [← h]
  rw [hp] at P1 P2
  have hxl : ¬ 100 < (x.length : Int) := by omega
  generalize (hide k e s x).1 = y at *
  clear h hp h1 he hs hx
  go_enter Try.func4, Try.ntmps4
  go_wp2_with fail
  refine (P1.out _).mono ?_
  rintro e w1 ⟨rfl, hb1⟩
  have HB1 := Lib.hid hb1
  clear hb1
  go_wp2_with fail
  refine (P2.out _).mono ?_
  rintro e w2 ⟨rfl, hb2⟩
  have HB2 := Lib.hid (HB1.out.trans (hb2.mono HB1.out.size))
  clear hb2
  go_wp2_with fail
  refine (P3.out _).mono ?_
  rintro e w3 ⟨rfl, hb3⟩
  have HB3 := Lib.hid (HB2.out.trans (hb3.mono HB2.out.size))
  clear hb3
  go_wp2_with fail
  refine (CCount.alive _).mono ?_
  rintro e w5 ⟨rfl, hb5⟩
  have HB5 := Lib.hid (HB3.out.trans (hb5.mono HB3.out.size))
  clear hb5
  go_wp2
  go_ret
  exact ⟨rfl, HB5.out⟩
theorem walk (k : ByteArray) (e s : Int) (x : ByteArray) (w : World) (w0 : k.size ≤ maxLen) (w1 : (Lit.int .i64 e).wf = true) (w2 : (Lit.int .i64 s).wf = true) (w3 : x.size ≤ maxLen) :
    Calls Try.prog 4 #[.string k, .int .i64 e, .int .i64 s, .string x] w fun e w' => e = .returned (.bool true) ∧ Below w.heap.size w w' := by
  clear w0 w3
  obtain ⟨l, rfl⟩ : ∃ l : List UInt8, k = ⟨l.toArray⟩ := ⟨k.data.toList, rfl⟩
  obtain ⟨m, rfl⟩ : ∃ l : List UInt8, x = ⟨l.toArray⟩ := ⟨x.data.toList, rfl⟩
  by_cases h : 100 < m.length
  · exact long _ e s _ w (show 100 < ((m.length : Nat) : Int) by omega)
  · by_cases hh : (hide l e s m).2 = 0
    · exact yes l e s m w (bounds_i64 w1) (bounds_i64 w2) (by omega) hh
    · exact no l e s m w (bounds_i64 w1) (bounds_i64 w2) (by omega) hh
theorem own : ownKnob Try.prog.godebug = none := by kernel_rfl
theorem laidOut : laidOutB Try.prog = true := by kernel_rfl
set_option maxRecDepth 100000 in
theorem lifted (os : Os) (started : os.Started) (H : Type) (enc : TypeId × Value → H) :
    ReturnsInHanded {} Try.checked os 4 .any (Rows.ctrHidesSpec.pre6 enc Try.prog Try.f4 Rows.ctrHidesRow.domain false) (Rows.ctrHidesSpec.post enc Try.prog Try.f4 false true false false) := by
  refine returnsInHanded_of_change (C := Try.checked) own started (by kernel_rfl) Try.func4
    (ChangeSpec.witness6 (enc := enc) (C := Try.checked) false ⟨#[], #[.string ByteArray.empty, .int .i64 0, .int .i64 0, .string ByteArray.empty], []⟩ 8 (by kernel_rfl) (by kernel_rfl) (by kernel_rfl) (by kernel_rfl)) ?_
  intro W base args ds gs before hval0 hW hcnd _
  have hval : ∀ (j : Nat) t v, Try.f4.params[j]? = some t → args[j]? = some v → Value.okWide Try.prog W .any base t v := hval0
  have hW' := hW
  obtain ⟨p, q, hA0, hV, rfl, hfz, hnd⟩ := hW
  have hA : DataW.TrodAll enc Try.prog W 0 (fun _ => true) true Try.f4.params.toList args.toList ds p := hA0
  rw [Try.params4] at hA hval
  obtain ⟨v0, vs0, d0, ds0, p0, q0, hargs, rfl, rfl, h0, r0⟩ := trodAll_cons hA
  obtain ⟨v1, vs1, d1, ds1, p1, q1, rfl, rfl, rfl, h1, r1⟩ := trodAll_cons r0
  obtain ⟨v2, vs2, d2, ds2, p2, q2, rfl, rfl, rfl, h2, r2⟩ := trodAll_cons r1
  obtain ⟨v3, vs3, d3, ds3, p3, q3, rfl, rfl, rfl, h3, r3⟩ := trodAll_cons r2
  obtain ⟨rfl, rfl, rfl⟩ := trodAll_nil r3
  obtain rfl : args = #[v0, v1, v2, v3] := by cases args; simp_all
  obtain ⟨rfl, rfl⟩ := trodVars_none hV
  obtain ⟨a0, rfl, rfl, rfl, w0⟩ := open_string Try.underlying9 (hval 0 9 v0 rfl rfl) h0
  obtain ⟨a1, rfl, rfl, rfl, w1⟩ := open_int Try.underlying3 (hval 1 3 v1 rfl rfl) h1
  obtain ⟨a2, rfl, rfl, rfl, w2⟩ := open_int Try.underlying3 (hval 2 3 v2 rfl rfl) h2
  obtain ⟨a3, rfl, rfl, rfl, w3⟩ := open_string Try.underlying9 (hval 3 9 v3 rfl rfl) h3
  clear hA0 hval0
  refine (walk a0 a1 a2 a3 W w0 w1 w2 w3).mono fun e W' ⟨he, bel⟩ => ?_
  subst he
  exact ⟨_, rfl, _, _, _, [], _, [], hW', trodAll_mk1 (shut_bool Try.underlying4 _), (trodAll_cons_mk (shut_string Try.underlying9 w0) (trodAll_cons_mk (shut_int Try.underlying3 w1) (trodAll_cons_mk (shut_int Try.underlying3 w2) (trodAll_cons_mk (shut_string Try.underlying9 w3) trodAll_mk0)))), rfl, bel.frame _, fun h => by cases h⟩
theorem over : Rows.ctrHidesRow.holds Try.pinned (OpenSpec.ofChange Rows.ctrHidesSpec) :=
  OpenClaim.holds_of_wide 4 Try.f4 rfl rfl rfl rfl rfl rfl rfl ⟨rfl, rfl, rfl, rfl, rfl⟩ rfl rfl rfl rfl rfl (by kernel_rfl) Try.func4 (by kernel_rfl)
    (of_decide_eq_true (by kernel_rfl)) (by unfold Func.isWrapper; first | (rw [if_pos (by decide +kernel)]; kernel_rfl) | (rw [if_neg (by decide +kernel)]; exact ⟨rfl, rfl⟩))
    (fun os started H enc _ => lifted os started H enc)
/-- THE STATEMENT, proved. -/
theorem proved : Rows.CtrHidesSaid := over
#print axioms proved
end Go.Proofs.Ytjlepjnfacmieaa.ctrHides
