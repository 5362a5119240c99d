/- CtrParts: at any key, epoch, slot and numbers (none above 1,000), what is streamed in two parts is what is streamed at once, or all three are refused alike. No condition but that the arguments are a Go program's (a string of at most 2^47 bytes). -/
import Derived.Test.YtjlepjnfacmieaaCStr
import Derived.Test.YtjlepjnfacmieaaRows
import Derived.WalkKit
import Derived.ProofKit
import Derived.OpenShut
import Derived.ShutString
import Derived.ChangeOld
import Derived.Below
namespace Go.Proofs.Ytjlepjnfacmieaa.ctrParts
open Go.ChangeShapes Go.WideShapes Go.ChangeAt Go.RowKit
open Go.ChangeMaps (open_string shut_string)
set_option linter.unusedVariables false
open CtrN
theorem list_of (c : List UInt8) : (⟨c.toArray⟩ : ByteArray).toList = c := by simp
theorem out (k : ByteArray) (e s f n m : Int) (w : World) (h : f < 0 ∨ n < 0 ∨ m < 0 ∨ 1000 < f ∨ 1000 < n ∨ 1000 < m) :
    Calls Try.prog 5 #[.string k, .int .i64 e, .int .i64 s, .int .i64 f, .int .i64 n, .int .i64 m] w fun e w' => e = .returned (.bool true) ∧ Below w.heap.size w w' := by
  have hd : f < 0 ∨ ¬ f < 0 ∧ (n < 0 ∨ ¬ n < 0 ∧ (m < 0 ∨ ¬ m < 0 ∧ (1000 < f ∨ ¬ 1000 < f ∧ (1000 < n ∨ ¬ 1000 < n ∧ 1000 < m)))) := by omega
  clear h
  rcases hd with h1 | ⟨h1, h2 | ⟨h2, h3 | ⟨h3, h4 | ⟨h4, h5 | ⟨h5, h6⟩⟩⟩⟩⟩
  all_goals
    go_enter Try.func5, Try.ntmps5
    go_wp2_with fail
    refine (CCount.alive _).mono ?_
    rintro e w1 ⟨rfl, hb1⟩
    go_wp2
    go_ret
    exact ⟨rfl, hb1⟩
set_option maxHeartbeats 1000000 in
theorem inn (k : List UInt8) (e s : Int) (f n m : Nat) (w : World) (h1 : f ≤ 1000) (h2 : n ≤ 1000) (h3 : m ≤ 1000) :
    Calls Try.prog 5 #[.string ⟨k.toArray⟩, .int .i64 e, .int .i64 s, .int .i64 f, .int .i64 n, .int .i64 m] w fun e w' => e = .returned (.bool true) ∧ Below w.heap.size w w' := by
  have P1 := Lib.hid (fun W => CStr.any k e s f n W ⟨by omega, by omega⟩)
  have P2 := Lib.hid (fun W => CStr.any k e s ((f : Int) + (n : Int)) m W ⟨by omega, by omega⟩)
  have P3 := Lib.hid (fun W => CStr.any k e s f ((n : Int) + (m : Int)) W ⟨by omega, by omega⟩)
  by_cases h : k.length = 16 ∧ (0 ≤ e ∧ e < 4294967296) ∧ (0 ≤ s ∧ s < 4294967296)
  · rw [stream, if_pos ⟨h.1, by omega, by omega, by omega, h.2.1, h.2.2⟩] at P1 P2 P3
    have HA : Hid ((⟨(strm k e.toNat s.toNat (f : Int).toNat (n : Int).toNat).toArray⟩ : ByteArray) ++ ⟨(strm k e.toNat s.toNat ((f : Int) + (n : Int)).toNat (m : Int).toNat).toArray⟩ = ⟨(strm k e.toNat s.toNat (f : Int).toNat ((n : Int) + (m : Int)).toNat).toArray⟩) := by
      show _ = _
      rw [ByteArray.mk_append_mk, show ((f : Int) + (n : Int)).toNat = f + n from by omega, show ((n : Int) + (m : Int)).toNat = n + m from by omega, Int.toNat_natCast, Int.toNat_natCast, Int.toNat_natCast, strm_add]
    have hl := strm_length k e.toNat s.toNat (f : Int).toNat ((n : Int) + (m : Int)).toNat
    have l1 := strm_length k e.toNat s.toNat (f : Int).toNat (n : Int).toNat
    have l2 := strm_length k e.toNat s.toNat ((f : Int) + (n : Int)).toNat (m : Int).toNat
    have hl' : ((strm k e.toNat s.toNat (f : Int).toNat ((n : Int) + (m : Int)).toNat).length : Int) = (n : Int) + (m : Int) := by omega
    have l1' : (strm k e.toNat s.toNat (f : Int).toNat (n : Int).toNat).length ≤ 1000 := by omega
    have l2' : (strm k e.toNat s.toNat ((f : Int) + (n : Int)).toNat (m : Int).toNat).length ≤ 1000 := by omega
    generalize strm k e.toNat s.toNat (f : Int).toNat ((n : Int) + (m : Int)).toNat = c at *
    generalize strm k e.toNat s.toNat (f : Int).toNat (n : Int).toNat = a at *
    generalize strm k e.toNat s.toNat ((f : Int) + (n : Int)).toNat (m : Int).toNat = b at *
    have heq : ((⟨a.toArray⟩ : ByteArray) ++ ⟨b.toArray⟩).toList = c := by rw [HA.out]; exact list_of c
    clear h hl l1 l2
    go_enter Try.func5, Try.ntmps5
    go_wp2_with fail
    refine (P1.out _).mono ?_
    rintro e w1 ⟨rfl, hb1⟩
    have HB1 := Lib.hid hb1
    clear hb1
    go_wp2_with fail
    refine (P2.out _).mono ?_
    rintro e w2 ⟨rfl, hb2⟩
    have HB2 := Lib.hid (HB1.out.trans (hb2.mono HB1.out.size))
    clear hb2
    go_wp2_with fail
    refine (P3.out _).mono ?_
    rintro e w3 ⟨rfl, hb3⟩
    have HB3 := Lib.hid (HB2.out.trans (hb3.mono HB2.out.size))
    clear hb3
    go_wp2_with fail
    refine (CCount.alive _).mono ?_
    rintro e w5 ⟨rfl, hb5⟩
    have HB5 := Lib.hid (HB3.out.trans (hb5.mono HB3.out.size))
    clear hb5
    go_wp2
    go_ret
    exact ⟨rfl, HB5.out⟩
  · rw [stream_bad _ _ _ _ _ (fun g => h ⟨g.1, g.2.2.2.2.1, g.2.2.2.2.2⟩)] at P1 P2 P3
    have heq : ((⟨#[]⟩ : ByteArray) ++ ⟨#[]⟩).toList = [] := by decide +kernel
    clear h
    go_enter Try.func5, Try.ntmps5
    go_wp2_with fail
    refine (P1.out _).mono ?_
    rintro e w1 ⟨rfl, hb1⟩
    have HB1 := Lib.hid hb1
    clear hb1
    go_wp2_with fail
    refine (P2.out _).mono ?_
    rintro e w2 ⟨rfl, hb2⟩
    have HB2 := Lib.hid (HB1.out.trans (hb2.mono HB1.out.size))
    clear hb2
    go_wp2_with fail
    refine (P3.out _).mono ?_
    rintro e w3 ⟨rfl, hb3⟩
    have HB3 := Lib.hid (HB2.out.trans (hb3.mono HB2.out.size))
    clear hb3
    go_wp2_with fail
    refine (CCount.alive _).mono ?_
    rintro e w5 ⟨rfl, hb5⟩
    have HB5 := Lib.hid (HB3.out.trans (hb5.mono HB3.out.size))
    clear hb5
    go_wp2
    go_ret
    exact ⟨rfl, HB5.out⟩
theorem walk (k : ByteArray) (e s f n m : Int) (w : World) (w0 : k.size ≤ maxLen) (w1 : (Lit.int .i64 e).wf = true) (w2 : (Lit.int .i64 s).wf = true) (w3 : (Lit.int .i64 f).wf = true) (w4 : (Lit.int .i64 n).wf = true) (w5 : (Lit.int .i64 m).wf = true) :
    Calls Try.prog 5 #[.string k, .int .i64 e, .int .i64 s, .int .i64 f, .int .i64 n, .int .i64 m] w fun e w' => e = .returned (.bool true) ∧ Below w.heap.size w w' := by
  clear w0
  obtain ⟨l, rfl⟩ : ∃ l : List UInt8, k = ⟨l.toArray⟩ := ⟨k.data.toList, rfl⟩
  by_cases h : f < 0 ∨ n < 0 ∨ m < 0 ∨ 1000 < f ∨ 1000 < n ∨ 1000 < m
  · exact out _ e s f n m w h
  · obtain ⟨a, rfl⟩ := Int.eq_ofNat_of_zero_le (show 0 ≤ f by omega)
    obtain ⟨b, rfl⟩ := Int.eq_ofNat_of_zero_le (show 0 ≤ n by omega)
    obtain ⟨c, rfl⟩ := Int.eq_ofNat_of_zero_le (show 0 ≤ m by omega)
    exact inn l e s a b c w (by omega) (by omega) (by omega)
theorem own : ownKnob Try.prog.godebug = none := by kernel_rfl
theorem laidOut : laidOutB Try.prog = true := by kernel_rfl
set_option maxRecDepth 100000 in
theorem lifted (os : Os) (started : os.Started) (H : Type) (enc : TypeId × Value → H) :
    ReturnsInHanded {} Try.checked os 5 .any (Rows.ctrPartsSpec.pre6 enc Try.prog Try.f5 Rows.ctrPartsRow.domain false) (Rows.ctrPartsSpec.post enc Try.prog Try.f5 false true false false) := by
  refine returnsInHanded_of_change (C := Try.checked) own started (by kernel_rfl) Try.func5
    (ChangeSpec.witness6 (enc := enc) (C := Try.checked) false ⟨#[], #[.string ByteArray.empty, .int .i64 0, .int .i64 0, .int .i64 0, .int .i64 0, .int .i64 0], []⟩ 8 (by kernel_rfl) (by kernel_rfl) (by kernel_rfl) (by kernel_rfl)) ?_
  intro W base args ds gs before hval0 hW hcnd _
  have hval : ∀ (j : Nat) t v, Try.f5.params[j]? = some t → args[j]? = some v → Value.okWide Try.prog W .any base t v := hval0
  have hW' := hW
  obtain ⟨p, q, hA0, hV, rfl, hfz, hnd⟩ := hW
  have hA : DataW.TrodAll enc Try.prog W 0 (fun _ => true) true Try.f5.params.toList args.toList ds p := hA0
  rw [Try.params5] at hA hval
  obtain ⟨v0, vs0, d0, ds0, p0, q0, hargs, rfl, rfl, h0, r0⟩ := trodAll_cons hA
  obtain ⟨v1, vs1, d1, ds1, p1, q1, rfl, rfl, rfl, h1, r1⟩ := trodAll_cons r0
  obtain ⟨v2, vs2, d2, ds2, p2, q2, rfl, rfl, rfl, h2, r2⟩ := trodAll_cons r1
  obtain ⟨v3, vs3, d3, ds3, p3, q3, rfl, rfl, rfl, h3, r3⟩ := trodAll_cons r2
  obtain ⟨v4, vs4, d4, ds4, p4, q4, rfl, rfl, rfl, h4, r4⟩ := trodAll_cons r3
  obtain ⟨v5, vs5, d5, ds5, p5, q5, rfl, rfl, rfl, h5, r5⟩ := trodAll_cons r4
  obtain ⟨rfl, rfl, rfl⟩ := trodAll_nil r5
  obtain rfl : args = #[v0, v1, v2, v3, v4, v5] := by cases args; simp_all
  obtain ⟨rfl, rfl⟩ := trodVars_none hV
  obtain ⟨a0, rfl, rfl, rfl, w0⟩ := open_string Try.underlying9 (hval 0 9 v0 rfl rfl) h0
  obtain ⟨a1, rfl, rfl, rfl, w1⟩ := open_int Try.underlying3 (hval 1 3 v1 rfl rfl) h1
  obtain ⟨a2, rfl, rfl, rfl, w2⟩ := open_int Try.underlying3 (hval 2 3 v2 rfl rfl) h2
  obtain ⟨a3, rfl, rfl, rfl, w3⟩ := open_int Try.underlying3 (hval 3 3 v3 rfl rfl) h3
  obtain ⟨a4, rfl, rfl, rfl, w4⟩ := open_int Try.underlying3 (hval 4 3 v4 rfl rfl) h4
  obtain ⟨a5, rfl, rfl, rfl, w5⟩ := open_int Try.underlying3 (hval 5 3 v5 rfl rfl) h5
  clear hA0 hval0
  refine (walk a0 a1 a2 a3 a4 a5 W w0 w1 w2 w3 w4 w5).mono fun e W' ⟨he, bel⟩ => ?_
  subst he
  exact ⟨_, rfl, _, _, _, [], _, [], hW', trodAll_mk1 (shut_bool Try.underlying4 _), (trodAll_cons_mk (shut_string Try.underlying9 w0) (trodAll_cons_mk (shut_int Try.underlying3 w1) (trodAll_cons_mk (shut_int Try.underlying3 w2) (trodAll_cons_mk (shut_int Try.underlying3 w3) (trodAll_cons_mk (shut_int Try.underlying3 w4) (trodAll_cons_mk (shut_int Try.underlying3 w5) trodAll_mk0)))))), rfl, bel.frame _, fun h => by cases h⟩
theorem over : Rows.ctrPartsRow.holds Try.pinned (OpenSpec.ofChange Rows.ctrPartsSpec) :=
  OpenClaim.holds_of_wide 5 Try.f5 rfl rfl rfl rfl rfl rfl rfl ⟨rfl, rfl, rfl, rfl, rfl⟩ rfl rfl rfl rfl rfl (by kernel_rfl) Try.func5 (by kernel_rfl)
    (of_decide_eq_true (by kernel_rfl)) (by unfold Func.isWrapper; first | (rw [if_pos (by decide +kernel)]; kernel_rfl) | (rw [if_neg (by decide +kernel)]; exact ⟨rfl, rfl⟩))
    (fun os started H enc _ => lifted os started H enc)
/-- THE STATEMENT, proved. -/
theorem proved : Rows.CtrPartsSaid := over
#print axioms proved
end Go.Proofs.Ytjlepjnfacmieaa.ctrParts
