/- CtrStreams: at any key, epoch, slot, place and number (at most 80 bytes, or such as may not be), what Count and Stream answer, or that they refuse, is the document's answer, and the chapter's example holds. No condition but that the arguments are a Go program's (a string of at most 2^47 bytes). -/
import Derived.Test.YtjlepjnfacmieaaCStr
import Derived.Test.YtjlepjnfacmieaaRStr
import Derived.Test.YtjlepjnfacmieaaRows
import Derived.WalkKit
import Derived.ProofKit
import Derived.OpenShut
import Derived.ShutString
import Derived.ChangeOld
import Derived.Below
namespace Go.Proofs.Ytjlepjnfacmieaa.ctrStreams
open Go.ChangeShapes Go.WideShapes Go.ChangeAt Go.RowKit
open Go.ChangeMaps (open_string shut_string)
set_option linter.unusedVariables false
open CtrN
theorem much (k : ByteArray) (e s f n : Int) (w : World) (h1 : 80 < n) (h2 : n ≤ 65536) :
    Calls Try.prog 3 #[.string k, .int .i64 e, .int .i64 s, .int .i64 f, .int .i64 n] w fun e w' => e = .returned (.bool true) ∧ Below w.heap.size w w' := by
  go_enter Try.func3, Try.ntmps3
  go_wp2_with fail
  refine (CCount.alive _).mono ?_
  rintro e w1 ⟨rfl, hb1⟩
  go_wp2
  go_ret
  exact ⟨rfl, hb1⟩
theorem two (e s i : Int) : (∃ l, cnt e s i = (l, 0) ∧ RCount.is e s i = true) ∨ (∃ l, cnt e s i = (l, 2) ∧ RCount.is e s i = false) := by
  unfold RCount.is
  by_cases h : (cnt e s i).2 = 0
  · exact .inl ⟨(cnt e s i).1, by rw [← h], by rw [h]; rfl⟩
  · rw [cnt_no e s i h]
    exact .inr ⟨[], rfl, rfl⟩
theorem two2 (k : List UInt8) (e s f n : Int) : (∃ l, stream k e s f n = (l, 0) ∧ RStr.has k e s f n = true) ∨ (∃ l, stream k e s f n = (l, 2) ∧ RStr.has k e s f n = false) := by
  unfold RStr.has
  by_cases h : k.length = 16 ∧ 0 ≤ f ∧ 0 ≤ n ∧ f + n ≤ 65536 ∧ (0 ≤ e ∧ e < 4294967296) ∧ (0 ≤ s ∧ s < 4294967296)
  · rw [stream, if_pos h]
    exact .inl ⟨_, rfl, rfl⟩
  · rw [stream_bad _ _ _ _ _ h]
    exact .inr ⟨[], rfl, rfl⟩
set_option maxHeartbeats 1000000 in
theorem few (k : List UInt8) (e s f n : Int) (w : World) (he : IsInt e) (hs : IsInt s) (hf : IsInt f) (hn : IsInt n) (h : ¬ (80 < n ∧ n ≤ 65536)) :
    Calls Try.prog 3 #[.string ⟨k.toArray⟩, .int .i64 e, .int .i64 s, .int .i64 f, .int .i64 n] w fun e w' => e = .returned (.bool true) ∧ Below w.heap.size w w' := by
  have P1 := Lib.hid (fun W => CCount.any e s n W)
  have P2 := Lib.hid (fun W => RCount.any e s n W he hs hn)
  have P3 := Lib.hid (fun W => CStr.any k e s f n W hf)
  have P4 := Lib.hid (fun W => RStr.any k e s f n W he hs)
  have hcs : ¬ 80 < n ∨ 80 < n ∧ ¬ n ≤ 65536 := by omega
  have t1 := two e s n
  have t2 := two2 k e s f n
  generalize cnt e s n = c at *
  generalize stream k e s f n = t at *
  generalize RCount.is e s n = b at *
  generalize RStr.has k e s f n = d at *
  clear h he hs hf hn
  rcases t1 with ⟨l, rfl, rfl⟩ | ⟨l, rfl, rfl⟩ <;> rcases t2 with ⟨m, rfl, rfl⟩ | ⟨m, rfl, rfl⟩ <;> rcases hcs with h1 | ⟨h1, h2⟩
  all_goals
    go_enter Try.func3, Try.ntmps3
    go_wp2_with fail
    refine (P1.out _).mono ?_
    rintro e w1 ⟨rfl, hb1⟩
    have HB1 := Lib.hid hb1
    clear hb1
    go_wp2_with fail
    refine (P2.out _).mono ?_
    rintro e w2 ⟨rfl, hb2⟩
    have HB2 := Lib.hid (HB1.out.trans (hb2.mono HB1.out.size))
    clear hb2
    go_wp2_with fail
    refine (P3.out _).mono ?_
    rintro e w3 ⟨rfl, hb3⟩
    have HB3 := Lib.hid (HB2.out.trans (hb3.mono HB2.out.size))
    clear hb3
    go_wp2_with fail
    refine (P4.out _).mono ?_
    rintro e w4 ⟨rfl, hb4⟩
    have HB4 := Lib.hid (HB3.out.trans (hb4.mono HB3.out.size))
    clear hb4
    go_wp2_with fail
    refine (CCount.alive _).mono ?_
    rintro e w5 ⟨rfl, hb5⟩
    have HB5 := Lib.hid (HB4.out.trans (hb5.mono HB4.out.size))
    clear hb5
    go_wp2
    go_ret
    exact ⟨rfl, HB5.out⟩
theorem walk (k : ByteArray) (e s f n : Int) (w : World) (w0 : k.size ≤ maxLen) (w1 : (Lit.int .i64 e).wf = true) (w2 : (Lit.int .i64 s).wf = true) (w3 : (Lit.int .i64 f).wf = true) (w4 : (Lit.int .i64 n).wf = true) :
    Calls Try.prog 3 #[.string k, .int .i64 e, .int .i64 s, .int .i64 f, .int .i64 n] w fun e w' => e = .returned (.bool true) ∧ Below w.heap.size w w' := by
  clear w0
  obtain ⟨l, rfl⟩ : ∃ l : List UInt8, k = ⟨l.toArray⟩ := ⟨k.data.toList, rfl⟩
  by_cases h : 80 < n ∧ n ≤ 65536
  · exact much _ e s f n w h.1 h.2
  · exact few l e s f n w (bounds_i64 w1) (bounds_i64 w2) (bounds_i64 w3) (bounds_i64 w4) h
theorem own : ownKnob Try.prog.godebug = none := by kernel_rfl
theorem laidOut : laidOutB Try.prog = true := by kernel_rfl
set_option maxRecDepth 100000 in
theorem lifted (os : Os) (started : os.Started) (H : Type) (enc : TypeId × Value → H) :
    ReturnsInHanded {} Try.checked os 3 .any (Rows.ctrStreamsSpec.pre6 enc Try.prog Try.f3 Rows.ctrStreamsRow.domain false) (Rows.ctrStreamsSpec.post enc Try.prog Try.f3 false true false false) := by
  refine returnsInHanded_of_change (C := Try.checked) own started (by kernel_rfl) Try.func3
    (ChangeSpec.witness6 (enc := enc) (C := Try.checked) false ⟨#[], #[.string ByteArray.empty, .int .i64 0, .int .i64 0, .int .i64 0, .int .i64 0], []⟩ 8 (by kernel_rfl) (by kernel_rfl) (by kernel_rfl) (by kernel_rfl)) ?_
  intro W base args ds gs before hval0 hW hcnd _
  have hval : ∀ (j : Nat) t v, Try.f3.params[j]? = some t → args[j]? = some v → Value.okWide Try.prog W .any base t v := hval0
  have hW' := hW
  obtain ⟨p, q, hA0, hV, rfl, hfz, hnd⟩ := hW
  have hA : DataW.TrodAll enc Try.prog W 0 (fun _ => true) true Try.f3.params.toList args.toList ds p := hA0
  rw [Try.params3] at hA hval
  obtain ⟨v0, vs0, d0, ds0, p0, q0, hargs, rfl, rfl, h0, r0⟩ := trodAll_cons hA
  obtain ⟨v1, vs1, d1, ds1, p1, q1, rfl, rfl, rfl, h1, r1⟩ := trodAll_cons r0
  obtain ⟨v2, vs2, d2, ds2, p2, q2, rfl, rfl, rfl, h2, r2⟩ := trodAll_cons r1
  obtain ⟨v3, vs3, d3, ds3, p3, q3, rfl, rfl, rfl, h3, r3⟩ := trodAll_cons r2
  obtain ⟨v4, vs4, d4, ds4, p4, q4, rfl, rfl, rfl, h4, r4⟩ := trodAll_cons r3
  obtain ⟨rfl, rfl, rfl⟩ := trodAll_nil r4
  obtain rfl : args = #[v0, v1, v2, v3, v4] := by cases args; simp_all
  obtain ⟨rfl, rfl⟩ := trodVars_none hV
  obtain ⟨a0, rfl, rfl, rfl, w0⟩ := open_string Try.underlying9 (hval 0 9 v0 rfl rfl) h0
  obtain ⟨a1, rfl, rfl, rfl, w1⟩ := open_int Try.underlying3 (hval 1 3 v1 rfl rfl) h1
  obtain ⟨a2, rfl, rfl, rfl, w2⟩ := open_int Try.underlying3 (hval 2 3 v2 rfl rfl) h2
  obtain ⟨a3, rfl, rfl, rfl, w3⟩ := open_int Try.underlying3 (hval 3 3 v3 rfl rfl) h3
  obtain ⟨a4, rfl, rfl, rfl, w4⟩ := open_int Try.underlying3 (hval 4 3 v4 rfl rfl) h4
  clear hA0 hval0
  refine (walk a0 a1 a2 a3 a4 W w0 w1 w2 w3 w4).mono fun e W' ⟨he, bel⟩ => ?_
  subst he
  exact ⟨_, rfl, _, _, _, [], _, [], hW', trodAll_mk1 (shut_bool Try.underlying4 _), (trodAll_cons_mk (shut_string Try.underlying9 w0) (trodAll_cons_mk (shut_int Try.underlying3 w1) (trodAll_cons_mk (shut_int Try.underlying3 w2) (trodAll_cons_mk (shut_int Try.underlying3 w3) (trodAll_cons_mk (shut_int Try.underlying3 w4) trodAll_mk0))))), rfl, bel.frame _, fun h => by cases h⟩
theorem over : Rows.ctrStreamsRow.holds Try.pinned (OpenSpec.ofChange Rows.ctrStreamsSpec) :=
  OpenClaim.holds_of_wide 3 Try.f3 rfl rfl rfl rfl rfl rfl rfl ⟨rfl, rfl, rfl, rfl, rfl⟩ rfl rfl rfl rfl rfl (by kernel_rfl) Try.func3 (by kernel_rfl)
    (of_decide_eq_true (by kernel_rfl)) (by unfold Func.isWrapper; first | (rw [if_pos (by decide +kernel)]; kernel_rfl) | (rw [if_neg (by decide +kernel)]; exact ⟨rfl, rfl⟩))
    (fun os started H enc _ => lifted os started H enc)
/-- THE STATEMENT, proved. -/
theorem proved : Rows.CtrStreamsSaid := over
#print axioms proved
end Go.Proofs.Ytjlepjnfacmieaa.ctrStreams
