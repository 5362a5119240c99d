/- ClockTicks: at any time, any row of times of at most 1,000 (longer ones: only the chapter's example), any time to be past: the clock takes or refuses each, and shows, what the document says; what is past stays so. No conditions. -/
import Derived.Test.YtegbafconabpeaaCloM
import Derived.Test.YtegbafconabpeaaSlice
import Derived.Test.YtegbafconabpeaaRows
import Derived.WalkKit
import Derived.ProofKit
import Derived.OpenShut
import Derived.ShutString
import Derived.ChangeOld
import Derived.Below
namespace Go.Proofs.Ytegbafconabpeaa.clockTicks
open Go.ChangeShapes Go.WideShapes Go.ChangeAt Go.RowKit
open Go.ChangeMaps (open_string shut_string)
set_option linter.unusedVariables false
open CloC CloM
theorem long (n p : Int) (a : Option Addr) (m c : Nat) (w : World) (h : 1000 < m) :
    Calls Try.prog 3 #[.int .i64 n, .slice a m c, .int .i64 p] w fun e w' => e = .returned (.bool true) ∧ Below w.heap.size w w' := by
  go_enter Try.func3, Try.ntmps3
  go_wp2_with (go_at_call 6; refine (alive _).mono ?_; rintro e w1 ⟨rfl, k⟩; have BB := Lib.hid k; clear k)
  go_ret
  exact ⟨rfl, BB.out⟩
theorem none_ (n p : Int) (a : Option Addr) (m c : Nat) (w : World) (h : m ≤ 1000) (hn : n < 0 ∨ 1099511627776 < n) :
    Calls Try.prog 3 #[.int .i64 n, .slice a m c, .int .i64 p] w fun e w' => e = .returned (.bool true) ∧ Below w.heap.size w w' := by
  have HN := Lib.hid (New_no n w hn)
  by_cases h0 : n < 0
  · clear hn
    go_enter Try.func3, Try.ntmps3
    go_wp2_with (first
      | (go_at_call 7; refine HN.out.mono ?_; rintro e w1 ⟨rfl, k⟩; have BB := Lib.hid k; clear k)
      | (go_at_call 6; refine (alive _).mono ?_; rintro e w2 ⟨rfl, k⟩; replace BB := Lib.hid (BB.out.trans (k.mono BB.out.size)); clear k))
    go_ret
    exact ⟨rfl, BB.out⟩
  · have h1 : 1099511627776 < n := by omega
    clear hn
    go_enter Try.func3, Try.ntmps3
    go_wp2_with (first
      | (go_at_call 7; refine HN.out.mono ?_; rintro e w1 ⟨rfl, k⟩; have BB := Lib.hid k; clear k)
      | (go_at_call 6; refine (alive _).mono ?_; rintro e w2 ⟨rfl, k⟩; replace BB := Lib.hid (BB.out.trans (k.mono BB.out.size)); clear k))
    go_ret
    exact ⟨rfl, BB.out⟩
set_option maxRecDepth 100000 in
set_option maxHeartbeats 2000000 in
theorem some_ (n p : Int) (a : Option Addr) (m c : Nat) (l : List Int) (w : World) (hr : Row w w.heap.size a m l) (h : m ≤ 1000) (h0 : 0 ≤ n) (h1 : n ≤ 1099511627776) :
    Calls Try.prog 3 #[.int .i64 n, .slice a m c, .int .i64 p] w fun e w' => e = .returned (.bool true) ∧ Below w.heap.size w w' := by
  have HN := Lib.hid (New_yes n w h0 h1)
  have HZ := Lib.hid hr.2
  clear hr
  go_enter Try.func3, Try.ntmps3
  go_upto_region 9 with (go_at_call 7; refine HN.out.mono ?_; rintro e w1 ⟨B, hB, rfl, hc, hb⟩; have R := Lib.hid (Run.mk hb hc hB); clear hB hc hb HN)
  go_wp2_with fail
  go_loopw [0, 9, 45] (fun x q i wr => ∃ j : Nat, j ≤ m ∧ i = .int .i64 j ∧ ∃ v, x = .int .i64 v ∧ 0 ≤ v ∧ v ≤ 1099511627776 ∧ Run w B v wr ∧ ∃ b, q = .bool b ∧ (b = true → p ≤ v)) (fun _ _ i _ => m - (intOf i).toNat)
  case atStart => exact ⟨0, Nat.zero_le _, rfl, n, rfl, h0, h1, R.out, false, rfl, fun h => by cases h⟩
  case round =>
    clear h0 h1
    obtain ⟨j, hj, rfl, v, rfl, h0, h1, hrun, b, rfl, hb⟩ := hrel
    replace R := Lib.hid hrun
    clear hrun
    by_cases hlt : j < m
    · obtain ⟨g, o, rfl, hgl, hc⟩ := HZ.out (by omega)
      have q0 : wr.cell? ⟨g, o + j, none⟩ = some (.int .i64 (l.getD j 0)) := (R.out.bel.cell (p := ⟨g, o + j, none⟩) hgl).trans (hc j hlt)
      clear hc HZ
      generalize l.getD j 0 = t at *
      by_cases t0 : t < 0
      · have H1 := Lib.hid (fun W (h : Run w B v W) => Tick_arg B 0 v t W h.c (.inl t0))
        have H2 := Lib.hid (fun W (h : Run w B v W) => Now B 0 v W h.c)
        have H3 := Lib.hid (fun W (h : Run w B v W) => Past B 0 v p W h.c)
        by_cases hp : p ≤ v
        · rw [show decide (v ≥ p) = true from decide_eq_true hp] at H3
          clear hb
          cases b
          · go_wp2_with (first
              | (go_at_call 8; refine (H1.out _ R.out).mono ?_; rintro e w2 ⟨rfl, k⟩; replace R := Lib.hid (R.out.step k); clear k H1)
              | (go_at_call 9; refine (H2.out _ R.out).mono ?_; rintro e w3 ⟨rfl, k⟩; replace R := Lib.hid (R.out.step k); clear k)
              | (go_at_call 10; refine (H3.out _ R.out).mono ?_; rintro e w4 ⟨rfl, k⟩; replace R := Lib.hid (R.out.step k); clear k))
            go_roundw
            case rel => exact ⟨j + 1, by omega, by go_num, v, rfl, by omega, by omega, R.out, true, rfl, fun _ => hp⟩
            case measure => simp [intOf] <;> omega
          · go_wp2_with (first
              | (go_at_call 8; refine (H1.out _ R.out).mono ?_; rintro e w2 ⟨rfl, k⟩; replace R := Lib.hid (R.out.step k); clear k H1)
              | (go_at_call 9; refine (H2.out _ R.out).mono ?_; rintro e w3 ⟨rfl, k⟩; replace R := Lib.hid (R.out.step k); clear k)
              | (go_at_call 10; refine (H3.out _ R.out).mono ?_; rintro e w4 ⟨rfl, k⟩; replace R := Lib.hid (R.out.step k); clear k))
            go_roundw
            case rel => exact ⟨j + 1, by omega, by go_num, v, rfl, by omega, by omega, R.out, true, rfl, fun _ => hp⟩
            case measure => simp [intOf] <;> omega
        · rw [show decide (v ≥ p) = false from decide_eq_false hp] at H3
          cases b
          · clear hb
            go_wp2_with (first
              | (go_at_call 8; refine (H1.out _ R.out).mono ?_; rintro e w2 ⟨rfl, k⟩; replace R := Lib.hid (R.out.step k); clear k H1)
              | (go_at_call 9; refine (H2.out _ R.out).mono ?_; rintro e w3 ⟨rfl, k⟩; replace R := Lib.hid (R.out.step k); clear k)
              | (go_at_call 10; refine (H3.out _ R.out).mono ?_; rintro e w4 ⟨rfl, k⟩; replace R := Lib.hid (R.out.step k); clear k))
            go_roundw
            case rel => exact ⟨j + 1, by omega, by go_num, v, rfl, by omega, by omega, R.out, false, rfl, fun h => by cases h⟩
            case measure => simp [intOf] <;> omega
          · exact absurd (hb rfl) (by omega)
      · by_cases t1 : 1099511627776 < t
        · have H1 := Lib.hid (fun W (h : Run w B v W) => Tick_arg B 0 v t W h.c (.inr t1))
          have H2 := Lib.hid (fun W (h : Run w B v W) => Now B 0 v W h.c)
          have H3 := Lib.hid (fun W (h : Run w B v W) => Past B 0 v p W h.c)
          by_cases hp : p ≤ v
          · rw [show decide (v ≥ p) = true from decide_eq_true hp] at H3
            clear hb
            cases b
            · go_wp2_with (first
                | (go_at_call 8; refine (H1.out _ R.out).mono ?_; rintro e w2 ⟨rfl, k⟩; replace R := Lib.hid (R.out.step k); clear k H1)
                | (go_at_call 9; refine (H2.out _ R.out).mono ?_; rintro e w3 ⟨rfl, k⟩; replace R := Lib.hid (R.out.step k); clear k)
                | (go_at_call 10; refine (H3.out _ R.out).mono ?_; rintro e w4 ⟨rfl, k⟩; replace R := Lib.hid (R.out.step k); clear k))
              go_roundw
              case rel => exact ⟨j + 1, by omega, by go_num, v, rfl, by omega, by omega, R.out, true, rfl, fun _ => hp⟩
              case measure => simp [intOf] <;> omega
            · go_wp2_with (first
                | (go_at_call 8; refine (H1.out _ R.out).mono ?_; rintro e w2 ⟨rfl, k⟩; replace R := Lib.hid (R.out.step k); clear k H1)
                | (go_at_call 9; refine (H2.out _ R.out).mono ?_; rintro e w3 ⟨rfl, k⟩; replace R := Lib.hid (R.out.step k); clear k)
                | (go_at_call 10; refine (H3.out _ R.out).mono ?_; rintro e w4 ⟨rfl, k⟩; replace R := Lib.hid (R.out.step k); clear k))
              go_roundw
              case rel => exact ⟨j + 1, by omega, by go_num, v, rfl, by omega, by omega, R.out, true, rfl, fun _ => hp⟩
              case measure => simp [intOf] <;> omega
          · rw [show decide (v ≥ p) = false from decide_eq_false hp] at H3
            cases b
            · clear hb
              go_wp2_with (first
                | (go_at_call 8; refine (H1.out _ R.out).mono ?_; rintro e w2 ⟨rfl, k⟩; replace R := Lib.hid (R.out.step k); clear k H1)
                | (go_at_call 9; refine (H2.out _ R.out).mono ?_; rintro e w3 ⟨rfl, k⟩; replace R := Lib.hid (R.out.step k); clear k)
                | (go_at_call 10; refine (H3.out _ R.out).mono ?_; rintro e w4 ⟨rfl, k⟩; replace R := Lib.hid (R.out.step k); clear k))
              go_roundw
              case rel => exact ⟨j + 1, by omega, by go_num, v, rfl, by omega, by omega, R.out, false, rfl, fun h => by cases h⟩
              case measure => simp [intOf] <;> omega
            · exact absurd (hb rfl) (by omega)
        · by_cases t2 : t < v
          · have H1 := Lib.hid (fun W (h : Run w B v W) => Tick_back B 0 v t W h.c (by omega) (by omega) t2)
            have H2 := Lib.hid (fun W (h : Run w B v W) => Now B 0 v W h.c)
            have H3 := Lib.hid (fun W (h : Run w B v W) => Past B 0 v p W h.c)
            by_cases hp : p ≤ v
            · rw [show decide (v ≥ p) = true from decide_eq_true hp] at H3
              clear hb
              cases b
              · go_wp2_with (first
                  | (go_at_call 8; refine (H1.out _ R.out).mono ?_; rintro e w2 ⟨rfl, k⟩; replace R := Lib.hid (R.out.step k); clear k H1)
                  | (go_at_call 9; refine (H2.out _ R.out).mono ?_; rintro e w3 ⟨rfl, k⟩; replace R := Lib.hid (R.out.step k); clear k)
                  | (go_at_call 10; refine (H3.out _ R.out).mono ?_; rintro e w4 ⟨rfl, k⟩; replace R := Lib.hid (R.out.step k); clear k))
                go_roundw
                case rel => exact ⟨j + 1, by omega, by go_num, v, rfl, by omega, by omega, R.out, true, rfl, fun _ => hp⟩
                case measure => simp [intOf] <;> omega
              · go_wp2_with (first
                  | (go_at_call 8; refine (H1.out _ R.out).mono ?_; rintro e w2 ⟨rfl, k⟩; replace R := Lib.hid (R.out.step k); clear k H1)
                  | (go_at_call 9; refine (H2.out _ R.out).mono ?_; rintro e w3 ⟨rfl, k⟩; replace R := Lib.hid (R.out.step k); clear k)
                  | (go_at_call 10; refine (H3.out _ R.out).mono ?_; rintro e w4 ⟨rfl, k⟩; replace R := Lib.hid (R.out.step k); clear k))
                go_roundw
                case rel => exact ⟨j + 1, by omega, by go_num, v, rfl, by omega, by omega, R.out, true, rfl, fun _ => hp⟩
                case measure => simp [intOf] <;> omega
            · rw [show decide (v ≥ p) = false from decide_eq_false hp] at H3
              cases b
              · clear hb
                go_wp2_with (first
                  | (go_at_call 8; refine (H1.out _ R.out).mono ?_; rintro e w2 ⟨rfl, k⟩; replace R := Lib.hid (R.out.step k); clear k H1)
                  | (go_at_call 9; refine (H2.out _ R.out).mono ?_; rintro e w3 ⟨rfl, k⟩; replace R := Lib.hid (R.out.step k); clear k)
                  | (go_at_call 10; refine (H3.out _ R.out).mono ?_; rintro e w4 ⟨rfl, k⟩; replace R := Lib.hid (R.out.step k); clear k))
                go_roundw
                case rel => exact ⟨j + 1, by omega, by go_num, v, rfl, by omega, by omega, R.out, false, rfl, fun h => by cases h⟩
                case measure => simp [intOf] <;> omega
              · exact absurd (hb rfl) (by omega)
          · have H1 := Lib.hid (fun W (h : Run w B v W) => Tick_ok B 0 v t W h.c (by omega) (by omega) (by omega))
            have H2 := Lib.hid (fun W (h : Run w B t W) => Now B 0 t W h.c)
            have H3 := Lib.hid (fun W (h : Run w B t W) => Past B 0 t p W h.c)
            by_cases hp : p ≤ t
            · rw [show decide (t ≥ p) = true from decide_eq_true hp] at H3
              clear hb
              cases b
              · go_wp2_with (first
                  | (go_at_call 8; refine (H1.out _ R.out).mono ?_; rintro e w2 ⟨rfl, k⟩; replace R := Lib.hid (R.out.turn k); clear k H1)
                  | (go_at_call 9; refine (H2.out _ R.out).mono ?_; rintro e w3 ⟨rfl, k⟩; replace R := Lib.hid (R.out.step k); clear k)
                  | (go_at_call 10; refine (H3.out _ R.out).mono ?_; rintro e w4 ⟨rfl, k⟩; replace R := Lib.hid (R.out.step k); clear k))
                go_roundw
                case rel => exact ⟨j + 1, by omega, by go_num, t, rfl, by omega, by omega, R.out, true, rfl, fun _ => hp⟩
                case measure => simp [intOf] <;> omega
              · go_wp2_with (first
                  | (go_at_call 8; refine (H1.out _ R.out).mono ?_; rintro e w2 ⟨rfl, k⟩; replace R := Lib.hid (R.out.turn k); clear k H1)
                  | (go_at_call 9; refine (H2.out _ R.out).mono ?_; rintro e w3 ⟨rfl, k⟩; replace R := Lib.hid (R.out.step k); clear k)
                  | (go_at_call 10; refine (H3.out _ R.out).mono ?_; rintro e w4 ⟨rfl, k⟩; replace R := Lib.hid (R.out.step k); clear k))
                go_roundw
                case rel => exact ⟨j + 1, by omega, by go_num, t, rfl, by omega, by omega, R.out, true, rfl, fun _ => hp⟩
                case measure => simp [intOf] <;> omega
            · rw [show decide (t ≥ p) = false from decide_eq_false hp] at H3
              cases b
              · clear hb
                go_wp2_with (first
                  | (go_at_call 8; refine (H1.out _ R.out).mono ?_; rintro e w2 ⟨rfl, k⟩; replace R := Lib.hid (R.out.turn k); clear k H1)
                  | (go_at_call 9; refine (H2.out _ R.out).mono ?_; rintro e w3 ⟨rfl, k⟩; replace R := Lib.hid (R.out.step k); clear k)
                  | (go_at_call 10; refine (H3.out _ R.out).mono ?_; rintro e w4 ⟨rfl, k⟩; replace R := Lib.hid (R.out.step k); clear k))
                go_roundw
                case rel => exact ⟨j + 1, by omega, by go_num, t, rfl, by omega, by omega, R.out, false, rfl, fun h => by cases h⟩
                case measure => simp [intOf] <;> omega
              · exact absurd (hb rfl) (by omega)
    · obtain rfl : j = m := by omega
      have H2 := Lib.hid (fun W (h : Run w B v W) => Now B 0 v W h.c)
      go_wp2_with (first
        | (go_at_call 9; refine (H2.out _ R.out).mono ?_; rintro e w3 ⟨rfl, k⟩; replace R := Lib.hid (R.out.step k); clear k)
        | (go_at_call 6; refine (alive _).mono ?_; rintro e w5 ⟨rfl, k⟩; replace R := Lib.hid (R.out.step k); clear k))
      go_ret
      exact ⟨rfl, R.out.bel⟩
theorem walk (n : Int) (a : Option Addr) (m c : Nat) (zs : List Int) (p : Int) (w : World) (wn : (Lit.int .i64 n).wf = true) (wl : IntsAt .i64 w a m c zs) (wp : (Lit.int .i64 p).wf = true) :
    Calls Try.prog 3 #[.int .i64 n, .slice a m c, .int .i64 p] w fun e w' => e = .returned (.bool true) ∧ Below w.heap.size w w' := by
  clear wn wp
  by_cases h : 1000 < m
  · exact long n p a m c w h
  · by_cases hn : n < 0 ∨ 1099511627776 < n
    · exact none_ n p a m c w (by omega) hn
    · obtain ⟨l, hc, _⟩ := row_at wl
      exact some_ n p a m c l w hc (by omega) (by omega) (by omega)
theorem own : ownKnob Try.prog.godebug = none := by kernel_rfl
theorem laidOut : laidOutB Try.prog = true := by kernel_rfl
set_option maxRecDepth 100000 in
theorem lifted (os : Os) (started : os.Started) (H : Type) (enc : TypeId × Value → H) :
    ReturnsInHanded {} Try.checked os 3 .any (Rows.clockTicksSpec.pre6 enc Try.prog Try.f3 Rows.clockTicksRow.domain false) (Rows.clockTicksSpec.post enc Try.prog Try.f3 false true false false) := by
  refine returnsInHanded_of_change (C := Try.checked) own started (by kernel_rfl) Try.func3
    (ChangeSpec.witness6 (enc := enc) (C := Try.checked) false ⟨#[], #[.int .i64 0, .slice none 0 0, .int .i64 0], []⟩ 8 (by kernel_rfl) (by kernel_rfl) (by kernel_rfl) (by kernel_rfl)) ?_
  intro W base args ds gs before hval0 hW hcnd _
  have hval : ∀ (j : Nat) t v, Try.f3.params[j]? = some t → args[j]? = some v → Value.okWide Try.prog W .any base t v := hval0
  have hW' := hW
  obtain ⟨p, q, hA0, hV, rfl, hfz, hnd⟩ := hW
  have hA : DataW.TrodAll enc Try.prog W 0 (fun _ => true) true Try.f3.params.toList args.toList ds p := hA0
  rw [Try.params3] at hA hval
  obtain ⟨v0, vs0, d0, ds0, p0, q0, hargs, rfl, rfl, h0, r0⟩ := trodAll_cons hA
  obtain ⟨v1, vs1, d1, ds1, p1, q1, rfl, rfl, rfl, h1, r1⟩ := trodAll_cons r0
  obtain ⟨v2, vs2, d2, ds2, p2, q2, rfl, rfl, rfl, h2, r2⟩ := trodAll_cons r1
  obtain ⟨rfl, rfl, rfl⟩ := trodAll_nil r2
  obtain rfl : args = #[v0, v1, v2] := by cases args; simp_all
  obtain ⟨rfl, rfl⟩ := trodVars_none hV
  obtain ⟨a0, rfl, rfl, rfl, w0⟩ := open_int Try.underlying3 (hval 0 3 v0 rfl rfl) h0
  obtain ⟨a1, len1, cap1, rfl⟩ := okWide_slice Try.underlying22 (hval 1 22 v1 rfl rfl)
  have k1 := h1
  have lt1 : ∀ x ∈ p1, x.block < W.heap.size := by obtain ⟨m, hm⟩ := k1; exact DataW.trod_lt m _ _ _ hm
  obtain ⟨z1, w1⟩ : ∃ zs, IntsAt .i64 W a1 len1 cap1 zs := by
    obtain ⟨fuel, hf⟩ := h1
    rcases open_ints Try.underlying22 Try.underlying3 (by kernel_rfl) hf with ⟨hcs, _⟩ | ⟨x, l, c, zs, hcs, _, hl, hm, hz, _, hcell, hwz⟩
    · simp [Value.cells] at hcs
      obtain ⟨rfl, rfl, rfl⟩ := hcs
      exact ⟨[], .inl ⟨rfl, rfl, rfl, rfl⟩⟩
    · simp [Value.cells] at hcs
      obtain ⟨rfl, rfl, rfl⟩ := hcs
      exact ⟨zs, .inr ⟨_, rfl, hl, hm, by simpa using hz, hcell, hwz⟩⟩
  obtain ⟨a2, rfl, rfl, rfl, w2⟩ := open_int Try.underlying3 (hval 2 3 v2 rfl rfl) h2
  clear hA0 hval0
  refine (walk a0 a1 len1 cap1 z1 a2 W w0 w1 w2).mono fun e W' ⟨he, bel⟩ => ?_
  subst he
  exact ⟨_, rfl, _, _, _, [], _, [], hW', trodAll_mk1 (shut_bool Try.underlying4 _), (trodAll_cons_mk (shut_int Try.underlying3 w0) (trodAll_cons_mk (Below.trod laidOut (by kernel_rfl) (of_decide_eq_true (by kernel_rfl)) k1 bel lt1) (trodAll_cons_mk (shut_int Try.underlying3 w2) trodAll_mk0))), rfl, bel.frame _, fun h => by cases h⟩
theorem over : Rows.clockTicksRow.holds Try.pinned (OpenSpec.ofChange Rows.clockTicksSpec) :=
  OpenClaim.holds_of_wide 3 Try.f3 rfl rfl rfl rfl rfl rfl rfl ⟨rfl, rfl, rfl, rfl, rfl⟩ rfl rfl rfl rfl rfl (by kernel_rfl) Try.func3 (by kernel_rfl)
    (of_decide_eq_true (by kernel_rfl)) (by unfold Func.isWrapper; first | (rw [if_pos (by decide +kernel)]; kernel_rfl) | (rw [if_neg (by decide +kernel)]; exact ⟨rfl, rfl⟩))
    (fun os started H enc _ => lifted os started H enc)
/-- THE STATEMENT, proved. -/
theorem proved : Rows.ClockTicksSaid := over
#print axioms proved
end Go.Proofs.Ytegbafconabpeaa.clockTicks
