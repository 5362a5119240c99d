/- GeomApart: at any shape that may be and any two numbers from 0 to 2^62 (else the chapter's example alone, as the statement has it), superblocks, keys and the data's blocks have places that are apart, and all of the disk's. The condition: the least and the most numbers lie in the program's two variables (the card ties them to the program's text). -/
import Derived.Test.YtdnnfoelhcbmlaaDoorGeoA
import Derived.Test.YtdnnfoelhcbmlaaDoorGeoT
import Derived.Laws.AppendOwn
import Derived.Test.YtdnnfoelhcbmlaaDoorRows
import Derived.Test.YtdnnfoelhcbmlaaDoorTie
import Derived.Test.YtdnnfoelhcbmlaaDoorCards
import Derived.Test.YtdnnfoelhcbmlaaDoorGeoL
import Derived.WalkKit
import Derived.ProofKit
import Derived.OpenShut
import Derived.ShutString
import Derived.ChangeOld
import Derived.Below
import Derived.LaidMore
import Derived.SevenTiedAt
import Derived.Stop.Joined
namespace Go.Proofs.YtdnnfoelhcbmlaaDoor.geomApart
open Go.ChangeShapes Go.WideShapes Go.ChangeAt Go.RowKit
open Go.ChangeMaps (open_string shut_string)
set_option linter.unusedVariables false
open GeoN GeoC GeoS GeoT
set_option maxRecDepth 100000 in
theorem none_ (a b c g p : Int) (w : World) (hb : Bnd w) (h : ¬ right a b c ∨ g < 0 ∨ p < 0 ∨ 4611686018427387904 < g ∨ 4611686018427387904 < p) :
    Calls Tryd.prog 5 #[.agg #[.int .i64 a, .int .i64 b, .int .i64 c], .int .i64 g, .int .i64 p] w fun e w' => e = .returned (.bool true) ∧ Below w.heap.size w w' := by
  have HC := Lib.hid (fun W h => GeoD.Check a b c W h)
  obtain ⟨W1, hW1⟩ : ∃ W1, W1 = w.alloc (.cells #[.int .i64 a, .int .i64 b, .int .i64 c] 23) := ⟨_, rfl⟩
  have SS : Hid (St w a b c W1) := Lib.hid (by rw [hW1]; exact st_new a b c hb)
  obtain ⟨k0, k1, k2⟩ := SS.out.cells
  go_enter Tryd.func5, Tryd.ntmps5
  go_upto_region 1 with (fail)
  rw [← hW1]
  clear hW1 hb
  have hc : (check a b c = 2) ∨ (check a b c = 0 ∧ g < 0) ∨ (check a b c = 0 ∧ ¬ g < 0 ∧ p < 0) ∨ (check a b c = 0 ∧ ¬ g < 0 ∧ ¬ p < 0 ∧ 4611686018427387904 < g) ∨ (check a b c = 0 ∧ ¬ g < 0 ∧ ¬ p < 0 ∧ ¬ 4611686018427387904 < g ∧ 4611686018427387904 < p) := by
    by_cases hr : right a b c
    · rw [check_yes hr]
      have : ¬ ¬ right a b c := fun hh => hh hr
      simp only [this, false_or] at h
      omega
    · exact .inl (check_no hr)
  clear h
  generalize check a b c = k at *
  rcases hc with rfl | ⟨rfl, h1⟩ | ⟨rfl, h1, h2⟩ | ⟨rfl, h1, h2, h3⟩ | ⟨rfl, h1, h2, h3, h4⟩
  all_goals go_wp2_with (first
    | (go_at_call 9; refine (HC.out _ SS.out.bn).mono ?_; rintro e w2 ⟨rfl, hb2⟩; replace SS := Lib.hid (SS.out.step hb2); clear hb2)
    | (go_at_call 14; refine (GeoA.alive _ SS.out.bn).mono ?_; rintro e w3 ⟨rfl, hb3⟩; replace SS := Lib.hid (SS.out.step hb3); clear hb3))
  all_goals go_ret
  all_goals exact ⟨rfl, SS.out.bel⟩
set_option maxRecDepth 100000 in
set_option maxHeartbeats 4000000 in
theorem some_ (b c g p : Int) (n : Nat) (w : World) (hb : Bnd w) (hr : right (4 + (n : Int)) b c) (h1 : ¬ g < 0) (h2 : ¬ p < 0) (h3 : ¬ 4611686018427387904 < g) (h4 : ¬ 4611686018427387904 < p) :
    Calls Tryd.prog 5 #[.agg #[.int .i64 (4 + (n : Int)), .int .i64 b, .int .i64 c], .int .i64 g, .int .i64 p] w fun e w' => e = .returned (.bool true) ∧ Below w.heap.size w w' := by
  have hn : n ≤ 1020 := by have := hr.2.1; omega
  have HC := Lib.hid (fun W h => GeoD.Check (4 + (n : Int)) b c W h)
  rw [check_yes hr] at HC
  have HD := Lib.hid (fun W h => GeoD.Data (4 + (n : Int)) b c W h)
  have hd := data_yes hr
  rw [show 4 + (n : Int) - 4 = n from by omega] at hd
  rw [hd] at HD
  have HP := Lib.hid (fun (j : Nat) (hj : j < n) W h => by
    have := GeoD.Place (4 + (n : Int)) b c j W h
    rw [place_yes (by omega) (by rw [hd]; omega)] at this
    exact this)
  have HS1 := Lib.hid (fun W => GeoD.Super g W (by omega))
  have HS2 := Lib.hid (fun W => GeoD.Super (g + 1) W (by omega))
  have HK1 := Lib.hid (fun W => GeoD.Key p W (by omega))
  have HK2 := Lib.hid (fun W => GeoD.Key (p + 1) W (by omega))
  have HM := Lib.hid (fun x h0 h1 => once (gen := g) (epoch := p) (by omega) (by omega) n x h0 h1)
  have HG := Lib.hid hb.lt
  generalize turn g = s0 at *
  generalize turn (g + 1) = s1 at *
  generalize 2 + turn p = r0 at *
  generalize 2 + turn (p + 1) = r1 at *
  obtain ⟨W1, hW1⟩ : ∃ W1, W1 = w.alloc (.cells #[.int .i64 (4 + (n : Int)), .int .i64 b, .int .i64 c] 23) := ⟨_, rfl⟩
  have SS : Hid (St w (4 + (n : Int)) b c W1) := Lib.hid (by rw [hW1]; exact st_new _ b c hb)
  obtain ⟨k0, k1, k2⟩ := SS.out.cells
  clear hr hd
  go_enter Tryd.func5, Tryd.ntmps5
  go_upto_region 1 with (fail)
  rw [← hW1]
  clear hW1 hb
  go_upto_region 4 with (first
    | (go_at_call 9; refine (HC.out _ SS.out.bn).mono ?_; rintro e w2 ⟨rfl, hb2⟩; replace SS := Lib.hid (SS.out.step hb2); obtain ⟨k0, k1, k2⟩ := SS.out.cells; clear hb2)
    | (go_at_call 19; refine (HS1.out _).mono ?_; rintro e _ ⟨rfl, rfl⟩)
    | (go_at_call 19; refine (HS2.out _).mono ?_; rintro e _ ⟨rfl, rfl⟩)
    | (go_at_call 20; refine (HK1.out _).mono ?_; rintro e _ ⟨rfl, rfl⟩)
    | (go_at_call 20; refine (HK2.out _).mono ?_; rintro e _ ⟨rfl, rfl⟩))
  generalize hW3 : World.alloc w2 _ = W3
  have hO : W3.ownsRow (w.heap.size + 1) 3 1 (.slice (some ⟨w2.heap.size, 0, none⟩) 4 4) (4 + 0) ((places s0 s1 r0 r1 0).map (Value.int .i64)) := by rw [← hW3]; exact own_four s0 s1 r0 r1 w2 _ SS.out.lt
  have S3 : Hid (St w (4 + (n : Int)) b c W3) := Lib.hid (by rw [← hW3]; exact SS.out.step ((Below.refl _ _).alloc (Nat.le_refl _) _))
  have HO := Lib.hid hO
  clear hW3 hO SS HC HS1 HS2 HK1 HK2 k0 k1 k2
  generalize w2.heap.size = B at *
  obtain ⟨k0, k1, k2⟩ := S3.out.cells
  obtain ⟨i0, hi0, hz0, hz1, hz2⟩ := info_parts infoI
  have HI := Lib.hid (And.intro hi0 (And.intro hz0 (And.intro hz1 hz2)))
  clear hi0 hz0 hz1 hz2
  go_wp2_with (first
    | (go_at_call 11; refine (HD.out _ S3.out.bn).mono ?_; rintro e w4 ⟨rfl, hb4⟩; have S4 := Lib.hid (S3.out.step hb4); have O4 := Lib.hid (own_step HO.out hb4); clear hb4 HO S3))
  go_loopw [7, 48] (fun v i wr => ∃ j : Nat, j ≤ n ∧ i = .int .i64 j ∧ (∃ X cap, v = .slice X (4 + j) cap) ∧ wr.ownsRow (w.heap.size + 1) 3 1 v (4 + j) ((places s0 s1 r0 r1 j).map (Value.int .i64)) ∧ St w (4 + (n : Int)) b c wr) (fun _ i _ => n - (intOf i).toNat)
  case atStart => exact ⟨0, Nat.zero_le _, rfl, ⟨_, _, rfl⟩, O4.out, S4.out⟩
  case round =>
    obtain ⟨j, hj, rfl, ⟨X, cap, rfl⟩, hown, hst⟩ := hrel
    have SS := Lib.hid hst
    have OO := Lib.hid hown
    clear hst hown S4 O4 k0 k1 k2
    obtain ⟨k0, k1, k2⟩ := SS.out.cells
    by_cases hlt : j < n
    · have HPj := Lib.hid (HP.out j hlt)
      go_wp2_with (first
        | (go_at_call 7; refine (HPj.out _ SS.out.bn).mono ?_; rintro e w5 ⟨rfl, hb5⟩; have S5 := Lib.hid (SS.out.step hb5); have O5 := Lib.hid (own_step OO.out hb5); clear hb5)
        | (at_builtin; go_loud (
           obtain ⟨hi0, hz0, hz1, hz2⟩ := HI.out
           have hb6 : Below w5.heap.size w5 (w5.alloc (.cells #[.int .i64 (4 + (j : Int))] 3)) := (Below.refl _ _).alloc (Nat.le_refl _) _
           have O6 := Lib.hid (own_step O5.out hb6)
           have S6 := Lib.hid (S5.out.step hb6)
           have C6 : Hid (∀ q u, ([.int .i64 (4 + (j : Int))] : List Value)[q]? = some u → (w5.alloc (.cells #[.int .i64 (4 + (j : Int))] 3)).cell? ((⟨w5.heap.size, 0, none⟩ : Addr).add q) = some u) := by
             show ∀ q u, _
             intro q u hu
             rw [Go.WideShapes.add_plain, Nat.zero_add]
             exact blk_cell (heap_alloc_new w5 _) (by show ([.int .i64 (4 + (j : Int))] : List Value).toArray[q]? = _; rw [List.getElem?_toArray]; exact hu)
           refine wpList_append_own _ rfl (.tmp 59) (.tmp 61) 43 rfl (w.heap.size + 1) 3 i0 (.int .i64 0) 1 8 Tryd.underlying43 hi0 hz0 hz1 hz2 rfl (by omega) _ (4 + j) _ rfl O6.out ⟨w5.heap.size, 0, none⟩ 1 1 [.int .i64 (4 + (j : Int))] rfl rfl C6.out (by simp [Value.oneCell']) (by unfold maxLen; omega) (by omega) S6.out.lt ?_
           intro v7 w7 hown7 hg7 hnil7
           obtain ⟨a7, n7, c7, rfl⟩ := own_slice hown7
           obtain rfl := own_len hown7
           have hb7 : Below (w.heap.size + 1) (w5.alloc (.cells #[.int .i64 (4 + (j : Int))] 3)) w7 := (Below.refl _ _).grown hg7 S6.out.lt (fun q hq => own_le O6.out hq)
           have S7 := Lib.hid (St.keep S6.out hb7 HG.out.1 HG.out.2)
           have O7 := Lib.hid hown7
           clear hown7 hg7 hnil7 hb7 hb6)))
      go_roundw
      case rel =>
        refine ⟨j + 1, by omega, by go_num, ⟨_, _, rfl⟩, ?_, S7.out⟩
        have := O7.out
        rw [places_next, List.map_append]
        exact this
      case measure => simp [intOf]; omega
    · have hk : j = n := by omega
      subst hk
      generalize wr = W9 at *
      clear HP HD HI
      have hrow := row_own OO.out
      have hml := places_len s0 s1 r0 r1 j
      generalize places s0 s1 r0 r1 j = M at *
      obtain ⟨gb, off, rfl, _, hcell⟩ := hrow.2 (by omega)
      have HCE := Lib.hid hcell
      clear hcell hrow OO
      go_wp2_with fail
      go_loopw [66] (fun i wr => ∃ q : Nat, q ≤ 4 + j ∧ i = .int .i64 q ∧ wr = W9) (fun i _ => 4 + j - (intOf i).toNat)
      case atStart => exact ⟨0, Nat.zero_le _, rfl, rfl⟩
      case round =>
        obtain ⟨q, hq, rfl, hwr⟩ := hrel
        subst hwr
        by_cases hql : q < 4 + j
        · have hcount := HM.out q (by omega) (by omega)
          have HCO := Lib.hid hcount
          clear hcount
          go_wp2_with fail
          go_loopw [12, 71] (fun m i w2 => ∃ u : Nat, u ≤ 4 + j ∧ i = .int .i64 u ∧ m = .int .i64 ((M.take u).count (q : Int) : Nat) ∧ w2 = wr) (fun _ i _ => 4 + j - (intOf i).toNat)
          case atStart => exact ⟨0, Nat.zero_le _, rfl, rfl, rfl⟩
          case round =>
            obtain ⟨u, hu, rfl, rfl, hw2⟩ := hrel
            subst hw2
            by_cases hul : u < 4 + j
            · have hc := HCE.out u hul
              have hx : M.getD u 0 = M[u]'(by omega) := by simp [List.getD, show u < M.length from by omega]
              have hle : (M.take u).count (q : Int) ≤ u := Nat.le_trans List.count_le_length (by simp; omega)
              by_cases he : M.getD u 0 = (q : Int)
              · have hstep : Hid ((M.take (u + 1)).count (q : Int) = (M.take u).count (q : Int) + 1) := by
                  show _ = _
                  rw [count_next M q u (by omega), if_pos (by rw [← hx]; exact he)]
                clear hx
                generalize M.getD u 0 = x at *
                generalize (M.take u).count (q : Int) = m at *
                go_wp2_with fail
                go_roundw
                case rel => exact ⟨u + 1, by omega, by go_num, by rw [hstep.out] <;> go_num, trivial⟩
                case measure => simp [intOf]; omega
              · have hstep : Hid ((M.take (u + 1)).count (q : Int) = (M.take u).count (q : Int)) := by
                  show _ = _
                  rw [count_next M q u (by omega), if_neg (by rw [← hx]; exact he), Nat.add_zero]
                clear hx
                generalize M.getD u 0 = x at *
                generalize (M.take u).count (q : Int) = m at *
                go_wp2_with fail
                go_roundw
                case rel => exact ⟨u + 1, by omega, by go_num, by rw [hstep.out], trivial⟩
                case measure => simp [intOf]; omega
            · have hk : u = 4 + j := by omega
              subst hk
              have hone : (M.take (4 + j)).count (q : Int) = 1 := by rw [List.take_of_length_le (by omega)]; exact HCO.out
              rw [hone]
              go_wp2_with fail
              go_roundw
              case rel => exact ⟨q + 1, by omega, by go_num, trivial⟩
              case measure => simp [intOf]; omega
        · have hk : q = 4 + j := by omega
          subst hk
          obtain ⟨k0, k1, k2⟩ := SS.out.cells
          go_wp2_with (first
            | (go_at_call 14; refine (GeoA.alive _ SS.out.bn).mono ?_; rintro e w8 ⟨rfl, hb8⟩; have S8 := Lib.hid (SS.out.step hb8); clear hb8))
          go_ret
          exact ⟨rfl, S8.out.bel⟩
theorem walk (a b c g p : Int) (w : World) (wa : (Lit.int .i64 a).wf = true) (wb : (Lit.int .i64 b).wf = true) (wc : (Lit.int .i64 c).wf = true) (wg : (Lit.int .i64 g).wf = true) (wp : (Lit.int .i64 p).wf = true) (hr : Bnd w) :
    Calls Tryd.prog 5 #[.agg #[.int .i64 a, .int .i64 b, .int .i64 c], .int .i64 g, .int .i64 p] w fun e w' => e = .returned (.bool true) ∧ Below w.heap.size w w' := by
  by_cases h : ¬ right a b c ∨ g < 0 ∨ p < 0 ∨ 4611686018427387904 < g ∨ 4611686018427387904 < p
  · exact none_ a b c g p w hr h
  · have hg : right a b c := Classical.byContradiction fun x => h (.inl x)
    obtain ⟨n, hn⟩ : ∃ n : Nat, a = 4 + (n : Int) := ⟨(a - 4).toNat, by have := hg.1; omega⟩
    subst hn
    exact some_ b c g p n w hr hg (fun x => h (.inr (.inl x))) (fun x => h (.inr (.inr (.inl x)))) (fun x => h (.inr (.inr (.inr (.inl x))))) (fun x => h (.inr (.inr (.inr (.inr x)))))
theorem own : ownKnob Tryd.prog.godebug = none := by kernel_rfl
theorem laidOut : laidOutB Tryd.prog = true := by kernel_rfl
set_option maxRecDepth 100000 in
theorem lifted (os : Os) (started : os.Started) (H : Type) (enc : TypeId × Value → H) :
    ReturnsInHanded {} Tryd.checked os 5 .any (fun w args => (Rows.geomApartSpec.pre enc Tryd.prog Tryd.f5 Rows.geomApartRow.domain false w args ∧ laidMetH Tryd.prog Rows.geomApartRow.laid w) ∧ sizedMet enc Tryd.prog Tryd.f5 (OpenSpec.ofChange Rows.geomApartSpec) false w args) (Rows.geomApartSpec.post enc Tryd.prog Tryd.f5 false true false false) := by
  refine returnsInHanded_of_change_and (C := Tryd.checked) (X := fun w _ => laidMetH Tryd.prog Rows.geomApartRow.laid w) (fun _ _ _ hh h => h.of_heap hh) own started (by kernel_rfl) Tryd.func5
    (ChangeSpec.witness_shaped (enc := enc) (C := Tryd.checked) (os := os) (X := fun w _ => laidMetH Tryd.prog Rows.geomApartRow.laid w) false (World.doorLaid Tryd.prog 400 os) #[.agg #[.int .i64 0, .int .i64 0, .int .i64 0], .int .i64 0, .int .i64 0] 8 rfl (World.shaped_of_RefB (by kernel_rfl) (by kernel_rfl)) (by kernel_rfl) (by kernel_rfl) (by kernel_rfl) (GeoL.door_met os _)) ?_
  intro W base args ds gs before hval0 hW _ _ hL _
  have hr := GeoL.of_laid hL
  have hval : ∀ (j : Nat) t v, Tryd.f5.params[j]? = some t → args[j]? = some v → Value.okWide Tryd.prog W .any base t v := hval0
  have hW' := hW
  obtain ⟨p, q, hA0, hV, rfl, hfz, hnd⟩ := hW
  have hA : DataW.TrodAll enc Tryd.prog W 0 (fun _ => true) true Tryd.f5.params.toList args.toList ds p := hA0
  rw [Tryd.params5] at hA hval
  obtain ⟨v0, vs0, d0, ds0, p0, q0, hargs, rfl, rfl, h0, r0⟩ := trodAll_cons hA
  obtain ⟨v1, vs1, d1, ds1, p1, q1, rfl, rfl, rfl, h1, r1⟩ := trodAll_cons r0
  obtain ⟨v2, vs2, d2, ds2, p2, q2, rfl, rfl, rfl, h2, r2⟩ := trodAll_cons r1
  obtain ⟨rfl, rfl, rfl⟩ := trodAll_nil r2
  obtain rfl : args = #[v0, v1, v2] := by cases args; simp_all
  obtain ⟨rfl, rfl⟩ := trodVars_none hV
  have k0 := h0
  have lt0 : ∀ x ∈ p0, x.block < W.heap.size := by obtain ⟨m, hm⟩ := k0; exact DataW.trod_lt m _ _ _ hm
  obtain ⟨a0, b0, c0, rfl, wa0, wb0, wc0⟩ := GeoL.open_geo (hval 0 23 v0 rfl rfl) h0
  obtain ⟨a1, rfl, rfl, rfl, w1⟩ := open_int Tryd.underlying3 (hval 1 3 v1 rfl rfl) h1
  obtain ⟨a2, rfl, rfl, rfl, w2⟩ := open_int Tryd.underlying3 (hval 2 3 v2 rfl rfl) h2
  clear hA0 hval0
  refine (walk a0 b0 c0 a1 a2 W wa0 wb0 wc0 w1 w2 hr).mono fun e W' ⟨he, bel⟩ => ?_
  subst he
  exact ⟨_, rfl, _, _, _, [], _, [], hW', trodAll_mk1 (shut_bool Tryd.underlying4 _), (trodAll_cons_mk (Below.trod laidOut (by kernel_rfl) (of_decide_eq_true (by kernel_rfl)) k0 bel lt0) (trodAll_cons_mk (shut_int Tryd.underlying3 w1) (trodAll_cons_mk (shut_int Tryd.underlying3 w2) trodAll_mk0))), rfl, bel.frame _, fun h => by cases h⟩
theorem over : Rows.geomApartRow.holds Tryd.pinned (OpenSpec.ofChange Rows.geomApartSpec) :=
  OpenClaim.holds_of_wide 5 Tryd.f5 rfl rfl rfl rfl rfl rfl rfl ⟨rfl, rfl, rfl, rfl, rfl⟩ rfl rfl rfl rfl rfl (by kernel_rfl) Tryd.func5 (by kernel_rfl)
    (of_decide_eq_true (by kernel_rfl)) (by unfold Func.isWrapper; first | (rw [if_pos (by decide +kernel)]; kernel_rfl) | (rw [if_neg (by decide +kernel)]; exact ⟨rfl, rfl⟩))
    (fun os started H enc _ => lifted os started H enc)
/-- THE STATEMENT, proved. -/
theorem proved : Rows.GeomApartCardSaid :=
  Claim7.holds_tied_plain_at .later [] _ true _ false
    over (fun _ h => by cases h) (by kernel_rfl) (fun _ h => by cases h) geomApart_row_tie rfl ⟨rfl, rfl⟩ (by kernel_rfl) rfl
    (fun f fn hf hfn => by
      obtain rfl : f = 5 := Option.some.inj ((show Tryd.prog.funcNamed "keepsake/keepsakelaw09.GeomApart" = some 5 by kernel_rfl).symm.trans hf) |>.symm
      obtain rfl : fn = Tryd.f5 := (Option.some.inj (Tryd.func5.symm.trans hfn)).symm
      exact ⟨by kernel_rfl, fun j t ht => by
        rw [Tryd.params5] at ht
        have hm : t ∈ [23, 3, 3] := by simpa using Array.mem_of_getElem? ht
        have hall : ([23, 3, 3].all fun u => !Tryd.prog.wantsStandIn u) = true := by kernel_rfl
        exact (show Tryd.prog.wantsStandIn t = false by simpa using List.all_eq_true.1 hall t hm)⟩)
    (by kernel_rfl)
#print axioms proved
end Go.Proofs.YtdnnfoelhcbmlaaDoor.geomApart
