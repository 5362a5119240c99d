/- CtrOnce: at any key and any two epochs, slots and numbers, the two blocks are the same just where epoch, slot and number are, and so is what they are encrypted to. No condition but that the arguments are a Go program's (a string of at most 2^47 bytes). -/
import Derived.Test.YtjlepjnfacmieaaArr3
import Derived.Test.YtjlepjnfacmieaaCCount
import Derived.Test.YtjlepjnfacmieaaAEnc
import Derived.Test.YtjlepjnfacmieaaRows
import Derived.WalkKit
import Derived.ProofKit
import Derived.OpenShut
import Derived.ShutString
import Derived.ChangeOld
import Derived.Below
namespace Go.Proofs.Ytjlepjnfacmieaa.ctrOnce
open Go.ChangeShapes Go.WideShapes Go.ChangeAt Go.RowKit
open Go.ChangeMaps (open_string shut_string)
set_option linter.unusedVariables false
open CtrN AesM AEnc
/-- A variable of three numbers. -/
def Three (g : Nat) (a b c : Int) (w : World) : Prop := w.heap[g]? = some (.cells #[.int .i64 a, .int .i64 b, .int .i64 c] 35 (0, 0))
theorem bad (k : List UInt8) (a b c d e f : Int) (w : World) (h : ¬ ((cnt a b c).2 = 0 ∧ (cnt d e f).2 = 0)) :
    Calls Try.prog 6 #[.string ⟨k.toArray⟩, .agg #[.int .i64 a, .int .i64 b, .int .i64 c], .agg #[.int .i64 d, .int .i64 e, .int .i64 f]] w fun e w' => e = .returned (.bool true) ∧ Below w.heap.size w w' := by
  have P1 := Lib.hid (fun W => CCount.any a b c W)
  have P2 := Lib.hid (fun W => CCount.any d e f W)
  have hd : ((cnt a b c).2 != 0) = true ∨ ((cnt a b c).2 != 0) = false ∧ ((cnt d e f).2 != 0) = true := by
    by_cases h1 : (cnt a b c).2 = 0
    · exact .inr ⟨by rw [h1]; rfl, by rw [bne_iff_ne]; exact fun h2 => h ⟨h1, h2⟩⟩
    · exact .inl (by rw [bne_iff_ne]; exact h1)
  generalize cnt a b c = x at *
  generalize cnt d e f = y at *
  obtain ⟨x1, x2⟩ := x
  obtain ⟨y1, y2⟩ := y
  simp only at hd
  clear h
  obtain ⟨u1, hu1⟩ : ∃ u1, u1 = w.alloc (.cells #[.int .i64 a, .int .i64 b, .int .i64 c] 35) := ⟨_, rfl⟩
  obtain ⟨u2, hu2⟩ : ∃ u2, u2 = u1.alloc (.cells #[.int .i64 d, .int .i64 e, .int .i64 f] 35) := ⟨_, rfl⟩
  have hs1 : u1.heap.size = w.heap.size + 1 := by rw [hu1]; simp
  have HA : Hid (Three w.heap.size a b c u2) := by show _ = _; rw [hu2, hu1]; exact heap_alloc2_old w _ _
  have HD : Hid (Three (w.heap.size + 1) d e f u2) := by show _ = _; rw [hu2, ← hs1]; exact heap_alloc_new u1 _
  have HB : Hid (Below w.heap.size w u2) := by show Below _ _ _; rw [hu2, hu1]; exact ((Below.refl _ _).alloc (Nat.le_refl _) _).alloc (by simp) _
  have ca0 := blk_cell (i := 0) HA.out rfl
  have ca1 := blk_cell (i := 1) HA.out rfl
  have ca2 := blk_cell (i := 2) HA.out rfl
  have HU1 := Lib.hid hu1
  have HU2 := Lib.hid hu2
  clear hu1 hu2
  rcases hd with h1 | ⟨h1, h2⟩
  all_goals
    go_enter Try.func6, Try.ntmps6
    go_upto_region 1 with fail
    rw [← HU1.out, ← HU2.out]
    go_wp2_with fail
    refine (P1.out _).mono ?_
    rintro e w1 ⟨rfl, hb1⟩
    have hd1 := (hb1.block _ (Array.getElem?_eq_some_iff.1 HD.out).1).trans HD.out
    have cd0 := blk_cell (i := 0) hd1 rfl
    have cd1 := blk_cell (i := 1) hd1 rfl
    have cd2 := blk_cell (i := 2) hd1 rfl
    have HB1 := Lib.hid (HB.out.trans (hb1.mono HB.out.size))
    clear hb1 hd1
    go_wp2_with fail
    refine (P2.out _).mono ?_
    rintro e w2 ⟨rfl, hb2⟩
    have HB2 := Lib.hid (HB1.out.trans (hb2.mono HB1.out.size))
    clear hb2 cd0 cd1 cd2 ca0 ca1 ca2
    go_wp2_with fail
    refine (CCount.alive _).mono ?_
    rintro e w5 ⟨rfl, hb5⟩
    have HB5 := Lib.hid (HB2.out.trans (hb5.mono HB2.out.size))
    clear hb5
    go_wp2
    go_ret
    exact ⟨rfl, HB5.out⟩
set_option maxHeartbeats 2000000 in
theorem good (k l1 l2 x1 x2 : List UInt8) (a b c d e f g : Int) (w : World) (h1 : cnt a b c = (l1, 0)) (h2 : cnt d e f = (l2, 0)) (h3 : enc k l1 = (x1, g)) (h4 : enc k l2 = (x2, g)) (hg : g = 0 ∨ g = 2)
    (h : (a = d ∧ b = e ∧ c = f ∧ l1 = l2 ∧ x1 = x2) ∨ ((¬ a = d ∨ a = d ∧ ¬ b = e ∨ a = d ∧ b = e ∧ ¬ c = f) ∧ ¬ l1 = l2 ∧ (g = 0 → ¬ x1 = x2))) :
    Calls Try.prog 6 #[.string ⟨k.toArray⟩, .agg #[.int .i64 a, .int .i64 b, .int .i64 c], .agg #[.int .i64 d, .int .i64 e, .int .i64 f]] w fun e w' => e = .returned (.bool true) ∧ Below w.heap.size w w' := by
  have P1 := Lib.hid (fun W => CCount.any a b c W)
  have P2 := Lib.hid (fun W => CCount.any d e f W)
  have P3 := Lib.hid (fun W => Enc k l1 W)
  have P4 := Lib.hid (fun W => Enc k l2 W)
  rw [h1] at P1
  rw [h2] at P2
  rw [h3] at P3
  rw [h4] at P4
  clear h1 h2 h3 h4
  obtain ⟨u1, hu1⟩ : ∃ u1, u1 = w.alloc (.cells #[.int .i64 a, .int .i64 b, .int .i64 c] 35) := ⟨_, rfl⟩
  obtain ⟨u2, hu2⟩ : ∃ u2, u2 = u1.alloc (.cells #[.int .i64 d, .int .i64 e, .int .i64 f] 35) := ⟨_, rfl⟩
  have hs1 : u1.heap.size = w.heap.size + 1 := by rw [hu1]; simp
  have HA : Hid (Three w.heap.size a b c u2) := by show _ = _; rw [hu2, hu1]; exact heap_alloc2_old w _ _
  have HD : Hid (Three (w.heap.size + 1) d e f u2) := by show _ = _; rw [hu2, ← hs1]; exact heap_alloc_new u1 _
  have HB : Hid (Below w.heap.size w u2) := by show Below _ _ _; rw [hu2, hu1]; exact ((Below.refl _ _).alloc (Nat.le_refl _) _).alloc (by simp) _
  have hlt : w.heap.size + 1 < u2.heap.size := (Array.getElem?_eq_some_iff.1 HD.out).1
  have HLt := Lib.hid hlt
  have ca0 := blk_cell (i := 0) HA.out rfl
  have ca1 := blk_cell (i := 1) HA.out rfl
  have ca2 := blk_cell (i := 2) HA.out rfl
  have HU1 := Lib.hid hu1
  have HU2 := Lib.hid hu2
  clear hu1 hu2 hlt hs1
  rcases h with ⟨rfl, rfl, rfl, rfl, rfl⟩ | ⟨hd | ⟨rfl, hd⟩ | ⟨rfl, rfl, hd⟩, hll, hxx⟩ <;> rcases hg with rfl | rfl
  all_goals
    try have hxy : (x1 == x2) = false := beq_eq_false_iff_ne.2 (hxx rfl)
    try clear hxx
    try replace hll : (l1 == l2) = false := beq_eq_false_iff_ne.2 hll
    first
      | have hea := fun W => run_eql3 W a b c d e f false (by simp [hd])
      | have hea := fun W => run_eql3 W a b c a e f false (by simp [hd])
      | have hea := fun W => run_eql3 W a b c a b f false (by simp [hd])
      | have hea := fun W => run_eql3 W a b c a b c true (by simp)
    go_enter Try.func6, Try.ntmps6
    go_upto_region 1 with fail
    rw [← HU1.out, ← HU2.out]
    go_wp2_with fail
    refine (P1.out _).mono ?_
    rintro e w1 ⟨rfl, hb1⟩
    have hd1 := (hb1.block _ (Array.getElem?_eq_some_iff.1 HD.out).1).trans HD.out
    have cd0 := blk_cell (i := 0) hd1 rfl
    have cd1 := blk_cell (i := 1) hd1 rfl
    have cd2 := blk_cell (i := 2) hd1 rfl
    have HB1 := Lib.hid (HB.out.trans (hb1.mono HB.out.size))
    have HK1 := Lib.hid hb1
    clear hb1 hd1
    go_wp2_with fail
    refine (P2.out _).mono ?_
    rintro e w2 ⟨rfl, hb2⟩
    have HB2 := Lib.hid (HB1.out.trans (hb2.mono HB1.out.size))
    have HK2 := Lib.hid (HK1.out.trans (hb2.mono HK1.out.size))
    clear hb2 cd0 cd1 cd2 ca0 ca1 ca2
    go_wp2_with fail
    refine (P3.out _).mono ?_
    rintro e w3 ⟨rfl, hb3⟩
    have HB3 := Lib.hid (HB2.out.trans (hb3.mono HB2.out.size))
    have HK3 := Lib.hid (HK2.out.trans (hb3.mono HK2.out.size))
    clear hb3
    go_wp2_with fail
    refine (P4.out _).mono ?_
    rintro e w4 ⟨rfl, hb4⟩
    have HB4 := Lib.hid (HB3.out.trans (hb4.mono HB3.out.size))
    have HK4 := Lib.hid (HK3.out.trans (hb4.mono HK3.out.size))
    have ha4 := (HK4.out.block _ (Array.getElem?_eq_some_iff.1 HA.out).1).trans HA.out
    have hd4 := (HK4.out.block _ HLt.out).trans HD.out
    have ca0 := blk_cell (i := 0) ha4 rfl
    have ca1 := blk_cell (i := 1) ha4 rfl
    have ca2 := blk_cell (i := 2) ha4 rfl
    have cd0 := blk_cell (i := 0) hd4 rfl
    have cd1 := blk_cell (i := 1) hd4 rfl
    have cd2 := blk_cell (i := 2) hd4 rfl
    clear hb4 ha4 hd4
    go_wp2_with fail
    refine (CCount.alive _).mono ?_
    rintro e w5 ⟨rfl, hb5⟩
    have HB5 := Lib.hid (HB4.out.trans (hb5.mono HB4.out.size))
    clear hb5
    go_wp2
    go_ret
    exact ⟨rfl, HB5.out⟩
theorem same_enc (k l : List UInt8) (hl : l.length = 16) : ∃ x g, enc k l = (x, g) ∧ (g = 0 ∨ g = 2) ∧ (g = 0 → x = encL k l) ∧ (k.length = 16 ↔ g = 0) := by
  by_cases hk : k.length = 16
  · exact ⟨encL k l, 0, by rw [enc, if_pos ⟨hk, hl⟩], .inl rfl, fun _ => rfl, by simp [hk]⟩
  · exact ⟨[], 2, by rw [enc, if_neg (fun h => hk h.1)], .inr rfl, fun h => absurd h (by simp), by simp [hk]⟩
theorem walk (k : ByteArray) (a b c d e f : Int) (w : World) (w0 : k.size ≤ maxLen) (w1 : (Lit.int .i64 a).wf = true) (w2 : (Lit.int .i64 b).wf = true) (w3 : (Lit.int .i64 c).wf = true) (w4 : (Lit.int .i64 d).wf = true) (w5 : (Lit.int .i64 e).wf = true) (w6 : (Lit.int .i64 f).wf = true) :
    Calls Try.prog 6 #[.string k, .agg #[.int .i64 a, .int .i64 b, .int .i64 c], .agg #[.int .i64 d, .int .i64 e, .int .i64 f]] w fun e w' => e = .returned (.bool true) ∧ Below w.heap.size w w' := by
  clear w0 w1 w2 w3 w4 w5 w6
  obtain ⟨l, rfl⟩ : ∃ l : List UInt8, k = ⟨l.toArray⟩ := ⟨k.data.toList, rfl⟩
  by_cases h : (cnt a b c).2 = 0 ∧ (cnt d e f).2 = 0
  · obtain ⟨⟨a1, a2⟩, ⟨b1, b2⟩, c1, c2⟩ := cnt_ok a b c h.1
    obtain ⟨⟨d1, d2⟩, ⟨e1, e2⟩, f1, f2⟩ := cnt_ok d e f h.2
    obtain ⟨a, rfl⟩ := Int.eq_ofNat_of_zero_le a1
    obtain ⟨b, rfl⟩ := Int.eq_ofNat_of_zero_le b1
    obtain ⟨c, rfl⟩ := Int.eq_ofNat_of_zero_le c1
    obtain ⟨d, rfl⟩ := Int.eq_ofNat_of_zero_le d1
    obtain ⟨e, rfl⟩ := Int.eq_ofNat_of_zero_le e1
    obtain ⟨f, rfl⟩ := Int.eq_ofNat_of_zero_le f1
    obtain ⟨x1, g1, k1, k2, k3, k4⟩ := same_enc l (cntB a b c) (cntB_length _ _ _)
    obtain ⟨x2, g2, m1, m2, m3, m4⟩ := same_enc l (cntB d e f) (cntB_length _ _ _)
    have hgg : g1 = g2 := by
      by_cases hk : l.length = 16
      · rw [k4.1 hk, m4.1 hk]
      · have q1 : ¬ g1 = 0 := fun hh => hk (k4.2 hh)
        have q2 : ¬ g2 = 0 := fun hh => hk (m4.2 hh)
        omega
    subst hgg
    refine good l _ _ x1 x2 a b c d e f g1 w (cnt_good a b c (by omega) (by omega) (by omega)) (cnt_good d e f (by omega) (by omega) (by omega)) k1 m1 k2 ?_
    by_cases heq : a = d ∧ b = e ∧ c = f
    · obtain ⟨rfl, rfl, rfl⟩ := heq
      rw [k1] at m1
      injection m1 with m1
      exact .inl ⟨rfl, rfl, rfl, rfl, m1⟩
    · have hl : ¬ cntB a b c = cntB d e f := fun hh => heq (cntB_inj a b c d e f (by omega) (by omega) (by omega) (by omega) (by omega) (by omega) hh)
      refine .inr ⟨by omega, hl, fun hg => ?_⟩
      rw [k3 hg, m3 hg]
      exact fun hh => hl (enc_inj l _ _ (cntB_length _ _ _) (cntB_length _ _ _) hh)
  · exact bad l a b c d e f w h
theorem own : ownKnob Try.prog.godebug = none := by kernel_rfl
theorem laidOut : laidOutB Try.prog = true := by kernel_rfl
set_option maxRecDepth 100000 in
theorem lifted (os : Os) (started : os.Started) (H : Type) (enc : TypeId × Value → H) :
    ReturnsInHanded {} Try.checked os 6 .any (Rows.ctrOnceSpec.pre6 enc Try.prog Try.f6 Rows.ctrOnceRow.domain false) (Rows.ctrOnceSpec.post enc Try.prog Try.f6 false true false false) := by
  refine returnsInHanded_of_change (C := Try.checked) own started (by kernel_rfl) Try.func6
    (ChangeSpec.witness6 (enc := enc) (C := Try.checked) false ⟨#[], #[.string ByteArray.empty, .agg #[.int .i64 0, .int .i64 0, .int .i64 0], .agg #[.int .i64 0, .int .i64 0, .int .i64 0]], []⟩ 8 (by kernel_rfl) (by kernel_rfl) (by kernel_rfl) (by kernel_rfl)) ?_
  intro W base args ds gs before hval0 hW hcnd _
  have hval : ∀ (j : Nat) t v, Try.f6.params[j]? = some t → args[j]? = some v → Value.okWide Try.prog W .any base t v := hval0
  have hW' := hW
  obtain ⟨p, q, hA0, hV, rfl, hfz, hnd⟩ := hW
  have hA : DataW.TrodAll enc Try.prog W 0 (fun _ => true) true Try.f6.params.toList args.toList ds p := hA0
  rw [Try.params6] at hA hval
  obtain ⟨v0, vs0, d0, ds0, p0, q0, hargs, rfl, rfl, h0, r0⟩ := trodAll_cons hA
  obtain ⟨v1, vs1, d1, ds1, p1, q1, rfl, rfl, rfl, h1, r1⟩ := trodAll_cons r0
  obtain ⟨v2, vs2, d2, ds2, p2, q2, rfl, rfl, rfl, h2, r2⟩ := trodAll_cons r1
  obtain ⟨rfl, rfl, rfl⟩ := trodAll_nil r2
  obtain rfl : args = #[v0, v1, v2] := by cases args; simp_all
  obtain ⟨rfl, rfl⟩ := trodVars_none hV
  obtain ⟨a0, rfl, rfl, rfl, w0⟩ := open_string Try.underlying9 (hval 0 9 v0 rfl rfl) h0
  have k1 := h1
  have lt1 : ∀ x ∈ p1, x.block < W.heap.size := by obtain ⟨m, hm⟩ := k1; exact DataW.trod_lt m _ _ _ hm
  obtain ⟨a1, b1, c1, rfl, wa1, wb1, wc1⟩ := open_arr3 Try.underlying35 Try.underlying3 (by kernel_rfl) (by kernel_rfl) (hval 1 35 v1 rfl rfl) h1
  have k2 := h2
  have lt2 : ∀ x ∈ p2, x.block < W.heap.size := by obtain ⟨m, hm⟩ := k2; exact DataW.trod_lt m _ _ _ hm
  obtain ⟨a2, b2, c2, rfl, wa2, wb2, wc2⟩ := open_arr3 Try.underlying35 Try.underlying3 (by kernel_rfl) (by kernel_rfl) (hval 2 35 v2 rfl rfl) h2
  clear hA0 hval0
  refine (walk a0 a1 b1 c1 a2 b2 c2 W w0 wa1 wb1 wc1 wa2 wb2 wc2).mono fun e W' ⟨he, bel⟩ => ?_
  subst he
  exact ⟨_, rfl, _, _, _, [], _, [], hW', trodAll_mk1 (shut_bool Try.underlying4 _), (trodAll_cons_mk (shut_string Try.underlying9 w0) (trodAll_cons_mk (Below.trod laidOut (by kernel_rfl) (of_decide_eq_true (by kernel_rfl)) k1 bel lt1) (trodAll_cons_mk (Below.trod laidOut (by kernel_rfl) (of_decide_eq_true (by kernel_rfl)) k2 bel lt2) trodAll_mk0))), rfl, bel.frame _, fun h => by cases h⟩
theorem over : Rows.ctrOnceRow.holds Try.pinned (OpenSpec.ofChange Rows.ctrOnceSpec) :=
  OpenClaim.holds_of_wide 6 Try.f6 rfl rfl rfl rfl rfl rfl rfl ⟨rfl, rfl, rfl, rfl, rfl⟩ rfl rfl rfl rfl rfl (by kernel_rfl) Try.func6 (by kernel_rfl)
    (of_decide_eq_true (by kernel_rfl)) (by unfold Func.isWrapper; first | (rw [if_pos (by decide +kernel)]; kernel_rfl) | (rw [if_neg (by decide +kernel)]; exact ⟨rfl, rfl⟩))
    (fun os started H enc _ => lifted os started H enc)
/-- THE STATEMENT, proved. -/
theorem proved : Rows.CtrOnceSaid := over
#print axioms proved
end Go.Proofs.Ytjlepjnfacmieaa.ctrOnce
