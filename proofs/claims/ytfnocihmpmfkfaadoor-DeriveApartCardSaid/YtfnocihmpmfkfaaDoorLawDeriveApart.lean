/- DeriveApart: at any master of at most 200 bytes, any two labels and any two rows of at most 100 numbers (else: the chapter's example alone, as the statement has it), unlike labels or numbers that can be said are said unlike, and none as the beginning of another one; and where two have one key, two unlike texts with one sum are told, else none. The condition: the rounds' numbers lie in the program's variable (the card ties it to the program's text). -/
import Derived.Test.YtfnocihmpmfkfaaDoorDKey
import Derived.Test.YtfnocihmpmfkfaaDoorDInts
import Derived.Test.YtfnocihmpmfkfaaDoorHClash
import Derived.Deep.DeepCutAuto
import Derived.Deep.QuietTactic
import Derived.BigQuiet
import Derived.Test.YtfnocihmpmfkfaaDoorRows
import Derived.Test.YtfnocihmpmfkfaaDoorTie
import Derived.Test.YtfnocihmpmfkfaaDoorCards
import Derived.Test.YtfnocihmpmfkfaaDoorSLaid
import Derived.WalkKit
import Derived.ProofKit
import Derived.OpenShut
import Derived.ShutString
import Derived.ChangeOld
import Derived.Below
import Derived.LaidMore
import Derived.SevenTiedAt
import Derived.Stop.Joined
namespace Go.Proofs.YtfnocihmpmfkfaaDoor.deriveApart
open Go.ChangeShapes Go.WideShapes Go.ChangeAt Go.RowKit
open Go.ChangeMaps (open_string shut_string)
set_option linter.unusedVariables false
open STurn
theorem long (k a b : ByteArray) (x y : Option Addr) (n m c d : Nat) (w : World) (h : (200 : Int) < (k.size : Int) ∨ (100 : Int) < (n : Int) ∨ (100 : Int) < (m : Int)) :
    Calls Tryd.prog 5 #[.string k, .string a, .string b, .slice x n c, .slice y m d] w fun e w' => e = .returned (.bool true) ∧ Below w.heap.size w w' := by
  by_cases h1 : (200 : Int) < (k.size : Int)
  · clear h
    go_enter Tryd.func5, Tryd.ntmps5
    go_wp2_with (go_at_call 7; refine (DKey.alive _).mono ?_; rintro e w1 ⟨rfl, hb1⟩)
    all_goals go_ret
    all_goals exact ⟨rfl, hb1⟩
  by_cases h2 : (100 : Int) < (n : Int)
  · clear h
    go_enter Tryd.func5, Tryd.ntmps5
    go_wp2_with (go_at_call 7; refine (DKey.alive _).mono ?_; rintro e w1 ⟨rfl, hb1⟩)
    all_goals go_ret
    all_goals exact ⟨rfl, hb1⟩
  · have h3 : (100 : Int) < (m : Int) := by omega
    clear h
    go_enter Tryd.func5, Tryd.ntmps5
    go_wp2_with (go_at_call 7; refine (DKey.alive _).mono ?_; rintro e w1 ⟨rfl, hb1⟩)
    all_goals go_ret
    all_goals exact ⟨rfl, hb1⟩
theorem head_of (y : List UInt8) (p : Nat) (W : World) (h : p ≤ y.length) : (Instr.slice 9 (.string ⟨y.toArray⟩) none (some (.int .i64 p)) none).run Tryd.prog W = .ok (.string ⟨(y.take p).toArray⟩) W := by
  have := run_slice_string_h (P := Tryd.prog) (w := W) 9 ⟨y.toArray⟩ Tryd.underlying9 .i64 (p : Int) (by omega) (show (p : Int) ≤ ((y.length : Nat) : Int) by omega)
  rw [this]
  have e : (⟨y.toArray⟩ : ByteArray).extract 0 (p : Int).toNat = ⟨(y.take p).toArray⟩ := by
    rw [Int.toNat_natCast, ByteArray.extract_mk, List.drop_zero, Nat.sub_zero]
  rw [e]
/-- One of the two can't be said. -/
theorem no (k a b : List UInt8) (x y : Option Addr) (n m cx cy : Nat) (c d : List Int) (w : World) (hx : Row w w.heap.size x n c) (hy : Row w w.heap.size y m d) (nx : x = none → n = 0 ∧ cx = 0) (ny : y = none → m = 0 ∧ cy = 0)
    (ix : ∀ z ∈ c, z ≤ 9223372036854775807) (iy : ∀ z ∈ d, z ≤ 9223372036854775807) (h1 : ¬ (200 : Int) < (k.length : Int)) (h2 : ¬ (100 : Int) < (n : Int)) (h3 : ¬ (100 : Int) < (m : Int)) (h : ¬ (saidOk a c ∧ saidOk b d)) :
    Calls Tryd.prog 5 #[.string ⟨k.toArray⟩, .string ⟨a.toArray⟩, .string ⟨b.toArray⟩, .slice x n cx, .slice y m cy] w fun e w' => e = .returned (.bool true) ∧ Below w.heap.size w w' := by
  have P1 := Lib.hid (fun W h => DSaid.any a x n cx c W h nx ix)
  have P2 := Lib.hid (fun W h => DSaid.any b y m cy d W h ny iy)
  have hd : (said a c).2 = 2 ∨ (said a c).2 = 0 ∧ (said b d).2 = 2 := by
    by_cases ha : saidOk a c
    · have hb : ¬ saidOk b d := fun hb => h ⟨ha, hb⟩
      rw [said_good ha, said_bad hb]
      exact .inr ⟨rfl, rfl⟩
    · rw [said_bad ha]
      exact .inl rfl
  generalize said a c = r at *
  generalize said b d = s at *
  obtain ⟨r1, r2⟩ := r
  obtain ⟨s1, s2⟩ := s
  have HX := Lib.hid hx
  have HY := Lib.hid hy
  clear hx hy nx ny ix iy h
  simp only at hd
  rcases hd with rfl | ⟨rfl, rfl⟩
  all_goals
    go_enter Tryd.func5, Tryd.ntmps5
    go_wp2_with fail
    refine (P1.out _ HX.out).mono ?_
    rintro e w1 ⟨rfl, hb1⟩
    have HB1 := Lib.hid hb1
    clear hb1
    go_wp2_with fail
    refine (P2.out _ ((HY.out.below HB1.out).more HB1.out.size)).mono ?_
    rintro e w2 ⟨rfl, hb2⟩
    have HB2 := Lib.hid (HB1.out.trans (hb2.mono HB1.out.size))
    clear hb2
    go_wp2_with fail
    refine (DKey.alive _).mono ?_
    rintro e w5 ⟨rfl, hb5⟩
    have HB5 := Lib.hid (HB2.out.trans (hb5.mono HB2.out.size))
    clear hb5
    go_wp2
    go_ret
    exact ⟨rfl, HB5.out⟩
set_option maxRecDepth 100000 in
set_option maxHeartbeats 2000000 in
/-- Both can be said. -/
theorem both (k a b : List UInt8) (x y : Option Addr) (n m cx cy : Nat) (c d : List Int) (w : World) (hr : Rds w) (hx : Row w w.heap.size x n c) (hy : Row w w.heap.size y m d) (nx : x = none → n = 0 ∧ cx = 0) (ny : y = none → m = 0 ∧ cy = 0)
    (ix : ∀ z ∈ c, z ≤ 9223372036854775807) (iy : ∀ z ∈ d, z ≤ 9223372036854775807) (h1 : ¬ (200 : Int) < (k.length : Int)) (h2 : ¬ (100 : Int) < (n : Int)) (h3 : ¬ (100 : Int) < (m : Int)) (ha : saidOk a c) (hb : saidOk b d) :
    Calls Tryd.prog 5 #[.string ⟨k.toArray⟩, .string ⟨a.toArray⟩, .string ⟨b.toArray⟩, .slice x n cx, .slice y m cy] w fun e w' => e = .returned (.bool true) ∧ Below w.heap.size w w' := by
  have P1 := Lib.hid (fun W h => DSaid.any a x n cx c W h nx ix)
  have P2 := Lib.hid (fun W h => DSaid.any b y m cy d W h ny iy)
  have P3 := Lib.hid (fun W hr h => DKey.Key k a x n cx c W hr h nx ix (by omega))
  have P4 := Lib.hid (fun W hr h => DKey.Key k b y m cy d W hr h ny iy (by omega))
  have hsa := said_le a c ha
  have hsb := said_le b d hb
  have P5 := Lib.hid (fun W hr => HClash.Clash k (saidOf a c) k (saidOf b d) W hr (by omega) (by omega) (by omega) (by omega))
  have P6 := Lib.hid (fun W h1 h2 => DInts.any x y n m cx cy c d W W.heap.size h1 h2 (by omega))
  rw [said_good ha] at P1
  rw [said_good hb] at P2
  rw [key_good ha] at P3
  rw [key_good hb] at P4
  -- what the two texts say of each other
  have HAP := Lib.hid (said_apart ha hb ix iy)
  have HEQ : Hid (a = b → c = d → saidOf a c = saidOf b d) := by
    show _ → _ → _
    rintro rfl rfl
    rfl
  have HCL : Hid ((HClash.clashOf k (saidOf a c) k (saidOf b d)).2.2 = (decide (macOf k (saidOf a c) = macOf k (saidOf b d)) && !decide (saidOf a c = saidOf b d))) := by
    show _ = _
    unfold HClash.clashOf HCla.found
    by_cases e1 : macOf k (saidOf a c) = macOf k (saidOf b d)
    · by_cases e2 : saidOf a c = saidOf b d
      · rw [if_neg (fun hh => hh.2 ⟨rfl, e2⟩), decide_eq_true e2, decide_eq_true e1]; rfl
      · rw [if_pos ⟨e1, fun hh => e2 hh.2⟩, decide_eq_true e1, decide_eq_false e2]
        split <;> rfl
    · rw [if_neg (fun hh => e1 hh.1), decide_eq_false e1]; rfl
  have HX := Lib.hid hx
  have HY := Lib.hid hy
  have HR := Lib.hid hr
  clear hx hy nx ny ix iy ha hb hr
  generalize HClash.clashOf k (saidOf a c) k (saidOf b d) = cl at *
  obtain ⟨cl1, cl2, cl3⟩ := cl
  generalize macOf k (saidOf a c) = z1 at *
  generalize macOf k (saidOf b d) = z2 at *
  generalize saidOf a c = s at *
  generalize saidOf b d = t at *
  go_enter Tryd.func5, Tryd.ntmps5
  go_wp2_with fail
  refine (P1.out _ HX.out).mono ?_
  rintro e w1 ⟨rfl, hb1⟩
  have HB1 := Lib.hid hb1
  clear hb1
  go_wp2_with fail
  refine (P2.out _ ((HY.out.below HB1.out).more HB1.out.size)).mono ?_
  rintro e w2 ⟨rfl, hb2⟩
  have HB2 := Lib.hid (HB1.out.trans (hb2.mono HB1.out.size))
  clear hb2
  go_upto_region 7 with fail
  go_cut [15] (fun s15 wx => s15 = .bool (decide (a = b ∧ c = d)) ∧ Below w.heap.size w wx)
  case first =>
    by_cases hab : a = b
    · subst hab
      go_wp2_with (go_at_call 14; refine (P6.out _ ((HX.out.below HB2.out).more HB2.out.size) ((HY.out.below HB2.out).more HB2.out.size)).mono ?_; rintro e w3 ⟨rfl, j, rfl⟩)
      go_meet
      exact ⟨by simp, HB2.out.trans (below_drewN _ _)⟩
    · go_wp2_with fail
      go_meet
      exact ⟨by simp [hab], HB2.out⟩
  case rest =>
    obtain ⟨rfl, hb3⟩ := hcut
    have HB3 := Lib.hid hb3
    clear hb3
    by_cases hs : a = b ∧ c = d
    · have hst := HEQ.out hs.1 hs.2
      subst hst
      rw [decide_eq_true hs]
      clear hs HEQ HAP
      have HS : ∀ W, _ := fun W => head_of s s.length W (Nat.le_refl _)
      rw [List.take_of_length_le (Nat.le_refl _)] at HS
      go_upto_region 9 with fail
      go_quiet (fail)
      go_wp2_with fail
      have hcl := HCL.out
      simp only [decide_true, Bool.not_true, Bool.and_false] at hcl
      subst hcl
      have HB4 := Lib.hid (HB3.out.trans (below_drewN wc nq))
      refine (P3.out _ (HR.out.step HB4.out) ((HX.out.below HB4.out).more HB4.out.size)).mono ?_
      rintro e w5 ⟨rfl, hb5⟩
      have HB5 := Lib.hid (HB4.out.trans (hb5.mono HB4.out.size))
      clear hb5
      go_wp2_with fail
      refine (P4.out _ (HR.out.step HB5.out) ((HY.out.below HB5.out).more HB5.out.size)).mono ?_
      rintro e w6 ⟨rfl, hb6⟩
      have HB6 := Lib.hid (HB5.out.trans (hb6.mono HB5.out.size))
      clear hb6
      go_wp2_with fail
      refine (P5.out _ (HR.out.step HB6.out)).mono ?_
      rintro e w7 ⟨rfl, hb7⟩
      have HB7 := Lib.hid (HB6.out.trans (hb7.mono HB6.out.size))
      clear hb7
      go_wp2_with (go_at_call 7; refine (DKey.alive _).mono ?_; rintro e w8 ⟨rfl, hb8⟩; have HB8 := Lib.hid (HB7.out.trans (hb8.mono HB7.out.size)); clear hb8)
      all_goals go_ret
      all_goals exact ⟨rfl, HB8.out⟩
    · rw [decide_eq_false hs]
      have hst : (s == t) = false := by
        rw [beq_eq_false_iff_ne]
        intro e
        exact hs (HAP.out (by rw [e]))
      obtain ⟨p, hp⟩ : ∃ p, p = min s.length t.length := ⟨_, rfl⟩
      have hps : p ≤ s.length := by omega
      have hpt : p ≤ t.length := by omega
      have hpi : min (s.length : Int) (t.length : Int) = (p : Int) := by omega
      have hsp : (s.take p == t.take p) = false := by
        rw [beq_eq_false_iff_ne]
        intro e
        rw [hp] at e
        exact hs (HAP.out e)
      have HS1 := fun W => head_of s p W hps
      have HS2 := fun W => head_of t p W hpt
      have HPI := Lib.hid hpi
      have HST := Lib.hid hst
      clear hp hpi hs HEQ HAP hst
      go_upto_region 9 with fail
      rw [HPI.out]
      generalize s.take p = s' at *
      generalize t.take p = t' at *
      have hst := HST.out
      go_quiet (fail)
      go_wp2_with fail
      have hcl := HCL.out
      rw [decide_eq_false (beq_eq_false_iff_ne.1 hst), Bool.not_false, Bool.and_true] at hcl
      clear hst hsp HS1 HS2 HST
      by_cases hz : z1 = z2
      · subst hz
        rw [decide_eq_true rfl] at hcl
        subst hcl
        have HB4 := Lib.hid (HB3.out.trans (below_drewN wc nq))
        refine (P3.out _ (HR.out.step HB4.out) ((HX.out.below HB4.out).more HB4.out.size)).mono ?_
        rintro e w5 ⟨rfl, hb5⟩
        have HB5 := Lib.hid (HB4.out.trans (hb5.mono HB4.out.size))
        clear hb5
        go_wp2_with fail
        refine (P4.out _ (HR.out.step HB5.out) ((HY.out.below HB5.out).more HB5.out.size)).mono ?_
        rintro e w6 ⟨rfl, hb6⟩
        have HB6 := Lib.hid (HB5.out.trans (hb6.mono HB5.out.size))
        clear hb6
        go_wp2_with fail
        refine (P5.out _ (HR.out.step HB6.out)).mono ?_
        rintro e w7 ⟨rfl, hb7⟩
        have HB7 := Lib.hid (HB6.out.trans (hb7.mono HB6.out.size))
        clear hb7
        go_wp2_with (go_at_call 7; refine (DKey.alive _).mono ?_; rintro e w8 ⟨rfl, hb8⟩; have HB8 := Lib.hid (HB7.out.trans (hb8.mono HB7.out.size)); clear hb8)
        all_goals go_ret
        all_goals exact ⟨rfl, HB8.out⟩
      · rw [decide_eq_false hz] at hcl
        subst hcl
        have hz2 : (z1 == z2) = false := beq_eq_false_iff_ne.2 hz
        clear hz
        have HB4 := Lib.hid (HB3.out.trans (below_drewN wc nq))
        refine (P3.out _ (HR.out.step HB4.out) ((HX.out.below HB4.out).more HB4.out.size)).mono ?_
        rintro e w5 ⟨rfl, hb5⟩
        have HB5 := Lib.hid (HB4.out.trans (hb5.mono HB4.out.size))
        clear hb5
        go_wp2_with fail
        refine (P4.out _ (HR.out.step HB5.out) ((HY.out.below HB5.out).more HB5.out.size)).mono ?_
        rintro e w6 ⟨rfl, hb6⟩
        have HB6 := Lib.hid (HB5.out.trans (hb6.mono HB5.out.size))
        clear hb6
        go_wp2_with fail
        refine (P5.out _ (HR.out.step HB6.out)).mono ?_
        rintro e w7 ⟨rfl, hb7⟩
        have HB7 := Lib.hid (HB6.out.trans (hb7.mono HB6.out.size))
        clear hb7
        go_wp2_with (go_at_call 7; refine (DKey.alive _).mono ?_; rintro e w8 ⟨rfl, hb8⟩; have HB8 := Lib.hid (HB7.out.trans (hb8.mono HB7.out.size)); clear hb8)
        all_goals go_ret
        all_goals exact ⟨rfl, HB8.out⟩
theorem walk (k a b : ByteArray) (x : Option Addr) (n cx : Nat) (zx : List Int) (y : Option Addr) (m cy : Nat) (zy : List Int) (w : World) (w0 : k.size ≤ maxLen) (w1 : a.size ≤ maxLen) (w2 : b.size ≤ maxLen) (w3 : IntsAt .i64 w x n cx zx) (w4 : IntsAt .i64 w y m cy zy) (hr : Rds w) :
    Calls Tryd.prog 5 #[.string k, .string a, .string b, .slice x n cx, .slice y m cy] w fun e w' => e = .returned (.bool true) ∧ Below w.heap.size w w' := by
  clear w0 w1 w2
  by_cases h : (200 : Int) < (k.size : Int) ∨ (100 : Int) < (n : Int) ∨ (100 : Int) < (m : Int)
  · exact long k a b x y n m cx cy w h
  · have none_at : ∀ {x : Option Addr} {n c : Nat} {zs : List Int}, IntsAt .i64 w x n c zs → x = none → n = 0 ∧ c = 0 := by
      intro x n c zs hh hx
      rcases hh with ⟨_, h1, h2, _⟩ | ⟨x, hx2, _⟩
      · exact ⟨h1, h2⟩
      · rw [hx] at hx2; cases hx2
    have hk : ¬ (200 : Int) < (k.data.toList.length : Int) := fun hh => h (.inl hh)
    obtain ⟨c, hc, hic⟩ := row_at w3
    obtain ⟨d, hd, hid⟩ := row_at w4
    by_cases hs : saidOk a.data.toList c ∧ saidOk b.data.toList d
    · exact both k.data.toList a.data.toList b.data.toList x y n m cx cy c d w hr hc hd (none_at w3) (none_at w4) (fun z hz => (hic z hz).2) (fun z hz => (hid z hz).2) hk (fun hh => h (.inr (.inl hh))) (fun hh => h (.inr (.inr hh))) hs.1 hs.2
    · exact no k.data.toList a.data.toList b.data.toList x y n m cx cy c d w hc hd (none_at w3) (none_at w4) (fun z hz => (hic z hz).2) (fun z hz => (hid z hz).2) hk (fun hh => h (.inr (.inl hh))) (fun hh => h (.inr (.inr hh))) hs
theorem own : ownKnob Tryd.prog.godebug = none := by kernel_rfl
theorem laidOut : laidOutB Tryd.prog = true := by kernel_rfl
set_option maxRecDepth 100000 in
theorem lifted (os : Os) (started : os.Started) (H : Type) (enc : TypeId × Value → H) :
    ReturnsInHanded {} Tryd.checked os 5 .any (fun w args => (Rows.deriveApartSpec.pre enc Tryd.prog Tryd.f5 Rows.deriveApartRow.domain false w args ∧ laidMetH Tryd.prog Rows.deriveApartRow.laid w) ∧ sizedMet enc Tryd.prog Tryd.f5 (OpenSpec.ofChange Rows.deriveApartSpec) false w args) (Rows.deriveApartSpec.post enc Tryd.prog Tryd.f5 false true false false) := by
  refine returnsInHanded_of_change_and (C := Tryd.checked) (X := fun w _ => laidMetH Tryd.prog Rows.deriveApartRow.laid w) (fun _ _ _ hh h => h.of_heap hh) own started (by kernel_rfl) Tryd.func5
    (ChangeSpec.witness_shaped (enc := enc) (C := Tryd.checked) (os := os) (X := fun w _ => laidMetH Tryd.prog Rows.deriveApartRow.laid w) false (World.doorLaid Tryd.prog 400 os) #[.string ByteArray.empty, .string ByteArray.empty, .string ByteArray.empty, .slice none 0 0, .slice none 0 0] 8 rfl (World.shaped_of_RefB (by kernel_rfl) (by kernel_rfl)) (by kernel_rfl) (by kernel_rfl) (by kernel_rfl) (SLaid.door_met os _)) ?_
  intro W base args ds gs before hval0 hW _ _ hL _
  have hr := SLaid.of_laid hL
  have hval : ∀ (j : Nat) t v, Tryd.f5.params[j]? = some t → args[j]? = some v → Value.okWide Tryd.prog W .any base t v := hval0
  have hW' := hW
  obtain ⟨p, q, hA0, hV, rfl, hfz, hnd⟩ := hW
  have hA : DataW.TrodAll enc Tryd.prog W 0 (fun _ => true) true Tryd.f5.params.toList args.toList ds p := hA0
  rw [Tryd.params5] at hA hval
  obtain ⟨v0, vs0, d0, ds0, p0, q0, hargs, rfl, rfl, h0, r0⟩ := trodAll_cons hA
  obtain ⟨v1, vs1, d1, ds1, p1, q1, rfl, rfl, rfl, h1, r1⟩ := trodAll_cons r0
  obtain ⟨v2, vs2, d2, ds2, p2, q2, rfl, rfl, rfl, h2, r2⟩ := trodAll_cons r1
  obtain ⟨v3, vs3, d3, ds3, p3, q3, rfl, rfl, rfl, h3, r3⟩ := trodAll_cons r2
  obtain ⟨v4, vs4, d4, ds4, p4, q4, rfl, rfl, rfl, h4, r4⟩ := trodAll_cons r3
  obtain ⟨rfl, rfl, rfl⟩ := trodAll_nil r4
  obtain rfl : args = #[v0, v1, v2, v3, v4] := by cases args; simp_all
  obtain ⟨rfl, rfl⟩ := trodVars_none hV
  obtain ⟨a0, rfl, rfl, rfl, w0⟩ := open_string Tryd.underlying9 (hval 0 9 v0 rfl rfl) h0
  obtain ⟨a1, rfl, rfl, rfl, w1⟩ := open_string Tryd.underlying9 (hval 1 9 v1 rfl rfl) h1
  obtain ⟨a2, rfl, rfl, rfl, w2⟩ := open_string Tryd.underlying9 (hval 2 9 v2 rfl rfl) h2
  obtain ⟨a3, len3, cap3, rfl⟩ := okWide_slice Tryd.underlying22 (hval 3 22 v3 rfl rfl)
  have k3 := h3
  have lt3 : ∀ x ∈ p3, x.block < W.heap.size := by obtain ⟨m, hm⟩ := k3; exact DataW.trod_lt m _ _ _ hm
  obtain ⟨z3, w3⟩ : ∃ zs, IntsAt .i64 W a3 len3 cap3 zs := by
    obtain ⟨fuel, hf⟩ := h3
    rcases open_ints Tryd.underlying22 Tryd.underlying3 (by kernel_rfl) hf with ⟨hcs, _⟩ | ⟨x, l, c, zs, hcs, _, hl, hm, hz, _, hcell, hwz⟩
    · simp [Value.cells] at hcs
      obtain ⟨rfl, rfl, rfl⟩ := hcs
      exact ⟨[], .inl ⟨rfl, rfl, rfl, rfl⟩⟩
    · simp [Value.cells] at hcs
      obtain ⟨rfl, rfl, rfl⟩ := hcs
      exact ⟨zs, .inr ⟨_, rfl, hl, hm, by simpa using hz, hcell, hwz⟩⟩
  obtain ⟨a4, len4, cap4, rfl⟩ := okWide_slice Tryd.underlying22 (hval 4 22 v4 rfl rfl)
  have k4 := h4
  have lt4 : ∀ x ∈ p4, x.block < W.heap.size := by obtain ⟨m, hm⟩ := k4; exact DataW.trod_lt m _ _ _ hm
  obtain ⟨z4, w4⟩ : ∃ zs, IntsAt .i64 W a4 len4 cap4 zs := by
    obtain ⟨fuel, hf⟩ := h4
    rcases open_ints Tryd.underlying22 Tryd.underlying3 (by kernel_rfl) hf with ⟨hcs, _⟩ | ⟨x, l, c, zs, hcs, _, hl, hm, hz, _, hcell, hwz⟩
    · simp [Value.cells] at hcs
      obtain ⟨rfl, rfl, rfl⟩ := hcs
      exact ⟨[], .inl ⟨rfl, rfl, rfl, rfl⟩⟩
    · simp [Value.cells] at hcs
      obtain ⟨rfl, rfl, rfl⟩ := hcs
      exact ⟨zs, .inr ⟨_, rfl, hl, hm, by simpa using hz, hcell, hwz⟩⟩
  clear hA0 hval0
  refine (walk a0 a1 a2 a3 len3 cap3 z3 a4 len4 cap4 z4 W w0 w1 w2 w3 w4 hr).mono fun e W' ⟨he, bel⟩ => ?_
  subst he
  exact ⟨_, rfl, _, _, _, [], _, [], hW', trodAll_mk1 (shut_bool Tryd.underlying4 _), (trodAll_cons_mk (shut_string Tryd.underlying9 w0) (trodAll_cons_mk (shut_string Tryd.underlying9 w1) (trodAll_cons_mk (shut_string Tryd.underlying9 w2) (trodAll_cons_mk (Below.trod laidOut (by kernel_rfl) (of_decide_eq_true (by kernel_rfl)) k3 bel lt3) (trodAll_cons_mk (Below.trod laidOut (by kernel_rfl) (of_decide_eq_true (by kernel_rfl)) k4 bel lt4) trodAll_mk0))))), rfl, bel.frame _, fun h => by cases h⟩
theorem over : Rows.deriveApartRow.holds Tryd.pinned (OpenSpec.ofChange Rows.deriveApartSpec) :=
  OpenClaim.holds_of_wide 5 Tryd.f5 rfl rfl rfl rfl rfl rfl rfl ⟨rfl, rfl, rfl, rfl, rfl⟩ rfl rfl rfl rfl rfl (by kernel_rfl) Tryd.func5 (by kernel_rfl)
    (of_decide_eq_true (by kernel_rfl)) (by unfold Func.isWrapper; first | (rw [if_pos (by decide +kernel)]; kernel_rfl) | (rw [if_neg (by decide +kernel)]; exact ⟨rfl, rfl⟩))
    (fun os started H enc _ => lifted os started H enc)
/-- THE STATEMENT, proved. -/
theorem proved : Rows.DeriveApartCardSaid :=
  Claim7.holds_tied_plain_at .later [] _ true _ false
    over (fun _ h => by cases h) (by kernel_rfl) (fun _ h => by cases h) deriveApart_row_tie rfl ⟨rfl, rfl⟩ (by kernel_rfl) rfl
    (fun f fn hf hfn => by
      obtain rfl : f = 5 := Option.some.inj ((show Tryd.prog.funcNamed "keepsake/keepsakelaw04.DeriveApart" = some 5 by kernel_rfl).symm.trans hf) |>.symm
      obtain rfl : fn = Tryd.f5 := (Option.some.inj (Tryd.func5.symm.trans hfn)).symm
      exact ⟨by kernel_rfl, fun j t ht => by
        rw [Tryd.params5] at ht
        have hm : t ∈ [9, 9, 9, 22, 22] := by simpa using Array.mem_of_getElem? ht
        have hall : ([9, 9, 9, 22, 22].all fun u => !Tryd.prog.wantsStandIn u) = true := by kernel_rfl
        exact (show Tryd.prog.wantsStandIn t = false by simpa using List.all_eq_true.1 hall t hm)⟩)
    (by kernel_rfl)
#print axioms proved
end Go.Proofs.YtfnocihmpmfkfaaDoor.deriveApart
