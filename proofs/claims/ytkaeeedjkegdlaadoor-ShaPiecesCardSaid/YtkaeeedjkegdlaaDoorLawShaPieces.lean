/- ShaPieces: at any row of at most 200 texts, of at most 5,000 bytes, and any further text of at most 1,000 bytes (else: the chapter's example alone, as the statement has it), what is put piece by piece, and told between, has the sum of all at once, of 32 bytes; a copy is apart. The condition: the rounds' numbers lie in the program's variable (the card ties it to the program's text). -/
import Derived.Test.YtkaeeedjkegdlaaDoorSStrs
import Derived.SliceStrings
import Derived.Test.YtkaeeedjkegdlaaDoorRows
import Derived.Test.YtkaeeedjkegdlaaDoorTie
import Derived.Test.YtkaeeedjkegdlaaDoorCards
import Derived.Test.YtkaeeedjkegdlaaDoorSLaid
import Derived.WalkKit
import Derived.ProofKit
import Derived.OpenShut
import Derived.ShutString
import Derived.ChangeOld
import Derived.Below
import Derived.LaidMore
import Derived.SevenTiedAt
import Derived.Stop.Joined
namespace Go.Proofs.YtkaeeedjkegdlaaDoor.shaPieces
open Go.ChangeShapes Go.WideShapes Go.ChangeAt Go.RowKit
open Go.ChangeMaps (open_string shut_string)
set_option linter.unusedVariables false
open STurn SHash SPut SSum
theorem long (a : Option Addr) (n c : Nat) (ls : List (List UInt8)) (t : ByteArray) (w : World) (h : Strs w w.heap.size a n ls) (hr : Rds w) (hb : (200 : Int) < (n : Int) ∨ n ≤ 200 ∧ ((5000 : Int) < (bsum ls : Int) ∨ (1000 : Int) < (t.size : Int))) :
    Calls Tryd.prog 7 #[.slice a n c, .string t] w fun e w' => e = .returned (.bool true) ∧ Below w.heap.size w w' := by
  have HR := Lib.hid hr
  have HH := Lib.hid h
  clear h hr
  by_cases h1 : (200 : Int) < (n : Int)
  · clear hb
    go_enter Tryd.func7, Tryd.ntmps7
    go_wp2_with (go_at_call 11; refine (SAlive.any _ HR.out).mono ?_; rintro e w1 ⟨rfl, hb1⟩)
    go_ret
    exact ⟨rfl, hb1⟩
  have hn : n ≤ 200 := by omega
  have HB := Lib.hid (fun W h => bytes_any a n c ls W h hn)
  by_cases h2 : (5000 : Int) < (bsum ls : Int)
  · clear hb
    go_enter Tryd.func7, Tryd.ntmps7
    go_wp2_with (first
      | (go_at_call 22; refine (HB.out _ HH.out).mono ?_; rintro e w1 ⟨rfl, rfl⟩)
      | (go_at_call 11; refine (SAlive.any _ HR.out).mono ?_; rintro e w1 ⟨rfl, hb1⟩))
    go_ret
    exact ⟨rfl, hb1⟩
  have h3 : (1000 : Int) < (t.size : Int) := by omega
  clear hb
  go_enter Tryd.func7, Tryd.ntmps7
  go_wp2_with (first
    | (go_at_call 22; refine (HB.out _ HH.out).mono ?_; rintro e w1 ⟨rfl, rfl⟩)
    | (go_at_call 11; refine (SAlive.any _ HR.out).mono ?_; rintro e w1 ⟨rfl, hb1⟩))
  go_ret
  exact ⟨rfl, hb1⟩
set_option maxRecDepth 100000 in
set_option maxHeartbeats 2000000 in
theorem short (a : Option Addr) (n c : Nat) (ls : List (List UInt8)) (t : List UInt8) (w : World) (h : Strs w w.heap.size a n ls) (hr : Rds w) (h1 : ¬ (200 : Int) < (n : Int)) (h2 : ¬ (5000 : Int) < (bsum ls : Int)) (h3 : ¬ (1000 : Int) < (t.length : Int)) :
    Calls Tryd.prog 7 #[.slice a n c, .string ⟨t.toArray⟩] w fun e w' => e = .returned (.bool true) ∧ Below w.heap.size w w' := by
  have HB := Lib.hid (fun W h => bytes_any a n c ls W h (by omega))
  have hfl := flat_bsum ls (by omega)
  have hfl5 : ls.flatten.length ≤ 5000 := by omega
  have HR := Lib.hid hr
  have HH := Lib.hid h
  clear h hr hfl
  go_enter Tryd.func7, Tryd.ntmps7
  go_upto_region 3 with (go_at_call 22; refine (HB.out _ HH.out).mono ?_; rintro e w1 ⟨rfl, rfl⟩)
  clear h2
  go_wp2_with (go_at_call 23; refine (New _).mono ?_; rintro e w1 ⟨b, rfl, hh1, hb1, hle⟩; have HX1 := Lib.hid hh1; have HB1 := Lib.hid hb1; clear hh1 hb1)
  go_loopw [6, 27] (fun s i wr => ∃ j : Nat, j ≤ n ∧ i = .int .i64 j ∧ s = .string ⟨(ls.take j).flatten.toArray⟩ ∧ Has wr b (ls.take j).flatten ∧ Below w.heap.size w wr) (fun _ i _ => n - (intOf i).toNat)
  case atStart => exact ⟨0, Nat.zero_le _, rfl, rfl, HX1.out, HB1.out⟩
  case round =>
    obtain ⟨j, hj, rfl, rfl, hh, hbel⟩ := hrel
    have HX := Lib.hid hh
    have HBe := Lib.hid hbel
    clear hh hbel
    by_cases hlt : j < n
    · obtain ⟨q, off, rfl, hq, hc⟩ := HH.out.2 (by omega)
      have hcj := (HBe.out.cell (p := ⟨q, off + j, none⟩) hq).trans (hc j hlt)
      have HN := Lib.hid (flat_next ls j (by rw [HH.out.1]; exact hlt))
      have hfj := flat_le ls (j + 1)
      rw [HN.out, List.length_append] at hfj
      have hg := HR.out.lt
      have HP := Lib.hid (SPut.any b (ls.take j).flatten (ls.getD j []) wr HX.out (HR.out.step HBe.out) (by omega) (by omega))
      have hap : (⟨(ls.take j).flatten.toArray⟩ ++ ⟨(ls.getD j []).toArray⟩ : ByteArray) = ⟨((ls.take j).flatten ++ ls.getD j []).toArray⟩ := by rw [ByteArray.mk_append_mk]
      have HAp := Lib.hid hap
      have hl1 : ((ls.take j).flatten ++ ls.getD j []).length ≤ 5000 := by rw [List.length_append]; omega
      have HS := Lib.hid (fun W h hr => SSum.any b ((ls.take j).flatten ++ ls.getD j []) W h hr (by omega))
      have HO := Lib.hid (fun W hr => SFold.one ((ls.take j).flatten ++ ls.getD j []) W hr (by omega))
      have hlx : (ls.getD j []).length ≤ 5000 := by omega
      have hly : (ls.take j).flatten.length ≤ 5000 := by omega
      clear hc hfj hg hap
      generalize ls.getD j [] = x at *
      generalize (ls.take j).flatten = y at *
      generalize hz : y ++ x = z at *
      clear hz
      go_upto_region 11 with (go_at_call 24; refine HP.out.mono ?_; rintro e w2 ⟨rfl, hh2, hb2⟩; have HX2 := Lib.hid hh2; have HB2 := Lib.hid (HBe.out.trans (hb2.below hle HBe.out.size)); clear hh2 hb2)
      rw [HAp.out]
      generalize hsz : sum z = v at *
      by_cases h3z : ((x.length : Int) % 3 == 0) = true
      · go_wp2_with (first
          | (go_at_call 25; refine (HS.out _ HX2.out (HR.out.step HB2.out)).mono ?_; rintro e w3 ⟨rfl, hb3⟩; have HX3 := Lib.hid (HX2.out.step hb3); have HB3 := Lib.hid (HB2.out.trans (hb3.mono HB2.out.size)); clear hb3)
          | (go_at_call 9; refine (HO.out _ (HR.out.step HB3.out)).mono ?_; rintro e w4 ⟨rfl, hb4⟩; have HX4 := Lib.hid (HX3.out.step hb4); have HB4 := Lib.hid (HB3.out.trans (hb4.mono HB3.out.size)); clear hb4))
        go_roundw
        case rel => exact ⟨j + 1, by omega, by go_num, by rw [HN.out], by rw [HN.out]; exact HX4.out, HB4.out⟩
        case measure => simp [intOf]; omega
      · have h3n : ((x.length : Int) % 3 == 0) = false := by simpa using h3z
        clear h3z
        go_wp2
        go_roundw
        case rel => exact ⟨j + 1, by omega, by go_num, by rw [HN.out], by rw [HN.out]; exact HX2.out, HB2.out⟩
        case measure => simp [intOf]; omega
    · have hk : j = n := by omega
      subst hk
      have ht : ls.take j = ls := List.take_of_length_le (by rw [HH.out.1]; exact Nat.le_refl _)
      have hx := HX.out
      rw [ht] at hx ⊢
      have HY := Lib.hid hx
      clear ht hx HX
      have hg := HR.out.lt
      have HSl := Lib.hid (fun W h hr => sums a j c ls W h hr (by omega) (by omega))
      have HCp := Lib.hid (Copy b ls.flatten wr HY.out)
      have HPu := Lib.hid (fun q W h hr hq => SPut.any q ls.flatten t W h hr hq (by omega))
      have HAp : Hid (⟨ls.flatten.toArray⟩ ++ ⟨t.toArray⟩ = (⟨(ls.flatten ++ t).toArray⟩ : ByteArray)) := by show _ = _; rw [ByteArray.mk_append_mk]
      have hzl : (ls.flatten ++ t).length = ls.flatten.length + t.length := List.length_append
      have HS1 := Lib.hid (fun q W h hr => SSum.any q (ls.flatten ++ t) W h hr (by omega))
      have HO1 := Lib.hid (fun W hr => SFold.one (ls.flatten ++ t) W hr (by omega))
      have HL1 := Lib.hid (fun q W h => SHash.Len q (ls.flatten ++ t) W h)
      have HS2 := Lib.hid (fun W h hr => SSum.any b ls.flatten W h hr (by omega))
      have HO2 := Lib.hid (fun W hr => SFold.one ls.flatten W hr (by omega))
      have HL2 := Lib.hid (fun W h => SHash.Len b ls.flatten W h)
      have hv32 := sum_length ls.flatten
      generalize ls.flatten = y at *
      generalize y ++ t = z at *
      generalize sum z = v1 at *
      generalize sum y = v2 at *
      have hln : ((z.length : Int) != (y.length : Int) + (t.length : Int)) = false := by rw [bne_eq_false_iff_eq]; omega
      have h32 : ((v2.length : Int) == 32) = true := by rw [beq_iff_eq]; omega
      have hz6 : z.length ≤ 6000 := by omega
      clear hzl hv32
      go_wp2_with fail
      refine HCp.out.mono ?_
      rintro e w2 ⟨q, rfl, hq2, hb2, hqle⟩
      have HQ2 := Lib.hid hq2
      have HY2 := Lib.hid (HY.out.step hb2)
      have HB2 := Lib.hid (HBe.out.trans (hb2.mono HBe.out.size))
      have hqb : b ≠ q := by have := HY.out.lt; omega
      have hqw : w.heap.size ≤ q := by have := HBe.out.size; omega
      clear hq2 hb2 hqle
      go_wp2_with fail
      refine (HPu.out q _ HQ2.out (HR.out.step HB2.out) (by omega)).mono ?_
      rintro e w3 ⟨rfl, hq3, hb3⟩
      have HQ3 := Lib.hid hq3
      have HY3 := Lib.hid (HY2.out.other hb3 hqb)
      have HB3 := Lib.hid (HB2.out.trans (hb3.below hqw HB2.out.size))
      clear hq3 hb3 HQ2 HY2
      go_wp2_with fail
      refine (HS1.out q _ HQ3.out (HR.out.step HB3.out)).mono ?_
      rintro e w4 ⟨rfl, hb4⟩
      have HQ4 := Lib.hid (HQ3.out.step hb4)
      have HY4 := Lib.hid (HY3.out.step hb4)
      have HB4 := Lib.hid (HB3.out.trans (hb4.mono HB3.out.size))
      clear hb4 HQ3 HY3
      go_wp2_with fail
      rw [HAp.out]
      refine (HO1.out _ (HR.out.step HB4.out)).mono ?_
      rintro e w5 ⟨rfl, hb5⟩
      have HQ5 := Lib.hid (HQ4.out.step hb5)
      have HY5 := Lib.hid (HY4.out.step hb5)
      have HB5 := Lib.hid (HB4.out.trans (hb5.mono HB4.out.size))
      clear hb5 HQ4 HY4
      go_wp2_with fail
      refine (HL1.out q _ HQ5.out).mono ?_
      rintro e w6 ⟨rfl, rfl⟩
      go_wp2_with fail
      refine (HS2.out _ HY5.out (HR.out.step HB5.out)).mono ?_
      rintro e w6 ⟨rfl, hb6⟩
      have HY6 := Lib.hid (HY5.out.step hb6)
      have HB6 := Lib.hid (HB5.out.trans (hb6.mono HB5.out.size))
      clear hb6 HY5
      go_wp2_with fail
      refine (HSl.out _ ((HH.out.below HB6.out).more HB6.out.size) (HR.out.step HB6.out)).mono ?_
      rintro e w7 ⟨rfl, hb7⟩
      have HY7 := Lib.hid (HY6.out.step hb7)
      have HB7 := Lib.hid (HB6.out.trans (hb7.mono HB6.out.size))
      clear hb7 HY6
      go_wp2_with fail
      refine (HS2.out _ HY7.out (HR.out.step HB7.out)).mono ?_
      rintro e w8 ⟨rfl, hb8⟩
      have HY8 := Lib.hid (HY7.out.step hb8)
      have HB8 := Lib.hid (HB7.out.trans (hb8.mono HB7.out.size))
      clear hb8 HY7
      go_wp2_with fail
      refine (HO2.out _ (HR.out.step HB8.out)).mono ?_
      rintro e w9 ⟨rfl, hb9⟩
      have HY9 := Lib.hid (HY8.out.step hb9)
      have HB9 := Lib.hid (HB8.out.trans (hb9.mono HB8.out.size))
      clear hb9 HY8
      go_wp2_with fail
      refine (HL2.out _ HY9.out).mono ?_
      rintro e w10 ⟨rfl, rfl⟩
      go_wp2_with fail
      refine (HS2.out _ HY9.out (HR.out.step HB9.out)).mono ?_
      rintro e w10 ⟨rfl, hb10⟩
      have HB10 := Lib.hid (HB9.out.trans (hb10.mono HB9.out.size))
      clear hb10
      go_wp2_with fail
      refine (SAlive.any _ (HR.out.step HB10.out)).mono ?_
      rintro e w11 ⟨rfl, hb11⟩
      have HB11 := Lib.hid (HB10.out.trans (hb11.mono HB10.out.size))
      clear hb11
      go_wp2
      go_ret
      exact ⟨rfl, HB11.out⟩
theorem walk (a : Option Addr) (len cap : Nat) (z : List ByteArray) (t : ByteArray) (w : World) (w0 : StrsAt w a len cap z) (w1 : t.size ≤ maxLen) (hr : Rds w) :
    Calls Tryd.prog 7 #[.slice a len cap, .string t] w fun e w' => e = .returned (.bool true) ∧ Below w.heap.size w w' := by
  obtain ⟨ls, hs, _, _⟩ := strs_at w0
  by_cases h1 : (200 : Int) < (len : Int)
  · exact long a len cap ls t w hs hr (.inl h1)
  by_cases h2 : (5000 : Int) < (bsum ls : Int)
  · exact long a len cap ls t w hs hr (.inr ⟨by omega, .inl h2⟩)
  by_cases h3 : (1000 : Int) < (t.size : Int)
  · exact long a len cap ls t w hs hr (.inr ⟨by omega, .inr h3⟩)
  exact short a len cap ls t.data.toList w hs hr h1 h2 h3
theorem own : ownKnob Tryd.prog.godebug = none := by kernel_rfl
theorem laidOut : laidOutB Tryd.prog = true := by kernel_rfl
set_option maxRecDepth 100000 in
theorem lifted (os : Os) (started : os.Started) (H : Type) (enc : TypeId × Value → H) :
    ReturnsInHanded {} Tryd.checked os 7 .any (fun w args => (Rows.shaPiecesSpec.pre enc Tryd.prog Tryd.f7 Rows.shaPiecesRow.domain false w args ∧ laidMetH Tryd.prog Rows.shaPiecesRow.laid w) ∧ sizedMet enc Tryd.prog Tryd.f7 (OpenSpec.ofChange Rows.shaPiecesSpec) false w args) (Rows.shaPiecesSpec.post enc Tryd.prog Tryd.f7 false true false false) := by
  refine returnsInHanded_of_change_and (C := Tryd.checked) (X := fun w _ => laidMetH Tryd.prog Rows.shaPiecesRow.laid w) (fun _ _ _ hh h => h.of_heap hh) own started (by kernel_rfl) Tryd.func7
    (ChangeSpec.witness_shaped (enc := enc) (C := Tryd.checked) (os := os) (X := fun w _ => laidMetH Tryd.prog Rows.shaPiecesRow.laid w) false (World.doorLaid Tryd.prog 400 os) #[.slice none 0 0, .string ByteArray.empty] 8 rfl (World.shaped_of_RefB (by kernel_rfl) (by kernel_rfl)) (by kernel_rfl) (by kernel_rfl) (by kernel_rfl) (SLaid.door_met os _)) ?_
  intro W base args ds gs before hval0 hW _ _ hL _
  have hr := SLaid.of_laid hL
  have hval : ∀ (j : Nat) t v, Tryd.f7.params[j]? = some t → args[j]? = some v → Value.okWide Tryd.prog W .any base t v := hval0
  have hW' := hW
  obtain ⟨p, q, hA0, hV, rfl, hfz, hnd⟩ := hW
  have hA : DataW.TrodAll enc Tryd.prog W 0 (fun _ => true) true Tryd.f7.params.toList args.toList ds p := hA0
  rw [Tryd.params7] at hA hval
  obtain ⟨v0, vs0, d0, ds0, p0, q0, hargs, rfl, rfl, h0, r0⟩ := trodAll_cons hA
  obtain ⟨v1, vs1, d1, ds1, p1, q1, rfl, rfl, rfl, h1, r1⟩ := trodAll_cons r0
  obtain ⟨rfl, rfl, rfl⟩ := trodAll_nil r1
  obtain rfl : args = #[v0, v1] := by cases args; simp_all
  obtain ⟨rfl, rfl⟩ := trodVars_none hV
  obtain ⟨a0, len0, cap0, rfl⟩ := okWide_slice Tryd.underlying40 (hval 0 40 v0 rfl rfl)
  have k0 := h0
  have lt0 : ∀ x ∈ p0, x.block < W.heap.size := by obtain ⟨m, hm⟩ := k0; exact DataW.trod_lt m _ _ _ hm
  obtain ⟨z0, w0⟩ : ∃ zs, StrsAt W a0 len0 cap0 zs := by
    obtain ⟨fuel, hf⟩ := h0
    rcases open_strings Tryd.underlying40 Tryd.underlying9 (by kernel_rfl) hf with ⟨hcs, _⟩ | ⟨x, l, c, zs, hcs, _, hl, hm, hz, _, hcell, hwz⟩
    · simp [Value.cells] at hcs
      obtain ⟨rfl, rfl, rfl⟩ := hcs
      exact ⟨[], .inl ⟨rfl, rfl, rfl, rfl⟩⟩
    · simp [Value.cells] at hcs
      obtain ⟨rfl, rfl, rfl⟩ := hcs
      exact ⟨zs, .inr ⟨_, rfl, hl, hm, by simpa using hz, hcell, hwz⟩⟩
  obtain ⟨a1, rfl, rfl, rfl, w1⟩ := open_string Tryd.underlying9 (hval 1 9 v1 rfl rfl) h1
  clear hA0 hval0
  refine (walk a0 len0 cap0 z0 a1 W w0 w1 hr).mono fun e W' ⟨he, bel⟩ => ?_
  subst he
  exact ⟨_, rfl, _, _, _, [], _, [], hW', trodAll_mk1 (shut_bool Tryd.underlying4 _), (trodAll_cons_mk (Below.trod laidOut (by kernel_rfl) (of_decide_eq_true (by kernel_rfl)) k0 bel lt0) (trodAll_cons_mk (shut_string Tryd.underlying9 w1) trodAll_mk0)), rfl, bel.frame _, fun h => by cases h⟩
theorem over : Rows.shaPiecesRow.holds Tryd.pinned (OpenSpec.ofChange Rows.shaPiecesSpec) :=
  OpenClaim.holds_of_wide 7 Tryd.f7 rfl rfl rfl rfl rfl rfl rfl ⟨rfl, rfl, rfl, rfl, rfl⟩ rfl rfl rfl rfl rfl (by kernel_rfl) Tryd.func7 (by kernel_rfl)
    (of_decide_eq_true (by kernel_rfl)) (by unfold Func.isWrapper; first | (rw [if_pos (by decide +kernel)]; kernel_rfl) | (rw [if_neg (by decide +kernel)]; exact ⟨rfl, rfl⟩))
    (fun os started H enc _ => lifted os started H enc)
/-- THE STATEMENT, proved. -/
theorem proved : Rows.ShaPiecesCardSaid :=
  Claim7.holds_tied_plain_at .later [] _ true _ false
    over (fun _ h => by cases h) (by kernel_rfl) (fun _ h => by cases h) shaPieces_row_tie rfl ⟨rfl, rfl⟩ (by kernel_rfl) rfl
    (fun f fn hf hfn => by
      obtain rfl : f = 7 := Option.some.inj ((show Tryd.prog.funcNamed "keepsake/keepsakelaw02.ShaPieces" = some 7 by kernel_rfl).symm.trans hf) |>.symm
      obtain rfl : fn = Tryd.f7 := (Option.some.inj (Tryd.func7.symm.trans hfn)).symm
      exact ⟨by kernel_rfl, fun j t ht => by
        rw [Tryd.params7] at ht
        have hm : t ∈ [40, 9] := by simpa using Array.mem_of_getElem? ht
        have hall : ([40, 9].all fun u => !Tryd.prog.wantsStandIn u) = true := by kernel_rfl
        exact (show Tryd.prog.wantsStandIn t = false by simpa using List.all_eq_true.1 hall t hm)⟩)
    (by kernel_rfl)
#print axioms proved
end Go.Proofs.YtkaeeedjkegdlaaDoor.shaPieces
