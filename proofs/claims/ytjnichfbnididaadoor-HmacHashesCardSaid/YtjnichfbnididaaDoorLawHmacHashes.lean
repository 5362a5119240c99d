/- HmacHashes: at any key of at most 500 bytes and any row of at most 200 texts, of at most 5,000 bytes (else: the chapter's example alone, as the statement has it), a tag is the sum of the outer text, which ends with the sum of the inner one, and the tag of parts is that of all. The condition: the rounds' numbers lie in the program's variable (the card ties it to the program's text). -/
import Derived.Test.YtjnichfbnididaaDoorHAlive
import Derived.Test.YtjnichfbnididaaDoorHJoin
import Derived.SliceStrings
import Derived.Deep.RegionHeld3
import Derived.BigQuiet
import Derived.Test.YtjnichfbnididaaDoorRows
import Derived.Test.YtjnichfbnididaaDoorTie
import Derived.Test.YtjnichfbnididaaDoorCards
import Derived.Test.YtjnichfbnididaaDoorSLaid
import Derived.WalkKit
import Derived.ProofKit
import Derived.OpenShut
import Derived.ShutString
import Derived.ChangeOld
import Derived.Below
import Derived.LaidMore
import Derived.SevenTiedAt
import Derived.Stop.Joined
namespace Go.Proofs.YtjnichfbnididaaDoor.hmacHashes
open Go.ChangeShapes Go.WideShapes Go.ChangeAt Go.RowKit
open Go.ChangeMaps (open_string shut_string)
set_option linter.unusedVariables false
open STurn SSum
theorem long (k : ByteArray) (a : Option Addr) (n c : Nat) (ls : List (List UInt8)) (w : World) (h : Strs w w.heap.size a n ls) (hr : Rds w) (hb : (500 : Int) < (k.size : Int) ∨ (200 : Int) < (n : Int) ∨ n ≤ 200 ∧ (5000 : Int) < (bsum ls : Int)) :
    Calls Tryd.prog 4 #[.string k, .slice a n c] w fun e w' => e = .returned (.bool true) ∧ Below w.heap.size w w' := by
  have HR := Lib.hid hr
  have HH := Lib.hid h
  clear h hr
  by_cases h0 : (500 : Int) < (k.size : Int)
  · clear hb
    go_enter Tryd.func4, Tryd.ntmps4
    go_wp2_with (go_at_call 7; refine (HAlive.any _ HR.out).mono ?_; rintro e w1 ⟨rfl, hb1⟩)
    go_ret
    exact ⟨rfl, hb1⟩
  by_cases h1 : (200 : Int) < (n : Int)
  · clear hb
    go_enter Tryd.func4, Tryd.ntmps4
    go_wp2_with (go_at_call 7; refine (HAlive.any _ HR.out).mono ?_; rintro e w1 ⟨rfl, hb1⟩)
    go_ret
    exact ⟨rfl, hb1⟩
  have hn : n ≤ 200 := by omega
  have HB := Lib.hid (fun W h => bytes_any a n c ls W h hn)
  have h2 : (5000 : Int) < (bsum ls : Int) := by omega
  clear hb
  go_enter Tryd.func4, Tryd.ntmps4
  go_wp2_with (first
    | (go_at_call 16; refine (HB.out _ HH.out).mono ?_; rintro e w1 ⟨rfl, rfl⟩)
    | (go_at_call 7; refine (HAlive.any _ HR.out).mono ?_; rintro e w1 ⟨rfl, hb1⟩))
  go_ret
  exact ⟨rfl, hb1⟩
/-- The sum of one text, behind a draw. -/
theorem one_drew (l : List UInt8) (w : World) (hr : Rds w) (hl : l.length ≤ 576460752303423488) :
    Calls Tryd.prog 18 #[.slice (some ⟨w.heap.size, 0, none⟩) 1 1] (w.alloc (.cells #[.string ⟨l.toArray⟩] 9)).drew fun e w' => e = .returned (.string ⟨(sum l).toArray⟩) ∧ Below w.heap.size w w' := by
  have hb : Below w.heap.size w (w.alloc (.cells #[.string ⟨l.toArray⟩] 9)).drew := by
    have h := (Below.refl w.heap.size w).alloc (Nat.le_refl _) (.cells #[.string ⟨l.toArray⟩] 9)
    exact ⟨h.os, h.tape, h.output, h.size, h.block⟩
  have hh : (w.alloc (.cells #[.string ⟨l.toArray⟩] 9)).drew.heap[w.heap.size]? = some (.cells #[.string ⟨l.toArray⟩] 9 (0, 0)) := heap_alloc_new w _
  have h := sums (some ⟨w.heap.size, 0, none⟩) 1 1 [l] (w.alloc (.cells #[.string ⟨l.toArray⟩] 9)).drew
    ⟨rfl, fun _ => ⟨_, _, rfl, (Array.getElem?_eq_some_iff.1 hh).1, fun i hi => by
      obtain rfl : i = 0 := by omega
      exact blk_cell hh rfl⟩⟩ (hr.step hb) (by simpa using hl) (by omega)
  rw [show ([l] : List (List UInt8)).flatten = l from by simp] at h
  exact h.mono fun e w' ⟨h1, h2⟩ => ⟨h1, hb.trans (h2.mono hb.size)⟩
theorem cut_tail (y m : List UInt8) (W : World) (h : 64 ≤ y.length) (hd : y.drop 64 = m) : (Instr.slice 9 (.string ⟨y.toArray⟩) (some (.int .i64 64)) none none).run Tryd.prog W = .ok (.string ⟨m.toArray⟩) W := by
  have := run_slice_string_l (P := Tryd.prog) (w := W) 9 ⟨y.toArray⟩ Tryd.underlying9 .i64 64 (by omega) (by show (64 : Int) ≤ (y.length : Int); omega)
  rw [this]
  have e : (⟨y.toArray⟩ : ByteArray).extract (64 : Int).toNat (⟨y.toArray⟩ : ByteArray).size = ⟨m.toArray⟩ := by
    show (⟨y.toArray⟩ : ByteArray).extract 64 y.length = _
    rw [ByteArray.extract_mk, hd, List.take_of_length_le (by rw [← hd, List.length_drop]; omega)]
  rw [e]
set_option maxRecDepth 100000 in
set_option maxHeartbeats 2000000 in
theorem short (k : List UInt8) (a : Option Addr) (n c : Nat) (ls : List (List UInt8)) (w : World) (h : Strs w w.heap.size a n ls) (ha : a = none → n = 0 ∧ c = 0) (hr : Rds w) (h0 : ¬ (500 : Int) < (k.length : Int)) (h1 : ¬ (200 : Int) < (n : Int)) (h2 : ¬ (5000 : Int) < (bsum ls : Int)) :
    Calls Tryd.prog 4 #[.string ⟨k.toArray⟩, .slice a n c] w fun e w' => e = .returned (.bool true) ∧ Below w.heap.size w w' := by
  have HB := Lib.hid (fun W h => bytes_any a n c ls W h (by omega))
  have hfl := flat_bsum ls (by omega)
  have hfl5 : ls.flatten.length ≤ 5000 := by omega
  have HJ := Lib.hid (fun W h => HJoin.any a n c ls W h (by omega) (by omega))
  have HI := Lib.hid (fun W hr => HInn.Inner k ls.flatten W hr (by omega) (by omega))
  have HO := Lib.hid (fun W hr => HInn.Outer k ls.flatten W hr (by omega) (by omega))
  have HM := Lib.hid (fun W hr => HPart.Mac k ls.flatten W hr (by omega) (by omega))
  have HP := Lib.hid (fun W h hr => HPart.Parts k a n c ls W h ha hr (by omega) (by omega) (by omega))
  have hil := inner_length k ls.flatten
  have hol := outer_length k ls.flatten
  have hit := inner_tail k ls.flatten
  have hot := outer_tail k ls.flatten
  have HS1 := Lib.hid (fun W hr => one_drew (innerOf k ls.flatten) W hr (by omega))
  have HS2 := Lib.hid (fun W hr => SFold.one (outerOf k ls.flatten) W hr (by omega))
  rw [show sum (outerOf k ls.flatten) = macOf k ls.flatten from rfl] at HS2
  have HR := Lib.hid hr
  have HH := Lib.hid h
  clear h hr hfl ha
  generalize macOf k ls.flatten = z at *
  generalize outerOf k ls.flatten = o at *
  generalize innerOf k ls.flatten = y at *
  generalize ls.flatten = m at *
  generalize sum y = s at *
  have HL1 : Hid (y.length = 64 + m.length) := hil
  have HL2 : Hid (o.length = 96) := hol
  have HS3 := Lib.hid (fun W => cut_tail y m W (by omega) hit)
  have HS4 := Lib.hid (fun W => cut_tail o s W (by omega) hot)
  clear hit hot hil hol
  go_enter Tryd.func4, Tryd.ntmps4
  go_upto_region 3 with (go_at_call 16; refine (HB.out _ HH.out).mono ?_; rintro e w1 ⟨rfl, rfl⟩)
  clear h2
  go_wp2_with fail
  refine (HJ.out _ HH.out).mono ?_
  rintro e w1 ⟨rfl, rfl⟩
  go_wp2_with fail
  refine (HI.out _ HR.out).mono ?_
  rintro e w1 ⟨rfl, hb1⟩
  have HB1 := Lib.hid hb1
  clear hb1
  go_wp2_with fail
  refine (HO.out _ (HR.out.step HB1.out)).mono ?_
  rintro e w2 ⟨rfl, hb2⟩
  have HB2 := Lib.hid (HB1.out.trans (hb2.mono HB1.out.size))
  clear hb2
  go_wp2_with fail
  have hRd : Rds w2 := HR.out.step HB2.out
  have hs1 := HS3.out
  have hs2 := HS4.out
  have hf1 : ((y.length : Int) != 64 + (m.length : Int)) = false := by rw [bne_eq_false_iff_eq]; have := HL1.out; omega
  have hf2 : ((o.length : Int) != 96) = false := by rw [bne_eq_false_iff_eq]; have := HL2.out; omega
  have hq1 : IntKind.i64.wrap (64 + (m.length : Int)) = 64 + (m.length : Int) := IntWalk.i64_in _ (by omega)
  go_region_held3 (fun w' => True)
    (first | trivial | exact hS1)
    (first | (go_at_call 18; refine (HS1.out _ hRd).mono ?_; rintro e w3 ⟨rfl, hb3⟩; have hS1 : True := trivial))
  rename_i hHeld
  have HB3 := Lib.hid (HB2.out.trans (hb3.mono HB2.out.size))
  clear hHeld hS1 hb3 hs1 hs2 hf1 hf2 hq1 hRd
  go_wp2_with fail
  refine (HM.out _ (HR.out.step HB3.out)).mono ?_
  rintro e w4 ⟨rfl, hb4⟩
  have HB4 := Lib.hid (HB3.out.trans (hb4.mono HB3.out.size))
  clear hb4
  go_wp2_with fail
  refine (HS2.out _ (HR.out.step HB4.out)).mono ?_
  rintro e w5 ⟨rfl, hb5⟩
  have HB5 := Lib.hid (HB4.out.trans (hb5.mono HB4.out.size))
  clear hb5
  go_wp2_with fail
  refine (HP.out _ ((HH.out.below HB5.out).more HB5.out.size) (HR.out.step HB5.out)).mono ?_
  rintro e w6 ⟨rfl, hb6⟩
  have HB6 := Lib.hid (HB5.out.trans (hb6.mono HB5.out.size))
  clear hb6
  go_wp2_with fail
  refine (HM.out _ (HR.out.step HB6.out)).mono ?_
  rintro e w7 ⟨rfl, hb7⟩
  have HB7 := Lib.hid (HB6.out.trans (hb7.mono HB6.out.size))
  clear hb7
  go_wp2_with fail
  refine (HAlive.any _ (HR.out.step HB7.out)).mono ?_
  rintro e w8 ⟨rfl, hb8⟩
  have HB8 := Lib.hid (HB7.out.trans (hb8.mono HB7.out.size))
  clear hb8
  go_wp2
  go_ret
  exact ⟨rfl, HB8.out⟩
theorem walk (k : ByteArray) (a : Option Addr) (len cap : Nat) (z : List ByteArray) (w : World) (w0 : k.size ≤ maxLen) (w1 : StrsAt w a len cap z) (hr : Rds w) :
    Calls Tryd.prog 4 #[.string k, .slice a len cap] w fun e w' => e = .returned (.bool true) ∧ Below w.heap.size w w' := by
  obtain ⟨ls, hs, _, _⟩ := strs_at w1
  have ha : a = none → len = 0 ∧ cap = 0 := by
    intro e
    rcases w1 with ⟨_, h1, h2, _⟩ | ⟨x, e2, _⟩
    · exact ⟨h1, h2⟩
    · rw [e2] at e; cases e
  by_cases h0 : (500 : Int) < (k.size : Int)
  · exact long k a len cap ls w hs hr (.inl h0)
  by_cases h1 : (200 : Int) < (len : Int)
  · exact long k a len cap ls w hs hr (.inr (.inl h1))
  by_cases h2 : (5000 : Int) < (bsum ls : Int)
  · exact long k a len cap ls w hs hr (.inr (.inr ⟨by omega, h2⟩))
  exact short k.data.toList a len cap ls w hs ha hr h0 h1 h2
theorem own : ownKnob Tryd.prog.godebug = none := by kernel_rfl
theorem laidOut : laidOutB Tryd.prog = true := by kernel_rfl
set_option maxRecDepth 100000 in
theorem lifted (os : Os) (started : os.Started) (H : Type) (enc : TypeId × Value → H) :
    ReturnsInHanded {} Tryd.checked os 4 .any (fun w args => (Rows.hmacHashesSpec.pre enc Tryd.prog Tryd.f4 Rows.hmacHashesRow.domain false w args ∧ laidMetH Tryd.prog Rows.hmacHashesRow.laid w) ∧ sizedMet enc Tryd.prog Tryd.f4 (OpenSpec.ofChange Rows.hmacHashesSpec) false w args) (Rows.hmacHashesSpec.post enc Tryd.prog Tryd.f4 false true false false) := by
  refine returnsInHanded_of_change_and (C := Tryd.checked) (X := fun w _ => laidMetH Tryd.prog Rows.hmacHashesRow.laid w) (fun _ _ _ hh h => h.of_heap hh) own started (by kernel_rfl) Tryd.func4
    (ChangeSpec.witness_shaped (enc := enc) (C := Tryd.checked) (os := os) (X := fun w _ => laidMetH Tryd.prog Rows.hmacHashesRow.laid w) false (World.doorLaid Tryd.prog 400 os) #[.string ByteArray.empty, .slice none 0 0] 8 rfl (World.shaped_of_RefB (by kernel_rfl) (by kernel_rfl)) (by kernel_rfl) (by kernel_rfl) (by kernel_rfl) (SLaid.door_met os _)) ?_
  intro W base args ds gs before hval0 hW _ _ hL _
  have hr := SLaid.of_laid hL
  have hval : ∀ (j : Nat) t v, Tryd.f4.params[j]? = some t → args[j]? = some v → Value.okWide Tryd.prog W .any base t v := hval0
  have hW' := hW
  obtain ⟨p, q, hA0, hV, rfl, hfz, hnd⟩ := hW
  have hA : DataW.TrodAll enc Tryd.prog W 0 (fun _ => true) true Tryd.f4.params.toList args.toList ds p := hA0
  rw [Tryd.params4] at hA hval
  obtain ⟨v0, vs0, d0, ds0, p0, q0, hargs, rfl, rfl, h0, r0⟩ := trodAll_cons hA
  obtain ⟨v1, vs1, d1, ds1, p1, q1, rfl, rfl, rfl, h1, r1⟩ := trodAll_cons r0
  obtain ⟨rfl, rfl, rfl⟩ := trodAll_nil r1
  obtain rfl : args = #[v0, v1] := by cases args; simp_all
  obtain ⟨rfl, rfl⟩ := trodVars_none hV
  obtain ⟨a0, rfl, rfl, rfl, w0⟩ := open_string Tryd.underlying9 (hval 0 9 v0 rfl rfl) h0
  obtain ⟨a1, len1, cap1, rfl⟩ := okWide_slice Tryd.underlying26 (hval 1 26 v1 rfl rfl)
  have k1 := h1
  have lt1 : ∀ x ∈ p1, x.block < W.heap.size := by obtain ⟨m, hm⟩ := k1; exact DataW.trod_lt m _ _ _ hm
  obtain ⟨z1, w1⟩ : ∃ zs, StrsAt W a1 len1 cap1 zs := by
    obtain ⟨fuel, hf⟩ := h1
    rcases open_strings Tryd.underlying26 Tryd.underlying9 (by kernel_rfl) hf with ⟨hcs, _⟩ | ⟨x, l, c, zs, hcs, _, hl, hm, hz, _, hcell, hwz⟩
    · simp [Value.cells] at hcs
      obtain ⟨rfl, rfl, rfl⟩ := hcs
      exact ⟨[], .inl ⟨rfl, rfl, rfl, rfl⟩⟩
    · simp [Value.cells] at hcs
      obtain ⟨rfl, rfl, rfl⟩ := hcs
      exact ⟨zs, .inr ⟨_, rfl, hl, hm, by simpa using hz, hcell, hwz⟩⟩
  clear hA0 hval0
  refine (walk a0 a1 len1 cap1 z1 W w0 w1 hr).mono fun e W' ⟨he, bel⟩ => ?_
  subst he
  exact ⟨_, rfl, _, _, _, [], _, [], hW', trodAll_mk1 (shut_bool Tryd.underlying4 _), (trodAll_cons_mk (shut_string Tryd.underlying9 w0) (trodAll_cons_mk (Below.trod laidOut (by kernel_rfl) (of_decide_eq_true (by kernel_rfl)) k1 bel lt1) trodAll_mk0)), rfl, bel.frame _, fun h => by cases h⟩
theorem over : Rows.hmacHashesRow.holds Tryd.pinned (OpenSpec.ofChange Rows.hmacHashesSpec) :=
  OpenClaim.holds_of_wide 4 Tryd.f4 rfl rfl rfl rfl rfl rfl rfl ⟨rfl, rfl, rfl, rfl, rfl⟩ rfl rfl rfl rfl rfl (by kernel_rfl) Tryd.func4 (by kernel_rfl)
    (of_decide_eq_true (by kernel_rfl)) (by unfold Func.isWrapper; first | (rw [if_pos (by decide +kernel)]; kernel_rfl) | (rw [if_neg (by decide +kernel)]; exact ⟨rfl, rfl⟩))
    (fun os started H enc _ => lifted os started H enc)
/-- THE STATEMENT, proved. -/
theorem proved : Rows.HmacHashesCardSaid :=
  Claim7.holds_tied_plain_at .later [] _ true _ false
    over (fun _ h => by cases h) (by kernel_rfl) (fun _ h => by cases h) hmacHashes_row_tie rfl ⟨rfl, rfl⟩ (by kernel_rfl) rfl
    (fun f fn hf hfn => by
      obtain rfl : f = 4 := Option.some.inj ((show Tryd.prog.funcNamed "keepsake/keepsakelaw03.HmacHashes" = some 4 by kernel_rfl).symm.trans hf) |>.symm
      obtain rfl : fn = Tryd.f4 := (Option.some.inj (Tryd.func4.symm.trans hfn)).symm
      exact ⟨by kernel_rfl, fun j t ht => by
        rw [Tryd.params4] at ht
        have hm : t ∈ [9, 26] := by simpa using Array.mem_of_getElem? ht
        have hall : ([9, 26].all fun u => !Tryd.prog.wantsStandIn u) = true := by kernel_rfl
        exact (show Tryd.prog.wantsStandIn t = false by simpa using List.all_eq_true.1 hall t hm)⟩)
    (by kernel_rfl)
#print axioms proved
end Go.Proofs.YtjnichfbnididaaDoor.hmacHashes
