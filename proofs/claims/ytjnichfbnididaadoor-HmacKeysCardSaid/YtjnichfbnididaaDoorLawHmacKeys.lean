/- HmacKeys: at any key and any message of at most 500 bytes each, and any number of noughts from 0 to 64 (else: the chapter's example alone, as the statement has it), a key longer than 64 bytes has the tag of its sum, a shorter one that which it has with noughts behind it. The condition: the rounds' numbers lie in the program's variable (the card ties it to the program's text). -/
import Derived.Test.YtjnichfbnididaaDoorHAlive
import Derived.Test.YtjnichfbnididaaDoorRNou
import Derived.Test.YtjnichfbnididaaDoorRows
import Derived.Test.YtjnichfbnididaaDoorTie
import Derived.Test.YtjnichfbnididaaDoorCards
import Derived.Test.YtjnichfbnididaaDoorSLaid
import Derived.WalkKit
import Derived.ProofKit
import Derived.OpenShut
import Derived.ShutString
import Derived.ChangeOld
import Derived.Below
import Derived.LaidMore
import Derived.SevenTiedAt
import Derived.Stop.Joined
namespace Go.Proofs.YtjnichfbnididaaDoor.hmacKeys
open Go.ChangeShapes Go.WideShapes Go.ChangeAt Go.RowKit
open Go.ChangeMaps (open_string shut_string)
set_option linter.unusedVariables false
open STurn
theorem long (k m : ByteArray) (n : Int) (w : World) (hr : Rds w) (h : (500 : Int) < (k.size : Int) ∨ (500 : Int) < (m.size : Int) ∨ n < 0 ∨ 64 < n) :
    Calls Tryd.prog 6 #[.string k, .string m, .int .i64 n] w fun e w' => e = .returned (.bool true) ∧ Below w.heap.size w w' := by
  have HR := Lib.hid hr
  clear hr
  by_cases h1 : (500 : Int) < (k.size : Int)
  · clear h
    go_enter Tryd.func6, Tryd.ntmps6
    go_wp2_with (go_at_call 7; refine (HAlive.any _ HR.out).mono ?_; rintro e w1 ⟨rfl, hb1⟩)
    go_ret
    exact ⟨rfl, hb1⟩
  by_cases h2 : (500 : Int) < (m.size : Int)
  · clear h
    go_enter Tryd.func6, Tryd.ntmps6
    go_wp2_with (go_at_call 7; refine (HAlive.any _ HR.out).mono ?_; rintro e w1 ⟨rfl, hb1⟩)
    go_ret
    exact ⟨rfl, hb1⟩
  by_cases h3 : n < 0
  · clear h
    go_enter Tryd.func6, Tryd.ntmps6
    go_wp2_with (go_at_call 7; refine (HAlive.any _ HR.out).mono ?_; rintro e w1 ⟨rfl, hb1⟩)
    go_ret
    exact ⟨rfl, hb1⟩
  · have h4 : 64 < n := by omega
    clear h
    go_enter Tryd.func6, Tryd.ntmps6
    go_wp2_with (go_at_call 7; refine (HAlive.any _ HR.out).mono ?_; rintro e w1 ⟨rfl, hb1⟩)
    go_ret
    exact ⟨rfl, hb1⟩
theorem far (k m : List UInt8) (n : Nat) (w : World) (hr : Rds w) (h1 : ¬ (500 : Int) < (k.length : Int)) (h2 : ¬ (500 : Int) < (m.length : Int)) (h3 : ¬ (n : Int) < 0) (h4 : ¬ 64 < (n : Int)) (h5 : (64 : Int) < (k.length : Int)) :
    Calls Tryd.prog 6 #[.string ⟨k.toArray⟩, .string ⟨m.toArray⟩, .int .i64 n] w fun e w' => e = .returned (.bool true) ∧ Below w.heap.size w w' := by
  have hs := sum_length k
  have P1 := Lib.hid (fun W hr => HPart.Mac k m W hr (by omega) (by omega))
  have P2 := Lib.hid (fun W hr => SFold.one k W hr (by omega))
  have P3 := Lib.hid (fun W hr => HPart.Mac (sum k) m W hr (by omega) (by omega))
  rw [← mac_block m (block_sum k (by omega))] at P3
  generalize macOf k m = z at *
  generalize sum k = s at *
  have HR := Lib.hid hr
  clear hr
  go_enter Tryd.func6, Tryd.ntmps6
  go_wp2_with fail
  refine (P1.out _ HR.out).mono ?_
  rintro e w1 ⟨rfl, hb1⟩
  have HB1 := Lib.hid hb1
  clear hb1
  go_wp2_with fail
  refine (P2.out _ (HR.out.step HB1.out)).mono ?_
  rintro e w2 ⟨rfl, hb2⟩
  have HB2 := Lib.hid (HB1.out.trans (hb2.mono HB1.out.size))
  clear hb2
  go_wp2_with fail
  refine (P3.out _ (HR.out.step HB2.out)).mono ?_
  rintro e w3 ⟨rfl, hb3⟩
  have HB3 := Lib.hid (HB2.out.trans (hb3.mono HB2.out.size))
  clear hb3
  go_wp2_with fail
  refine (HAlive.any _ (HR.out.step HB3.out)).mono ?_
  rintro e w4 ⟨rfl, hb4⟩
  have HB4 := Lib.hid (HB3.out.trans (hb4.mono HB3.out.size))
  clear hb4
  go_wp2
  go_ret
  exact ⟨rfl, HB4.out⟩
theorem over_ (k m : List UInt8) (n : Nat) (w : World) (hr : Rds w) (h1 : ¬ (500 : Int) < (k.length : Int)) (h2 : ¬ (500 : Int) < (m.length : Int)) (h3 : ¬ (n : Int) < 0) (h4 : ¬ 64 < (n : Int)) (h5 : ¬ (64 : Int) < (k.length : Int)) (h6 : (64 : Int) < (k.length : Int) + (n : Int)) :
    Calls Tryd.prog 6 #[.string ⟨k.toArray⟩, .string ⟨m.toArray⟩, .int .i64 n] w fun e w' => e = .returned (.bool true) ∧ Below w.heap.size w w' := by
  have P1 := Lib.hid (fun W hr => HPart.Mac k m W hr (by omega) (by omega))
  generalize macOf k m = z at *
  have HR := Lib.hid hr
  clear hr
  go_enter Tryd.func6, Tryd.ntmps6
  go_wp2_with fail
  refine (P1.out _ HR.out).mono ?_
  rintro e w1 ⟨rfl, hb1⟩
  have HB1 := Lib.hid hb1
  clear hb1
  go_wp2_with fail
  refine (HAlive.any _ (HR.out.step HB1.out)).mono ?_
  rintro e w4 ⟨rfl, hb4⟩
  have HB4 := Lib.hid (HB1.out.trans (hb4.mono HB1.out.size))
  clear hb4
  go_wp2
  go_ret
  exact ⟨rfl, HB4.out⟩
theorem near_ (k m : List UInt8) (n : Nat) (w : World) (hr : Rds w) (h1 : ¬ (500 : Int) < (k.length : Int)) (h2 : ¬ (500 : Int) < (m.length : Int)) (h3 : ¬ (n : Int) < 0) (h4 : ¬ 64 < (n : Int)) (h5 : ¬ (64 : Int) < (k.length : Int)) (h6 : ¬ (64 : Int) < (k.length : Int) + (n : Int)) :
    Calls Tryd.prog 6 #[.string ⟨k.toArray⟩, .string ⟨m.toArray⟩, .int .i64 n] w fun e w' => e = .returned (.bool true) ∧ Below w.heap.size w w' := by
  have hz : (List.replicate n (0 : UInt8)).length = n := List.length_replicate
  have P1 := Lib.hid (fun W hr => HPart.Mac k m W hr (by omega) (by omega))
  have P2 := Lib.hid (fun W => RNou.noughts n W (by omega))
  have P3 := Lib.hid (fun W hr => HPart.Mac (k ++ List.replicate n 0) m W hr (by rw [List.length_append]; omega) (by omega))
  rw [← mac_block m (block_noughts k n (by omega))] at P3
  have HE : Hid ((⟨k.toArray⟩ ++ ⟨(List.replicate n (0 : UInt8)).toArray⟩ : ByteArray) = ⟨(k ++ List.replicate n 0).toArray⟩) := by
    show _ = _
    rw [ByteArray.mk_append_mk]
  generalize macOf k m = z at *
  generalize List.replicate n (0 : UInt8) = s at *
  have HR := Lib.hid hr
  clear hr
  go_enter Tryd.func6, Tryd.ntmps6
  go_wp2_with fail
  refine (P1.out _ HR.out).mono ?_
  rintro e w1 ⟨rfl, hb1⟩
  have HB1 := Lib.hid hb1
  clear hb1
  go_wp2_with fail
  refine (P2.out _).mono ?_
  rintro e w2 ⟨rfl, hb2⟩
  have HB2 := Lib.hid (HB1.out.trans (hb2.mono HB1.out.size))
  clear hb2
  go_wp2_with fail
  rw [HE.out]
  refine (P3.out _ (HR.out.step HB2.out)).mono ?_
  rintro e w3 ⟨rfl, hb3⟩
  have HB3 := Lib.hid (HB2.out.trans (hb3.mono HB2.out.size))
  clear hb3
  go_wp2_with fail
  refine (HAlive.any _ (HR.out.step HB3.out)).mono ?_
  rintro e w4 ⟨rfl, hb4⟩
  have HB4 := Lib.hid (HB3.out.trans (hb4.mono HB3.out.size))
  clear hb4
  go_wp2
  go_ret
  exact ⟨rfl, HB4.out⟩
theorem walk (k m : ByteArray) (n : Int) (w : World) (w0 : k.size ≤ maxLen) (w1 : m.size ≤ maxLen) (w2 : (Lit.int .i64 n).wf = true) (hr : Rds w) :
    Calls Tryd.prog 6 #[.string k, .string m, .int .i64 n] w fun e w' => e = .returned (.bool true) ∧ Below w.heap.size w w' := by
  clear w0 w1 w2
  by_cases h1 : (500 : Int) < (k.size : Int)
  · exact long k m n w hr (.inl h1)
  by_cases h2 : (500 : Int) < (m.size : Int)
  · exact long k m n w hr (.inr (.inl h2))
  by_cases h3 : n < 0
  · exact long k m n w hr (.inr (.inr (.inl h3)))
  by_cases h4 : 64 < n
  · exact long k m n w hr (.inr (.inr (.inr h4)))
  obtain ⟨n, rfl⟩ : ∃ j : Nat, n = j := ⟨n.toNat, by omega⟩
  by_cases h5 : (64 : Int) < (k.size : Int)
  · exact far k.data.toList m.data.toList n w hr h1 h2 h3 h4 h5
  by_cases h6 : (64 : Int) < (k.size : Int) + (n : Int)
  · exact over_ k.data.toList m.data.toList n w hr h1 h2 h3 h4 h5 h6
  · exact near_ k.data.toList m.data.toList n w hr h1 h2 h3 h4 h5 h6
theorem own : ownKnob Tryd.prog.godebug = none := by kernel_rfl
theorem laidOut : laidOutB Tryd.prog = true := by kernel_rfl
set_option maxRecDepth 100000 in
theorem lifted (os : Os) (started : os.Started) (H : Type) (enc : TypeId × Value → H) :
    ReturnsInHanded {} Tryd.checked os 6 .any (fun w args => (Rows.hmacKeysSpec.pre enc Tryd.prog Tryd.f6 Rows.hmacKeysRow.domain false w args ∧ laidMetH Tryd.prog Rows.hmacKeysRow.laid w) ∧ sizedMet enc Tryd.prog Tryd.f6 (OpenSpec.ofChange Rows.hmacKeysSpec) false w args) (Rows.hmacKeysSpec.post enc Tryd.prog Tryd.f6 false true false false) := by
  refine returnsInHanded_of_change_and (C := Tryd.checked) (X := fun w _ => laidMetH Tryd.prog Rows.hmacKeysRow.laid w) (fun _ _ _ hh h => h.of_heap hh) own started (by kernel_rfl) Tryd.func6
    (ChangeSpec.witness_shaped (enc := enc) (C := Tryd.checked) (os := os) (X := fun w _ => laidMetH Tryd.prog Rows.hmacKeysRow.laid w) false (World.doorLaid Tryd.prog 400 os) #[.string ByteArray.empty, .string ByteArray.empty, .int .i64 0] 8 rfl (World.shaped_of_RefB (by kernel_rfl) (by kernel_rfl)) (by kernel_rfl) (by kernel_rfl) (by kernel_rfl) (SLaid.door_met os _)) ?_
  intro W base args ds gs before hval0 hW _ _ hL _
  have hr := SLaid.of_laid hL
  have hval : ∀ (j : Nat) t v, Tryd.f6.params[j]? = some t → args[j]? = some v → Value.okWide Tryd.prog W .any base t v := hval0
  have hW' := hW
  obtain ⟨p, q, hA0, hV, rfl, hfz, hnd⟩ := hW
  have hA : DataW.TrodAll enc Tryd.prog W 0 (fun _ => true) true Tryd.f6.params.toList args.toList ds p := hA0
  rw [Tryd.params6] at hA hval
  obtain ⟨v0, vs0, d0, ds0, p0, q0, hargs, rfl, rfl, h0, r0⟩ := trodAll_cons hA
  obtain ⟨v1, vs1, d1, ds1, p1, q1, rfl, rfl, rfl, h1, r1⟩ := trodAll_cons r0
  obtain ⟨v2, vs2, d2, ds2, p2, q2, rfl, rfl, rfl, h2, r2⟩ := trodAll_cons r1
  obtain ⟨rfl, rfl, rfl⟩ := trodAll_nil r2
  obtain rfl : args = #[v0, v1, v2] := by cases args; simp_all
  obtain ⟨rfl, rfl⟩ := trodVars_none hV
  obtain ⟨a0, rfl, rfl, rfl, w0⟩ := open_string Tryd.underlying9 (hval 0 9 v0 rfl rfl) h0
  obtain ⟨a1, rfl, rfl, rfl, w1⟩ := open_string Tryd.underlying9 (hval 1 9 v1 rfl rfl) h1
  obtain ⟨a2, rfl, rfl, rfl, w2⟩ := open_int Tryd.underlying3 (hval 2 3 v2 rfl rfl) h2
  clear hA0 hval0
  refine (walk a0 a1 a2 W w0 w1 w2 hr).mono fun e W' ⟨he, bel⟩ => ?_
  subst he
  exact ⟨_, rfl, _, _, _, [], _, [], hW', trodAll_mk1 (shut_bool Tryd.underlying4 _), (trodAll_cons_mk (shut_string Tryd.underlying9 w0) (trodAll_cons_mk (shut_string Tryd.underlying9 w1) (trodAll_cons_mk (shut_int Tryd.underlying3 w2) trodAll_mk0))), rfl, bel.frame _, fun h => by cases h⟩
theorem over : Rows.hmacKeysRow.holds Tryd.pinned (OpenSpec.ofChange Rows.hmacKeysSpec) :=
  OpenClaim.holds_of_wide 6 Tryd.f6 rfl rfl rfl rfl rfl rfl rfl ⟨rfl, rfl, rfl, rfl, rfl⟩ rfl rfl rfl rfl rfl (by kernel_rfl) Tryd.func6 (by kernel_rfl)
    (of_decide_eq_true (by kernel_rfl)) (by unfold Func.isWrapper; first | (rw [if_pos (by decide +kernel)]; kernel_rfl) | (rw [if_neg (by decide +kernel)]; exact ⟨rfl, rfl⟩))
    (fun os started H enc _ => lifted os started H enc)
/-- THE STATEMENT, proved. -/
theorem proved : Rows.HmacKeysCardSaid :=
  Claim7.holds_tied_plain_at .later [] _ true _ false
    over (fun _ h => by cases h) (by kernel_rfl) (fun _ h => by cases h) hmacKeys_row_tie rfl ⟨rfl, rfl⟩ (by kernel_rfl) rfl
    (fun f fn hf hfn => by
      obtain rfl : f = 6 := Option.some.inj ((show Tryd.prog.funcNamed "keepsake/keepsakelaw03.HmacKeys" = some 6 by kernel_rfl).symm.trans hf) |>.symm
      obtain rfl : fn = Tryd.f6 := (Option.some.inj (Tryd.func6.symm.trans hfn)).symm
      exact ⟨by kernel_rfl, fun j t ht => by
        rw [Tryd.params6] at ht
        have hm : t ∈ [9, 9, 3] := by simpa using Array.mem_of_getElem? ht
        have hall : ([9, 9, 3].all fun u => !Tryd.prog.wantsStandIn u) = true := by kernel_rfl
        exact (show Tryd.prog.wantsStandIn t = false by simpa using List.all_eq_true.1 hall t hm)⟩)
    (by kernel_rfl)
#print axioms proved
end Go.Proofs.YtjnichfbnididaaDoor.hmacKeys
