/- AesMade: at any two texts, a cipher of the key encrypts the block as the key does; one that is none, and one that no call made, encrypts nothing. No condition but that the arguments are a Go program's (a string of at most 2^47 bytes). -/
import Derived.Test.YtkkmcdimmjjokaaAAlive
import Derived.Test.YtkkmcdimmjjokaaRows
import Derived.WalkKit
import Derived.ProofKit
import Derived.OpenShut
import Derived.ShutString
import Derived.ChangeOld
import Derived.Below
namespace Go.Proofs.Ytkkmcdimmjjokaa.aesMade
open Go.ChangeShapes Go.WideShapes Go.ChangeAt Go.RowKit
open Go.ChangeMaps (open_string shut_string)
set_option linter.unusedVariables false
open AesM AEnc ANew ATab
def zc : List Value := .bool false :: List.replicate 432 (.int .u8 0)
theorem zc_len : zc.length = 433 := by rw [zc, List.length_cons, List.length_replicate]
theorem zc_zero : zc.toArray[0]? = some (.bool false) := by rw [List.getElem?_toArray, zc, List.getElem?_cons_zero]
theorem zeroC' : (Try.prog.info? 46).map (·.zero) = some (some (.agg zc.toArray)) := by kernel_rfl
theorem zeroC : ∃ zs : Array Value, zs[0]? = some (.bool false) ∧ zs.size = 433 ∧ ¬ zs = #[] ∧ ∀ w, (zeroValue 46).run Try.prog w = .ok (.agg zs) w :=
  ⟨zc.toArray, zc_zero, by rw [List.size_toArray, zc_len], (fun h => by have := congrArg Array.size h; rw [List.size_toArray, zc_len] at this; cases this), fun w => zero_of zeroC' w⟩
theorem other (k s : List UInt8) (w : World) (hk : ¬ k.length = 16) :
    Calls Try.prog 5 #[.string ⟨k.toArray⟩, .string ⟨s.toArray⟩] w fun e w' => e = .returned (.bool true) ∧ Below w.heap.size w w' := by
  obtain ⟨zs, hz0, hsz, hne, hzv⟩ := zeroC
  have hb := bne_of hk
  have P1 := Lib.hid (fun W => short ⟨k.toArray⟩ W hb)
  have P2 := Lib.hid (fun W => enc_key ⟨k.toArray⟩ ⟨s.toArray⟩ W hb)
  have P3 := Lib.hid (fun W => of_nil ⟨s.toArray⟩ W)
  have P4 := Lib.hid (fun b W h => of_un b ⟨s.toArray⟩ W h)
  have HZ := Lib.hid hz0
  have hb' : ((k.length : Int) != 16) = true := hb
  clear hz0 hb hk
  go_enter Try.func5, Try.ntmps5
  go_upto_region 2 with (go_at_call 20; refine (P1.out _).mono ?_; rintro e w' ⟨rfl, rfl⟩)
  go_upto_region 3 with (fail)
  generalize hW : World.alloc w _ = W2
  have hc0 : W2.cell? ⟨w.heap.size, 0, none⟩ = some (.bool false) := by rw [← hW]; exact blk_cell (heap_alloc_new w _) HZ.out
  have HB2 : Hid (Below w.heap.size w W2) := by show Below _ _ _; rw [← hW]; exact (Below.refl _ _).alloc (Nat.le_refl _) _
  have HC0 := Lib.hid hc0
  clear hW hc0 hne hzv hsz
  go_wp2_with (first
    | (go_at_call 16; refine (P2.out _).mono ?_; rintro e w' ⟨rfl, rfl⟩)
    | (go_at_call 21; with_reducible refine (P3.out _).mono ?_; rintro e w' ⟨rfl, rfl⟩)
    | (go_at_call 21; refine (P4.out _ _ HC0.out).mono ?_; rintro e w' ⟨rfl, rfl⟩)
    | (go_at_call 14; refine (AAlive.any _).mono ?_; rintro e w5 ⟨rfl, hb5⟩; have HB5 := Lib.hid (HB2.out.trans (hb5.mono HB2.out.size)); clear hb5))
  go_ret
  exact ⟨rfl, HB5.out⟩
theorem good (k s : List UInt8) (w : World) (hk : k.length = 16) :
    Calls Try.prog 5 #[.string ⟨k.toArray⟩, .string ⟨s.toArray⟩] w fun e w' => e = .returned (.bool true) ∧ Below w.heap.size w w' := by
  obtain ⟨zs, hz0, hsz, hne, hzv⟩ := zeroC
  have P1 := Lib.hid (fun W => New k W hk)
  have P2 := Lib.hid (fun W => Enc k s W)
  have P3 := Lib.hid (fun b W h => CEnc b k s W h hk)
  have P4 := Lib.hid (fun b W h => of_un b ⟨s.toArray⟩ W h)
  have HZ := Lib.hid hz0
  generalize enc k s = r at *
  obtain ⟨r1, r2⟩ := r
  clear hz0 hk
  go_enter Try.func5, Try.ntmps5
  go_upto_region 2 with (go_at_call 20; refine (P1.out _).mono ?_; rintro e w1 ⟨b, rfl, hc, _, hb1⟩; have HC := Lib.hid hc; have HB1 := Lib.hid hb1; clear hc hb1)
  go_upto_region 3 with (fail)
  generalize hW : World.alloc w1 _ = W2
  have hc0 : W2.cell? ⟨w1.heap.size, 0, none⟩ = some (.bool false) := by rw [← hW]; exact blk_cell (heap_alloc_new w1 _) HZ.out
  have HB12 : Hid (Below w1.heap.size w1 W2) := by show Below _ _ _; rw [← hW]; exact (Below.refl _ _).alloc (Nat.le_refl _) _
  have HB2 := Lib.hid (HB1.out.trans (HB12.out.mono HB1.out.size))
  have HC2 := Lib.hid (HC.out.step HB12.out)
  have HLT : Hid (w1.heap.size < W2.heap.size) := by show _ < _; rw [← hW]; simp
  have HC0 := Lib.hid hc0
  generalize w1.heap.size = g0 at *
  clear hW hc0 hne hzv hsz HB1 HC HB12
  go_wp2_with (first
    | (go_at_call 16; refine (P2.out _).mono ?_; rintro e w3 ⟨rfl, hb3⟩; have HB3 := Lib.hid (HB2.out.trans (hb3.mono HB2.out.size)); have HC3 := Lib.hid (HC2.out.step hb3); have HD3 := Lib.hid ((hb3.cell (p := ⟨g0, 0, none⟩) HLT.out).trans HC0.out); have HL3 := Lib.hid (Nat.lt_of_lt_of_le HLT.out hb3.size); clear hb3 HC2)
    | (go_at_call 21; refine (P3.out b _ HC3.out).mono ?_; rintro e w4 ⟨rfl, hb4⟩; have HB4 := Lib.hid (HB3.out.trans (hb4.mono HB3.out.size)); have HD4 := Lib.hid ((hb4.cell (p := ⟨g0, 0, none⟩) HL3.out).trans HD3.out); clear hb4 HC3)
    | (go_at_call 21; refine (P4.out _ _ HD4.out).mono ?_; rintro e w' ⟨rfl, rfl⟩)
    | (go_at_call 14; refine (AAlive.any _).mono ?_; rintro e w5 ⟨rfl, hb5⟩; have HB5 := Lib.hid (HB4.out.trans (hb5.mono HB4.out.size)); clear hb5))
  go_ret
  exact ⟨rfl, HB5.out⟩
theorem walk (k s : ByteArray) (w : World) (w0 : k.size ≤ maxLen) (w1 : s.size ≤ maxLen) :
    Calls Try.prog 5 #[.string k, .string s] w fun e w' => e = .returned (.bool true) ∧ Below w.heap.size w w' := by
  clear w0 w1
  obtain ⟨l, rfl⟩ : ∃ l : List UInt8, k = ⟨l.toArray⟩ := ⟨k.data.toList, rfl⟩
  obtain ⟨m, rfl⟩ : ∃ l : List UInt8, s = ⟨l.toArray⟩ := ⟨s.data.toList, rfl⟩
  by_cases h : l.length = 16
  · exact good l m w h
  · exact other l m w h
theorem own : ownKnob Try.prog.godebug = none := by kernel_rfl
theorem laidOut : laidOutB Try.prog = true := by kernel_rfl
set_option maxRecDepth 100000 in
theorem lifted (os : Os) (started : os.Started) (H : Type) (enc : TypeId × Value → H) :
    ReturnsInHanded {} Try.checked os 5 .any (Rows.aesMadeSpec.pre6 enc Try.prog Try.f5 Rows.aesMadeRow.domain false) (Rows.aesMadeSpec.post enc Try.prog Try.f5 false true false false) := by
  refine returnsInHanded_of_change (C := Try.checked) own started (by kernel_rfl) Try.func5
    (ChangeSpec.witness6 (enc := enc) (C := Try.checked) false ⟨#[], #[.string ByteArray.empty, .string ByteArray.empty], []⟩ 8 (by kernel_rfl) (by kernel_rfl) (by kernel_rfl) (by kernel_rfl)) ?_
  intro W base args ds gs before hval0 hW hcnd _
  have hval : ∀ (j : Nat) t v, Try.f5.params[j]? = some t → args[j]? = some v → Value.okWide Try.prog W .any base t v := hval0
  have hW' := hW
  obtain ⟨p, q, hA0, hV, rfl, hfz, hnd⟩ := hW
  have hA : DataW.TrodAll enc Try.prog W 0 (fun _ => true) true Try.f5.params.toList args.toList ds p := hA0
  rw [Try.params5] at hA hval
  obtain ⟨v0, vs0, d0, ds0, p0, q0, hargs, rfl, rfl, h0, r0⟩ := trodAll_cons hA
  obtain ⟨v1, vs1, d1, ds1, p1, q1, rfl, rfl, rfl, h1, r1⟩ := trodAll_cons r0
  obtain ⟨rfl, rfl, rfl⟩ := trodAll_nil r1
  obtain rfl : args = #[v0, v1] := by cases args; simp_all
  obtain ⟨rfl, rfl⟩ := trodVars_none hV
  obtain ⟨a0, rfl, rfl, rfl, w0⟩ := open_string Try.underlying9 (hval 0 9 v0 rfl rfl) h0
  obtain ⟨a1, rfl, rfl, rfl, w1⟩ := open_string Try.underlying9 (hval 1 9 v1 rfl rfl) h1
  clear hA0 hval0
  refine (walk a0 a1 W w0 w1).mono fun e W' ⟨he, bel⟩ => ?_
  subst he
  exact ⟨_, rfl, _, _, _, [], _, [], hW', trodAll_mk1 (shut_bool Try.underlying4 _), (trodAll_cons_mk (shut_string Try.underlying9 w0) (trodAll_cons_mk (shut_string Try.underlying9 w1) trodAll_mk0)), rfl, bel.frame _, fun h => by cases h⟩
theorem over : Rows.aesMadeRow.holds Try.pinned (OpenSpec.ofChange Rows.aesMadeSpec) :=
  OpenClaim.holds_of_wide 5 Try.f5 rfl rfl rfl rfl rfl rfl rfl ⟨rfl, rfl, rfl, rfl, rfl⟩ rfl rfl rfl rfl rfl (by kernel_rfl) Try.func5 (by kernel_rfl)
    (of_decide_eq_true (by kernel_rfl)) (by unfold Func.isWrapper; first | (rw [if_pos (by decide +kernel)]; kernel_rfl) | (rw [if_neg (by decide +kernel)]; exact ⟨rfl, rfl⟩))
    (fun os started H enc _ => lifted os started H enc)
/-- THE STATEMENT, proved. -/
theorem proved : Rows.AesMadeSaid := over
#print axioms proved
end Go.Proofs.Ytkkmcdimmjjokaa.aesMade
