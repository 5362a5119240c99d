/- AesEncrypts: of any two texts, what the key is expanded to, and the block encrypted to, or that it is not, is as the document says. No condition but that the arguments are a Go program's (a string of at most 2^47 bytes). -/
import Derived.Test.YtkkmcdimmjjokaaAAlive
import Derived.Test.YtkkmcdimmjjokaaAREnc
import Derived.Test.YtkkmcdimmjjokaaRows
import Derived.WalkKit
import Derived.ProofKit
import Derived.OpenShut
import Derived.ShutString
import Derived.ChangeOld
import Derived.Below
namespace Go.Proofs.Ytkkmcdimmjjokaa.aesEncrypts
open Go.ChangeShapes Go.WideShapes Go.ChangeAt Go.RowKit
open Go.ChangeMaps (open_string shut_string)
set_option linter.unusedVariables false
open AesM AEnc ARBox ARAdd
theorem other (k s : List UInt8) (w : World) (hk : ¬ k.length = 16) :
    Calls Try.prog 4 #[.string ⟨k.toArray⟩, .string ⟨s.toArray⟩] w fun e w' => e = .returned (.bool true) ∧ Below w.heap.size w w' := by
  have hb := bne_of hk
  have P1 := Lib.hid (fun W => exp_key ⟨k.toArray⟩ W hb)
  have P2 := Lib.hid (fun W => enc_key ⟨k.toArray⟩ ⟨s.toArray⟩ W hb)
  have hb' : ((k.length : Int) != 16) = true := hb
  clear hb hk
  go_enter Try.func4, Try.ntmps4
  go_wp2_with (first
    | (go_at_call 15; refine (P1.out _).mono ?_; rintro e w' ⟨rfl, rfl⟩)
    | (go_at_call 16; refine (P2.out _).mono ?_; rintro e w' ⟨rfl, rfl⟩)
    | (go_at_call 14; refine (AAlive.any _).mono ?_; rintro e w5 ⟨rfl, hb5⟩; have HB5 := Lib.hid hb5; clear hb5))
  go_ret
  exact ⟨rfl, HB5.out⟩
theorem good (k s : List UInt8) (w : World) (hk : k.length = 16) :
    Calls Try.prog 4 #[.string ⟨k.toArray⟩, .string ⟨s.toArray⟩] w fun e w' => e = .returned (.bool true) ∧ Below w.heap.size w w' := by
  have P1 := Lib.hid (fun W => exp_ok k W hk)
  have P2 := Lib.hid (fun W => Enc k s W)
  have P3 := Lib.hid (fun W => Boxes W)
  have P4 := Lib.hid (fun (g : Nat) (W : World) (h : W.heap[g]? = some (.cells (iRow boxL) 3 (0, 0))) => ARExp.Expand k g W hk h)
  have hxl := expL_length boxL k hk
  have P5 := Lib.hid (fun (a : Option Addr) (c : Nat) (W : World) (h : Row W W.heap.size a 176 (ints (expL boxL k))) => ARBox.Text a 176 c (expL boxL k) W h (by omega))
  have hkk : ((k.length : Int) != 16) = false := by rw [hk]; rfl
  generalize expL boxL k = ws at *
  have HXL := Lib.hid hxl
  clear hxl
  by_cases hs : s.length = 16
  · have P6 := Lib.hid (fun W => AREnc.Encrypt k s W hk hs)
    rw [enc, if_pos ⟨hk, hs⟩] at P2
    have hss : ((s.length : Int) != 16) = false := by rw [hs]; rfl
    clear hk hs
    go_enter Try.func4, Try.ntmps4
    go_wp2_with fail
    refine (P1.out _).mono ?_
    rintro e w1 ⟨rfl, hb1⟩
    have HB1 := Lib.hid hb1
    clear hb1
    go_wp2_with fail
    refine (P2.out _).mono ?_
    rintro e w2 ⟨rfl, hb2⟩
    have HB2 := Lib.hid (HB1.out.trans (hb2.mono HB1.out.size))
    clear hb2
    go_wp2_with fail
    refine (P3.out _).mono ?_
    rintro e w3 ⟨rfl, rfl⟩
    go_wp2_with fail
    refine (P4.out _ _ (heap_alloc_new w2 _)).mono ?_
    rintro e w4 ⟨al, cl, rfl, hrow, _, hb4⟩
    rw [HXL.out] at hrow ⊢
    have HR := Lib.hid hrow
    have HB4 : Hid (Below w.heap.size w w4) := by
      have h := HB2.out.alloc HB2.out.size (.cells (iRow boxL) 3)
      exact h.trans (hb4.mono h.size)
    clear hrow hb4
    go_wp2_with fail
    refine (P5.out _ _ _ HR.out).mono ?_
    rintro e w5 ⟨rfl, hb5⟩
    have HB5 := Lib.hid (HB4.out.trans (hb5.mono HB4.out.size))
    clear hb5
    go_wp2_with fail
    refine (P6.out _).mono ?_
    rintro e w6 ⟨rfl, hb6⟩
    have HB6 := Lib.hid (HB5.out.trans (hb6.mono HB5.out.size))
    clear hb6
    go_wp2_with fail
    refine (AAlive.any _).mono ?_
    rintro e w7 ⟨rfl, hb7⟩
    have HB7 := Lib.hid (HB6.out.trans (hb7.mono HB6.out.size))
    clear hb7
    go_wp2
    go_ret
    exact ⟨rfl, HB7.out⟩
  · rw [enc, if_neg (fun h => hs h.2)] at P2
    have hss : ((s.length : Int) != 16) = true := by rw [bne_iff_ne]; omega
    clear hk hs
    go_enter Try.func4, Try.ntmps4
    go_wp2_with fail
    refine (P1.out _).mono ?_
    rintro e w1 ⟨rfl, hb1⟩
    have HB1 := Lib.hid hb1
    clear hb1
    go_wp2_with fail
    refine (P2.out _).mono ?_
    rintro e w2 ⟨rfl, hb2⟩
    have HB2 := Lib.hid (HB1.out.trans (hb2.mono HB1.out.size))
    clear hb2
    go_wp2_with fail
    refine (P3.out _).mono ?_
    rintro e w3 ⟨rfl, rfl⟩
    go_wp2_with fail
    refine (P4.out _ _ (heap_alloc_new w2 _)).mono ?_
    rintro e w4 ⟨al, cl, rfl, hrow, _, hb4⟩
    rw [HXL.out] at hrow ⊢
    have HR := Lib.hid hrow
    have HB4 : Hid (Below w.heap.size w w4) := by
      have h := HB2.out.alloc HB2.out.size (.cells (iRow boxL) 3)
      exact h.trans (hb4.mono h.size)
    clear hrow hb4
    go_wp2_with fail
    refine (P5.out _ _ _ HR.out).mono ?_
    rintro e w5 ⟨rfl, hb5⟩
    have HB5 := Lib.hid (HB4.out.trans (hb5.mono HB4.out.size))
    clear hb5
    go_wp2_with fail
    refine (AAlive.any _).mono ?_
    rintro e w7 ⟨rfl, hb7⟩
    have HB7 := Lib.hid (HB5.out.trans (hb7.mono HB5.out.size))
    clear hb7
    go_wp2
    go_ret
    exact ⟨rfl, HB7.out⟩
theorem walk (k s : ByteArray) (w : World) (w0 : k.size ≤ maxLen) (w1 : s.size ≤ maxLen) :
    Calls Try.prog 4 #[.string k, .string s] w fun e w' => e = .returned (.bool true) ∧ Below w.heap.size w w' := by
  clear w0 w1
  obtain ⟨l, rfl⟩ : ∃ l : List UInt8, k = ⟨l.toArray⟩ := ⟨k.data.toList, rfl⟩
  obtain ⟨m, rfl⟩ : ∃ l : List UInt8, s = ⟨l.toArray⟩ := ⟨s.data.toList, rfl⟩
  by_cases h : l.length = 16
  · exact good l m w h
  · exact other l m w h
theorem own : ownKnob Try.prog.godebug = none := by kernel_rfl
theorem laidOut : laidOutB Try.prog = true := by kernel_rfl
set_option maxRecDepth 100000 in
theorem lifted (os : Os) (started : os.Started) (H : Type) (enc : TypeId × Value → H) :
    ReturnsInHanded {} Try.checked os 4 .any (Rows.aesEncryptsSpec.pre6 enc Try.prog Try.f4 Rows.aesEncryptsRow.domain false) (Rows.aesEncryptsSpec.post enc Try.prog Try.f4 false true false false) := by
  refine returnsInHanded_of_change (C := Try.checked) own started (by kernel_rfl) Try.func4
    (ChangeSpec.witness6 (enc := enc) (C := Try.checked) false ⟨#[], #[.string ByteArray.empty, .string ByteArray.empty], []⟩ 8 (by kernel_rfl) (by kernel_rfl) (by kernel_rfl) (by kernel_rfl)) ?_
  intro W base args ds gs before hval0 hW hcnd _
  have hval : ∀ (j : Nat) t v, Try.f4.params[j]? = some t → args[j]? = some v → Value.okWide Try.prog W .any base t v := hval0
  have hW' := hW
  obtain ⟨p, q, hA0, hV, rfl, hfz, hnd⟩ := hW
  have hA : DataW.TrodAll enc Try.prog W 0 (fun _ => true) true Try.f4.params.toList args.toList ds p := hA0
  rw [Try.params4] at hA hval
  obtain ⟨v0, vs0, d0, ds0, p0, q0, hargs, rfl, rfl, h0, r0⟩ := trodAll_cons hA
  obtain ⟨v1, vs1, d1, ds1, p1, q1, rfl, rfl, rfl, h1, r1⟩ := trodAll_cons r0
  obtain ⟨rfl, rfl, rfl⟩ := trodAll_nil r1
  obtain rfl : args = #[v0, v1] := by cases args; simp_all
  obtain ⟨rfl, rfl⟩ := trodVars_none hV
  obtain ⟨a0, rfl, rfl, rfl, w0⟩ := open_string Try.underlying9 (hval 0 9 v0 rfl rfl) h0
  obtain ⟨a1, rfl, rfl, rfl, w1⟩ := open_string Try.underlying9 (hval 1 9 v1 rfl rfl) h1
  clear hA0 hval0
  refine (walk a0 a1 W w0 w1).mono fun e W' ⟨he, bel⟩ => ?_
  subst he
  exact ⟨_, rfl, _, _, _, [], _, [], hW', trodAll_mk1 (shut_bool Try.underlying4 _), (trodAll_cons_mk (shut_string Try.underlying9 w0) (trodAll_cons_mk (shut_string Try.underlying9 w1) trodAll_mk0)), rfl, bel.frame _, fun h => by cases h⟩
theorem over : Rows.aesEncryptsRow.holds Try.pinned (OpenSpec.ofChange Rows.aesEncryptsSpec) :=
  OpenClaim.holds_of_wide 4 Try.f4 rfl rfl rfl rfl rfl rfl rfl ⟨rfl, rfl, rfl, rfl, rfl⟩ rfl rfl rfl rfl rfl (by kernel_rfl) Try.func4 (by kernel_rfl)
    (of_decide_eq_true (by kernel_rfl)) (by unfold Func.isWrapper; first | (rw [if_pos (by decide +kernel)]; kernel_rfl) | (rw [if_neg (by decide +kernel)]; exact ⟨rfl, rfl⟩))
    (fun os started H enc _ => lifted os started H enc)
/-- THE STATEMENT, proved. -/
theorem proved : Rows.AesEncryptsSaid := over
#print axioms proved
end Go.Proofs.Ytkkmcdimmjjokaa.aesEncrypts
