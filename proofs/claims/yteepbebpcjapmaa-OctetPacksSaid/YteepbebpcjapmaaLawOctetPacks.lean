/- OctetPacks: at any two rows of at most 300 numbers (longer ones: the chapter's examples alone, as the statement has it) and any text, what octet.Pack and octet.Unpack answer is what the document's answer is. -/
import Derived.Test.YteepbebpcjapmaaRPack
import Derived.Test.YteepbebpcjapmaaOPack
import Derived.Test.YteepbebpcjapmaaRUnp
import Derived.Test.YteepbebpcjapmaaOUnp
import Derived.Test.YteepbebpcjapmaaRInts
import Derived.Test.YteepbebpcjapmaaAlive
import Derived.Test.YteepbebpcjapmaaRows
import Derived.WalkKit
import Derived.ProofKit
import Derived.OpenShut
import Derived.ShutString
import Derived.ChangeOld
import Derived.Below
namespace Go.Proofs.Yteepbebpcjapmaa.octetPacks
open Go.ChangeShapes Go.WideShapes Go.ChangeAt Go.RowKit
open Go.ChangeMaps (open_string shut_string)
set_option linter.unusedVariables false
theorem below_draw {w w' : World} (h : ∃ n, w' = w.drewN n) : Below w.heap.size w w' := by
  obtain ⟨n, rfl⟩ := h
  have h := Below.refl w.heap.size w
  exact ⟨h.os, h.tape, h.output, h.size, h.block⟩
theorem walk (a0 : Option Addr) (len0 cap0 : Nat) (z0 : List Int) (a1 : Option Addr) (len1 cap1 : Nat) (z1 : List Int) (s : ByteArray) (w : World) (w0 : IntsAt .i64 w a0 len0 cap0 z0) (w1 : IntsAt .i64 w a1 len1 cap1 z1) (w2 : s.size ≤ maxLen) :
    Calls Try.prog 4 #[.slice a0 len0 cap0, .slice a1 len1 cap1, .string s] w fun e w' => e = .returned (.bool true) ∧ Below w.heap.size w w' := by
  obtain ⟨ws, hw, hwi⟩ := row_at w0
  obtain ⟨ls, hl, hli⟩ := row_at w1
  obtain ⟨l, rfl⟩ : ∃ l : List UInt8, s = ⟨l.toArray⟩ := ⟨s.data.toList, rfl⟩
  have HW := Lib.hid hw
  have HL := Lib.hid hl
  have HI := Lib.hid hli
  have HM : Hid (l.length ≤ maxLen) := w2
  clear w0 w1 w2 hw hwi hl hli
  by_cases h0 : 300 < len0
  · have h0' : (300 : Int) < (len0 : Int) := by omega
    go_enter Try.func4, Try.ntmps4
    go_wp2_with (go_at_call 12; refine (Alive.any _).mono ?_; rintro e w4 ⟨rfl, hb4⟩)
    go_ret
    exact ⟨rfl, hb4⟩
  · by_cases h1 : 300 < len1
    · have h1' : (300 : Int) < (len1 : Int) := by omega
      go_enter Try.func4, Try.ntmps4
      go_wp2_with (go_at_call 12; refine (Alive.any _).mono ?_; rintro e w4 ⟨rfl, hb4⟩)
      go_ret
      exact ⟨rfl, hb4⟩
    · go_enter Try.func4, Try.ntmps4
      go_wp2_with fail
      refine (OPack.any _ _ _ _ _ _ ws ls _ HW.out HL.out (by omega)).mono ?_
      rintro e v1 ⟨rfl, hb1⟩
      have HB1 := Lib.hid hb1
      have HW1 := Lib.hid ((HW.out.below hb1).more hb1.size)
      have HL1 := Lib.hid ((HL.out.below hb1).more hb1.size)
      clear hb1
      go_wp2_with fail
      refine (RPack.any _ _ _ _ _ _ ws ls _ HW1.out HL1.out (by omega) HI.out).mono ?_
      rintro e v2 ⟨rfl, hb2⟩
      have HB2 := Lib.hid hb2
      have HW2 := Lib.hid ((HW1.out.below hb2).more hb2.size)
      clear hb2
      go_wp2_with fail
      refine (OUnp.any _ _ _ ws l _ HW2.out (by omega) HM.out).mono ?_
      rintro e v3 ⟨r1, rfl, hown3, hb3⟩
      have HB3 := Lib.hid hb3
      have HW3 := Lib.hid ((HW2.out.below hb3).more hb3.size)
      have HO3 := Lib.hid hown3
      clear hb3 hown3
      go_wp2_with fail
      refine (RUnp.any _ _ _ ws l _ HW3.out (by omega) HM.out).mono ?_
      rintro e v4 ⟨r2, rfl, hown4, hb4⟩
      obtain ⟨q1, n1, c1, rfl⟩ := own_slice HO3.out
      obtain ⟨q2, n2, c2, rfl⟩ := own_slice hown4
      obtain rfl : n1 = (unpack ws l).1.length := own_len HO3.out
      obtain rfl : n2 = (unpack ws l).1.length := own_len hown4
      have HR2 := Lib.hid (row_own hown4)
      have HR1 := Lib.hid (((row_own HO3.out).below hb4).more hb4.size)
      have HB4 := Lib.hid hb4
      have hsmall : (unpack ws l).1.length ≤ 9223372036854775807 := by have := hown4.1; have := unpack_short ws l; have := HW.out.1; omega
      have HN := Lib.hid hsmall
      clear hb4 hown4 hsmall
      generalize pack ws ls = p at *
      generalize unpack ws l = u at *
      go_wp2_with fail
      refine (RInts.same q1 q2 _ c1 c2 u.1 v4 v4.heap.size HR1.out HR2.out HN.out).mono ?_
      rintro e v5 ⟨rfl, hd5⟩
      have HB5 := Lib.hid (below_draw hd5)
      clear hd5
      go_wp2_with (go_at_call 12; refine (Alive.any _).mono ?_; rintro e v6 ⟨rfl, hb6⟩)
      go_ret
      have b2 := HB1.out.trans (HB2.out.mono HB1.out.size)
      have b3 := b2.trans (HB3.out.mono b2.size)
      have b4 := b3.trans (HB4.out.mono b3.size)
      have b5 := b4.trans (HB5.out.mono b4.size)
      exact ⟨rfl, b5.trans (hb6.mono b5.size)⟩
theorem own : ownKnob Try.prog.godebug = none := by kernel_rfl
theorem laidOut : laidOutB Try.prog = true := by kernel_rfl
set_option maxRecDepth 100000 in
theorem lifted (os : Os) (started : os.Started) (H : Type) (enc : TypeId × Value → H) :
    ReturnsInHanded {} Try.checked os 4 .any (Rows.octetPacksSpec.pre6 enc Try.prog Try.f4 Rows.octetPacksRow.domain false) (Rows.octetPacksSpec.post enc Try.prog Try.f4 false true false false) := by
  refine returnsInHanded_of_change (C := Try.checked) own started (by kernel_rfl) Try.func4
    (ChangeSpec.witness6 (enc := enc) (C := Try.checked) false ⟨#[], #[.slice none 0 0, .slice none 0 0, .string ByteArray.empty], []⟩ 8 (by kernel_rfl) (by kernel_rfl) (by kernel_rfl) (by kernel_rfl)) ?_
  intro W base args ds gs before hval0 hW hcnd _
  have hval : ∀ (j : Nat) t v, Try.f4.params[j]? = some t → args[j]? = some v → Value.okWide Try.prog W .any base t v := hval0
  have hW' := hW
  obtain ⟨p, q, hA0, hV, rfl, hfz, hnd⟩ := hW
  have hA : DataW.TrodAll enc Try.prog W 0 (fun _ => true) true Try.f4.params.toList args.toList ds p := hA0
  rw [Try.params4] at hA hval
  obtain ⟨v0, vs0, d0, ds0, p0, q0, hargs, rfl, rfl, h0, r0⟩ := trodAll_cons hA
  obtain ⟨v1, vs1, d1, ds1, p1, q1, rfl, rfl, rfl, h1, r1⟩ := trodAll_cons r0
  obtain ⟨v2, vs2, d2, ds2, p2, q2, rfl, rfl, rfl, h2, r2⟩ := trodAll_cons r1
  obtain ⟨rfl, rfl, rfl⟩ := trodAll_nil r2
  obtain rfl : args = #[v0, v1, v2] := by cases args; simp_all
  obtain ⟨rfl, rfl⟩ := trodVars_none hV
  obtain ⟨a0, len0, cap0, rfl⟩ := okWide_slice Try.underlying33 (hval 0 33 v0 rfl rfl)
  have k0 := h0
  have lt0 : ∀ x ∈ p0, x.block < W.heap.size := by obtain ⟨m, hm⟩ := k0; exact DataW.trod_lt m _ _ _ hm
  obtain ⟨z0, w0⟩ : ∃ zs, IntsAt .i64 W a0 len0 cap0 zs := by
    obtain ⟨fuel, hf⟩ := h0
    rcases open_ints Try.underlying33 Try.underlying3 (by kernel_rfl) hf with ⟨hcs, _⟩ | ⟨x, l, c, zs, hcs, _, hl, hm, hz, _, hcell, hwz⟩
    · simp [Value.cells] at hcs
      obtain ⟨rfl, rfl, rfl⟩ := hcs
      exact ⟨[], .inl ⟨rfl, rfl, rfl, rfl⟩⟩
    · simp [Value.cells] at hcs
      obtain ⟨rfl, rfl, rfl⟩ := hcs
      exact ⟨zs, .inr ⟨_, rfl, hl, hm, by simpa using hz, hcell, hwz⟩⟩
  obtain ⟨a1, len1, cap1, rfl⟩ := okWide_slice Try.underlying33 (hval 1 33 v1 rfl rfl)
  have k1 := h1
  have lt1 : ∀ x ∈ p1, x.block < W.heap.size := by obtain ⟨m, hm⟩ := k1; exact DataW.trod_lt m _ _ _ hm
  obtain ⟨z1, w1⟩ : ∃ zs, IntsAt .i64 W a1 len1 cap1 zs := by
    obtain ⟨fuel, hf⟩ := h1
    rcases open_ints Try.underlying33 Try.underlying3 (by kernel_rfl) hf with ⟨hcs, _⟩ | ⟨x, l, c, zs, hcs, _, hl, hm, hz, _, hcell, hwz⟩
    · simp [Value.cells] at hcs
      obtain ⟨rfl, rfl, rfl⟩ := hcs
      exact ⟨[], .inl ⟨rfl, rfl, rfl, rfl⟩⟩
    · simp [Value.cells] at hcs
      obtain ⟨rfl, rfl, rfl⟩ := hcs
      exact ⟨zs, .inr ⟨_, rfl, hl, hm, by simpa using hz, hcell, hwz⟩⟩
  obtain ⟨a2, rfl, rfl, rfl, w2⟩ := open_string Try.underlying9 (hval 2 9 v2 rfl rfl) h2
  clear hA0 hval0
  refine (walk a0 len0 cap0 z0 a1 len1 cap1 z1 a2 W w0 w1 w2).mono fun e W' ⟨he, bel⟩ => ?_
  subst he
  exact ⟨_, rfl, _, _, _, [], _, [], hW', trodAll_mk1 (shut_bool Try.underlying4 _), (trodAll_cons_mk (Below.trod laidOut (by kernel_rfl) (of_decide_eq_true (by kernel_rfl)) k0 bel lt0) (trodAll_cons_mk (Below.trod laidOut (by kernel_rfl) (of_decide_eq_true (by kernel_rfl)) k1 bel lt1) (trodAll_cons_mk (shut_string Try.underlying9 w2) trodAll_mk0))), rfl, bel.frame _, fun h => by cases h⟩
theorem over : Rows.octetPacksRow.holds Try.pinned (OpenSpec.ofChange Rows.octetPacksSpec) :=
  OpenClaim.holds_of_wide 4 Try.f4 rfl rfl rfl rfl rfl rfl rfl ⟨rfl, rfl, rfl, rfl, rfl⟩ rfl rfl rfl rfl rfl (by kernel_rfl) Try.func4 (by kernel_rfl)
    (of_decide_eq_true (by kernel_rfl)) (by unfold Func.isWrapper; first | (rw [if_pos (by decide +kernel)]; kernel_rfl) | (rw [if_neg (by decide +kernel)]; exact ⟨rfl, rfl⟩))
    (fun os started H enc _ => lifted os started H enc)
/-- THE STATEMENT, proved. -/
theorem proved : Rows.OctetPacksSaid := over
#print axioms proved
end Go.Proofs.Yteepbebpcjapmaa.octetPacks
