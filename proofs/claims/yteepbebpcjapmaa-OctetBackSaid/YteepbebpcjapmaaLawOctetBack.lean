/- OctetBack: at any two rows of at most 300 numbers and any two texts of at most 10,000 bytes (longer ones: the chapter's examples alone, as the statement has it): what octet.Pack lays octet.Unpack takes again, octet.Cut leads back from octet.Text whatever is behind, and what octet.Get takes octet.Put lays again. -/
import Derived.Test.YteepbebpcjapmaaOctBack
import Derived.Test.YteepbebpcjapmaaOPack
import Derived.Test.YteepbebpcjapmaaOUnp
import Derived.Test.YteepbebpcjapmaaOCut
import Derived.Test.YteepbebpcjapmaaRInts
import Derived.Test.YteepbebpcjapmaaAlive
import Derived.Test.YteepbebpcjapmaaRows
import Derived.WalkKit
import Derived.ProofKit
import Derived.OpenShut
import Derived.ShutString
import Derived.ChangeOld
import Derived.Below
namespace Go.Proofs.Yteepbebpcjapmaa.octetBack
open Go.ChangeShapes Go.WideShapes Go.ChangeAt Go.RowKit
open Go.ChangeMaps (open_string shut_string)
set_option linter.unusedVariables false
theorem below_draw {w w' : World} (h : ∃ n, w' = w.drewN n) : Below w.heap.size w w' := by
  obtain ⟨n, rfl⟩ := h
  have h := Below.refl w.heap.size w
  exact ⟨h.os, h.tape, h.output, h.size, h.block⟩
theorem long (a0 a1 : Option Addr) (len0 cap0 len1 cap1 : Nat) (s t : ByteArray) (w : World) (h : (300 : Int) < (len0 : Int) ∨ (300 : Int) < (len1 : Int) ∨ (10000 : Int) < (s.size : Int) ∨ (10000 : Int) < (t.size : Int)) :
    Calls Try.prog 6 #[.slice a0 len0 cap0, .slice a1 len1 cap1, .string s, .string t] w fun e w' => e = .returned (.bool true) ∧ Below w.heap.size w w' := by
  by_cases h0 : (300 : Int) < (len0 : Int)
  · clear h
    go_enter Try.func6, Try.ntmps6
    go_wp2_with (go_at_call 12; refine (Alive.any _).mono ?_; rintro e w4 ⟨rfl, hb4⟩)
    go_ret
    exact ⟨rfl, hb4⟩
  by_cases h1 : (300 : Int) < (len1 : Int)
  · clear h
    go_enter Try.func6, Try.ntmps6
    go_wp2_with (go_at_call 12; refine (Alive.any _).mono ?_; rintro e w4 ⟨rfl, hb4⟩)
    go_ret
    exact ⟨rfl, hb4⟩
  by_cases h2 : (10000 : Int) < (s.size : Int)
  · clear h
    go_enter Try.func6, Try.ntmps6
    go_wp2_with (go_at_call 12; refine (Alive.any _).mono ?_; rintro e w4 ⟨rfl, hb4⟩)
    go_ret
    exact ⟨rfl, hb4⟩
  have h3 : (10000 : Int) < (t.size : Int) := by omega
  clear h
  go_enter Try.func6, Try.ntmps6
  go_wp2_with (go_at_call 12; refine (Alive.any _).mono ?_; rintro e w4 ⟨rfl, hb4⟩)
  go_ret
  exact ⟨rfl, hb4⟩
theorem walk (a0 : Option Addr) (len0 cap0 : Nat) (z0 : List Int) (a1 : Option Addr) (len1 cap1 : Nat) (z1 : List Int) (s t : ByteArray) (w : World) (w0 : IntsAt .i64 w a0 len0 cap0 z0) (w1 : IntsAt .i64 w a1 len1 cap1 z1) (w2 : s.size ≤ maxLen) (w3 : t.size ≤ maxLen) :
    Calls Try.prog 6 #[.slice a0 len0 cap0, .slice a1 len1 cap1, .string s, .string t] w fun e w' => e = .returned (.bool true) ∧ Below w.heap.size w w' := by
  obtain ⟨ws, hw, hwi⟩ := row_at w0
  obtain ⟨ls, hl, hli⟩ := row_at w1
  clear w0 w1 w2 w3
  by_cases hbig : (300 : Int) < (len0 : Int) ∨ (300 : Int) < (len1 : Int) ∨ (10000 : Int) < (s.size : Int) ∨ (10000 : Int) < (t.size : Int)
  · exact long a0 a1 len0 cap0 len1 cap1 s t w hbig
  have g0 : ¬ (300 : Int) < (len0 : Int) := fun h => hbig (.inl h)
  have g1 : ¬ (300 : Int) < (len1 : Int) := fun h => hbig (.inr (.inl h))
  have g2 : ¬ (10000 : Int) < (s.size : Int) := fun h => hbig (.inr (.inr (.inl h)))
  have g3 : ¬ (10000 : Int) < (t.size : Int) := fun h => hbig (.inr (.inr (.inr h)))
  clear hbig
  obtain ⟨l, rfl⟩ : ∃ l : List UInt8, s = ⟨l.toArray⟩ := ⟨s.data.toList, rfl⟩
  obtain ⟨r, rfl⟩ : ∃ r : List UInt8, t = ⟨r.toArray⟩ := ⟨t.data.toList, rfl⟩
  have y2 : l.length ≤ 10000 := by have : ¬ (10000 : Int) < (l.length : Int) := g2; omega
  have y3 : r.length ≤ 10000 := by have : ¬ (10000 : Int) < (r.length : Int) := g3; omega
  have k2 : ¬ (10000 : Int) < (l.length : Int) := by omega
  have k3 : ¬ (10000 : Int) < (r.length : Int) := by omega
  have hb4 : (be 4 l.length).length ≤ 4 := by rw [be_length]; omega
  have htext : text ⟨l.toArray⟩ = ⟨(be 4 l.length ++ l).toArray⟩ := by
    rw [text, ByteArray.mk_append_mk]; rfl
  have hT : ∀ W, Calls Try.prog 22 #[.string ⟨l.toArray⟩] W fun e w' => e = .returned (.string ⟨(be 4 l.length ++ l).toArray⟩) ∧ Below W.heap.size W w' := by
    intro W
    rw [← htext]
    exact OText.any _ W (by show l.length ≤ _; omega)
  have hC : ∀ W, Calls Try.prog 18 #[.string (⟨(be 4 l.length ++ l).toArray⟩ ++ ⟨r.toArray⟩)] W fun e w' => e = .returned (.tuple #[.string ⟨l.toArray⟩, .string ⟨r.toArray⟩, .int .i64 0]) ∧ ∃ n, w' = W.drewN n := by
    intro W
    rw [ByteArray.mk_append_mk]
    have hsz : (be 4 l.length ++ l ++ r).length ≤ maxLen := by simp only [List.length_append]; unfold maxLen; omega
    have := OCut.any ⟨(be 4 l.length ++ l ++ r).toArray⟩ W hsz
    rw [show ((⟨(be 4 l.length ++ l ++ r).toArray⟩ : ByteArray)).data.toList = be 4 l.length ++ l ++ r from rfl, cut_text l r (by omega)] at this
    exact this
  have HT := Lib.hid hT
  have HC := Lib.hid hC
  have hG : ∀ W, Calls Try.prog 10 #[.string ⟨l.toArray⟩] W fun e w' => e = .returned (.tuple #[.int .i64 (get l).1, .int .i64 (get l).2]) ∧ W = w' := fun W => OGet.any ⟨l.toArray⟩ W
  have hPut : (get l).2 = 0 → ∀ W, Calls Try.prog 8 #[.int .i64 (get l).1, .int .i64 (l.length : Int)] W fun e w' => e = .returned (.tuple #[.string ⟨l.toArray⟩, .int .i64 0]) ∧ Below W.heap.size W w' := by
    intro h W
    have := OPut.any (get l).1 (l.length : Int) W
    rw [put_get l h] at this
    exact this
  have HPut := Lib.hid hPut
  have hzl : (be 4 l.length ++ l).length ≤ 10004 := by rw [List.length_append]; omega
  generalize be 4 l.length ++ l = z at *
  generalize get l = gl at *
  obtain ⟨gn, gc⟩ := gl
  have HG := Lib.hid hG
  have HW := Lib.hid hw
  have HL := Lib.hid hl
  have HI := Lib.hid hli
  clear htext hT hC hG hPut hw hl hwi hli g2 g3 hb4
  by_cases hpk : (pack ws ls).2 = 0
  · obtain ⟨hlen, hok, hpack⟩ := pack_ok ws ls hpk
    have hun := unpack_pack ws ls (fun x hx => (HI.out x hx).2) hlen hok
    have hbl := packTo_length ws ls ls.length
    have hlsn : ls.length = len1 := HL.out.1
    have P1 := fun W hw hl => OPack.any a0 a1 len0 len1 cap0 cap1 ws ls W hw hl (by omega)
    rw [hpack] at P1
    generalize packTo ws ls ls.length = bs at *
    have P2 := fun W hw => OUnp.any a0 len0 cap0 ws bs W hw (by omega) (by unfold maxLen; omega)
    rw [hun] at P2
    have HP1 := Lib.hid P1
    have HP2 := Lib.hid P2
    have HLS := Lib.hid hlsn
    clear P1 P2 hpk hlen hok hpack hun hlsn
    go_enter Try.func6, Try.ntmps6
    go_wp2_with fail
    refine (HP1.out _ HW.out HL.out).mono ?_
    rintro e v1 ⟨rfl, hb1⟩
    have HB1 := Lib.hid hb1
    have HW1 := Lib.hid ((HW.out.below hb1).more hb1.size)
    have HL1 := Lib.hid ((HL.out.below hb1).more hb1.size)
    clear hb1
    go_wp2_with fail
    refine (HP2.out _ HW1.out).mono ?_
    rintro e v2 ⟨rv, rfl, hown2, hb2⟩
    obtain ⟨q1, n1, c1, rfl⟩ := own_slice hown2
    obtain rfl : n1 = len1 := (own_len hown2).trans HLS.out
    have HR2 : Hid (Row v2 v2.heap.size q1 n1 ls) := by
      have h2 : v2.ownsRow v1.heap.size 3 1 (.slice q1 n1 c1) n1 (ls.map (Value.int .i64)) := by
        have h3 := hown2
        rw [show ((ls, (0 : Int)) : List Int × Int).1 = ls from rfl, HLS.out] at h3
        exact h3
      exact row_own h2
    have HL2 := Lib.hid ((HL1.out.below hb2).more hb2.size)
    have HB2 := Lib.hid (HB1.out.trans (hb2.mono HB1.out.size))
    clear hown2 hb2
    go_wp2_with fail
    refine (RInts.same a1 q1 n1 cap1 c1 ls v2 v2.heap.size HL2.out HR2.out (by omega)).mono ?_
    rintro e v3 ⟨rfl, hd3⟩
    have HB3 := Lib.hid (HB2.out.trans ((below_draw hd3).mono HB2.out.size))
    clear hd3
    by_cases hgc : gc = 0
    · subst hgc
      have HPP := Lib.hid (HPut.out rfl)
      go_wp2_with
        (first
          | (go_at_call 22; refine (HT.out _).mono ?_; rintro e v5 ⟨rfl, hb5⟩; have HB5 := Lib.hid hb5; clear hb5)
          | (go_at_call 18; refine (HC.out _).mono ?_; rintro e v6 ⟨rfl, hb6⟩; have HB6 := Lib.hid (below_draw hb6); clear hb6)
          | (go_at_call 10; refine (HG.out _).mono ?_; rintro e v7 ⟨rfl, rfl⟩)
          | (go_at_call 8; refine (HPP.out _).mono ?_; rintro e v8 ⟨rfl, hb8⟩; have HB8 := Lib.hid hb8; clear hb8)
          | (go_at_call 12; refine (Alive.any _).mono ?_; rintro e v9 ⟨rfl, hb9⟩))
      go_ret
      have b5 := HB3.out.trans (HB5.out.mono HB3.out.size)
      have b6 := b5.trans (HB6.out.mono b5.size)
      have b8 := b6.trans (HB8.out.mono b6.size)
      exact ⟨rfl, b8.trans (hb9.mono b8.size)⟩
    · have hgb : (gc == 0) = false := by rw [beq_eq_false_iff_ne]; exact hgc
      have HGC := Lib.hid hgc
      clear hgc
      go_wp2_with
        (first
          | (go_at_call 22; refine (HT.out _).mono ?_; rintro e v5 ⟨rfl, hb5⟩; have HB5 := Lib.hid hb5; clear hb5)
          | (go_at_call 18; refine (HC.out _).mono ?_; rintro e v6 ⟨rfl, hb6⟩; have HB6 := Lib.hid (below_draw hb6); clear hb6)
          | (go_at_call 10; refine (HG.out _).mono ?_; rintro e v7 ⟨rfl, rfl⟩)
          | (go_at_call 12; refine (Alive.any _).mono ?_; rintro e v9 ⟨rfl, hb9⟩))
      go_ret
      have b5 := HB3.out.trans (HB5.out.mono HB3.out.size)
      have b6 := b5.trans (HB6.out.mono b5.size)
      exact ⟨rfl, b6.trans (hb9.mono b6.size)⟩
  · have P1 := fun W hw hl => OPack.any a0 a1 len0 len1 cap0 cap1 ws ls W hw hl (by omega)
    generalize pack ws ls = p at *
    obtain ⟨bs, pc⟩ := p
    have hpb : (pc == 0) = false := by rw [beq_eq_false_iff_ne]; exact hpk
    have HP1 := Lib.hid P1
    clear P1 hpk
    go_enter Try.func6, Try.ntmps6
    go_wp2_with fail
    refine (HP1.out _ HW.out HL.out).mono ?_
    rintro e v1 ⟨rfl, hb1⟩
    have HB1 := Lib.hid hb1
    clear hb1
    by_cases hgc : gc = 0
    · subst hgc
      have HPP := Lib.hid (HPut.out rfl)
      go_wp2_with
        (first
          | (go_at_call 22; refine (HT.out _).mono ?_; rintro e v5 ⟨rfl, hb5⟩; have HB5 := Lib.hid hb5; clear hb5)
          | (go_at_call 18; refine (HC.out _).mono ?_; rintro e v6 ⟨rfl, hb6⟩; have HB6 := Lib.hid (below_draw hb6); clear hb6)
          | (go_at_call 10; refine (HG.out _).mono ?_; rintro e v7 ⟨rfl, rfl⟩)
          | (go_at_call 8; refine (HPP.out _).mono ?_; rintro e v8 ⟨rfl, hb8⟩; have HB8 := Lib.hid hb8; clear hb8)
          | (go_at_call 12; refine (Alive.any _).mono ?_; rintro e v9 ⟨rfl, hb9⟩))
      go_ret
      have b5 := HB1.out.trans (HB5.out.mono HB1.out.size)
      have b6 := b5.trans (HB6.out.mono b5.size)
      have b8 := b6.trans (HB8.out.mono b6.size)
      exact ⟨rfl, b8.trans (hb9.mono b8.size)⟩
    · have hgb : (gc == 0) = false := by rw [beq_eq_false_iff_ne]; exact hgc
      have HGC := Lib.hid hgc
      clear hgc
      go_wp2_with
        (first
          | (go_at_call 22; refine (HT.out _).mono ?_; rintro e v5 ⟨rfl, hb5⟩; have HB5 := Lib.hid hb5; clear hb5)
          | (go_at_call 18; refine (HC.out _).mono ?_; rintro e v6 ⟨rfl, hb6⟩; have HB6 := Lib.hid (below_draw hb6); clear hb6)
          | (go_at_call 10; refine (HG.out _).mono ?_; rintro e v7 ⟨rfl, rfl⟩)
          | (go_at_call 12; refine (Alive.any _).mono ?_; rintro e v9 ⟨rfl, hb9⟩))
      go_ret
      have b5 := HB1.out.trans (HB5.out.mono HB1.out.size)
      have b6 := b5.trans (HB6.out.mono b5.size)
      exact ⟨rfl, b6.trans (hb9.mono b6.size)⟩
theorem own : ownKnob Try.prog.godebug = none := by kernel_rfl
theorem laidOut : laidOutB Try.prog = true := by kernel_rfl
set_option maxRecDepth 100000 in
theorem lifted (os : Os) (started : os.Started) (H : Type) (enc : TypeId × Value → H) :
    ReturnsInHanded {} Try.checked os 6 .any (Rows.octetBackSpec.pre6 enc Try.prog Try.f6 Rows.octetBackRow.domain false) (Rows.octetBackSpec.post enc Try.prog Try.f6 false true false false) := by
  refine returnsInHanded_of_change (C := Try.checked) own started (by kernel_rfl) Try.func6
    (ChangeSpec.witness6 (enc := enc) (C := Try.checked) false ⟨#[], #[.slice none 0 0, .slice none 0 0, .string ByteArray.empty, .string ByteArray.empty], []⟩ 8 (by kernel_rfl) (by kernel_rfl) (by kernel_rfl) (by kernel_rfl)) ?_
  intro W base args ds gs before hval0 hW hcnd _
  have hval : ∀ (j : Nat) t v, Try.f6.params[j]? = some t → args[j]? = some v → Value.okWide Try.prog W .any base t v := hval0
  have hW' := hW
  obtain ⟨p, q, hA0, hV, rfl, hfz, hnd⟩ := hW
  have hA : DataW.TrodAll enc Try.prog W 0 (fun _ => true) true Try.f6.params.toList args.toList ds p := hA0
  rw [Try.params6] at hA hval
  obtain ⟨v0, vs0, d0, ds0, p0, q0, hargs, rfl, rfl, h0, r0⟩ := trodAll_cons hA
  obtain ⟨v1, vs1, d1, ds1, p1, q1, rfl, rfl, rfl, h1, r1⟩ := trodAll_cons r0
  obtain ⟨v2, vs2, d2, ds2, p2, q2, rfl, rfl, rfl, h2, r2⟩ := trodAll_cons r1
  obtain ⟨v3, vs3, d3, ds3, p3, q3, rfl, rfl, rfl, h3, r3⟩ := trodAll_cons r2
  obtain ⟨rfl, rfl, rfl⟩ := trodAll_nil r3
  obtain rfl : args = #[v0, v1, v2, v3] := by cases args; simp_all
  obtain ⟨rfl, rfl⟩ := trodVars_none hV
  obtain ⟨a0, len0, cap0, rfl⟩ := okWide_slice Try.underlying33 (hval 0 33 v0 rfl rfl)
  have k0 := h0
  have lt0 : ∀ x ∈ p0, x.block < W.heap.size := by obtain ⟨m, hm⟩ := k0; exact DataW.trod_lt m _ _ _ hm
  obtain ⟨z0, w0⟩ : ∃ zs, IntsAt .i64 W a0 len0 cap0 zs := by
    obtain ⟨fuel, hf⟩ := h0
    rcases open_ints Try.underlying33 Try.underlying3 (by kernel_rfl) hf with ⟨hcs, _⟩ | ⟨x, l, c, zs, hcs, _, hl, hm, hz, _, hcell, hwz⟩
    · simp [Value.cells] at hcs
      obtain ⟨rfl, rfl, rfl⟩ := hcs
      exact ⟨[], .inl ⟨rfl, rfl, rfl, rfl⟩⟩
    · simp [Value.cells] at hcs
      obtain ⟨rfl, rfl, rfl⟩ := hcs
      exact ⟨zs, .inr ⟨_, rfl, hl, hm, by simpa using hz, hcell, hwz⟩⟩
  obtain ⟨a1, len1, cap1, rfl⟩ := okWide_slice Try.underlying33 (hval 1 33 v1 rfl rfl)
  have k1 := h1
  have lt1 : ∀ x ∈ p1, x.block < W.heap.size := by obtain ⟨m, hm⟩ := k1; exact DataW.trod_lt m _ _ _ hm
  obtain ⟨z1, w1⟩ : ∃ zs, IntsAt .i64 W a1 len1 cap1 zs := by
    obtain ⟨fuel, hf⟩ := h1
    rcases open_ints Try.underlying33 Try.underlying3 (by kernel_rfl) hf with ⟨hcs, _⟩ | ⟨x, l, c, zs, hcs, _, hl, hm, hz, _, hcell, hwz⟩
    · simp [Value.cells] at hcs
      obtain ⟨rfl, rfl, rfl⟩ := hcs
      exact ⟨[], .inl ⟨rfl, rfl, rfl, rfl⟩⟩
    · simp [Value.cells] at hcs
      obtain ⟨rfl, rfl, rfl⟩ := hcs
      exact ⟨zs, .inr ⟨_, rfl, hl, hm, by simpa using hz, hcell, hwz⟩⟩
  obtain ⟨a2, rfl, rfl, rfl, w2⟩ := open_string Try.underlying9 (hval 2 9 v2 rfl rfl) h2
  obtain ⟨a3, rfl, rfl, rfl, w3⟩ := open_string Try.underlying9 (hval 3 9 v3 rfl rfl) h3
  clear hA0 hval0
  refine (walk a0 len0 cap0 z0 a1 len1 cap1 z1 a2 a3 W w0 w1 w2 w3).mono fun e W' ⟨he, bel⟩ => ?_
  subst he
  exact ⟨_, rfl, _, _, _, [], _, [], hW', trodAll_mk1 (shut_bool Try.underlying4 _), (trodAll_cons_mk (Below.trod laidOut (by kernel_rfl) (of_decide_eq_true (by kernel_rfl)) k0 bel lt0) (trodAll_cons_mk (Below.trod laidOut (by kernel_rfl) (of_decide_eq_true (by kernel_rfl)) k1 bel lt1) (trodAll_cons_mk (shut_string Try.underlying9 w2) (trodAll_cons_mk (shut_string Try.underlying9 w3) trodAll_mk0)))), rfl, bel.frame _, fun h => by cases h⟩
theorem over : Rows.octetBackRow.holds Try.pinned (OpenSpec.ofChange Rows.octetBackSpec) :=
  OpenClaim.holds_of_wide 6 Try.f6 rfl rfl rfl rfl rfl rfl rfl ⟨rfl, rfl, rfl, rfl, rfl⟩ rfl rfl rfl rfl rfl (by kernel_rfl) Try.func6 (by kernel_rfl)
    (of_decide_eq_true (by kernel_rfl)) (by unfold Func.isWrapper; first | (rw [if_pos (by decide +kernel)]; kernel_rfl) | (rw [if_neg (by decide +kernel)]; exact ⟨rfl, rfl⟩))
    (fun os started H enc _ => lifted os started H enc)
/-- THE STATEMENT, proved. -/
theorem proved : Rows.OctetBackSaid := over
#print axioms proved
end Go.Proofs.Yteepbebpcjapmaa.octetBack
