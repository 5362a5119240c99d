/- ChainTags: at any key and text of at most 2^47 bytes, any number and any record, what is said of the record and its tag, or that there is none, is what the document says. The condition: the rounds' numbers lie in the program's variable (the card ties it to the program's text). -/
import Derived.Test.YtjcfgedldpnpjaaDoorChnR
import Derived.Test.YtjcfgedldpnpjaaDoorLChy
import Derived.Test.YtjcfgedldpnpjaaDoorLRez
import Derived.Test.YtjcfgedldpnpjaaDoorRows
import Derived.Test.YtjcfgedldpnpjaaDoorTie
import Derived.Test.YtjcfgedldpnpjaaDoorCards
import Derived.Test.YtjcfgedldpnpjaaDoorSLaid
import Derived.WalkKit
import Derived.ProofKit
import Derived.OpenShut
import Derived.ShutString
import Derived.ChangeOld
import Derived.Below
import Derived.LaidMore
import Derived.SevenTiedAt
import Derived.Stop.Joined
namespace Go.Proofs.YtjcfgedldpnpjaaDoor.chainTags
open Go.ChangeShapes Go.WideShapes Go.ChangeAt Go.RowKit
open Go.ChangeMaps (open_string shut_string)
set_option linter.unusedVariables false
open RecN RecC STurn ChnN ChnM ChnC ChnA ChnT
set_option maxRecDepth 100000 in
theorem long (key was : List UInt8) (n : Int) (r : Rec) (q : Bool) (w : World) (hr : Rds w) (hq : RecR.fewB r = q) (h : (1000 : Int) < (key.length : Int) ∨ (¬ (1000 : Int) < (key.length : Int) ∧ (1000 : Int) < (was.length : Int)) ∨ (¬ (1000 : Int) < (key.length : Int) ∧ ¬ (1000 : Int) < (was.length : Int) ∧ q = false)) :
    Calls Tryd.prog 3 #[.string ⟨key.toArray⟩, .string ⟨was.toArray⟩, .int .i64 n, .agg #[.int .i64 r.k, .int .i64 r.ep, .int .i64 r.tm, .int .i64 r.ct, .int .i64 r.tg, .int .i64 r.un, .string ⟨r.rt.toArray⟩, .string ⟨r.nm.toArray⟩]] w fun e w' => e = .returned (.bool true) ∧ Below w.heap.size w w' := by
  obtain ⟨W1, hW1⟩ : ∃ W1, W1 = w.alloc (.cells #[.int .i64 r.k, .int .i64 r.ep, .int .i64 r.tm, .int .i64 r.ct, .int .i64 r.tg, .int .i64 r.un, .string ⟨r.rt.toArray⟩, .string ⟨r.nm.toArray⟩] 23) := ⟨_, rfl⟩
  have SS : Hid (Ws w r W1) := Lib.hid (by rw [hW1]; exact ws_new w r)
  obtain ⟨k0, k1, k2, k3, k4, k5, k6, k7⟩ := SS.out.k.cells
  have hz := size_mk key
  have hy := size_mk was
  have HF := Lib.hid (fun W => RecR.Few r W)
  rw [hq] at HF
  have HR := Lib.hid hr
  clear hq hr
  go_enter Tryd.func3, Tryd.ntmps3
  go_upto_region 1 with (fail)
  rw [← hW1]
  clear hW1
  rcases h with h | ⟨h, h2⟩ | ⟨h, h2, rfl⟩
  all_goals
    go_wp2_with (first
      | (go_at_call 7; refine (HF.out _).mono ?_; rintro e w2 ⟨rfl, hb⟩; replace SS := Lib.hid (SS.out.step hb); clear hb)
      | (go_at_call 8; refine (ChnY.alive _ (HR.out.step SS.out.bel)).mono ?_; rintro e w3 ⟨rfl, hb⟩; replace SS := Lib.hid (SS.out.step hb); clear hb))
    go_ret
    exact ⟨rfl, SS.out.bel⟩
set_option maxRecDepth 100000 in
set_option maxHeartbeats 8000000 in
theorem short (key was s t : List UInt8) (n : Int) (r : Rec) (is so : Bool) (w : World) (hr : Rds w) (hn : n ≤ 9223372036854775807) (hf : RecR.fewB r = true) (h1 : ¬ (1000 : Int) < (key.length : Int)) (h2 : ¬ (1000 : Int) < (was.length : Int)) (hs : says was n r = (s, is)) (ht : tagged key was n r = (t, so)) :
    Calls Tryd.prog 3 #[.string ⟨key.toArray⟩, .string ⟨was.toArray⟩, .int .i64 n, .agg #[.int .i64 r.k, .int .i64 r.ep, .int .i64 r.tm, .int .i64 r.ct, .int .i64 r.tg, .int .i64 r.un, .string ⟨r.rt.toArray⟩, .string ⟨r.nm.toArray⟩]] w fun e w' => e = .returned (.bool true) ∧ Below w.heap.size w w' := by
  obtain ⟨W1, hW1⟩ : ∃ W1, W1 = w.alloc (.cells #[.int .i64 r.k, .int .i64 r.ep, .int .i64 r.tm, .int .i64 r.ct, .int .i64 r.tg, .int .i64 r.un, .string ⟨r.rt.toArray⟩, .string ⟨r.nm.toArray⟩] 23) := ⟨_, rfl⟩
  have SS : Hid (Ws w r W1) := Lib.hid (by rw [hW1]; exact ws_new w r)
  obtain ⟨k0, k1, k2, k3, k4, k5, k6, k7⟩ := SS.out.k.cells
  have hz := size_mk key
  have hy := size_mk was
  have HF := Lib.hid (fun W => RecR.Few r W)
  rw [hf] at HF
  have P1 := Lib.hid (fun W => ChnA.Said was n r W)
  rw [hs] at P1
  have P2 := Lib.hid (fun W => ChnR.Said was n r W hn)
  rw [hs] at P2
  have P3 := Lib.hid (fun W hr => ChnT.Tag key was n r W hr)
  rw [ht] at P3
  have P4 := Lib.hid (fun W => ChnR.Tag key was n r W hn)
  rw [ht] at P4
  have e1 : (s == s) = true := by simp
  have e2 : (t == t) = true := by simp
  have HR := Lib.hid hr
  clear hr hs ht hf hn
  go_enter Tryd.func3, Tryd.ntmps3
  go_upto_region 1 with (fail)
  rw [← hW1]
  clear hW1
  cases is <;> cases so
  all_goals
    unfold code at P1 P3
    simp only [if_true, Bool.false_eq_true, if_false] at P1 P3
    go_wp2_with (first
      | (go_at_call 7; refine (HF.out _).mono ?_; rintro e w2 ⟨rfl, hb⟩; replace SS := Lib.hid (SS.out.step hb); clear hb HF k0 k1 k2 k3 k4 k5 k6 k7; obtain ⟨k0, k1, k2, k3, k4, k5, k6, k7⟩ := SS.out.k.cells)
      | (go_at_call 9; refine (P1.out _).mono ?_; rintro e w2 ⟨rfl, hb⟩; replace SS := Lib.hid (SS.out.step hb); clear hb P1 k0 k1 k2 k3 k4 k5 k6 k7; obtain ⟨k0, k1, k2, k3, k4, k5, k6, k7⟩ := SS.out.k.cells)
      | (go_at_call 10; refine (P2.out _).mono ?_; rintro e w2 ⟨rfl, hb⟩; replace SS := Lib.hid (SS.out.step hb); clear hb P2 k0 k1 k2 k3 k4 k5 k6 k7; obtain ⟨k0, k1, k2, k3, k4, k5, k6, k7⟩ := SS.out.k.cells)
      | (go_at_call 11; refine (P3.out _ (HR.out.step SS.out.bel)).mono ?_; rintro e w2 ⟨rfl, hb⟩; replace SS := Lib.hid (SS.out.step hb); clear hb P3 k0 k1 k2 k3 k4 k5 k6 k7; obtain ⟨k0, k1, k2, k3, k4, k5, k6, k7⟩ := SS.out.k.cells)
      | (go_at_call 12; refine (P4.out _).mono ?_; rintro e w2 ⟨rfl, hb⟩; replace SS := Lib.hid (SS.out.step hb); clear hb P4 k0 k1 k2 k3 k4 k5 k6 k7; obtain ⟨k0, k1, k2, k3, k4, k5, k6, k7⟩ := SS.out.k.cells)
      | (go_at_call 8; refine (ChnY.alive _ (HR.out.step SS.out.bel)).mono ?_; rintro e w3 ⟨rfl, hb⟩; replace SS := Lib.hid (SS.out.step hb); clear hb))
    go_ret
    exact ⟨rfl, SS.out.bel⟩
theorem walk (key was : ByteArray) (n : Int) (r : Rec) (w : World) (w0 : key.size ≤ maxLen) (w1 : was.size ≤ maxLen) (w2 : (Lit.int .i64 n).wf = true) (hr : Rds w) :
    Calls Tryd.prog 3 #[.string key, .string was, .int .i64 n, .agg #[.int .i64 r.k, .int .i64 r.ep, .int .i64 r.tm, .int .i64 r.ct, .int .i64 r.tg, .int .i64 r.un, .string ⟨r.rt.toArray⟩, .string ⟨r.nm.toArray⟩]] w fun e w' => e = .returned (.bool true) ∧ Below w.heap.size w w' := by
  have hn := (bounds_i64 w2).2
  obtain ⟨⟨k⟩⟩ := key
  obtain ⟨⟨v⟩⟩ := was
  clear w0 w1 w2
  by_cases h1 : (1000 : Int) < (k.length : Int)
  · exact long k v n r _ w hr rfl (.inl h1)
  by_cases h2 : (1000 : Int) < (v.length : Int)
  · exact long k v n r _ w hr rfl (.inr (.inl ⟨h1, h2⟩))
  cases hf : RecR.fewB r with
  | false => exact long k v n r _ w hr hf (.inr (.inr ⟨h1, h2, rfl⟩))
  | true => exact short k v _ _ n r _ _ w hr hn hf h1 h2 rfl rfl
theorem own : ownKnob Tryd.prog.godebug = none := by kernel_rfl
theorem laidOut : laidOutB Tryd.prog = true := by kernel_rfl
set_option maxRecDepth 100000 in
theorem lifted (os : Os) (started : os.Started) (H : Type) (enc : TypeId × Value → H) :
    ReturnsInHanded {} Tryd.checked os 3 .any (fun w args => (Rows.chainTagsSpec.pre enc Tryd.prog Tryd.f3 Rows.chainTagsRow.domain false w args ∧ laidMetH Tryd.prog Rows.chainTagsRow.laid w) ∧ sizedMet enc Tryd.prog Tryd.f3 (OpenSpec.ofChange Rows.chainTagsSpec) false w args) (Rows.chainTagsSpec.post enc Tryd.prog Tryd.f3 false true false false) := by
  refine returnsInHanded_of_change_and (C := Tryd.checked) (X := fun w _ => laidMetH Tryd.prog Rows.chainTagsRow.laid w) (fun _ _ _ hh h => h.of_heap hh) own started (by kernel_rfl) Tryd.func3
    (ChangeSpec.witness_shaped (enc := enc) (C := Tryd.checked) (os := os) (X := fun w _ => laidMetH Tryd.prog Rows.chainTagsRow.laid w) false (World.doorLaid Tryd.prog 400 os) #[.string ByteArray.empty, .string ByteArray.empty, .int .i64 0, .agg #[.int .i64 0, .int .i64 0, .int .i64 0, .int .i64 0, .int .i64 0, .int .i64 0, .string ByteArray.empty, .string ByteArray.empty]] 8 rfl (World.shaped_of_RefB (by kernel_rfl) (by kernel_rfl)) (by kernel_rfl) (by kernel_rfl) (by kernel_rfl) (SLaid.door_met os _)) ?_
  intro W base args ds gs before hval0 hW _ hZ hL _
  have hr := SLaid.of_laid hL
  have hval : ∀ (j : Nat) t v, Tryd.f3.params[j]? = some t → args[j]? = some v → Value.okWide Tryd.prog W .any base t v := hval0
  have hW' := hW
  obtain ⟨p, q, hA0, hV, rfl, hfz, hnd⟩ := hW
  have hA : DataW.TrodAll enc Tryd.prog W 0 (fun _ => true) true Tryd.f3.params.toList args.toList ds p := hA0
  rw [Tryd.params3] at hA hval
  obtain ⟨v0, vs0, d0, ds0, p0, q0, hargs, rfl, rfl, h0, r0⟩ := trodAll_cons hA
  obtain ⟨v1, vs1, d1, ds1, p1, q1, rfl, rfl, rfl, h1, r1⟩ := trodAll_cons r0
  obtain ⟨v2, vs2, d2, ds2, p2, q2, rfl, rfl, rfl, h2, r2⟩ := trodAll_cons r1
  obtain ⟨v3, vs3, d3, ds3, p3, q3, rfl, rfl, rfl, h3, r3⟩ := trodAll_cons r2
  obtain ⟨rfl, rfl, rfl⟩ := trodAll_nil r3
  obtain rfl : args = #[v0, v1, v2, v3] := by cases args; simp_all
  obtain ⟨rfl, rfl⟩ := trodVars_none hV
  obtain ⟨a0, rfl, rfl, rfl, w0⟩ := open_string Tryd.underlying9 (hval 0 9 v0 rfl rfl) h0
  obtain ⟨a1, rfl, rfl, rfl, w1⟩ := open_string Tryd.underlying9 (hval 1 9 v1 rfl rfl) h1
  obtain ⟨a2, rfl, rfl, rfl, w2⟩ := open_int Tryd.underlying3 (hval 2 3 v2 rfl rfl) h2
  have k3 := h3
  have lt3 : ∀ x ∈ p3, x.block < W.heap.size := by obtain ⟨m, hm⟩ := k3; exact DataW.trod_lt m _ _ _ hm
  obtain ⟨a3, rfl⟩ := RecC.open_record (hval 3 23 v3 rfl rfl) h3
  clear hA0 hval0
  refine (walk a0 a1 a2 a3 W w0 w1 w2 hr).mono fun e W' ⟨he, bel⟩ => ?_
  subst he
  exact ⟨_, rfl, _, _, _, [], _, [], hW', trodAll_mk1 (shut_bool Tryd.underlying4 _), (trodAll_cons_mk (shut_string Tryd.underlying9 w0) (trodAll_cons_mk (shut_string Tryd.underlying9 w1) (trodAll_cons_mk (shut_int Tryd.underlying3 w2) (trodAll_cons_mk (Below.trod laidOut (by kernel_rfl) (of_decide_eq_true (by kernel_rfl)) k3 bel lt3) trodAll_mk0)))), rfl, bel.frame _, fun h => by cases h⟩
theorem over : Rows.chainTagsRow.holds Tryd.pinned (OpenSpec.ofChange Rows.chainTagsSpec) :=
  OpenClaim.holds_of_wide 3 Tryd.f3 rfl rfl rfl rfl rfl rfl rfl ⟨rfl, rfl, rfl, rfl, rfl⟩ rfl rfl rfl rfl rfl (by kernel_rfl) Tryd.func3 (by kernel_rfl)
    (of_decide_eq_true (by kernel_rfl)) (by unfold Func.isWrapper; first | (rw [if_pos (by decide +kernel)]; kernel_rfl) | (rw [if_neg (by decide +kernel)]; exact ⟨rfl, rfl⟩))
    (fun os started H enc _ => lifted os started H enc)
/-- THE STATEMENT, proved. -/
theorem proved : Rows.ChainTagsCardSaid :=
  Claim7.holds_tied_plain_at .later [] _ true _ false
    over (fun _ h => by cases h) (by kernel_rfl) (fun _ h => by cases h) chainTags_row_tie rfl ⟨rfl, rfl⟩ (by kernel_rfl) rfl
    (fun f fn hf hfn => by
      obtain rfl : f = 3 := Option.some.inj ((show Tryd.prog.funcNamed "keepsake/keepsakelaw20.ChainTags" = some 3 by kernel_rfl).symm.trans hf) |>.symm
      obtain rfl : fn = Tryd.f3 := (Option.some.inj (Tryd.func3.symm.trans hfn)).symm
      exact ⟨by kernel_rfl, fun j t ht => by
        rw [Tryd.params3] at ht
        have hm : t ∈ [9, 9, 3, 23] := by simpa using Array.mem_of_getElem? ht
        have hall : ([9, 9, 3, 23].all fun u => !Tryd.prog.wantsStandIn u) = true := by kernel_rfl
        exact (show Tryd.prog.wantsStandIn t = false by simpa using List.all_eq_true.1 hall t hm)⟩)
    (by kernel_rfl)
#print axioms proved
end Go.Proofs.YtjcfgedldpnpjaaDoor.chainTags
