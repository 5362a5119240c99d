/- SlotsPuts: at any epoch and any two texts of at most 2^47 bytes, a key's block, and the epoch and key of any block, or that there is none, are the document's; each leads back. The condition: the rounds' numbers lie in the program's variable (the card ties it to the program's text). -/
import Derived.Test.YteinbhhocnjjoaaDoorSloY
import Derived.Test.YteinbhhocnjjoaaDoorSloQ
import Derived.Test.YteinbhhocnjjoaaDoorRows
import Derived.Test.YteinbhhocnjjoaaDoorTie
import Derived.Test.YteinbhhocnjjoaaDoorCards
import Derived.Test.YteinbhhocnjjoaaDoorSLaid
import Derived.WalkKit
import Derived.ProofKit
import Derived.OpenShut
import Derived.ShutString
import Derived.ChangeOld
import Derived.Below
import Derived.LaidMore
import Derived.SevenTiedAt
import Derived.Stop.Joined
namespace Go.Proofs.YteinbhhocnjjoaaDoor.slotsPuts
open Go.ChangeShapes Go.WideShapes Go.ChangeAt Go.RowKit
open Go.ChangeMaps (open_string shut_string)
set_option linter.unusedVariables false
open SloN SloC STurn SloY
set_option maxRecDepth 100000 in
theorem long (e : Int) (a b : List UInt8) (w : World) (hr : Rds w) (h : 10000 < a.length ∨ (¬ 10000 < a.length ∧ 10000 < b.length)) :
    Calls Tryd.prog 3 #[.int .i64 e, .string ⟨a.toArray⟩, .string ⟨b.toArray⟩] w fun r w' => r = .returned (.bool true) ∧ Below w.heap.size w w' := by
  have hza := size_mk a
  have hzb := size_mk b
  have GG := Lib.hid hr
  clear hr
  go_enter Tryd.func3, Tryd.ntmps3
  rcases h with h | ⟨h1, h⟩
  all_goals
    go_wp2_with (go_at_call 7; refine (SloY.alive _ GG.out).mono ?_; rintro r w7 ⟨rfl, hb⟩; have HE := Lib.hid hb; clear hb)
    go_ret
    exact ⟨rfl, HE.out⟩
set_option maxRecDepth 100000 in
set_option maxHeartbeats 2000000 in
theorem short (e n c f : Int) (k b p x : List UInt8) (is : Bool) (w : World) (hr : Rds w) (h1 : ¬ 10000 < k.length) (h2 : ¬ 10000 < b.length)
    (hp : put_ e k = (p, c)) (hi : decide (may e ∧ k.length = 32) = is) (ht : take b = (n, x, f)) (hc : (is = true ∧ c = 0 ∧ take p = (e, k, 0)) ∨ (is = false ∧ c = 2)) :
    Calls Tryd.prog 3 #[.int .i64 e, .string ⟨k.toArray⟩, .string ⟨b.toArray⟩] w fun r w' => r = .returned (.bool true) ∧ Below w.heap.size w w' := by
  have hza := size_mk k
  have hzb := size_mk b
  have SS : Hid (Sx w w) := Lib.hid ⟨Below.refl _ _, hr⟩
  have HP := Lib.hid (fun W h => SloP.Put e k W h)
  rw [hp] at HP
  have HQ := Lib.hid (fun W => SloQ.Put e k W)
  rw [hp, hi] at HQ
  have HT := Lib.hid (fun W h => SloP.Take b W h)
  rw [ht] at HT
  have HU := Lib.hid (fun W => SloQ.Take b W)
  rw [ht] at HU
  have HE := Lib.hid (fun W => SloP.Empty W)
  have HN : Hid (∀ W, Calls Tryd.prog 13 #[.int .i64 4096] W fun r w' => r = .returned (.string ⟨SloN.empty.toArray⟩) ∧ Below W.heap.size W w') := Lib.hid (fun W => RNou.noughts 4096 W (by omega))
  have HB := Lib.hid (fun W h => SloP.Take p W h)
  generalize SloN.empty = z at *
  clear hr hp hi ht
  go_enter Tryd.func3, Tryd.ntmps3
  go_upto_region 3 with (fail)
  go_upto_region 4 with (go_at_call 8; refine (HP.out _ SS.out.gl).mono ?_; rintro r w1 ⟨rfl, hb⟩; replace SS := Lib.hid (SS.out.step hb); clear hb)
  clear HP
  go_upto_region 5 with (go_at_call 9; refine (HQ.out _).mono ?_; rintro r w2 ⟨rfl, hb⟩; replace SS := Lib.hid (SS.out.step hb); clear hb)
  clear HQ
  go_upto_region 6 with (go_at_call 10; refine (HT.out _ SS.out.gl).mono ?_; rintro r w3 ⟨rfl, hb⟩; replace SS := Lib.hid (SS.out.step hb); clear hb)
  clear HT
  go_upto_region 7 with (go_at_call 11; refine (HU.out _).mono ?_; rintro r w4 ⟨rfl, hb⟩; replace SS := Lib.hid (SS.out.step hb); clear hb)
  clear HU
  rcases hc with ⟨rfl, rfl, ht⟩ | ⟨rfl, rfl⟩
  · rw [ht] at HB
    clear ht
    go_wp2_with (first
      | (go_at_call 12; refine (HE.out _).mono ?_; rintro r w5 ⟨rfl, hb⟩; replace SS := Lib.hid (SS.out.step hb); clear hb)
      | (go_at_call 13; refine (HN.out _).mono ?_; rintro r w6 ⟨rfl, hb⟩; replace SS := Lib.hid (SS.out.step hb); clear hb)
      | (go_at_call 10; refine (HB.out _ SS.out.gl).mono ?_; rintro r w7 ⟨rfl, hb⟩; replace SS := Lib.hid (SS.out.step hb); clear hb)
      | (go_at_call 7; refine (SloY.alive _ SS.out.gl).mono ?_; rintro r w8 ⟨rfl, hb⟩; replace SS := Lib.hid (SS.out.step hb); clear hb))
    go_ret
    exact ⟨rfl, SS.out.bel⟩
  · clear HB
    go_wp2_with (first
      | (go_at_call 12; refine (HE.out _).mono ?_; rintro r w5 ⟨rfl, hb⟩; replace SS := Lib.hid (SS.out.step hb); clear hb)
      | (go_at_call 13; refine (HN.out _).mono ?_; rintro r w6 ⟨rfl, hb⟩; replace SS := Lib.hid (SS.out.step hb); clear hb)
      | (go_at_call 7; refine (SloY.alive _ SS.out.gl).mono ?_; rintro r w8 ⟨rfl, hb⟩; replace SS := Lib.hid (SS.out.step hb); clear hb))
    go_ret
    exact ⟨rfl, SS.out.bel⟩
theorem walk (e : Int) (tk tb : ByteArray) (w : World) (we : (Lit.int .i64 e).wf = true) (wk : tk.size ≤ maxLen) (wb : tb.size ≤ maxLen) (hr : Rds w) :
    Calls Tryd.prog 3 #[.int .i64 e, .string tk, .string tb] w fun r w' => r = .returned (.bool true) ∧ Below w.heap.size w w' := by
  obtain ⟨⟨k⟩⟩ := tk
  obtain ⟨⟨b⟩⟩ := tb
  by_cases h1 : 10000 < k.length
  · exact long e k b w hr (.inl h1)
  · by_cases h2 : 10000 < b.length
    · exact long e k b w hr (.inr ⟨h1, h2⟩)
    · obtain ⟨n, x, f, ht⟩ := SloV.three (take b)
      by_cases hg : may e ∧ k.length = 32
      · exact short e n 0 f k b _ x true w hr h1 h2 (SloN.put_yes hg.1 hg.2) (dt hg) ht (.inl ⟨rfl, rfl, take_blk hg.1 hg.2⟩)
      · exact short e n 2 f k b _ x false w hr h1 h2 (SloN.put_no hg) (df hg) ht (.inr ⟨rfl, rfl⟩)
theorem own : ownKnob Tryd.prog.godebug = none := by kernel_rfl
theorem laidOut : laidOutB Tryd.prog = true := by kernel_rfl
set_option maxRecDepth 100000 in
theorem lifted (os : Os) (started : os.Started) (H : Type) (enc : TypeId × Value → H) :
    ReturnsInHanded {} Tryd.checked os 3 .any (fun w args => (Rows.slotsPutsSpec.pre enc Tryd.prog Tryd.f3 Rows.slotsPutsRow.domain false w args ∧ laidMetH Tryd.prog Rows.slotsPutsRow.laid w) ∧ sizedMet enc Tryd.prog Tryd.f3 (OpenSpec.ofChange Rows.slotsPutsSpec) false w args) (Rows.slotsPutsSpec.post enc Tryd.prog Tryd.f3 false true false false) := by
  refine returnsInHanded_of_change_and (C := Tryd.checked) (X := fun w _ => laidMetH Tryd.prog Rows.slotsPutsRow.laid w) (fun _ _ _ hh h => h.of_heap hh) own started (by kernel_rfl) Tryd.func3
    (ChangeSpec.witness_shaped (enc := enc) (C := Tryd.checked) (os := os) (X := fun w _ => laidMetH Tryd.prog Rows.slotsPutsRow.laid w) false (World.doorLaid Tryd.prog 400 os) #[.int .i64 0, .string ByteArray.empty, .string ByteArray.empty] 8 rfl (World.shaped_of_RefB (by kernel_rfl) (by kernel_rfl)) (by kernel_rfl) (by kernel_rfl) (by kernel_rfl) (SLaid.door_met os _)) ?_
  intro W base args ds gs before hval0 hW _ _ hL _
  have hr := SLaid.of_laid hL
  have hval : ∀ (j : Nat) t v, Tryd.f3.params[j]? = some t → args[j]? = some v → Value.okWide Tryd.prog W .any base t v := hval0
  have hW' := hW
  obtain ⟨p, q, hA0, hV, rfl, hfz, hnd⟩ := hW
  have hA : DataW.TrodAll enc Tryd.prog W 0 (fun _ => true) true Tryd.f3.params.toList args.toList ds p := hA0
  rw [Tryd.params3] at hA hval
  obtain ⟨v0, vs0, d0, ds0, p0, q0, hargs, rfl, rfl, h0, r0⟩ := trodAll_cons hA
  obtain ⟨v1, vs1, d1, ds1, p1, q1, rfl, rfl, rfl, h1, r1⟩ := trodAll_cons r0
  obtain ⟨v2, vs2, d2, ds2, p2, q2, rfl, rfl, rfl, h2, r2⟩ := trodAll_cons r1
  obtain ⟨rfl, rfl, rfl⟩ := trodAll_nil r2
  obtain rfl : args = #[v0, v1, v2] := by cases args; simp_all
  obtain ⟨rfl, rfl⟩ := trodVars_none hV
  obtain ⟨a0, rfl, rfl, rfl, w0⟩ := open_int Tryd.underlying3 (hval 0 3 v0 rfl rfl) h0
  obtain ⟨a1, rfl, rfl, rfl, w1⟩ := open_string Tryd.underlying9 (hval 1 9 v1 rfl rfl) h1
  obtain ⟨a2, rfl, rfl, rfl, w2⟩ := open_string Tryd.underlying9 (hval 2 9 v2 rfl rfl) h2
  clear hA0 hval0
  refine (walk a0 a1 a2 W w0 w1 w2 hr).mono fun e W' ⟨he, bel⟩ => ?_
  subst he
  exact ⟨_, rfl, _, _, _, [], _, [], hW', trodAll_mk1 (shut_bool Tryd.underlying4 _), (trodAll_cons_mk (shut_int Tryd.underlying3 w0) (trodAll_cons_mk (shut_string Tryd.underlying9 w1) (trodAll_cons_mk (shut_string Tryd.underlying9 w2) trodAll_mk0))), rfl, bel.frame _, fun h => by cases h⟩
theorem over : Rows.slotsPutsRow.holds Tryd.pinned (OpenSpec.ofChange Rows.slotsPutsSpec) :=
  OpenClaim.holds_of_wide 3 Tryd.f3 rfl rfl rfl rfl rfl rfl rfl ⟨rfl, rfl, rfl, rfl, rfl⟩ rfl rfl rfl rfl rfl (by kernel_rfl) Tryd.func3 (by kernel_rfl)
    (of_decide_eq_true (by kernel_rfl)) (by unfold Func.isWrapper; first | (rw [if_pos (by decide +kernel)]; kernel_rfl) | (rw [if_neg (by decide +kernel)]; exact ⟨rfl, rfl⟩))
    (fun os started H enc _ => lifted os started H enc)
/-- THE STATEMENT, proved. -/
theorem proved : Rows.SlotsPutsCardSaid :=
  Claim7.holds_tied_plain_at .later [] _ true _ false
    over (fun _ h => by cases h) (by kernel_rfl) (fun _ h => by cases h) slotsPuts_row_tie rfl ⟨rfl, rfl⟩ (by kernel_rfl) rfl
    (fun f fn hf hfn => by
      obtain rfl : f = 3 := Option.some.inj ((show Tryd.prog.funcNamed "keepsake/keepsakelaw11.SlotsPuts" = some 3 by kernel_rfl).symm.trans hf) |>.symm
      obtain rfl : fn = Tryd.f3 := (Option.some.inj (Tryd.func3.symm.trans hfn)).symm
      exact ⟨by kernel_rfl, fun j t ht => by
        rw [Tryd.params3] at ht
        have hm : t ∈ [3, 9, 9] := by simpa using Array.mem_of_getElem? ht
        have hall : ([3, 9, 9].all fun u => !Tryd.prog.wantsStandIn u) = true := by kernel_rfl
        exact (show Tryd.prog.wantsStandIn t = false by simpa using List.all_eq_true.1 hall t hm)⟩)
    (by kernel_rfl)
#print axioms proved
end Go.Proofs.YteinbhhocnjjoaaDoor.slotsPuts
