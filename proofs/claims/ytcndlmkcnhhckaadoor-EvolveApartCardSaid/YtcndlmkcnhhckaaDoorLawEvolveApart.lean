/- EvolveApart: at any text of 32 bytes (else: the chapter's example alone, as the statement has it), where what is made of a key for two purposes is the same, two unlike texts with one sum are told; else none. The condition: the rounds' numbers lie in the program's variable (the card ties it to the program's text). -/
import Derived.Test.YtcndlmkcnhhckaaDoorEvoR
import Derived.Test.YtcndlmkcnhhckaaDoorEvoY
import Derived.Test.YtcndlmkcnhhckaaDoorHClash
import Derived.Deep.QuietTactic
import Derived.BigQuiet
import Derived.Test.YtcndlmkcnhhckaaDoorRows
import Derived.Test.YtcndlmkcnhhckaaDoorTie
import Derived.Test.YtcndlmkcnhhckaaDoorCards
import Derived.Test.YtcndlmkcnhhckaaDoorSLaid
import Derived.WalkKit
import Derived.ProofKit
import Derived.OpenShut
import Derived.ShutString
import Derived.ChangeOld
import Derived.Below
import Derived.LaidMore
import Derived.SevenTiedAt
import Derived.Stop.Joined
namespace Go.Proofs.YtcndlmkcnhhckaaDoor.evolveApart
open Go.ChangeShapes Go.WideShapes Go.ChangeAt Go.RowKit
open Go.ChangeMaps (open_string shut_string)
set_option linter.unusedVariables false
open STurn EvoN EvoR
theorem clash_flag (k s t : List UInt8) (h : s ≠ t) : (HClash.clashOf k s k t).2.2 = decide (macOf k s = macOf k t) := by
  unfold HClash.clashOf HCla.found
  by_cases e1 : macOf k s = macOf k t
  · rw [if_pos ⟨e1, fun hh => h hh.2⟩, decide_eq_true e1]
    split <;> rfl
  · rw [if_neg (fun hh => e1 hh.1), decide_eq_false e1]
/-- What is made of a key by the label of this number. -/
def tg (k : List UInt8) (i : Nat) : List UInt8 := macOf k (saidOf (lab i) [])
/-- The labels' row and the row of what is made, while the statement runs. -/
structure St (k : List UInt8) (w : World) (L M : Nat) (wr : World) : Prop where
  la : wr.heap[L]? = some (.cells #[.string ⟨#[110, 101, 120, 116]⟩, .string ⟨#[109, 97, 99]⟩, .string ⟨#[97, 115, 107]⟩] 9 (0, 0))
  ma : wr.heap[M]? = some (.cells #[.string ⟨(tg k 0).toArray⟩, .string ⟨(tg k 1).toArray⟩, .string ⟨(tg k 2).toArray⟩] 9 (0, 0))
  rd : Rds wr
  be : Below w.heap.size w wr
theorem St.step {k : List UInt8} {w : World} {L M : Nat} {wr w' : World} (h : St k w L M wr) (hb : Below wr.heap.size wr w') : St k w L M w' :=
  ⟨(hb.block _ (Array.getElem?_eq_some_iff.1 h.la).1).trans h.la, (hb.block _ (Array.getElem?_eq_some_iff.1 h.ma).1).trans h.ma, h.rd.step hb, h.be.trans (hb.mono h.be.size)⟩
theorem St.lab {k : List UInt8} {w : World} {L M : Nat} {wr : World} (h : St k w L M wr) {i : Nat} (hi : i < 3) : wr.cell? ⟨L, i, none⟩ = some (.string ⟨(lab i).toArray⟩) := by
  match i, hi with
  | 0, _ => exact blk_cell h.la rfl
  | 1, _ => exact blk_cell h.la rfl
  | 2, _ => exact blk_cell h.la rfl
theorem St.tag {k : List UInt8} {w : World} {L M : Nat} {wr : World} (h : St k w L M wr) {i : Nat} (hi : i < 3) : wr.cell? ⟨M, i, none⟩ = some (.string ⟨(tg k i).toArray⟩) := by
  match i, hi with
  | 0, _ => exact blk_cell h.ma rfl
  | 1, _ => exact blk_cell h.ma rfl
  | 2, _ => exact blk_cell h.ma rfl
set_option maxRecDepth 100000 in
theorem long (k : ByteArray) (w : World) (hr : Rds w) (h : ((k.size : Int) != 32) = true) :
    Calls Tryd.prog 6 #[.string k] w fun r w' => r = .returned (.bool true) ∧ Below w.heap.size w w' := by
  have HA := Lib.hid (EvoY.alive w hr)
  clear hr
  go_enter Tryd.func6, Tryd.ntmps6
  go_wp2_with (go_at_call 7; refine HA.out.mono ?_; rintro r w1 ⟨rfl, hb1⟩)
  go_ret
  exact ⟨rfl, hb1⟩
set_option maxRecDepth 100000 in
set_option maxHeartbeats 2000000 in
theorem near_ (k : List UInt8) (w : World) (hr : Rds w) (hk : k.length = 32) :
    Calls Tryd.prog 6 #[.string ⟨k.toArray⟩] w fun r w' => r = .returned (.bool true) ∧ Below w.heap.size w w' := by
  have hq := ne32 hk
  have P1 := Lib.hid (fun W hr => EvoP.Next k W hr)
  have P2 := Lib.hid (fun W hr => EvoP.Mac k W hr)
  have P3 := Lib.hid (fun W hr => EvoP.Ask k W hr)
  rw [made_good hk ok_next] at P1
  rw [made_good hk ok_mac] at P2
  rw [made_good hk ok_ask] at P3
  rw [show macOf k (saidOf lNext []) = tg k 0 from rfl] at P1
  rw [show macOf k (saidOf lMac []) = tg k 1 from rfl] at P2
  rw [show macOf k (saidOf lAsk []) = tg k 2 from rfl] at P3
  have PS : Hid (∀ (i : Nat) (W : World), Calls Tryd.prog 18 #[.string ⟨(lab i).toArray⟩, .slice none 0 0] W fun e w' => e = .returned (.tuple #[.string ⟨(saidOf (lab i) []).toArray⟩, .int .i64 0]) ∧ Below W.heap.size W w') := Lib.hid (fun i W => by
    have := DRSaid.any (lab i) none 0 0 [] W (EvoP.row0 W) (by simp)
    rw [said_good (ok_lab i)] at this
    exact this)
  have PC : Hid (∀ (i j : Nat) (W : World), i < 3 → j < i → Rds W → ∃ y z : List UInt8, Calls Tryd.prog 19 #[.string ⟨k.toArray⟩, .string ⟨(saidOf (lab i) []).toArray⟩, .string ⟨k.toArray⟩, .string ⟨(saidOf (lab j) []).toArray⟩] W fun e w' => e = .returned (.tuple #[.string ⟨y.toArray⟩, .string ⟨z.toArray⟩, .bool (decide (tg k i = tg k j))]) ∧ Below W.heap.size W w') := Lib.hid (fun i j W hi hj hr => by
    have h1 := said_le (lab i) [] (ok_lab i)
    have h2 := said_le (lab j) [] (ok_lab j)
    have := HClash.Clash k (saidOf (lab i) []) k (saidOf (lab j) []) W hr (by omega) (by omega) (by omega) (by omega)
    rw [clash_flag k _ _ (lab_apart hi hj)] at this
    exact ⟨_, _, this⟩)
  obtain ⟨wA, hA⟩ : ∃ wA, wA = w.alloc (.cells #[.string ⟨#[110, 101, 120, 116]⟩, .string ⟨#[109, 97, 99]⟩, .string ⟨#[97, 115, 107]⟩] 9) := ⟨_, rfl⟩
  have HBA : Hid (Below w.heap.size w wA) := by rw [hA]; exact (Below.refl _ _).alloc (Nat.le_refl _) _
  have HLA : Hid (wA.heap[w.heap.size]? = some (.cells #[.string ⟨#[110, 101, 120, 116]⟩, .string ⟨#[109, 97, 99]⟩, .string ⟨#[97, 115, 107]⟩] 9 (0, 0))) := by rw [hA]; exact heap_alloc_new w _
  have hsA : w.heap.size < wA.heap.size := (Array.getElem?_eq_some_iff.1 HLA.out).1
  have HR := Lib.hid (hr.step HBA.out)
  clear hr hk
  go_enter Tryd.func6, Tryd.ntmps6
  go_wp2_with fail
  rw [← hA]
  clear hA
  refine (P1.out _ HR.out).mono ?_
  rintro e w1 ⟨rfl, hb1⟩
  have HB1 := Lib.hid (HBA.out.trans (hb1.mono HBA.out.size))
  have HL1 := Lib.hid ((hb1.block _ hsA).trans HLA.out)
  have HR1 := Lib.hid (HR.out.step hb1)
  have hs1 : w.heap.size < w1.heap.size := Nat.lt_of_lt_of_le hsA hb1.size
  clear hb1 hsA HLA HR
  go_wp2_with fail
  refine (P2.out _ HR1.out).mono ?_
  rintro e w2 ⟨rfl, hb2⟩
  have HB2 := Lib.hid (HB1.out.trans (hb2.mono HB1.out.size))
  have HL2 := Lib.hid ((hb2.block _ hs1).trans HL1.out)
  have HR2 := Lib.hid (HR1.out.step hb2)
  have hs2 : w.heap.size < w2.heap.size := Nat.lt_of_lt_of_le hs1 hb2.size
  clear hb2 hs1 HL1 HR1 HB1
  go_wp2_with fail
  refine (P3.out _ HR2.out).mono ?_
  rintro e w3 ⟨rfl, hb3⟩
  have HB3 := Lib.hid (HB2.out.trans (hb3.mono HB2.out.size))
  have HL3 := Lib.hid ((hb3.block _ hs2).trans HL2.out)
  have HR3 := Lib.hid (HR2.out.step hb3)
  have hs3 : w.heap.size < w3.heap.size := Nat.lt_of_lt_of_le hs2 hb3.size
  clear hb3 hs2 HL2 HR2 HB2
  have HS0 : Hid (St k w w.heap.size w3.heap.size (w3.alloc (.cells #[.string ⟨(tg k 0).toArray⟩, .string ⟨(tg k 1).toArray⟩, .string ⟨(tg k 2).toArray⟩] 9))) := Lib.hid
    ⟨(heap_alloc_old w3 _ hs3).trans HL3.out, heap_alloc_new w3 _, HR3.out.step ((Below.refl _ _).alloc (Nat.le_refl _) _), HB3.out.alloc HB3.out.size _⟩
  obtain ⟨M, hM⟩ : ∃ M, M = w3.heap.size := ⟨_, rfl⟩
  rw [← hM] at HS0
  clear HR3 HL3 HB3 hs3
  go_wp2_with fail
  rw [← hM]
  clear hM
  go_loopw [46] (fun i wr => ∃ p : Nat, p ≤ 3 ∧ i = .int .i64 p ∧ St k w w.heap.size M wr) (fun i _ => 3 - (intOf i).toNat)
  case atStart => exact ⟨0, by omega, rfl, HS0.out⟩
  case round =>
    obtain ⟨p, hp, rfl, hst⟩ := hrel
    have HS := Lib.hid hst
    clear hst
    obtain ⟨w0, hw0⟩ : ∃ w0 : World, w0 = wr := ⟨_, rfl⟩
    subst hw0
    by_cases hlt : p < 3
    · have hpl : (p : Int) < 3 := by omega
      go_wp2_with fail
      go_loopw [50] (fun q wv => ∃ j : Nat, j ≤ p ∧ q = .int .i64 j ∧ St k w w.heap.size M wv) (fun q _ => p - (intOf q).toNat)
      case atStart => exact ⟨0, Nat.zero_le _, rfl, HS.out⟩
      case round =>
        obtain ⟨j, hj, rfl, hst⟩ := hrel
        have S1 := Lib.hid hst
        clear hst
        by_cases hjp : j < p
        · have hjl : (j : Int) < (p : Int) := by omega
          have hj3 : (j : Int) < 3 := by omega
          have c1 := S1.out.lab hlt
          have HQ1 := Lib.hid (PS.out p)
          have HQ2 := Lib.hid (PS.out j)
          have HQC := Lib.hid (fun W => PC.out p j W hlt hjp)
          have HT1 : Hid (∀ W : World, St k w w.heap.size M W → W.cell? ⟨w.heap.size, j, none⟩ = some (.string ⟨(lab j).toArray⟩)) := Lib.hid (fun W h => h.lab (by omega))
          have HT2 : Hid (∀ W : World, St k w w.heap.size M W → W.cell? ⟨M, p, none⟩ = some (.string ⟨(tg k p).toArray⟩)) := Lib.hid (fun W h => h.tag (by omega))
          have HT3 : Hid (∀ W : World, St k w w.heap.size M W → W.cell? ⟨M, j, none⟩ = some (.string ⟨(tg k j).toArray⟩)) := Lib.hid (fun W h => h.tag (by omega))
          generalize tg k p = x1 at *
          generalize tg k j = x2 at *
          generalize saidOf (lab p) [] = s1 at *
          generalize saidOf (lab j) [] = s2 at *
          generalize lab p = l1 at *
          generalize lab j = l2 at *
          clear PS PC P1 P2 P3 HS0 HS
          go_wp2_with fail
          refine (HQ1.out _).mono ?_
          rintro e w4 ⟨rfl, hb4⟩
          have S2 := Lib.hid (S1.out.step hb4)
          have c2 := HT1.out _ S2.out
          clear hb4 c1
          go_wp2_with fail
          refine (HQ2.out _).mono ?_
          rintro e w5 ⟨rfl, hb5⟩
          have S3 := Lib.hid (S2.out.step hb5)
          clear hb5 c2
          go_wp2_with fail
          obtain ⟨y, z, hcl⟩ := HQC.out _ S3.out.rd
          refine hcl.mono ?_
          rintro e w6 ⟨rfl, hb6⟩
          have S4 := Lib.hid (S3.out.step hb6)
          have c3 := HT2.out _ S4.out
          have c4 := HT3.out _ S4.out
          clear hb6 hcl HQ1 HQ2 HQC
          by_cases hx : x1 = x2
          · subst hx
            rw [decide_eq_true rfl]
            go_wp2_with fail
            go_quiet (fail)
            go_wp2
            go_roundw
            case rel => exact ⟨j + 1, by omega, by go_num, S4.out.step (below_drewN _ _)⟩
            case measure => simp [intOf]; omega
          · rw [decide_eq_false hx]
            have hx2 : (x1 == x2) = false := beq_eq_false_iff_ne.2 hx
            clear hx
            go_wp2_with fail
            go_quiet (fail)
            go_wp2
            go_roundw
            case rel => exact ⟨j + 1, by omega, by go_num, S4.out.step (below_drewN _ _)⟩
            case measure => simp [intOf]; omega
        · obtain rfl : j = p := by omega
          have hjl : ¬ (j : Int) < (j : Int) := by omega
          go_wp2
          go_roundw
          case rel => exact ⟨j + 1, by omega, by go_num, S1.out⟩
          case measure => simp [intOf]; omega
    · obtain rfl : p = 3 := by omega
      rw [show ((3 : Nat) : Int) = 3 from rfl]
      go_wp2_with (go_at_call 7; refine (EvoY.alive _ HS.out.rd).mono ?_; rintro r w4 ⟨rfl, hb4⟩; have S2 := Lib.hid (HS.out.step hb4); clear hb4)
      go_ret
      exact ⟨rfl, S2.out.be⟩
theorem walk (k : ByteArray) (w : World) (w0 : k.size ≤ maxLen) (hr : Rds w) :
    Calls Tryd.prog 6 #[.string k] w fun r w' => r = .returned (.bool true) ∧ Below w.heap.size w w' := by
  by_cases h : k.data.toList.length = 32
  · exact near_ k.data.toList w hr h
  · exact long k w hr (is32 (l := k.data.toList) h)
theorem own : ownKnob Tryd.prog.godebug = none := by kernel_rfl
theorem laidOut : laidOutB Tryd.prog = true := by kernel_rfl
set_option maxRecDepth 100000 in
theorem lifted (os : Os) (started : os.Started) (H : Type) (enc : TypeId × Value → H) :
    ReturnsInHanded {} Tryd.checked os 6 .any (fun w args => (Rows.evolveApartSpec.pre enc Tryd.prog Tryd.f6 Rows.evolveApartRow.domain false w args ∧ laidMetH Tryd.prog Rows.evolveApartRow.laid w) ∧ sizedMet enc Tryd.prog Tryd.f6 (OpenSpec.ofChange Rows.evolveApartSpec) false w args) (Rows.evolveApartSpec.post enc Tryd.prog Tryd.f6 false true false false) := by
  refine returnsInHanded_of_change_and (C := Tryd.checked) (X := fun w _ => laidMetH Tryd.prog Rows.evolveApartRow.laid w) (fun _ _ _ hh h => h.of_heap hh) own started (by kernel_rfl) Tryd.func6
    (ChangeSpec.witness_shaped (enc := enc) (C := Tryd.checked) (os := os) (X := fun w _ => laidMetH Tryd.prog Rows.evolveApartRow.laid w) false (World.doorLaid Tryd.prog 400 os) #[.string ByteArray.empty] 8 rfl (World.shaped_of_RefB (by kernel_rfl) (by kernel_rfl)) (by kernel_rfl) (by kernel_rfl) (by kernel_rfl) (SLaid.door_met os _)) ?_
  intro W base args ds gs before hval0 hW _ hZ hL _
  have hr := SLaid.of_laid hL
  have hval : ∀ (j : Nat) t v, Tryd.f6.params[j]? = some t → args[j]? = some v → Value.okWide Tryd.prog W .any base t v := hval0
  have hW' := hW
  obtain ⟨p, q, hA0, hV, rfl, hfz, hnd⟩ := hW
  have hA : DataW.TrodAll enc Tryd.prog W 0 (fun _ => true) true Tryd.f6.params.toList args.toList ds p := hA0
  rw [Tryd.params6] at hA hval
  obtain ⟨v0, vs0, d0, ds0, p0, q0, hargs, rfl, rfl, h0, r0⟩ := trodAll_cons hA
  obtain ⟨rfl, rfl, rfl⟩ := trodAll_nil r0
  obtain rfl : args = #[v0] := by cases args; simp_all
  obtain ⟨rfl, rfl⟩ := trodVars_none hV
  obtain ⟨a0, rfl, rfl, rfl, w0⟩ := open_string Tryd.underlying9 (hval 0 9 v0 rfl rfl) h0
  clear hA0 hval0
  refine (walk a0 W w0 hr).mono fun e W' ⟨he, bel⟩ => ?_
  subst he
  exact ⟨_, rfl, _, _, _, [], _, [], hW', trodAll_mk1 (shut_bool Tryd.underlying4 _), (trodAll_cons_mk (shut_string Tryd.underlying9 w0) trodAll_mk0), rfl, bel.frame _, fun h => by cases h⟩
theorem over : Rows.evolveApartRow.holds Tryd.pinned (OpenSpec.ofChange Rows.evolveApartSpec) :=
  OpenClaim.holds_of_wide 6 Tryd.f6 rfl rfl rfl rfl rfl rfl rfl ⟨rfl, rfl, rfl, rfl, rfl⟩ rfl rfl rfl rfl rfl (by kernel_rfl) Tryd.func6 (by kernel_rfl)
    (of_decide_eq_true (by kernel_rfl)) (by unfold Func.isWrapper; first | (rw [if_pos (by decide +kernel)]; kernel_rfl) | (rw [if_neg (by decide +kernel)]; exact ⟨rfl, rfl⟩))
    (fun os started H enc _ => lifted os started H enc)
/-- THE STATEMENT, proved. -/
theorem proved : Rows.EvolveApartCardSaid :=
  Claim7.holds_tied_plain_at .later [] _ true _ false
    over (fun _ h => by cases h) (by kernel_rfl) (fun _ h => by cases h) evolveApart_row_tie rfl ⟨rfl, rfl⟩ (by kernel_rfl) rfl
    (fun f fn hf hfn => by
      obtain rfl : f = 6 := Option.some.inj ((show Tryd.prog.funcNamed "keepsake/keepsakelaw18.EvolveApart" = some 6 by kernel_rfl).symm.trans hf) |>.symm
      obtain rfl : fn = Tryd.f6 := (Option.some.inj (Tryd.func6.symm.trans hfn)).symm
      exact ⟨by kernel_rfl, fun j t ht => by
        rw [Tryd.params6] at ht
        have hm : t ∈ [9] := by simpa using Array.mem_of_getElem? ht
        have hall : ([9].all fun u => !Tryd.prog.wantsStandIn u) = true := by kernel_rfl
        exact (show Tryd.prog.wantsStandIn t = false by simpa using List.all_eq_true.1 hall t hm)⟩)
    (by kernel_rfl)
#print axioms proved
end Go.Proofs.YtcndlmkcnhhckaaDoor.evolveApart
