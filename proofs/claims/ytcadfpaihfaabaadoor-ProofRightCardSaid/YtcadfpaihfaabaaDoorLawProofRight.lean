/- ProofRight: at any leaves (at most 60, of at most 8,000 bytes of hashes; else: the chapter's example alone, as the statement has it) and any place: what is proved of the place is told by the leaves' root: its own hash, if it has a leaf, or that it has none. The condition: the rounds' numbers lie in the program's variable (the card ties it to the program's text). -/
import Derived.Test.YtcadfpaihfaabaaDoorPrgM
import Derived.Test.YtcadfpaihfaabaaDoorLPrgH
import Derived.Test.YtcadfpaihfaabaaDoorPrgAl
import Derived.Test.YtcadfpaihfaabaaDoorPrfF
import Derived.Test.YtcadfpaihfaabaaDoorLPrfA
import Derived.Test.YtcadfpaihfaabaaDoorRows
import Derived.Test.YtcadfpaihfaabaaDoorTie
import Derived.Test.YtcadfpaihfaabaaDoorCards
import Derived.Test.YtcadfpaihfaabaaDoorSLaid
import Derived.WalkKit
import Derived.ProofKit
import Derived.OpenShut
import Derived.ShutString
import Derived.ChangeOld
import Derived.Below
import Derived.LaidMore
import Derived.SevenTiedAt
import Derived.Stop.Joined
namespace Go.Proofs.YtcadfpaihfaabaaDoor.proofRight
open Go.ChangeShapes Go.WideShapes Go.ChangeAt Go.RowKit
open Go.ChangeMaps (open_string shut_string)
set_option linter.unusedVariables false
open STurn SSum PrfL PrfN PrfM PrfB PrfF PrgN PrgC PrgK PrgP PrgQ PrgR PrgV PrgW PrgM MerQ MerM MerC MerR
set_option maxRecDepth 100000 in
set_option maxHeartbeats 4000000 in
theorem out (b : Option Addr) (n c : Nat) (l : List Lf) (lba : Int) (w : World) (h : Lvs w b n l) (hr : Rds w) (hf : fewB l zeroRaw = false) :
    Calls Tryd.prog 3 #[.slice b n c, .int .i64 lba] w fun e w' => e = .returned (.bool true) ∧ Below w.heap.size w w' := by
  have HF := Lib.hid (Few b n c l zeroRaw w h ⟨rfl, fun h => absurd h (by decide)⟩ ⟨rfl, fun h => absurd h (by decide)⟩ (by decide) (by decide) fit_no fit_no)
  rw [hf] at HF
  dsimp only [zeroRaw, Raw.cells] at HF
  have HA := Lib.hid (fun W (hb : Below w.heap.size w W) => PrgAl.alive W (hr.step hb))
  clear h hr hf
  go_enter Tryd.func3, Tryd.ntmps3
  go_wp2_with (first
    | (go_at_call 5; refine HF.out.mono ?_; rintro e w1 ⟨rfl, hb⟩; have B1 := Lib.hid hb; clear hb)
    | (go_at_call 6; refine (HA.out _ B1.out).mono ?_; rintro e w2 ⟨rfl, hb⟩; have B2 := Lib.hid (B1.out.trans (hb.mono B1.out.size)); clear hb))
  go_ret
  exact ⟨rfl, B2.out⟩
set_option maxRecDepth 100000 in
set_option maxHeartbeats 4000000 in
theorem cannot (b : Option Addr) (n c : Nat) (l : List Lf) (lba : Int) (w : World) (h : Lvs w b n l) (hr : Rds w) (hf : fewB l zeroRaw = true) (hc : canB l lba = false) :
    Calls Tryd.prog 3 #[.slice b n c, .int .i64 lba] w fun e w' => e = .returned (.bool true) ∧ Below w.heap.size w w' := by
  have hn : n ≤ 100000 := by have := (few_in hf).1; rw [h.1] at this; omega
  have HF := Lib.hid (Few b n c l zeroRaw w h ⟨rfl, fun h => absurd h (by decide)⟩ ⟨rfl, fun h => absurd h (by decide)⟩ (by decide) (by decide) fit_no fit_no)
  rw [hf] at HF
  dsimp only [zeroRaw, Raw.cells] at HF
  have HA := Lib.hid (fun W (hb : Below w.heap.size w W) => PrgAl.alive W (hr.step hb))
  have HRo := Lib.hid (fun W (hb : Below w.heap.size w W) => Root b n c l W ⟨h.1, h.2.1, h.2.2.1, h.2.2.2.step hb⟩ hn (hr.step hb))
  have HP := Lib.hid (fun W (hb : Below w.heap.size w W) => Prove_no b n c l lba W ⟨h.1, h.2.1, h.2.2.1, h.2.2.2.step hb⟩ hn (hr.step hb) hc)
  clear h hr hf hc
  unfold rootP at HRo
  cases hri : right l
  · simp only [hri, Bool.false_eq_true, if_false] at HRo
    clear hri
    go_enter Tryd.func3, Tryd.ntmps3
    go_upto_region 5 with (first
      | (go_at_call 5; refine HF.out.mono ?_; rintro e w1 ⟨rfl, hb⟩; have B1 := Lib.hid hb; clear hb)
      | (go_at_call 7; refine (HRo.out _ B1.out).mono ?_; rintro e w2 ⟨rfl, hb⟩; have B2 := Lib.hid (B1.out.trans (hb.mono B1.out.size)); clear hb)
      | (go_at_call 8; refine (HP.out _ B2.out).mono ?_; rintro e w3 ⟨rfl, hb⟩; have B3 := Lib.hid (B2.out.trans (hb.mono B2.out.size)); clear hb)
      | (refine wpList_store_row rfl 29 _ _ rfl w3.heap.size zeroRaw.cells rfl rfl 29 _ (heap_alloc_new w3 _) infoP rfl (oneP _) ?_))
    generalize hW : World.setRow _ _ _ = W4
    have B4 := Lib.hid (B3.out.trans ((show Below w3.heap.size w3 W4 by rw [← hW]; exact kept_new w3 _ _ _).mono B3.out.size))
    clear hW
    go_wp2_with (go_at_call 6; refine (HA.out _ B4.out).mono ?_; rintro e w5 ⟨rfl, hb⟩; have B5 := Lib.hid (B4.out.trans (hb.mono B4.out.size)); clear hb)
    go_ret
    exact ⟨rfl, B5.out⟩
  · simp only [hri, if_true] at HRo
    clear hri
    generalize rt l = r at *
    go_enter Tryd.func3, Tryd.ntmps3
    go_upto_region 5 with (first
      | (go_at_call 5; refine HF.out.mono ?_; rintro e w1 ⟨rfl, hb⟩; have B1 := Lib.hid hb; clear hb)
      | (go_at_call 7; refine (HRo.out _ B1.out).mono ?_; rintro e w2 ⟨rfl, hb⟩; have B2 := Lib.hid (B1.out.trans (hb.mono B1.out.size)); clear hb)
      | (go_at_call 8; refine (HP.out _ B2.out).mono ?_; rintro e w3 ⟨rfl, hb⟩; have B3 := Lib.hid (B2.out.trans (hb.mono B2.out.size)); clear hb)
      | (refine wpList_store_row rfl 29 _ _ rfl w3.heap.size zeroRaw.cells rfl rfl 29 _ (heap_alloc_new w3 _) infoP rfl (oneP _) ?_))
    generalize hW : World.setRow _ _ _ = W4
    have B4 := Lib.hid (B3.out.trans ((show Below w3.heap.size w3 W4 by rw [← hW]; exact kept_new w3 _ _ _).mono B3.out.size))
    clear hW
    go_wp2_with (go_at_call 6; refine (HA.out _ B4.out).mono ?_; rintro e w5 ⟨rfl, hb⟩; have B5 := Lib.hid (B4.out.trans (hb.mono B4.out.size)); clear hb)
    go_ret
    exact ⟨rfl, B5.out⟩
set_option maxRecDepth 100000 in
set_option maxHeartbeats 8000000 in
theorem can (b : Option Addr) (n c : Nat) (l : List Lf) (lba : Int) (w : World) (h : Lvs w b n l) (hr : Rds w) (hf : fewB l zeroRaw = true) (hc : canB l lba = true) :
    Calls Tryd.prog 3 #[.slice b n c, .int .i64 lba] w fun e w' => e = .returned (.bool true) ∧ Below w.heap.size w w' := by
  have hln := h.1
  have hn : n ≤ 100000 := by have := (few_in hf).1; rw [h.1] at this; omega
  have HF := Lib.hid (Few b n c l zeroRaw w h ⟨rfl, fun h => absurd h (by decide)⟩ ⟨rfl, fun h => absurd h (by decide)⟩ (by decide) (by decide) fit_no fit_no)
  rw [hf] at HF
  dsimp only [zeroRaw, Raw.cells] at HF
  have HA := Lib.hid (fun W (hb : Below w.heap.size w W) => PrgAl.alive W (hr.step hb))
  have HRo := Lib.hid (fun W (hb : Below w.heap.size w W) => Root b n c l W ⟨h.1, h.2.1, h.2.2.1, h.2.2.2.step hb⟩ hn (hr.step hb))
  have HP := Lib.hid (fun W (hb : Below w.heap.size w W) => Prove_ok b n c l lba W ⟨h.1, h.2.1, h.2.2.1, h.2.2.2.step hb⟩ hn (hr.step hb) hc)
  obtain ⟨hri, hbi⟩ := can_in hc
  unfold rootP at HRo
  rw [hri] at HRo
  simp only [if_true] at HRo
  have HT := Lib.hid (fun x W (hb : Below w.heap.size w W) (ho : Okay W x) => Tells (rt l) (n : Int) lba x W ho (hr.step hb))
  have HTl : Hid (∀ x : Raw, pf x = prove l lba → tellsR (rt l) (n : Int) lba x = ((own l lba).1, (own l lba).2, 0)) := Lib.hid fun x hx => by
    unfold tellsR
    rw [hx, ← hln]
    exact proved hri hbi
  have HOk := Lib.hid (fun W x (hx : pf x = prove l lba) => prove_okay (B := w.heap.size) (W := W) (b := lba) (x := x) h.2.2.1 (by omega) hx)
  have HL := Lib.hid (fun W (hb : Below w.heap.size w W) => h.2.2.2.step hb)
  have HLast := Lib.hid (foldl_own l lba (right_rise hri))
  generalize prove l lba = pr at *
  generalize own l lba = ow at *
  generalize rt l = r at *
  obtain ⟨s, q⟩ := ow
  dsimp only at HTl
  clear h hr hf hc hri hbi
  go_enter Tryd.func3, Tryd.ntmps3
  go_upto_region 5 with (first
    | (go_at_call 5; refine HF.out.mono ?_; rintro e w1 ⟨rfl, hb⟩; have B1 := Lib.hid hb; clear hb)
    | (go_at_call 7; refine (HRo.out _ B1.out).mono ?_; rintro e w2 ⟨rfl, hb⟩; have B2 := Lib.hid (B1.out.trans (hb.mono B1.out.size)); clear hb)
    | (go_at_call 8; refine (HP.out _ B2.out).mono ?_; rintro e w3 ⟨x, rfl, hx, ho1, ho2, hb⟩; have HX := Lib.hid hx; have O1 := Lib.hid (PrgO.own_base ho1 B2.out.size); have O2 := Lib.hid (PrgO.own_base ho2 B2.out.size); have B3 := Lib.hid (B2.out.trans (hb.mono B2.out.size)); clear hb hx ho1 ho2)
    | (refine wpList_store_row rfl 29 _ _ rfl w3.heap.size x.cells rfl rfl 29 _ (heap_alloc_new w3 _) infoP rfl (oneP _) ?_))
  generalize hW : World.setRow _ _ _ = W4
  have b4 : Below w3.heap.size w3 W4 := by rw [← hW]; exact kept_new w3 _ _ _
  have G4 := Lib.hid (show W4.heap[w3.heap.size]? = some (.cells x.cells 29 (0, 0)) by rw [← hW]; exact has_new w3 _ _ _)
  have B4 := Lib.hid (B3.out.trans (b4.mono B3.out.size))
  have OK4 := Lib.hid (HOk.out W4 x HX.out (MerJ.own_later O1.out b4) (MerJ.own_later O2.out b4))
  have HT4 := Lib.hid (HT.out x W4 B4.out OK4.out)
  rw [HTl.out x HX.out] at HT4
  dsimp only at HT4
  clear hW b4 HF HRo HP HT HTl HOk O1 O2 OK4
  go_upto_region 9 with (first
    | (refine wpList_load_row rfl 29 _ rfl w3.heap.size rfl 29 _ (0, 0) _ G4.out Tryd.underlying29 rfl infoP ?_)
    | (go_at_call 9; refine HT4.out.mono ?_; rintro e w5 ⟨rfl, hb⟩; have B5 := Lib.hid (B4.out.trans (hb.mono B4.out.size)); clear hb))
  go_wp2_with fail
  clear HT4 G4 HX B4 B3 B2 B1
  go_loopw [12, 13, 51] (fun sv bv kv wr => ∃ k : Nat, k ≤ n ∧ kv = .int .i64 k ∧ sv = st (lastOf (l.take k) lba).1 ∧ bv = .bool (lastOf (l.take k) lba).2 ∧ Below w.heap.size w wr) (fun _ _ kv _ => n - (intOf kv).toNat)
  case atStart => exact ⟨0, Nat.zero_le _, rfl, rfl, rfl, B5.out⟩
  case round =>
    obtain ⟨k, hk, rfl, rfl, rfl, hb⟩ := hrel
    have HB := Lib.hid hb
    clear hb
    by_cases hlt : k < n
    · obtain ⟨g, o, rfl, hg, hc⟩ := (HL.out _ HB.out) (by omega)
      obtain ⟨c0, c1⟩ := hc k (by omega)
      have HN := Lib.hid (last_next lba (show k < l.length by omega))
      have q0 : (0 : Int) ≤ (k : Int) := by omega
      have q1 : (k : Int) < (n : Int) := by omega
      generalize lastOf (l.take k) lba = t0 at *
      generalize l.getD k no = y at *
      obtain ⟨y0, y1⟩ := y
      obtain ⟨t00, t01⟩ := t0
      dsimp only at c0 c1 HN ⊢
      clear hc hg
      go_upto_region 12 with (refine wpList_store_row rfl 25 _ _ rfl wr.heap.size _ rfl rfl 25 _ (heap_alloc_new wr _) infoL rfl (two y0 y1) ?_)
      generalize hW : World.setRow _ _ _ = W6
      have b6 : Below wr.heap.size wr W6 := by rw [← hW]; exact kept_new wr _ _ _
      have g6 : W6.heap[wr.heap.size]? = some (.cells #[.int .i64 y0, st y1] 25 (0, 0)) := by rw [← hW]; exact has_new wr _ _ _
      clear hW
      have k0 : W6.cell? ⟨wr.heap.size, 0, none⟩ = some (.int .i64 y0) := blk_cell g6 rfl
      have k1 : W6.cell? ⟨wr.heap.size, 1, none⟩ = some (st y1) := blk_cell g6 rfl
      have B6 := Lib.hid (HB.out.trans (b6.mono HB.out.size))
      clear b6 g6 c0 c1
      by_cases he : y0 = lba
      · have hee : (y0 == lba) = true := by rw [beq_iff_eq]; exact he
        have HN2 := Lib.hid (HN.out.trans (if_pos he))
        clear HN he
        go_wp2_with fail
        go_roundw
        case rel => exact ⟨k + 1, by omega, by go_num, by rw [HN2.out], by rw [HN2.out], B6.out⟩
        case measure => simp [intOf]; omega
      · have hee : (y0 == lba) = false := by rw [beq_eq_false_iff_ne]; exact he
        have HN2 := Lib.hid (HN.out.trans (if_neg he))
        clear HN he
        go_wp2_with fail
        go_roundw
        case rel => exact ⟨k + 1, by omega, by go_num, by rw [HN2.out], by rw [HN2.out], B6.out⟩
        case measure => simp [intOf]; omega
    · obtain rfl : k = n := by omega
      rw [List.take_of_length_le (by omega), HLast.out]
      dsimp only
      have e1 : (s == s) = true := by simp
      have e2 : (q == q) = true := by simp
      clear HLast
      go_wp2_with (go_at_call 6; refine (HA.out _ HB.out).mono ?_; rintro e w7 ⟨rfl, hb⟩; have B7 := Lib.hid (HB.out.trans (hb.mono HB.out.size)); clear hb)
      go_ret
      exact ⟨rfl, B7.out⟩
theorem walk (b : Option Addr) (n c : Nat) (l : List Lf) (lba : Int) (w : World) (w0 : Lvs w b n l) (w1 : (Lit.int .i64 lba).wf = true) (hr : Rds w) :
    Calls Tryd.prog 3 #[.slice b n c, .int .i64 lba] w fun e w' => e = .returned (.bool true) ∧ Below w.heap.size w w' := by
  cases hf : fewB l zeroRaw with
  | false => exact out b n c l lba w w0 hr hf
  | true =>
    cases hc : canB l lba with
    | false => exact cannot b n c l lba w w0 hr hf hc
    | true => exact can b n c l lba w w0 hr hf hc
theorem own : ownKnob Tryd.prog.godebug = none := by kernel_rfl
theorem laidOut : laidOutB Tryd.prog = true := by kernel_rfl
set_option maxRecDepth 100000 in
theorem lifted (os : Os) (started : os.Started) (H : Type) (enc : TypeId × Value → H) :
    ReturnsInHanded {} Tryd.checked os 3 .any (fun w args => (Rows.proofRightSpec.pre enc Tryd.prog Tryd.f3 Rows.proofRightRow.domain false w args ∧ laidMetH Tryd.prog Rows.proofRightRow.laid w) ∧ sizedMet enc Tryd.prog Tryd.f3 (OpenSpec.ofChange Rows.proofRightSpec) false w args) (Rows.proofRightSpec.post enc Tryd.prog Tryd.f3 false true false false) := by
  refine returnsInHanded_of_change_and (C := Tryd.checked) (X := fun w _ => laidMetH Tryd.prog Rows.proofRightRow.laid w) (fun _ _ _ hh h => h.of_heap hh) own started (by kernel_rfl) Tryd.func3
    (ChangeSpec.witness_shaped (enc := enc) (C := Tryd.checked) (os := os) (X := fun w _ => laidMetH Tryd.prog Rows.proofRightRow.laid w) false (World.doorLaid Tryd.prog 400 os) #[.slice none 0 0, .int .i64 0] 8 rfl (World.shaped_of_RefB (by kernel_rfl) (by kernel_rfl)) (by kernel_rfl) (by kernel_rfl) (by kernel_rfl) (SLaid.door_met os _)) ?_
  intro W base args ds gs before hval0 hW _ _ hL _
  have hr := SLaid.of_laid hL
  have hval : ∀ (j : Nat) t v, Tryd.f3.params[j]? = some t → args[j]? = some v → Value.okWide Tryd.prog W .any base t v := hval0
  have hW' := hW
  obtain ⟨p, q, hA0, hV, rfl, hfz, hnd⟩ := hW
  have hA : DataW.TrodAll enc Tryd.prog W 0 (fun _ => true) true Tryd.f3.params.toList args.toList ds p := hA0
  rw [Tryd.params3] at hA hval
  obtain ⟨v0, vs0, d0, ds0, p0, q0, hargs, rfl, rfl, h0, r0⟩ := trodAll_cons hA
  obtain ⟨v1, vs1, d1, ds1, p1, q1, rfl, rfl, rfl, h1, r1⟩ := trodAll_cons r0
  obtain ⟨rfl, rfl, rfl⟩ := trodAll_nil r1
  obtain rfl : args = #[v0, v1] := by cases args; simp_all
  obtain ⟨rfl, rfl⟩ := trodVars_none hV
  have k0 := h0
  have lt0 : ∀ x ∈ p0, x.block < W.heap.size := by obtain ⟨m, hm⟩ := k0; exact DataW.trod_lt m _ _ _ hm
  obtain ⟨b0, len0, ca0, rfl⟩ := okWide_slice Tryd.underlying22 (hval 0 22 v0 rfl rfl)
  obtain ⟨a0, n0, cap0, z0, he0, w0⟩ := PrfM.open_leaves h0
  simp only [Value.cells, List.cons.injEq, Value.slice.injEq, and_true] at he0
  obtain ⟨rfl, rfl, rfl⟩ := he0
  obtain ⟨a1, rfl, rfl, rfl, w1⟩ := open_int Tryd.underlying3 (hval 1 3 v1 rfl rfl) h1
  clear hA0 hval0
  refine (walk b0 len0 ca0 z0 a1 W w0 w1 hr).mono fun e W' ⟨he, bel⟩ => ?_
  subst he
  exact ⟨_, rfl, _, _, _, [], _, [], hW', trodAll_mk1 (shut_bool Tryd.underlying4 _), (trodAll_cons_mk (Below.trod laidOut (by kernel_rfl) (of_decide_eq_true (by kernel_rfl)) k0 bel lt0) (trodAll_cons_mk (shut_int Tryd.underlying3 w1) trodAll_mk0)), rfl, bel.frame _, fun h => by cases h⟩
theorem over : Rows.proofRightRow.holds Tryd.pinned (OpenSpec.ofChange Rows.proofRightSpec) :=
  OpenClaim.holds_of_wide 3 Tryd.f3 rfl rfl rfl rfl rfl rfl rfl ⟨rfl, rfl, rfl, rfl, rfl⟩ rfl rfl rfl rfl rfl (by kernel_rfl) Tryd.func3 (by kernel_rfl)
    (of_decide_eq_true (by kernel_rfl)) (by unfold Func.isWrapper; first | (rw [if_pos (by decide +kernel)]; kernel_rfl) | (rw [if_neg (by decide +kernel)]; exact ⟨rfl, rfl⟩))
    (fun os started H enc _ => lifted os started H enc)
/-- THE STATEMENT, proved. -/
theorem proved : Rows.ProofRightCardSaid :=
  Claim7.holds_tied_plain_at .later [] _ true _ false
    over (fun _ h => by cases h) (by kernel_rfl) (fun _ h => by cases h) proofRight_row_tie rfl ⟨rfl, rfl⟩ (by kernel_rfl) rfl
    (fun f fn hf hfn => by
      obtain rfl : f = 3 := Option.some.inj ((show Tryd.prog.funcNamed "keepsake/keepsakelaw16.ProofRight" = some 3 by kernel_rfl).symm.trans hf) |>.symm
      obtain rfl : fn = Tryd.f3 := (Option.some.inj (Tryd.func3.symm.trans hfn)).symm
      exact ⟨by kernel_rfl, fun j t ht => by
        rw [Tryd.params3] at ht
        have hm : t ∈ [22, 3] := by simpa using Array.mem_of_getElem? ht
        have hall : ([22, 3].all fun u => !Tryd.prog.wantsStandIn u) = true := by kernel_rfl
        exact (show Tryd.prog.wantsStandIn t = false by simpa using List.all_eq_true.1 hall t hm)⟩)
    (by kernel_rfl)
#print axioms proved
end Go.Proofs.YtcadfpaihfaabaaDoor.proofRight
