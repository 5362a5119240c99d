/- ProofSound: at any leaves (at most 60), any place and any proof (at most 30 hashes of a path; at most 8,000 bytes in all; else: the chapter's example alone, as the statement has it): where the proof tells, by the leaves' root, something else of the place than the leaves do, two unlike texts are told that have one sum; else none. The condition: the rounds' numbers lie in the program's variable (the card ties it to the program's text). -/
import Derived.Test.YtcadfpaihfaabaaDoorPrgMs
import Derived.Test.YtcadfpaihfaabaaDoorLPrgH
import Derived.Test.YtcadfpaihfaabaaDoorPrgAl
import Derived.Test.YtcadfpaihfaabaaDoorLPrfA
import Derived.Test.YtcadfpaihfaabaaDoorRows
import Derived.Test.YtcadfpaihfaabaaDoorTie
import Derived.Test.YtcadfpaihfaabaaDoorCards
import Derived.Test.YtcadfpaihfaabaaDoorSLaid
import Derived.WalkKit
import Derived.ProofKit
import Derived.OpenShut
import Derived.ShutString
import Derived.ChangeOld
import Derived.Below
import Derived.LaidMore
import Derived.SevenTiedAt
import Derived.Stop.Joined
namespace Go.Proofs.YtcadfpaihfaabaaDoor.proofSound
open Go.ChangeShapes Go.WideShapes Go.ChangeAt Go.RowKit
open Go.ChangeMaps (open_string shut_string)
set_option linter.unusedVariables false
open STurn SSum PrfL PrfN PrfM PrfB PrfF PrgN PrgC PrgK PrgP PrgQ PrgR PrgV PrgW PrgM PrgMs PrgX PrgY PrgZ MerQ MerM MerC MerR
theorem few_raw (b : Option Addr) (n c : Nat) (l : List Lf) (x : Raw) (w : World) (h : Lvs w b n l) (hx : RawOk w x) :
    Calls Tryd.prog 5 #[.slice b n c, .agg x.cells] w fun e w' => e = .returned (.bool (fewB l x)) ∧ Below w.heap.size w w' := by
  obtain ⟨h1, h2, ⟨h3, _, h5⟩, ⟨h6, _, h8⟩, _, _⟩ := hx
  exact Few b n c l x w h h3 h6 h5 h8 h1 h2
set_option maxRecDepth 100000 in
set_option maxHeartbeats 4000000 in
theorem out (b : Option Addr) (n c : Nat) (l : List Lf) (lba : Int) (x : Raw) (w : World) (h : Lvs w b n l) (hx : RawOk w x) (hr : Rds w) (hf : fewB l x = false) :
    Calls Tryd.prog 4 #[.slice b n c, .int .i64 lba, .agg x.cells] w fun e w' => e = .returned (.bool true) ∧ Below w.heap.size w w' := by
  obtain ⟨W1, hW1⟩ : ∃ W1, W1 = w.alloc (.cells x.cells 29) := ⟨_, rfl⟩
  have b1 : Below w.heap.size w W1 := by rw [hW1]; exact below_new w _
  have BX := Lib.hid (show PrgC.BoxP w.heap.size x W1 by rw [hW1]; exact boxp_new w x)
  have B0 := Lib.hid b1
  have HF := Lib.hid (few_raw b n c l x W1 ⟨h.1, h.2.1, h.2.2.1, h.2.2.2.step b1⟩ ⟨hx.1, hx.2.1, ⟨(hx.2.2.1.1.below b1).more b1.size, hx.2.2.1.2⟩, ⟨(hx.2.2.2.1.1.below b1).more b1.size, hx.2.2.2.1.2⟩, hx.2.2.2.2⟩)
  rw [hf] at HF
  have HA := Lib.hid (fun W (hb : Below w.heap.size w W) => PrgAl.alive W (hr.step hb))
  clear h hx hr hf b1
  go_enter Tryd.func4, Tryd.ntmps4
  go_upto_region 1 with (fail)
  rw [← hW1]
  clear hW1
  go_wp2_with (first
    | (refine wpList_load_row rfl 29 _ rfl w.heap.size rfl 29 _ (0, 0) _ BX.out Tryd.underlying29 rfl infoP ?_)
    | (go_at_call 5; refine HF.out.mono ?_; rintro e w1 ⟨rfl, hb⟩; have B1 := Lib.hid (B0.out.trans (hb.mono B0.out.size)); clear hb)
    | (go_at_call 6; refine (HA.out _ B1.out).mono ?_; rintro e w2 ⟨rfl, hb⟩; have B2 := Lib.hid (B1.out.trans (hb.mono B1.out.size)); clear hb))
  go_ret
  exact ⟨rfl, B2.out⟩
set_option maxRecDepth 100000 in
set_option maxHeartbeats 8000000 in
theorem bad (b : Option Addr) (n c : Nat) (l : List Lf) (lba : Int) (x : Raw) (w : World) (h : Lvs w b n l) (hx : RawOk w x) (hr : Rds w) (hf : fewB l x = true) (hri : right l = false) :
    Calls Tryd.prog 4 #[.slice b n c, .int .i64 lba, .agg x.cells] w fun e w' => e = .returned (.bool true) ∧ Below w.heap.size w w' := by
  have hln := h.1
  have hn : n ≤ 100000 := by have := (few_in hf).1; rw [h.1] at this; omega
  have hox := raw_okay hx hf
  obtain ⟨W1, hW1⟩ : ∃ W1, W1 = w.alloc (.cells x.cells 29) := ⟨_, rfl⟩
  have b1 : Below w.heap.size w W1 := by rw [hW1]; exact below_new w _
  have BX := Lib.hid (show PrgC.BoxP w.heap.size x W1 by rw [hW1]; exact boxp_new w x)
  have B0 := Lib.hid b1
  have HF := Lib.hid (few_raw b n c l x W1 ⟨h.1, h.2.1, h.2.2.1, h.2.2.2.step b1⟩ ⟨hx.1, hx.2.1, ⟨(hx.2.2.1.1.below b1).more b1.size, hx.2.2.1.2⟩, ⟨(hx.2.2.2.1.1.below b1).more b1.size, hx.2.2.2.1.2⟩, hx.2.2.2.2⟩)
  rw [hf] at HF
  have HA := Lib.hid (fun W (hb : Below w.heap.size w W) => PrgAl.alive W (hr.step hb))
  have HCl := Lib.hid (fun W (hb : Below w.heap.size w W) => Clash b n c l lba x W ⟨h.1, h.2.1, h.2.2.1, h.2.2.2.step hb⟩ hn (hox.step hb) (hr.step hb))
  have HRo := Lib.hid (fun W (hb : Below w.heap.size w W) => Root b n c l W ⟨h.1, h.2.1, h.2.2.1, h.2.2.2.step hb⟩ hn (hr.step hb))
  have HT := Lib.hid (fun r W (hb : Below w.heap.size w W) => Tells r (n : Int) lba x W (hox.step hb) (hr.step hb))
  have HL := Lib.hid (fun W (hb : Below w.heap.size w W) => h.2.2.2.step hb)
  have HSm := Lib.hid (fun u W (hu : u.length ≤ 1000) (hb : Below w.heap.size w W) => summed_one u (by omega) W (hr.step hb))
  unfold rootP at HRo
  unfold ClashAns at HCl
  rw [show elseB l lba (pf x) = false by unfold elseB canB; rw [hri]; rfl] at HCl
  simp only [hri, Bool.false_eq_true, if_false] at HRo HCl
  clear hri
  replace HT := Lib.hid (HT.out [])
  generalize tellsR [] (n : Int) lba x = t at *
  obtain ⟨t0, t1, t2⟩ := t
  dsimp only at HT
  generalize ((t2 : Nat) : Int) = z at *
  clear h hx hr hf b1 hox
  have F1 : Hid True := Lib.hid trivial
  go_enter Tryd.func4, Tryd.ntmps4
  go_upto_region 1 with (fail)
  rw [← hW1]
  clear hW1
  go_upto_region 6 with (first
    | (refine wpList_load_row rfl 29 _ rfl w.heap.size rfl 29 _ (0, 0) _ BX.out Tryd.underlying29 rfl infoP ?_)
    | (go_at_call 5; refine HF.out.mono ?_; rintro e w1 ⟨rfl, hb⟩; have B1 := Lib.hid (B0.out.trans (hb.mono B0.out.size)); replace BX := Lib.hid ((show PrgC.BoxP w.heap.size x _ from BX.out).step hb); clear hb)
    | (go_at_call 10; refine (HCl.out _ B1.out).mono ?_; rintro e w2 ⟨rfl, hb⟩; have B2 := Lib.hid (B1.out.trans (hb.mono B1.out.size)); replace BX := Lib.hid ((show PrgC.BoxP w.heap.size x _ from BX.out).step hb); clear hb)
    | (go_at_call 7; refine (HRo.out _ B2.out).mono ?_; rintro e w3 ⟨rfl, hb⟩; have B3 := Lib.hid (B2.out.trans (hb.mono B2.out.size)); replace BX := Lib.hid ((show PrgC.BoxP w.heap.size x _ from BX.out).step hb); clear hb)
    | (go_at_call 9; refine (HT.out _ B3.out).mono ?_; rintro e w4 ⟨rfl, hb⟩; have B4 := Lib.hid (B3.out.trans (hb.mono B3.out.size)); clear hb))
  clear HF HCl HRo HT BX B0 B1 B2 B3
  go_upto_region 8 with (fail)
  go_wp2_with fail
  go_loopw [15, 16, 49] (fun sv bv kv wr => ∃ k : Nat, k ≤ n ∧ kv = .int .i64 k ∧ sv = st (lastOf (l.take k) lba).1 ∧ bv = .bool (lastOf (l.take k) lba).2 ∧ Below w.heap.size w wr) (fun _ _ kv _ => n - (intOf kv).toNat)
  case atStart => exact ⟨0, Nat.zero_le _, rfl, rfl, rfl, B4.out⟩
  case round =>
    obtain ⟨k, hk, rfl, rfl, rfl, hb⟩ := hrel
    have HB := Lib.hid hb
    clear hb
    by_cases hlt : k < n
    · obtain ⟨g, o, rfl, hg, hc⟩ := (HL.out _ HB.out) (by omega)
      obtain ⟨c0, c1⟩ := hc k (by omega)
      have HN := Lib.hid (last_next lba (show k < l.length by omega))
      have q0 : (0 : Int) ≤ (k : Int) := by omega
      have q1 : (k : Int) < (n : Int) := by omega
      generalize lastOf (l.take k) lba = t0 at *
      generalize l.getD k no = y at *
      obtain ⟨y0, y1⟩ := y
      obtain ⟨t00, t01⟩ := t0
      dsimp only at c0 c1 HN ⊢
      clear hc hg
      go_upto_region 10 with (refine wpList_store_row rfl 25 _ _ rfl wr.heap.size _ rfl rfl 25 _ (heap_alloc_new wr _) infoL rfl (two y0 y1) ?_)
      generalize hW : World.setRow _ _ _ = W6
      have b6 : Below wr.heap.size wr W6 := by rw [← hW]; exact kept_new wr _ _ _
      have g6 : W6.heap[wr.heap.size]? = some (.cells #[.int .i64 y0, st y1] 25 (0, 0)) := by rw [← hW]; exact has_new wr _ _ _
      clear hW
      have k0 : W6.cell? ⟨wr.heap.size, 0, none⟩ = some (.int .i64 y0) := blk_cell g6 rfl
      have k1 : W6.cell? ⟨wr.heap.size, 1, none⟩ = some (st y1) := blk_cell g6 rfl
      have B6 := Lib.hid (HB.out.trans (b6.mono HB.out.size))
      clear b6 g6 c0 c1
      by_cases he : y0 = lba
      · have hee : (y0 == lba) = true := by rw [beq_iff_eq]; exact he
        have HN2 := Lib.hid (HN.out.trans (if_pos he))
        clear HN he
        go_wp2_with fail
        go_roundw
        case rel => exact ⟨k + 1, by omega, by go_num, by rw [HN2.out], by rw [HN2.out], B6.out⟩
        case measure => simp [intOf]; omega
      · have hee : (y0 == lba) = false := by rw [beq_eq_false_iff_ne]; exact he
        have HN2 := Lib.hid (HN.out.trans (if_neg he))
        clear HN he
        go_wp2_with fail
        go_roundw
        case rel => exact ⟨k + 1, by omega, by go_num, by rw [HN2.out], by rw [HN2.out], B6.out⟩
        case measure => simp [intOf]; omega
    · obtain rfl : k = n := by omega
      rw [List.take_of_length_le (by omega)]
      generalize lastOf l lba = t0 at *
      obtain ⟨t00, t01⟩ := t0
      dsimp only
      go_wp2_with (go_at_call 6; refine (HA.out _ HB.out).mono ?_; rintro e w7 ⟨rfl, hb⟩; have B7 := Lib.hid (HB.out.trans (hb.mono HB.out.size)); clear hb)
      go_ret
      exact ⟨rfl, B7.out⟩
set_option maxRecDepth 100000 in
set_option maxHeartbeats 8000000 in
theorem refused (b : Option Addr) (n c : Nat) (l : List Lf) (lba : Int) (x : Raw) (w : World) (h : Lvs w b n l) (hx : RawOk w x) (hr : Rds w) (hf : fewB l x = true) (hri : right l = true) (he : elseB l lba (pf x) = false) (hte : (tellsR (rt l) (l.length : Int) lba x).2.2 ≠ 0) :
    Calls Tryd.prog 4 #[.slice b n c, .int .i64 lba, .agg x.cells] w fun e w' => e = .returned (.bool true) ∧ Below w.heap.size w w' := by
  have hln := h.1
  have hn : n ≤ 100000 := by have := (few_in hf).1; rw [h.1] at this; omega
  have hox := raw_okay hx hf
  obtain ⟨W1, hW1⟩ : ∃ W1, W1 = w.alloc (.cells x.cells 29) := ⟨_, rfl⟩
  have b1 : Below w.heap.size w W1 := by rw [hW1]; exact below_new w _
  have BX := Lib.hid (show PrgC.BoxP w.heap.size x W1 by rw [hW1]; exact boxp_new w x)
  have B0 := Lib.hid b1
  have HF := Lib.hid (few_raw b n c l x W1 ⟨h.1, h.2.1, h.2.2.1, h.2.2.2.step b1⟩ ⟨hx.1, hx.2.1, ⟨(hx.2.2.1.1.below b1).more b1.size, hx.2.2.1.2⟩, ⟨(hx.2.2.2.1.1.below b1).more b1.size, hx.2.2.2.1.2⟩, hx.2.2.2.2⟩)
  rw [hf] at HF
  have HA := Lib.hid (fun W (hb : Below w.heap.size w W) => PrgAl.alive W (hr.step hb))
  have HCl := Lib.hid (fun W (hb : Below w.heap.size w W) => Clash b n c l lba x W ⟨h.1, h.2.1, h.2.2.1, h.2.2.2.step hb⟩ hn (hox.step hb) (hr.step hb))
  have HRo := Lib.hid (fun W (hb : Below w.heap.size w W) => Root b n c l W ⟨h.1, h.2.1, h.2.2.1, h.2.2.2.step hb⟩ hn (hr.step hb))
  have HT := Lib.hid (fun r W (hb : Below w.heap.size w W) => Tells r (n : Int) lba x W (hox.step hb) (hr.step hb))
  have HL := Lib.hid (fun W (hb : Below w.heap.size w W) => h.2.2.2.step hb)
  have HSm := Lib.hid (fun u W (hu : u.length ≤ 1000) (hb : Below w.heap.size w W) => summed_one u (by omega) W (hr.step hb))
  unfold rootP at HRo
  unfold ClashAns at HCl
  rw [he] at HCl
  simp only [hri, Bool.false_eq_true, if_false, if_true] at HRo HCl
  replace HT := Lib.hid (HT.out (rt l))
  rw [hln] at hte
  generalize tellsR (rt l) (n : Int) lba x = t at *
  generalize rt l = r at *
  clear hri he
  obtain ⟨t0, t1, t2⟩ := t
  dsimp only at HT hte
  have hne : ((t2 : Int) == 0) = false := by rw [beq_eq_false_iff_ne]; omega
  have hne2 : ((t2 : Int) != 0) = true := by rw [bne_iff_ne]; omega
  clear hte
  generalize ((t2 : Nat) : Int) = z at *
  clear h hx hr hf b1 hox
  have F1 : Hid True := Lib.hid trivial
  go_enter Tryd.func4, Tryd.ntmps4
  go_upto_region 1 with (fail)
  rw [← hW1]
  clear hW1
  go_upto_region 6 with (first
    | (refine wpList_load_row rfl 29 _ rfl w.heap.size rfl 29 _ (0, 0) _ BX.out Tryd.underlying29 rfl infoP ?_)
    | (go_at_call 5; refine HF.out.mono ?_; rintro e w1 ⟨rfl, hb⟩; have B1 := Lib.hid (B0.out.trans (hb.mono B0.out.size)); replace BX := Lib.hid ((show PrgC.BoxP w.heap.size x _ from BX.out).step hb); clear hb)
    | (go_at_call 10; refine (HCl.out _ B1.out).mono ?_; rintro e w2 ⟨rfl, hb⟩; have B2 := Lib.hid (B1.out.trans (hb.mono B1.out.size)); replace BX := Lib.hid ((show PrgC.BoxP w.heap.size x _ from BX.out).step hb); clear hb)
    | (go_at_call 7; refine (HRo.out _ B2.out).mono ?_; rintro e w3 ⟨rfl, hb⟩; have B3 := Lib.hid (B2.out.trans (hb.mono B2.out.size)); replace BX := Lib.hid ((show PrgC.BoxP w.heap.size x _ from BX.out).step hb); clear hb)
    | (go_at_call 9; refine (HT.out _ B3.out).mono ?_; rintro e w4 ⟨rfl, hb⟩; have B4 := Lib.hid (B3.out.trans (hb.mono B3.out.size)); clear hb))
  clear HF HCl HRo HT BX B0 B1 B2 B3
  go_upto_region 8 with (fail)
  go_wp2_with fail
  go_loopw [15, 16, 49] (fun sv bv kv wr => ∃ k : Nat, k ≤ n ∧ kv = .int .i64 k ∧ sv = st (lastOf (l.take k) lba).1 ∧ bv = .bool (lastOf (l.take k) lba).2 ∧ Below w.heap.size w wr) (fun _ _ kv _ => n - (intOf kv).toNat)
  case atStart => exact ⟨0, Nat.zero_le _, rfl, rfl, rfl, B4.out⟩
  case round =>
    obtain ⟨k, hk, rfl, rfl, rfl, hb⟩ := hrel
    have HB := Lib.hid hb
    clear hb
    by_cases hlt : k < n
    · obtain ⟨g, o, rfl, hg, hc⟩ := (HL.out _ HB.out) (by omega)
      obtain ⟨c0, c1⟩ := hc k (by omega)
      have HN := Lib.hid (last_next lba (show k < l.length by omega))
      have q0 : (0 : Int) ≤ (k : Int) := by omega
      have q1 : (k : Int) < (n : Int) := by omega
      generalize lastOf (l.take k) lba = t0 at *
      generalize l.getD k no = y at *
      obtain ⟨y0, y1⟩ := y
      obtain ⟨t00, t01⟩ := t0
      dsimp only at c0 c1 HN ⊢
      clear hc hg
      go_upto_region 10 with (refine wpList_store_row rfl 25 _ _ rfl wr.heap.size _ rfl rfl 25 _ (heap_alloc_new wr _) infoL rfl (two y0 y1) ?_)
      generalize hW : World.setRow _ _ _ = W6
      have b6 : Below wr.heap.size wr W6 := by rw [← hW]; exact kept_new wr _ _ _
      have g6 : W6.heap[wr.heap.size]? = some (.cells #[.int .i64 y0, st y1] 25 (0, 0)) := by rw [← hW]; exact has_new wr _ _ _
      clear hW
      have k0 : W6.cell? ⟨wr.heap.size, 0, none⟩ = some (.int .i64 y0) := blk_cell g6 rfl
      have k1 : W6.cell? ⟨wr.heap.size, 1, none⟩ = some (st y1) := blk_cell g6 rfl
      have B6 := Lib.hid (HB.out.trans (b6.mono HB.out.size))
      clear b6 g6 c0 c1
      by_cases he : y0 = lba
      · have hee : (y0 == lba) = true := by rw [beq_iff_eq]; exact he
        have HN2 := Lib.hid (HN.out.trans (if_pos he))
        clear HN he
        go_wp2_with fail
        go_roundw
        case rel => exact ⟨k + 1, by omega, by go_num, by rw [HN2.out], by rw [HN2.out], B6.out⟩
        case measure => simp [intOf]; omega
      · have hee : (y0 == lba) = false := by rw [beq_eq_false_iff_ne]; exact he
        have HN2 := Lib.hid (HN.out.trans (if_neg he))
        clear HN he
        go_wp2_with fail
        go_roundw
        case rel => exact ⟨k + 1, by omega, by go_num, by rw [HN2.out], by rw [HN2.out], B6.out⟩
        case measure => simp [intOf]; omega
    · obtain rfl : k = n := by omega
      rw [List.take_of_length_le (by omega)]
      generalize lastOf l lba = t0 at *
      obtain ⟨t00, t01⟩ := t0
      dsimp only
      go_wp2_with (go_at_call 6; refine (HA.out _ HB.out).mono ?_; rintro e w7 ⟨rfl, hb⟩; have B7 := Lib.hid (HB.out.trans (hb.mono HB.out.size)); clear hb)
      go_ret
      exact ⟨rfl, B7.out⟩
set_option maxRecDepth 100000 in
set_option maxHeartbeats 8000000 in
theorem same_ (b : Option Addr) (n c : Nat) (l : List Lf) (lba : Int) (x : Raw) (w : World) (h : Lvs w b n l) (hx : RawOk w x) (hr : Rds w) (hf : fewB l x = true) (hri : right l = true) (he : elseB l lba (pf x) = false) (hte : (tellsR (rt l) (l.length : Int) lba x).2.2 = 0) :
    Calls Tryd.prog 4 #[.slice b n c, .int .i64 lba, .agg x.cells] w fun e w' => e = .returned (.bool true) ∧ Below w.heap.size w w' := by
  have hln := h.1
  have hn : n ≤ 100000 := by have := (few_in hf).1; rw [h.1] at this; omega
  have hox := raw_okay hx hf
  obtain ⟨W1, hW1⟩ : ∃ W1, W1 = w.alloc (.cells x.cells 29) := ⟨_, rfl⟩
  have b1 : Below w.heap.size w W1 := by rw [hW1]; exact below_new w _
  have BX := Lib.hid (show PrgC.BoxP w.heap.size x W1 by rw [hW1]; exact boxp_new w x)
  have B0 := Lib.hid b1
  have HF := Lib.hid (few_raw b n c l x W1 ⟨h.1, h.2.1, h.2.2.1, h.2.2.2.step b1⟩ ⟨hx.1, hx.2.1, ⟨(hx.2.2.1.1.below b1).more b1.size, hx.2.2.1.2⟩, ⟨(hx.2.2.2.1.1.below b1).more b1.size, hx.2.2.2.1.2⟩, hx.2.2.2.2⟩)
  rw [hf] at HF
  have HA := Lib.hid (fun W (hb : Below w.heap.size w W) => PrgAl.alive W (hr.step hb))
  have HCl := Lib.hid (fun W (hb : Below w.heap.size w W) => Clash b n c l lba x W ⟨h.1, h.2.1, h.2.2.1, h.2.2.2.step hb⟩ hn (hox.step hb) (hr.step hb))
  have HRo := Lib.hid (fun W (hb : Below w.heap.size w W) => Root b n c l W ⟨h.1, h.2.1, h.2.2.1, h.2.2.2.step hb⟩ hn (hr.step hb))
  have HT := Lib.hid (fun r W (hb : Below w.heap.size w W) => Tells r (n : Int) lba x W (hox.step hb) (hr.step hb))
  have HL := Lib.hid (fun W (hb : Below w.heap.size w W) => h.2.2.2.step hb)
  have HSm := Lib.hid (fun u W (hu : u.length ≤ 1000) (hb : Below w.heap.size w W) => summed_one u (by omega) W (hr.step hb))
  unfold rootP at HRo
  unfold ClashAns at HCl
  have HLast := Lib.hid (foldl_own l lba (right_rise hri))
  obtain ⟨e1, e2⟩ := (else_told hri).2 he hte
  rw [he] at HCl
  simp only [hri, Bool.false_eq_true, if_false, if_true] at HRo HCl
  replace HT := Lib.hid (HT.out (rt l))
  rw [hln] at hte e1 e2
  generalize tellsR (rt l) (n : Int) lba x = t at *
  generalize rt l = r at *
  generalize own l lba = ow at *
  clear hri he
  obtain ⟨t0, t1, t2⟩ := t
  obtain ⟨o0, o1⟩ := ow
  dsimp only at HT hte e1 e2
  subst hte e1 e2
  have es : (t0 == t0) = true := by simp
  have eb : (t1 == t1) = true := by simp
  clear h hx hr hf b1 hox
  have F1 : Hid True := Lib.hid trivial
  go_enter Tryd.func4, Tryd.ntmps4
  go_upto_region 1 with (fail)
  rw [← hW1]
  clear hW1
  go_upto_region 6 with (first
    | (refine wpList_load_row rfl 29 _ rfl w.heap.size rfl 29 _ (0, 0) _ BX.out Tryd.underlying29 rfl infoP ?_)
    | (go_at_call 5; refine HF.out.mono ?_; rintro e w1 ⟨rfl, hb⟩; have B1 := Lib.hid (B0.out.trans (hb.mono B0.out.size)); replace BX := Lib.hid ((show PrgC.BoxP w.heap.size x _ from BX.out).step hb); clear hb)
    | (go_at_call 10; refine (HCl.out _ B1.out).mono ?_; rintro e w2 ⟨rfl, hb⟩; have B2 := Lib.hid (B1.out.trans (hb.mono B1.out.size)); replace BX := Lib.hid ((show PrgC.BoxP w.heap.size x _ from BX.out).step hb); clear hb)
    | (go_at_call 7; refine (HRo.out _ B2.out).mono ?_; rintro e w3 ⟨rfl, hb⟩; have B3 := Lib.hid (B2.out.trans (hb.mono B2.out.size)); replace BX := Lib.hid ((show PrgC.BoxP w.heap.size x _ from BX.out).step hb); clear hb)
    | (go_at_call 9; refine (HT.out _ B3.out).mono ?_; rintro e w4 ⟨rfl, hb⟩; have B4 := Lib.hid (B3.out.trans (hb.mono B3.out.size)); clear hb))
  clear HF HCl HRo HT BX B0 B1 B2 B3
  go_upto_region 8 with (fail)
  go_wp2_with fail
  go_loopw [15, 16, 49] (fun sv bv kv wr => ∃ k : Nat, k ≤ n ∧ kv = .int .i64 k ∧ sv = st (lastOf (l.take k) lba).1 ∧ bv = .bool (lastOf (l.take k) lba).2 ∧ Below w.heap.size w wr) (fun _ _ kv _ => n - (intOf kv).toNat)
  case atStart => exact ⟨0, Nat.zero_le _, rfl, rfl, rfl, B4.out⟩
  case round =>
    obtain ⟨k, hk, rfl, rfl, rfl, hb⟩ := hrel
    have HB := Lib.hid hb
    clear hb
    by_cases hlt : k < n
    · obtain ⟨g, o, rfl, hg, hc⟩ := (HL.out _ HB.out) (by omega)
      obtain ⟨c0, c1⟩ := hc k (by omega)
      have HN := Lib.hid (last_next lba (show k < l.length by omega))
      have q0 : (0 : Int) ≤ (k : Int) := by omega
      have q1 : (k : Int) < (n : Int) := by omega
      generalize lastOf (l.take k) lba = t0 at *
      generalize l.getD k no = y at *
      obtain ⟨y0, y1⟩ := y
      obtain ⟨t00, t01⟩ := t0
      dsimp only at c0 c1 HN ⊢
      clear hc hg
      go_upto_region 10 with (refine wpList_store_row rfl 25 _ _ rfl wr.heap.size _ rfl rfl 25 _ (heap_alloc_new wr _) infoL rfl (two y0 y1) ?_)
      generalize hW : World.setRow _ _ _ = W6
      have b6 : Below wr.heap.size wr W6 := by rw [← hW]; exact kept_new wr _ _ _
      have g6 : W6.heap[wr.heap.size]? = some (.cells #[.int .i64 y0, st y1] 25 (0, 0)) := by rw [← hW]; exact has_new wr _ _ _
      clear hW
      have k0 : W6.cell? ⟨wr.heap.size, 0, none⟩ = some (.int .i64 y0) := blk_cell g6 rfl
      have k1 : W6.cell? ⟨wr.heap.size, 1, none⟩ = some (st y1) := blk_cell g6 rfl
      have B6 := Lib.hid (HB.out.trans (b6.mono HB.out.size))
      clear b6 g6 c0 c1
      by_cases he : y0 = lba
      · have hee : (y0 == lba) = true := by rw [beq_iff_eq]; exact he
        have HN2 := Lib.hid (HN.out.trans (if_pos he))
        clear HN he
        go_wp2_with fail
        go_roundw
        case rel => exact ⟨k + 1, by omega, by go_num, by rw [HN2.out], by rw [HN2.out], B6.out⟩
        case measure => simp [intOf]; omega
      · have hee : (y0 == lba) = false := by rw [beq_eq_false_iff_ne]; exact he
        have HN2 := Lib.hid (HN.out.trans (if_neg he))
        clear HN he
        go_wp2_with fail
        go_roundw
        case rel => exact ⟨k + 1, by omega, by go_num, by rw [HN2.out], by rw [HN2.out], B6.out⟩
        case measure => simp [intOf]; omega
    · obtain rfl : k = n := by omega
      rw [List.take_of_length_le (by omega)]
      rw [HLast.out]
      dsimp only
      go_wp2_with (go_at_call 6; refine (HA.out _ HB.out).mono ?_; rintro e w7 ⟨rfl, hb⟩; have B7 := Lib.hid (HB.out.trans (hb.mono HB.out.size)); clear hb)
      go_ret
      exact ⟨rfl, B7.out⟩
set_option maxRecDepth 100000 in
set_option maxHeartbeats 8000000 in
theorem yes (b : Option Addr) (n c : Nat) (l : List Lf) (lba : Int) (x : Raw) (w : World) (h : Lvs w b n l) (hx : RawOk w x) (hr : Rds w) (hf : fewB l x = true) (hri : right l = true) (he : elseB l lba (pf x) = true) :
    Calls Tryd.prog 4 #[.slice b n c, .int .i64 lba, .agg x.cells] w fun e w' => e = .returned (.bool true) ∧ Below w.heap.size w w' := by
  have hln := h.1
  have hn : n ≤ 100000 := by have := (few_in hf).1; rw [h.1] at this; omega
  have hox := raw_okay hx hf
  obtain ⟨W1, hW1⟩ : ∃ W1, W1 = w.alloc (.cells x.cells 29) := ⟨_, rfl⟩
  have b1 : Below w.heap.size w W1 := by rw [hW1]; exact below_new w _
  have BX := Lib.hid (show PrgC.BoxP w.heap.size x W1 by rw [hW1]; exact boxp_new w x)
  have B0 := Lib.hid b1
  have HF := Lib.hid (few_raw b n c l x W1 ⟨h.1, h.2.1, h.2.2.1, h.2.2.2.step b1⟩ ⟨hx.1, hx.2.1, ⟨(hx.2.2.1.1.below b1).more b1.size, hx.2.2.1.2⟩, ⟨(hx.2.2.2.1.1.below b1).more b1.size, hx.2.2.2.1.2⟩, hx.2.2.2.2⟩)
  rw [hf] at HF
  have HA := Lib.hid (fun W (hb : Below w.heap.size w W) => PrgAl.alive W (hr.step hb))
  have HCl := Lib.hid (fun W (hb : Below w.heap.size w W) => Clash b n c l lba x W ⟨h.1, h.2.1, h.2.2.1, h.2.2.2.step hb⟩ hn (hox.step hb) (hr.step hb))
  have HRo := Lib.hid (fun W (hb : Below w.heap.size w W) => Root b n c l W ⟨h.1, h.2.1, h.2.2.1, h.2.2.2.step hb⟩ hn (hr.step hb))
  have HT := Lib.hid (fun r W (hb : Below w.heap.size w W) => Tells r (n : Int) lba x W (hox.step hb) (hr.step hb))
  have HL := Lib.hid (fun W (hb : Below w.heap.size w W) => h.2.2.2.step hb)
  have HSm := Lib.hid (fun u W (hu : u.length ≤ 1000) (hb : Below w.heap.size w W) => summed_one u (by omega) W (hr.step hb))
  unfold rootP at HRo
  unfold ClashAns at HCl
  have HLast := Lib.hid (foldl_own l lba (right_rise hri))
  obtain ⟨hte, e1⟩ := (else_told hri).1 he
  rw [he] at HCl
  simp only [hri, if_true] at HRo HCl
  replace HT := Lib.hid (HT.out (rt l))
  rw [hln] at hte e1
  generalize tellsR (rt l) (n : Int) lba x = t at *
  generalize rt l = r at *
  generalize own l lba = ow at *
  clear hri he
  obtain ⟨t0, t1, t2⟩ := t
  obtain ⟨o0, o1⟩ := ow
  dsimp only at HT hte e1
  subst hte
  have es : (t0 == o0) = false := by rw [beq_eq_false_iff_ne]; exact e1
  clear e1
  clear h hx hr hf b1 hox
  have F1 : Hid True := Lib.hid trivial
  go_enter Tryd.func4, Tryd.ntmps4
  go_upto_region 1 with (fail)
  rw [← hW1]
  clear hW1
  go_upto_region 6 with (first
    | (refine wpList_load_row rfl 29 _ rfl w.heap.size rfl 29 _ (0, 0) _ BX.out Tryd.underlying29 rfl infoP ?_)
    | (go_at_call 5; refine HF.out.mono ?_; rintro e w1 ⟨rfl, hb⟩; have B1 := Lib.hid (B0.out.trans (hb.mono B0.out.size)); replace BX := Lib.hid ((show PrgC.BoxP w.heap.size x _ from BX.out).step hb); clear hb)
    | (go_at_call 10; refine (HCl.out _ B1.out).mono ?_; rintro e w2 ⟨u, v, rfl, hu, hb⟩; have B2 := Lib.hid (B1.out.trans (hb.mono B1.out.size)); replace BX := Lib.hid ((show PrgC.BoxP w.heap.size x _ from BX.out).step hb); obtain ⟨hu1, hu2, hu3, hu4⟩ := hu; have euv : (u == v) = false := beq_eq_false_iff_ne.2 hu1; have HU2 := Lib.hid hu2; have HU3 := Lib.hid hu3; have HU4 := Lib.hid hu4; clear hu1 hu2 hu3 hu4; clear hb)
    | (go_at_call 7; refine (HRo.out _ B2.out).mono ?_; rintro e w3 ⟨rfl, hb⟩; have B3 := Lib.hid (B2.out.trans (hb.mono B2.out.size)); replace BX := Lib.hid ((show PrgC.BoxP w.heap.size x _ from BX.out).step hb); clear hb)
    | (go_at_call 9; refine (HT.out _ B3.out).mono ?_; rintro e w4 ⟨rfl, hb⟩; have B4 := Lib.hid (B3.out.trans (hb.mono B3.out.size)); clear hb))
  clear HF HCl HRo HT BX B0 B1 B2 B3
  go_upto_region 8 with (fail)
  go_wp2_with fail
  go_loopw [15, 16, 49] (fun sv bv kv wr => ∃ k : Nat, k ≤ n ∧ kv = .int .i64 k ∧ sv = st (lastOf (l.take k) lba).1 ∧ bv = .bool (lastOf (l.take k) lba).2 ∧ Below w.heap.size w wr) (fun _ _ kv _ => n - (intOf kv).toNat)
  case atStart => exact ⟨0, Nat.zero_le _, rfl, rfl, rfl, B4.out⟩
  case round =>
    obtain ⟨k, hk, rfl, rfl, rfl, hb⟩ := hrel
    have HB := Lib.hid hb
    clear hb
    by_cases hlt : k < n
    · obtain ⟨g, o, rfl, hg, hc⟩ := (HL.out _ HB.out) (by omega)
      obtain ⟨c0, c1⟩ := hc k (by omega)
      have HN := Lib.hid (last_next lba (show k < l.length by omega))
      have q0 : (0 : Int) ≤ (k : Int) := by omega
      have q1 : (k : Int) < (n : Int) := by omega
      generalize lastOf (l.take k) lba = t0 at *
      generalize l.getD k no = y at *
      obtain ⟨y0, y1⟩ := y
      obtain ⟨t00, t01⟩ := t0
      dsimp only at c0 c1 HN ⊢
      clear hc hg
      go_upto_region 10 with (refine wpList_store_row rfl 25 _ _ rfl wr.heap.size _ rfl rfl 25 _ (heap_alloc_new wr _) infoL rfl (two y0 y1) ?_)
      generalize hW : World.setRow _ _ _ = W6
      have b6 : Below wr.heap.size wr W6 := by rw [← hW]; exact kept_new wr _ _ _
      have g6 : W6.heap[wr.heap.size]? = some (.cells #[.int .i64 y0, st y1] 25 (0, 0)) := by rw [← hW]; exact has_new wr _ _ _
      clear hW
      have k0 : W6.cell? ⟨wr.heap.size, 0, none⟩ = some (.int .i64 y0) := blk_cell g6 rfl
      have k1 : W6.cell? ⟨wr.heap.size, 1, none⟩ = some (st y1) := blk_cell g6 rfl
      have B6 := Lib.hid (HB.out.trans (b6.mono HB.out.size))
      clear b6 g6 c0 c1
      by_cases he : y0 = lba
      · have hee : (y0 == lba) = true := by rw [beq_iff_eq]; exact he
        have HN2 := Lib.hid (HN.out.trans (if_pos he))
        clear HN he
        go_wp2_with fail
        go_roundw
        case rel => exact ⟨k + 1, by omega, by go_num, by rw [HN2.out], by rw [HN2.out], B6.out⟩
        case measure => simp [intOf]; omega
      · have hee : (y0 == lba) = false := by rw [beq_eq_false_iff_ne]; exact he
        have HN2 := Lib.hid (HN.out.trans (if_neg he))
        clear HN he
        go_wp2_with fail
        go_roundw
        case rel => exact ⟨k + 1, by omega, by go_num, by rw [HN2.out], by rw [HN2.out], B6.out⟩
        case measure => simp [intOf]; omega
    · obtain rfl : k = n := by omega
      rw [List.take_of_length_le (by omega)]
      rw [HLast.out]
      dsimp only
      have F2 : Hid True := Lib.hid trivial
      go_wp2_with (first
        | (clear F2; go_at_call 11; refine (HSm.out u _ HU3.out HB.out).mono ?_; rintro e w5 ⟨rfl, hb⟩; have B5 := Lib.hid (HB.out.trans (hb.mono HB.out.size)); rw [HU2.out]; clear hb)
        | (go_at_call 11; refine (HSm.out v _ HU4.out B5.out).mono ?_; rintro e w6 ⟨rfl, hb⟩; have B6 := Lib.hid (B5.out.trans (hb.mono B5.out.size)); have ess : (sum v == sum v) = true := beq_self_eq_true _; clear hb)
        | (go_at_call 6; refine (HA.out _ B6.out).mono ?_; rintro e w7 ⟨rfl, hb⟩; have B7 := Lib.hid (B6.out.trans (hb.mono B6.out.size)); clear hb))
      go_ret
      exact ⟨rfl, B7.out⟩
theorem walk (b : Option Addr) (n c : Nat) (l : List Lf) (lba : Int) (x : Raw) (w : World) (w0 : Lvs w b n l) (w1 : (Lit.int .i64 lba).wf = true) (w2 : RawOk w x) (hr : Rds w) :
    Calls Tryd.prog 4 #[.slice b n c, .int .i64 lba, .agg x.cells] w fun e w' => e = .returned (.bool true) ∧ Below w.heap.size w w' := by
  cases hf : fewB l x with
  | false => exact out b n c l lba x w w0 w2 hr hf
  | true =>
    cases hri : right l with
    | false => exact bad b n c l lba x w w0 w2 hr hf hri
    | true =>
      cases he : elseB l lba (pf x) with
      | true => exact yes b n c l lba x w w0 w2 hr hf hri he
      | false =>
        by_cases hte : (tellsR (rt l) (l.length : Int) lba x).2.2 = 0
        · exact same_ b n c l lba x w w0 w2 hr hf hri he hte
        · exact refused b n c l lba x w w0 w2 hr hf hri he hte
theorem own : ownKnob Tryd.prog.godebug = none := by kernel_rfl
theorem laidOut : laidOutB Tryd.prog = true := by kernel_rfl
set_option maxRecDepth 100000 in
theorem lifted (os : Os) (started : os.Started) (H : Type) (enc : TypeId × Value → H) :
    ReturnsInHanded {} Tryd.checked os 4 .any (fun w args => (Rows.proofSoundSpec.pre enc Tryd.prog Tryd.f4 Rows.proofSoundRow.domain false w args ∧ laidMetH Tryd.prog Rows.proofSoundRow.laid w) ∧ sizedMet enc Tryd.prog Tryd.f4 (OpenSpec.ofChange Rows.proofSoundSpec) false w args) (Rows.proofSoundSpec.post enc Tryd.prog Tryd.f4 false true false false) := by
  refine returnsInHanded_of_change_and (C := Tryd.checked) (X := fun w _ => laidMetH Tryd.prog Rows.proofSoundRow.laid w) (fun _ _ _ hh h => h.of_heap hh) own started (by kernel_rfl) Tryd.func4
    (ChangeSpec.witness_shaped (enc := enc) (C := Tryd.checked) (os := os) (X := fun w _ => laidMetH Tryd.prog Rows.proofSoundRow.laid w) false (World.doorLaid Tryd.prog 400 os) #[.slice none 0 0, .int .i64 0, .agg #[.bool false, .int .i64 0, .int .i64 0, .string ByteArray.empty, .int .i64 0, .string ByteArray.empty, .slice none 0 0, .slice none 0 0]] 8 rfl (World.shaped_of_RefB (by kernel_rfl) (by kernel_rfl)) (by kernel_rfl) (by kernel_rfl) (by kernel_rfl) (SLaid.door_met os _)) ?_
  intro W base args ds gs before hval0 hW _ _ hL _
  have hr := SLaid.of_laid hL
  have hval : ∀ (j : Nat) t v, Tryd.f4.params[j]? = some t → args[j]? = some v → Value.okWide Tryd.prog W .any base t v := hval0
  have hW' := hW
  obtain ⟨p, q, hA0, hV, rfl, hfz, hnd⟩ := hW
  have hA : DataW.TrodAll enc Tryd.prog W 0 (fun _ => true) true Tryd.f4.params.toList args.toList ds p := hA0
  rw [Tryd.params4] at hA hval
  obtain ⟨v0, vs0, d0, ds0, p0, q0, hargs, rfl, rfl, h0, r0⟩ := trodAll_cons hA
  obtain ⟨v1, vs1, d1, ds1, p1, q1, rfl, rfl, rfl, h1, r1⟩ := trodAll_cons r0
  obtain ⟨v2, vs2, d2, ds2, p2, q2, rfl, rfl, rfl, h2, r2⟩ := trodAll_cons r1
  obtain ⟨rfl, rfl, rfl⟩ := trodAll_nil r2
  obtain rfl : args = #[v0, v1, v2] := by cases args; simp_all
  obtain ⟨rfl, rfl⟩ := trodVars_none hV
  have k0 := h0
  have lt0 : ∀ x ∈ p0, x.block < W.heap.size := by obtain ⟨m, hm⟩ := k0; exact DataW.trod_lt m _ _ _ hm
  obtain ⟨b0, len0, ca0, rfl⟩ := okWide_slice Tryd.underlying22 (hval 0 22 v0 rfl rfl)
  obtain ⟨a0, n0, cap0, z0, he0, w0⟩ := PrfM.open_leaves h0
  simp only [Value.cells, List.cons.injEq, Value.slice.injEq, and_true] at he0
  obtain ⟨rfl, rfl, rfl⟩ := he0
  obtain ⟨a1, rfl, rfl, rfl, w1⟩ := open_int Tryd.underlying3 (hval 1 3 v1 rfl rfl) h1
  have k2 := h2
  have lt2 : ∀ x ∈ p2, x.block < W.heap.size := by obtain ⟨m, hm⟩ := k2; exact DataW.trod_lt m _ _ _ hm
  obtain ⟨a2, rfl, w2⟩ := PrfM.open_proof (hval 2 29 v2 rfl rfl) h2
  clear hA0 hval0
  refine (walk b0 len0 ca0 z0 a1 a2 W w0 w1 w2 hr).mono fun e W' ⟨he, bel⟩ => ?_
  subst he
  exact ⟨_, rfl, _, _, _, [], _, [], hW', trodAll_mk1 (shut_bool Tryd.underlying4 _), (trodAll_cons_mk (Below.trod laidOut (by kernel_rfl) (of_decide_eq_true (by kernel_rfl)) k0 bel lt0) (trodAll_cons_mk (shut_int Tryd.underlying3 w1) (trodAll_cons_mk (Below.trod laidOut (by kernel_rfl) (of_decide_eq_true (by kernel_rfl)) k2 bel lt2) trodAll_mk0))), rfl, bel.frame _, fun h => by cases h⟩
theorem over : Rows.proofSoundRow.holds Tryd.pinned (OpenSpec.ofChange Rows.proofSoundSpec) :=
  OpenClaim.holds_of_wide 4 Tryd.f4 rfl rfl rfl rfl rfl rfl rfl ⟨rfl, rfl, rfl, rfl, rfl⟩ rfl rfl rfl rfl rfl (by kernel_rfl) Tryd.func4 (by kernel_rfl)
    (of_decide_eq_true (by kernel_rfl)) (by unfold Func.isWrapper; first | (rw [if_pos (by decide +kernel)]; kernel_rfl) | (rw [if_neg (by decide +kernel)]; exact ⟨rfl, rfl⟩))
    (fun os started H enc _ => lifted os started H enc)
/-- THE STATEMENT, proved. -/
theorem proved : Rows.ProofSoundCardSaid :=
  Claim7.holds_tied_plain_at .later [] _ true _ false
    over (fun _ h => by cases h) (by kernel_rfl) (fun _ h => by cases h) proofSound_row_tie rfl ⟨rfl, rfl⟩ (by kernel_rfl) rfl
    (fun f fn hf hfn => by
      obtain rfl : f = 4 := Option.some.inj ((show Tryd.prog.funcNamed "keepsake/keepsakelaw16.ProofSound" = some 4 by kernel_rfl).symm.trans hf) |>.symm
      obtain rfl : fn = Tryd.f4 := (Option.some.inj (Tryd.func4.symm.trans hfn)).symm
      exact ⟨by kernel_rfl, fun j t ht => by
        rw [Tryd.params4] at ht
        have hm : t ∈ [22, 3, 29] := by simpa using Array.mem_of_getElem? ht
        have hall : ([22, 3, 29].all fun u => !Tryd.prog.wantsStandIn u) = true := by kernel_rfl
        exact (show Tryd.prog.wantsStandIn t = false by simpa using List.all_eq_true.1 hall t hm)⟩)
    (by kernel_rfl)
#print axioms proved
end Go.Proofs.YtcadfpaihfaabaaDoor.proofSound
