/- SegmentLast: at any epoch, any row of at most 40 acts (of at most 10,000 bytes, none counted above that; else: only the chapter's example) and any place: what was put last of a place counts alone, in whatever order the places were put, and what is proved of a place is told by the root. The condition: the rounds' numbers lie in the program's variable (the card ties it to the program's text). -/
import Derived.Test.YtdkcebaehdkphaaGreatDoorSegY
import Derived.Test.YtdkcebaehdkphaaGreatDoorSLaid
import Derived.Test.YtdkcebaehdkphaaGreatDoorRows
import Derived.Test.YtdkcebaehdkphaaGreatDoorTie
import Derived.Test.YtdkcebaehdkphaaGreatDoorCards
import Derived.WalkKit
import Derived.ProofKit
import Derived.OpenShut
import Derived.ShutString
import Derived.ChangeOld
import Derived.Below
import Derived.LaidMore
import Derived.SevenTiedAt
import Derived.Stop.Joined
namespace Go.Proofs.YtdkcebaehdkphaaGreatDoor.segmentLast
open Go.ChangeShapes Go.WideShapes Go.ChangeAt Go.RowKit
open Go.ChangeMaps (open_string shut_string)
set_option linter.unusedVariables false
open STurn PrfL PrfN PrfM PrfB PrfG PrfD PrgC PrgK PrgP PrgV PrgW PrgM MerQ SegN SegM SegR SegG SegH SegJ SegK SegL SegF SegX SegY
open SegP (takes)
theorem New_any (ep : Int) (W : World) : Calls Tryz.prog 8 #[.int .i64 ep] W fun e w' => ∃ v, e = .returned (.tuple #[.pointer v, .int .i64 (if inB ep 4294967295 = true then 0 else 2)]) ∧ Below W.heap.size W w' := by
  cases h : inB ep 4294967295 with
  | true => exact (New_yes ep W h).mono (by rintro e w' ⟨B, M, rfl, _, _, _, hb⟩; exact ⟨_, rfl, hb⟩)
  | false => exact (New_no ep W h).mono (by rintro e w' ⟨rfl, hb⟩; exact ⟨_, rfl, hb⟩)
set_option maxRecDepth 100000 in
set_option maxHeartbeats 8000000 in
theorem no_ (ep : Int) (a : Option Addr) (n c : Nat) (l : List A) (lba : Int) (w : World) (h : Acts w a n l) (hsz : ∀ x ∈ l, x.2.2.length ≤ reachBytes) (hr : Rds w) (hno : fewB l = false ∨ fewB l = true ∧ inB ep 4294967295 = false ∨ fewB l = true ∧ inB ep 4294967295 = true ∧ ¬ (0 ≤ lba ∧ lba ≤ 4095)) : Calls Tryz.prog 4 #[.int .i64 ep, .slice a n c, .int .i64 lba] w fun e w' => e = .returned (.bool true) ∧ Below w.heap.size w w' := by
  have HF := Lib.hid (fun W (hb : Below w.heap.size w W) => Few a n c l W ⟨h.1, h.2.1, h.2.2.1, h.2.2.2.step hb⟩)
  have HA := Lib.hid (fun W (hb : Below w.heap.size w W) => SegA.alive W (hr.step hb))
  have HN := Lib.hid (fun W => New_any ep W)
  clear h hsz hr
  rcases hno with h1 | ⟨h1, h2⟩ | ⟨h1, h2, h3⟩
  · rw [h1] at HF
    clear h1
    generalize (if inB ep 4294967295 = true then (0 : Int) else 2) = g at *
    go_enter Tryz.func4, Tryz.ntmps4
    go_wp2_with (first
      | (go_at_call 8; refine (HN.out _).mono ?_; rintro e w1 ⟨v, rfl, hb⟩; have B1 := Lib.hid hb; clear hb)
      | (go_at_call 6; refine (HF.out _ B1.out).mono ?_; rintro e w2 ⟨rfl, hb⟩; have B2 := Lib.hid (B1.out.trans (hb.mono B1.out.size)); clear hb)
      | (go_at_call 7; refine (HA.out _ B2.out).mono ?_; rintro e w3 ⟨rfl, hb⟩; have B3 := Lib.hid (B2.out.trans (hb.mono B2.out.size)); clear hb))
    go_ret
    exact ⟨rfl, B3.out⟩
  · rw [h1] at HF
    rw [h2] at HN
    simp only [Bool.false_eq_true, if_false] at HN
    clear h1 h2
    go_enter Tryz.func4, Tryz.ntmps4
    go_wp2_with (first
      | (go_at_call 8; refine (HN.out _).mono ?_; rintro e w1 ⟨v, rfl, hb⟩; have B1 := Lib.hid hb; clear hb)
      | (go_at_call 6; refine (HF.out _ B1.out).mono ?_; rintro e w2 ⟨rfl, hb⟩; have B2 := Lib.hid (B1.out.trans (hb.mono B1.out.size)); clear hb)
      | (go_at_call 7; refine (HA.out _ B2.out).mono ?_; rintro e w3 ⟨rfl, hb⟩; have B3 := Lib.hid (B2.out.trans (hb.mono B2.out.size)); clear hb))
    go_ret
    exact ⟨rfl, B3.out⟩
  · rw [h1] at HF
    rw [h2] at HN
    simp only [if_true] at HN
    clear h1 h2
    by_cases h0 : lba < 0
    · have e1 : decide (lba < 0) = true := decide_eq_true h0
      clear h3
      go_enter Tryz.func4, Tryz.ntmps4
      go_wp2_with (first
        | (go_at_call 8; refine (HN.out _).mono ?_; rintro e w1 ⟨v, rfl, hb⟩; have B1 := Lib.hid hb; clear hb)
        | (go_at_call 6; refine (HF.out _ B1.out).mono ?_; rintro e w2 ⟨rfl, hb⟩; have B2 := Lib.hid (B1.out.trans (hb.mono B1.out.size)); clear hb)
        | (go_at_call 7; refine (HA.out _ B2.out).mono ?_; rintro e w3 ⟨rfl, hb⟩; have B3 := Lib.hid (B2.out.trans (hb.mono B2.out.size)); clear hb))
      go_ret
      exact ⟨rfl, B3.out⟩
    · have e1 : decide (lba < 0) = false := decide_eq_false h0
      have e2 : decide (4095 < lba) = true := decide_eq_true (by omega)
      have e3 : 4095 < lba := by omega
      clear h3
      go_enter Tryz.func4, Tryz.ntmps4
      go_wp2_with (first
        | (go_at_call 8; refine (HN.out _).mono ?_; rintro e w1 ⟨v, rfl, hb⟩; have B1 := Lib.hid hb; clear hb)
        | (go_at_call 6; refine (HF.out _ B1.out).mono ?_; rintro e w2 ⟨rfl, hb⟩; have B2 := Lib.hid (B1.out.trans (hb.mono B1.out.size)); clear hb)
        | (go_at_call 7; refine (HA.out _ B2.out).mono ?_; rintro e w3 ⟨rfl, hb⟩; have B3 := Lib.hid (B2.out.trans (hb.mono B2.out.size)); clear hb))
      go_ret
      exact ⟨rfl, B3.out⟩
set_option maxRecDepth 100000 in
set_option maxHeartbeats 8000000 in
theorem in_ (ep : Int) (a : Option Addr) (n c : Nat) (l : List A) (lba : Int) (w : World) (h : Acts w a n l) (hsz : ∀ x ∈ l, x.2.2.length ≤ reachBytes) (hr : Rds w) (hf : fewB l = true) (he : 0 ≤ ep ∧ ep ≤ 4294967295) (hb : 0 ≤ lba ∧ lba ≤ 4095) : Calls Tryz.prog 4 #[.int .i64 ep, .slice a n c, .int .i64 lba] w fun e w' => e = .returned (.bool true) ∧ Below w.heap.size w w' := by
  have hn : n ≤ 40 := by have := few_in hf; rw [h.1] at this; exact this
  have hln := h.1
  have HF := Lib.hid (fun W (hb : Below w.heap.size w W) => Few a n c l W ⟨h.1, h.2.1, h.2.2.1, h.2.2.2.step hb⟩)
  rw [hf] at HF
  have HA := Lib.hid (fun W (hb : Below w.heap.size w W) => SegA.alive W (hr.step hb))
  have HN := Lib.hid (fun W => New_yes ep W (in_yes he))
  have HL := Lib.hid (fun W (hb : Below w.heap.size w W) => h.2.2.2.step hb)
  have HFit := Lib.hid h.2.2.1
  have HRd := Lib.hid (fun W (hb : Below w.heap.size w W) => hr.step hb)
  have HE := Lib.hid he
  have HB := Lib.hid hb
  have e1 : decide (lba < 0) = false := decide_eq_false (by omega)
  have e2 : decide (4095 < lba) = false := decide_eq_false (by omega)
  have e3 : 0 ≤ lba := hb.1
  have e4 : lba ≤ 4095 := hb.2
  have F1 : Hid True := Lib.hid trivial
  clear h hsz hr hf he hb
  go_enter Tryz.func4, Tryz.ntmps4
  go_upto_region 7 with (first
    | (clear F1; go_at_call 8; refine (HN.out _).mono ?_; rintro e w1 ⟨B, M, rfl, hs, gB, gM, hb⟩; have S1 := Lib.hid hs; have GB := Lib.hid gB; have GM := Lib.hid gM; have B1 := Lib.hid hb; clear hs hb gB gM)
    | (go_at_call 6; refine (HF.out _ B1.out).mono ?_; rintro e w2 ⟨rfl, hb⟩; have D2 := Lib.hid hb; have B2 := Lib.hid (B1.out.trans (hb.mono B1.out.size)); clear hb)
    | (go_at_call 8; refine (HN.out _).mono ?_; rintro e w3 ⟨B', M', rfl, hs, gB, gM, hb⟩; have S3 := Lib.hid hs; have GB' := Lib.hid gB; have GM' := Lib.hid gM; have D3 := Lib.hid (D2.out.trans (hb.mono D2.out.size)); have B3 := Lib.hid (B2.out.trans (hb.mono B2.out.size)); have E3 := Lib.hid hb.size; clear hs hb gB gM))
  have LL := Lib.hid (lay2_new S1.out GB.out GM.out D2.out.size S3.out GB'.out GM'.out E3.out B1.out.size)
  have D0 : Hid (Duo w w3.heap.size B M B' M' ep non non none 0 [] w3) := Lib.hid ⟨S1.out.step D3.out, S3.out, World.ownsRow_nil _ _ _ _, B3.out, Nat.le_refl _⟩
  generalize w3.heap.size = z at *
  clear HF HN S1 S3 GB GM GB' GM' B1 B2 B3 D2 D3 E3
  go_loopw [11, 12] (fun lv iv wr => ∃ (k : Nat) (p : Option Addr) (pc : Nat) (D : Pl) (la : List A), k ≤ n ∧ lastly (takes ep) (l.drop k) = (D, la) ∧ iv = .int .i64 ((k : Int) - 1) ∧ lv = .slice p la.length pc ∧ Duo w z B M B' M' ep non D p pc la wr) (fun _ iv _ => (intOf iv + 1).toNat)
  case atStart => exact ⟨n, none, 0, non, [], Nat.le_refl _, by rw [List.drop_eq_nil_of_le (by omega)]; rfl, by go_num, rfl, D0.out⟩
  case round =>
    clear D0
    obtain ⟨k, p, pc, D, la, hk, hla, rfl, rfl, hd⟩ := hrel
    have hfew : la.length ≤ 40 := by
      have := lastly_few (takes ep) (l.drop k)
      rw [hla, List.length_drop] at this
      dsimp only at this
      omega
    have DD := Lib.hid hd
    have BB := Lib.hid hd.bel
    have HLa := Lib.hid hla
    clear hd hla
    rcases Nat.eq_zero_or_pos k with rfl | hpos
    · rw [show (((0 : Nat) : Int) - 1) = -1 by omega]
      rw [List.drop_zero] at HLa
      have HLv := Lib.hid (show lvs D 4096 = lvs (puts (takes ep) non l) 4096 by have := lastly_leaves (D := takes ep) takes_low l 4096; rw [HLa.out] at this; exact this)
      have HGd := Lib.hid (show SegL.Good D by have := lastly_good ep l; rw [HLa.out] at this; exact this)
      clear HLa
      have q0 : ¬ (0 : Int) ≤ -1 := by omega
      go_upto_region 20 with fail
      obtain ⟨w0, hw0⟩ : ∃ w0 : World, w0 = wr := ⟨_, rfl⟩
      subst hw0
      go_loopw [17, 18, 97] (fun wv sv kv wk => ∃ k : Nat, k ≤ n ∧ kv = .int .i64 k ∧ wv = st ((puts (takes ep) non (l.take k) lba.toNat).getD []) ∧ sv = .bool (puts (takes ep) non (l.take k) lba.toNat).isSome ∧ Duo w z B M B' M' ep (puts (takes ep) non (l.take k)) D p pc la wk) (fun _ _ kv _ => n - (intOf kv).toNat)
      case atStart => exact ⟨0, Nat.zero_le _, rfl, rfl, rfl, DD.out⟩
      case round =>
        clear DD BB
        obtain ⟨k, hk, rfl, rfl, rfl, hd⟩ := hrel
        have DD := Lib.hid hd
        have BB := Lib.hid hd.bel
        clear hd
        by_cases hlt : k < n
        · obtain ⟨g, o, rfl, hg, hc⟩ := (HL.out _ BB.out) (by omega)
          obtain ⟨c0, c1, c2⟩ := hc k (by omega)
          have HFx := Lib.hid (HFit.out (l.getD k noA) (by rw [at_a _ (by omega)]; exact List.getElem_mem _))
          have HNx := Lib.hid (puts_next (takes ep) l (show k < l.length by omega))
          clear hc hg HL HFit
          generalize l.getD k noA = x at *
          obtain ⟨x0, x1, x2⟩ := x
          dsimp only at c0 c1 c2
          generalize puts (takes ep) non (l.take k) = C at *
          have q1 : (0 : Int) ≤ (k : Int) := by omega
          have q2 : (k : Int) < (n : Int) := by omega
          go_upto_region 22 with (refine wpList_store_row rfl 34 _ _ rfl wr.heap.size _ rfl rfl 34 _ (heap_alloc_new wr _) infoA rfl (oneA x0 x1 x2) ?_)
          generalize hW : World.setRow _ _ _ = W4
          have b4 : Below wr.heap.size wr W4 := by rw [← hW]; exact kept_new wr _ _ _
          have A4 := Lib.hid (show W4.heap[wr.heap.size]? = some (.cells #[.int .i64 x0, .int .i64 x1, st x2] 34 (0, 0)) by rw [← hW]; exact has_new wr _ _ _)
          have HXz := Lib.hid DD.out.z
          replace DD := Lib.hid (DD.out.step b4)
          clear hW c0 c1 c2 BB b4
          generalize wr.heap.size = X at *
          have k0 : W4.cell? ⟨X, 0, none⟩ = some (.int .i64 x0) := blk_cell A4.out rfl
          have k1 : W4.cell? ⟨X, 1, none⟩ = some (.int .i64 x1) := blk_cell A4.out rfl
          have k2 : W4.cell? ⟨X, 2, none⟩ = some (st x2) := blk_cell A4.out rfl
          cases hx : takes ep (x0, x1, x2) with
          | none =>
            rw [put1_none _ hx] at HNx
            have HP := Lib.hid (Put_no DD.out.seg (x0, x1, x2) HFx.out (HRd.out _ DD.out.bel) hx HE.out)
            clear hx
            go_wp2_with (go_at_call 9; refine HP.out.mono ?_; rintro e w5 ⟨rfl, hb⟩; replace DD := Lib.hid (DD.out.step hb); clear hb)
            go_roundw
            case rel => exact ⟨k + 1, by omega, by go_num, by rw [HNx.out], by rw [HNx.out], by rw [HNx.out]; exact DD.out⟩
            case measure => (simp [intOf] <;> omega)
          | some hh =>
            rw [put1_some _ hx] at HNx
            have HP := Lib.hid (Put_yes DD.out.seg (x0, x1, x2) (HRd.out _ DD.out.bel) hx)
            have HTk := takes_in hx
            dsimp only at HTk
            by_cases hl : x0 = lba
            · have f1 : (x0 == lba) = true := by rw [hl]; simp
              have HU := Lib.hid (show upd C x0.toNat hh lba.toNat = some hh from upd_here (x := (x0, x1, x2)) (ep := ep) hl)
              have HDt := Lib.hid (fun W (hb : Below w.heap.size w W) => PrgD.Data ep x1 x2 W (by omega) (HRd.out W hb))
              rw [HTk.2.2] at HDt
              dsimp only at HDt
              clear hx HTk hl
              go_upto_region 23 with (go_at_call 9; refine HP.out.mono ?_; rintro e w5 ⟨rfl, hs, hb⟩; have A5 := Lib.hid ((hb.block X (Array.getElem?_eq_some_iff.1 A4.out).1 (by have := LL.out.Mz; have := HXz.out; omega)).trans A4.out); clear k0 k1 k2; have k0 : w5.cell? ⟨X, 0, none⟩ = some (.int .i64 x0) := blk_cell A5.out rfl; replace DD := Lib.hid (DD.out.put LL.out hs hb); clear hb hs)
              have k1 : w5.cell? ⟨X, 1, none⟩ = some (.int .i64 x1) := blk_cell A5.out rfl
              have k2 : w5.cell? ⟨X, 2, none⟩ = some (st x2) := blk_cell A5.out rfl
              go_wp2_with (go_at_call 21; refine (HDt.out _ DD.out.bel).mono ?_; rintro e w6 ⟨rfl, hb⟩; replace DD := Lib.hid (DD.out.step hb); clear hb)
              go_roundw
              case rel => exact ⟨k + 1, by omega, by go_num, by rw [HNx.out, HU.out]; rfl, by rw [HNx.out, HU.out]; rfl, by rw [HNx.out]; exact DD.out⟩
              case measure => (simp [intOf] <;> omega)
            · have f1 : (x0 == lba) = false := by rw [beq_eq_false_iff_ne]; exact hl
              have HU := Lib.hid (show upd C x0.toNat hh lba.toNat = C lba.toNat from upd_there (x := (x0, x1, x2)) hx e3 hl)
              clear hx HTk hl
              go_wp2_with (go_at_call 9; refine HP.out.mono ?_; rintro e w5 ⟨rfl, hs, hb⟩; have A5 := Lib.hid ((hb.block X (Array.getElem?_eq_some_iff.1 A4.out).1 (by have := LL.out.Mz; have := HXz.out; omega)).trans A4.out); clear k0 k1 k2; have k0 : w5.cell? ⟨X, 0, none⟩ = some (.int .i64 x0) := blk_cell A5.out rfl; replace DD := Lib.hid (DD.out.put LL.out hs hb); clear hb hs)
              go_roundw
              case rel => exact ⟨k + 1, by omega, by go_num, by rw [HNx.out, HU.out], by rw [HNx.out, HU.out], by rw [HNx.out]; exact DD.out⟩
              case measure => (simp [intOf] <;> omega)
        · obtain rfl : k = n := by omega
          rw [List.take_of_length_le (by omega)] at DD ⊢
          have HG := Lib.hid (good_puts ep l non good_non)
          generalize puts (takes ep) non l = C at *
          have hq1 : ¬ (k : Int) < (k : Int) := by omega
          have hll := lvs_length C 4096
          have BT := Lib.hid DD.out.bel
          have HRw := Lib.hid (fun W (h1 : Below wr.heap.size wr W) => HRd.out W (BT.out.trans (h1.mono BT.out.size)))
          have HAw := Lib.hid (fun W (h1 : Below wr.heap.size wr W) => HA.out W (BT.out.trans (h1.mono BT.out.size)))
          have HPo := Lib.hid (SegL.Prove_ok DD.out.seg HG.out (HRw.out wr (Below.refl _ _)) lba HB.out)
          have HRo := Lib.hid (fun W (h1 : Below wr.heap.size wr W) => SegL.Root (DD.out.seg.step h1) HG.out (HRw.out W h1))
          have HRt := Lib.hid (fun W (h1 : Below wr.heap.size wr W) => SegL.Root (DD.out.seg'.step h1) HGd.out (HRw.out W h1))
          have HCo := Lib.hid (fun W (h1 : Below wr.heap.size wr W) => Count_len (DD.out.seg.step h1))
          have HLs := Lib.hid (fun W (h1 : Below wr.heap.size wr W) => SegK.Leaves (DD.out.seg.step h1))
          have HLt := Lib.hid (fun W (h1 : Below wr.heap.size wr W) => SegK.Leaves (DD.out.seg'.step h1))
          rw [HLv.out] at HRt HLt
          have HSm := Lib.hid (fun p1 c1 p2 c2 W (h1 : Lies W p1 (lvs C 4096)) (h2 : Lies W p2 (lvs C 4096)) => same_rows (c := c1) (d := c2) h1 h2 (by omega))
          have HTl := Lib.hid (fun x Bs W hx o1 o2 (h1 : Below wr.heap.size wr W) => Tells_own (C := C) HG.out HB.out (x := x) (Bs := Bs) (W := W) hx o1 o2 (HRw.out W h1))
          have F2 : Hid True := Lib.hid trivial
          have F3 : Hid True := Lib.hid trivial
          clear HRw HRd HG HGd DD HLv HA BB
          generalize (C lba.toNat).getD [] = oh at *
          generalize (C lba.toNat).isSome = ob at *
          generalize rt (lvs C 4096) = r at *
          generalize prove (lvs C 4096) lba = pr at *
          generalize lvs C 4096 = q at *
          go_upto_region 27 with (first
            | (go_at_call 18; refine HPo.out.mono ?_; rintro e wa ⟨x, rfl, hx, ho1, ho2, hb⟩; have HX := Lib.hid hx; have O1 := Lib.hid ho1; have O2 := Lib.hid ho2; have Ba := Lib.hid hb; clear hb hx ho1 ho2)
            | (refine wpList_store_row rfl 48 _ _ rfl wa.heap.size x.cells rfl rfl 48 _ (heap_alloc_new wa _) infoP rfl (oneP _) ?_))
          generalize hW : World.setRow _ _ _ = Wb
          have bb : Below wa.heap.size wa Wb := by rw [← hW]; exact kept_new wa _ _ _
          have BX := Lib.hid (show PrgC.BoxP wa.heap.size x Wb by rw [← hW]; exact has_new wa _ _ _)
          have Bb := Lib.hid (Ba.out.trans (bb.mono Ba.out.size))
          replace O1 := Lib.hid (MerJ.own_later O1.out bb)
          replace O2 := Lib.hid (MerJ.own_later O2.out bb)
          clear hW bb Ba HPo
          have HSv : Hid (∀ W, Below Wb.heap.size Wb W → (W.cell? ⟨wa.heap.size, 0, none⟩ = some (.bool x.f) ∧ W.cell? ⟨wa.heap.size, 1, none⟩ = some (.int .i64 x.at_) ∧ W.cell? ⟨wa.heap.size, 2, none⟩ = some (.int .i64 x.here.1) ∧ W.cell? ⟨wa.heap.size, 3, none⟩ = some (st x.here.2) ∧ W.cell? ⟨wa.heap.size, 4, none⟩ = some (.int .i64 x.ahead.1) ∧ W.cell? ⟨wa.heap.size, 5, none⟩ = some (st x.ahead.2) ∧ W.cell? ⟨wa.heap.size, 6, none⟩ = some (.slice x.ua x.up.length x.uc) ∧ W.cell? ⟨wa.heap.size, 7, none⟩ = some (.slice x.la x.left.length x.lc))) := Lib.hid fun W hb => (BX.out.step hb).cells
          have HTo := Lib.hid (fun W (h1 : Below Wb.heap.size Wb W) => HTl.out x _ W HX.out (MerJ.own_later O1.out h1) (MerJ.own_later O2.out h1) (Bb.out.trans (h1.mono Bb.out.size)))
          have HR1 := Lib.hid (fun W (h1 : Below Wb.heap.size Wb W) => HRo.out W (Bb.out.trans (h1.mono Bb.out.size)))
          have HC1 := Lib.hid (fun W (h1 : Below Wb.heap.size Wb W) => HCo.out W (Bb.out.trans (h1.mono Bb.out.size)))
          have BS := Lib.hid ((Below.refl Wb.heap.size Wb).drew)
          have hS : (Wb.drew.cell? ⟨wa.heap.size, 0, none⟩ = some (.bool x.f) ∧ Wb.drew.cell? ⟨wa.heap.size, 1, none⟩ = some (.int .i64 x.at_) ∧ Wb.drew.cell? ⟨wa.heap.size, 2, none⟩ = some (.int .i64 x.here.1) ∧ Wb.drew.cell? ⟨wa.heap.size, 3, none⟩ = some (st x.here.2) ∧ Wb.drew.cell? ⟨wa.heap.size, 4, none⟩ = some (.int .i64 x.ahead.1) ∧ Wb.drew.cell? ⟨wa.heap.size, 5, none⟩ = some (st x.ahead.2) ∧ Wb.drew.cell? ⟨wa.heap.size, 6, none⟩ = some (.slice x.ua x.up.length x.uc) ∧ Wb.drew.cell? ⟨wa.heap.size, 7, none⟩ = some (.slice x.la x.left.length x.lc)) := HSv.out _ BS.out
          clear HTl HCo O1 O2 HX BX
          go_region_held3 (fun W => (W.cell? ⟨wa.heap.size, 0, none⟩ = some (.bool x.f) ∧ W.cell? ⟨wa.heap.size, 1, none⟩ = some (.int .i64 x.at_) ∧ W.cell? ⟨wa.heap.size, 2, none⟩ = some (.int .i64 x.here.1) ∧ W.cell? ⟨wa.heap.size, 3, none⟩ = some (st x.here.2) ∧ W.cell? ⟨wa.heap.size, 4, none⟩ = some (.int .i64 x.ahead.1) ∧ W.cell? ⟨wa.heap.size, 5, none⟩ = some (st x.ahead.2) ∧ W.cell? ⟨wa.heap.size, 6, none⟩ = some (.slice x.ua x.up.length x.uc) ∧ W.cell? ⟨wa.heap.size, 7, none⟩ = some (.slice x.la x.left.length x.lc)))
            (first | exact hS)
            (first
              | (go_at_call 15; refine (HR1.out _ BS.out).mono ?_; rintro e wd ⟨rfl, hb⟩; replace BS := Lib.hid (BS.out.trans (hb.mono BS.out.size)); replace hS := HSv.out _ BS.out; clear hb)
              | (go_at_call 13; refine (HC1.out _ BS.out).mono ?_; rintro e _ ⟨rfl, rfl⟩)
              | (go_at_call 22; refine (HTo.out _ BS.out).mono ?_; rintro e wf ⟨rfl, hb⟩; replace BS := Lib.hid (BS.out.trans (hb.mono BS.out.size)); replace hS := HSv.out _ BS.out; clear hb))
          replace BS := Lib.hid (Bb.out.trans (BS.out.mono Bb.out.size))
          clear hS HSv HTo HR1 HC1 Bb
          go_wp2_with (first
            | (clear F2; go_at_call 15; refine (HRo.out _ BS.out).mono ?_; rintro e wg ⟨rfl, hb⟩; replace BS := Lib.hid (BS.out.trans (hb.mono BS.out.size)); clear hb)
            | (go_at_call 15; refine (HRt.out _ BS.out).mono ?_; rintro e wh ⟨rfl, hb⟩; replace BS := Lib.hid (BS.out.trans (hb.mono BS.out.size)); clear hb)
            | (clear F3; go_at_call 12; refine (HLs.out _ BS.out).mono ?_; rintro e wi ⟨p5, c5, rfl, ho, hb⟩; have L5 := Lib.hid (own_lies ho); replace BS := Lib.hid (BS.out.trans (hb.mono BS.out.size)); clear hb ho)
            | (go_at_call 12; refine (HLt.out _ BS.out).mono ?_; rintro e wj ⟨p6, c6, rfl, ho, hb⟩; have L6 := Lib.hid (own_lies ho); replace L5 := Lib.hid (L5.out.step hb); replace BS := Lib.hid (BS.out.trans (hb.mono BS.out.size)); clear hb ho)
            | (go_at_call 11; refine (HSm.out p5 c5 p6 c6 _ L5.out L6.out).mono ?_; rintro e wk ⟨rfl, hb⟩; replace BS := Lib.hid (BS.out.trans (hb.mono BS.out.size)); clear hb)
            | (go_at_call 7; refine (HAw.out _ BS.out).mono ?_; rintro e wl ⟨rfl, hb⟩; replace BS := Lib.hid (BS.out.trans (hb.mono BS.out.size)); clear hb))
          go_ret
          exact ⟨rfl, BT.out.trans (BS.out.mono BT.out.size)⟩
    · obtain ⟨i, rfl⟩ : ∃ i, k = i + 1 := ⟨k - 1, by omega⟩
      rw [show ((((i + 1 : Nat)) : Int) - 1) = (i : Int) by omega]
      obtain ⟨g, o, rfl, hg, hc⟩ := (HL.out _ BB.out) (by omega)
      obtain ⟨c0, c1, c2⟩ := hc i (by omega)
      have HFx := Lib.hid (HFit.out (l.getD i noA) (by rw [at_a _ (by omega)]; exact List.getElem_mem _))
      have HNx := Lib.hid (lastly_next (takes ep) l (show i < l.length by omega))
      rw [HLa.out] at HNx
      clear hc hg HL HFit HLa HB e1 e2 e3 e4
      generalize l.getD i noA = x at *
      obtain ⟨x0, x1, x2⟩ := x
      dsimp only at c0 c1 c2
      have q0 : (0 : Int) ≤ (i : Int) := by omega
      have q1 : (i : Int) < (n : Int) := by omega
      have q2 : (i : Int) ≤ 40 := by omega
      go_upto_region 10 with (refine wpList_store_row rfl 34 _ _ rfl wr.heap.size _ rfl rfl 34 _ (heap_alloc_new wr _) infoA rfl (oneA x0 x1 x2) ?_)
      generalize hW : World.setRow _ _ _ = W4
      have b4 : Below wr.heap.size wr W4 := by rw [← hW]; exact kept_new wr _ _ _
      have A4 := Lib.hid (show W4.heap[wr.heap.size]? = some (.cells #[.int .i64 x0, .int .i64 x1, st x2] 34 (0, 0)) by rw [← hW]; exact has_new wr _ _ _)
      have HXz := Lib.hid DD.out.z
      replace DD := Lib.hid (DD.out.step b4)
      clear hW c0 c1 c2 BB b4
      generalize wr.heap.size = X at *
      have HX := Lib.hid (Array.getElem?_eq_some_iff.1 A4.out).1
      obtain ⟨w0, hw0⟩ : ∃ w0 : World, w0 = wr := ⟨_, rfl⟩
      subst hw0
      go_upto_region 12 with fail
      go_loopw [14, 65] (fun mv jv wj => ∃ j : Nat, j ≤ la.length ∧ jv = .int .i64 j ∧ mv = .bool (metB (la.take j) x0) ∧ Below W4.heap.size W4 wj) (fun _ jv _ => la.length - (intOf jv).toNat)
      case atStart => exact ⟨0, Nat.zero_le _, rfl, rfl, Below.refl _ _⟩
      case round =>
        obtain ⟨j, hj, rfl, rfl, hbj⟩ := hrel
        have HJ := Lib.hid hbj
        clear hbj
        by_cases hlt : j < la.length
        · obtain ⟨g', o', rfl, hg', hc'⟩ := ((own_liesA DD.out.row).step HJ.out) (by omega)
          obtain ⟨y0, _, _⟩ := hc' j hlt
          obtain ⟨_, y1, y2⟩ := hc' j hlt
          have HMt := Lib.hid (met_next la x0 hlt)
          clear hc' hg'
          generalize la.getD j noA = y at *
          obtain ⟨z0, z1, z2⟩ := y
          dsimp only at y0 y1 y2 HMt
          generalize metB (la.take j) x0 = q at *
          have r0 : (0 : Int) ≤ (j : Int) := by omega
          have r1 : (j : Int) < (la.length : Int) := by omega
          go_upto_region 14 with (refine wpList_store_row rfl 34 _ _ rfl wr.heap.size _ rfl rfl 34 _ (heap_alloc_new wr _) infoA rfl (oneA z0 z1 z2) ?_)
          generalize hW : World.setRow _ _ _ = W5
          have b5 : Below wr.heap.size wr W5 := by rw [← hW]; exact kept_new wr _ _ _
          have A5 := Lib.hid (show W5.heap[wr.heap.size]? = some (.cells #[.int .i64 z0, .int .i64 z1, st z2] 34 (0, 0)) by rw [← hW]; exact has_new wr _ _ _)
          have J5 := Lib.hid (HJ.out.trans (b5.mono HJ.out.size))
          have k0 : W5.cell? ⟨X, 0, none⟩ = some (.int .i64 x0) := blk_cell ((J5.out.block X HX.out).trans A4.out) rfl
          have k1 : W5.cell? ⟨wr.heap.size, 0, none⟩ = some (.int .i64 z0) := blk_cell A5.out rfl
          clear hW y0 y1 y2 b5 A5 HJ
          cases q with
          | true =>
            go_wp2_with fail
            go_roundw
            case rel => exact ⟨j + 1, by omega, by go_num, by rw [HMt.out, Bool.true_or], J5.out⟩
            case measure => (simp [intOf] <;> omega)
          | false =>
            go_wp2_with fail
            go_roundw
            case rel => exact ⟨j + 1, by omega, by go_num, by rw [HMt.out, Bool.false_or], J5.out⟩
            case measure => (simp [intOf] <;> omega)
        · obtain rfl : j = la.length := by omega
          rw [List.take_length]
          have hqj : ¬ ((la.length : Nat) : Int) < (la.length : Int) := by omega
          have AJ := Lib.hid ((HJ.out.block X HX.out).trans A4.out)
          have DJ := Lib.hid (DD.out.step HJ.out)
          have k0 : wr.cell? ⟨X, 0, none⟩ = some (.int .i64 x0) := blk_cell AJ.out rfl
          have k1 : wr.cell? ⟨X, 1, none⟩ = some (.int .i64 x1) := blk_cell AJ.out rfl
          have k2 : wr.cell? ⟨X, 2, none⟩ = some (st x2) := blk_cell AJ.out rfl
          clear A4 DD HJ
          cases hm : metB la x0 with
          | true =>
            have HV := Lib.hid (HNx.out.trans (step_met (S := (D, la)) (x := (x0, x1, x2)) hm))
            clear hm HNx
            go_wp2_with fail
            go_roundw
            case rel => exact ⟨i, p, pc, D, la, by omega, HV.out, by go_num, rfl, DJ.out⟩
            case measure => (simp [intOf] <;> omega)
          | false =>
            cases hx : takes ep (x0, x1, x2) with
            | none =>
              have HV := Lib.hid (HNx.out.trans (step_no (S := (D, la)) hx))
              have HP := Lib.hid (Put_no DJ.out.seg' (x0, x1, x2) HFx.out (HRd.out _ DJ.out.bel) hx HE.out)
              clear hm HNx hx
              go_wp2_with (go_at_call 9; refine HP.out.mono ?_; rintro e w5 ⟨rfl, hb⟩; replace DJ := Lib.hid (DJ.out.step hb); clear hb)
              go_roundw
              case rel => exact ⟨i, p, pc, D, la, by omega, HV.out, by go_num, rfl, DJ.out⟩
              case measure => (simp [intOf] <;> omega)
            | some hh =>
              have HV := Lib.hid (HNx.out.trans (step_yes (S := (D, la)) hx hm))
              have HP := Lib.hid (Put_yes DJ.out.seg' (x0, x1, x2) (HRd.out _ DJ.out.bel) hx)
              clear hm HNx hx
              dsimp only at HV
              go_upto_region 17 with (go_at_call 9; refine HP.out.mono ?_; rintro e w5 ⟨rfl, hs, hb⟩; have A5 := Lib.hid ((hb.block X (Array.getElem?_eq_some_iff.1 AJ.out).1 (by have := LL.out.M'z; have := DJ.out.z; have := HXz.out; omega)).trans AJ.out); replace DJ := Lib.hid (DJ.out.put' LL.out hs hb); clear hb hs)
              clear k0 k1 k2
              go_wp2_with (first
                | (refine wpList_load_row rfl 34 _ rfl X rfl 34 _ (0, 0) _ A5.out Tryz.underlying34 rfl infoA ?_)
                | (at_builtin; refine append_act _ rfl _ _ rfl z _ _ la (x0, x1, x2) rfl (by omega) DJ.out.z rfl DJ.out.row ?_; intro p6 c6 w6 ho hb; have D6 := Lib.hid (DJ.out.rowed LL.out ho hb); clear ho hb))
              go_roundw
              case rel => exact ⟨i, p6, c6, _, la ++ [(x0, x1, x2)], by omega, HV.out, by go_num, by rw [List.length_append]; rfl, D6.out⟩
              case measure => (simp [intOf] <;> omega)
theorem walk (ep : Int) (a : Option Addr) (n c : Nat) (l : List A) (lba : Int) (w : World) (w0 : (Lit.int .i64 ep).wf = true) (h : Acts w a n l) (hsz : ∀ x ∈ l, x.2.2.length ≤ reachBytes) (w2 : (Lit.int .i64 lba).wf = true) (hr : Rds w) : Calls Tryz.prog 4 #[.int .i64 ep, .slice a n c, .int .i64 lba] w fun e w' => e = .returned (.bool true) ∧ Below w.heap.size w w' := by
  cases hf : fewB l with
  | false => exact no_ ep a n c l lba w h hsz hr (.inl hf)
  | true =>
    by_cases he : 0 ≤ ep ∧ ep ≤ 4294967295
    · by_cases hb : 0 ≤ lba ∧ lba ≤ 4095
      · exact in_ ep a n c l lba w h hsz hr hf he hb
      · exact no_ ep a n c l lba w h hsz hr (.inr (.inr ⟨hf, in_yes he, hb⟩))
    · exact no_ ep a n c l lba w h hsz hr (.inr (.inl ⟨hf, in_no he⟩))
theorem own : ownKnob Tryz.prog.godebug = none := by kernel_rfl
theorem laidOut : laidOutB Tryz.prog = true := by kernel_rfl
set_option maxRecDepth 100000 in
theorem lifted (os : Os) (started : os.Started) (H : Type) (enc : TypeId × Value → H) :
    ReturnsInHanded {} Tryz.checked os 4 .any (fun w args => (Rows.segmentLastSpec.pre enc Tryz.prog Tryz.f4 Rows.segmentLastRow.domain false w args ∧ laidMetH Tryz.prog Rows.segmentLastRow.laid w) ∧ sizedMet enc Tryz.prog Tryz.f4 (OpenSpec.ofChange Rows.segmentLastSpec) false w args) (Rows.segmentLastSpec.post enc Tryz.prog Tryz.f4 false true false false) := by
  refine returnsInHanded_of_change_and (C := Tryz.checked) (X := fun w _ => laidMetH Tryz.prog Rows.segmentLastRow.laid w) (fun _ _ _ hh h => h.of_heap hh) own started (by kernel_rfl) Tryz.func4
    (ChangeSpec.witness_shaped (enc := enc) (C := Tryz.checked) (os := os) (X := fun w _ => laidMetH Tryz.prog Rows.segmentLastRow.laid w) false (World.doorLaid Tryz.prog 400 os) #[.int .i64 0, .slice none 0 0, .int .i64 0] 8 rfl (World.shaped_of_RefB (by kernel_rfl) (by kernel_rfl)) (by kernel_rfl) (by kernel_rfl) (by kernel_rfl) (SLaid.door_met os _)) ?_
  intro W base args ds gs before hval0 hW _ hZ hL _
  have hr := SLaid.of_laid hL
  have hval : ∀ (j : Nat) t v, Tryz.f4.params[j]? = some t → args[j]? = some v → Value.okWide Tryz.prog W .any base t v := hval0
  have hW' := hW
  obtain ⟨p, q, hA0, hV, rfl, hfz, hnd⟩ := hW
  have hA : DataW.TrodAll enc Tryz.prog W 0 (fun _ => true) true Tryz.f4.params.toList args.toList ds p := hA0
  rw [Tryz.params4] at hA hval
  obtain ⟨v0, vs0, d0, ds0, p0, q0, hargs, rfl, rfl, h0, r0⟩ := trodAll_cons hA
  obtain ⟨v1, vs1, d1, ds1, p1, q1, rfl, rfl, rfl, h1, r1⟩ := trodAll_cons r0
  obtain ⟨v2, vs2, d2, ds2, p2, q2, rfl, rfl, rfl, h2, r2⟩ := trodAll_cons r1
  obtain ⟨rfl, rfl, rfl⟩ := trodAll_nil r2
  obtain rfl : args = #[v0, v1, v2] := by cases args; simp_all
  obtain ⟨rfl, rfl⟩ := trodVars_none hV
  obtain ⟨a0, rfl, rfl, rfl, w0⟩ := open_int Tryz.underlying3 (hval 0 3 v0 rfl rfl) h0
  have k1 := h1
  have lt1 : ∀ x ∈ p1, x.block < W.heap.size := by obtain ⟨m, hm⟩ := k1; exact DataW.trod_lt m _ _ _ hm
  obtain ⟨b1, len1, ca1, rfl⟩ := okWide_slice Tryz.underlying22 (hval 1 22 v1 rfl rfl)
  obtain ⟨a1, n1, cap1, z1, he1, w1, sz1⟩ := SegM.open_acts h1
  simp only [Value.cells, List.cons.injEq, Value.slice.injEq, and_true] at he1
  obtain ⟨rfl, rfl, rfl⟩ := he1
  obtain ⟨a2, rfl, rfl, rfl, w2⟩ := open_int Tryz.underlying3 (hval 2 3 v2 rfl rfl) h2
  have s1 := sz1 (fun n hn => by
    have := List.all_eq_true.1 hZ n (DataW.weights_mem_each (j := 1) (t := 22) (d := d1) (by rw [Tryz.params4]; rfl) rfl n hn)
    simpa using this)
  clear hA0 hval0
  refine (walk a0 b1 len1 ca1 z1 a2 W w0 w1 s1 w2 hr).mono fun e W' ⟨he, bel⟩ => ?_
  subst he
  exact ⟨_, rfl, _, _, _, [], _, [], hW', trodAll_mk1 (shut_bool Tryz.underlying4 _), (trodAll_cons_mk (shut_int Tryz.underlying3 w0) (trodAll_cons_mk (Below.trod laidOut (by kernel_rfl) (of_decide_eq_true (by kernel_rfl)) k1 bel lt1) (trodAll_cons_mk (shut_int Tryz.underlying3 w2) trodAll_mk0))), rfl, bel.frame _, fun h => by cases h⟩
theorem over : Rows.segmentLastRow.holds Tryz.pinned (OpenSpec.ofChange Rows.segmentLastSpec) :=
  OpenClaim.holds_of_wide 4 Tryz.f4 rfl rfl rfl rfl rfl rfl rfl ⟨rfl, rfl, rfl, rfl, rfl⟩ rfl rfl rfl rfl rfl (by kernel_rfl) Tryz.func4 (by kernel_rfl)
    (of_decide_eq_true (by kernel_rfl)) (by unfold Func.isWrapper; first | (rw [if_pos (by decide +kernel)]; kernel_rfl) | (rw [if_neg (by decide +kernel)]; exact ⟨rfl, rfl⟩))
    (fun os started H enc _ => lifted os started H enc)
/-- THE STATEMENT, proved. -/
theorem proved : Rows.SegmentLastCardSaid :=
  Claim7.holds_tied_plain_at .later [] _ true _ false
    over (fun _ h => by cases h) (by kernel_rfl) (fun _ h => by cases h) segmentLast_row_tie rfl ⟨rfl, rfl⟩ (by kernel_rfl) rfl
    (fun f fn hf hfn => by
      obtain rfl : f = 4 := Option.some.inj ((show Tryz.prog.funcNamed "keepsake/keepsakelaw17.SegmentLast" = some 4 by kernel_rfl).symm.trans hf) |>.symm
      obtain rfl : fn = Tryz.f4 := (Option.some.inj (Tryz.func4.symm.trans hfn)).symm
      exact ⟨by kernel_rfl, fun j t ht => by
        rw [Tryz.params4] at ht
        have hm : t ∈ [3, 22, 3] := by simpa using Array.mem_of_getElem? ht
        have hall : ([3, 22, 3].all fun u => !Tryz.prog.wantsStandIn u) = true := by kernel_rfl
        exact (show Tryz.prog.wantsStandIn t = false by simpa using List.all_eq_true.1 hall t hm)⟩)
    (by kernel_rfl)
#print axioms proved
end Go.Proofs.YtdkcebaehdkphaaGreatDoor.segmentLast
