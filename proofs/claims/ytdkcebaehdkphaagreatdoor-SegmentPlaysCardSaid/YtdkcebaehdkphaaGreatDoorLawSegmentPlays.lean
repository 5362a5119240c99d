/- SegmentPlays: at any epoch, any row of at most 40 acts (of at most 10,000 bytes, none counted above that; else: only the chapter's example) and any place: each act is taken or refused, and the leaves, their root and the place's proof are, as the document says. The condition: the rounds' numbers lie in the program's variable (the card ties it to the program's text). -/
import Derived.Test.YtdkcebaehdkphaaGreatDoorLSegC
import Derived.Test.YtdkcebaehdkphaaGreatDoorPrfH
import Derived.Test.YtdkcebaehdkphaaGreatDoorSLaid
import Derived.Test.YtdkcebaehdkphaaGreatDoorRows
import Derived.Test.YtdkcebaehdkphaaGreatDoorTie
import Derived.Test.YtdkcebaehdkphaaGreatDoorCards
import Derived.WalkKit
import Derived.ProofKit
import Derived.OpenShut
import Derived.ShutString
import Derived.ChangeOld
import Derived.Below
import Derived.LaidMore
import Derived.SevenTiedAt
import Derived.Stop.Joined
namespace Go.Proofs.YtdkcebaehdkphaaGreatDoor.segmentPlays
open Go.ChangeShapes Go.WideShapes Go.ChangeAt Go.RowKit
open Go.ChangeMaps (open_string shut_string)
set_option linter.unusedVariables false
open STurn PrfL PrfN PrfM PrfB PrfG PrfD PrgC PrgK PrgP MerQ SegN SegM SegR SegG SegH SegJ SegK SegL SegF SegX
open SegP (takes Sg But)
set_option maxRecDepth 100000 in
set_option maxHeartbeats 8000000 in
theorem many (ep : Int) (a : Option Addr) (n c : Nat) (l : List A) (lba : Int) (w : World) (h : Acts w a n l) (hsz : ∀ x ∈ l, x.2.2.length ≤ reachBytes) (hr : Rds w) (hf : fewB l = false) : Calls Tryz.prog 3 #[.int .i64 ep, .slice a n c, .int .i64 lba] w fun e w' => e = .returned (.bool true) ∧ Below w.heap.size w w' := by
  have HF := Lib.hid (Few a n c l w h)
  rw [hf] at HF
  have HA := Lib.hid (fun W (hb : Below w.heap.size w W) => SegA.alive W (hr.step hb))
  clear h hsz hr hf
  go_enter Tryz.func3, Tryz.ntmps3
  go_wp2_with (first
    | (go_at_call 6; refine HF.out.mono ?_; rintro e w1 ⟨rfl, hb⟩; have B1 := Lib.hid hb; clear hb)
    | (go_at_call 7; refine (HA.out _ B1.out).mono ?_; rintro e w2 ⟨rfl, hb⟩; have B2 := Lib.hid (B1.out.trans (hb.mono B1.out.size)); clear hb))
  go_ret
  exact ⟨rfl, B2.out⟩
set_option maxRecDepth 100000 in
set_option maxHeartbeats 8000000 in
theorem out (ep : Int) (a : Option Addr) (n c : Nat) (l : List A) (lba : Int) (w : World) (h : Acts w a n l) (hsz : ∀ x ∈ l, x.2.2.length ≤ reachBytes) (hr : Rds w) (hf : fewB l = true) (he : ¬ (0 ≤ ep ∧ ep ≤ 4294967295)) : Calls Tryz.prog 3 #[.int .i64 ep, .slice a n c, .int .i64 lba] w fun e w' => e = .returned (.bool true) ∧ Below w.heap.size w w' := by
  have HF := Lib.hid (Few a n c l w h)
  rw [hf] at HF
  have HA := Lib.hid (fun W (hb : Below w.heap.size w W) => SegA.alive W (hr.step hb))
  have HN := Lib.hid (fun W => New_no ep W (in_no he))
  clear h hsz hr hf
  by_cases h0 : ep < 0
  · have d1 : decide (ep < 0) = true := decide_eq_true h0
    clear he
    go_enter Tryz.func3, Tryz.ntmps3
    go_wp2_with (first
      | (go_at_call 6; refine HF.out.mono ?_; rintro e w1 ⟨rfl, hb⟩; have B1 := Lib.hid hb; clear hb)
      | (go_at_call 8; refine (HN.out _).mono ?_; rintro e w2 ⟨rfl, hb⟩; have B2 := Lib.hid (B1.out.trans (hb.mono B1.out.size)); clear hb)
      | (go_at_call 7; refine (HA.out _ B2.out).mono ?_; rintro e w3 ⟨rfl, hb⟩; have B3 := Lib.hid (B2.out.trans (hb.mono B2.out.size)); clear hb))
    go_ret
    exact ⟨rfl, B3.out⟩
  · have d1 : decide (ep < 0) = false := decide_eq_false h0
    have d2 : decide (4294967295 < ep) = true := decide_eq_true (by omega)
    have d3 : 4294967295 < ep := by omega
    clear he
    go_enter Tryz.func3, Tryz.ntmps3
    go_wp2_with (first
      | (go_at_call 6; refine HF.out.mono ?_; rintro e w1 ⟨rfl, hb⟩; have B1 := Lib.hid hb; clear hb)
      | (go_at_call 8; refine (HN.out _).mono ?_; rintro e w2 ⟨rfl, hb⟩; have B2 := Lib.hid (B1.out.trans (hb.mono B1.out.size)); clear hb)
      | (go_at_call 7; refine (HA.out _ B2.out).mono ?_; rintro e w3 ⟨rfl, hb⟩; have B3 := Lib.hid (B2.out.trans (hb.mono B2.out.size)); clear hb))
    go_ret
    exact ⟨rfl, B3.out⟩
set_option maxRecDepth 100000 in
set_option maxHeartbeats 8000000 in
theorem in_ (ep : Int) (a : Option Addr) (n c : Nat) (l : List A) (lba : Int) (w : World) (h : Acts w a n l) (hsz : ∀ x ∈ l, x.2.2.length ≤ reachBytes) (hr : Rds w) (hf : fewB l = true) (he : 0 ≤ ep ∧ ep ≤ 4294967295) : Calls Tryz.prog 3 #[.int .i64 ep, .slice a n c, .int .i64 lba] w fun e w' => e = .returned (.bool true) ∧ Below w.heap.size w w' := by
  have hn : n ≤ 40 := by have := few_in hf; rw [h.1] at this; exact this
  have hln := h.1
  have HF := Lib.hid (Few a n c l w h)
  rw [hf] at HF
  have HA := Lib.hid (fun W (hb : Below w.heap.size w W) => SegA.alive W (hr.step hb))
  have HN := Lib.hid (fun W => New_yes ep W (in_yes he))
  have HL := Lib.hid (fun W (hb : Below w.heap.size w W) => h.2.2.2.step hb)
  have HFit := Lib.hid h.2.2.1
  have HSz := Lib.hid hsz
  have HRd := Lib.hid (fun W (hb : Below w.heap.size w W) => hr.step hb)
  have HE := Lib.hid he
  have d1 : decide (ep < 0) = false := decide_eq_false (by omega)
  have d2 : decide (4294967295 < ep) = false := decide_eq_false (by omega)
  have d3 : 0 ≤ ep := he.1
  have d4 : ep ≤ 4294967295 := he.2
  clear h hsz hr hf he
  go_enter Tryz.func3, Tryz.ntmps3
  go_upto_region 9 with (first
    | (go_at_call 6; refine HF.out.mono ?_; rintro e w1 ⟨rfl, hb⟩; have B1 := Lib.hid hb; clear hb)
    | (go_at_call 8; refine (HN.out _).mono ?_; rintro e w2 ⟨B, M, rfl, hs, gB, gM, hb⟩; have S2 := Lib.hid hs; have GB := Lib.hid gB; have GM := Lib.hid gM; have B2 := Lib.hid (B1.out.trans (hb.mono B1.out.size)); clear hs hb gB gM))
  have T3 := Lib.hid (two_new S2.out B2.out)
  have LL := Lib.hid (lay_new S2.out B1.out.size GB.out GM.out)
  generalize (w2.alloc (.cells #[.int .i64 ep, .slice none 0 0] 32)) = W3 at *
  generalize w2.heap.size + 1 = z at *
  generalize w2.heap.size = R at *
  clear HF HN S2 GB GM B1 B2
  go_upto_region 10 with fail
  go_loopw [49] (fun iv wr => ∃ k : Nat, k ≤ n ∧ iv = .int .i64 k ∧ Two w z B M R ep (puts (takes ep) non (l.take k)) (puts (takes ep) non (l.take k)) wr) (fun iv _ => n - (intOf iv).toNat)
  case atStart => exact ⟨0, Nat.zero_le _, rfl, T3.out⟩
  case round =>
    clear T3
    obtain ⟨k, hk, rfl, ht⟩ := hrel
    have TT := Lib.hid ht
    have BB := Lib.hid ht.bel
    clear ht
    by_cases hlt : k < n
    · obtain ⟨g, o, rfl, hg, hc⟩ := (HL.out _ BB.out) (by omega)
      obtain ⟨c0, c1, c2⟩ := hc k (by omega)
      have hmem : l.getD k noA ∈ l := by rw [at_a _ (by omega)]; exact List.getElem_mem _
      have HFx := Lib.hid (HFit.out _ hmem)
      have HSx := Lib.hid (HSz.out _ hmem)
      have HNx := Lib.hid (puts_next (takes ep) l (show k < l.length by omega))
      clear hmem hc hg HL HFit HSz
      generalize l.getD k noA = x at *
      obtain ⟨x0, x1, x2⟩ := x
      dsimp only at c0 c1 c2
      have q0 : (0 : Int) ≤ (k : Int) := by omega
      have q1 : (k : Int) < (n : Int) := by omega
      go_upto_region 12 with (refine wpList_store_row rfl 34 _ _ rfl wr.heap.size _ rfl rfl 34 _ (heap_alloc_new wr _) infoA rfl (oneA x0 x1 x2) ?_)
      generalize hW : World.setRow _ _ _ = W4
      have R4 := Lib.hid (show Rnd w z B M R ep _ _ wr.heap.size (x0, x1, x2) W4 by rw [← hW]; exact Rnd.new TT.out (x0, x1, x2) _)
      clear hW c0 c1 c2 TT BB
      generalize wr.heap.size = X at *
      generalize puts (takes ep) non (l.take k) = C at *
      have RR := Lib.hid (R4.out.step (Below.refl W4.heap.size W4).drew)
      have hS : W4.drew.cell? ⟨X, 0, none⟩ = some (.int .i64 x0) ∧ W4.drew.cell? ⟨X, 1, none⟩ = some (.int .i64 x1) ∧ W4.drew.cell? ⟨X, 2, none⟩ = some (st x2) := RR.out.cells
      clear R4
      cases hx : takes ep (x0, x1, x2) with
      | none =>
        rw [put1_none _ hx] at HNx
        have HP1 := Lib.hid (fun W (rr : Rnd w z B M R ep C C X (x0, x1, x2) W) => Put_no rr.two.seg (x0, x1, x2) HFx.out (HRd.out W rr.two.bel) hx HE.out)
        have HP2 := Lib.hid (fun W (rr : Rnd w z B M R ep C C X (x0, x1, x2) W) => rr.two.put_no (x0, x1, x2) HFx.out HSx.out HE.out.2 hx)
        have HSt : Hid (∀ W, Rnd w z B M R ep C C X (x0, x1, x2) W → W.cell? ⟨X, 0, none⟩ = some (.int .i64 x0) ∧ W.cell? ⟨X, 1, none⟩ = some (.int .i64 x1) ∧ W.cell? ⟨X, 2, none⟩ = some (st x2)) := Lib.hid fun W rr => rr.cells
        clear hx HFx HSx HRd
        go_region_held3 (fun W => W.cell? ⟨X, 0, none⟩ = some (.int .i64 x0) ∧ W.cell? ⟨X, 1, none⟩ = some (.int .i64 x1) ∧ W.cell? ⟨X, 2, none⟩ = some (st x2))
          (first | exact hS)
          (first
            | (go_at_call 9; refine (HP1.out _ RR.out).mono ?_; rintro e w5 ⟨rfl, hb⟩; replace RR := Lib.hid (RR.out.step hb); replace hS := HSt.out _ RR.out; clear hb)
            | (go_at_call 10; refine (HP2.out _ RR.out).mono ?_; rintro e w6 ⟨rfl, hb⟩; replace RR := Lib.hid (RR.out.step hb); replace hS := HSt.out _ RR.out; clear hb))
        go_wp2_with fail
        go_roundw
        case rel => exact ⟨k + 1, by omega, by go_num, by rw [HNx.out]; exact RR.out.two⟩
        case measure => simp [intOf]; omega
      | some hh =>
        rw [put1_some _ hx] at HNx
        have HP1 := Lib.hid (fun W (rr : Rnd w z B M R ep C C X (x0, x1, x2) W) => Put_yes rr.two.seg (x0, x1, x2) (HRd.out W rr.two.bel) hx)
        have HP2 := Lib.hid (fun D W (rr : Rnd w z B M R ep D C X (x0, x1, x2) W) => rr.two.put_yes (x0, x1, x2) HFx.out HE.out.2 hx)
        have HI := Lib.hid (ins_upd C hx)
        have HSt : Hid (∀ D E W, Rnd w z B M R ep D E X (x0, x1, x2) W → W.cell? ⟨X, 0, none⟩ = some (.int .i64 x0) ∧ W.cell? ⟨X, 1, none⟩ = some (.int .i64 x1) ∧ W.cell? ⟨X, 2, none⟩ = some (st x2)) := Lib.hid fun D E W rr => rr.cells
        clear hx HFx HSx HRd
        go_region_held3 (fun W => W.cell? ⟨X, 0, none⟩ = some (.int .i64 x0) ∧ W.cell? ⟨X, 1, none⟩ = some (.int .i64 x1) ∧ W.cell? ⟨X, 2, none⟩ = some (st x2))
          (first | exact hS)
          (first
            | (go_at_call 9; refine (HP1.out _ RR.out).mono ?_; rintro e w5 ⟨rfl, hs, hb⟩; replace RR := Lib.hid (RR.out.prog LL.out hs hb); replace hS := HSt.out _ _ _ RR.out; clear hb hs)
            | (go_at_call 10; refine (HP2.out _ _ RR.out).mono ?_; rintro e w6 ⟨rfl, hs, hb⟩; replace RR := Lib.hid (RR.out.doc LL.out HI.out hs hb); replace hS := HSt.out _ _ _ RR.out; clear hb hs))
        go_wp2_with fail
        go_roundw
        case rel => exact ⟨k + 1, by omega, by go_num, by rw [HNx.out]; exact RR.out.two⟩
        case measure => simp [intOf]; omega
    · obtain rfl : k = n := by omega
      rw [List.take_of_length_le (by omega)] at TT
      have HG := Lib.hid (good_puts ep l non good_non)
      generalize puts (takes ep) non l = C at *
      have hq1 : ¬ (k : Int) < (k : Int) := by omega
      go_upto_region 15 with fail
      have hll := lvs_length C 4096
      obtain ⟨p, pc, hsg, hown⟩ := TT.out.row
      have hli := own_lies hown
      have HLv := Lib.hid (fun W (hb : Below wr.heap.size wr W) => SegK.Leaves (TT.out.seg.step hb))
      have HSm := Lib.hid (fun p1 c1 W (h1 : Lies W p1 (lvs C 4096)) (hb : Below wr.heap.size wr W) => same_rows (c := c1) (d := pc) h1 (hli.step hb) (by omega))
      have HCo := Lib.hid (fun W (hb : Below wr.heap.size wr W) => Count_len (TT.out.seg.step hb))
      have HEp := Lib.hid (fun W (hb : Below wr.heap.size wr W) => Epoch (TT.out.seg.step hb))
      have HRw := Lib.hid (fun W (hb : Below wr.heap.size wr W) => HRd.out W (TT.out.bel.trans (hb.mono TT.out.bel.size)))
      have HRo := Lib.hid (fun W (hb : Below wr.heap.size wr W) => SegL.Root (TT.out.seg.step hb) HG.out (HRw.out W hb))
      have HLs := Lib.hid (fun W (hb : Below wr.heap.size wr W) => (⟨rfl, by unfold maxLen; omega, good_fit HG.out, hli.step hb⟩ : Lvs W p (lvs C 4096).length (lvs C 4096)))
      have HHs := Lib.hid (fun W (hb : Below wr.heap.size wr W) => PrfH.Hashes p (lvs C 4096).length pc (lvs C 4096) W (HLs.out W hb) (by omega))
      have HMr := Lib.hid (fun Bs a5 c5 W ho => root_of (l := lvs C 4096) (B := Bs) (a := a5) (c := c5) (W := W) (by omega) ho)
      have HPo := Lib.hid (fun (hb : 0 ≤ lba ∧ lba ≤ 4095) W (h1 : Below wr.heap.size wr W) => SegL.Prove_ok (TT.out.seg.step h1) HG.out (HRw.out W h1) lba hb)
      have HPn := Lib.hid (fun (hb : ¬ (0 ≤ lba ∧ lba ≤ 4095)) W (h1 : Below wr.heap.size wr W) => SegL.Prove_no (TT.out.seg.step h1) HG.out (HRw.out W h1) lba hb)
      have HPr := Lib.hid (fun W (hb : Below wr.heap.size wr W) => PrfP.Prove p (lvs C 4096).length pc (lvs C 4096) lba W (HLs.out W hb) (by omega))
      have HS2 := Lib.hid (fun x y B B' W => same_two (l := lvs C 4096) (b := lba) (x := x) (y := y) (B := B) (B' := B') (W := W) (by omega))
      have HSz0 := Lib.hid (fun W => same_zero W)
      have HSt := Lib.hid (fun W (hb : Below wr.heap.size wr W) => (hsg.step hb).cells)
      have BS := Lib.hid ((Below.refl wr.heap.size wr).drew)
      have hS : wr.drew.cell? ⟨R, 0, none⟩ = some (.int .i64 ep) ∧ wr.drew.cell? ⟨R, 1, none⟩ = some (.slice p (lvs C 4096).length pc) := HSt.out _ BS.out
      have BT := Lib.hid TT.out.bel
      clear hsg hown hli HLs HRw HRd HG TT
      generalize rt (lvs C 4096) = r at *
      generalize prove (lvs C 4096) lba = pr at *
      generalize hs (lvs C 4096) = H at *
      generalize lvs C 4096 = q at *
      dsimp only [zeroRaw, Raw.cells] at HSz0
      go_region_held3 (fun W => W.cell? ⟨R, 0, none⟩ = some (.int .i64 ep) ∧ W.cell? ⟨R, 1, none⟩ = some (.slice p q.length pc))
        (first | exact hS)
        (first
          | (go_at_call 12; refine (HLv.out _ BS.out).mono ?_; rintro e w5 ⟨p5, c5, rfl, ho, hb⟩; have L5 := Lib.hid (own_lies ho); replace BS := Lib.hid (BS.out.trans (hb.mono BS.out.size)); replace hS := HSt.out _ BS.out; clear hb ho)
          | (go_at_call 11; refine (HSm.out p5 c5 _ L5.out BS.out).mono ?_; rintro e w6 ⟨rfl, hb⟩; replace BS := Lib.hid (BS.out.trans (hb.mono BS.out.size)); replace hS := HSt.out _ BS.out; clear hb)
          | (go_at_call 13; refine (HCo.out _ BS.out).mono ?_; rintro e _ ⟨rfl, rfl⟩)
          | (go_at_call 14; refine (HEp.out _ BS.out).mono ?_; rintro e _ ⟨rfl, rfl⟩)
          | (go_at_call 15; refine (HRo.out _ BS.out).mono ?_; rintro e w7 ⟨rfl, hb⟩; replace BS := Lib.hid (BS.out.trans (hb.mono BS.out.size)); replace hS := HSt.out _ BS.out; clear hb)
          | (go_at_call 17; refine (HHs.out _ BS.out).mono ?_; rintro e w8 ⟨a8, c8, rfl, ho, hb⟩; have O8 := Lib.hid ho; replace BS := Lib.hid (BS.out.trans (hb.mono BS.out.size)); replace hS := HSt.out _ BS.out; clear hb ho)
          | (go_at_call 16; refine (HMr.out _ _ _ _ O8.out).mono ?_; rintro e w9 ⟨rfl, hb⟩; replace BS := Lib.hid (BS.out.trans (hb.mono BS.out.size)); replace hS := HSt.out _ BS.out; clear hb))
      clear HLv HSm HCo HEp HRo HHs HMr hS O8 L5
      go_upto_region 17 with fail
      by_cases hb : 0 ≤ lba ∧ lba ≤ 4095
      · have e1 : decide (lba < 0) = false := decide_eq_false (by omega)
        have e2 : decide (4095 < lba) = false := decide_eq_false (by omega)
        have e3 : 0 ≤ lba := hb.1
        have e4 : lba ≤ 4095 := hb.2
        have HPo1 := Lib.hid (HPo.out hb)
        clear hb HPo HPn
        go_upto_region 18 with (first
          | (go_at_call 18; refine (HPo1.out _ BS.out).mono ?_; rintro e wa ⟨x, rfl, hx, ho1, ho2, hb⟩; have HX := Lib.hid hx; have O1 := Lib.hid ho1; have O2 := Lib.hid ho2; have Ba := Lib.hid (BS.out.trans (hb.mono BS.out.size)); clear hb hx ho1 ho2)
          | (refine wpList_store_row rfl 48 _ _ rfl wa.heap.size x.cells rfl rfl 48 _ (heap_alloc_new wa _) infoP rfl (oneP _) ?_))
        generalize hW : World.setRow _ _ _ = Wb
        have bb : Below wa.heap.size wa Wb := by rw [← hW]; exact kept_new wa _ _ _
        have BX := Lib.hid (show PrgC.BoxP wa.heap.size x Wb by rw [← hW]; exact has_new wa _ _ _)
        have Bb := Lib.hid (Ba.out.trans (bb.mono Ba.out.size))
        replace O1 := Lib.hid (MerJ.own_later O1.out bb)
        replace O2 := Lib.hid (MerJ.own_later O2.out bb)
        clear hW bb Ba BS HPo1
        go_upto_region 20 with fail
        have HSu := Lib.hid (fun W (hb : Below Wb.heap.size Wb W) => HSt.out W (Bb.out.trans (hb.mono Bb.out.size)))
        have HSv : Hid (∀ W, Below Wb.heap.size Wb W → ((W.cell? ⟨wa.heap.size, 0, none⟩ = some (.bool x.f) ∧ W.cell? ⟨wa.heap.size, 1, none⟩ = some (.int .i64 x.at_) ∧ W.cell? ⟨wa.heap.size, 2, none⟩ = some (.int .i64 x.here.1) ∧ W.cell? ⟨wa.heap.size, 3, none⟩ = some (st x.here.2) ∧ W.cell? ⟨wa.heap.size, 4, none⟩ = some (.int .i64 x.ahead.1) ∧ W.cell? ⟨wa.heap.size, 5, none⟩ = some (st x.ahead.2) ∧ W.cell? ⟨wa.heap.size, 6, none⟩ = some (.slice x.ua x.up.length x.uc) ∧ W.cell? ⟨wa.heap.size, 7, none⟩ = some (.slice x.la x.left.length x.lc)) ∧ W.cell? ⟨R, 0, none⟩ = some (.int .i64 ep) ∧ W.cell? ⟨R, 1, none⟩ = some (.slice p q.length pc))) := Lib.hid fun W hb => ⟨(BX.out.step hb).cells, HSu.out W hb⟩
        have HSm1 := Lib.hid (fun y B W (hy : pf y = pr) (h1 : W.ownsRow B 9 1 (.slice y.ua y.up.length y.uc) y.up.length (y.up.map st)) (h2 : W.ownsRow B 9 1 (.slice y.la y.left.length y.lc) y.left.length (y.left.map st)) (hb : Below Wb.heap.size Wb W) => HS2.out x y _ _ W HX.out hy (MerJ.own_later O1.out hb) (MerJ.own_later O2.out hb) h1 h2)
        have HPr1 := Lib.hid (fun W (hb : Below Wb.heap.size Wb W) => HPr.out W (Bb.out.trans (hb.mono Bb.out.size)))
        have Bc := Lib.hid (BT.out.trans (Bb.out.mono BT.out.size))
        have HA1 := Lib.hid (fun W (hb : Below Wb.heap.size Wb W) => HA.out W (Bc.out.trans (hb.mono Bc.out.size)))
        have BS := Lib.hid ((Below.refl Wb.heap.size Wb).drew)
        have hS : ((Wb.drew.cell? ⟨wa.heap.size, 0, none⟩ = some (.bool x.f) ∧ Wb.drew.cell? ⟨wa.heap.size, 1, none⟩ = some (.int .i64 x.at_) ∧ Wb.drew.cell? ⟨wa.heap.size, 2, none⟩ = some (.int .i64 x.here.1) ∧ Wb.drew.cell? ⟨wa.heap.size, 3, none⟩ = some (st x.here.2) ∧ Wb.drew.cell? ⟨wa.heap.size, 4, none⟩ = some (.int .i64 x.ahead.1) ∧ Wb.drew.cell? ⟨wa.heap.size, 5, none⟩ = some (st x.ahead.2) ∧ Wb.drew.cell? ⟨wa.heap.size, 6, none⟩ = some (.slice x.ua x.up.length x.uc) ∧ Wb.drew.cell? ⟨wa.heap.size, 7, none⟩ = some (.slice x.la x.left.length x.lc)) ∧ Wb.drew.cell? ⟨R, 0, none⟩ = some (.int .i64 ep) ∧ Wb.drew.cell? ⟨R, 1, none⟩ = some (.slice p q.length pc)) := HSv.out _ BS.out
        clear HSt HSu HS2 HPr HA O1 O2 HX Bb BX
        go_region_held3 (fun W => ((W.cell? ⟨wa.heap.size, 0, none⟩ = some (.bool x.f) ∧ W.cell? ⟨wa.heap.size, 1, none⟩ = some (.int .i64 x.at_) ∧ W.cell? ⟨wa.heap.size, 2, none⟩ = some (.int .i64 x.here.1) ∧ W.cell? ⟨wa.heap.size, 3, none⟩ = some (st x.here.2) ∧ W.cell? ⟨wa.heap.size, 4, none⟩ = some (.int .i64 x.ahead.1) ∧ W.cell? ⟨wa.heap.size, 5, none⟩ = some (st x.ahead.2) ∧ W.cell? ⟨wa.heap.size, 6, none⟩ = some (.slice x.ua x.up.length x.uc) ∧ W.cell? ⟨wa.heap.size, 7, none⟩ = some (.slice x.la x.left.length x.lc)) ∧ W.cell? ⟨R, 0, none⟩ = some (.int .i64 ep) ∧ W.cell? ⟨R, 1, none⟩ = some (.slice p q.length pc)))
          (first | exact hS)
          (first
            | (go_at_call 20; refine (HPr1.out _ BS.out).mono ?_; rintro e wd ⟨y, rfl, hy, p1, p2, hb⟩; have HY := Lib.hid hy; have P1 := Lib.hid p1; have P2 := Lib.hid p2; replace BS := Lib.hid (BS.out.trans (hb.mono BS.out.size)); replace hS := HSv.out _ BS.out; clear hb hy p1 p2)
            | (go_at_call 19; refine (HSm1.out y _ _ HY.out P1.out P2.out BS.out).mono ?_; rintro e we ⟨rfl, hb⟩; replace BS := Lib.hid (BS.out.trans (hb.mono BS.out.size)); replace hS := HSv.out _ BS.out; clear hb)
            | (go_at_call 7; refine (HA1.out _ BS.out).mono ?_; rintro e wf ⟨rfl, hb⟩; replace BS := Lib.hid (BS.out.trans (hb.mono BS.out.size)); replace hS := HSv.out _ BS.out; clear hb))
        have Bz := Lib.hid (Bc.out.trans (BS.out.mono Bc.out.size))
        clear BS hS HSv
        go_wp2_with fail
        go_ret
        exact ⟨rfl, Bz.out⟩
      · have HPn1 := Lib.hid (HPn.out hb)
        have HO := Lib.hid hb
        clear HPo HPn HSt HS2 HPr
        go_upto_region 18 with (first
          | (go_at_call 18; refine (HPn1.out _ BS.out).mono ?_; rintro e wa ⟨rfl, hb⟩; have Ba := Lib.hid (BS.out.trans (hb.mono BS.out.size)); clear hb)
          | (refine wpList_store_row rfl 48 _ _ rfl wa.heap.size zeroRaw.cells rfl rfl 48 _ (heap_alloc_new wa _) infoP rfl (oneP _) ?_))
        generalize hW : World.setRow _ _ _ = Wb
        have bb : Below wa.heap.size wa Wb := by rw [← hW]; exact kept_new wa _ _ _
        have BX := Lib.hid (show PrgC.BoxP wa.heap.size zeroRaw Wb by rw [← hW]; exact has_new wa _ _ _)
        have Bb := Lib.hid (BT.out.trans ((Ba.out.trans (bb.mono Ba.out.size)).mono BT.out.size))
        clear hW bb Ba BS HPn1 hb
        obtain ⟨c0, c1, c2, c3, c4, c5, c6, c7⟩ := BX.out.cells
        dsimp only [zeroRaw] at c0 c1 c2 c3 c4 c5 c6 c7
        by_cases h0 : lba < 0
        · have e1 : decide (lba < 0) = true := decide_eq_true h0
          go_wp2_with (first
            | (refine wpList_load_row rfl 48 _ rfl wa.heap.size rfl 48 _ (0, 0) _ BX.out Tryz.underlying48 rfl infoP ?_)
            | (go_at_call 19; refine (HSz0.out _).mono ?_; rintro e we ⟨rfl, hb⟩; have Be := Lib.hid (Bb.out.trans (hb.mono Bb.out.size)); clear hb)
            | (go_at_call 7; refine (HA.out _ Be.out).mono ?_; rintro e wf ⟨rfl, hb⟩; have Bf := Lib.hid (Be.out.trans (hb.mono Be.out.size)); clear hb))
          go_ret
          exact ⟨rfl, Bf.out⟩
        · have e1 : decide (lba < 0) = false := decide_eq_false h0
          have e2 : decide (4095 < lba) = true := decide_eq_true (by have := HO.out; omega)
          have e3 : 4095 < lba := by have := HO.out; omega
          go_wp2_with (first
            | (refine wpList_load_row rfl 48 _ rfl wa.heap.size rfl 48 _ (0, 0) _ BX.out Tryz.underlying48 rfl infoP ?_)
            | (go_at_call 19; refine (HSz0.out _).mono ?_; rintro e we ⟨rfl, hb⟩; have Be := Lib.hid (Bb.out.trans (hb.mono Bb.out.size)); clear hb)
            | (go_at_call 7; refine (HA.out _ Be.out).mono ?_; rintro e wf ⟨rfl, hb⟩; have Bf := Lib.hid (Be.out.trans (hb.mono Be.out.size)); clear hb))
          go_ret
          exact ⟨rfl, Bf.out⟩
theorem walk (ep : Int) (a : Option Addr) (n c : Nat) (l : List A) (lba : Int) (w : World) (w0 : (Lit.int .i64 ep).wf = true) (h : Acts w a n l) (hsz : ∀ x ∈ l, x.2.2.length ≤ reachBytes) (w2 : (Lit.int .i64 lba).wf = true) (hr : Rds w) : Calls Tryz.prog 3 #[.int .i64 ep, .slice a n c, .int .i64 lba] w fun e w' => e = .returned (.bool true) ∧ Below w.heap.size w w' := by
  cases hf : fewB l with
  | false => exact many ep a n c l lba w h hsz hr hf
  | true =>
    by_cases he : 0 ≤ ep ∧ ep ≤ 4294967295
    · exact in_ ep a n c l lba w h hsz hr hf he
    · exact out ep a n c l lba w h hsz hr hf he
theorem own : ownKnob Tryz.prog.godebug = none := by kernel_rfl
theorem laidOut : laidOutB Tryz.prog = true := by kernel_rfl
set_option maxRecDepth 100000 in
theorem lifted (os : Os) (started : os.Started) (H : Type) (enc : TypeId × Value → H) :
    ReturnsInHanded {} Tryz.checked os 3 .any (fun w args => (Rows.segmentPlaysSpec.pre enc Tryz.prog Tryz.f3 Rows.segmentPlaysRow.domain false w args ∧ laidMetH Tryz.prog Rows.segmentPlaysRow.laid w) ∧ sizedMet enc Tryz.prog Tryz.f3 (OpenSpec.ofChange Rows.segmentPlaysSpec) false w args) (Rows.segmentPlaysSpec.post enc Tryz.prog Tryz.f3 false true false false) := by
  refine returnsInHanded_of_change_and (C := Tryz.checked) (X := fun w _ => laidMetH Tryz.prog Rows.segmentPlaysRow.laid w) (fun _ _ _ hh h => h.of_heap hh) own started (by kernel_rfl) Tryz.func3
    (ChangeSpec.witness_shaped (enc := enc) (C := Tryz.checked) (os := os) (X := fun w _ => laidMetH Tryz.prog Rows.segmentPlaysRow.laid w) false (World.doorLaid Tryz.prog 400 os) #[.int .i64 0, .slice none 0 0, .int .i64 0] 8 rfl (World.shaped_of_RefB (by kernel_rfl) (by kernel_rfl)) (by kernel_rfl) (by kernel_rfl) (by kernel_rfl) (SLaid.door_met os _)) ?_
  intro W base args ds gs before hval0 hW _ hZ hL _
  have hr := SLaid.of_laid hL
  have hval : ∀ (j : Nat) t v, Tryz.f3.params[j]? = some t → args[j]? = some v → Value.okWide Tryz.prog W .any base t v := hval0
  have hW' := hW
  obtain ⟨p, q, hA0, hV, rfl, hfz, hnd⟩ := hW
  have hA : DataW.TrodAll enc Tryz.prog W 0 (fun _ => true) true Tryz.f3.params.toList args.toList ds p := hA0
  rw [Tryz.params3] at hA hval
  obtain ⟨v0, vs0, d0, ds0, p0, q0, hargs, rfl, rfl, h0, r0⟩ := trodAll_cons hA
  obtain ⟨v1, vs1, d1, ds1, p1, q1, rfl, rfl, rfl, h1, r1⟩ := trodAll_cons r0
  obtain ⟨v2, vs2, d2, ds2, p2, q2, rfl, rfl, rfl, h2, r2⟩ := trodAll_cons r1
  obtain ⟨rfl, rfl, rfl⟩ := trodAll_nil r2
  obtain rfl : args = #[v0, v1, v2] := by cases args; simp_all
  obtain ⟨rfl, rfl⟩ := trodVars_none hV
  obtain ⟨a0, rfl, rfl, rfl, w0⟩ := open_int Tryz.underlying3 (hval 0 3 v0 rfl rfl) h0
  have k1 := h1
  have lt1 : ∀ x ∈ p1, x.block < W.heap.size := by obtain ⟨m, hm⟩ := k1; exact DataW.trod_lt m _ _ _ hm
  obtain ⟨b1, len1, ca1, rfl⟩ := okWide_slice Tryz.underlying22 (hval 1 22 v1 rfl rfl)
  obtain ⟨a1, n1, cap1, z1, he1, w1, sz1⟩ := SegM.open_acts h1
  simp only [Value.cells, List.cons.injEq, Value.slice.injEq, and_true] at he1
  obtain ⟨rfl, rfl, rfl⟩ := he1
  obtain ⟨a2, rfl, rfl, rfl, w2⟩ := open_int Tryz.underlying3 (hval 2 3 v2 rfl rfl) h2
  have s1 := sz1 (fun n hn => by
    have := List.all_eq_true.1 hZ n (DataW.weights_mem_each (j := 1) (t := 22) (d := d1) (by rw [Tryz.params3]; rfl) rfl n hn)
    simpa using this)
  clear hA0 hval0
  refine (walk a0 b1 len1 ca1 z1 a2 W w0 w1 s1 w2 hr).mono fun e W' ⟨he, bel⟩ => ?_
  subst he
  exact ⟨_, rfl, _, _, _, [], _, [], hW', trodAll_mk1 (shut_bool Tryz.underlying4 _), (trodAll_cons_mk (shut_int Tryz.underlying3 w0) (trodAll_cons_mk (Below.trod laidOut (by kernel_rfl) (of_decide_eq_true (by kernel_rfl)) k1 bel lt1) (trodAll_cons_mk (shut_int Tryz.underlying3 w2) trodAll_mk0))), rfl, bel.frame _, fun h => by cases h⟩
theorem over : Rows.segmentPlaysRow.holds Tryz.pinned (OpenSpec.ofChange Rows.segmentPlaysSpec) :=
  OpenClaim.holds_of_wide 3 Tryz.f3 rfl rfl rfl rfl rfl rfl rfl ⟨rfl, rfl, rfl, rfl, rfl⟩ rfl rfl rfl rfl rfl (by kernel_rfl) Tryz.func3 (by kernel_rfl)
    (of_decide_eq_true (by kernel_rfl)) (by unfold Func.isWrapper; first | (rw [if_pos (by decide +kernel)]; kernel_rfl) | (rw [if_neg (by decide +kernel)]; exact ⟨rfl, rfl⟩))
    (fun os started H enc _ => lifted os started H enc)
/-- THE STATEMENT, proved. -/
theorem proved : Rows.SegmentPlaysCardSaid :=
  Claim7.holds_tied_plain_at .later [] _ true _ false
    over (fun _ h => by cases h) (by kernel_rfl) (fun _ h => by cases h) segmentPlays_row_tie rfl ⟨rfl, rfl⟩ (by kernel_rfl) rfl
    (fun f fn hf hfn => by
      obtain rfl : f = 3 := Option.some.inj ((show Tryz.prog.funcNamed "keepsake/keepsakelaw17.SegmentPlays" = some 3 by kernel_rfl).symm.trans hf) |>.symm
      obtain rfl : fn = Tryz.f3 := (Option.some.inj (Tryz.func3.symm.trans hfn)).symm
      exact ⟨by kernel_rfl, fun j t ht => by
        rw [Tryz.params3] at ht
        have hm : t ∈ [3, 22, 3] := by simpa using Array.mem_of_getElem? ht
        have hall : ([3, 22, 3].all fun u => !Tryz.prog.wantsStandIn u) = true := by kernel_rfl
        exact (show Tryz.prog.wantsStandIn t = false by simpa using List.all_eq_true.1 hall t hm)⟩)
    (by kernel_rfl)
#print axioms proved
end Go.Proofs.YtdkcebaehdkphaaGreatDoor.segmentPlays
