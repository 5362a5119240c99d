/- ProofProves: at any leaves (at most 60, of at most 8,000 bytes of hashes), any numbers and any cipher (at most 1,000 bytes; else: the chapter's example alone, as the statement has it): the hash of data, what leaves say, whether leaves are right, their root and a place's proof are the document's. The condition: the rounds' numbers lie in the program's variable (the card ties it to the program's text). -/
import Derived.Test.YtcadfpaihfaabaaGreatDoorPrgD
import Derived.Test.YtcadfpaihfaabaaGreatDoorLPrgH
import Derived.Test.YtcadfpaihfaabaaGreatDoorPrgAl
import Derived.Test.YtcadfpaihfaabaaGreatDoorPrfF
import Derived.Test.YtcadfpaihfaabaaGreatDoorLPrfA
import Derived.Test.YtcadfpaihfaabaaGreatDoorPrfW
import Derived.Test.YtcadfpaihfaabaaGreatDoorPrfP
import Derived.Test.YtcadfpaihfaabaaGreatDoorPrfE
import Derived.Test.YtcadfpaihfaabaaGreatDoorMerI
import Derived.Test.YtcadfpaihfaabaaGreatDoorRows
import Derived.Test.YtcadfpaihfaabaaGreatDoorTie
import Derived.Test.YtcadfpaihfaabaaGreatDoorCards
import Derived.Test.YtcadfpaihfaabaaGreatDoorSLaid
import Derived.WalkKit
import Derived.ProofKit
import Derived.OpenShut
import Derived.ShutString
import Derived.ChangeOld
import Derived.Below
import Derived.LaidMore
import Derived.SevenTiedAt
import Derived.Stop.Joined
namespace Go.Proofs.YtcadfpaihfaabaaGreatDoor.proofProves
open Go.ChangeShapes Go.WideShapes Go.ChangeAt Go.RowKit
open Go.ChangeMaps (open_string shut_string)
set_option linter.unusedVariables false
open STurn SSum PrfL PrfN PrfM PrfB PrfG PrfF PrgN PrgC PrgK PrgP PrgQ PrgR PrgD PrfD MerQ MerM MerN MerC MerA MerJ MerR MerW
theorem fit_no : Fit no := by unfold Fit maxLen; simp
theorem same_zero (W : World) : Calls Tryz.prog 14 #[.agg zeroRaw.cells, .agg zeroRaw.cells] W fun e w' => e = .returned (.bool true) ∧ Below W.heap.size W w' := by
  have := PrfE.Same zeroRaw zeroRaw W ⟨rfl, fun h => absurd h (by decide)⟩ ⟨rfl, fun h => absurd h (by decide)⟩ ⟨rfl, fun h => absurd h (by decide)⟩ ⟨rfl, fun h => absurd h (by decide)⟩ (by decide) (by decide) (by decide) (by decide)
  rwa [show sameB zeroRaw zeroRaw = true by decide] at this
theorem root_of {l : List Lf} (hn : l.length ≤ 100000) {B : Nat} {a : Option Addr} {c : Nat} {W : World} (ho : W.ownsRow B 9 1 (.slice a (hs l).length c) (hs l).length ((hs l).map str)) : Calls Tryz.prog 15 #[.slice a (hs l).length c] W fun e w' => e = .returned (str (rt l)) ∧ Below W.heap.size W w' := by
  have h3 : (hs l).length ≤ 1000000 := by rw [hs_length]; omega
  exact MerI.Root (hs l).length a c (hs l) W rfl (PrfP.own_cap ho) h3 (own_strs ho) (all32_at (hs_32 l))
theorem path_short {l : List Lf} {i : Nat} (h : i < l.length) : (pathN nd (hs l) i).length ≤ l.length := by
  rw [pathN_length nd (by rw [hs_length]; exact h)]
  exact Nat.le_trans (long_le _ _ _) (by rw [hs_length]; omega)
theorem prove_short {l : List Lf} {b : Int} {x : Raw} (hx : pf x = prove l b) : x.up.length ≤ l.length ∧ x.left.length ≤ l.length := by
  have hle := plc_le l b
  have eu : x.up = (prove l b).up := by rw [← hx]; rfl
  have el : x.left = (prove l b).left := by rw [← hx]; rfl
  constructor
  · rw [eu]; unfold prove; dsimp only
    split
    · rename_i h; exact path_short h
    · simp
  · rw [el]; unfold prove; dsimp only
    split
    · rename_i h; exact path_short (by omega)
    · simp
theorem same_pf {x y : Raw} (h : pf x = pf y) : sameB x y = true := by
  unfold pf at h
  injection h with e1 e2 e3 e4 e5 e6
  unfold sameB
  simp [e1, e2, e3, e4, e5, e6]
theorem same_two {l : List Lf} {b : Int} {x y : Raw} {B B' : Nat} {W : World} (hn : l.length ≤ 100000) (hx : pf x = prove l b) (hy : pf y = prove l b)
    (o1 : W.ownsRow B 9 1 (.slice x.ua x.up.length x.uc) x.up.length (x.up.map str)) (o2 : W.ownsRow B 9 1 (.slice x.la x.left.length x.lc) x.left.length (x.left.map str))
    (p1 : W.ownsRow B' 9 1 (.slice y.ua y.up.length y.uc) y.up.length (y.up.map str)) (p2 : W.ownsRow B' 9 1 (.slice y.la y.left.length y.lc) y.left.length (y.left.map str)) :
    Calls Tryz.prog 14 #[.agg x.cells, .agg y.cells] W fun e w' => e = .returned (.bool true) ∧ Below W.heap.size W w' := by
  have hx1 := prove_short hx
  have hy1 := prove_short hy
  have := PrfE.Same x y W (own_strs o1) (own_strs o2) (own_strs p1) (own_strs p2) (by omega) (by omega) (by omega) (by omega)
  rwa [same_pf (hx.trans hy.symm)] at this
set_option maxRecDepth 100000 in
set_option maxHeartbeats 8000000 in
theorem out (b : Option Addr) (n c : Nat) (l : List Lf) (lba ep sl : Int) (s : L) (w : World) (h : Lvs w b n l) (h1 : ep ≤ 9223372036854775807) (h2 : sl ≤ 9223372036854775807) (hr : Rds w) (hf : fewB l zeroRaw = false) :
    Calls Tryz.prog 3 #[.slice b n c, .int .i64 lba, .int .i64 ep, .int .i64 sl, st s] w fun e w' => e = .returned (.bool true) ∧ Below w.heap.size w w' := by
  have HF := Lib.hid (Few b n c l zeroRaw w h ⟨rfl, fun h => absurd h (by decide)⟩ ⟨rfl, fun h => absurd h (by decide)⟩ (by decide) (by decide) fit_no fit_no)
  rw [hf] at HF
  dsimp only [zeroRaw, Raw.cells] at HF
  have HA := Lib.hid (fun W (hb : Below w.heap.size w W) => PrgAl.alive W (hr.step hb))
  clear h hr hf h1 h2
  go_enter Tryz.func3, Tryz.ntmps3
  go_wp2_with (first
    | (go_at_call 4; refine HF.out.mono ?_; rintro e w1 ⟨rfl, hb⟩; have B1 := Lib.hid hb; clear hb)
    | (go_at_call 5; refine (HA.out _ B1.out).mono ?_; rintro e w2 ⟨rfl, hb⟩; have B2 := Lib.hid (B1.out.trans (hb.mono B1.out.size)); clear hb))
  go_ret
  exact ⟨rfl, B2.out⟩
set_option maxRecDepth 100000 in
set_option maxHeartbeats 8000000 in
theorem long (b : Option Addr) (n c : Nat) (l : List Lf) (lba ep sl : Int) (s : L) (w : World) (h : Lvs w b n l) (h1 : ep ≤ 9223372036854775807) (h2 : sl ≤ 9223372036854775807) (hr : Rds w) (hf : fewB l zeroRaw = true) (hl : 1000 < s.length) :
    Calls Tryz.prog 3 #[.slice b n c, .int .i64 lba, .int .i64 ep, .int .i64 sl, st s] w fun e w' => e = .returned (.bool true) ∧ Below w.heap.size w w' := by
  have HF := Lib.hid (Few b n c l zeroRaw w h ⟨rfl, fun h => absurd h (by decide)⟩ ⟨rfl, fun h => absurd h (by decide)⟩ (by decide) (by decide) fit_no fit_no)
  rw [hf] at HF
  dsimp only [zeroRaw, Raw.cells] at HF
  have HA := Lib.hid (fun W (hb : Below w.heap.size w W) => PrgAl.alive W (hr.step hb))
  have d1 : decide ((1000 : Int) < (s.length : Int)) = true := decide_eq_true (by omega)
  have d2 : (1000 : Int) < (s.length : Int) := by omega
  clear h hr hf h1 h2
  go_enter Tryz.func3, Tryz.ntmps3
  go_wp2_with (first
    | (go_at_call 4; refine HF.out.mono ?_; rintro e w1 ⟨rfl, hb⟩; have B1 := Lib.hid hb; clear hb)
    | (go_at_call 5; refine (HA.out _ B1.out).mono ?_; rintro e w2 ⟨rfl, hb⟩; have B2 := Lib.hid (B1.out.trans (hb.mono B1.out.size)); clear hb))
  go_ret
  exact ⟨rfl, B2.out⟩
set_option maxRecDepth 100000 in
set_option maxHeartbeats 8000000 in
theorem bad (b : Option Addr) (n c : Nat) (l : List Lf) (lba ep sl : Int) (s : L) (w : World) (h : Lvs w b n l) (h1 : ep ≤ 9223372036854775807) (h2 : sl ≤ 9223372036854775807) (hr : Rds w) (hf : fewB l zeroRaw = true) (hsl : s.length ≤ 1000) (hri : right l = false) (hc : canB l lba = false) :
    Calls Tryz.prog 3 #[.slice b n c, .int .i64 lba, .int .i64 ep, .int .i64 sl, st s] w fun e w' => e = .returned (.bool true) ∧ Below w.heap.size w w' := by
  have hn : n ≤ 100000 := by have := (few_in hf).1; rw [h.1] at this; omega
  have hln := h.1
  have HF := Lib.hid (Few b n c l zeroRaw w h ⟨rfl, fun h => absurd h (by decide)⟩ ⟨rfl, fun h => absurd h (by decide)⟩ (by decide) (by decide) fit_no fit_no)
  rw [hf] at HF
  dsimp only [zeroRaw, Raw.cells] at HF
  have HA := Lib.hid (fun W (hb : Below w.heap.size w W) => PrgAl.alive W (hr.step hb))
  have HDp := Lib.hid (fun W (hb : Below w.heap.size w W) => PrgD.Data ep sl s W (by omega) (hr.step hb))
  have HDr := Lib.hid (fun W => PrfD.Data ep sl s W h1 h2 hsl)
  have HRo := Lib.hid (fun W (hb : Below w.heap.size w W) => Root b n c l W ⟨h.1, h.2.1, h.2.2.1, h.2.2.2.step hb⟩ hn (hr.step hb))
  have HRi := Lib.hid (fun W (hb : Below w.heap.size w W) => PrfW.Right b n c l W ⟨h.1, h.2.1, h.2.2.1, h.2.2.2.step hb⟩)
  have HCh := Lib.hid (fun W (hb : Below w.heap.size w W) => PrgK.Check b n c l W ⟨h.1, h.2.1, h.2.2.1, h.2.2.2.step hb⟩)
  have HSp := Lib.hid (fun k (hk : k < n) W => PrgK.Said (l.getD k no) W (h.2.2.1 _ (by rw [at_d _ (by omega)]; exact List.getElem_mem _)))
  have HSr := Lib.hid (fun k (hk : k < n) W => PrfS.Said (l.getD k no) W (h.2.2.1 _ (by rw [at_d _ (by omega)]; exact List.getElem_mem _)))
  have HL := Lib.hid (fun W (hb : Below w.heap.size w W) => h.2.2.2.step hb)
  have HSm := Lib.hid (fun W => same_zero W)
  dsimp only [zeroRaw, Raw.cells] at HSm
  have HP := Lib.hid (fun W (hb : Below w.heap.size w W) => Prove_no b n c l lba W ⟨h.1, h.2.1, h.2.2.1, h.2.2.2.step hb⟩ hn (hr.step hb) hc)
  unfold rootP at HRo
  simp only [hri, Bool.false_eq_true, if_false] at HRo HRi HCh
  generalize dataR ep sl s = d at *
  obtain ⟨t, q⟩ := d
  have HTT := Lib.hid (show (t == t) = true by simp)
  have hsz : (s.length : Int) ≤ 1000 := by omega
  clear h hr hf hc hri h1 h2
  cases q <;> dsimp only at HDp HDr
  case true =>
    go_enter Tryz.func3, Tryz.ntmps3
    go_upto_region 7 with (first
      | (go_at_call 4; refine HF.out.mono ?_; rintro e w1 ⟨rfl, hb⟩; have B1 := Lib.hid hb; clear hb)
      | (go_at_call 6; refine (HDp.out _ B1.out).mono ?_; rintro e w2 ⟨rfl, hb⟩; have B2 := Lib.hid (B1.out.trans (hb.mono B1.out.size)); clear hb)
      | (go_at_call 7; refine (HDr.out _).mono ?_; rintro e w3 ⟨rfl, hb⟩; have B3 := Lib.hid (B2.out.trans (hb.mono B2.out.size)); clear hb)
      | (go_at_call 8; refine (HRo.out _ B3.out).mono ?_; rintro e w4 ⟨rfl, hb⟩; have B4 := Lib.hid (B3.out.trans (hb.mono B3.out.size)); clear hb)
      | (go_at_call 9; refine (HP.out _ B4.out).mono ?_; rintro e w5 ⟨rfl, hb⟩; have B5 := Lib.hid (B4.out.trans (hb.mono B4.out.size)); clear hb)
      | (refine wpList_store_row rfl 29 _ _ rfl w5.heap.size zeroRaw.cells rfl rfl 29 _ (heap_alloc_new w5 _) infoP rfl (oneP _) ?_))
    generalize hW : World.setRow _ _ _ = W6
    have b6 : Below w5.heap.size w5 W6 := by rw [← hW]; exact kept_new w5 _ _ _
    have G6 := Lib.hid (show W6.heap[w5.heap.size]? = some (.cells zeroRaw.cells 29 (0, 0)) by rw [← hW]; exact has_new w5 _ _ _)
    have B6 := Lib.hid (B5.out.trans (b6.mono B5.out.size))
    have lt6 := (Array.getElem?_eq_some_iff.1 G6.out).1
    clear hW b6 HF HDp HDr HRo HP B1 B2 B3 B4 B5
    go_upto_region 9 with (fail)
    go_wp2_with fail
    go_loopw [75] (fun kv wr => ∃ k : Nat, k ≤ n ∧ kv = .int .i64 k ∧ Below W6.heap.size W6 wr) (fun kv _ => n - (intOf kv).toNat)
    case atStart => exact ⟨0, Nat.zero_le _, rfl, Below.refl _ _⟩
    case round =>
      obtain ⟨k, hk, rfl, hb⟩ := hrel
      have HB := Lib.hid hb
      have HBw := Lib.hid (B6.out.trans (hb.mono B6.out.size))
      clear hb
      by_cases hlt : k < n
      · obtain ⟨g, o, rfl, hg, hc⟩ := (HL.out _ HBw.out) (by omega)
        obtain ⟨c0, c1⟩ := hc k (by omega)
        have HSp1 := Lib.hid (HSp.out k hlt)
        have HSr1 := Lib.hid (HSr.out k hlt)
        generalize said (l.getD k no) = y at *
        generalize l.getD k no = x at *
        obtain ⟨x0, x1⟩ := x
        dsimp only at c0 c1 HSp1 HSr1
        have q0 : (0 : Int) ≤ (k : Int) := by omega
        have q1 : (k : Int) < (n : Int) := by omega
        clear hc hg HSp HSr
        go_upto_region 12 with (refine wpList_store_row rfl 25 _ _ rfl wr.heap.size _ rfl rfl 25 _ (heap_alloc_new wr _) infoL rfl (two x0 x1) ?_)
        generalize hW : World.setRow _ _ _ = W7
        have b7 : Below wr.heap.size wr W7 := by rw [← hW]; exact kept_new wr _ _ _
        have g7 : W7.heap[wr.heap.size]? = some (.cells #[.int .i64 x0, st x1] 25 (0, 0)) := by rw [← hW]; exact has_new wr _ _ _
        clear hW
        have k0 : W7.cell? ⟨wr.heap.size, 0, none⟩ = some (.int .i64 x0) := blk_cell g7 rfl
        have k1 : W7.cell? ⟨wr.heap.size, 1, none⟩ = some (st x1) := blk_cell g7 rfl
        have l7 : wr.heap.size < W7.heap.size := (Array.getElem?_eq_some_iff.1 g7).1
        have hS : W7.drew.cell? ⟨wr.heap.size, 0, none⟩ = some (.int .i64 x0) ∧ W7.drew.cell? ⟨wr.heap.size, 1, none⟩ = some (st x1) := ⟨k0, k1⟩
        have HSt : Hid (∀ W, Below W7.heap.size W7 W → W.cell? ⟨wr.heap.size, 0, none⟩ = some (.int .i64 x0) ∧ W.cell? ⟨wr.heap.size, 1, none⟩ = some (st x1)) := Lib.hid fun W hb => ⟨(hb.cell (p := ⟨wr.heap.size, 0, none⟩) l7).trans k0, (hb.cell (p := ⟨wr.heap.size, 1, none⟩) l7).trans k1⟩
        have B7 := Lib.hid (HB.out.trans (b7.mono HB.out.size))
        have BS := Lib.hid ((Below.refl W7.heap.size W7).drew)
        clear b7 g7 c0 c1 k0 k1 l7
        go_region_held3 (fun W => W.cell? ⟨wr.heap.size, 0, none⟩ = some (.int .i64 x0) ∧ W.cell? ⟨wr.heap.size, 1, none⟩ = some (st x1))
          (first | exact hS)
          (first
            | (go_at_call 10; refine (HSp1.out _).mono ?_; rintro e w8 ⟨rfl, hb⟩; replace BS := Lib.hid (BS.out.trans (hb.mono BS.out.size)); replace hS := HSt.out _ BS.out; clear hb)
            | (go_at_call 11; refine (HSr1.out _).mono ?_; rintro e w9 ⟨rfl, hb⟩; replace BS := Lib.hid (BS.out.trans (hb.mono BS.out.size)); replace hS := HSt.out _ BS.out; clear hb))
        have B8 := Lib.hid (B7.out.trans (BS.out.mono B7.out.size))
        clear BS HSt hS B7
        go_wp2_with fail
        go_roundw
        case rel => exact ⟨k + 1, by omega, by go_num, B8.out⟩
        case measure => simp [intOf]; omega
      · obtain rfl : k = n := by omega
        have BX := Lib.hid ((show PrgC.BoxP w5.heap.size zeroRaw W6 from G6.out).step HB.out)
        clear HSp HSr HL G6 B6
        go_wp2_with (first
          | (refine wpList_load_row rfl 29 _ rfl w5.heap.size rfl 29 _ (0, 0) _ BX.out Tryz.underlying29 rfl infoP ?_)
          | (go_at_call 12; refine (HRi.out _ HBw.out).mono ?_; rintro e w8 ⟨rfl, hb⟩; have B8 := Lib.hid (HBw.out.trans (hb.mono HBw.out.size)); replace BX := Lib.hid ((show PrgC.BoxP w5.heap.size zeroRaw _ from BX.out).step hb); clear hb)
          | (go_at_call 13; refine (HCh.out _ B8.out).mono ?_; rintro e w9 ⟨rfl, hb⟩; have B9 := Lib.hid (B8.out.trans (hb.mono B8.out.size)); obtain ⟨c0, c1, c2, c3, c4, c5, c6, c7⟩ := ((show PrgC.BoxP w5.heap.size zeroRaw _ from BX.out).step hb).cells; dsimp only [zeroRaw] at c0 c1 c2 c3 c4 c5 c6 c7; clear hb)
          | (go_at_call 14; refine (HSm.out _).mono ?_; rintro e w10 ⟨rfl, hb⟩; have B10 := Lib.hid (B9.out.trans (hb.mono B9.out.size)); clear hb)
          | (go_at_call 5; refine (HA.out _ B10.out).mono ?_; rintro e w11 ⟨rfl, hb⟩; have B11 := Lib.hid (B10.out.trans (hb.mono B10.out.size)); clear hb))
        go_ret
        exact ⟨rfl, B11.out⟩
  case false =>
    go_enter Tryz.func3, Tryz.ntmps3
    go_upto_region 7 with (first
      | (go_at_call 4; refine HF.out.mono ?_; rintro e w1 ⟨rfl, hb⟩; have B1 := Lib.hid hb; clear hb)
      | (go_at_call 6; refine (HDp.out _ B1.out).mono ?_; rintro e w2 ⟨rfl, hb⟩; have B2 := Lib.hid (B1.out.trans (hb.mono B1.out.size)); clear hb)
      | (go_at_call 7; refine (HDr.out _).mono ?_; rintro e w3 ⟨rfl, hb⟩; have B3 := Lib.hid (B2.out.trans (hb.mono B2.out.size)); clear hb)
      | (go_at_call 8; refine (HRo.out _ B3.out).mono ?_; rintro e w4 ⟨rfl, hb⟩; have B4 := Lib.hid (B3.out.trans (hb.mono B3.out.size)); clear hb)
      | (go_at_call 9; refine (HP.out _ B4.out).mono ?_; rintro e w5 ⟨rfl, hb⟩; have B5 := Lib.hid (B4.out.trans (hb.mono B4.out.size)); clear hb)
      | (refine wpList_store_row rfl 29 _ _ rfl w5.heap.size zeroRaw.cells rfl rfl 29 _ (heap_alloc_new w5 _) infoP rfl (oneP _) ?_))
    generalize hW : World.setRow _ _ _ = W6
    have b6 : Below w5.heap.size w5 W6 := by rw [← hW]; exact kept_new w5 _ _ _
    have G6 := Lib.hid (show W6.heap[w5.heap.size]? = some (.cells zeroRaw.cells 29 (0, 0)) by rw [← hW]; exact has_new w5 _ _ _)
    have B6 := Lib.hid (B5.out.trans (b6.mono B5.out.size))
    have lt6 := (Array.getElem?_eq_some_iff.1 G6.out).1
    clear hW b6 HF HDp HDr HRo HP B1 B2 B3 B4 B5
    go_upto_region 9 with (fail)
    go_wp2_with fail
    go_loopw [75] (fun kv wr => ∃ k : Nat, k ≤ n ∧ kv = .int .i64 k ∧ Below W6.heap.size W6 wr) (fun kv _ => n - (intOf kv).toNat)
    case atStart => exact ⟨0, Nat.zero_le _, rfl, Below.refl _ _⟩
    case round =>
      obtain ⟨k, hk, rfl, hb⟩ := hrel
      have HB := Lib.hid hb
      have HBw := Lib.hid (B6.out.trans (hb.mono B6.out.size))
      clear hb
      by_cases hlt : k < n
      · obtain ⟨g, o, rfl, hg, hc⟩ := (HL.out _ HBw.out) (by omega)
        obtain ⟨c0, c1⟩ := hc k (by omega)
        have HSp1 := Lib.hid (HSp.out k hlt)
        have HSr1 := Lib.hid (HSr.out k hlt)
        generalize said (l.getD k no) = y at *
        generalize l.getD k no = x at *
        obtain ⟨x0, x1⟩ := x
        dsimp only at c0 c1 HSp1 HSr1
        have q0 : (0 : Int) ≤ (k : Int) := by omega
        have q1 : (k : Int) < (n : Int) := by omega
        clear hc hg HSp HSr
        go_upto_region 12 with (refine wpList_store_row rfl 25 _ _ rfl wr.heap.size _ rfl rfl 25 _ (heap_alloc_new wr _) infoL rfl (two x0 x1) ?_)
        generalize hW : World.setRow _ _ _ = W7
        have b7 : Below wr.heap.size wr W7 := by rw [← hW]; exact kept_new wr _ _ _
        have g7 : W7.heap[wr.heap.size]? = some (.cells #[.int .i64 x0, st x1] 25 (0, 0)) := by rw [← hW]; exact has_new wr _ _ _
        clear hW
        have k0 : W7.cell? ⟨wr.heap.size, 0, none⟩ = some (.int .i64 x0) := blk_cell g7 rfl
        have k1 : W7.cell? ⟨wr.heap.size, 1, none⟩ = some (st x1) := blk_cell g7 rfl
        have l7 : wr.heap.size < W7.heap.size := (Array.getElem?_eq_some_iff.1 g7).1
        have hS : W7.drew.cell? ⟨wr.heap.size, 0, none⟩ = some (.int .i64 x0) ∧ W7.drew.cell? ⟨wr.heap.size, 1, none⟩ = some (st x1) := ⟨k0, k1⟩
        have HSt : Hid (∀ W, Below W7.heap.size W7 W → W.cell? ⟨wr.heap.size, 0, none⟩ = some (.int .i64 x0) ∧ W.cell? ⟨wr.heap.size, 1, none⟩ = some (st x1)) := Lib.hid fun W hb => ⟨(hb.cell (p := ⟨wr.heap.size, 0, none⟩) l7).trans k0, (hb.cell (p := ⟨wr.heap.size, 1, none⟩) l7).trans k1⟩
        have B7 := Lib.hid (HB.out.trans (b7.mono HB.out.size))
        have BS := Lib.hid ((Below.refl W7.heap.size W7).drew)
        clear b7 g7 c0 c1 k0 k1 l7
        go_region_held3 (fun W => W.cell? ⟨wr.heap.size, 0, none⟩ = some (.int .i64 x0) ∧ W.cell? ⟨wr.heap.size, 1, none⟩ = some (st x1))
          (first | exact hS)
          (first
            | (go_at_call 10; refine (HSp1.out _).mono ?_; rintro e w8 ⟨rfl, hb⟩; replace BS := Lib.hid (BS.out.trans (hb.mono BS.out.size)); replace hS := HSt.out _ BS.out; clear hb)
            | (go_at_call 11; refine (HSr1.out _).mono ?_; rintro e w9 ⟨rfl, hb⟩; replace BS := Lib.hid (BS.out.trans (hb.mono BS.out.size)); replace hS := HSt.out _ BS.out; clear hb))
        have B8 := Lib.hid (B7.out.trans (BS.out.mono B7.out.size))
        clear BS HSt hS B7
        go_wp2_with fail
        go_roundw
        case rel => exact ⟨k + 1, by omega, by go_num, B8.out⟩
        case measure => simp [intOf]; omega
      · obtain rfl : k = n := by omega
        have BX := Lib.hid ((show PrgC.BoxP w5.heap.size zeroRaw W6 from G6.out).step HB.out)
        clear HSp HSr HL G6 B6
        go_wp2_with (first
          | (refine wpList_load_row rfl 29 _ rfl w5.heap.size rfl 29 _ (0, 0) _ BX.out Tryz.underlying29 rfl infoP ?_)
          | (go_at_call 12; refine (HRi.out _ HBw.out).mono ?_; rintro e w8 ⟨rfl, hb⟩; have B8 := Lib.hid (HBw.out.trans (hb.mono HBw.out.size)); replace BX := Lib.hid ((show PrgC.BoxP w5.heap.size zeroRaw _ from BX.out).step hb); clear hb)
          | (go_at_call 13; refine (HCh.out _ B8.out).mono ?_; rintro e w9 ⟨rfl, hb⟩; have B9 := Lib.hid (B8.out.trans (hb.mono B8.out.size)); obtain ⟨c0, c1, c2, c3, c4, c5, c6, c7⟩ := ((show PrgC.BoxP w5.heap.size zeroRaw _ from BX.out).step hb).cells; dsimp only [zeroRaw] at c0 c1 c2 c3 c4 c5 c6 c7; clear hb)
          | (go_at_call 14; refine (HSm.out _).mono ?_; rintro e w10 ⟨rfl, hb⟩; have B10 := Lib.hid (B9.out.trans (hb.mono B9.out.size)); clear hb)
          | (go_at_call 5; refine (HA.out _ B10.out).mono ?_; rintro e w11 ⟨rfl, hb⟩; have B11 := Lib.hid (B10.out.trans (hb.mono B10.out.size)); clear hb))
        go_ret
        exact ⟨rfl, B11.out⟩
set_option maxRecDepth 100000 in
set_option maxHeartbeats 8000000 in
theorem lout (b : Option Addr) (n c : Nat) (l : List Lf) (lba ep sl : Int) (s : L) (w : World) (h : Lvs w b n l) (h1 : ep ≤ 9223372036854775807) (h2 : sl ≤ 9223372036854775807) (hr : Rds w) (hf : fewB l zeroRaw = true) (hsl : s.length ≤ 1000) (hri : right l = true) (hc : canB l lba = false) (hb : ¬ (0 ≤ lba ∧ lba ≤ 4095)) :
    Calls Tryz.prog 3 #[.slice b n c, .int .i64 lba, .int .i64 ep, .int .i64 sl, st s] w fun e w' => e = .returned (.bool true) ∧ Below w.heap.size w w' := by
  have hn : n ≤ 100000 := by have := (few_in hf).1; rw [h.1] at this; omega
  have hln := h.1
  have HF := Lib.hid (Few b n c l zeroRaw w h ⟨rfl, fun h => absurd h (by decide)⟩ ⟨rfl, fun h => absurd h (by decide)⟩ (by decide) (by decide) fit_no fit_no)
  rw [hf] at HF
  dsimp only [zeroRaw, Raw.cells] at HF
  have HA := Lib.hid (fun W (hb : Below w.heap.size w W) => PrgAl.alive W (hr.step hb))
  have HDp := Lib.hid (fun W (hb : Below w.heap.size w W) => PrgD.Data ep sl s W (by omega) (hr.step hb))
  have HDr := Lib.hid (fun W => PrfD.Data ep sl s W h1 h2 hsl)
  have HRo := Lib.hid (fun W (hb : Below w.heap.size w W) => Root b n c l W ⟨h.1, h.2.1, h.2.2.1, h.2.2.2.step hb⟩ hn (hr.step hb))
  have HRi := Lib.hid (fun W (hb : Below w.heap.size w W) => PrfW.Right b n c l W ⟨h.1, h.2.1, h.2.2.1, h.2.2.2.step hb⟩)
  have HCh := Lib.hid (fun W (hb : Below w.heap.size w W) => PrgK.Check b n c l W ⟨h.1, h.2.1, h.2.2.1, h.2.2.2.step hb⟩)
  have HSp := Lib.hid (fun k (hk : k < n) W => PrgK.Said (l.getD k no) W (h.2.2.1 _ (by rw [at_d _ (by omega)]; exact List.getElem_mem _)))
  have HSr := Lib.hid (fun k (hk : k < n) W => PrfS.Said (l.getD k no) W (h.2.2.1 _ (by rw [at_d _ (by omega)]; exact List.getElem_mem _)))
  have HL := Lib.hid (fun W (hb : Below w.heap.size w W) => h.2.2.2.step hb)
  have HSm := Lib.hid (fun W => same_zero W)
  dsimp only [zeroRaw, Raw.cells] at HSm
  have HP := Lib.hid (fun W (hb : Below w.heap.size w W) => Prove_no b n c l lba W ⟨h.1, h.2.1, h.2.2.1, h.2.2.2.step hb⟩ hn (hr.step hb) hc)
  unfold rootP at HRo
  have HHs := Lib.hid (fun W (hb : Below w.heap.size w W) => PrfH.Hashes b n c l W ⟨h.1, h.2.1, h.2.2.1, h.2.2.2.step hb⟩ hn)
  have HMr := Lib.hid (fun B a c' W ho => root_of (l := l) (B := B) (a := a) (c := c') (W := W) (by omega) ho)
  simp only [hri, if_true] at HRo HRi HCh
  generalize rt l = r at *
  generalize hs l = H at *
  generalize dataR ep sl s = d at *
  obtain ⟨t, q⟩ := d
  have HTT := Lib.hid (show (t == t) = true by simp)
  have hsz : (s.length : Int) ≤ 1000 := by omega
  have HBd := Lib.hid hb
  clear h hr hf hc hri h1 h2 hb
  cases q <;> dsimp only at HDp HDr
  case true =>
    go_enter Tryz.func3, Tryz.ntmps3
    go_upto_region 7 with (first
      | (go_at_call 4; refine HF.out.mono ?_; rintro e w1 ⟨rfl, hb⟩; have B1 := Lib.hid hb; clear hb)
      | (go_at_call 6; refine (HDp.out _ B1.out).mono ?_; rintro e w2 ⟨rfl, hb⟩; have B2 := Lib.hid (B1.out.trans (hb.mono B1.out.size)); clear hb)
      | (go_at_call 7; refine (HDr.out _).mono ?_; rintro e w3 ⟨rfl, hb⟩; have B3 := Lib.hid (B2.out.trans (hb.mono B2.out.size)); clear hb)
      | (go_at_call 8; refine (HRo.out _ B3.out).mono ?_; rintro e w4 ⟨rfl, hb⟩; have B4 := Lib.hid (B3.out.trans (hb.mono B3.out.size)); clear hb)
      | (go_at_call 9; refine (HP.out _ B4.out).mono ?_; rintro e w5 ⟨rfl, hb⟩; have B5 := Lib.hid (B4.out.trans (hb.mono B4.out.size)); clear hb)
      | (refine wpList_store_row rfl 29 _ _ rfl w5.heap.size zeroRaw.cells rfl rfl 29 _ (heap_alloc_new w5 _) infoP rfl (oneP _) ?_))
    generalize hW : World.setRow _ _ _ = W6
    have b6 : Below w5.heap.size w5 W6 := by rw [← hW]; exact kept_new w5 _ _ _
    have G6 := Lib.hid (show W6.heap[w5.heap.size]? = some (.cells zeroRaw.cells 29 (0, 0)) by rw [← hW]; exact has_new w5 _ _ _)
    have B6 := Lib.hid (B5.out.trans (b6.mono B5.out.size))
    have lt6 := (Array.getElem?_eq_some_iff.1 G6.out).1
    clear hW b6 HF HDp HDr HRo HP B1 B2 B3 B4 B5
    go_upto_region 9 with (fail)
    go_wp2_with fail
    go_loopw [75] (fun kv wr => ∃ k : Nat, k ≤ n ∧ kv = .int .i64 k ∧ Below W6.heap.size W6 wr) (fun kv _ => n - (intOf kv).toNat)
    case atStart => exact ⟨0, Nat.zero_le _, rfl, Below.refl _ _⟩
    case round =>
      obtain ⟨k, hk, rfl, hb⟩ := hrel
      have HB := Lib.hid hb
      have HBw := Lib.hid (B6.out.trans (hb.mono B6.out.size))
      clear hb
      by_cases hlt : k < n
      · obtain ⟨g, o, rfl, hg, hc⟩ := (HL.out _ HBw.out) (by omega)
        obtain ⟨c0, c1⟩ := hc k (by omega)
        have HSp1 := Lib.hid (HSp.out k hlt)
        have HSr1 := Lib.hid (HSr.out k hlt)
        generalize said (l.getD k no) = y at *
        generalize l.getD k no = x at *
        obtain ⟨x0, x1⟩ := x
        dsimp only at c0 c1 HSp1 HSr1
        have q0 : (0 : Int) ≤ (k : Int) := by omega
        have q1 : (k : Int) < (n : Int) := by omega
        clear hc hg HSp HSr
        go_upto_region 12 with (refine wpList_store_row rfl 25 _ _ rfl wr.heap.size _ rfl rfl 25 _ (heap_alloc_new wr _) infoL rfl (two x0 x1) ?_)
        generalize hW : World.setRow _ _ _ = W7
        have b7 : Below wr.heap.size wr W7 := by rw [← hW]; exact kept_new wr _ _ _
        have g7 : W7.heap[wr.heap.size]? = some (.cells #[.int .i64 x0, st x1] 25 (0, 0)) := by rw [← hW]; exact has_new wr _ _ _
        clear hW
        have k0 : W7.cell? ⟨wr.heap.size, 0, none⟩ = some (.int .i64 x0) := blk_cell g7 rfl
        have k1 : W7.cell? ⟨wr.heap.size, 1, none⟩ = some (st x1) := blk_cell g7 rfl
        have l7 : wr.heap.size < W7.heap.size := (Array.getElem?_eq_some_iff.1 g7).1
        have hS : W7.drew.cell? ⟨wr.heap.size, 0, none⟩ = some (.int .i64 x0) ∧ W7.drew.cell? ⟨wr.heap.size, 1, none⟩ = some (st x1) := ⟨k0, k1⟩
        have HSt : Hid (∀ W, Below W7.heap.size W7 W → W.cell? ⟨wr.heap.size, 0, none⟩ = some (.int .i64 x0) ∧ W.cell? ⟨wr.heap.size, 1, none⟩ = some (st x1)) := Lib.hid fun W hb => ⟨(hb.cell (p := ⟨wr.heap.size, 0, none⟩) l7).trans k0, (hb.cell (p := ⟨wr.heap.size, 1, none⟩) l7).trans k1⟩
        have B7 := Lib.hid (HB.out.trans (b7.mono HB.out.size))
        have BS := Lib.hid ((Below.refl W7.heap.size W7).drew)
        clear b7 g7 c0 c1 k0 k1 l7
        go_region_held3 (fun W => W.cell? ⟨wr.heap.size, 0, none⟩ = some (.int .i64 x0) ∧ W.cell? ⟨wr.heap.size, 1, none⟩ = some (st x1))
          (first | exact hS)
          (first
            | (go_at_call 10; refine (HSp1.out _).mono ?_; rintro e w8 ⟨rfl, hb⟩; replace BS := Lib.hid (BS.out.trans (hb.mono BS.out.size)); replace hS := HSt.out _ BS.out; clear hb)
            | (go_at_call 11; refine (HSr1.out _).mono ?_; rintro e w9 ⟨rfl, hb⟩; replace BS := Lib.hid (BS.out.trans (hb.mono BS.out.size)); replace hS := HSt.out _ BS.out; clear hb))
        have B8 := Lib.hid (B7.out.trans (BS.out.mono B7.out.size))
        clear BS HSt hS B7
        go_wp2_with fail
        go_roundw
        case rel => exact ⟨k + 1, by omega, by go_num, B8.out⟩
        case measure => simp [intOf]; omega
      · obtain rfl : k = n := by omega
        have BX := Lib.hid ((show PrgC.BoxP w5.heap.size zeroRaw W6 from G6.out).step HB.out)
        clear HSp HSr HL
        go_upto_region 19 with (first
          | (go_at_call 12; refine (HRi.out _ HBw.out).mono ?_; rintro e w8 ⟨rfl, hb⟩; have B8 := Lib.hid (HBw.out.trans (hb.mono HBw.out.size)); replace BX := Lib.hid ((show PrgC.BoxP w5.heap.size zeroRaw _ from BX.out).step hb); have C8 := Lib.hid (HB.out.trans (hb.mono HB.out.size)); clear hb)
          | (go_at_call 13; refine (HCh.out _ B8.out).mono ?_; rintro e w9 ⟨rfl, hb⟩; have B9 := Lib.hid (B8.out.trans (hb.mono B8.out.size)); replace BX := Lib.hid ((show PrgC.BoxP w5.heap.size zeroRaw _ from BX.out).step hb); have C9 := Lib.hid (C8.out.trans (hb.mono C8.out.size)); clear hb)
          | (go_at_call 16; refine (HHs.out _ B9.out).mono ?_; rintro e w10 ⟨a10, c10, rfl, ho, hb⟩; have B10 := Lib.hid (B9.out.trans (hb.mono B9.out.size)); replace BX := Lib.hid ((show PrgC.BoxP w5.heap.size zeroRaw _ from BX.out).step hb); have C10 := Lib.hid (C9.out.trans (hb.mono C9.out.size)); have O10 := Lib.hid ho; clear hb ho)
          | (go_at_call 15; refine (HMr.out _ _ _ _ O10.out).mono ?_; rintro e w11 ⟨rfl, hb⟩; have B11 := Lib.hid (B10.out.trans (hb.mono B10.out.size)); replace BX := Lib.hid ((show PrgC.BoxP w5.heap.size zeroRaw _ from BX.out).step hb); have C11 := Lib.hid (C10.out.trans (hb.mono C10.out.size)); clear hb))
        clear HRi HCh HHs HMr B8 B9 B10 C8 C9 C10 O10
        have hbd := HBd.out
        by_cases hneg : lba < 0
        · have d1 : decide (lba < 0) = true := decide_eq_true hneg
          clear hbd
          go_wp2_with (first
            | (refine wpList_load_row rfl 29 _ rfl w5.heap.size rfl 29 _ (0, 0) _ BX.out Tryz.underlying29 rfl infoP ?_)
            | (go_at_call 14; refine (HSm.out _).mono ?_; rintro e w12 ⟨rfl, hb⟩; have B12 := Lib.hid (B11.out.trans (hb.mono B11.out.size)); clear hb)
            | (go_at_call 5; refine (HA.out _ B12.out).mono ?_; rintro e w13 ⟨rfl, hb⟩; have B13 := Lib.hid (B12.out.trans (hb.mono B12.out.size)); clear hb))
          go_ret
          exact ⟨rfl, B13.out⟩
        · have d1 : decide (lba < 0) = false := decide_eq_false hneg
          have d2 : decide (4095 < lba) = true := decide_eq_true (by omega)
          have d3 : 4095 < lba := by omega
          have d4 : 0 ≤ lba := by omega
          clear hbd
          go_wp2_with (first
            | (refine wpList_load_row rfl 29 _ rfl w5.heap.size rfl 29 _ (0, 0) _ BX.out Tryz.underlying29 rfl infoP ?_)
            | (go_at_call 14; refine (HSm.out _).mono ?_; rintro e w12 ⟨rfl, hb⟩; have B12 := Lib.hid (B11.out.trans (hb.mono B11.out.size)); clear hb)
            | (go_at_call 5; refine (HA.out _ B12.out).mono ?_; rintro e w13 ⟨rfl, hb⟩; have B13 := Lib.hid (B12.out.trans (hb.mono B12.out.size)); clear hb))
          go_ret
          exact ⟨rfl, B13.out⟩
  case false =>
    go_enter Tryz.func3, Tryz.ntmps3
    go_upto_region 7 with (first
      | (go_at_call 4; refine HF.out.mono ?_; rintro e w1 ⟨rfl, hb⟩; have B1 := Lib.hid hb; clear hb)
      | (go_at_call 6; refine (HDp.out _ B1.out).mono ?_; rintro e w2 ⟨rfl, hb⟩; have B2 := Lib.hid (B1.out.trans (hb.mono B1.out.size)); clear hb)
      | (go_at_call 7; refine (HDr.out _).mono ?_; rintro e w3 ⟨rfl, hb⟩; have B3 := Lib.hid (B2.out.trans (hb.mono B2.out.size)); clear hb)
      | (go_at_call 8; refine (HRo.out _ B3.out).mono ?_; rintro e w4 ⟨rfl, hb⟩; have B4 := Lib.hid (B3.out.trans (hb.mono B3.out.size)); clear hb)
      | (go_at_call 9; refine (HP.out _ B4.out).mono ?_; rintro e w5 ⟨rfl, hb⟩; have B5 := Lib.hid (B4.out.trans (hb.mono B4.out.size)); clear hb)
      | (refine wpList_store_row rfl 29 _ _ rfl w5.heap.size zeroRaw.cells rfl rfl 29 _ (heap_alloc_new w5 _) infoP rfl (oneP _) ?_))
    generalize hW : World.setRow _ _ _ = W6
    have b6 : Below w5.heap.size w5 W6 := by rw [← hW]; exact kept_new w5 _ _ _
    have G6 := Lib.hid (show W6.heap[w5.heap.size]? = some (.cells zeroRaw.cells 29 (0, 0)) by rw [← hW]; exact has_new w5 _ _ _)
    have B6 := Lib.hid (B5.out.trans (b6.mono B5.out.size))
    have lt6 := (Array.getElem?_eq_some_iff.1 G6.out).1
    clear hW b6 HF HDp HDr HRo HP B1 B2 B3 B4 B5
    go_upto_region 9 with (fail)
    go_wp2_with fail
    go_loopw [75] (fun kv wr => ∃ k : Nat, k ≤ n ∧ kv = .int .i64 k ∧ Below W6.heap.size W6 wr) (fun kv _ => n - (intOf kv).toNat)
    case atStart => exact ⟨0, Nat.zero_le _, rfl, Below.refl _ _⟩
    case round =>
      obtain ⟨k, hk, rfl, hb⟩ := hrel
      have HB := Lib.hid hb
      have HBw := Lib.hid (B6.out.trans (hb.mono B6.out.size))
      clear hb
      by_cases hlt : k < n
      · obtain ⟨g, o, rfl, hg, hc⟩ := (HL.out _ HBw.out) (by omega)
        obtain ⟨c0, c1⟩ := hc k (by omega)
        have HSp1 := Lib.hid (HSp.out k hlt)
        have HSr1 := Lib.hid (HSr.out k hlt)
        generalize said (l.getD k no) = y at *
        generalize l.getD k no = x at *
        obtain ⟨x0, x1⟩ := x
        dsimp only at c0 c1 HSp1 HSr1
        have q0 : (0 : Int) ≤ (k : Int) := by omega
        have q1 : (k : Int) < (n : Int) := by omega
        clear hc hg HSp HSr
        go_upto_region 12 with (refine wpList_store_row rfl 25 _ _ rfl wr.heap.size _ rfl rfl 25 _ (heap_alloc_new wr _) infoL rfl (two x0 x1) ?_)
        generalize hW : World.setRow _ _ _ = W7
        have b7 : Below wr.heap.size wr W7 := by rw [← hW]; exact kept_new wr _ _ _
        have g7 : W7.heap[wr.heap.size]? = some (.cells #[.int .i64 x0, st x1] 25 (0, 0)) := by rw [← hW]; exact has_new wr _ _ _
        clear hW
        have k0 : W7.cell? ⟨wr.heap.size, 0, none⟩ = some (.int .i64 x0) := blk_cell g7 rfl
        have k1 : W7.cell? ⟨wr.heap.size, 1, none⟩ = some (st x1) := blk_cell g7 rfl
        have l7 : wr.heap.size < W7.heap.size := (Array.getElem?_eq_some_iff.1 g7).1
        have hS : W7.drew.cell? ⟨wr.heap.size, 0, none⟩ = some (.int .i64 x0) ∧ W7.drew.cell? ⟨wr.heap.size, 1, none⟩ = some (st x1) := ⟨k0, k1⟩
        have HSt : Hid (∀ W, Below W7.heap.size W7 W → W.cell? ⟨wr.heap.size, 0, none⟩ = some (.int .i64 x0) ∧ W.cell? ⟨wr.heap.size, 1, none⟩ = some (st x1)) := Lib.hid fun W hb => ⟨(hb.cell (p := ⟨wr.heap.size, 0, none⟩) l7).trans k0, (hb.cell (p := ⟨wr.heap.size, 1, none⟩) l7).trans k1⟩
        have B7 := Lib.hid (HB.out.trans (b7.mono HB.out.size))
        have BS := Lib.hid ((Below.refl W7.heap.size W7).drew)
        clear b7 g7 c0 c1 k0 k1 l7
        go_region_held3 (fun W => W.cell? ⟨wr.heap.size, 0, none⟩ = some (.int .i64 x0) ∧ W.cell? ⟨wr.heap.size, 1, none⟩ = some (st x1))
          (first | exact hS)
          (first
            | (go_at_call 10; refine (HSp1.out _).mono ?_; rintro e w8 ⟨rfl, hb⟩; replace BS := Lib.hid (BS.out.trans (hb.mono BS.out.size)); replace hS := HSt.out _ BS.out; clear hb)
            | (go_at_call 11; refine (HSr1.out _).mono ?_; rintro e w9 ⟨rfl, hb⟩; replace BS := Lib.hid (BS.out.trans (hb.mono BS.out.size)); replace hS := HSt.out _ BS.out; clear hb))
        have B8 := Lib.hid (B7.out.trans (BS.out.mono B7.out.size))
        clear BS HSt hS B7
        go_wp2_with fail
        go_roundw
        case rel => exact ⟨k + 1, by omega, by go_num, B8.out⟩
        case measure => simp [intOf]; omega
      · obtain rfl : k = n := by omega
        have BX := Lib.hid ((show PrgC.BoxP w5.heap.size zeroRaw W6 from G6.out).step HB.out)
        clear HSp HSr HL
        go_upto_region 19 with (first
          | (go_at_call 12; refine (HRi.out _ HBw.out).mono ?_; rintro e w8 ⟨rfl, hb⟩; have B8 := Lib.hid (HBw.out.trans (hb.mono HBw.out.size)); replace BX := Lib.hid ((show PrgC.BoxP w5.heap.size zeroRaw _ from BX.out).step hb); have C8 := Lib.hid (HB.out.trans (hb.mono HB.out.size)); clear hb)
          | (go_at_call 13; refine (HCh.out _ B8.out).mono ?_; rintro e w9 ⟨rfl, hb⟩; have B9 := Lib.hid (B8.out.trans (hb.mono B8.out.size)); replace BX := Lib.hid ((show PrgC.BoxP w5.heap.size zeroRaw _ from BX.out).step hb); have C9 := Lib.hid (C8.out.trans (hb.mono C8.out.size)); clear hb)
          | (go_at_call 16; refine (HHs.out _ B9.out).mono ?_; rintro e w10 ⟨a10, c10, rfl, ho, hb⟩; have B10 := Lib.hid (B9.out.trans (hb.mono B9.out.size)); replace BX := Lib.hid ((show PrgC.BoxP w5.heap.size zeroRaw _ from BX.out).step hb); have C10 := Lib.hid (C9.out.trans (hb.mono C9.out.size)); have O10 := Lib.hid ho; clear hb ho)
          | (go_at_call 15; refine (HMr.out _ _ _ _ O10.out).mono ?_; rintro e w11 ⟨rfl, hb⟩; have B11 := Lib.hid (B10.out.trans (hb.mono B10.out.size)); replace BX := Lib.hid ((show PrgC.BoxP w5.heap.size zeroRaw _ from BX.out).step hb); have C11 := Lib.hid (C10.out.trans (hb.mono C10.out.size)); clear hb))
        clear HRi HCh HHs HMr B8 B9 B10 C8 C9 C10 O10
        have hbd := HBd.out
        by_cases hneg : lba < 0
        · have d1 : decide (lba < 0) = true := decide_eq_true hneg
          clear hbd
          go_wp2_with (first
            | (refine wpList_load_row rfl 29 _ rfl w5.heap.size rfl 29 _ (0, 0) _ BX.out Tryz.underlying29 rfl infoP ?_)
            | (go_at_call 14; refine (HSm.out _).mono ?_; rintro e w12 ⟨rfl, hb⟩; have B12 := Lib.hid (B11.out.trans (hb.mono B11.out.size)); clear hb)
            | (go_at_call 5; refine (HA.out _ B12.out).mono ?_; rintro e w13 ⟨rfl, hb⟩; have B13 := Lib.hid (B12.out.trans (hb.mono B12.out.size)); clear hb))
          go_ret
          exact ⟨rfl, B13.out⟩
        · have d1 : decide (lba < 0) = false := decide_eq_false hneg
          have d2 : decide (4095 < lba) = true := decide_eq_true (by omega)
          have d3 : 4095 < lba := by omega
          have d4 : 0 ≤ lba := by omega
          clear hbd
          go_wp2_with (first
            | (refine wpList_load_row rfl 29 _ rfl w5.heap.size rfl 29 _ (0, 0) _ BX.out Tryz.underlying29 rfl infoP ?_)
            | (go_at_call 14; refine (HSm.out _).mono ?_; rintro e w12 ⟨rfl, hb⟩; have B12 := Lib.hid (B11.out.trans (hb.mono B11.out.size)); clear hb)
            | (go_at_call 5; refine (HA.out _ B12.out).mono ?_; rintro e w13 ⟨rfl, hb⟩; have B13 := Lib.hid (B12.out.trans (hb.mono B12.out.size)); clear hb))
          go_ret
          exact ⟨rfl, B13.out⟩
set_option maxRecDepth 100000 in
set_option maxHeartbeats 8000000 in
theorem lin (b : Option Addr) (n c : Nat) (l : List Lf) (lba ep sl : Int) (s : L) (w : World) (h : Lvs w b n l) (h1 : ep ≤ 9223372036854775807) (h2 : sl ≤ 9223372036854775807) (hr : Rds w) (hf : fewB l zeroRaw = true) (hsl : s.length ≤ 1000) (hri : right l = true) (hc : canB l lba = true) (hb : 0 ≤ lba ∧ lba ≤ 4095) :
    Calls Tryz.prog 3 #[.slice b n c, .int .i64 lba, .int .i64 ep, .int .i64 sl, st s] w fun e w' => e = .returned (.bool true) ∧ Below w.heap.size w w' := by
  have hn : n ≤ 100000 := by have := (few_in hf).1; rw [h.1] at this; omega
  have hln := h.1
  have HF := Lib.hid (Few b n c l zeroRaw w h ⟨rfl, fun h => absurd h (by decide)⟩ ⟨rfl, fun h => absurd h (by decide)⟩ (by decide) (by decide) fit_no fit_no)
  rw [hf] at HF
  dsimp only [zeroRaw, Raw.cells] at HF
  have HA := Lib.hid (fun W (hb : Below w.heap.size w W) => PrgAl.alive W (hr.step hb))
  have HDp := Lib.hid (fun W (hb : Below w.heap.size w W) => PrgD.Data ep sl s W (by omega) (hr.step hb))
  have HDr := Lib.hid (fun W => PrfD.Data ep sl s W h1 h2 hsl)
  have HRo := Lib.hid (fun W (hb : Below w.heap.size w W) => Root b n c l W ⟨h.1, h.2.1, h.2.2.1, h.2.2.2.step hb⟩ hn (hr.step hb))
  have HRi := Lib.hid (fun W (hb : Below w.heap.size w W) => PrfW.Right b n c l W ⟨h.1, h.2.1, h.2.2.1, h.2.2.2.step hb⟩)
  have HCh := Lib.hid (fun W (hb : Below w.heap.size w W) => PrgK.Check b n c l W ⟨h.1, h.2.1, h.2.2.1, h.2.2.2.step hb⟩)
  have HSp := Lib.hid (fun k (hk : k < n) W => PrgK.Said (l.getD k no) W (h.2.2.1 _ (by rw [at_d _ (by omega)]; exact List.getElem_mem _)))
  have HSr := Lib.hid (fun k (hk : k < n) W => PrfS.Said (l.getD k no) W (h.2.2.1 _ (by rw [at_d _ (by omega)]; exact List.getElem_mem _)))
  have HL := Lib.hid (fun W (hb : Below w.heap.size w W) => h.2.2.2.step hb)
  have HP := Lib.hid (fun W (hb : Below w.heap.size w W) => Prove_ok b n c l lba W ⟨h.1, h.2.1, h.2.2.1, h.2.2.2.step hb⟩ hn (hr.step hb) hc)
  have HPr := Lib.hid (fun W (hb : Below w.heap.size w W) => PrfP.Prove b n c l lba W ⟨h.1, h.2.1, h.2.2.1, h.2.2.2.step hb⟩ hn)
  have HSm := Lib.hid (fun x y B B' W hx hy o1 o2 p1 p2 => same_two (l := l) (b := lba) (x := x) (y := y) (B := B) (B' := B') (W := W) (by omega) hx hy o1 o2 p1 p2)
  unfold rootP at HRo
  have HHs := Lib.hid (fun W (hb : Below w.heap.size w W) => PrfH.Hashes b n c l W ⟨h.1, h.2.1, h.2.2.1, h.2.2.2.step hb⟩ hn)
  have HMr := Lib.hid (fun B a c' W ho => root_of (l := l) (B := B) (a := a) (c := c') (W := W) (by omega) ho)
  simp only [hri, if_true] at HRo HRi HCh
  generalize rt l = r at *
  generalize hs l = H at *
  generalize dataR ep sl s = d at *
  obtain ⟨t, q⟩ := d
  have HTT := Lib.hid (show (t == t) = true by simp)
  have hsz : (s.length : Int) ≤ 1000 := by omega
  generalize prove l lba = pr at *
  have HBd := Lib.hid hb
  clear h hr hf hc hri h1 h2 hb
  cases q <;> dsimp only at HDp HDr
  case true =>
    go_enter Tryz.func3, Tryz.ntmps3
    go_upto_region 7 with (first
      | (go_at_call 4; refine HF.out.mono ?_; rintro e w1 ⟨rfl, hb⟩; have B1 := Lib.hid hb; clear hb)
      | (go_at_call 6; refine (HDp.out _ B1.out).mono ?_; rintro e w2 ⟨rfl, hb⟩; have B2 := Lib.hid (B1.out.trans (hb.mono B1.out.size)); clear hb)
      | (go_at_call 7; refine (HDr.out _).mono ?_; rintro e w3 ⟨rfl, hb⟩; have B3 := Lib.hid (B2.out.trans (hb.mono B2.out.size)); clear hb)
      | (go_at_call 8; refine (HRo.out _ B3.out).mono ?_; rintro e w4 ⟨rfl, hb⟩; have B4 := Lib.hid (B3.out.trans (hb.mono B3.out.size)); clear hb)
      | (go_at_call 9; refine (HP.out _ B4.out).mono ?_; rintro e w5 ⟨x5, rfl, hx, ho1, ho2, hb⟩; have HX := Lib.hid hx; have O1 := Lib.hid ho1; have O2 := Lib.hid ho2; have B5 := Lib.hid (B4.out.trans (hb.mono B4.out.size)); clear hb hx ho1 ho2)
      | (refine wpList_store_row rfl 29 _ _ rfl w5.heap.size x5.cells rfl rfl 29 _ (heap_alloc_new w5 _) infoP rfl (oneP _) ?_))
    generalize hW : World.setRow _ _ _ = W6
    have b6 : Below w5.heap.size w5 W6 := by rw [← hW]; exact kept_new w5 _ _ _
    have G6 := Lib.hid (show W6.heap[w5.heap.size]? = some (.cells x5.cells 29 (0, 0)) by rw [← hW]; exact has_new w5 _ _ _)
    have B6 := Lib.hid (B5.out.trans (b6.mono B5.out.size))
    have lt6 := (Array.getElem?_eq_some_iff.1 G6.out).1
    replace O1 := Lib.hid (MerJ.own_later O1.out b6)
    replace O2 := Lib.hid (MerJ.own_later O2.out b6)
    clear hW b6 HF HDp HDr HRo HP B1 B2 B3 B4 B5
    go_upto_region 9 with (fail)
    go_wp2_with fail
    go_loopw [75] (fun kv wr => ∃ k : Nat, k ≤ n ∧ kv = .int .i64 k ∧ Below W6.heap.size W6 wr) (fun kv _ => n - (intOf kv).toNat)
    case atStart => exact ⟨0, Nat.zero_le _, rfl, Below.refl _ _⟩
    case round =>
      obtain ⟨k, hk, rfl, hb⟩ := hrel
      have HB := Lib.hid hb
      have HBw := Lib.hid (B6.out.trans (hb.mono B6.out.size))
      clear hb
      by_cases hlt : k < n
      · obtain ⟨g, o, rfl, hg, hc⟩ := (HL.out _ HBw.out) (by omega)
        obtain ⟨c0, c1⟩ := hc k (by omega)
        have HSp1 := Lib.hid (HSp.out k hlt)
        have HSr1 := Lib.hid (HSr.out k hlt)
        generalize said (l.getD k no) = y at *
        generalize l.getD k no = x at *
        obtain ⟨x0, x1⟩ := x
        dsimp only at c0 c1 HSp1 HSr1
        have q0 : (0 : Int) ≤ (k : Int) := by omega
        have q1 : (k : Int) < (n : Int) := by omega
        clear hc hg HSp HSr
        go_upto_region 12 with (refine wpList_store_row rfl 25 _ _ rfl wr.heap.size _ rfl rfl 25 _ (heap_alloc_new wr _) infoL rfl (two x0 x1) ?_)
        generalize hW : World.setRow _ _ _ = W7
        have b7 : Below wr.heap.size wr W7 := by rw [← hW]; exact kept_new wr _ _ _
        have g7 : W7.heap[wr.heap.size]? = some (.cells #[.int .i64 x0, st x1] 25 (0, 0)) := by rw [← hW]; exact has_new wr _ _ _
        clear hW
        have k0 : W7.cell? ⟨wr.heap.size, 0, none⟩ = some (.int .i64 x0) := blk_cell g7 rfl
        have k1 : W7.cell? ⟨wr.heap.size, 1, none⟩ = some (st x1) := blk_cell g7 rfl
        have l7 : wr.heap.size < W7.heap.size := (Array.getElem?_eq_some_iff.1 g7).1
        have hS : W7.drew.cell? ⟨wr.heap.size, 0, none⟩ = some (.int .i64 x0) ∧ W7.drew.cell? ⟨wr.heap.size, 1, none⟩ = some (st x1) := ⟨k0, k1⟩
        have HSt : Hid (∀ W, Below W7.heap.size W7 W → W.cell? ⟨wr.heap.size, 0, none⟩ = some (.int .i64 x0) ∧ W.cell? ⟨wr.heap.size, 1, none⟩ = some (st x1)) := Lib.hid fun W hb => ⟨(hb.cell (p := ⟨wr.heap.size, 0, none⟩) l7).trans k0, (hb.cell (p := ⟨wr.heap.size, 1, none⟩) l7).trans k1⟩
        have B7 := Lib.hid (HB.out.trans (b7.mono HB.out.size))
        have BS := Lib.hid ((Below.refl W7.heap.size W7).drew)
        clear b7 g7 c0 c1 k0 k1 l7
        go_region_held3 (fun W => W.cell? ⟨wr.heap.size, 0, none⟩ = some (.int .i64 x0) ∧ W.cell? ⟨wr.heap.size, 1, none⟩ = some (st x1))
          (first | exact hS)
          (first
            | (go_at_call 10; refine (HSp1.out _).mono ?_; rintro e w8 ⟨rfl, hb⟩; replace BS := Lib.hid (BS.out.trans (hb.mono BS.out.size)); replace hS := HSt.out _ BS.out; clear hb)
            | (go_at_call 11; refine (HSr1.out _).mono ?_; rintro e w9 ⟨rfl, hb⟩; replace BS := Lib.hid (BS.out.trans (hb.mono BS.out.size)); replace hS := HSt.out _ BS.out; clear hb))
        have B8 := Lib.hid (B7.out.trans (BS.out.mono B7.out.size))
        clear BS HSt hS B7
        go_wp2_with fail
        go_roundw
        case rel => exact ⟨k + 1, by omega, by go_num, B8.out⟩
        case measure => simp [intOf]; omega
      · obtain rfl : k = n := by omega
        have BX := Lib.hid ((show PrgC.BoxP w5.heap.size x5 W6 from G6.out).step HB.out)
        clear HSp HSr HL
        go_upto_region 19 with (first
          | (go_at_call 12; refine (HRi.out _ HBw.out).mono ?_; rintro e w8 ⟨rfl, hb⟩; have B8 := Lib.hid (HBw.out.trans (hb.mono HBw.out.size)); replace BX := Lib.hid ((show PrgC.BoxP w5.heap.size x5 _ from BX.out).step hb); have C8 := Lib.hid (HB.out.trans (hb.mono HB.out.size)); clear hb)
          | (go_at_call 13; refine (HCh.out _ B8.out).mono ?_; rintro e w9 ⟨rfl, hb⟩; have B9 := Lib.hid (B8.out.trans (hb.mono B8.out.size)); replace BX := Lib.hid ((show PrgC.BoxP w5.heap.size x5 _ from BX.out).step hb); have C9 := Lib.hid (C8.out.trans (hb.mono C8.out.size)); clear hb)
          | (go_at_call 16; refine (HHs.out _ B9.out).mono ?_; rintro e w10 ⟨a10, c10, rfl, ho, hb⟩; have B10 := Lib.hid (B9.out.trans (hb.mono B9.out.size)); replace BX := Lib.hid ((show PrgC.BoxP w5.heap.size x5 _ from BX.out).step hb); have C10 := Lib.hid (C9.out.trans (hb.mono C9.out.size)); have O10 := Lib.hid ho; clear hb ho)
          | (go_at_call 15; refine (HMr.out _ _ _ _ O10.out).mono ?_; rintro e w11 ⟨rfl, hb⟩; have B11 := Lib.hid (B10.out.trans (hb.mono B10.out.size)); replace BX := Lib.hid ((show PrgC.BoxP w5.heap.size x5 _ from BX.out).step hb); have C11 := Lib.hid (C10.out.trans (hb.mono C10.out.size)); clear hb))
        clear HRi HCh HHs HMr B8 B9 B10 C8 C9 C10 O10
        have hbd := HBd.out
        have d1 : decide (lba < 0) = false := decide_eq_false (by omega)
        have d2 : decide (4095 < lba) = false := decide_eq_false (by omega)
        have d3 : 0 ≤ lba := by omega
        have d4 : lba ≤ 4095 := by omega
        clear hbd
        go_upto_region 21 with (fail)
        obtain ⟨c0, c1, c2, c3, c4, c5, c6, c7⟩ := (show PrgC.BoxP w5.heap.size x5 w11 from BX.out).cells
        have hS : (w11.drew.cell? ⟨w5.heap.size, 0, none⟩ = some (.bool x5.f) ∧ w11.drew.cell? ⟨w5.heap.size, 1, none⟩ = some (.int .i64 x5.at_) ∧ w11.drew.cell? ⟨w5.heap.size, 2, none⟩ = some (.int .i64 x5.here.1) ∧ w11.drew.cell? ⟨w5.heap.size, 3, none⟩ = some (st x5.here.2) ∧ w11.drew.cell? ⟨w5.heap.size, 4, none⟩ = some (.int .i64 x5.ahead.1) ∧ w11.drew.cell? ⟨w5.heap.size, 5, none⟩ = some (st x5.ahead.2) ∧ w11.drew.cell? ⟨w5.heap.size, 6, none⟩ = some (.slice x5.ua x5.up.length x5.uc) ∧ w11.drew.cell? ⟨w5.heap.size, 7, none⟩ = some (.slice x5.la x5.left.length x5.lc)) := ⟨c0, c1, c2, c3, c4, c5, c6, c7⟩
        have HSt : Hid (∀ W, Below w11.heap.size w11 W → (W.cell? ⟨w5.heap.size, 0, none⟩ = some (.bool x5.f) ∧ W.cell? ⟨w5.heap.size, 1, none⟩ = some (.int .i64 x5.at_) ∧ W.cell? ⟨w5.heap.size, 2, none⟩ = some (.int .i64 x5.here.1) ∧ W.cell? ⟨w5.heap.size, 3, none⟩ = some (st x5.here.2) ∧ W.cell? ⟨w5.heap.size, 4, none⟩ = some (.int .i64 x5.ahead.1) ∧ W.cell? ⟨w5.heap.size, 5, none⟩ = some (st x5.ahead.2) ∧ W.cell? ⟨w5.heap.size, 6, none⟩ = some (.slice x5.ua x5.up.length x5.uc) ∧ W.cell? ⟨w5.heap.size, 7, none⟩ = some (.slice x5.la x5.left.length x5.lc))) := Lib.hid fun W hb => ((show PrgC.BoxP w5.heap.size x5 w11 from BX.out).step hb).cells
        have BS := Lib.hid ((Below.refl w11.heap.size w11).drew)
        have HSm1 := Lib.hid (fun B y W (hy : pf y = pr) (h1 : W.ownsRow B 9 1 (.slice y.ua y.up.length y.uc) y.up.length (y.up.map str)) (h2 : W.ownsRow B 9 1 (.slice y.la y.left.length y.lc) y.left.length (y.left.map str)) (hb : Below w11.heap.size w11 W) => HSm.out x5 y _ _ W HX.out hy (MerJ.own_later O1.out (C11.out.trans (hb.mono C11.out.size))) (MerJ.own_later O2.out (C11.out.trans (hb.mono C11.out.size))) h1 h2)
        have HPr1 := Lib.hid (fun W (hb : Below w11.heap.size w11 W) => HPr.out W (B11.out.trans (hb.mono B11.out.size)))
        have HA1 := Lib.hid (fun W (hb : Below w11.heap.size w11 W) => HA.out W (B11.out.trans (hb.mono B11.out.size)))
        clear c0 c1 c2 c3 c4 c5 c6 c7 HSm HPr HA O1 O2 HX C11 HB HBw
        go_region_held3 (fun W => (W.cell? ⟨w5.heap.size, 0, none⟩ = some (.bool x5.f) ∧ W.cell? ⟨w5.heap.size, 1, none⟩ = some (.int .i64 x5.at_) ∧ W.cell? ⟨w5.heap.size, 2, none⟩ = some (.int .i64 x5.here.1) ∧ W.cell? ⟨w5.heap.size, 3, none⟩ = some (st x5.here.2) ∧ W.cell? ⟨w5.heap.size, 4, none⟩ = some (.int .i64 x5.ahead.1) ∧ W.cell? ⟨w5.heap.size, 5, none⟩ = some (st x5.ahead.2) ∧ W.cell? ⟨w5.heap.size, 6, none⟩ = some (.slice x5.ua x5.up.length x5.uc) ∧ W.cell? ⟨w5.heap.size, 7, none⟩ = some (.slice x5.la x5.left.length x5.lc)))
          (first | exact hS)
          (first
            | (go_at_call 17; refine (HPr1.out _ BS.out).mono ?_; rintro e w12 ⟨y, rfl, hy, p1, p2, hb⟩; have HY := Lib.hid hy; have P1 := Lib.hid p1; have P2 := Lib.hid p2; replace BS := Lib.hid (BS.out.trans (hb.mono BS.out.size)); replace hS := HSt.out _ BS.out; clear hb hy p1 p2)
            | (go_at_call 14; refine (HSm1.out _ y _ HY.out P1.out P2.out BS.out).mono ?_; rintro e w13 ⟨rfl, hb⟩; replace BS := Lib.hid (BS.out.trans (hb.mono BS.out.size)); replace hS := HSt.out _ BS.out; clear hb)
            | (go_at_call 5; refine (HA1.out _ BS.out).mono ?_; rintro e w14 ⟨rfl, hb⟩; replace BS := Lib.hid (BS.out.trans (hb.mono BS.out.size)); replace hS := HSt.out _ BS.out; clear hb))
        have B14 := Lib.hid (B11.out.trans (BS.out.mono B11.out.size))
        clear BS hS HSt
        go_wp2_with fail
        go_ret
        exact ⟨rfl, B14.out⟩
  case false =>
    go_enter Tryz.func3, Tryz.ntmps3
    go_upto_region 7 with (first
      | (go_at_call 4; refine HF.out.mono ?_; rintro e w1 ⟨rfl, hb⟩; have B1 := Lib.hid hb; clear hb)
      | (go_at_call 6; refine (HDp.out _ B1.out).mono ?_; rintro e w2 ⟨rfl, hb⟩; have B2 := Lib.hid (B1.out.trans (hb.mono B1.out.size)); clear hb)
      | (go_at_call 7; refine (HDr.out _).mono ?_; rintro e w3 ⟨rfl, hb⟩; have B3 := Lib.hid (B2.out.trans (hb.mono B2.out.size)); clear hb)
      | (go_at_call 8; refine (HRo.out _ B3.out).mono ?_; rintro e w4 ⟨rfl, hb⟩; have B4 := Lib.hid (B3.out.trans (hb.mono B3.out.size)); clear hb)
      | (go_at_call 9; refine (HP.out _ B4.out).mono ?_; rintro e w5 ⟨x5, rfl, hx, ho1, ho2, hb⟩; have HX := Lib.hid hx; have O1 := Lib.hid ho1; have O2 := Lib.hid ho2; have B5 := Lib.hid (B4.out.trans (hb.mono B4.out.size)); clear hb hx ho1 ho2)
      | (refine wpList_store_row rfl 29 _ _ rfl w5.heap.size x5.cells rfl rfl 29 _ (heap_alloc_new w5 _) infoP rfl (oneP _) ?_))
    generalize hW : World.setRow _ _ _ = W6
    have b6 : Below w5.heap.size w5 W6 := by rw [← hW]; exact kept_new w5 _ _ _
    have G6 := Lib.hid (show W6.heap[w5.heap.size]? = some (.cells x5.cells 29 (0, 0)) by rw [← hW]; exact has_new w5 _ _ _)
    have B6 := Lib.hid (B5.out.trans (b6.mono B5.out.size))
    have lt6 := (Array.getElem?_eq_some_iff.1 G6.out).1
    replace O1 := Lib.hid (MerJ.own_later O1.out b6)
    replace O2 := Lib.hid (MerJ.own_later O2.out b6)
    clear hW b6 HF HDp HDr HRo HP B1 B2 B3 B4 B5
    go_upto_region 9 with (fail)
    go_wp2_with fail
    go_loopw [75] (fun kv wr => ∃ k : Nat, k ≤ n ∧ kv = .int .i64 k ∧ Below W6.heap.size W6 wr) (fun kv _ => n - (intOf kv).toNat)
    case atStart => exact ⟨0, Nat.zero_le _, rfl, Below.refl _ _⟩
    case round =>
      obtain ⟨k, hk, rfl, hb⟩ := hrel
      have HB := Lib.hid hb
      have HBw := Lib.hid (B6.out.trans (hb.mono B6.out.size))
      clear hb
      by_cases hlt : k < n
      · obtain ⟨g, o, rfl, hg, hc⟩ := (HL.out _ HBw.out) (by omega)
        obtain ⟨c0, c1⟩ := hc k (by omega)
        have HSp1 := Lib.hid (HSp.out k hlt)
        have HSr1 := Lib.hid (HSr.out k hlt)
        generalize said (l.getD k no) = y at *
        generalize l.getD k no = x at *
        obtain ⟨x0, x1⟩ := x
        dsimp only at c0 c1 HSp1 HSr1
        have q0 : (0 : Int) ≤ (k : Int) := by omega
        have q1 : (k : Int) < (n : Int) := by omega
        clear hc hg HSp HSr
        go_upto_region 12 with (refine wpList_store_row rfl 25 _ _ rfl wr.heap.size _ rfl rfl 25 _ (heap_alloc_new wr _) infoL rfl (two x0 x1) ?_)
        generalize hW : World.setRow _ _ _ = W7
        have b7 : Below wr.heap.size wr W7 := by rw [← hW]; exact kept_new wr _ _ _
        have g7 : W7.heap[wr.heap.size]? = some (.cells #[.int .i64 x0, st x1] 25 (0, 0)) := by rw [← hW]; exact has_new wr _ _ _
        clear hW
        have k0 : W7.cell? ⟨wr.heap.size, 0, none⟩ = some (.int .i64 x0) := blk_cell g7 rfl
        have k1 : W7.cell? ⟨wr.heap.size, 1, none⟩ = some (st x1) := blk_cell g7 rfl
        have l7 : wr.heap.size < W7.heap.size := (Array.getElem?_eq_some_iff.1 g7).1
        have hS : W7.drew.cell? ⟨wr.heap.size, 0, none⟩ = some (.int .i64 x0) ∧ W7.drew.cell? ⟨wr.heap.size, 1, none⟩ = some (st x1) := ⟨k0, k1⟩
        have HSt : Hid (∀ W, Below W7.heap.size W7 W → W.cell? ⟨wr.heap.size, 0, none⟩ = some (.int .i64 x0) ∧ W.cell? ⟨wr.heap.size, 1, none⟩ = some (st x1)) := Lib.hid fun W hb => ⟨(hb.cell (p := ⟨wr.heap.size, 0, none⟩) l7).trans k0, (hb.cell (p := ⟨wr.heap.size, 1, none⟩) l7).trans k1⟩
        have B7 := Lib.hid (HB.out.trans (b7.mono HB.out.size))
        have BS := Lib.hid ((Below.refl W7.heap.size W7).drew)
        clear b7 g7 c0 c1 k0 k1 l7
        go_region_held3 (fun W => W.cell? ⟨wr.heap.size, 0, none⟩ = some (.int .i64 x0) ∧ W.cell? ⟨wr.heap.size, 1, none⟩ = some (st x1))
          (first | exact hS)
          (first
            | (go_at_call 10; refine (HSp1.out _).mono ?_; rintro e w8 ⟨rfl, hb⟩; replace BS := Lib.hid (BS.out.trans (hb.mono BS.out.size)); replace hS := HSt.out _ BS.out; clear hb)
            | (go_at_call 11; refine (HSr1.out _).mono ?_; rintro e w9 ⟨rfl, hb⟩; replace BS := Lib.hid (BS.out.trans (hb.mono BS.out.size)); replace hS := HSt.out _ BS.out; clear hb))
        have B8 := Lib.hid (B7.out.trans (BS.out.mono B7.out.size))
        clear BS HSt hS B7
        go_wp2_with fail
        go_roundw
        case rel => exact ⟨k + 1, by omega, by go_num, B8.out⟩
        case measure => simp [intOf]; omega
      · obtain rfl : k = n := by omega
        have BX := Lib.hid ((show PrgC.BoxP w5.heap.size x5 W6 from G6.out).step HB.out)
        clear HSp HSr HL
        go_upto_region 19 with (first
          | (go_at_call 12; refine (HRi.out _ HBw.out).mono ?_; rintro e w8 ⟨rfl, hb⟩; have B8 := Lib.hid (HBw.out.trans (hb.mono HBw.out.size)); replace BX := Lib.hid ((show PrgC.BoxP w5.heap.size x5 _ from BX.out).step hb); have C8 := Lib.hid (HB.out.trans (hb.mono HB.out.size)); clear hb)
          | (go_at_call 13; refine (HCh.out _ B8.out).mono ?_; rintro e w9 ⟨rfl, hb⟩; have B9 := Lib.hid (B8.out.trans (hb.mono B8.out.size)); replace BX := Lib.hid ((show PrgC.BoxP w5.heap.size x5 _ from BX.out).step hb); have C9 := Lib.hid (C8.out.trans (hb.mono C8.out.size)); clear hb)
          | (go_at_call 16; refine (HHs.out _ B9.out).mono ?_; rintro e w10 ⟨a10, c10, rfl, ho, hb⟩; have B10 := Lib.hid (B9.out.trans (hb.mono B9.out.size)); replace BX := Lib.hid ((show PrgC.BoxP w5.heap.size x5 _ from BX.out).step hb); have C10 := Lib.hid (C9.out.trans (hb.mono C9.out.size)); have O10 := Lib.hid ho; clear hb ho)
          | (go_at_call 15; refine (HMr.out _ _ _ _ O10.out).mono ?_; rintro e w11 ⟨rfl, hb⟩; have B11 := Lib.hid (B10.out.trans (hb.mono B10.out.size)); replace BX := Lib.hid ((show PrgC.BoxP w5.heap.size x5 _ from BX.out).step hb); have C11 := Lib.hid (C10.out.trans (hb.mono C10.out.size)); clear hb))
        clear HRi HCh HHs HMr B8 B9 B10 C8 C9 C10 O10
        have hbd := HBd.out
        have d1 : decide (lba < 0) = false := decide_eq_false (by omega)
        have d2 : decide (4095 < lba) = false := decide_eq_false (by omega)
        have d3 : 0 ≤ lba := by omega
        have d4 : lba ≤ 4095 := by omega
        clear hbd
        go_upto_region 21 with (fail)
        obtain ⟨c0, c1, c2, c3, c4, c5, c6, c7⟩ := (show PrgC.BoxP w5.heap.size x5 w11 from BX.out).cells
        have hS : (w11.drew.cell? ⟨w5.heap.size, 0, none⟩ = some (.bool x5.f) ∧ w11.drew.cell? ⟨w5.heap.size, 1, none⟩ = some (.int .i64 x5.at_) ∧ w11.drew.cell? ⟨w5.heap.size, 2, none⟩ = some (.int .i64 x5.here.1) ∧ w11.drew.cell? ⟨w5.heap.size, 3, none⟩ = some (st x5.here.2) ∧ w11.drew.cell? ⟨w5.heap.size, 4, none⟩ = some (.int .i64 x5.ahead.1) ∧ w11.drew.cell? ⟨w5.heap.size, 5, none⟩ = some (st x5.ahead.2) ∧ w11.drew.cell? ⟨w5.heap.size, 6, none⟩ = some (.slice x5.ua x5.up.length x5.uc) ∧ w11.drew.cell? ⟨w5.heap.size, 7, none⟩ = some (.slice x5.la x5.left.length x5.lc)) := ⟨c0, c1, c2, c3, c4, c5, c6, c7⟩
        have HSt : Hid (∀ W, Below w11.heap.size w11 W → (W.cell? ⟨w5.heap.size, 0, none⟩ = some (.bool x5.f) ∧ W.cell? ⟨w5.heap.size, 1, none⟩ = some (.int .i64 x5.at_) ∧ W.cell? ⟨w5.heap.size, 2, none⟩ = some (.int .i64 x5.here.1) ∧ W.cell? ⟨w5.heap.size, 3, none⟩ = some (st x5.here.2) ∧ W.cell? ⟨w5.heap.size, 4, none⟩ = some (.int .i64 x5.ahead.1) ∧ W.cell? ⟨w5.heap.size, 5, none⟩ = some (st x5.ahead.2) ∧ W.cell? ⟨w5.heap.size, 6, none⟩ = some (.slice x5.ua x5.up.length x5.uc) ∧ W.cell? ⟨w5.heap.size, 7, none⟩ = some (.slice x5.la x5.left.length x5.lc))) := Lib.hid fun W hb => ((show PrgC.BoxP w5.heap.size x5 w11 from BX.out).step hb).cells
        have BS := Lib.hid ((Below.refl w11.heap.size w11).drew)
        have HSm1 := Lib.hid (fun B y W (hy : pf y = pr) (h1 : W.ownsRow B 9 1 (.slice y.ua y.up.length y.uc) y.up.length (y.up.map str)) (h2 : W.ownsRow B 9 1 (.slice y.la y.left.length y.lc) y.left.length (y.left.map str)) (hb : Below w11.heap.size w11 W) => HSm.out x5 y _ _ W HX.out hy (MerJ.own_later O1.out (C11.out.trans (hb.mono C11.out.size))) (MerJ.own_later O2.out (C11.out.trans (hb.mono C11.out.size))) h1 h2)
        have HPr1 := Lib.hid (fun W (hb : Below w11.heap.size w11 W) => HPr.out W (B11.out.trans (hb.mono B11.out.size)))
        have HA1 := Lib.hid (fun W (hb : Below w11.heap.size w11 W) => HA.out W (B11.out.trans (hb.mono B11.out.size)))
        clear c0 c1 c2 c3 c4 c5 c6 c7 HSm HPr HA O1 O2 HX C11 HB HBw
        go_region_held3 (fun W => (W.cell? ⟨w5.heap.size, 0, none⟩ = some (.bool x5.f) ∧ W.cell? ⟨w5.heap.size, 1, none⟩ = some (.int .i64 x5.at_) ∧ W.cell? ⟨w5.heap.size, 2, none⟩ = some (.int .i64 x5.here.1) ∧ W.cell? ⟨w5.heap.size, 3, none⟩ = some (st x5.here.2) ∧ W.cell? ⟨w5.heap.size, 4, none⟩ = some (.int .i64 x5.ahead.1) ∧ W.cell? ⟨w5.heap.size, 5, none⟩ = some (st x5.ahead.2) ∧ W.cell? ⟨w5.heap.size, 6, none⟩ = some (.slice x5.ua x5.up.length x5.uc) ∧ W.cell? ⟨w5.heap.size, 7, none⟩ = some (.slice x5.la x5.left.length x5.lc)))
          (first | exact hS)
          (first
            | (go_at_call 17; refine (HPr1.out _ BS.out).mono ?_; rintro e w12 ⟨y, rfl, hy, p1, p2, hb⟩; have HY := Lib.hid hy; have P1 := Lib.hid p1; have P2 := Lib.hid p2; replace BS := Lib.hid (BS.out.trans (hb.mono BS.out.size)); replace hS := HSt.out _ BS.out; clear hb hy p1 p2)
            | (go_at_call 14; refine (HSm1.out _ y _ HY.out P1.out P2.out BS.out).mono ?_; rintro e w13 ⟨rfl, hb⟩; replace BS := Lib.hid (BS.out.trans (hb.mono BS.out.size)); replace hS := HSt.out _ BS.out; clear hb)
            | (go_at_call 5; refine (HA1.out _ BS.out).mono ?_; rintro e w14 ⟨rfl, hb⟩; replace BS := Lib.hid (BS.out.trans (hb.mono BS.out.size)); replace hS := HSt.out _ BS.out; clear hb))
        have B14 := Lib.hid (B11.out.trans (BS.out.mono B11.out.size))
        clear BS hS HSt
        go_wp2_with fail
        go_ret
        exact ⟨rfl, B14.out⟩
theorem walk (b : Option Addr) (n c : Nat) (l : List Lf) (lba ep sl : Int) (s : ByteArray) (w : World) (w0 : Lvs w b n l) (w1 : (Lit.int .i64 lba).wf = true) (w2 : (Lit.int .i64 ep).wf = true) (w3 : (Lit.int .i64 sl).wf = true) (w4 : s.size ≤ maxLen) (hr : Rds w) :
    Calls Tryz.prog 3 #[.slice b n c, .int .i64 lba, .int .i64 ep, .int .i64 sl, .string s] w fun e w' => e = .returned (.bool true) ∧ Below w.heap.size w w' := by
  rw [← st_of s]
  have h1 := (bounds_i64 w2).2
  have h2 := (bounds_i64 w3).2
  generalize s.data.toList = t
  cases hf : fewB l zeroRaw with
  | false => exact out b n c l lba ep sl t w w0 h1 h2 hr hf
  | true =>
    by_cases hl : 1000 < t.length
    · exact long b n c l lba ep sl t w w0 h1 h2 hr hf hl
    · cases hc : canB l lba with
      | true =>
        obtain ⟨hri, hb⟩ := can_in hc
        exact lin b n c l lba ep sl t w w0 h1 h2 hr hf (by omega) hri hc hb
      | false =>
        cases hri : right l with
        | false => exact bad b n c l lba ep sl t w w0 h1 h2 hr hf (by omega) hri hc
        | true => exact lout b n c l lba ep sl t w w0 h1 h2 hr hf (by omega) hri hc ((can_no hc).resolve_left (by rw [hri]; simp))
theorem own : ownKnob Tryz.prog.godebug = none := by kernel_rfl
theorem laidOut : laidOutB Tryz.prog = true := by kernel_rfl
set_option maxRecDepth 100000 in
theorem lifted (os : Os) (started : os.Started) (H : Type) (enc : TypeId × Value → H) :
    ReturnsInHanded {} Tryz.checked os 3 .any (fun w args => (Rows.proofProvesSpec.pre enc Tryz.prog Tryz.f3 Rows.proofProvesRow.domain false w args ∧ laidMetH Tryz.prog Rows.proofProvesRow.laid w) ∧ sizedMet enc Tryz.prog Tryz.f3 (OpenSpec.ofChange Rows.proofProvesSpec) false w args) (Rows.proofProvesSpec.post enc Tryz.prog Tryz.f3 false true false false) := by
  refine returnsInHanded_of_change_and (C := Tryz.checked) (X := fun w _ => laidMetH Tryz.prog Rows.proofProvesRow.laid w) (fun _ _ _ hh h => h.of_heap hh) own started (by kernel_rfl) Tryz.func3
    (ChangeSpec.witness_shaped (enc := enc) (C := Tryz.checked) (os := os) (X := fun w _ => laidMetH Tryz.prog Rows.proofProvesRow.laid w) false (World.doorLaid Tryz.prog 400 os) #[.slice none 0 0, .int .i64 0, .int .i64 0, .int .i64 0, .string ByteArray.empty] 8 rfl (World.shaped_of_RefB (by kernel_rfl) (by kernel_rfl)) (by kernel_rfl) (by kernel_rfl) (by kernel_rfl) (SLaid.door_met os _)) ?_
  intro W base args ds gs before hval0 hW _ _ hL _
  have hr := SLaid.of_laid hL
  have hval : ∀ (j : Nat) t v, Tryz.f3.params[j]? = some t → args[j]? = some v → Value.okWide Tryz.prog W .any base t v := hval0
  have hW' := hW
  obtain ⟨p, q, hA0, hV, rfl, hfz, hnd⟩ := hW
  have hA : DataW.TrodAll enc Tryz.prog W 0 (fun _ => true) true Tryz.f3.params.toList args.toList ds p := hA0
  rw [Tryz.params3] at hA hval
  obtain ⟨v0, vs0, d0, ds0, p0, q0, hargs, rfl, rfl, h0, r0⟩ := trodAll_cons hA
  obtain ⟨v1, vs1, d1, ds1, p1, q1, rfl, rfl, rfl, h1, r1⟩ := trodAll_cons r0
  obtain ⟨v2, vs2, d2, ds2, p2, q2, rfl, rfl, rfl, h2, r2⟩ := trodAll_cons r1
  obtain ⟨v3, vs3, d3, ds3, p3, q3, rfl, rfl, rfl, h3, r3⟩ := trodAll_cons r2
  obtain ⟨v4, vs4, d4, ds4, p4, q4, rfl, rfl, rfl, h4, r4⟩ := trodAll_cons r3
  obtain ⟨rfl, rfl, rfl⟩ := trodAll_nil r4
  obtain rfl : args = #[v0, v1, v2, v3, v4] := by cases args; simp_all
  obtain ⟨rfl, rfl⟩ := trodVars_none hV
  have k0 := h0
  have lt0 : ∀ x ∈ p0, x.block < W.heap.size := by obtain ⟨m, hm⟩ := k0; exact DataW.trod_lt m _ _ _ hm
  obtain ⟨b0, len0, ca0, rfl⟩ := okWide_slice Tryz.underlying22 (hval 0 22 v0 rfl rfl)
  obtain ⟨a0, n0, cap0, z0, he0, w0⟩ := PrfM.open_leaves h0
  simp only [Value.cells, List.cons.injEq, Value.slice.injEq, and_true] at he0
  obtain ⟨rfl, rfl, rfl⟩ := he0
  obtain ⟨a1, rfl, rfl, rfl, w1⟩ := open_int Tryz.underlying3 (hval 1 3 v1 rfl rfl) h1
  obtain ⟨a2, rfl, rfl, rfl, w2⟩ := open_int Tryz.underlying3 (hval 2 3 v2 rfl rfl) h2
  obtain ⟨a3, rfl, rfl, rfl, w3⟩ := open_int Tryz.underlying3 (hval 3 3 v3 rfl rfl) h3
  obtain ⟨a4, rfl, rfl, rfl, w4⟩ := open_string Tryz.underlying9 (hval 4 9 v4 rfl rfl) h4
  clear hA0 hval0
  refine (walk b0 len0 ca0 z0 a1 a2 a3 a4 W w0 w1 w2 w3 w4 hr).mono fun e W' ⟨he, bel⟩ => ?_
  subst he
  exact ⟨_, rfl, _, _, _, [], _, [], hW', trodAll_mk1 (shut_bool Tryz.underlying4 _), (trodAll_cons_mk (Below.trod laidOut (by kernel_rfl) (of_decide_eq_true (by kernel_rfl)) k0 bel lt0) (trodAll_cons_mk (shut_int Tryz.underlying3 w1) (trodAll_cons_mk (shut_int Tryz.underlying3 w2) (trodAll_cons_mk (shut_int Tryz.underlying3 w3) (trodAll_cons_mk (shut_string Tryz.underlying9 w4) trodAll_mk0))))), rfl, bel.frame _, fun h => by cases h⟩
theorem over : Rows.proofProvesRow.holds Tryz.pinned (OpenSpec.ofChange Rows.proofProvesSpec) :=
  OpenClaim.holds_of_wide 3 Tryz.f3 rfl rfl rfl rfl rfl rfl rfl ⟨rfl, rfl, rfl, rfl, rfl⟩ rfl rfl rfl rfl rfl (by kernel_rfl) Tryz.func3 (by kernel_rfl)
    (of_decide_eq_true (by kernel_rfl)) (by unfold Func.isWrapper; first | (rw [if_pos (by decide +kernel)]; kernel_rfl) | (rw [if_neg (by decide +kernel)]; exact ⟨rfl, rfl⟩))
    (fun os started H enc _ => lifted os started H enc)
/-- THE STATEMENT, proved. -/
theorem proved : Rows.ProofProvesCardSaid :=
  Claim7.holds_tied_plain_at .later [] _ true _ false
    over (fun _ h => by cases h) (by kernel_rfl) (fun _ h => by cases h) proofProves_row_tie rfl ⟨rfl, rfl⟩ (by kernel_rfl) rfl
    (fun f fn hf hfn => by
      obtain rfl : f = 3 := Option.some.inj ((show Tryz.prog.funcNamed "keepsake/keepsakelaw16.ProofProves" = some 3 by kernel_rfl).symm.trans hf) |>.symm
      obtain rfl : fn = Tryz.f3 := (Option.some.inj (Tryz.func3.symm.trans hfn)).symm
      exact ⟨by kernel_rfl, fun j t ht => by
        rw [Tryz.params3] at ht
        have hm : t ∈ [22, 3, 3, 3, 9] := by simpa using Array.mem_of_getElem? ht
        have hall : ([22, 3, 3, 3, 9].all fun u => !Tryz.prog.wantsStandIn u) = true := by kernel_rfl
        exact (show Tryz.prog.wantsStandIn t = false by simpa using List.all_eq_true.1 hall t hm)⟩)
    (by kernel_rfl)
#print axioms proved
end Go.Proofs.YtcadfpaihfaabaaGreatDoor.proofProves
