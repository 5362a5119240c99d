/- PrgH PrgR PrgF PrgO: one behind the other. -/
import Derived.Test.YtdkcebaehdkphaaGreatDoorLPrgA
import Derived.Test.YtdkcebaehdkphaaGreatDoorMerR
import Derived.Test.YtdkcebaehdkphaaGreatDoorMerJ
import Derived.Deep.RegionHeld3
import Derived.Test.YtdkcebaehdkphaaGreatDoorPrfL
import Derived.LoopN
/- The program's package proof: hashes, rootOf, Root: the walks of their texts. The condition: the rounds' numbers lie in the program's variable. -/
namespace Go.Proofs.YtdkcebaehdkphaaGreatDoor.PrgH
open Go.RowKit STurn SSum
open PrfL PrfN PrfM PrfB PrgN PrgC PrgK MerQ MerC MerJ MerR
theorem said_le (x : Lf) : (said x).length ≤ 36 := by
  cases h : okL x with
  | false => rw [said_no h]; simp
  | true => rw [said_length h]; omega
theorem hs_next {l : List Lf} {k : Nat} (hk : k < l.length) : hs (l.take (k + 1)) = hs (l.take k) ++ [lh (l.getD k no)] := by
  unfold hs
  rw [List.take_succ_eq_append_getElem hk, List.map_append, at_d _ hk]
  rfl
theorem trees_box (w : World) : (w.alloc (.cells tc 81)).heap[w.heap.size]? = some (.cells tc 81 (0, 0)) := heap_alloc_new w _
theorem hashes_no (a : Option Addr) (n c : Nat) (l : List Lf) (w : World) (h : Lvs w a n l) (hno : right l = false) :
    Calls Tryz.prog 59 #[.agg tc, .slice a n c] w fun e w' => e = .returned (.tuple #[.slice none 0 0, .int .i64 2]) ∧ Below w.heap.size w w' := by
  have HB := Lib.hid (below_new w (.cells tc 81))
  have HC := Lib.hid (Check a n c l _ (⟨h.1, h.2.1, h.2.2.1, h.2.2.2.step HB.out⟩ : Lvs (w.alloc (.cells tc 81)) a n l))
  rw [hno] at HC
  simp only [Bool.false_eq_true, if_false] at HC
  clear h hno
  generalize tc = cs at *
  go_enter Tryz.func59, Tryz.ntmps59
  go_upto_region 1 with (fail)
  generalize World.alloc w _ = W1 at *
  go_wp2_with (go_at_call 84; refine HC.out.mono ?_; rintro e w2 ⟨rfl, hb⟩; have B2 := Lib.hid (HB.out.trans (hb.mono HB.out.size)); clear hb)
  go_ret2
  exact ⟨rfl, B2.out⟩
set_option maxRecDepth 100000 in
set_option maxHeartbeats 2000000 in
theorem hashes_yes (a : Option Addr) (n c : Nat) (l : List Lf) (w : World) (h : Lvs w a n l) (hn : n ≤ 100000) (hr : Rds w) (hok : right l = true) :
    Calls Tryz.prog 59 #[.agg tc, .slice a n c] w fun e w' => ∃ p c', e = .returned (.tuple #[.slice p n c', .int .i64 0]) ∧ Strs w' w'.heap.size p n (hs l) ∧ Below w.heap.size w w' := by
  obtain ⟨hln, hml, hfit, hl⟩ := h
  obtain ⟨W1, hW1⟩ : ∃ W1, W1 = w.alloc (.cells tc 81) := ⟨_, rfl⟩
  have b1 : Below w.heap.size w W1 := by rw [hW1]; exact below_new w _
  have t1 : W1.heap[w.heap.size]? = some (.cells tc 81 (0, 0)) := by rw [hW1]; exact heap_alloc_new w _
  have lt1 : w.heap.size < W1.heap.size := (Array.getElem?_eq_some_iff.1 t1).1
  have B1 := Lib.hid b1
  have HT := Lib.hid (fun W (hb : Below W1.heap.size W1 W) => blk_cell (i := 0) ((hb.block _ lt1).trans t1) (u := fv 51) rfl)
  have HRd := Lib.hid (fun W (hb : Below w.heap.size w W) => hr.step hb)
  have HL := Lib.hid (hl.step b1)
  have HC := Lib.hid (Check a n c l W1 ⟨hln, hml, hfit, hl.step b1⟩)
  rw [hok] at HC
  simp only [if_true] at HC
  have HF := Lib.hid hfit
  obtain ⟨i0, hi, hz0, hz1, hz2⟩ := info_parts info_string
  have HI := Lib.hid hi
  have HZ := Lib.hid hz0
  have HZ1 := Lib.hid hz1
  have HZ2 := Lib.hid hz2
  clear hfit hl hok hr b1 t1 hi hz0 hz1 hz2
  have HLt := Lib.hid lt1
  clear lt1
  generalize tc = cs at *
  go_enter Tryz.func59, Tryz.ntmps59
  go_upto_region 1 with (fail)
  rw [← hW1]
  clear hW1
  go_wp2_with (first
    | (go_at_call 84; refine HC.out.mono ?_; rintro e w2 ⟨rfl, hb⟩; have B2 := Lib.hid hb; clear hb)
    | (at_make; refine wpList_make_own w2 rfl _ _ 42 rfl w2.heap.size 9 i0 (.string ByteArray.empty) 1 Tryz.underlying42 HI.out HZ.out HZ1.out .i64 .i64 (n : Int) n rfl rfl rfl (by rw [HZ2.out]; omega) (by unfold maxLen; omega) (Nat.le_refl _) ?_; intro w3 hown3 hg3))
  have O3 := Lib.hid hown3
  have B3 := Lib.hid ((Below.refl w2.heap.size w2).grown hg3 (Nat.le_refl _) (fun k e => by cases e))
  clear hown3 hg3
  go_loopw [7, 20] (fun ov kv wr => ∃ (k : Nat) (p : Option Addr) (cp : Nat), k ≤ n ∧ kv = .int .i64 k ∧ ov = .slice p k cp ∧ wr.ownsRow w2.heap.size 9 1 (.slice p k cp) k ((hs (l.take k)).map st) ∧ Below w2.heap.size w2 wr) (fun _ kv _ => n - (intOf kv).toNat)
  case atStart => exact ⟨0, _, _, Nat.zero_le _, rfl, rfl, O3.out, B3.out⟩
  case round =>
    obtain ⟨k, p, cp, hk, rfl, rfl, ho, hb⟩ := hrel
    have HB := Lib.hid hb
    have HO := Lib.hid ho
    have HBB := Lib.hid (B2.out.trans (hb.mono B2.out.size))
    clear hb ho
    by_cases hlt : k < n
    · have q0 : (0 : Int) ≤ (k : Int) := by omega
      have q1 : (k : Int) < (n : Int) := by omega
      obtain ⟨g, o, rfl, hg, hc⟩ := (HL.out.step HBB.out) (by omega)
      obtain ⟨c0, c1⟩ := hc k (by omega)
      have hfk := HF.out (l.getD k no) (by rw [at_d _ (by omega)]; exact List.getElem_mem _)
      have HSd := Lib.hid (fun W => Said (l.getD k no) W hfk)
      have hsl := said_le (l.getD k no)
      have HN := Lib.hid (hs_next (l := l) (k := k) (by omega))
      have hkl : (hs (l.take k)).length = k := by rw [hs_length, List.length_take]; omega
      rw [show lh (l.getD k no) = sum (0 :: said (l.getD k no)) from rfl] at HN
      generalize hs (l.take k) = out at *
      generalize said (l.getD k no) = s at *
      generalize l.getD k no = x at *
      obtain ⟨x0, x1⟩ := x
      dsimp only at HSd c0 c1
      have HS := Lib.hid (fun W (hb : Below w.heap.size w W) => Leaf s (by omega) W (HRd.out W hb))
      clear hc hfk
      generalize sum (0 :: s) = y at *
      have hfew : k ≤ 1000000 := by omega
      go_upto_region 8 with (refine wpList_store_row rfl 45 _ _ rfl wr.heap.size _ rfl rfl 45 _ (heap_alloc_new wr _) infoL rfl (two x0 x1) ?_)
      generalize hW : World.setRow _ _ _ = W4
      have b4 : Below wr.heap.size wr W4 := by rw [← hW]; exact kept_new wr _ _ _
      have g4 : W4.heap[wr.heap.size]? = some (.cells #[.int .i64 x0, st x1] 45 (0, 0)) := by rw [← hW]; exact has_new wr _ _ _
      have hgl := (Array.getElem?_eq_some_iff.1 g4).1
      clear hW
      have k0 : W4.cell? ⟨wr.heap.size, 0, none⟩ = some (.int .i64 x0) := blk_cell g4 rfl
      have k1 : W4.cell? ⟨wr.heap.size, 1, none⟩ = some (st x1) := blk_cell g4 rfl
      have B4 := Lib.hid (HB.out.trans (b4.mono HB.out.size))
      have kt := HT.out _ (B2.out.trans (B4.out.mono B2.out.size))
      have O4 := Lib.hid (own_later HO.out b4)
      have C0 := Lib.hid (Below.refl W4.heap.size W4).drew
      have htl := World.block_lt_of_cell? _ _ kt
      have HSt : Hid (∀ W, Below W4.heap.size W4 W → W.cell? ⟨wr.heap.size, 0, none⟩ = some (.int .i64 x0) ∧ W.cell? ⟨wr.heap.size, 1, none⟩ = some (st x1) ∧ W.cell? ⟨w.heap.size, 0, none⟩ = some (fv 51)) := Lib.hid fun W hb =>
        ⟨(hb.cell (p := ⟨wr.heap.size, 0, none⟩) hgl).trans k0, (hb.cell (p := ⟨wr.heap.size, 1, none⟩) hgl).trans k1, (hb.cell (p := ⟨w.heap.size, 0, none⟩) htl).trans kt⟩
      have hS := HSt.out _ C0.out
      clear b4 g4 hgl c0 c1 htl k0 k1 kt
      have HNe : Hid (some wr.heap.size ≠ (Value.slice p k cp).ownBlock ∧ some w.heap.size ≠ (Value.slice p k cp).ownBlock) := Lib.hid ⟨fun e => by have := (HO.out.lt _ e.symm).2; omega, fun e => by have := (HO.out.lt _ e.symm).1; have := B2.out.size; have := HLt.out; omega⟩
      have DW := Lib.hid (fun W (hb : Below W4.heap.size W4 W) => (B1.out.trans (B2.out.mono B1.out.size)).trans (((B4.out).trans (hb.mono B4.out.size)).mono (Nat.le_trans B1.out.size B2.out.size)))
      have HCl : Hid (∀ w6 w7 : World, (w6.alloc (.cells #[st y] 9)).grownBy w7 (Value.slice p k cp).ownBlock → (w6.cell? ⟨wr.heap.size, 0, none⟩ = some (.int .i64 x0) ∧ w6.cell? ⟨wr.heap.size, 1, none⟩ = some (st x1) ∧ w6.cell? ⟨w.heap.size, 0, none⟩ = some (fv 51)) →
          w7.cell? ⟨wr.heap.size, 0, none⟩ = some (.int .i64 x0) ∧ w7.cell? ⟨wr.heap.size, 1, none⟩ = some (st x1) ∧ w7.cell? ⟨w.heap.size, 0, none⟩ = some (fv 51)) := Lib.hid fun w6 w7 hg ⟨h1, h2, h3⟩ =>
        ⟨hg.cell (((below_new w6 _).cell (p := ⟨wr.heap.size, 0, none⟩) (World.block_lt_of_cell? _ _ h1)).trans h1) HNe.out.1, hg.cell (((below_new w6 _).cell (p := ⟨wr.heap.size, 1, none⟩) (World.block_lt_of_cell? _ _ h2)).trans h2) HNe.out.1, hg.cell (((below_new w6 _).cell (p := ⟨w.heap.size, 0, none⟩) (World.block_lt_of_cell? _ _ h3)).trans h3) HNe.out.2⟩
      have HAl : Hid (∀ W : World, (W.cell? ⟨wr.heap.size, 0, none⟩ = some (.int .i64 x0) ∧ W.cell? ⟨wr.heap.size, 1, none⟩ = some (st x1) ∧ W.cell? ⟨w.heap.size, 0, none⟩ = some (fv 51)) → (W.alloc (.cells #[st y] 9)).cell? ⟨wr.heap.size, 0, none⟩ = some (.int .i64 x0) ∧ (W.alloc (.cells #[st y] 9)).cell? ⟨wr.heap.size, 1, none⟩ = some (st x1) ∧ (W.alloc (.cells #[st y] 9)).cell? ⟨w.heap.size, 0, none⟩ = some (fv 51)) := Lib.hid fun W ⟨h1, h2, h3⟩ =>
        ⟨((below_new W _).cell (p := ⟨wr.heap.size, 0, none⟩) (World.block_lt_of_cell? _ _ h1)).trans h1, ((below_new W _).cell (p := ⟨wr.heap.size, 1, none⟩) (World.block_lt_of_cell? _ _ h2)).trans h2, ((below_new W _).cell (p := ⟨w.heap.size, 0, none⟩) (World.block_lt_of_cell? _ _ h3)).trans h3⟩
      go_region_held3 (fun w' => w'.cell? ⟨wr.heap.size, 0, none⟩ = some (.int .i64 x0) ∧ w'.cell? ⟨wr.heap.size, 1, none⟩ = some (st x1) ∧ w'.cell? ⟨w.heap.size, 0, none⟩ = some (fv 51))
        (first | exact hS | exact hS1 | exact hS2 | exact hS2' | exact hS3)
        (first
          | (go_at_call 85; refine (HSd.out _).mono ?_; rintro e w5 ⟨rfl, hb⟩; have C1 := Lib.hid (C0.out.trans (hb.mono C0.out.size)); have O5 := Lib.hid (own_later O4.out C1.out); have hS1 := HSt.out _ C1.out; clear hb)
          | (go_at_call 51; refine (HS.out _ (DW.out _ C1.out)).mono ?_; rintro e w6 ⟨rfl, hb⟩; have C2 := Lib.hid (C1.out.trans (hb.mono C1.out.size)); have O6 := Lib.hid (own_later O4.out C2.out); have hS2 := HSt.out _ C2.out; have hS2' := HAl.out _ hS2; clear hb)
          | (rw [if_pos (by rfl)]
             refine wp_grow _ _ rfl _ _ _ out rfl (O6.out.alloc _) w6.heap.size rfl y (blk_cell (heap_alloc_new w6 _) rfl) hfew (by simp; exact Nat.le_succ_of_le (Nat.le_trans B4.out.size C2.out.size)) ?_
             intro a3 c3 w7 ho7 hg7
             have HO7 := Lib.hid ho7
             have C3 := Lib.hid (grown_own (B4.out.trans (C2.out.mono B4.out.size)) (Nat.le_trans B4.out.size C2.out.size) O6.out hg7)
             have hS3 := HCl.out _ _ hg7 hS2
             clear ho7 hg7))
      go_wp2
      go_roundw
      case rel =>
        have e : (out ++ [y]).length = k + 1 := by rw [List.length_append, hkl]; rfl
        exact ⟨k + 1, a3, c3, by omega, by go_num, rfl, by rw [HN.out]; exact HO7.out, C3.out⟩
      case measure => simp [intOf]; omega
    · obtain rfl : k = n := by omega
      rw [List.take_of_length_le (by omega)] at HO
      go_wp2_with fail
      go_ret2
      exact ⟨p, cp, rfl, own_strs HO.out, B1.out.trans (HBB.out.mono B1.out.size)⟩
end Go.Proofs.YtdkcebaehdkphaaGreatDoor.PrgH
/- The program's package proof: rootOf, Root: the walks of their texts. The condition: the rounds' numbers lie in the program's variable. -/
namespace Go.Proofs.YtdkcebaehdkphaaGreatDoor.PrgR
open Go.RowKit STurn SSum
open PrfL PrfN PrfM PrfB PrgN PrgC PrgK PrgH MerQ MerC MerJ MerR
/-- What Root answers. -/
def rootP (l : List Lf) : L × Nat := if right l = true then (rt l, 0) else ([], 2)
theorem hs_le (l : List Lf) : ∀ x ∈ hs l, x.length ≤ 9223372036854775807 := fun x hx => by
  rw [all32_at (hs_32 l) x hx]; omega
theorem rootOf (a : Option Addr) (n c : Nat) (l : List Lf) (w : World) (h : Lvs w a n l) (hn : n ≤ 100000) (hr : Rds w) :
    Calls Tryz.prog 38 #[.agg tc, .slice a n c] w fun e w' => e = .returned (.tuple #[str (rootP l).1, .int .i64 ((rootP l).2 : Nat)]) ∧ Below w.heap.size w w' := by
  obtain ⟨W1, hW1⟩ : ∃ W1, W1 = w.alloc (.cells tc 81) := ⟨_, rfl⟩
  have b1 : Below w.heap.size w W1 := by rw [hW1]; exact below_new w _
  have t1 : W1.heap[w.heap.size]? = some (.cells tc 81 (0, 0)) := by rw [hW1]; exact heap_alloc_new w _
  have lt1 : w.heap.size < W1.heap.size := (Array.getElem?_eq_some_iff.1 t1).1
  have h1 : Lvs W1 a n l := ⟨h.1, h.2.1, h.2.2.1, h.2.2.2.step b1⟩
  have B1 := Lib.hid b1
  have T1 := Lib.hid t1
  have HT := Lib.hid (fun W (hb : Below W1.heap.size W1 W) => blk_cell (i := 1) ((hb.block _ lt1).trans t1) (u := fv 52) rfl)
  unfold rootP
  cases hok : right l with
  | false =>
    have HH := Lib.hid (hashes_no a n c l W1 h1 hok)
    simp only [Bool.false_eq_true, if_false]
    clear h hok h1 t1 b1 lt1
    have o1 := oneT
    go_enter Tryz.func38, Tryz.ntmps38
    go_upto_region 1 with (fail)
    rw [← hW1]
    clear hW1
    go_wp2_with (first
      | (refine wpList_load_row rfl 81 _ rfl w.heap.size rfl 81 _ (0, 0) _ T1.out Tryz.underlying81 rfl infoT ?_)
      | (go_at_call 59; refine HH.out.mono ?_; rintro e w2 ⟨rfl, hb⟩; have B2 := Lib.hid (B1.out.trans (hb.mono B1.out.size)); clear hb))
    go_ret2
    exact ⟨rfl, B2.out⟩
  | true =>
    have HH := Lib.hid (hashes_yes a n c l W1 h1 hn (hr.step b1) hok)
    simp only [if_true]
    have HRo := Lib.hid (fun p c' W (hs' : Strs W W.heap.size p n (hs l)) (hb : Below w.heap.size w W) => Root p n c' (hs l) W hs' hn (hs_le l) (hr.step hb))
    unfold rootR at HRo
    rw [hs_32] at HRo
    simp only [if_true] at HRo
    rw [show MerN.root nd (sum []) (hs l) = rt l from rfl] at HRo
    clear h hok h1 t1 b1 lt1
    generalize rt l = r at *
    go_enter Tryz.func38, Tryz.ntmps38
    go_upto_region 1 with (fail)
    rw [← hW1]
    clear hW1
    go_wp2_with (first
      | (refine wpList_load_row rfl 81 _ rfl w.heap.size rfl 81 _ (0, 0) _ T1.out Tryz.underlying81 rfl infoT ?_)
      | (go_at_call 59; refine HH.out.mono ?_; rintro e w2 ⟨p, c', rfl, hs2, hb⟩; have B2 := Lib.hid (B1.out.trans (hb.mono B1.out.size)); have S2 := Lib.hid hs2; have kt := HT.out _ hb; clear hb hs2)
      | (go_at_call 52; refine (HRo.out _ _ _ S2.out B2.out).mono ?_; rintro e w3 ⟨rfl, hb⟩; have B3 := Lib.hid (B2.out.trans (hb.mono B2.out.size)); clear hb))
    go_ret2
    exact ⟨rfl, B3.out⟩
theorem Root (a : Option Addr) (n c : Nat) (l : List Lf) (w : World) (h : Lvs w a n l) (hn : n ≤ 100000) (hr : Rds w) :
    Calls Tryz.prog 26 #[.slice a n c] w fun e w' => e = .returned (.tuple #[str (rootP l).1, .int .i64 ((rootP l).2 : Nat)]) ∧ Below w.heap.size w w' := by
  have HM := Lib.hid (merkles w)
  have HR := Lib.hid (fun W (hb : Below w.heap.size w W) => rootOf a n c l W ⟨h.1, h.2.1, h.2.2.1, h.2.2.2.step hb⟩ hn (hr.step hb))
  clear h hr
  generalize rootP l = r at *
  generalize tc = cs at *
  go_enter Tryz.func26, Tryz.ntmps26
  go_wp2_with (first
    | (go_at_call 35; refine HM.out.mono ?_; rintro e w1 ⟨rfl, hb⟩; have B1 := Lib.hid hb; clear hb)
    | (go_at_call 38; refine (HR.out _ B1.out).mono ?_; rintro e w2 ⟨rfl, hb⟩; have B2 := Lib.hid (B1.out.trans (hb.mono B1.out.size)); clear hb))
  go_ret2
  exact ⟨rfl, B2.out⟩
end Go.Proofs.YtdkcebaehdkphaaGreatDoor.PrgR
/- slices.BinarySearchFunc over leaves: the walk of its text. The condition: that the leaves' places rise. -/
namespace Go.Proofs.YtdkcebaehdkphaaGreatDoor.PrgF
open Go.RowKit
open PrfL PrfN PrfM PrfB PrgN PrgC MerQ
theorem cmp_neg {a b : Int} : cmpZ a b < 0 ↔ a < b := by
  unfold cmpZ
  split <;> (try split) <;> omega
theorem cmp_zero {a b : Int} : (cmpZ a b == 0) = decide (a = b) := by
  rw [Bool.eq_iff_iff, beq_iff_eq, decide_eq_true_eq]
  exact cmp_same
/-- Where a place is sought: has it a leaf? -/
def hit (l : List Lf) (b : Int) : Bool := decide (plc l b < l.length ∧ (l.getD (plc l b) no).1 = b)
set_option maxRecDepth 100000 in
set_option maxHeartbeats 1000000 in
theorem Search (a : Option Addr) (n c : Nat) (l : List Lf) (b : Int) (w : World) (hln : l.length = n) (hn : n ≤ 100000000) (hr : rise l = true) (hl : Lies w a l) :
    Calls Tryz.prog 63 #[.slice a n c, .int .i64 b, .func (.func 64) #[] #[]] w
      fun e w' => e = .returned (.tuple #[.int .i64 (plc l b : Nat), .bool (hit l b)]) ∧ Below w.heap.size w w' := by
  have HL := Lib.hid hl
  have HUp : Hid (∀ i j, i < j → j < n → (l.getD i no).1 < (l.getD j no).1) := Lib.hid fun i j h1 h2 => rise_at hr h1 (by omega)
  have HIs : Hid (∀ k, k ≤ n → (∀ i, i < k → (l.getD i no).1 < b) → (k < n → b ≤ (l.getD k no).1) → plc l b = k) := Lib.hid fun k h1 h2 h3 => plc_is (by omega) h2 (fun h => h3 (by omega))
  have HHit : Hid (hit l b = decide (plc l b < n ∧ (l.getD (plc l b) no).1 = b)) := Lib.hid (by unfold hit; rw [hln])
  generalize hit l b = q at *
  generalize plc l b = m at *
  clear hl hr
  go_enter Tryz.func63, Tryz.ntmps63
  go_wp2_with fail
  go_loopw [9, 10] (fun i j wr => ∃ lo hi : Nat, i = .int .i64 lo ∧ j = .int .i64 hi ∧ lo ≤ hi ∧ hi ≤ n ∧ Hid ((∀ t, t < lo → (l.getD t no).1 < b) ∧ (∀ t, hi ≤ t → t < n → b ≤ (l.getD t no).1)) ∧ Below w.heap.size w wr) (fun i j _ => (intOf j - intOf i).toNat)
  case atStart => exact ⟨0, n, rfl, rfl, Nat.zero_le _, Nat.le_refl _, ⟨fun t h => absurd h (by omega), fun t h1 h2 => absurd h1 (by omega)⟩, Below.refl _ _⟩
  case round =>
    obtain ⟨lo, hi, rfl, rfl, hlh, hin, I, hb⟩ := hrel
    have HB := Lib.hid hb
    clear hb
    by_cases hlt : lo < hi
    · obtain ⟨h, hh⟩ : ∃ h, h = (lo + hi) / 2 := ⟨_, rfl⟩
      have hhn : h < n := by omega
      obtain ⟨g, o, rfl, hg, hc⟩ := (HL.out.step HB.out) (by omega)
      obtain ⟨c0, c1⟩ := hc h (by omega)
      have HS := Lib.hid (fun W => sought (l.getD h no) b W)
      have HD := Lib.hid (cmp_neg (a := (l.getD h no).1) (b := b))
      have HLs : Hid ((l.getD h no).1 < b → ∀ t, t < h + 1 → (l.getD t no).1 < b) := Lib.hid fun h1 t ht => by
        by_cases e : t = h
        · rw [e]; exact h1
        · have := HUp.out t h (by omega) hhn; omega
      have HGe : Hid (¬ (l.getD h no).1 < b → ∀ t, h ≤ t → t < n → b ≤ (l.getD t no).1) := Lib.hid fun h1 t ht htn => by
        by_cases e : t = h
        · rw [e]; omega
        · have := HUp.out h t (by omega) htn; omega
      have q0 : (0 : Int) ≤ (h : Int) := by omega
      have q1 : (h : Int) < (n : Int) := by omega
      have HEh : Hid (((lo : Int) + (hi : Int)) / 2 = (h : Int)) := Lib.hid (by omega)
      have HHb : Hid (lo ≤ h ∧ h < hi) := Lib.hid (by omega)
      generalize l.getD h no = x at *
      obtain ⟨x0, x1⟩ := x
      dsimp only at HS HD HLs HGe c0 c1
      clear hc
      clear hh hhn hlh
      generalize cmpZ x0 b = z at *
      by_cases hz : z < 0
      · have HI := Lib.hid (HLs.out (HD.out.1 hz))
        have hd : decide (z < 0) = true := decide_eq_true hz
        clear HLs HGe HD
        go_upto_region 5 with (fail)
        rw [HEh.out]
        go_wp2_with (go_at_call 64; refine (HS.out _).mono ?_; rintro e w1 ⟨rfl, hb1⟩; have B1 := Lib.hid (HB.out.trans (hb1.mono HB.out.size)); clear hb1)
        go_roundw
        case rel => exact ⟨h + 1, hi, by go_num, rfl, by have := HHb.out; omega, hin, Lib.hid ⟨HI.out, I.out.2⟩, B1.out⟩
        case measure => have := HHb.out; simp [intOf]; omega
      · have HI := Lib.hid (HGe.out (fun e => hz (HD.out.2 e)))
        have hd : decide (z < 0) = false := decide_eq_false hz
        clear HLs HGe HD
        go_upto_region 5 with (fail)
        rw [HEh.out]
        go_wp2_with (go_at_call 64; refine (HS.out _).mono ?_; rintro e w1 ⟨rfl, hb1⟩; have B1 := Lib.hid (HB.out.trans (hb1.mono HB.out.size)); clear hb1)
        go_roundw
        case rel => exact ⟨lo, h, rfl, rfl, by have := HHb.out; omega, by have := HHb.out; omega, Lib.hid ⟨I.out.1, HI.out⟩, B1.out⟩
        case measure => have := HHb.out; simp [intOf]; omega
    · obtain rfl : lo = hi := by omega
      obtain rfl := HIs.out lo hin I.out.1 (fun h => I.out.2 lo (Nat.le_refl _) h)
      clear HIs hlh hlt
      by_cases hlt : m < n
      · obtain ⟨g, o, rfl, hg, hc⟩ := (HL.out.step HB.out) (by omega)
        obtain ⟨c0, c1⟩ := hc m (by omega)
        have HS := Lib.hid (fun W => sought (l.getD m no) b W)
        have HZ := Lib.hid (cmp_zero (a := (l.getD m no).1) (b := b))
        have q0 : (0 : Int) ≤ (m : Int) := by omega
        have q1 : (m : Int) < (n : Int) := by omega
        have HQ : Hid (q = (cmpZ (l.getD m no).1 b == 0)) := Lib.hid (by rw [HHit.out, HZ.out, decide_eq_decide]; exact ⟨fun h => h.2, fun h => ⟨hlt, h⟩⟩)
        clear HHit HZ hc I
        generalize l.getD m no = x at *
        obtain ⟨x0, x1⟩ := x
        dsimp only at HS HQ c0 c1
        generalize cmpZ x0 b = z at *
        obtain ⟨t, ht⟩ : ∃ t, (z == 0) = t := ⟨_, rfl⟩
        obtain rfl : q = t := by rw [HQ.out, ht]
        clear HQ
        go_wp2_with (go_at_call 64; refine (HS.out _).mono ?_; rintro e w1 ⟨rfl, hb1⟩; have B1 := Lib.hid (HB.out.trans (hb1.mono HB.out.size)); clear hb1)
        go_ret2
        exact ⟨rfl, B1.out⟩
      · have hq : q = false := by rw [HHit.out]; exact decide_eq_false (fun h => hlt h.1)
        subst hq
        clear HHit I
        go_wp2_with fail
        go_ret2
        exact ⟨rfl, HB.out⟩
end Go.Proofs.YtdkcebaehdkphaaGreatDoor.PrgF
/- merkle.Path, with whose memory its answer is: its own. The condition: the rounds' numbers lie in the program's variable. -/
namespace Go.Proofs.YtdkcebaehdkphaaGreatDoor.PrgO
open Go.RowKit Go.Shelf STurn SSum MerG MerQ MerN MerM MerC MerS MerB MerA MerL MerP MerD MerR
theorem own_base {w : World} {base B : Nat} {e : TypeId} {size : Nat} {v : Value} {n : Nat} {xs : List Value} (h : w.ownsRow base e size v n xs) (hb : B ≤ base) : w.ownsRow B e size v n xs := by
  obtain ⟨h1, h2⟩ := h
  refine ⟨h1, ?_⟩
  rcases h2 with h2 | ⟨g, cap, cur, h3, h4, h5⟩
  · exact .inl h2
  · exact .inr ⟨g, cap, cur, h3, Nat.le_trans hb h4, h5⟩
/-- What Path answers of a place that there is, with whose memory it is. -/
def PathOwn (w : World) (ps : List L) (e : Ending) (w' : World) : Prop :=
  ∃ a c, e = .returned (.tuple #[.slice a ps.length c, .int .i64 0]) ∧ w'.ownsRow w.heap.size 9 1 (.slice a ps.length c) ps.length (ps.map str) ∧ Below w.heap.size w w'
theorem collected (a : Option Addr) (c : Nat) (ls : List L) (i : Nat) (w : World) (h : Strs w w.heap.size a ls.length ls) (hn : ls.length ≤ 100000) (hi : i < ls.length) (hr : Rds w) (hall : all32 ls = true) :
    Calls Tryz.prog 93 #[.func (.func 115) #[] #[.pointer (some ⟨w.heap.size + 2, 0, none⟩), .pointer (some ⟨w.heap.size, 0, none⟩), .pointer (some ⟨w.heap.size + 1, 0, none⟩)]] (((w.alloc (.cells #[sv] 125)).alloc (.cells #[.slice a ls.length c] 42)).alloc (.cells #[.int .i64 (i : Int)] 3))
      fun e w' => ∃ a' c', e = .returned (.slice a' (pathN nd ls i).length c') ∧ w'.ownsRow w.heap.size 9 1 (.slice a' (pathN nd ls i).length c') (pathN nd ls i).length ((pathN nd ls i).map str) ∧ Below w.heap.size w w' := by
  obtain ⟨hsz, hX0, hX1, hX2, hB⟩ := MerR.three w (.cells #[sv] 125) (.cells #[.slice a ls.length c] 42) (.cells #[.int .i64 (i : Int)] 3)
  obtain ⟨W0, hW0⟩ : ∃ W0, ((w.alloc (.cells #[sv] 125)).alloc (.cells #[.slice a ls.length c] 42)).alloc (.cells #[.int .i64 (i : Int)] 3) = W0 := ⟨_, rfl⟩
  rw [hW0] at hsz hX0 hX1 hX2 hB ⊢
  have hgn : 0 < w.heap.size := World.block_lt_of_cell? w _ (hr 0 (by omega))
  have hpl : (pathN nd ls i).length ≤ 1000000 := by rw [pathN_length nd hi]; exact Nat.le_trans (long_le _ _ _) (by omega)
  have hs := beside1 ls hn (all32_at hall) i hi a c w.heap.size (w.heap.size + 2) w.heap.size (w.heap.size + 1) (fun b => b < W0.heap.size) (fun b hb => by omega) (by omega) (by omega) (by omega) W0 (fun b hb => hb) (h.below hB) (hr.step hB) hgn (blk_cell hX2 rfl) (blk_cell hX0 rfl) (blk_cell hX1 rfl)
  refine (collectS 115 _ (enters_of Tryz.func115 (by kernel_rfl) rfl) (pathN nd ls i) hpl _ W0 (fun b hb => hb) hs).mono ?_
  rintro e w' ⟨a', c', rfl, ho, hb⟩
  exact ⟨a', c', rfl, own_base ho (by omega), hB.trans (hb.mono hB.size)⟩
theorem path_own (a : Option Addr) (c : Nat) (ls : List L) (i : Nat) (w : World) (h : Strs w w.heap.size a ls.length ls) (hn : ls.length ≤ 100000) (hi : i < ls.length) (hr : Rds w) (hall : all32 ls = true) :
    Calls Tryz.prog 75 #[sv, .slice a ls.length c, .int .i64 (i : Int)] w (PathOwn w (pathN nd ls i)) := by
  have HH := Lib.hid (areHashes a ls.length c ls w h (by omega) (fun l hl => by rw [all32_at hall l hl]; omega))
  have HI := Lib.hid (fun W => isOf (ls.length : Int) (i : Int) W)
  have HC := Lib.hid (collected a c ls i w h hn hi hr hall)
  rw [hall] at HH
  rw [decide_eq_true (show 0 ≤ (i : Int) ∧ (i : Int) < (ls.length : Int) by omega)] at HI
  clear h hr hall hi
  go_enter Tryz.func75, Tryz.ntmps75
  go_wp2_with (first
    | (go_at_call 90; refine HH.out.mono ?_; rintro e w' ⟨rfl, rfl⟩)
    | (go_at_call 92; refine (HI.out _).mono ?_; rintro e w' ⟨rfl, rfl⟩)
    | (go_at_call 94; refine (beside_in _ _ _ _ _).mono ?_; rintro e w' ⟨rfl, rfl⟩)
    | (go_at_call 93; refine HC.out.mono ?_; rintro e w' ⟨a', c', rfl, hs, hb⟩; have HS := Lib.hid hs; have HB := Lib.hid hb; clear hs hb))
  go_ret2
  exact ⟨_, _, rfl, HS.out, HB.out⟩
theorem Path (a : Option Addr) (c : Nat) (ls : List L) (i : Nat) (w : World) (h : Strs w w.heap.size a ls.length ls) (hn : ls.length ≤ 100000) (hi : i < ls.length) (hr : Rds w) (hall : all32 ls = true) :
    Calls Tryz.prog 53 #[.slice a ls.length c, .int .i64 (i : Int)] w (PathOwn w (pathN nd ls i)) := by
  have HH := Lib.hid (path_own a c ls i w h hn hi hr hall)
  clear h hr hall hi
  go_enter Tryz.func53, Tryz.ntmps53
  go_wp2_with (go_at_call 75; refine HH.out.mono ?_; rintro e w' ⟨a', c', rfl, hs, hb⟩; have HS := Lib.hid hs; have HB := Lib.hid hb; clear hs hb)
  go_ret2
  exact ⟨_, _, rfl, HS.out, HB.out⟩
end Go.Proofs.YtdkcebaehdkphaaGreatDoor.PrgO
