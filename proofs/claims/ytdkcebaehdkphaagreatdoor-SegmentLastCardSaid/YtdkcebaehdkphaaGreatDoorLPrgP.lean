/- PrgP PrgQ: one behind the other. -/
import Derived.Test.YtdkcebaehdkphaaGreatDoorLPrgH
import Derived.Test.YtdkcebaehdkphaaGreatDoorLPrgH
import Derived.Test.YtdkcebaehdkphaaGreatDoorLPrgH
import Derived.Test.YtdkcebaehdkphaaGreatDoorSlice
/- The program's package proof: prove, where leaves and place may be: the walk of its text. The condition: the rounds' numbers lie in the program's variable. -/
namespace Go.Proofs.YtdkcebaehdkphaaGreatDoor.PrgP
open Go.RowKit STurn SSum
open PrfL PrfN PrfM PrfB PrgN PrgC PrgK PrgH PrgF PrgO MerQ MerM MerC MerA MerJ MerR
def zeroRaw : Raw := ⟨false, 0, no, no, none, 0, [], none, 0, []⟩
theorem at_ {W : World} {a : Option Addr} {l : List Lf} (h : Lies W a l) {i : Nat} (hi : i < l.length) : ∃ g o, a = some ⟨g, o, none⟩ ∧ W.cell? ⟨g, o + i * 2, none⟩ = some (.int .i64 (l.getD i no).1) ∧ W.cell? ⟨g, o + i * 2 + 1, none⟩ = some (st (l.getD i no).2) := by
  obtain ⟨g, o, e, _, hc⟩ := h (by omega)
  exact ⟨g, o, e, hc i hi⟩
/-- What prove answers, where leaves and place may be. -/
def ProveOk (w : World) (p : Pf) (e : Ending) (w' : World) : Prop :=
  ∃ x : Raw, e = .returned (.tuple #[.agg x.cells, .int .i64 0]) ∧ pf x = p ∧ w'.ownsRow w.heap.size 9 1 (.slice x.ua x.up.length x.uc) x.up.length (x.up.map str) ∧ w'.ownsRow w.heap.size 9 1 (.slice x.la x.left.length x.lc) x.left.length (x.left.map str) ∧ Below w.heap.size w w'
/-- A proof that is being made, in its box: the first block behind a world. -/
structure St (w3 : World) (x : Raw) (W : World) : Prop where
  d : Below w3.heap.size w3 W
  p : W.heap[w3.heap.size]? = some (.cells x.cells 48 (0, 0))
theorem St.lt {w3 W : World} {x : Raw} (h : St w3 x W) : w3.heap.size < W.heap.size := (Array.getElem?_eq_some_iff.1 h.p).1
theorem St.step {w3 W W' : World} {x : Raw} (h : St w3 x W) (hb : Below W.heap.size W W') : St w3 x W' := ⟨h.d.trans (hb.mono (Nat.le_of_lt h.lt)), (hb.block _ h.lt).trans h.p⟩
set_option maxRecDepth 100000 in
set_option maxHeartbeats 4000000 in
theorem both (a : Option Addr) (n c : Nat) (l : List Lf) (b : Int) (m : Nat) (q : Bool) (w : World) (h : Lvs w a n l) (hn : n ≤ 100000) (hr : Rds w) (hok : right l = true) (hb : 0 ≤ b ∧ b ≤ 4095) (hp : plc l b = m) (hq : hit l b = q) (hm : m < n) (h0 : 0 < m) (hqf : Hid (q = false)) :
    Calls Tryz.prog 44 #[.agg tc, .slice a n c, .int .i64 b] w (ProveOk w ⟨q, (m : Int), l.getD m no, l.getD (m - 1) no, pathN nd (hs l) m, pathN nd (hs l) (m - 1)⟩) := by
  have hle : m ≤ n := by have := plc_le l b; rw [hp, h.1] at this; exact this
  obtain ⟨W1, hW1⟩ : ∃ W1, W1 = (w.alloc (.cells tc 81)).alloc (.cells #[.bool false, .int .i64 0, .int .i64 0, .string ⟨#[]⟩, .int .i64 0, .string ⟨#[]⟩, .slice none 0 0, .slice none 0 0] 48) := ⟨_, rfl⟩
  have b1 : Below w.heap.size w W1 := by rw [hW1]; exact (below_new w _).alloc (by simp) _
  have t1 : W1.heap[w.heap.size]? = some (.cells tc 81 (0, 0)) := by rw [hW1]; exact heap_alloc2_old w _ _
  have r1 : W1.heap[w.heap.size + 1]? = some (.cells zeroRaw.cells 48 (0, 0)) := by rw [hW1]; exact heap_alloc2_new w _ _
  have lr1 : w.heap.size + 1 < W1.heap.size := (Array.getElem?_eq_some_iff.1 r1).1
  have lt1 : w.heap.size < W1.heap.size := by omega
  have hl1 := h.2.2.2.step b1
  have h1 : Lvs W1 a n l := ⟨h.1, h.2.1, h.2.2.1, hl1⟩
  have B1 := Lib.hid b1
  have T1 := Lib.hid t1
  have HT := Lib.hid (fun W (hb : Below W1.heap.size W1 W) => blk_cell (i := 2) ((hb.block _ lt1).trans t1) (u := fv 53) rfl)
  have HR := Lib.hid (fun W (hb : Below W1.heap.size W1 W) => (hb.block _ lr1).trans r1)
  have HLR := Lib.hid lr1
  have HL := Lib.hid hl1
  have HW := Lib.hid (fun W => within b 4095 W)
  rw [in_yes hb] at HW
  have HH := Lib.hid (hashes_yes a n c l W1 h1 hn (hr.step b1) hok)
  have HSr := Lib.hid (fun W (hb : Below W1.heap.size W1 W) => Search a n c l b W h.1 (by omega) (right_rise hok) (hl1.step hb))
  rw [hp, hq] at HSr
  have HN := Lib.hid (fun x W => namesHere (n : Int) x W)
  have HA := Lib.hid (fun x W => namesAhead x W)
  have HP0 := Lib.hid (fun p c' W (hb : Below W1.heap.size W1 W) (hs' : Strs W W.heap.size p n (hs l)) => show Calls Tryz.prog 53 #[.slice p n c', .int .i64 ((m : Nat) : Int)] W (PathOwn W (pathN nd (hs l) (m))) from by
    have hz : (hs l).length = n := by rw [hs_length]; exact h.1
    have := Path p c' (hs l) (m) W (by rw [hz]; exact hs') (by omega) (by omega) ((hr.step b1).step hb) (hs_32 l)
    rwa [hz] at this)
  have HP1 := Lib.hid (fun p c' W (hb : Below W1.heap.size W1 W) (hs' : Strs W W.heap.size p n (hs l)) => show Calls Tryz.prog 53 #[.slice p n c', .int .i64 ((m - 1 : Nat) : Int)] W (PathOwn W (pathN nd (hs l) (m - 1))) from by
    have hz : (hs l).length = n := by rw [hs_length]; exact h.1
    have := Path p c' (hs l) (m - 1) W (by rw [hz]; exact hs') (by omega) (by omega) ((hr.step b1).step hb) (hs_32 l)
    rwa [hz] at this)
  have hpos : 0 < n := by omega
  have hll : l.length = n := h.1
  have HC0 := Lib.hid (fun (W : World) (hl : Lies W a l) => at_ hl (i := m) (by omega))
  have HC1 := Lib.hid (fun (W : World) (hl : Lies W a l) => at_ hl (i := m - 1) (by omega))
  clear h h1 hr hok hp hq t1 b1 r1 lt1 lr1 hl1
  generalize l.getD m no = xh at *
  generalize pathN nd (hs l) m = U at *
  generalize l.getD (m - 1) no = xa at *
  generalize pathN nd (hs l) (m - 1) = V at *
  go_enter Tryz.func44, Tryz.ntmps44
  go_upto_region 1 with (fail)
  rw [← hW1]
  clear hW1
  go_upto_region 6 with (first
    | (refine wpList_load_row rfl 81 _ rfl w.heap.size rfl 81 _ (0, 0) _ T1.out Tryz.underlying81 rfl infoT ?_)
    | (go_at_call 59; refine HH.out.mono ?_; rintro e w2 ⟨p, c', rfl, hs2, hb⟩; have S2 := Lib.hid hs2; have B2 := Lib.hid hb; clear hb hs2 HH)
    | (go_at_call 56; refine (HW.out _).mono ?_; rintro e _ ⟨rfl, rfl⟩)
    | (go_at_call 63; refine (HSr.out _ B2.out).mono ?_; rintro e w3 ⟨rfl, hb⟩; have B3 := Lib.hid (B2.out.trans (hb.mono B2.out.size)); have S3 := Lib.hid (((S2.out).below hb).more hb.size); clear hb HSr S2)
    | (refine wpList_store_row rfl 48 _ _ rfl w3.heap.size (Raw.cells ⟨q, (m : Int), no, no, none, 0, [], none, 0, []⟩) rfl rfl 48 _ (heap_alloc_new w3 _) infoP rfl (oneP _) ?_))
  generalize hW : World.setRow _ _ _ = W4
  have ST := Lib.hid (St.mk (w3 := w3) (x := ⟨q, (m : Int), no, no, none, 0, [], none, 0, []⟩) (W := W4) (by rw [← hW]; exact kept_new w3 _ _ _) (by rw [← hW]; exact has_new w3 _ _ _))
  clear hW T1
  have HN0 := Lib.hid (fun W => HN.out ⟨q, (m : Int), no, no, none, 0, [], none, 0, []⟩ W)
  rw [show hereP (n : Int) (pf ⟨q, (m : Int), no, no, none, 0, [], none, 0, []⟩) = true from (decide_eq_true (by show (m : Int) < (n : Int); omega))] at HN0
  go_upto_region 7 with (first
    | (refine wpList_load_row rfl 48 _ rfl w3.heap.size rfl 48 _ (0, 0) _ ST.out.p Tryz.underlying48 rfl infoP ?_)
    | (go_at_call 66; refine (HN0.out _).mono ?_; rintro e V0 ⟨rfl, hb⟩; replace ST := Lib.hid (ST.out.step hb); clear hb))
  clear HN0
  obtain ⟨g, o, rfl, c0, c1⟩ := HC0.out _ ((HL.out.step B3.out).step ST.out.d)
  have k2 := blk_cell (i := 2) ST.out.p rfl
  have k3 := blk_cell (i := 3) ST.out.p rfl
  have hf2 := blk_free (i := 2) ST.out.p
  have hf3 := blk_free (i := 3) ST.out.p
  have q0 : (0 : Int) ≤ (m : Int) := by omega
  have q1 : (m : Int) < (n : Int) := by omega
  clear HC0
  have DD := Lib.hid (B3.out.trans (ST.out.d.mono B3.out.size))
  go_upto_region 8 with (fail)
  generalize hW : World.setCell (World.setCell _ _ _) _ _ = X0
  replace ST := Lib.hid (St.mk (w3 := w3) (x := ⟨q, (m : Int), xh, no, none, 0, [], none, 0, []⟩) (W := X0) (by rw [← hW]; exact (ST.out.d.setCell (Nat.le_refl _) _).setCell (Nat.le_refl _) _) (by rw [← hW]; exact blk_set (blk_set ST.out.p)))
  clear hW c0 c1 k2 k3 hf2 hf3 DD
  have DD := Lib.hid (B3.out.trans (ST.out.d.mono B3.out.size))
  have kt := HT.out _ DD.out
  have SS := Lib.hid ((S3.out.below ST.out.d).more ST.out.d.size)
  go_upto_region 9 with (go_at_call 53; refine (HP0.out _ _ _ DD.out SS.out).mono ?_; rintro e Y0 ⟨a0, cc0, rfl, ho, hb⟩; have O0 := Lib.hid (own_base ho ST.out.lt); replace ST := Lib.hid (ST.out.step hb); have k6 := blk_cell (i := 6) ST.out.p rfl; have hf6 := blk_free (i := 6) ST.out.p; clear hb ho)
  generalize hW : World.setCell _ _ _ = Z0
  replace O0 := Lib.hid (show (Z0).ownsRow (w3.heap.size + 1) _ _ _ _ _ by rw [← hW]; exact own_set O0.out (Nat.lt_succ_self _) _)
  replace ST := Lib.hid (St.mk (w3 := w3) (x := ⟨q, (m : Int), xh, no, a0, cc0, U, none, 0, []⟩) (W := Z0) (by rw [← hW]; exact ST.out.d.setCell (Nat.le_refl _) _) (by rw [← hW]; exact blk_set ST.out.p))
  clear hW kt DD SS HP0 k6 hf6
  have HN1 := Lib.hid (fun W => HA.out ⟨q, (m : Int), xh, no, a0, cc0, U, none, 0, []⟩ W)
  rw [show aheadP (pf ⟨q, (m : Int), xh, no, a0, cc0, U, none, 0, []⟩) = true from (by show (!q && decide (0 < (m : Int))) = true; rw [hqf.out, decide_eq_true (by omega)]; rfl)] at HN1
  go_upto_region 10 with (first
    | (refine wpList_load_row rfl 48 _ rfl w3.heap.size rfl 48 _ (0, 0) _ ST.out.p Tryz.underlying48 rfl infoP ?_)
    | (go_at_call 67; refine (HN1.out _).mono ?_; rintro e V1 ⟨rfl, hb⟩; replace O0 := Lib.hid (own_later O0.out hb); replace ST := Lib.hid (ST.out.step hb); clear hb))
  clear HN1
  obtain ⟨g', o', hge, c0, c1⟩ := HC1.out _ ((HL.out.step B3.out).step ST.out.d)
  cases hge
  have k4 := blk_cell (i := 4) ST.out.p rfl
  have k5 := blk_cell (i := 5) ST.out.p rfl
  have hf4 := blk_free (i := 4) ST.out.p
  have hf5 := blk_free (i := 5) ST.out.p
  obtain ⟨j, hj⟩ : ∃ j, m - 1 = j := ⟨_, rfl⟩
  rw [hj] at c0 c1 HP1
  have em : IntKind.i64.wrap ((m : Int) - 1) = (j : Int) := by rw [IntWalk.i64_in _ (by omega)]; omega
  have em2 : (m : Int) - 1 = (j : Int) := by omega
  have qa0 : (0 : Int) ≤ (j : Int) := by omega
  have qa1 : (j : Int) < (n : Int) := by omega
  clear HC1
  have DD := Lib.hid (B3.out.trans (ST.out.d.mono B3.out.size))
  go_upto_region 11 with (fail)
  generalize hW : World.setCell (World.setCell _ _ _) _ _ = X1
  replace O0 := Lib.hid (show (X1).ownsRow (w3.heap.size + 1) _ _ _ _ _ by rw [← hW]; exact (own_set (own_set O0.out (Nat.lt_succ_self _) _) (Nat.lt_succ_self _) _))
  replace ST := Lib.hid (St.mk (w3 := w3) (x := ⟨q, (m : Int), xh, xa, a0, cc0, U, none, 0, []⟩) (W := X1) (by rw [← hW]; exact (ST.out.d.setCell (Nat.le_refl _) _).setCell (Nat.le_refl _) _) (by rw [← hW]; exact blk_set (blk_set ST.out.p)))
  clear hW c0 c1 k4 k5 hf4 hf5 DD
  have DD := Lib.hid (B3.out.trans (ST.out.d.mono B3.out.size))
  have kt := HT.out _ DD.out
  have SS := Lib.hid ((S3.out.below ST.out.d).more ST.out.d.size)
  go_upto_region 12 with (go_at_call 53; refine (HP1.out _ _ _ DD.out SS.out).mono ?_; rintro e Y1 ⟨a1, cc1, rfl, ho, hb⟩; have O1 := Lib.hid (own_base ho ST.out.lt); have O0 := Lib.hid (own_later O0.out hb); replace ST := Lib.hid (ST.out.step hb); have k7 := blk_cell (i := 7) ST.out.p rfl; have hf7 := blk_free (i := 7) ST.out.p; clear hb ho)
  generalize hW : World.setCell _ _ _ = Z1
  replace O0 := Lib.hid (show (Z1).ownsRow (w3.heap.size + 1) _ _ _ _ _ by rw [← hW]; exact own_set O0.out (Nat.lt_succ_self _) _)
  replace O1 := Lib.hid (show (Z1).ownsRow (w3.heap.size + 1) _ _ _ _ _ by rw [← hW]; exact own_set O1.out (Nat.lt_succ_self _) _)
  replace ST := Lib.hid (St.mk (w3 := w3) (x := ⟨q, (m : Int), xh, xa, a0, cc0, U, a1, cc1, V⟩) (W := Z1) (by rw [← hW]; exact ST.out.d.setCell (Nat.le_refl _) _) (by rw [← hW]; exact blk_set ST.out.p))
  clear hW kt DD SS HP1 k7 hf7 em em2 qa0 qa1
  have RR := Lib.hid (HR.out _ (B3.out.trans (ST.out.d.mono B3.out.size)))
  have fin := Lib.hid ((B1.out.trans (B3.out.mono B1.out.size)).trans (ST.out.d.mono (Nat.le_trans B1.out.size B3.out.size)))
  have LL := Lib.hid (show w.heap.size + 1 < w3.heap.size + 1 from Nat.lt_of_lt_of_le HLR.out (Nat.le_succ_of_le B3.out.size))
  go_wp2_with (first
    | (refine wpList_load_row rfl 48 _ rfl w3.heap.size rfl 48 _ (0, 0) _ ST.out.p Tryz.underlying48 rfl infoP ?_)
    | (refine wpList_store_row rfl 48 _ _ rfl (w.heap.size + 1) (Raw.cells ⟨q, (m : Int), xh, xa, a0, cc0, U, a1, cc1, V⟩) rfl rfl 48 _ RR.out infoP rfl (oneP _) ?_))
  refine bodyPost_ret (v := .tuple #[.agg (Raw.cells ⟨q, (m : Int), xh, xa, a0, cc0, U, a1, cc1, V⟩), .int .i64 0])
    (results_cell_tmp_row Tryz.results44 _ _ (w.heap.size + 1) 48 _ (0, 0) _ rfl (setRow_same RR.out) Tryz.underlying48 rfl infoP) rfl
    ⟨⟨q, (m : Int), xh, xa, a0, cc0, U, a1, cc1, V⟩, rfl, rfl, own_base (own_at O0.out fun k hk => setRow_far (by have := (O0.out.lt k hk).1; have := LL.out; omega)) (by have := LL.out; omega), own_base (own_at O1.out fun k hk => setRow_far (by have := (O1.out.lt k hk).1; have := LL.out; omega)) (by have := LL.out; omega), below_setRow fin.out (Nat.le_succ _) _⟩
set_option maxRecDepth 100000 in
set_option maxHeartbeats 4000000 in
theorem here_ (a : Option Addr) (n c : Nat) (l : List Lf) (b : Int) (m : Nat) (q : Bool) (w : World) (h : Lvs w a n l) (hn : n ≤ 100000) (hr : Rds w) (hok : right l = true) (hb : 0 ≤ b ∧ b ≤ 4095) (hp : plc l b = m) (hq : hit l b = q) (hm : m < n) (h0 : Hid (q = true ∨ m = 0)) :
    Calls Tryz.prog 44 #[.agg tc, .slice a n c, .int .i64 b] w (ProveOk w ⟨q, (m : Int), l.getD m no, no, pathN nd (hs l) m, []⟩) := by
  have hle : m ≤ n := by have := plc_le l b; rw [hp, h.1] at this; exact this
  obtain ⟨W1, hW1⟩ : ∃ W1, W1 = (w.alloc (.cells tc 81)).alloc (.cells #[.bool false, .int .i64 0, .int .i64 0, .string ⟨#[]⟩, .int .i64 0, .string ⟨#[]⟩, .slice none 0 0, .slice none 0 0] 48) := ⟨_, rfl⟩
  have b1 : Below w.heap.size w W1 := by rw [hW1]; exact (below_new w _).alloc (by simp) _
  have t1 : W1.heap[w.heap.size]? = some (.cells tc 81 (0, 0)) := by rw [hW1]; exact heap_alloc2_old w _ _
  have r1 : W1.heap[w.heap.size + 1]? = some (.cells zeroRaw.cells 48 (0, 0)) := by rw [hW1]; exact heap_alloc2_new w _ _
  have lr1 : w.heap.size + 1 < W1.heap.size := (Array.getElem?_eq_some_iff.1 r1).1
  have lt1 : w.heap.size < W1.heap.size := by omega
  have hl1 := h.2.2.2.step b1
  have h1 : Lvs W1 a n l := ⟨h.1, h.2.1, h.2.2.1, hl1⟩
  have B1 := Lib.hid b1
  have T1 := Lib.hid t1
  have HT := Lib.hid (fun W (hb : Below W1.heap.size W1 W) => blk_cell (i := 2) ((hb.block _ lt1).trans t1) (u := fv 53) rfl)
  have HR := Lib.hid (fun W (hb : Below W1.heap.size W1 W) => (hb.block _ lr1).trans r1)
  have HLR := Lib.hid lr1
  have HL := Lib.hid hl1
  have HW := Lib.hid (fun W => within b 4095 W)
  rw [in_yes hb] at HW
  have HH := Lib.hid (hashes_yes a n c l W1 h1 hn (hr.step b1) hok)
  have HSr := Lib.hid (fun W (hb : Below W1.heap.size W1 W) => Search a n c l b W h.1 (by omega) (right_rise hok) (hl1.step hb))
  rw [hp, hq] at HSr
  have HN := Lib.hid (fun x W => namesHere (n : Int) x W)
  have HA := Lib.hid (fun x W => namesAhead x W)
  have HP0 := Lib.hid (fun p c' W (hb : Below W1.heap.size W1 W) (hs' : Strs W W.heap.size p n (hs l)) => show Calls Tryz.prog 53 #[.slice p n c', .int .i64 ((m : Nat) : Int)] W (PathOwn W (pathN nd (hs l) (m))) from by
    have hz : (hs l).length = n := by rw [hs_length]; exact h.1
    have := Path p c' (hs l) (m) W (by rw [hz]; exact hs') (by omega) (by omega) ((hr.step b1).step hb) (hs_32 l)
    rwa [hz] at this)
  have hpos : 0 < n := by omega
  have hll : l.length = n := h.1
  have HC0 := Lib.hid (fun (W : World) (hl : Lies W a l) => at_ hl (i := m) (by omega))
  clear h h1 hr hok hp hq t1 b1 r1 lt1 lr1 hl1
  generalize l.getD m no = xh at *
  generalize pathN nd (hs l) m = U at *
  go_enter Tryz.func44, Tryz.ntmps44
  go_upto_region 1 with (fail)
  rw [← hW1]
  clear hW1
  go_upto_region 6 with (first
    | (refine wpList_load_row rfl 81 _ rfl w.heap.size rfl 81 _ (0, 0) _ T1.out Tryz.underlying81 rfl infoT ?_)
    | (go_at_call 59; refine HH.out.mono ?_; rintro e w2 ⟨p, c', rfl, hs2, hb⟩; have S2 := Lib.hid hs2; have B2 := Lib.hid hb; clear hb hs2 HH)
    | (go_at_call 56; refine (HW.out _).mono ?_; rintro e _ ⟨rfl, rfl⟩)
    | (go_at_call 63; refine (HSr.out _ B2.out).mono ?_; rintro e w3 ⟨rfl, hb⟩; have B3 := Lib.hid (B2.out.trans (hb.mono B2.out.size)); have S3 := Lib.hid (((S2.out).below hb).more hb.size); clear hb HSr S2)
    | (refine wpList_store_row rfl 48 _ _ rfl w3.heap.size (Raw.cells ⟨q, (m : Int), no, no, none, 0, [], none, 0, []⟩) rfl rfl 48 _ (heap_alloc_new w3 _) infoP rfl (oneP _) ?_))
  generalize hW : World.setRow _ _ _ = W4
  have ST := Lib.hid (St.mk (w3 := w3) (x := ⟨q, (m : Int), no, no, none, 0, [], none, 0, []⟩) (W := W4) (by rw [← hW]; exact kept_new w3 _ _ _) (by rw [← hW]; exact has_new w3 _ _ _))
  clear hW T1
  have HN0 := Lib.hid (fun W => HN.out ⟨q, (m : Int), no, no, none, 0, [], none, 0, []⟩ W)
  rw [show hereP (n : Int) (pf ⟨q, (m : Int), no, no, none, 0, [], none, 0, []⟩) = true from (decide_eq_true (by show (m : Int) < (n : Int); omega))] at HN0
  go_upto_region 7 with (first
    | (refine wpList_load_row rfl 48 _ rfl w3.heap.size rfl 48 _ (0, 0) _ ST.out.p Tryz.underlying48 rfl infoP ?_)
    | (go_at_call 66; refine (HN0.out _).mono ?_; rintro e V0 ⟨rfl, hb⟩; replace ST := Lib.hid (ST.out.step hb); clear hb))
  clear HN0
  obtain ⟨g, o, rfl, c0, c1⟩ := HC0.out _ ((HL.out.step B3.out).step ST.out.d)
  have k2 := blk_cell (i := 2) ST.out.p rfl
  have k3 := blk_cell (i := 3) ST.out.p rfl
  have hf2 := blk_free (i := 2) ST.out.p
  have hf3 := blk_free (i := 3) ST.out.p
  have q0 : (0 : Int) ≤ (m : Int) := by omega
  have q1 : (m : Int) < (n : Int) := by omega
  clear HC0
  have DD := Lib.hid (B3.out.trans (ST.out.d.mono B3.out.size))
  go_upto_region 8 with (fail)
  generalize hW : World.setCell (World.setCell _ _ _) _ _ = X0
  replace ST := Lib.hid (St.mk (w3 := w3) (x := ⟨q, (m : Int), xh, no, none, 0, [], none, 0, []⟩) (W := X0) (by rw [← hW]; exact (ST.out.d.setCell (Nat.le_refl _) _).setCell (Nat.le_refl _) _) (by rw [← hW]; exact blk_set (blk_set ST.out.p)))
  clear hW c0 c1 k2 k3 hf2 hf3 DD
  have DD := Lib.hid (B3.out.trans (ST.out.d.mono B3.out.size))
  have kt := HT.out _ DD.out
  have SS := Lib.hid ((S3.out.below ST.out.d).more ST.out.d.size)
  go_upto_region 9 with (go_at_call 53; refine (HP0.out _ _ _ DD.out SS.out).mono ?_; rintro e Y0 ⟨a0, cc0, rfl, ho, hb⟩; have O0 := Lib.hid (own_base ho ST.out.lt); replace ST := Lib.hid (ST.out.step hb); have k6 := blk_cell (i := 6) ST.out.p rfl; have hf6 := blk_free (i := 6) ST.out.p; clear hb ho)
  generalize hW : World.setCell _ _ _ = Z0
  replace O0 := Lib.hid (show (Z0).ownsRow (w3.heap.size + 1) _ _ _ _ _ by rw [← hW]; exact own_set O0.out (Nat.lt_succ_self _) _)
  replace ST := Lib.hid (St.mk (w3 := w3) (x := ⟨q, (m : Int), xh, no, a0, cc0, U, none, 0, []⟩) (W := Z0) (by rw [← hW]; exact ST.out.d.setCell (Nat.le_refl _) _) (by rw [← hW]; exact blk_set ST.out.p))
  clear hW kt DD SS HP0 k6 hf6
  have HN1 := Lib.hid (fun W => HA.out ⟨q, (m : Int), xh, no, a0, cc0, U, none, 0, []⟩ W)
  rw [show aheadP (pf ⟨q, (m : Int), xh, no, a0, cc0, U, none, 0, []⟩) = false from (by show (!q && decide (0 < (m : Int))) = false; rcases h0.out with e | e <;> rw [e] <;> simp)] at HN1
  go_upto_region 12 with (first
    | (refine wpList_load_row rfl 48 _ rfl w3.heap.size rfl 48 _ (0, 0) _ ST.out.p Tryz.underlying48 rfl infoP ?_)
    | (go_at_call 67; refine (HN1.out _).mono ?_; rintro e V1 ⟨rfl, hb⟩; replace O0 := Lib.hid (own_later O0.out hb); replace ST := Lib.hid (ST.out.step hb); clear hb))
  clear HN1
  have RR := Lib.hid (HR.out _ (B3.out.trans (ST.out.d.mono B3.out.size)))
  have fin := Lib.hid ((B1.out.trans (B3.out.mono B1.out.size)).trans (ST.out.d.mono (Nat.le_trans B1.out.size B3.out.size)))
  have LL := Lib.hid (show w.heap.size + 1 < w3.heap.size + 1 from Nat.lt_of_lt_of_le HLR.out (Nat.le_succ_of_le B3.out.size))
  go_wp2_with (first
    | (refine wpList_load_row rfl 48 _ rfl w3.heap.size rfl 48 _ (0, 0) _ ST.out.p Tryz.underlying48 rfl infoP ?_)
    | (refine wpList_store_row rfl 48 _ _ rfl (w.heap.size + 1) (Raw.cells ⟨q, (m : Int), xh, no, a0, cc0, U, none, 0, []⟩) rfl rfl 48 _ RR.out infoP rfl (oneP _) ?_))
  refine bodyPost_ret (v := .tuple #[.agg (Raw.cells ⟨q, (m : Int), xh, no, a0, cc0, U, none, 0, []⟩), .int .i64 0])
    (results_cell_tmp_row Tryz.results44 _ _ (w.heap.size + 1) 48 _ (0, 0) _ rfl (setRow_same RR.out) Tryz.underlying48 rfl infoP) rfl
    ⟨⟨q, (m : Int), xh, no, a0, cc0, U, none, 0, []⟩, rfl, rfl, own_base (own_at O0.out fun k hk => setRow_far (by have := (O0.out.lt k hk).1; have := LL.out; omega)) (by have := LL.out; omega), World.ownsRow_nil _ _ _ _, below_setRow fin.out (Nat.le_succ _) _⟩
set_option maxRecDepth 100000 in
set_option maxHeartbeats 4000000 in
theorem ahead_ (a : Option Addr) (n c : Nat) (l : List Lf) (b : Int) (m : Nat) (q : Bool) (w : World) (h : Lvs w a n l) (hn : n ≤ 100000) (hr : Rds w) (hok : right l = true) (hb : 0 ≤ b ∧ b ≤ 4095) (hp : plc l b = m) (hq : hit l b = q) (hm : n ≤ m) (h0 : 0 < m) (hqf : Hid (q = false)) :
    Calls Tryz.prog 44 #[.agg tc, .slice a n c, .int .i64 b] w (ProveOk w ⟨q, (m : Int), no, l.getD (m - 1) no, [], pathN nd (hs l) (m - 1)⟩) := by
  have hle : m ≤ n := by have := plc_le l b; rw [hp, h.1] at this; exact this
  obtain ⟨W1, hW1⟩ : ∃ W1, W1 = (w.alloc (.cells tc 81)).alloc (.cells #[.bool false, .int .i64 0, .int .i64 0, .string ⟨#[]⟩, .int .i64 0, .string ⟨#[]⟩, .slice none 0 0, .slice none 0 0] 48) := ⟨_, rfl⟩
  have b1 : Below w.heap.size w W1 := by rw [hW1]; exact (below_new w _).alloc (by simp) _
  have t1 : W1.heap[w.heap.size]? = some (.cells tc 81 (0, 0)) := by rw [hW1]; exact heap_alloc2_old w _ _
  have r1 : W1.heap[w.heap.size + 1]? = some (.cells zeroRaw.cells 48 (0, 0)) := by rw [hW1]; exact heap_alloc2_new w _ _
  have lr1 : w.heap.size + 1 < W1.heap.size := (Array.getElem?_eq_some_iff.1 r1).1
  have lt1 : w.heap.size < W1.heap.size := by omega
  have hl1 := h.2.2.2.step b1
  have h1 : Lvs W1 a n l := ⟨h.1, h.2.1, h.2.2.1, hl1⟩
  have B1 := Lib.hid b1
  have T1 := Lib.hid t1
  have HT := Lib.hid (fun W (hb : Below W1.heap.size W1 W) => blk_cell (i := 2) ((hb.block _ lt1).trans t1) (u := fv 53) rfl)
  have HR := Lib.hid (fun W (hb : Below W1.heap.size W1 W) => (hb.block _ lr1).trans r1)
  have HLR := Lib.hid lr1
  have HL := Lib.hid hl1
  have HW := Lib.hid (fun W => within b 4095 W)
  rw [in_yes hb] at HW
  have HH := Lib.hid (hashes_yes a n c l W1 h1 hn (hr.step b1) hok)
  have HSr := Lib.hid (fun W (hb : Below W1.heap.size W1 W) => Search a n c l b W h.1 (by omega) (right_rise hok) (hl1.step hb))
  rw [hp, hq] at HSr
  have HN := Lib.hid (fun x W => namesHere (n : Int) x W)
  have HA := Lib.hid (fun x W => namesAhead x W)
  have HP1 := Lib.hid (fun p c' W (hb : Below W1.heap.size W1 W) (hs' : Strs W W.heap.size p n (hs l)) => show Calls Tryz.prog 53 #[.slice p n c', .int .i64 ((m - 1 : Nat) : Int)] W (PathOwn W (pathN nd (hs l) (m - 1))) from by
    have hz : (hs l).length = n := by rw [hs_length]; exact h.1
    have := Path p c' (hs l) (m - 1) W (by rw [hz]; exact hs') (by omega) (by omega) ((hr.step b1).step hb) (hs_32 l)
    rwa [hz] at this)
  have hpos : 0 < n := by omega
  have hll : l.length = n := h.1
  have HC1 := Lib.hid (fun (W : World) (hl : Lies W a l) => at_ hl (i := m - 1) (by omega))
  clear h h1 hr hok hp hq t1 b1 r1 lt1 lr1 hl1
  generalize l.getD (m - 1) no = xa at *
  generalize pathN nd (hs l) (m - 1) = V at *
  go_enter Tryz.func44, Tryz.ntmps44
  go_upto_region 1 with (fail)
  rw [← hW1]
  clear hW1
  go_upto_region 6 with (first
    | (refine wpList_load_row rfl 81 _ rfl w.heap.size rfl 81 _ (0, 0) _ T1.out Tryz.underlying81 rfl infoT ?_)
    | (go_at_call 59; refine HH.out.mono ?_; rintro e w2 ⟨p, c', rfl, hs2, hb⟩; have S2 := Lib.hid hs2; have B2 := Lib.hid hb; clear hb hs2 HH)
    | (go_at_call 56; refine (HW.out _).mono ?_; rintro e _ ⟨rfl, rfl⟩)
    | (go_at_call 63; refine (HSr.out _ B2.out).mono ?_; rintro e w3 ⟨rfl, hb⟩; have B3 := Lib.hid (B2.out.trans (hb.mono B2.out.size)); have S3 := Lib.hid (((S2.out).below hb).more hb.size); clear hb HSr S2)
    | (refine wpList_store_row rfl 48 _ _ rfl w3.heap.size (Raw.cells ⟨q, (m : Int), no, no, none, 0, [], none, 0, []⟩) rfl rfl 48 _ (heap_alloc_new w3 _) infoP rfl (oneP _) ?_))
  generalize hW : World.setRow _ _ _ = W4
  have ST := Lib.hid (St.mk (w3 := w3) (x := ⟨q, (m : Int), no, no, none, 0, [], none, 0, []⟩) (W := W4) (by rw [← hW]; exact kept_new w3 _ _ _) (by rw [← hW]; exact has_new w3 _ _ _))
  clear hW T1
  have HN0 := Lib.hid (fun W => HN.out ⟨q, (m : Int), no, no, none, 0, [], none, 0, []⟩ W)
  rw [show hereP (n : Int) (pf ⟨q, (m : Int), no, no, none, 0, [], none, 0, []⟩) = false from (decide_eq_false (by show ¬ (m : Int) < (n : Int); omega))] at HN0
  go_upto_region 9 with (first
    | (refine wpList_load_row rfl 48 _ rfl w3.heap.size rfl 48 _ (0, 0) _ ST.out.p Tryz.underlying48 rfl infoP ?_)
    | (go_at_call 66; refine (HN0.out _).mono ?_; rintro e V0 ⟨rfl, hb⟩; replace ST := Lib.hid (ST.out.step hb); clear hb))
  clear HN0
  have HN1 := Lib.hid (fun W => HA.out ⟨q, (m : Int), no, no, none, 0, [], none, 0, []⟩ W)
  rw [show aheadP (pf ⟨q, (m : Int), no, no, none, 0, [], none, 0, []⟩) = true from (by show (!q && decide (0 < (m : Int))) = true; rw [hqf.out, decide_eq_true (by omega)]; rfl)] at HN1
  go_upto_region 10 with (first
    | (refine wpList_load_row rfl 48 _ rfl w3.heap.size rfl 48 _ (0, 0) _ ST.out.p Tryz.underlying48 rfl infoP ?_)
    | (go_at_call 67; refine (HN1.out _).mono ?_; rintro e V1 ⟨rfl, hb⟩; replace ST := Lib.hid (ST.out.step hb); clear hb))
  clear HN1
  obtain ⟨g, o, rfl, c0, c1⟩ := HC1.out _ ((HL.out.step B3.out).step ST.out.d)
  have k4 := blk_cell (i := 4) ST.out.p rfl
  have k5 := blk_cell (i := 5) ST.out.p rfl
  have hf4 := blk_free (i := 4) ST.out.p
  have hf5 := blk_free (i := 5) ST.out.p
  obtain ⟨j, hj⟩ : ∃ j, m - 1 = j := ⟨_, rfl⟩
  rw [hj] at c0 c1 HP1
  have em : IntKind.i64.wrap ((m : Int) - 1) = (j : Int) := by rw [IntWalk.i64_in _ (by omega)]; omega
  have em2 : (m : Int) - 1 = (j : Int) := by omega
  have qa0 : (0 : Int) ≤ (j : Int) := by omega
  have qa1 : (j : Int) < (n : Int) := by omega
  clear HC1
  have DD := Lib.hid (B3.out.trans (ST.out.d.mono B3.out.size))
  go_upto_region 11 with (fail)
  generalize hW : World.setCell (World.setCell _ _ _) _ _ = X1
  replace ST := Lib.hid (St.mk (w3 := w3) (x := ⟨q, (m : Int), no, xa, none, 0, [], none, 0, []⟩) (W := X1) (by rw [← hW]; exact (ST.out.d.setCell (Nat.le_refl _) _).setCell (Nat.le_refl _) _) (by rw [← hW]; exact blk_set (blk_set ST.out.p)))
  clear hW c0 c1 k4 k5 hf4 hf5 DD
  have DD := Lib.hid (B3.out.trans (ST.out.d.mono B3.out.size))
  have kt := HT.out _ DD.out
  have SS := Lib.hid ((S3.out.below ST.out.d).more ST.out.d.size)
  go_upto_region 12 with (go_at_call 53; refine (HP1.out _ _ _ DD.out SS.out).mono ?_; rintro e Y1 ⟨a1, cc1, rfl, ho, hb⟩; have O1 := Lib.hid (own_base ho ST.out.lt); replace ST := Lib.hid (ST.out.step hb); have k7 := blk_cell (i := 7) ST.out.p rfl; have hf7 := blk_free (i := 7) ST.out.p; clear hb ho)
  generalize hW : World.setCell _ _ _ = Z1
  replace O1 := Lib.hid (show (Z1).ownsRow (w3.heap.size + 1) _ _ _ _ _ by rw [← hW]; exact own_set O1.out (Nat.lt_succ_self _) _)
  replace ST := Lib.hid (St.mk (w3 := w3) (x := ⟨q, (m : Int), no, xa, none, 0, [], a1, cc1, V⟩) (W := Z1) (by rw [← hW]; exact ST.out.d.setCell (Nat.le_refl _) _) (by rw [← hW]; exact blk_set ST.out.p))
  clear hW kt DD SS HP1 k7 hf7 em em2 qa0 qa1
  have RR := Lib.hid (HR.out _ (B3.out.trans (ST.out.d.mono B3.out.size)))
  have fin := Lib.hid ((B1.out.trans (B3.out.mono B1.out.size)).trans (ST.out.d.mono (Nat.le_trans B1.out.size B3.out.size)))
  have LL := Lib.hid (show w.heap.size + 1 < w3.heap.size + 1 from Nat.lt_of_lt_of_le HLR.out (Nat.le_succ_of_le B3.out.size))
  go_wp2_with (first
    | (refine wpList_load_row rfl 48 _ rfl w3.heap.size rfl 48 _ (0, 0) _ ST.out.p Tryz.underlying48 rfl infoP ?_)
    | (refine wpList_store_row rfl 48 _ _ rfl (w.heap.size + 1) (Raw.cells ⟨q, (m : Int), no, xa, none, 0, [], a1, cc1, V⟩) rfl rfl 48 _ RR.out infoP rfl (oneP _) ?_))
  refine bodyPost_ret (v := .tuple #[.agg (Raw.cells ⟨q, (m : Int), no, xa, none, 0, [], a1, cc1, V⟩), .int .i64 0])
    (results_cell_tmp_row Tryz.results44 _ _ (w.heap.size + 1) 48 _ (0, 0) _ rfl (setRow_same RR.out) Tryz.underlying48 rfl infoP) rfl
    ⟨⟨q, (m : Int), no, xa, none, 0, [], a1, cc1, V⟩, rfl, rfl, World.ownsRow_nil _ _ _ _, own_base (own_at O1.out fun k hk => setRow_far (by have := (O1.out.lt k hk).1; have := LL.out; omega)) (by have := LL.out; omega), below_setRow fin.out (Nat.le_succ _) _⟩
set_option maxRecDepth 100000 in
set_option maxHeartbeats 4000000 in
theorem none_ (a : Option Addr) (n c : Nat) (l : List Lf) (b : Int) (m : Nat) (q : Bool) (w : World) (h : Lvs w a n l) (hn : n ≤ 100000) (hr : Rds w) (hok : right l = true) (hb : 0 ≤ b ∧ b ≤ 4095) (hp : plc l b = m) (hq : hit l b = q) (hm : n ≤ m) (h0 : Hid (q = true ∨ m = 0)) :
    Calls Tryz.prog 44 #[.agg tc, .slice a n c, .int .i64 b] w (ProveOk w ⟨q, (m : Int), no, no, [], []⟩) := by
  have hle : m ≤ n := by have := plc_le l b; rw [hp, h.1] at this; exact this
  obtain ⟨W1, hW1⟩ : ∃ W1, W1 = (w.alloc (.cells tc 81)).alloc (.cells #[.bool false, .int .i64 0, .int .i64 0, .string ⟨#[]⟩, .int .i64 0, .string ⟨#[]⟩, .slice none 0 0, .slice none 0 0] 48) := ⟨_, rfl⟩
  have b1 : Below w.heap.size w W1 := by rw [hW1]; exact (below_new w _).alloc (by simp) _
  have t1 : W1.heap[w.heap.size]? = some (.cells tc 81 (0, 0)) := by rw [hW1]; exact heap_alloc2_old w _ _
  have r1 : W1.heap[w.heap.size + 1]? = some (.cells zeroRaw.cells 48 (0, 0)) := by rw [hW1]; exact heap_alloc2_new w _ _
  have lr1 : w.heap.size + 1 < W1.heap.size := (Array.getElem?_eq_some_iff.1 r1).1
  have lt1 : w.heap.size < W1.heap.size := by omega
  have hl1 := h.2.2.2.step b1
  have h1 : Lvs W1 a n l := ⟨h.1, h.2.1, h.2.2.1, hl1⟩
  have B1 := Lib.hid b1
  have T1 := Lib.hid t1
  have HT := Lib.hid (fun W (hb : Below W1.heap.size W1 W) => blk_cell (i := 2) ((hb.block _ lt1).trans t1) (u := fv 53) rfl)
  have HR := Lib.hid (fun W (hb : Below W1.heap.size W1 W) => (hb.block _ lr1).trans r1)
  have HLR := Lib.hid lr1
  have HL := Lib.hid hl1
  have HW := Lib.hid (fun W => within b 4095 W)
  rw [in_yes hb] at HW
  have HH := Lib.hid (hashes_yes a n c l W1 h1 hn (hr.step b1) hok)
  have HSr := Lib.hid (fun W (hb : Below W1.heap.size W1 W) => Search a n c l b W h.1 (by omega) (right_rise hok) (hl1.step hb))
  rw [hp, hq] at HSr
  have HN := Lib.hid (fun x W => namesHere (n : Int) x W)
  have HA := Lib.hid (fun x W => namesAhead x W)
  clear h h1 hr hok hp hq t1 b1 r1 lt1 lr1 hl1
  go_enter Tryz.func44, Tryz.ntmps44
  go_upto_region 1 with (fail)
  rw [← hW1]
  clear hW1
  go_upto_region 6 with (first
    | (refine wpList_load_row rfl 81 _ rfl w.heap.size rfl 81 _ (0, 0) _ T1.out Tryz.underlying81 rfl infoT ?_)
    | (go_at_call 59; refine HH.out.mono ?_; rintro e w2 ⟨p, c', rfl, hs2, hb⟩; have S2 := Lib.hid hs2; have B2 := Lib.hid hb; clear hb hs2 HH)
    | (go_at_call 56; refine (HW.out _).mono ?_; rintro e _ ⟨rfl, rfl⟩)
    | (go_at_call 63; refine (HSr.out _ B2.out).mono ?_; rintro e w3 ⟨rfl, hb⟩; have B3 := Lib.hid (B2.out.trans (hb.mono B2.out.size)); have S3 := Lib.hid (((S2.out).below hb).more hb.size); clear hb HSr S2)
    | (refine wpList_store_row rfl 48 _ _ rfl w3.heap.size (Raw.cells ⟨q, (m : Int), no, no, none, 0, [], none, 0, []⟩) rfl rfl 48 _ (heap_alloc_new w3 _) infoP rfl (oneP _) ?_))
  generalize hW : World.setRow _ _ _ = W4
  have ST := Lib.hid (St.mk (w3 := w3) (x := ⟨q, (m : Int), no, no, none, 0, [], none, 0, []⟩) (W := W4) (by rw [← hW]; exact kept_new w3 _ _ _) (by rw [← hW]; exact has_new w3 _ _ _))
  clear hW T1
  have HN0 := Lib.hid (fun W => HN.out ⟨q, (m : Int), no, no, none, 0, [], none, 0, []⟩ W)
  rw [show hereP (n : Int) (pf ⟨q, (m : Int), no, no, none, 0, [], none, 0, []⟩) = false from (decide_eq_false (by show ¬ (m : Int) < (n : Int); omega))] at HN0
  go_upto_region 9 with (first
    | (refine wpList_load_row rfl 48 _ rfl w3.heap.size rfl 48 _ (0, 0) _ ST.out.p Tryz.underlying48 rfl infoP ?_)
    | (go_at_call 66; refine (HN0.out _).mono ?_; rintro e V0 ⟨rfl, hb⟩; replace ST := Lib.hid (ST.out.step hb); clear hb))
  clear HN0
  have HN1 := Lib.hid (fun W => HA.out ⟨q, (m : Int), no, no, none, 0, [], none, 0, []⟩ W)
  rw [show aheadP (pf ⟨q, (m : Int), no, no, none, 0, [], none, 0, []⟩) = false from (by show (!q && decide (0 < (m : Int))) = false; rcases h0.out with e | e <;> rw [e] <;> simp)] at HN1
  go_upto_region 12 with (first
    | (refine wpList_load_row rfl 48 _ rfl w3.heap.size rfl 48 _ (0, 0) _ ST.out.p Tryz.underlying48 rfl infoP ?_)
    | (go_at_call 67; refine (HN1.out _).mono ?_; rintro e V1 ⟨rfl, hb⟩; replace ST := Lib.hid (ST.out.step hb); clear hb))
  clear HN1
  have RR := Lib.hid (HR.out _ (B3.out.trans (ST.out.d.mono B3.out.size)))
  have fin := Lib.hid ((B1.out.trans (B3.out.mono B1.out.size)).trans (ST.out.d.mono (Nat.le_trans B1.out.size B3.out.size)))
  have LL := Lib.hid (show w.heap.size + 1 < w3.heap.size + 1 from Nat.lt_of_lt_of_le HLR.out (Nat.le_succ_of_le B3.out.size))
  go_wp2_with (first
    | (refine wpList_load_row rfl 48 _ rfl w3.heap.size rfl 48 _ (0, 0) _ ST.out.p Tryz.underlying48 rfl infoP ?_)
    | (refine wpList_store_row rfl 48 _ _ rfl (w.heap.size + 1) (Raw.cells ⟨q, (m : Int), no, no, none, 0, [], none, 0, []⟩) rfl rfl 48 _ RR.out infoP rfl (oneP _) ?_))
  refine bodyPost_ret (v := .tuple #[.agg (Raw.cells ⟨q, (m : Int), no, no, none, 0, [], none, 0, []⟩), .int .i64 0])
    (results_cell_tmp_row Tryz.results44 _ _ (w.heap.size + 1) 48 _ (0, 0) _ rfl (setRow_same RR.out) Tryz.underlying48 rfl infoP) rfl
    ⟨⟨q, (m : Int), no, no, none, 0, [], none, 0, []⟩, rfl, rfl, World.ownsRow_nil _ _ _ _, World.ownsRow_nil _ _ _ _, below_setRow fin.out (Nat.le_succ _) _⟩
end Go.Proofs.YtdkcebaehdkphaaGreatDoor.PrgP
/- The program's package proof: prove, Prove: contracts. The condition: the rounds' numbers lie in the program's variable. -/
namespace Go.Proofs.YtdkcebaehdkphaaGreatDoor.PrgQ
open Go.RowKit STurn SSum
open PrfL PrfN PrfM PrfB PrgN PrgC PrgK PrgH PrgF PrgO PrgP MerQ MerM MerC MerA MerJ MerR
theorem hit_found (l : List Lf) (b : Int) : hit l b = (prove l b).found := rfl
/-- Where the place has a leaf nothing is said of the one ahead. -/
theorem prove_ok (a : Option Addr) (n c : Nat) (l : List Lf) (b : Int) (w : World) (h : Lvs w a n l) (hn : n ≤ 100000) (hr : Rds w) (hok : right l = true) (hb : 0 ≤ b ∧ b ≤ 4095) :
    Calls Tryz.prog 44 #[.agg tc, .slice a n c, .int .i64 b] w (ProveOk w (prove l b)) := by
  have hlen := h.1
  have hle := plc_le l b
  have hp : prove l b = ⟨hit l b, (plc l b : Int), if plc l b < l.length then l.getD (plc l b) no else no, if hit l b = false ∧ 0 < plc l b then l.getD (plc l b - 1) no else no,
      if plc l b < l.length then pathN nd (hs l) (plc l b) else [], if hit l b = false ∧ 0 < plc l b then pathN nd (hs l) (plc l b - 1) else []⟩ := rfl
  rw [hp]
  obtain ⟨m, hm⟩ : ∃ m, plc l b = m := ⟨_, rfl⟩
  obtain ⟨q, hq⟩ : ∃ q, hit l b = q := ⟨_, rfl⟩
  rw [hm, hq, hlen]
  rw [hm] at hle
  by_cases h1 : m < n
  · simp only [if_pos h1]
    by_cases h2 : q = false ∧ 0 < m
    · simp only [if_pos h2]
      exact both a n c l b m q w h hn hr hok hb hm hq h1 h2.2 (Lib.hid h2.1)
    · simp only [if_neg h2]
      exact here_ a n c l b m q w h hn hr hok hb hm hq h1 (Lib.hid (by
        cases q with
        | true => exact .inl rfl
        | false =>
          have : ¬ 0 < m := fun e => h2 ⟨rfl, e⟩
          exact .inr (by omega)))
  · simp only [if_neg h1]
    have hqf : q = false := by rw [← hq]; exact decide_eq_false (fun e => h1 (by rw [hm, hlen] at e; exact e.1))
    by_cases h2 : q = false ∧ 0 < m
    · simp only [if_pos h2]
      exact ahead_ a n c l b m q w h hn hr hok hb hm hq (by omega) h2.2 (Lib.hid hqf)
    · simp only [if_neg h2]
      exact none_ a n c l b m q w h hn hr hok hb hm hq (by omega) (Lib.hid (by
        have : ¬ 0 < m := fun e => h2 ⟨hqf, e⟩
        exact .inr (by omega)))
set_option maxRecDepth 100000 in
set_option maxHeartbeats 1000000 in
theorem prove_no (a : Option Addr) (n c : Nat) (l : List Lf) (b : Int) (w : World) (h : Lvs w a n l) (hn : n ≤ 100000) (hr : Rds w) (hno : right l = false ∨ ¬ (0 ≤ b ∧ b ≤ 4095)) :
    Calls Tryz.prog 44 #[.agg tc, .slice a n c, .int .i64 b] w fun e w' => e = .returned (.tuple #[.agg zeroRaw.cells, .int .i64 2]) ∧ Below w.heap.size w w' := by
  obtain ⟨W1, hW1⟩ : ∃ W1, W1 = (w.alloc (.cells tc 81)).alloc (.cells #[.bool false, .int .i64 0, .int .i64 0, .string ⟨#[]⟩, .int .i64 0, .string ⟨#[]⟩, .slice none 0 0, .slice none 0 0] 48) := ⟨_, rfl⟩
  have b1 : Below w.heap.size w W1 := by rw [hW1]; exact (below_new w _).alloc (by simp) _
  have t1 : W1.heap[w.heap.size]? = some (.cells tc 81 (0, 0)) := by rw [hW1]; exact heap_alloc2_old w _ _
  have r1 : W1.heap[w.heap.size + 1]? = some (.cells zeroRaw.cells 48 (0, 0)) := by rw [hW1]; exact heap_alloc2_new w _ _
  have lr1 : w.heap.size + 1 < W1.heap.size := (Array.getElem?_eq_some_iff.1 r1).1
  have h1 : Lvs W1 a n l := ⟨h.1, h.2.1, h.2.2.1, h.2.2.2.step b1⟩
  have B1 := Lib.hid b1
  have T1 := Lib.hid t1
  have HR := Lib.hid (fun W (hb : Below W1.heap.size W1 W) => (hb.block _ lr1).trans r1)
  cases hok : right l with
  | false =>
    have HH := Lib.hid (hashes_no a n c l W1 h1 hok)
    clear h h1 hr hok hno t1 b1 r1 lr1
    go_enter Tryz.func44, Tryz.ntmps44
    go_upto_region 1 with (fail)
    rw [← hW1]
    clear hW1
    go_wp2_with (first
      | (refine wpList_load_row rfl 81 _ rfl w.heap.size rfl 81 _ (0, 0) _ T1.out Tryz.underlying81 rfl infoT ?_)
      | (go_at_call 59; refine HH.out.mono ?_; rintro e w2 ⟨rfl, hb⟩; have B2 := Lib.hid hb; clear hb HH)
      | (refine wpList_store_row rfl 48 _ _ rfl (w.heap.size + 1) zeroRaw.cells rfl rfl 48 _ (HR.out _ B2.out) infoP rfl (oneP _) ?_))
    refine bodyPost_ret (v := .tuple #[.agg zeroRaw.cells, .int .i64 2])
      (results_cell_tmp_row Tryz.results44 _ _ (w.heap.size + 1) 48 _ (0, 0) _ rfl (setRow_same (HR.out _ B2.out)) Tryz.underlying48 rfl infoP) rfl
      ⟨rfl, below_setRow (B1.out.trans (B2.out.mono B1.out.size)) (Nat.le_succ _) _⟩
  | true =>
    have hb := hno.resolve_left (by rw [hok]; simp)
    have HH := Lib.hid (hashes_yes a n c l W1 h1 hn (hr.step b1) hok)
    have HW := Lib.hid (fun W => within b 4095 W)
    rw [in_no hb] at HW
    clear h h1 hr hok hno t1 b1 r1 lr1 hb
    go_enter Tryz.func44, Tryz.ntmps44
    go_upto_region 1 with (fail)
    rw [← hW1]
    clear hW1
    go_wp2_with (first
      | (refine wpList_load_row rfl 81 _ rfl w.heap.size rfl 81 _ (0, 0) _ T1.out Tryz.underlying81 rfl infoT ?_)
      | (go_at_call 59; refine HH.out.mono ?_; rintro e w2 ⟨p, c', rfl, _, hb⟩; have B2 := Lib.hid hb; clear hb HH)
      | (go_at_call 56; refine (HW.out _).mono ?_; rintro e _ ⟨rfl, rfl⟩)
      | (refine wpList_store_row rfl 48 _ _ rfl (w.heap.size + 1) zeroRaw.cells rfl rfl 48 _ (HR.out _ B2.out) infoP rfl (oneP _) ?_))
    refine bodyPost_ret (v := .tuple #[.agg zeroRaw.cells, .int .i64 2])
      (results_cell_tmp_row Tryz.results44 _ _ (w.heap.size + 1) 48 _ (0, 0) _ rfl (setRow_same (HR.out _ B2.out)) Tryz.underlying48 rfl infoP) rfl
      ⟨rfl, below_setRow (B1.out.trans (B2.out.mono B1.out.size)) (Nat.le_succ _) _⟩
/-- May it be proved? -/
def canB (l : List Lf) (b : Int) : Bool := right l && inB b 4095
theorem can_in {l : List Lf} {b : Int} (h : canB l b = true) : right l = true ∧ 0 ≤ b ∧ b ≤ 4095 := by
  unfold canB inB at h
  rw [Bool.and_eq_true, Bool.and_eq_true, decide_eq_true_eq, decide_eq_true_eq] at h
  exact ⟨h.1, h.2⟩
theorem can_no {l : List Lf} {b : Int} (h : canB l b = false) : right l = false ∨ ¬ (0 ≤ b ∧ b ≤ 4095) := by
  cases hr : right l with
  | false => exact .inl rfl
  | true => exact .inr fun hb => by unfold canB at h; rw [hr, in_yes hb] at h; simp at h
theorem Prove_ok (a : Option Addr) (n c : Nat) (l : List Lf) (b : Int) (w : World) (h : Lvs w a n l) (hn : n ≤ 100000) (hr : Rds w) (hc : canB l b = true) :
    Calls Tryz.prog 30 #[.slice a n c, .int .i64 b] w (ProveOk w (prove l b)) := by
  obtain ⟨W1, hW1⟩ : ∃ W1, W1 = w.alloc (.cells #[.bool false, .int .i64 0, .int .i64 0, .string ⟨#[]⟩, .int .i64 0, .string ⟨#[]⟩, .slice none 0 0, .slice none 0 0] 48) := ⟨_, rfl⟩
  have b1 : Below w.heap.size w W1 := by rw [hW1]; exact below_new w _
  have r1 : W1.heap[w.heap.size]? = some (.cells zeroRaw.cells 48 (0, 0)) := by rw [hW1]; exact heap_alloc_new w _
  have lr1 : w.heap.size < W1.heap.size := (Array.getElem?_eq_some_iff.1 r1).1
  have B1 := Lib.hid b1
  have HR := Lib.hid (fun W (hb : Below W1.heap.size W1 W) => (hb.block _ lr1).trans r1)
  have HM := Lib.hid (merkles W1)
  have HP := Lib.hid (fun W (hb : Below W1.heap.size W1 W) => prove_ok a n c l b W ⟨h.1, h.2.1, h.2.2.1, (h.2.2.2.step b1).step hb⟩ hn ((hr.step b1).step hb) (can_in hc).1 (can_in hc).2)
  have HLR := Lib.hid lr1
  clear h hr hc b1 r1 lr1
  generalize prove l b = pr at *
  generalize tc = cs at *
  go_enter Tryz.func30, Tryz.ntmps30
  go_upto_region 1 with (fail)
  rw [← hW1]
  clear hW1
  go_wp2_with (first
    | (go_at_call 35; refine HM.out.mono ?_; rintro e w2 ⟨rfl, hb⟩; have B2 := Lib.hid hb; clear hb HM)
    | (go_at_call 44; refine (HP.out _ B2.out).mono ?_; rintro e w3 ⟨x, rfl, hx, hs1, hs2, hb⟩; have S1 := Lib.hid hs1; have S2 := Lib.hid hs2; have HX := Lib.hid hx; have B3 := Lib.hid (B2.out.trans (hb.mono B2.out.size)); clear hs1 hs2 hx hb HP)
    | (refine wpList_store_row rfl 48 _ _ rfl w.heap.size x.cells rfl rfl 48 _ (HR.out _ B3.out) infoP rfl (oneP _) ?_))
  have H2 := Lib.hid (show w.heap.size < w2.heap.size from Nat.lt_of_lt_of_le HLR.out B2.out.size)
  have R3 := Lib.hid (HR.out _ B3.out)
  refine bodyPost_ret (v := .tuple #[.agg x.cells, .int .i64 0])
    (results_cell_tmp_row Tryz.results30 _ _ w.heap.size 48 _ (0, 0) _ rfl (setRow_same R3.out) Tryz.underlying48 rfl infoP) rfl
    ⟨x, rfl, HX.out, own_base (own_at S1.out fun k hk => setRow_far (by have := (S1.out.lt k hk).1; have := H2.out; omega)) (Nat.le_of_lt H2.out), own_base (own_at S2.out fun k hk => setRow_far (by have := (S2.out.lt k hk).1; have := H2.out; omega)) (Nat.le_of_lt H2.out), below_setRow (B1.out.trans (B3.out.mono B1.out.size)) (Nat.le_refl _) _⟩
theorem Prove_no (a : Option Addr) (n c : Nat) (l : List Lf) (b : Int) (w : World) (h : Lvs w a n l) (hn : n ≤ 100000) (hr : Rds w) (hc : canB l b = false) :
    Calls Tryz.prog 30 #[.slice a n c, .int .i64 b] w fun e w' => e = .returned (.tuple #[.agg zeroRaw.cells, .int .i64 2]) ∧ Below w.heap.size w w' := by
  obtain ⟨W1, hW1⟩ : ∃ W1, W1 = w.alloc (.cells #[.bool false, .int .i64 0, .int .i64 0, .string ⟨#[]⟩, .int .i64 0, .string ⟨#[]⟩, .slice none 0 0, .slice none 0 0] 48) := ⟨_, rfl⟩
  have b1 : Below w.heap.size w W1 := by rw [hW1]; exact below_new w _
  have r1 : W1.heap[w.heap.size]? = some (.cells zeroRaw.cells 48 (0, 0)) := by rw [hW1]; exact heap_alloc_new w _
  have lr1 : w.heap.size < W1.heap.size := (Array.getElem?_eq_some_iff.1 r1).1
  have B1 := Lib.hid b1
  have HR := Lib.hid (fun W (hb : Below W1.heap.size W1 W) => (hb.block _ lr1).trans r1)
  have HM := Lib.hid (merkles W1)
  have HP := Lib.hid (fun W (hb : Below W1.heap.size W1 W) => prove_no a n c l b W ⟨h.1, h.2.1, h.2.2.1, (h.2.2.2.step b1).step hb⟩ hn ((hr.step b1).step hb) (can_no hc))
  clear h hr hc b1 r1 lr1
  generalize tc = cs at *
  go_enter Tryz.func30, Tryz.ntmps30
  go_upto_region 1 with (fail)
  rw [← hW1]
  clear hW1
  go_wp2_with (first
    | (go_at_call 35; refine HM.out.mono ?_; rintro e w2 ⟨rfl, hb⟩; have B2 := Lib.hid hb; clear hb HM)
    | (go_at_call 44; refine (HP.out _ B2.out).mono ?_; rintro e w3 ⟨rfl, hb⟩; have B3 := Lib.hid (B2.out.trans (hb.mono B2.out.size)); clear hb HP)
    | (refine wpList_store_row rfl 48 _ _ rfl w.heap.size zeroRaw.cells rfl rfl 48 _ (HR.out _ B3.out) infoP rfl (oneP _) ?_))
  refine bodyPost_ret (v := .tuple #[.agg zeroRaw.cells, .int .i64 2])
    (results_cell_tmp_row Tryz.results30 _ _ w.heap.size 48 _ (0, 0) _ rfl (setRow_same (HR.out _ B3.out)) Tryz.underlying48 rfl infoP) rfl
    ⟨rfl, below_setRow (B1.out.trans (B3.out.mono B1.out.size)) (Nat.le_refl _) _⟩
end Go.Proofs.YtdkcebaehdkphaaGreatDoor.PrgQ
