/- The document's proof of a place: the walk of its text. No conditions but those that each lemma names. -/
import Derived.Test.YtdkcebaehdkphaaGreatDoorPrfH
import Derived.Test.YtdkcebaehdkphaaGreatDoorLPrgA
import Derived.Test.YtdkcebaehdkphaaGreatDoorLPrgP
import Derived.Deep.DeepCutAuto
namespace Go.Proofs.YtdkcebaehdkphaaGreatDoor.PrfP
set_option linter.unusedVariables false
open Go.RowKit SSum
open PrfL PrfN PrfM PrfB PrgN PrgC PrgF PrgO PrgP MerQ MerM MerN MerC MerA MerJ MerR
theorem infoL : (Tryz.prog.info? 45).map (·.size) = some 2 := by kernel_rfl
/-- What the document's Prove answers. -/
def ProveR (w : World) (p : Pf) (e : Ending) (w' : World) : Prop :=
  ∃ x : Raw, e = .returned (.agg x.cells) ∧ pf x = p ∧ w'.ownsRow w.heap.size 9 1 (.slice x.ua x.up.length x.uc) x.up.length (x.up.map str) ∧ w'.ownsRow w.heap.size 9 1 (.slice x.la x.left.length x.lc) x.left.length (x.left.map str) ∧ Below w.heap.size w w'
theorem own_cap {w : World} {base n c : Nat} {a : Option Addr} {e : TypeId} {xs : List Value} (h : w.ownsRow base e 1 (.slice a n c) n xs) : n ≤ c := by
  rcases h.2 with ⟨h0, h1⟩ | ⟨g, cap, cur, h1, _, _, h2⟩
  · omega
  · cases h1
    omega
set_option maxRecDepth 100000 in
set_option maxHeartbeats 4000000 in
theorem found_ (a : Option Addr) (n c : Nat) (l : List Lf) (b : Int) (m : Nat) (w : World) (h : Lvs w a n l) (hn : n ≤ 100000) (hp : plc l b = m) (hm : m < n) (hq : ((l.getD m no).1 == b) = true) :
    Calls Tryz.prog 20 #[.slice a n c, .int .i64 b] w (ProveR w ⟨true, (m : Int), l.getD m no, no, pathN nd (hs l) m, []⟩) := by
  have hle : m ≤ n := by have := plc_le l b; rw [hp, h.1] at this; exact this
  obtain ⟨W1, hW1⟩ : ∃ W1, W1 = w.alloc (.cells #[.bool false, .int .i64 0, .int .i64 0, .string ⟨#[]⟩, .int .i64 0, .string ⟨#[]⟩, .slice none 0 0, .slice none 0 0] 48) := ⟨_, rfl⟩
  have b1 : Below w.heap.size w W1 := by rw [hW1]; exact below_new w _
  have r1 : W1.heap[w.heap.size]? = some (.cells zeroRaw.cells 48 (0, 0)) := by rw [hW1]; exact heap_alloc_new w _
  have lr1 : w.heap.size < W1.heap.size := (Array.getElem?_eq_some_iff.1 r1).1
  have hl1 := h.2.2.2.step b1
  have HPl : Hid (∀ k, k ≤ n → (∀ i, i < k → (l.getD i no).1 < b) → (k < n → b ≤ (l.getD k no).1) → k = m) := Lib.hid fun k h1 h2 h3 => by rw [← hp]; exact (plc_is (by rw [h.1]; exact h1) h2 (fun e => h3 (by rw [← h.1]; exact e))).symm
  have B1 := Lib.hid b1
  have HR := Lib.hid (fun W (hb : Below W1.heap.size W1 W) => (hb.block _ lr1).trans r1)
  have HLR := Lib.hid lr1
  have HL := Lib.hid hl1
  have hln := h.1
  have HH := Lib.hid (fun W (hb : Below W1.heap.size W1 W) => PrfH.Hashes a n c l W ⟨h.1, h.2.1, h.2.2.1, hl1.step hb⟩ hn)
  have hz : (hs l).length = n := by rw [hs_length]; exact h.1
  have HP0 := Lib.hid (fun p c' W (hs' : W.ownsRow W1.heap.size 9 1 (.slice p n c') n ((hs l).map str)) => show Calls Tryz.prog 32 #[.slice p n c', .int .i64 ((m : Nat) : Int)] W (Own1 W.heap.size W (pathN nd (hs l) (m))) from MerJ.Path n p c' (hs l) (m) W hz (own_cap hs') (by omega) (by omega) (own_strs hs') (all32_at (hs_32 l)))
  have HC0 := Lib.hid (fun (W : World) (hl : Lies W a l) => at_ hl (i := m) (by omega))
  unfold Own1 at HH
  rw [hz] at HH
  clear h hp b1 r1 lr1 hl1 hz
  go_enter Tryz.func20, Tryz.ntmps20
  go_upto_region 1 with (fail)
  rw [← hW1]
  clear hW1
  go_wp2_with fail
  go_loopw [5] (fun kv wr => ∃ k : Nat, k ≤ n ∧ kv = .int .i64 k ∧ (∀ i, i < k → (l.getD i no).1 < b) ∧ wr = W1) (fun kv _ => n - (intOf kv).toNat)
  case atStart => exact ⟨0, Nat.zero_le _, rfl, (fun i hi => absurd hi (by omega)), rfl⟩
  case round =>
    obtain ⟨k, hk, rfl, hlo, rfl⟩ := hrel
    have HLo := Lib.hid hlo
    clear hlo
    by_cases hlt : k < n
    · obtain ⟨g, o, rfl, hg, hc⟩ := HL.out (by omega)
      obtain ⟨z0, _⟩ := hc k (by omega)
      have q0 : (0 : Int) ≤ (k : Int) := by omega
      have q1 : (k : Int) < (n : Int) := by omega
      by_cases hlb : (l.getD k no).1 < b
      · have HNx : Hid (∀ i, i < k + 1 → (l.getD i no).1 < b) := Lib.hid fun i hi => by
          by_cases e : i = k
          · rw [e]; exact hlb
          · exact HLo.out i (by omega)
        have hd : decide ((l.getD k no).1 < b) = true := decide_eq_true hlb
        clear hc hg HLo hq
        generalize (l.getD k no).1 = y at *
        go_wp2_with fail
        go_roundw
        case rel => exact ⟨k + 1, by omega, by go_num, HNx.out, by trivial⟩
        case measure => simp [intOf]; omega
      · obtain rfl := HPl.out k hk HLo.out (fun _ => by omega)
        have hd : decide ((l.getD k no).1 < b) = false := decide_eq_false hlb
        clear hc hg
        clear HPl HLo
        generalize l.getD k no = xh at *
        generalize pathN nd (hs l) k = U at *
        go_upto_region 5 with (refine wpList_store_row rfl 48 _ _ rfl wr.heap.size (Raw.cells ⟨false, (k : Int), no, no, none, 0, [], none, 0, []⟩) rfl rfl 48 _ (heap_alloc_new wr _) infoP rfl (oneP _) ?_)
        generalize hW : World.setRow _ _ _ = W4
        have ST := Lib.hid (PrgP.St.mk (w3 := wr) (x := ⟨false, (k : Int), no, no, none, 0, [], none, 0, []⟩) (W := W4) (by rw [← hW]; exact kept_new wr _ _ _) (by rw [← hW]; exact has_new wr _ _ _))
        clear hW
        obtain ⟨g', o', hge, c0, c1⟩ := HC0.out _ (HL.out.step ST.out.d)
        cases hge
        have k2 := blk_cell (i := 2) ST.out.p rfl
        have hf2 := blk_free (i := 2) ST.out.p
        have k3 := blk_cell (i := 3) ST.out.p rfl
        have hf3 := blk_free (i := 3) ST.out.p
        go_upto_region 7 with (fail)
        generalize hW : World.setCell (World.setCell _ _ _) _ _ = X0
        replace ST := Lib.hid (PrgP.St.mk (w3 := wr) (x := ⟨false, (k : Int), xh, no, none, 0, [], none, 0, []⟩) (W := X0) (by rw [← hW]; exact (ST.out.d.setCell (Nat.le_refl _) _).setCell (Nat.le_refl _) _) (by rw [← hW]; exact blk_set (blk_set ST.out.p)))
        clear hW k2 k3 hf2 hf3 c1
        go_upto_region 8 with (first | (go_at_call 17; refine (HH.out _ ST.out.d).mono ?_; rintro e Y ⟨pa, pc, rfl, ho, hb⟩; have HO := Lib.hid (own_base ho ST.out.d.size); replace ST := Lib.hid (ST.out.step hb); clear hb ho) | (go_at_call 32; refine (HP0.out _ _ _ HO.out).mono ?_; rintro e Y' ⟨a0, cc0, rfl, ho, hb⟩; have O0 := Lib.hid (own_base ho ST.out.lt); replace ST := Lib.hid (ST.out.step hb); have k6 := blk_cell (i := 6) ST.out.p rfl; have hf6 := blk_free (i := 6) ST.out.p; clear hb ho HO))
        generalize hW : World.setCell _ _ _ = Z0
        replace O0 := Lib.hid (show (Z0).ownsRow (wr.heap.size + 1) _ _ _ _ _ by rw [← hW]; exact own_set O0.out (Nat.lt_succ_self _) _)
        replace ST := Lib.hid (PrgP.St.mk (w3 := wr) (x := ⟨false, (k : Int), xh, no, a0, cc0, U, none, 0, []⟩) (W := Z0) (by rw [← hW]; exact ST.out.d.setCell (Nat.le_refl _) _) (by rw [← hW]; exact blk_set ST.out.p))
        clear hW HP0 k6 hf6
        obtain ⟨g'', o'', hge2, c0', _⟩ := HC0.out _ (HL.out.step ST.out.d)
        cases hge2
        have k0 := blk_cell (i := 0) ST.out.p rfl
        have hf0 := blk_free (i := 0) ST.out.p
        go_upto_region 9 with (fail)
        generalize hW : World.setCell _ _ _ = ZF
        replace O0 := Lib.hid (show (ZF).ownsRow (wr.heap.size + 1) _ _ _ _ _ by rw [← hW]; exact own_set O0.out (Nat.lt_succ_self _) _)
        replace ST := Lib.hid (PrgP.St.mk (w3 := wr) (x := ⟨true, (k : Int), xh, no, a0, cc0, U, none, 0, []⟩) (W := ZF) (by rw [← hW]; exact ST.out.d.setCell (Nat.le_refl _) _) (by rw [← hW]; exact blk_set ST.out.p))
        clear hW k0 hf0 c0'
        have k0 := blk_cell (i := 0) (u := .bool true) ST.out.p rfl
        go_upto_region 12 with (fail)
        clear k0
        have RR := Lib.hid (HR.out _ ST.out.d)
        have fin := Lib.hid (B1.out.trans (ST.out.d.mono B1.out.size))
        have LL := Lib.hid HLR.out
        go_wp2_with (first
          | (refine wpList_load_row rfl 48 _ rfl wr.heap.size rfl 48 _ (0, 0) _ ST.out.p Tryz.underlying48 rfl infoP ?_)
          | (refine wpList_store_row rfl 48 _ _ rfl w.heap.size (Raw.cells ⟨true, (k : Int), xh, no, a0, cc0, U, none, 0, []⟩) rfl rfl 48 _ RR.out infoP rfl (oneP _) ?_))
        refine bodyPost_ret (v := .agg (Raw.cells ⟨true, (k : Int), xh, no, a0, cc0, U, none, 0, []⟩))
          (results_cell_row Tryz.results20 _ _ w.heap.size 48 _ (0, 0) _ rfl (setRow_same RR.out) Tryz.underlying48 rfl infoP) rfl
          ⟨⟨true, (k : Int), xh, no, a0, cc0, U, none, 0, []⟩, rfl, rfl, own_base (own_at O0.out fun k hk => setRow_far (by have := (O0.out.lt k hk).1; have := LL.out; omega)) (by have := LL.out; omega), World.ownsRow_nil _ _ _ _, below_setRow fin.out (Nat.le_refl _) _⟩
    · exact absurd (HPl.out k hk HLo.out (fun h => absurd h hlt)) (by omega)
set_option maxRecDepth 100000 in
set_option maxHeartbeats 4000000 in
theorem both (a : Option Addr) (n c : Nat) (l : List Lf) (b : Int) (m : Nat) (w : World) (h : Lvs w a n l) (hn : n ≤ 100000) (hp : plc l b = m) (hm : m < n) (hq : ((l.getD m no).1 == b) = false) (h0 : 0 < m) :
    Calls Tryz.prog 20 #[.slice a n c, .int .i64 b] w (ProveR w ⟨false, (m : Int), l.getD m no, l.getD (m - 1) no, pathN nd (hs l) m, pathN nd (hs l) (m - 1)⟩) := by
  have hle : m ≤ n := by have := plc_le l b; rw [hp, h.1] at this; exact this
  obtain ⟨W1, hW1⟩ : ∃ W1, W1 = w.alloc (.cells #[.bool false, .int .i64 0, .int .i64 0, .string ⟨#[]⟩, .int .i64 0, .string ⟨#[]⟩, .slice none 0 0, .slice none 0 0] 48) := ⟨_, rfl⟩
  have b1 : Below w.heap.size w W1 := by rw [hW1]; exact below_new w _
  have r1 : W1.heap[w.heap.size]? = some (.cells zeroRaw.cells 48 (0, 0)) := by rw [hW1]; exact heap_alloc_new w _
  have lr1 : w.heap.size < W1.heap.size := (Array.getElem?_eq_some_iff.1 r1).1
  have hl1 := h.2.2.2.step b1
  have HPl : Hid (∀ k, k ≤ n → (∀ i, i < k → (l.getD i no).1 < b) → (k < n → b ≤ (l.getD k no).1) → k = m) := Lib.hid fun k h1 h2 h3 => by rw [← hp]; exact (plc_is (by rw [h.1]; exact h1) h2 (fun e => h3 (by rw [← h.1]; exact e))).symm
  have B1 := Lib.hid b1
  have HR := Lib.hid (fun W (hb : Below W1.heap.size W1 W) => (hb.block _ lr1).trans r1)
  have HLR := Lib.hid lr1
  have HL := Lib.hid hl1
  have hln := h.1
  have HH := Lib.hid (fun W (hb : Below W1.heap.size W1 W) => PrfH.Hashes a n c l W ⟨h.1, h.2.1, h.2.2.1, hl1.step hb⟩ hn)
  have hz : (hs l).length = n := by rw [hs_length]; exact h.1
  have HP0 := Lib.hid (fun p c' W (hs' : W.ownsRow W1.heap.size 9 1 (.slice p n c') n ((hs l).map str)) => show Calls Tryz.prog 32 #[.slice p n c', .int .i64 ((m : Nat) : Int)] W (Own1 W.heap.size W (pathN nd (hs l) (m))) from MerJ.Path n p c' (hs l) (m) W hz (own_cap hs') (by omega) (by omega) (own_strs hs') (all32_at (hs_32 l)))
  have HC0 := Lib.hid (fun (W : World) (hl : Lies W a l) => at_ hl (i := m) (by omega))
  have HP1 := Lib.hid (fun p c' W (hs' : W.ownsRow W1.heap.size 9 1 (.slice p n c') n ((hs l).map str)) => show Calls Tryz.prog 32 #[.slice p n c', .int .i64 ((m - 1 : Nat) : Int)] W (Own1 W.heap.size W (pathN nd (hs l) (m - 1))) from MerJ.Path n p c' (hs l) (m - 1) W hz (own_cap hs') (by omega) (by omega) (own_strs hs') (all32_at (hs_32 l)))
  have HC1 := Lib.hid (fun (W : World) (hl : Lies W a l) => at_ hl (i := m - 1) (by omega))
  unfold Own1 at HH
  rw [hz] at HH
  clear h hp b1 r1 lr1 hl1 hz
  go_enter Tryz.func20, Tryz.ntmps20
  go_upto_region 1 with (fail)
  rw [← hW1]
  clear hW1
  go_wp2_with fail
  go_loopw [5] (fun kv wr => ∃ k : Nat, k ≤ n ∧ kv = .int .i64 k ∧ (∀ i, i < k → (l.getD i no).1 < b) ∧ wr = W1) (fun kv _ => n - (intOf kv).toNat)
  case atStart => exact ⟨0, Nat.zero_le _, rfl, (fun i hi => absurd hi (by omega)), rfl⟩
  case round =>
    obtain ⟨k, hk, rfl, hlo, rfl⟩ := hrel
    have HLo := Lib.hid hlo
    clear hlo
    by_cases hlt : k < n
    · obtain ⟨g, o, rfl, hg, hc⟩ := HL.out (by omega)
      obtain ⟨z0, _⟩ := hc k (by omega)
      have q0 : (0 : Int) ≤ (k : Int) := by omega
      have q1 : (k : Int) < (n : Int) := by omega
      by_cases hlb : (l.getD k no).1 < b
      · have HNx : Hid (∀ i, i < k + 1 → (l.getD i no).1 < b) := Lib.hid fun i hi => by
          by_cases e : i = k
          · rw [e]; exact hlb
          · exact HLo.out i (by omega)
        have hd : decide ((l.getD k no).1 < b) = true := decide_eq_true hlb
        clear hc hg HLo hq
        generalize (l.getD k no).1 = y at *
        go_wp2_with fail
        go_roundw
        case rel => exact ⟨k + 1, by omega, by go_num, HNx.out, by trivial⟩
        case measure => simp [intOf]; omega
      · obtain rfl := HPl.out k hk HLo.out (fun _ => by omega)
        have hd : decide ((l.getD k no).1 < b) = false := decide_eq_false hlb
        clear hc hg
        clear HPl HLo
        generalize l.getD k no = xh at *
        generalize pathN nd (hs l) k = U at *
        generalize l.getD (k - 1) no = xa at *
        generalize pathN nd (hs l) (k - 1) = V at *
        go_upto_region 5 with (refine wpList_store_row rfl 48 _ _ rfl wr.heap.size (Raw.cells ⟨false, (k : Int), no, no, none, 0, [], none, 0, []⟩) rfl rfl 48 _ (heap_alloc_new wr _) infoP rfl (oneP _) ?_)
        generalize hW : World.setRow _ _ _ = W4
        have ST := Lib.hid (PrgP.St.mk (w3 := wr) (x := ⟨false, (k : Int), no, no, none, 0, [], none, 0, []⟩) (W := W4) (by rw [← hW]; exact kept_new wr _ _ _) (by rw [← hW]; exact has_new wr _ _ _))
        clear hW
        obtain ⟨g', o', hge, c0, c1⟩ := HC0.out _ (HL.out.step ST.out.d)
        cases hge
        have k2 := blk_cell (i := 2) ST.out.p rfl
        have hf2 := blk_free (i := 2) ST.out.p
        have k3 := blk_cell (i := 3) ST.out.p rfl
        have hf3 := blk_free (i := 3) ST.out.p
        go_upto_region 7 with (fail)
        generalize hW : World.setCell (World.setCell _ _ _) _ _ = X0
        replace ST := Lib.hid (PrgP.St.mk (w3 := wr) (x := ⟨false, (k : Int), xh, no, none, 0, [], none, 0, []⟩) (W := X0) (by rw [← hW]; exact (ST.out.d.setCell (Nat.le_refl _) _).setCell (Nat.le_refl _) _) (by rw [← hW]; exact blk_set (blk_set ST.out.p)))
        clear hW k2 k3 hf2 hf3 c1
        go_upto_region 8 with (first | (go_at_call 17; refine (HH.out _ ST.out.d).mono ?_; rintro e Y ⟨pa, pc, rfl, ho, hb⟩; have HO := Lib.hid (own_base ho ST.out.d.size); replace ST := Lib.hid (ST.out.step hb); clear hb ho) | (go_at_call 32; refine (HP0.out _ _ _ HO.out).mono ?_; rintro e Y' ⟨a0, cc0, rfl, ho, hb⟩; have O0 := Lib.hid (own_base ho ST.out.lt); replace ST := Lib.hid (ST.out.step hb); have k6 := blk_cell (i := 6) ST.out.p rfl; have hf6 := blk_free (i := 6) ST.out.p; clear hb ho HO))
        generalize hW : World.setCell _ _ _ = Z0
        replace O0 := Lib.hid (show (Z0).ownsRow (wr.heap.size + 1) _ _ _ _ _ by rw [← hW]; exact own_set O0.out (Nat.lt_succ_self _) _)
        replace ST := Lib.hid (PrgP.St.mk (w3 := wr) (x := ⟨false, (k : Int), xh, no, a0, cc0, U, none, 0, []⟩) (W := Z0) (by rw [← hW]; exact ST.out.d.setCell (Nat.le_refl _) _) (by rw [← hW]; exact blk_set ST.out.p))
        clear hW HP0 k6 hf6
        obtain ⟨g'', o'', hge2, c0', _⟩ := HC0.out _ (HL.out.step ST.out.d)
        cases hge2
        have k0 := blk_cell (i := 0) ST.out.p rfl
        have hf0 := blk_free (i := 0) ST.out.p
        go_upto_region 9 with (fail)
        generalize hW : World.setCell _ _ _ = ZF
        replace O0 := Lib.hid (show (ZF).ownsRow (wr.heap.size + 1) _ _ _ _ _ by rw [← hW]; exact own_set O0.out (Nat.lt_succ_self _) _)
        replace ST := Lib.hid (PrgP.St.mk (w3 := wr) (x := ⟨false, (k : Int), xh, no, a0, cc0, U, none, 0, []⟩) (W := ZF) (by rw [← hW]; exact ST.out.d.setCell (Nat.le_refl _) _) (by rw [← hW]; exact blk_set ST.out.p))
        clear hW k0 hf0 c0'
        have k0 := blk_cell (i := 0) (u := .bool false) ST.out.p rfl
        have hp0 : (0 : Int) < (k : Int) := by omega
        have hp1 : 0 < k := h0
        go_upto_region 10 with (fail)
        clear k0
        obtain ⟨g', o', hge, c0, c1⟩ := HC1.out _ (HL.out.step ST.out.d)
        cases hge
        obtain ⟨j, hj⟩ : ∃ j, k - 1 = j := ⟨_, rfl⟩
        rw [hj] at c0 c1 HP1
        have em : IntKind.i64.wrap ((k : Int) - 1) = (j : Int) := by rw [IntWalk.i64_in _ (by omega)]; omega
        have em2 : (k : Int) - 1 = (j : Int) := by omega
        have qa0 : (0 : Int) ≤ (j : Int) := by omega
        have qa1 : (j : Int) < (n : Int) := by omega
        have k4 := blk_cell (i := 4) ST.out.p rfl
        have hf4 := blk_free (i := 4) ST.out.p
        have k5 := blk_cell (i := 5) ST.out.p rfl
        have hf5 := blk_free (i := 5) ST.out.p
        go_upto_region 11 with (fail)
        generalize hW : World.setCell (World.setCell _ _ _) _ _ = X1
        replace O0 := Lib.hid (show (X1).ownsRow (wr.heap.size + 1) _ _ _ _ _ by rw [← hW]; exact own_set (own_set O0.out (Nat.lt_succ_self _) _) (Nat.lt_succ_self _) _)
        replace ST := Lib.hid (PrgP.St.mk (w3 := wr) (x := ⟨false, (k : Int), xh, xa, a0, cc0, U, none, 0, []⟩) (W := X1) (by rw [← hW]; exact (ST.out.d.setCell (Nat.le_refl _) _).setCell (Nat.le_refl _) _) (by rw [← hW]; exact blk_set (blk_set ST.out.p)))
        clear hW k4 k5 hf4 hf5 c0 c1
        go_upto_region 12 with (first | (go_at_call 17; refine (HH.out _ ST.out.d).mono ?_; rintro e Y ⟨pa, pc, rfl, ho, hb⟩; have HO := Lib.hid (own_base ho ST.out.d.size); replace O0 := Lib.hid (own_later O0.out hb); replace ST := Lib.hid (ST.out.step hb); clear hb ho) | (go_at_call 32; refine (HP1.out _ _ _ HO.out).mono ?_; rintro e Y' ⟨a1, cc1, rfl, ho, hb⟩; have O1 := Lib.hid (own_base ho ST.out.lt); replace O0 := Lib.hid (own_later O0.out hb); replace ST := Lib.hid (ST.out.step hb); have k7 := blk_cell (i := 7) ST.out.p rfl; have hf7 := blk_free (i := 7) ST.out.p; clear hb ho HO))
        generalize hW : World.setCell _ _ _ = Z1
        replace O0 := Lib.hid (show (Z1).ownsRow (wr.heap.size + 1) _ _ _ _ _ by rw [← hW]; exact own_set O0.out (Nat.lt_succ_self _) _)
        replace O1 := Lib.hid (show (Z1).ownsRow (wr.heap.size + 1) _ _ _ _ _ by rw [← hW]; exact own_set O1.out (Nat.lt_succ_self _) _)
        replace ST := Lib.hid (PrgP.St.mk (w3 := wr) (x := ⟨false, (k : Int), xh, xa, a0, cc0, U, a1, cc1, V⟩) (W := Z1) (by rw [← hW]; exact ST.out.d.setCell (Nat.le_refl _) _) (by rw [← hW]; exact blk_set ST.out.p))
        clear hW HP1 k7 hf7
        have RR := Lib.hid (HR.out _ ST.out.d)
        have fin := Lib.hid (B1.out.trans (ST.out.d.mono B1.out.size))
        have LL := Lib.hid HLR.out
        go_wp2_with (first
          | (refine wpList_load_row rfl 48 _ rfl wr.heap.size rfl 48 _ (0, 0) _ ST.out.p Tryz.underlying48 rfl infoP ?_)
          | (refine wpList_store_row rfl 48 _ _ rfl w.heap.size (Raw.cells ⟨false, (k : Int), xh, xa, a0, cc0, U, a1, cc1, V⟩) rfl rfl 48 _ RR.out infoP rfl (oneP _) ?_))
        refine bodyPost_ret (v := .agg (Raw.cells ⟨false, (k : Int), xh, xa, a0, cc0, U, a1, cc1, V⟩))
          (results_cell_row Tryz.results20 _ _ w.heap.size 48 _ (0, 0) _ rfl (setRow_same RR.out) Tryz.underlying48 rfl infoP) rfl
          ⟨⟨false, (k : Int), xh, xa, a0, cc0, U, a1, cc1, V⟩, rfl, rfl, own_base (own_at O0.out fun k hk => setRow_far (by have := (O0.out.lt k hk).1; have := LL.out; omega)) (by have := LL.out; omega), own_base (own_at O1.out fun k hk => setRow_far (by have := (O1.out.lt k hk).1; have := LL.out; omega)) (by have := LL.out; omega), below_setRow fin.out (Nat.le_refl _) _⟩
    · exact absurd (HPl.out k hk HLo.out (fun h => absurd h hlt)) (by omega)
set_option maxRecDepth 100000 in
set_option maxHeartbeats 4000000 in
theorem here_ (a : Option Addr) (n c : Nat) (l : List Lf) (b : Int) (m : Nat) (w : World) (h : Lvs w a n l) (hn : n ≤ 100000) (hp : plc l b = m) (hm : m < n) (hq : ((l.getD m no).1 == b) = false) (h0 : Hid (m = 0)) :
    Calls Tryz.prog 20 #[.slice a n c, .int .i64 b] w (ProveR w ⟨false, (m : Int), l.getD m no, no, pathN nd (hs l) m, []⟩) := by
  have hle : m ≤ n := by have := plc_le l b; rw [hp, h.1] at this; exact this
  obtain ⟨W1, hW1⟩ : ∃ W1, W1 = w.alloc (.cells #[.bool false, .int .i64 0, .int .i64 0, .string ⟨#[]⟩, .int .i64 0, .string ⟨#[]⟩, .slice none 0 0, .slice none 0 0] 48) := ⟨_, rfl⟩
  have b1 : Below w.heap.size w W1 := by rw [hW1]; exact below_new w _
  have r1 : W1.heap[w.heap.size]? = some (.cells zeroRaw.cells 48 (0, 0)) := by rw [hW1]; exact heap_alloc_new w _
  have lr1 : w.heap.size < W1.heap.size := (Array.getElem?_eq_some_iff.1 r1).1
  have hl1 := h.2.2.2.step b1
  have HPl : Hid (∀ k, k ≤ n → (∀ i, i < k → (l.getD i no).1 < b) → (k < n → b ≤ (l.getD k no).1) → k = m) := Lib.hid fun k h1 h2 h3 => by rw [← hp]; exact (plc_is (by rw [h.1]; exact h1) h2 (fun e => h3 (by rw [← h.1]; exact e))).symm
  have B1 := Lib.hid b1
  have HR := Lib.hid (fun W (hb : Below W1.heap.size W1 W) => (hb.block _ lr1).trans r1)
  have HLR := Lib.hid lr1
  have HL := Lib.hid hl1
  have hln := h.1
  have HH := Lib.hid (fun W (hb : Below W1.heap.size W1 W) => PrfH.Hashes a n c l W ⟨h.1, h.2.1, h.2.2.1, hl1.step hb⟩ hn)
  have hz : (hs l).length = n := by rw [hs_length]; exact h.1
  have HP0 := Lib.hid (fun p c' W (hs' : W.ownsRow W1.heap.size 9 1 (.slice p n c') n ((hs l).map str)) => show Calls Tryz.prog 32 #[.slice p n c', .int .i64 ((m : Nat) : Int)] W (Own1 W.heap.size W (pathN nd (hs l) (m))) from MerJ.Path n p c' (hs l) (m) W hz (own_cap hs') (by omega) (by omega) (own_strs hs') (all32_at (hs_32 l)))
  have HC0 := Lib.hid (fun (W : World) (hl : Lies W a l) => at_ hl (i := m) (by omega))
  unfold Own1 at HH
  rw [hz] at HH
  clear h hp b1 r1 lr1 hl1 hz
  go_enter Tryz.func20, Tryz.ntmps20
  go_upto_region 1 with (fail)
  rw [← hW1]
  clear hW1
  go_wp2_with fail
  go_loopw [5] (fun kv wr => ∃ k : Nat, k ≤ n ∧ kv = .int .i64 k ∧ (∀ i, i < k → (l.getD i no).1 < b) ∧ wr = W1) (fun kv _ => n - (intOf kv).toNat)
  case atStart => exact ⟨0, Nat.zero_le _, rfl, (fun i hi => absurd hi (by omega)), rfl⟩
  case round =>
    obtain ⟨k, hk, rfl, hlo, rfl⟩ := hrel
    have HLo := Lib.hid hlo
    clear hlo
    by_cases hlt : k < n
    · obtain ⟨g, o, rfl, hg, hc⟩ := HL.out (by omega)
      obtain ⟨z0, _⟩ := hc k (by omega)
      have q0 : (0 : Int) ≤ (k : Int) := by omega
      have q1 : (k : Int) < (n : Int) := by omega
      by_cases hlb : (l.getD k no).1 < b
      · have HNx : Hid (∀ i, i < k + 1 → (l.getD i no).1 < b) := Lib.hid fun i hi => by
          by_cases e : i = k
          · rw [e]; exact hlb
          · exact HLo.out i (by omega)
        have hd : decide ((l.getD k no).1 < b) = true := decide_eq_true hlb
        clear hc hg HLo hq
        generalize (l.getD k no).1 = y at *
        go_wp2_with fail
        go_roundw
        case rel => exact ⟨k + 1, by omega, by go_num, HNx.out, by trivial⟩
        case measure => simp [intOf]; omega
      · obtain rfl := HPl.out k hk HLo.out (fun _ => by omega)
        have hd : decide ((l.getD k no).1 < b) = false := decide_eq_false hlb
        clear hc hg
        clear HPl HLo
        generalize l.getD k no = xh at *
        generalize pathN nd (hs l) k = U at *
        go_upto_region 5 with (refine wpList_store_row rfl 48 _ _ rfl wr.heap.size (Raw.cells ⟨false, (k : Int), no, no, none, 0, [], none, 0, []⟩) rfl rfl 48 _ (heap_alloc_new wr _) infoP rfl (oneP _) ?_)
        generalize hW : World.setRow _ _ _ = W4
        have ST := Lib.hid (PrgP.St.mk (w3 := wr) (x := ⟨false, (k : Int), no, no, none, 0, [], none, 0, []⟩) (W := W4) (by rw [← hW]; exact kept_new wr _ _ _) (by rw [← hW]; exact has_new wr _ _ _))
        clear hW
        obtain ⟨g', o', hge, c0, c1⟩ := HC0.out _ (HL.out.step ST.out.d)
        cases hge
        have k2 := blk_cell (i := 2) ST.out.p rfl
        have hf2 := blk_free (i := 2) ST.out.p
        have k3 := blk_cell (i := 3) ST.out.p rfl
        have hf3 := blk_free (i := 3) ST.out.p
        go_upto_region 7 with (fail)
        generalize hW : World.setCell (World.setCell _ _ _) _ _ = X0
        replace ST := Lib.hid (PrgP.St.mk (w3 := wr) (x := ⟨false, (k : Int), xh, no, none, 0, [], none, 0, []⟩) (W := X0) (by rw [← hW]; exact (ST.out.d.setCell (Nat.le_refl _) _).setCell (Nat.le_refl _) _) (by rw [← hW]; exact blk_set (blk_set ST.out.p)))
        clear hW k2 k3 hf2 hf3 c1
        go_upto_region 8 with (first | (go_at_call 17; refine (HH.out _ ST.out.d).mono ?_; rintro e Y ⟨pa, pc, rfl, ho, hb⟩; have HO := Lib.hid (own_base ho ST.out.d.size); replace ST := Lib.hid (ST.out.step hb); clear hb ho) | (go_at_call 32; refine (HP0.out _ _ _ HO.out).mono ?_; rintro e Y' ⟨a0, cc0, rfl, ho, hb⟩; have O0 := Lib.hid (own_base ho ST.out.lt); replace ST := Lib.hid (ST.out.step hb); have k6 := blk_cell (i := 6) ST.out.p rfl; have hf6 := blk_free (i := 6) ST.out.p; clear hb ho HO))
        generalize hW : World.setCell _ _ _ = Z0
        replace O0 := Lib.hid (show (Z0).ownsRow (wr.heap.size + 1) _ _ _ _ _ by rw [← hW]; exact own_set O0.out (Nat.lt_succ_self _) _)
        replace ST := Lib.hid (PrgP.St.mk (w3 := wr) (x := ⟨false, (k : Int), xh, no, a0, cc0, U, none, 0, []⟩) (W := Z0) (by rw [← hW]; exact ST.out.d.setCell (Nat.le_refl _) _) (by rw [← hW]; exact blk_set ST.out.p))
        clear hW HP0 k6 hf6
        obtain ⟨g'', o'', hge2, c0', _⟩ := HC0.out _ (HL.out.step ST.out.d)
        cases hge2
        have k0 := blk_cell (i := 0) ST.out.p rfl
        have hf0 := blk_free (i := 0) ST.out.p
        go_upto_region 9 with (fail)
        generalize hW : World.setCell _ _ _ = ZF
        replace O0 := Lib.hid (show (ZF).ownsRow (wr.heap.size + 1) _ _ _ _ _ by rw [← hW]; exact own_set O0.out (Nat.lt_succ_self _) _)
        replace ST := Lib.hid (PrgP.St.mk (w3 := wr) (x := ⟨false, (k : Int), xh, no, a0, cc0, U, none, 0, []⟩) (W := ZF) (by rw [← hW]; exact ST.out.d.setCell (Nat.le_refl _) _) (by rw [← hW]; exact blk_set ST.out.p))
        clear hW k0 hf0 c0'
        have k0 := blk_cell (i := 0) (u := .bool false) ST.out.p rfl
        have hp0 : ¬ (0 : Int) < (k : Int) := by have := h0.out; omega
        have hp1 : ¬ 0 < k := by have := h0.out; omega
        go_upto_region 12 with (fail)
        clear k0
        have RR := Lib.hid (HR.out _ ST.out.d)
        have fin := Lib.hid (B1.out.trans (ST.out.d.mono B1.out.size))
        have LL := Lib.hid HLR.out
        go_wp2_with (first
          | (refine wpList_load_row rfl 48 _ rfl wr.heap.size rfl 48 _ (0, 0) _ ST.out.p Tryz.underlying48 rfl infoP ?_)
          | (refine wpList_store_row rfl 48 _ _ rfl w.heap.size (Raw.cells ⟨false, (k : Int), xh, no, a0, cc0, U, none, 0, []⟩) rfl rfl 48 _ RR.out infoP rfl (oneP _) ?_))
        refine bodyPost_ret (v := .agg (Raw.cells ⟨false, (k : Int), xh, no, a0, cc0, U, none, 0, []⟩))
          (results_cell_row Tryz.results20 _ _ w.heap.size 48 _ (0, 0) _ rfl (setRow_same RR.out) Tryz.underlying48 rfl infoP) rfl
          ⟨⟨false, (k : Int), xh, no, a0, cc0, U, none, 0, []⟩, rfl, rfl, own_base (own_at O0.out fun k hk => setRow_far (by have := (O0.out.lt k hk).1; have := LL.out; omega)) (by have := LL.out; omega), World.ownsRow_nil _ _ _ _, below_setRow fin.out (Nat.le_refl _) _⟩
    · exact absurd (HPl.out k hk HLo.out (fun h => absurd h hlt)) (by omega)
set_option maxRecDepth 100000 in
set_option maxHeartbeats 4000000 in
theorem ahead_ (a : Option Addr) (n c : Nat) (l : List Lf) (b : Int) (m : Nat) (w : World) (h : Lvs w a n l) (hn : n ≤ 100000) (hp : plc l b = m) (hm : n ≤ m) (h0 : 0 < m) :
    Calls Tryz.prog 20 #[.slice a n c, .int .i64 b] w (ProveR w ⟨false, (m : Int), no, l.getD (m - 1) no, [], pathN nd (hs l) (m - 1)⟩) := by
  have hle : m ≤ n := by have := plc_le l b; rw [hp, h.1] at this; exact this
  obtain ⟨W1, hW1⟩ : ∃ W1, W1 = w.alloc (.cells #[.bool false, .int .i64 0, .int .i64 0, .string ⟨#[]⟩, .int .i64 0, .string ⟨#[]⟩, .slice none 0 0, .slice none 0 0] 48) := ⟨_, rfl⟩
  have b1 : Below w.heap.size w W1 := by rw [hW1]; exact below_new w _
  have r1 : W1.heap[w.heap.size]? = some (.cells zeroRaw.cells 48 (0, 0)) := by rw [hW1]; exact heap_alloc_new w _
  have lr1 : w.heap.size < W1.heap.size := (Array.getElem?_eq_some_iff.1 r1).1
  have hl1 := h.2.2.2.step b1
  have HPl : Hid (∀ k, k ≤ n → (∀ i, i < k → (l.getD i no).1 < b) → (k < n → b ≤ (l.getD k no).1) → k = m) := Lib.hid fun k h1 h2 h3 => by rw [← hp]; exact (plc_is (by rw [h.1]; exact h1) h2 (fun e => h3 (by rw [← h.1]; exact e))).symm
  have B1 := Lib.hid b1
  have HR := Lib.hid (fun W (hb : Below W1.heap.size W1 W) => (hb.block _ lr1).trans r1)
  have HLR := Lib.hid lr1
  have HL := Lib.hid hl1
  have hln := h.1
  have HH := Lib.hid (fun W (hb : Below W1.heap.size W1 W) => PrfH.Hashes a n c l W ⟨h.1, h.2.1, h.2.2.1, hl1.step hb⟩ hn)
  have hz : (hs l).length = n := by rw [hs_length]; exact h.1
  have HP1 := Lib.hid (fun p c' W (hs' : W.ownsRow W1.heap.size 9 1 (.slice p n c') n ((hs l).map str)) => show Calls Tryz.prog 32 #[.slice p n c', .int .i64 ((m - 1 : Nat) : Int)] W (Own1 W.heap.size W (pathN nd (hs l) (m - 1))) from MerJ.Path n p c' (hs l) (m - 1) W hz (own_cap hs') (by omega) (by omega) (own_strs hs') (all32_at (hs_32 l)))
  have HC1 := Lib.hid (fun (W : World) (hl : Lies W a l) => at_ hl (i := m - 1) (by omega))
  unfold Own1 at HH
  rw [hz] at HH
  clear h hp b1 r1 lr1 hl1 hz
  go_enter Tryz.func20, Tryz.ntmps20
  go_upto_region 1 with (fail)
  rw [← hW1]
  clear hW1
  go_wp2_with fail
  go_loopw [5] (fun kv wr => ∃ k : Nat, k ≤ n ∧ kv = .int .i64 k ∧ (∀ i, i < k → (l.getD i no).1 < b) ∧ wr = W1) (fun kv _ => n - (intOf kv).toNat)
  case atStart => exact ⟨0, Nat.zero_le _, rfl, (fun i hi => absurd hi (by omega)), rfl⟩
  case round =>
    obtain ⟨k, hk, rfl, hlo, rfl⟩ := hrel
    have HLo := Lib.hid hlo
    clear hlo
    by_cases hlt : k < n
    · obtain ⟨g, o, rfl, hg, hc⟩ := HL.out (by omega)
      obtain ⟨z0, _⟩ := hc k (by omega)
      have q0 : (0 : Int) ≤ (k : Int) := by omega
      have q1 : (k : Int) < (n : Int) := by omega
      by_cases hlb : (l.getD k no).1 < b
      · have HNx : Hid (∀ i, i < k + 1 → (l.getD i no).1 < b) := Lib.hid fun i hi => by
          by_cases e : i = k
          · rw [e]; exact hlb
          · exact HLo.out i (by omega)
        have hd : decide ((l.getD k no).1 < b) = true := decide_eq_true hlb
        clear hc hg HLo
        generalize (l.getD k no).1 = y at *
        go_wp2_with fail
        go_roundw
        case rel => exact ⟨k + 1, by omega, by go_num, HNx.out, by trivial⟩
        case measure => simp [intOf]; omega
      · obtain rfl := HPl.out k hk HLo.out (fun _ => by omega)
        exact absurd hlt (by omega)
    · obtain rfl := HPl.out k hk HLo.out (fun h => absurd h hlt)
      have e1 : ¬ (k : Int) < (n : Int) := by omega
      clear HPl HLo
      generalize l.getD (k - 1) no = xa at *
      generalize pathN nd (hs l) (k - 1) = V at *
      go_upto_region 5 with (refine wpList_store_row rfl 48 _ _ rfl wr.heap.size (Raw.cells ⟨false, (k : Int), no, no, none, 0, [], none, 0, []⟩) rfl rfl 48 _ (heap_alloc_new wr _) infoP rfl (oneP _) ?_)
      generalize hW : World.setRow _ _ _ = W4
      have ST := Lib.hid (PrgP.St.mk (w3 := wr) (x := ⟨false, (k : Int), no, no, none, 0, [], none, 0, []⟩) (W := W4) (by rw [← hW]; exact kept_new wr _ _ _) (by rw [← hW]; exact has_new wr _ _ _))
      clear hW
      have k0 := blk_cell (i := 0) (u := .bool false) ST.out.p rfl
      have hp0 : (0 : Int) < (k : Int) := by omega
      have hp1 : 0 < k := h0
      go_upto_region 10 with (fail)
      clear k0
      obtain ⟨g', o', hge, c0, c1⟩ := HC1.out _ (HL.out.step ST.out.d)
      subst hge
      obtain ⟨j, hj⟩ : ∃ j, k - 1 = j := ⟨_, rfl⟩
      rw [hj] at c0 c1 HP1
      have em : IntKind.i64.wrap ((k : Int) - 1) = (j : Int) := by rw [IntWalk.i64_in _ (by omega)]; omega
      have em2 : (k : Int) - 1 = (j : Int) := by omega
      have qa0 : (0 : Int) ≤ (j : Int) := by omega
      have qa1 : (j : Int) < (n : Int) := by omega
      have k4 := blk_cell (i := 4) ST.out.p rfl
      have hf4 := blk_free (i := 4) ST.out.p
      have k5 := blk_cell (i := 5) ST.out.p rfl
      have hf5 := blk_free (i := 5) ST.out.p
      go_upto_region 11 with (fail)
      generalize hW : World.setCell (World.setCell _ _ _) _ _ = X1
      replace ST := Lib.hid (PrgP.St.mk (w3 := wr) (x := ⟨false, (k : Int), no, xa, none, 0, [], none, 0, []⟩) (W := X1) (by rw [← hW]; exact (ST.out.d.setCell (Nat.le_refl _) _).setCell (Nat.le_refl _) _) (by rw [← hW]; exact blk_set (blk_set ST.out.p)))
      clear hW k4 k5 hf4 hf5 c0 c1
      go_upto_region 12 with (first | (go_at_call 17; refine (HH.out _ ST.out.d).mono ?_; rintro e Y ⟨pa, pc, rfl, ho, hb⟩; have HO := Lib.hid (own_base ho ST.out.d.size); replace ST := Lib.hid (ST.out.step hb); clear hb ho) | (go_at_call 32; refine (HP1.out _ _ _ HO.out).mono ?_; rintro e Y' ⟨a1, cc1, rfl, ho, hb⟩; have O1 := Lib.hid (own_base ho ST.out.lt); replace ST := Lib.hid (ST.out.step hb); have k7 := blk_cell (i := 7) ST.out.p rfl; have hf7 := blk_free (i := 7) ST.out.p; clear hb ho HO))
      generalize hW : World.setCell _ _ _ = Z1
      replace O1 := Lib.hid (show (Z1).ownsRow (wr.heap.size + 1) _ _ _ _ _ by rw [← hW]; exact own_set O1.out (Nat.lt_succ_self _) _)
      replace ST := Lib.hid (PrgP.St.mk (w3 := wr) (x := ⟨false, (k : Int), no, xa, none, 0, [], a1, cc1, V⟩) (W := Z1) (by rw [← hW]; exact ST.out.d.setCell (Nat.le_refl _) _) (by rw [← hW]; exact blk_set ST.out.p))
      clear hW HP1 k7 hf7
      have RR := Lib.hid (HR.out _ ST.out.d)
      have fin := Lib.hid (B1.out.trans (ST.out.d.mono B1.out.size))
      have LL := Lib.hid HLR.out
      go_wp2_with (first
        | (refine wpList_load_row rfl 48 _ rfl wr.heap.size rfl 48 _ (0, 0) _ ST.out.p Tryz.underlying48 rfl infoP ?_)
        | (refine wpList_store_row rfl 48 _ _ rfl w.heap.size (Raw.cells ⟨false, (k : Int), no, xa, none, 0, [], a1, cc1, V⟩) rfl rfl 48 _ RR.out infoP rfl (oneP _) ?_))
      refine bodyPost_ret (v := .agg (Raw.cells ⟨false, (k : Int), no, xa, none, 0, [], a1, cc1, V⟩))
        (results_cell_row Tryz.results20 _ _ w.heap.size 48 _ (0, 0) _ rfl (setRow_same RR.out) Tryz.underlying48 rfl infoP) rfl
        ⟨⟨false, (k : Int), no, xa, none, 0, [], a1, cc1, V⟩, rfl, rfl, World.ownsRow_nil _ _ _ _, own_base (own_at O1.out fun k hk => setRow_far (by have := (O1.out.lt k hk).1; have := LL.out; omega)) (by have := LL.out; omega), below_setRow fin.out (Nat.le_refl _) _⟩
set_option maxRecDepth 100000 in
set_option maxHeartbeats 4000000 in
theorem none_ (a : Option Addr) (n c : Nat) (l : List Lf) (b : Int) (m : Nat) (w : World) (h : Lvs w a n l) (hn : n ≤ 100000) (hp : plc l b = m) (hm : n ≤ m) (h0 : Hid (m = 0)) :
    Calls Tryz.prog 20 #[.slice a n c, .int .i64 b] w (ProveR w ⟨false, (m : Int), no, no, [], []⟩) := by
  have hle : m ≤ n := by have := plc_le l b; rw [hp, h.1] at this; exact this
  obtain ⟨W1, hW1⟩ : ∃ W1, W1 = w.alloc (.cells #[.bool false, .int .i64 0, .int .i64 0, .string ⟨#[]⟩, .int .i64 0, .string ⟨#[]⟩, .slice none 0 0, .slice none 0 0] 48) := ⟨_, rfl⟩
  have b1 : Below w.heap.size w W1 := by rw [hW1]; exact below_new w _
  have r1 : W1.heap[w.heap.size]? = some (.cells zeroRaw.cells 48 (0, 0)) := by rw [hW1]; exact heap_alloc_new w _
  have lr1 : w.heap.size < W1.heap.size := (Array.getElem?_eq_some_iff.1 r1).1
  have hl1 := h.2.2.2.step b1
  have HPl : Hid (∀ k, k ≤ n → (∀ i, i < k → (l.getD i no).1 < b) → (k < n → b ≤ (l.getD k no).1) → k = m) := Lib.hid fun k h1 h2 h3 => by rw [← hp]; exact (plc_is (by rw [h.1]; exact h1) h2 (fun e => h3 (by rw [← h.1]; exact e))).symm
  have B1 := Lib.hid b1
  have HR := Lib.hid (fun W (hb : Below W1.heap.size W1 W) => (hb.block _ lr1).trans r1)
  have HLR := Lib.hid lr1
  have HL := Lib.hid hl1
  have hln := h.1
  have HH := Lib.hid (fun W (hb : Below W1.heap.size W1 W) => PrfH.Hashes a n c l W ⟨h.1, h.2.1, h.2.2.1, hl1.step hb⟩ hn)
  have hz : (hs l).length = n := by rw [hs_length]; exact h.1
  unfold Own1 at HH
  rw [hz] at HH
  clear h hp b1 r1 lr1 hl1 hz
  go_enter Tryz.func20, Tryz.ntmps20
  go_upto_region 1 with (fail)
  rw [← hW1]
  clear hW1
  go_wp2_with fail
  go_loopw [5] (fun kv wr => ∃ k : Nat, k ≤ n ∧ kv = .int .i64 k ∧ (∀ i, i < k → (l.getD i no).1 < b) ∧ wr = W1) (fun kv _ => n - (intOf kv).toNat)
  case atStart => exact ⟨0, Nat.zero_le _, rfl, (fun i hi => absurd hi (by omega)), rfl⟩
  case round =>
    obtain ⟨k, hk, rfl, hlo, rfl⟩ := hrel
    have HLo := Lib.hid hlo
    clear hlo
    by_cases hlt : k < n
    · obtain ⟨g, o, rfl, hg, hc⟩ := HL.out (by omega)
      obtain ⟨z0, _⟩ := hc k (by omega)
      have q0 : (0 : Int) ≤ (k : Int) := by omega
      have q1 : (k : Int) < (n : Int) := by omega
      by_cases hlb : (l.getD k no).1 < b
      · have HNx : Hid (∀ i, i < k + 1 → (l.getD i no).1 < b) := Lib.hid fun i hi => by
          by_cases e : i = k
          · rw [e]; exact hlb
          · exact HLo.out i (by omega)
        have hd : decide ((l.getD k no).1 < b) = true := decide_eq_true hlb
        clear hc hg HLo
        generalize (l.getD k no).1 = y at *
        go_wp2_with fail
        go_roundw
        case rel => exact ⟨k + 1, by omega, by go_num, HNx.out, by trivial⟩
        case measure => simp [intOf]; omega
      · obtain rfl := HPl.out k hk HLo.out (fun _ => by omega)
        exact absurd hlt (by omega)
    · obtain rfl := HPl.out k hk HLo.out (fun h => absurd h hlt)
      have e1 : ¬ (k : Int) < (n : Int) := by omega
      clear HPl HLo
      go_upto_region 5 with (refine wpList_store_row rfl 48 _ _ rfl wr.heap.size (Raw.cells ⟨false, (k : Int), no, no, none, 0, [], none, 0, []⟩) rfl rfl 48 _ (heap_alloc_new wr _) infoP rfl (oneP _) ?_)
      generalize hW : World.setRow _ _ _ = W4
      have ST := Lib.hid (PrgP.St.mk (w3 := wr) (x := ⟨false, (k : Int), no, no, none, 0, [], none, 0, []⟩) (W := W4) (by rw [← hW]; exact kept_new wr _ _ _) (by rw [← hW]; exact has_new wr _ _ _))
      clear hW
      have k0 := blk_cell (i := 0) (u := .bool false) ST.out.p rfl
      have hp0 : ¬ (0 : Int) < (k : Int) := by have := h0.out; omega
      have hp1 : ¬ 0 < k := by have := h0.out; omega
      go_upto_region 12 with (fail)
      clear k0
      have RR := Lib.hid (HR.out _ ST.out.d)
      have fin := Lib.hid (B1.out.trans (ST.out.d.mono B1.out.size))
      have LL := Lib.hid HLR.out
      go_wp2_with (first
        | (refine wpList_load_row rfl 48 _ rfl wr.heap.size rfl 48 _ (0, 0) _ ST.out.p Tryz.underlying48 rfl infoP ?_)
        | (refine wpList_store_row rfl 48 _ _ rfl w.heap.size (Raw.cells ⟨false, (k : Int), no, no, none, 0, [], none, 0, []⟩) rfl rfl 48 _ RR.out infoP rfl (oneP _) ?_))
      refine bodyPost_ret (v := .agg (Raw.cells ⟨false, (k : Int), no, no, none, 0, [], none, 0, []⟩))
        (results_cell_row Tryz.results20 _ _ w.heap.size 48 _ (0, 0) _ rfl (setRow_same RR.out) Tryz.underlying48 rfl infoP) rfl
        ⟨⟨false, (k : Int), no, no, none, 0, [], none, 0, []⟩, rfl, rfl, World.ownsRow_nil _ _ _ _, World.ownsRow_nil _ _ _ _, below_setRow fin.out (Nat.le_refl _) _⟩
theorem Prove (a : Option Addr) (n c : Nat) (l : List Lf) (b : Int) (w : World) (h : Lvs w a n l) (hn : n ≤ 100000) :
    Calls Tryz.prog 20 #[.slice a n c, .int .i64 b] w (ProveR w (prove l b)) := by
  have hlen := h.1
  have hle := plc_le l b
  have hp : prove l b = ⟨hit l b, (plc l b : Int), if plc l b < l.length then l.getD (plc l b) no else no, if hit l b = false ∧ 0 < plc l b then l.getD (plc l b - 1) no else no,
      if plc l b < l.length then pathN nd (hs l) (plc l b) else [], if hit l b = false ∧ 0 < plc l b then pathN nd (hs l) (plc l b - 1) else []⟩ := rfl
  have hh : hit l b = decide (plc l b < l.length ∧ (l.getD (plc l b) no).1 = b) := rfl
  rw [hp]
  obtain ⟨m, hm⟩ : ∃ m, plc l b = m := ⟨_, rfl⟩
  obtain ⟨q, hq⟩ : ∃ q, hit l b = q := ⟨_, rfl⟩
  rw [hq] at hh
  rw [hm, hlen] at hh
  rw [hm, hq, hlen]
  rw [hm] at hle
  by_cases h1 : m < n
  · simp only [if_pos h1]
    have hqe : ((l.getD m no).1 == b) = q := by
      rw [hh, Bool.eq_iff_iff, beq_iff_eq, decide_eq_true_eq]
      exact ⟨fun e => ⟨h1, e⟩, fun e => e.2⟩
    cases q with
    | true =>
      simp only [Bool.true_eq_false, false_and, if_false]
      exact found_ a n c l b m w h hn hm h1 hqe
    | false =>
      by_cases h2 : 0 < m
      · simp only [if_pos h2, true_and]
        exact both a n c l b m w h hn hm h1 hqe h2
      · simp only [if_neg h2, true_and]
        exact here_ a n c l b m w h hn hm h1 hqe (Lib.hid (by omega))
  · simp only [if_neg h1]
    have hqf : q = false := by rw [hh]; exact decide_eq_false (fun e => h1 e.1)
    subst hqf
    by_cases h2 : 0 < m
    · simp only [if_pos h2, true_and]
      exact ahead_ a n c l b m w h hn hm (by omega) h2
    · simp only [if_neg h2, true_and]
      exact none_ a n c l b m w h hn hm (by omega) (Lib.hid (by omega))
end Go.Proofs.YtdkcebaehdkphaaGreatDoor.PrfP
