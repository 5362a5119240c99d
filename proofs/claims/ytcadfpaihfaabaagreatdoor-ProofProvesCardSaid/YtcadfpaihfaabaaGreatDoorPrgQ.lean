/- The program's package proof: prove, Prove: contracts. The condition: the rounds' numbers lie in the program's variable. -/
import Derived.Test.YtcadfpaihfaabaaGreatDoorPrgP
namespace Go.Proofs.YtcadfpaihfaabaaGreatDoor.PrgQ
open Go.RowKit STurn SSum
open PrfL PrfN PrfM PrfB PrgN PrgC PrgK PrgH PrgF PrgO PrgP MerQ MerM MerC MerA MerJ MerR
theorem hit_found (l : List Lf) (b : Int) : hit l b = (prove l b).found := rfl
/-- Where the place has a leaf nothing is said of the one ahead. -/
theorem prove_ok (a : Option Addr) (n c : Nat) (l : List Lf) (b : Int) (w : World) (h : Lvs w a n l) (hn : n ≤ 100000) (hr : Rds w) (hok : right l = true) (hb : 0 ≤ b ∧ b ≤ 4095) :
    Calls Tryz.prog 25 #[.agg tc, .slice a n c, .int .i64 b] w (ProveOk w (prove l b)) := by
  have hlen := h.1
  have hle := plc_le l b
  have hp : prove l b = ⟨hit l b, (plc l b : Int), if plc l b < l.length then l.getD (plc l b) no else no, if hit l b = false ∧ 0 < plc l b then l.getD (plc l b - 1) no else no,
      if plc l b < l.length then pathN nd (hs l) (plc l b) else [], if hit l b = false ∧ 0 < plc l b then pathN nd (hs l) (plc l b - 1) else []⟩ := rfl
  rw [hp]
  obtain ⟨m, hm⟩ : ∃ m, plc l b = m := ⟨_, rfl⟩
  obtain ⟨q, hq⟩ : ∃ q, hit l b = q := ⟨_, rfl⟩
  rw [hm, hq, hlen]
  rw [hm] at hle
  by_cases h1 : m < n
  · simp only [if_pos h1]
    by_cases h2 : q = false ∧ 0 < m
    · simp only [if_pos h2]
      exact both a n c l b m q w h hn hr hok hb hm hq h1 h2.2 (Lib.hid h2.1)
    · simp only [if_neg h2]
      exact here_ a n c l b m q w h hn hr hok hb hm hq h1 (Lib.hid (by
        cases q with
        | true => exact .inl rfl
        | false =>
          have : ¬ 0 < m := fun e => h2 ⟨rfl, e⟩
          exact .inr (by omega)))
  · simp only [if_neg h1]
    have hqf : q = false := by rw [← hq]; exact decide_eq_false (fun e => h1 (by rw [hm, hlen] at e; exact e.1))
    by_cases h2 : q = false ∧ 0 < m
    · simp only [if_pos h2]
      exact ahead_ a n c l b m q w h hn hr hok hb hm hq (by omega) h2.2 (Lib.hid hqf)
    · simp only [if_neg h2]
      exact none_ a n c l b m q w h hn hr hok hb hm hq (by omega) (Lib.hid (by
        have : ¬ 0 < m := fun e => h2 ⟨hqf, e⟩
        exact .inr (by omega)))
set_option maxRecDepth 100000 in
set_option maxHeartbeats 1000000 in
theorem prove_no (a : Option Addr) (n c : Nat) (l : List Lf) (b : Int) (w : World) (h : Lvs w a n l) (hn : n ≤ 100000) (hr : Rds w) (hno : right l = false ∨ ¬ (0 ≤ b ∧ b ≤ 4095)) :
    Calls Tryz.prog 25 #[.agg tc, .slice a n c, .int .i64 b] w fun e w' => e = .returned (.tuple #[.agg zeroRaw.cells, .int .i64 2]) ∧ Below w.heap.size w w' := by
  obtain ⟨W1, hW1⟩ : ∃ W1, W1 = (w.alloc (.cells tc 59)).alloc (.cells #[.bool false, .int .i64 0, .int .i64 0, .string ⟨#[]⟩, .int .i64 0, .string ⟨#[]⟩, .slice none 0 0, .slice none 0 0] 29) := ⟨_, rfl⟩
  have b1 : Below w.heap.size w W1 := by rw [hW1]; exact (below_new w _).alloc (by simp) _
  have t1 : W1.heap[w.heap.size]? = some (.cells tc 59 (0, 0)) := by rw [hW1]; exact heap_alloc2_old w _ _
  have r1 : W1.heap[w.heap.size + 1]? = some (.cells zeroRaw.cells 29 (0, 0)) := by rw [hW1]; exact heap_alloc2_new w _ _
  have lr1 : w.heap.size + 1 < W1.heap.size := (Array.getElem?_eq_some_iff.1 r1).1
  have h1 : Lvs W1 a n l := ⟨h.1, h.2.1, h.2.2.1, h.2.2.2.step b1⟩
  have B1 := Lib.hid b1
  have T1 := Lib.hid t1
  have HR := Lib.hid (fun W (hb : Below W1.heap.size W1 W) => (hb.block _ lr1).trans r1)
  cases hok : right l with
  | false =>
    have HH := Lib.hid (hashes_no a n c l W1 h1 hok)
    clear h h1 hr hok hno t1 b1 r1 lr1
    go_enter Tryz.func25, Tryz.ntmps25
    go_upto_region 1 with (fail)
    rw [← hW1]
    clear hW1
    go_wp2_with (first
      | (refine wpList_load_row rfl 59 _ rfl w.heap.size rfl 59 _ (0, 0) _ T1.out Tryz.underlying59 rfl infoT ?_)
      | (go_at_call 46; refine HH.out.mono ?_; rintro e w2 ⟨rfl, hb⟩; have B2 := Lib.hid hb; clear hb HH)
      | (refine wpList_store_row rfl 29 _ _ rfl (w.heap.size + 1) zeroRaw.cells rfl rfl 29 _ (HR.out _ B2.out) infoP rfl (oneP _) ?_))
    refine bodyPost_ret (v := .tuple #[.agg zeroRaw.cells, .int .i64 2])
      (results_cell_tmp_row Tryz.results25 _ _ (w.heap.size + 1) 29 _ (0, 0) _ rfl (setRow_same (HR.out _ B2.out)) Tryz.underlying29 rfl infoP) rfl
      ⟨rfl, below_setRow (B1.out.trans (B2.out.mono B1.out.size)) (Nat.le_succ _) _⟩
  | true =>
    have hb := hno.resolve_left (by rw [hok]; simp)
    have HH := Lib.hid (hashes_yes a n c l W1 h1 hn (hr.step b1) hok)
    have HW := Lib.hid (fun W => within b 4095 W)
    rw [in_no hb] at HW
    clear h h1 hr hok hno t1 b1 r1 lr1 hb
    go_enter Tryz.func25, Tryz.ntmps25
    go_upto_region 1 with (fail)
    rw [← hW1]
    clear hW1
    go_wp2_with (first
      | (refine wpList_load_row rfl 59 _ rfl w.heap.size rfl 59 _ (0, 0) _ T1.out Tryz.underlying59 rfl infoT ?_)
      | (go_at_call 46; refine HH.out.mono ?_; rintro e w2 ⟨p, c', rfl, _, hb⟩; have B2 := Lib.hid hb; clear hb HH)
      | (go_at_call 26; refine (HW.out _).mono ?_; rintro e _ ⟨rfl, rfl⟩)
      | (refine wpList_store_row rfl 29 _ _ rfl (w.heap.size + 1) zeroRaw.cells rfl rfl 29 _ (HR.out _ B2.out) infoP rfl (oneP _) ?_))
    refine bodyPost_ret (v := .tuple #[.agg zeroRaw.cells, .int .i64 2])
      (results_cell_tmp_row Tryz.results25 _ _ (w.heap.size + 1) 29 _ (0, 0) _ rfl (setRow_same (HR.out _ B2.out)) Tryz.underlying29 rfl infoP) rfl
      ⟨rfl, below_setRow (B1.out.trans (B2.out.mono B1.out.size)) (Nat.le_succ _) _⟩
/-- May it be proved? -/
def canB (l : List Lf) (b : Int) : Bool := right l && inB b 4095
theorem can_in {l : List Lf} {b : Int} (h : canB l b = true) : right l = true ∧ 0 ≤ b ∧ b ≤ 4095 := by
  unfold canB inB at h
  rw [Bool.and_eq_true, Bool.and_eq_true, decide_eq_true_eq, decide_eq_true_eq] at h
  exact ⟨h.1, h.2⟩
theorem can_no {l : List Lf} {b : Int} (h : canB l b = false) : right l = false ∨ ¬ (0 ≤ b ∧ b ≤ 4095) := by
  cases hr : right l with
  | false => exact .inl rfl
  | true => exact .inr fun hb => by unfold canB at h; rw [hr, in_yes hb] at h; simp at h
theorem Prove_ok (a : Option Addr) (n c : Nat) (l : List Lf) (b : Int) (w : World) (h : Lvs w a n l) (hn : n ≤ 100000) (hr : Rds w) (hc : canB l b = true) :
    Calls Tryz.prog 9 #[.slice a n c, .int .i64 b] w (ProveOk w (prove l b)) := by
  obtain ⟨W1, hW1⟩ : ∃ W1, W1 = w.alloc (.cells #[.bool false, .int .i64 0, .int .i64 0, .string ⟨#[]⟩, .int .i64 0, .string ⟨#[]⟩, .slice none 0 0, .slice none 0 0] 29) := ⟨_, rfl⟩
  have b1 : Below w.heap.size w W1 := by rw [hW1]; exact below_new w _
  have r1 : W1.heap[w.heap.size]? = some (.cells zeroRaw.cells 29 (0, 0)) := by rw [hW1]; exact heap_alloc_new w _
  have lr1 : w.heap.size < W1.heap.size := (Array.getElem?_eq_some_iff.1 r1).1
  have B1 := Lib.hid b1
  have HR := Lib.hid (fun W (hb : Below W1.heap.size W1 W) => (hb.block _ lr1).trans r1)
  have HM := Lib.hid (merkles W1)
  have HP := Lib.hid (fun W (hb : Below W1.heap.size W1 W) => prove_ok a n c l b W ⟨h.1, h.2.1, h.2.2.1, (h.2.2.2.step b1).step hb⟩ hn ((hr.step b1).step hb) (can_in hc).1 (can_in hc).2)
  have HLR := Lib.hid lr1
  clear h hr hc b1 r1 lr1
  generalize prove l b = pr at *
  generalize tc = cs at *
  go_enter Tryz.func9, Tryz.ntmps9
  go_upto_region 1 with (fail)
  rw [← hW1]
  clear hW1
  go_wp2_with (first
    | (go_at_call 23; refine HM.out.mono ?_; rintro e w2 ⟨rfl, hb⟩; have B2 := Lib.hid hb; clear hb HM)
    | (go_at_call 25; refine (HP.out _ B2.out).mono ?_; rintro e w3 ⟨x, rfl, hx, hs1, hs2, hb⟩; have S1 := Lib.hid hs1; have S2 := Lib.hid hs2; have HX := Lib.hid hx; have B3 := Lib.hid (B2.out.trans (hb.mono B2.out.size)); clear hs1 hs2 hx hb HP)
    | (refine wpList_store_row rfl 29 _ _ rfl w.heap.size x.cells rfl rfl 29 _ (HR.out _ B3.out) infoP rfl (oneP _) ?_))
  have H2 := Lib.hid (show w.heap.size < w2.heap.size from Nat.lt_of_lt_of_le HLR.out B2.out.size)
  have R3 := Lib.hid (HR.out _ B3.out)
  refine bodyPost_ret (v := .tuple #[.agg x.cells, .int .i64 0])
    (results_cell_tmp_row Tryz.results9 _ _ w.heap.size 29 _ (0, 0) _ rfl (setRow_same R3.out) Tryz.underlying29 rfl infoP) rfl
    ⟨x, rfl, HX.out, own_base (own_at S1.out fun k hk => setRow_far (by have := (S1.out.lt k hk).1; have := H2.out; omega)) (Nat.le_of_lt H2.out), own_base (own_at S2.out fun k hk => setRow_far (by have := (S2.out.lt k hk).1; have := H2.out; omega)) (Nat.le_of_lt H2.out), below_setRow (B1.out.trans (B3.out.mono B1.out.size)) (Nat.le_refl _) _⟩
theorem Prove_no (a : Option Addr) (n c : Nat) (l : List Lf) (b : Int) (w : World) (h : Lvs w a n l) (hn : n ≤ 100000) (hr : Rds w) (hc : canB l b = false) :
    Calls Tryz.prog 9 #[.slice a n c, .int .i64 b] w fun e w' => e = .returned (.tuple #[.agg zeroRaw.cells, .int .i64 2]) ∧ Below w.heap.size w w' := by
  obtain ⟨W1, hW1⟩ : ∃ W1, W1 = w.alloc (.cells #[.bool false, .int .i64 0, .int .i64 0, .string ⟨#[]⟩, .int .i64 0, .string ⟨#[]⟩, .slice none 0 0, .slice none 0 0] 29) := ⟨_, rfl⟩
  have b1 : Below w.heap.size w W1 := by rw [hW1]; exact below_new w _
  have r1 : W1.heap[w.heap.size]? = some (.cells zeroRaw.cells 29 (0, 0)) := by rw [hW1]; exact heap_alloc_new w _
  have lr1 : w.heap.size < W1.heap.size := (Array.getElem?_eq_some_iff.1 r1).1
  have B1 := Lib.hid b1
  have HR := Lib.hid (fun W (hb : Below W1.heap.size W1 W) => (hb.block _ lr1).trans r1)
  have HM := Lib.hid (merkles W1)
  have HP := Lib.hid (fun W (hb : Below W1.heap.size W1 W) => prove_no a n c l b W ⟨h.1, h.2.1, h.2.2.1, (h.2.2.2.step b1).step hb⟩ hn ((hr.step b1).step hb) (can_no hc))
  clear h hr hc b1 r1 lr1
  generalize tc = cs at *
  go_enter Tryz.func9, Tryz.ntmps9
  go_upto_region 1 with (fail)
  rw [← hW1]
  clear hW1
  go_wp2_with (first
    | (go_at_call 23; refine HM.out.mono ?_; rintro e w2 ⟨rfl, hb⟩; have B2 := Lib.hid hb; clear hb HM)
    | (go_at_call 25; refine (HP.out _ B2.out).mono ?_; rintro e w3 ⟨rfl, hb⟩; have B3 := Lib.hid (B2.out.trans (hb.mono B2.out.size)); clear hb HP)
    | (refine wpList_store_row rfl 29 _ _ rfl w.heap.size zeroRaw.cells rfl rfl 29 _ (HR.out _ B3.out) infoP rfl (oneP _) ?_))
  refine bodyPost_ret (v := .tuple #[.agg zeroRaw.cells, .int .i64 2])
    (results_cell_tmp_row Tryz.results9 _ _ w.heap.size 29 _ (0, 0) _ rfl (setRow_same (HR.out _ B3.out)) Tryz.underlying29 rfl infoP) rfl
    ⟨rfl, below_setRow (B1.out.trans (B3.out.mono B1.out.size)) (Nat.le_refl _) _⟩
end Go.Proofs.YtcadfpaihfaabaaGreatDoor.PrgQ
