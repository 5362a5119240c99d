/- PrgC PrgK: one behind the other. -/
import Derived.Test.YtdkcebaehdkphaaGreatDoorLPrfN
import Derived.Test.YtdkcebaehdkphaaGreatDoorLPrfA
import Derived.Deep.QuietTactic
import Derived.BigQuiet
import Derived.Test.YtdkcebaehdkphaaGreatDoorOPut
import Derived.Deep.DeepCutAuto
import Derived.Outline
/- The program's package proof: its small calls; a proof, a leaf, the trees' functions in memory. No conditions but those that each lemma names. -/
namespace Go.Proofs.YtdkcebaehdkphaaGreatDoor.PrgC
open Go.RowKit
open PrfL PrfN PrfM PrfB PrgN MerQ
/-- The functions by which trees are made. -/
abbrev fv (k : Nat) : Value := .func (.func k) #[] #[]
def tc : Array Value := #[fv 51, fv 52, fv 53, fv 54, fv 55]
/-- A proof in memory as one that is thought of. -/
def pf (x : Raw) : Pf := ⟨x.f, x.at_, x.here, x.ahead, x.up, x.left⟩
def IsInt (n : Int) : Prop := -9223372036854775808 ≤ n ∧ n ≤ 9223372036854775807
def inB (n m : Int) : Bool := decide (0 ≤ n) && decide (n ≤ m)
theorem within (n m : Int) (w : World) : Calls Tryz.prog 56 #[.int .i64 n, .int .i64 m] w fun e w' => e = .returned (.bool (inB n m)) ∧ w = w' := by
  unfold inB
  by_cases h0 : 0 ≤ n
  · by_cases h1 : n ≤ m
    · rw [decide_eq_true h0, decide_eq_true h1]
      go_enter Tryz.func56, Tryz.ntmps56
      go_wp2
      go_ret
      exact ⟨rfl, rfl⟩
    · have h1' : m < n := by omega
      rw [decide_eq_true h0, decide_eq_false h1]
      go_enter Tryz.func56, Tryz.ntmps56
      go_wp2
      go_ret
      exact ⟨rfl, rfl⟩
  · have h0' : n < 0 := by omega
    rw [decide_eq_false h0]
    go_enter Tryz.func56, Tryz.ntmps56
    go_wp2
    go_ret
    exact ⟨rfl, rfl⟩
theorem infoT : (Tryz.prog.info? 81).map (·.size) = some 5 := by kernel_rfl
theorem infoP : (Tryz.prog.info? 48).map (·.size) = some 8 := by kernel_rfl
theorem oneT : tc.all (·.oneCell') = true := by simp [tc, fv, Value.oneCell']
theorem oneP (x : Raw) : x.cells.all (·.oneCell') = true := by simp [Raw.cells, Value.oneCell']
theorem kept_new (w : World) (old cs : Array Value) (t : TypeId) : Below w.heap.size w ((w.alloc (.cells old t)).setRow w.heap.size cs) := below_setRow (below_new w _) (Nat.le_refl _) _
theorem has_new (w : World) (old cs : Array Value) (t : TypeId) : ((w.alloc (.cells old t)).setRow w.heap.size cs).heap[w.heap.size]? = some (.cells cs t (0, 0)) := setRow_same (heap_alloc_new w _)
/-- Results of which the first is a struct in a cell. -/
theorem results_cell_tmp_row {P : Program} {fn : Func} {p u : Tmp} {ty : TypeId} (h : fn.results = #[.cell p ty, .tmp u]) (tmps : Array Value) (w : World) (g : Nat) (t : TypeId) (cs : Array Value) (fr : Nat × Nat) (d : TypeDesc)
    (hp : tmps.getD p undef = .pointer (some ⟨g, 0, none⟩)) (hg : w.heap[g]? = some (.cells cs t fr))
    (hu : P.underlying ty = some d) (hd : (match d with | .struct _ | .array _ _ => true | _ => false) = true) (hi : (P.info? ty).map (·.size) = some cs.size) :
    (results fn tmps).run P w = .ok (.tuple #[.agg cs, tmps.getD u undef]) w := by
  rw [results_cell_tmp h, hp]
  simp [asAddr, run_loadVar_row w g t ty cs fr d hg hu hd hi]
theorem merkles (w : World) : Calls Tryz.prog 35 #[] w fun e w' => e = .returned (.agg tc) ∧ Below w.heap.size w w' := by
  go_enter Tryz.func35, Tryz.ntmps35
  go_wp2_with (refine wpList_store_row rfl 81 _ _ rfl w.heap.size tc rfl rfl 81 _ (heap_alloc_new w _) infoT rfl oneT ?_)
  refine bodyPost_ret (v := .agg tc)
    (results_cell_row Tryz.results35 _ _ w.heap.size 81 _ (0, 0) _ rfl (has_new w _ _ _) Tryz.underlying81 rfl infoT) rfl
    ⟨rfl, kept_new w _ _ _⟩
/-- A proof in a box of its own. -/
def BoxP (B : Nat) (x : Raw) (W : World) : Prop := W.heap[B]? = some (.cells x.cells 48 (0, 0))
theorem boxp_new (w : World) (x : Raw) : BoxP w.heap.size x (w.alloc (.cells x.cells 48)) := heap_alloc_new w _
theorem BoxP.lt {B : Nat} {x : Raw} {W : World} (h : BoxP B x W) : B < W.heap.size := (Array.getElem?_eq_some_iff.1 h).1
theorem BoxP.step {B : Nat} {x : Raw} {W W' : World} (h : BoxP B x W) (hb : Below W.heap.size W W') : BoxP B x W' := (hb.block B h.lt).trans h
theorem BoxP.cells {B : Nat} {x : Raw} {W : World} (h : BoxP B x W) : W.cell? ⟨B, 0, none⟩ = some (.bool x.f) ∧ W.cell? ⟨B, 1, none⟩ = some (.int .i64 x.at_) ∧ W.cell? ⟨B, 2, none⟩ = some (.int .i64 x.here.1) ∧ W.cell? ⟨B, 3, none⟩ = some (st x.here.2) ∧ W.cell? ⟨B, 4, none⟩ = some (.int .i64 x.ahead.1) ∧ W.cell? ⟨B, 5, none⟩ = some (st x.ahead.2) ∧
    W.cell? ⟨B, 6, none⟩ = some (.slice x.ua x.up.length x.uc) ∧ W.cell? ⟨B, 7, none⟩ = some (.slice x.la x.left.length x.lc) :=
  ⟨blk_cell h rfl, blk_cell h rfl, blk_cell h rfl, blk_cell h rfl, blk_cell h rfl, blk_cell h rfl, blk_cell h rfl, blk_cell h rfl⟩
theorem namesHere (n : Int) (x : Raw) (w : World) : Calls Tryz.prog 66 #[.int .i64 n, .agg x.cells] w fun e w' => e = .returned (.bool (hereP n (pf x))) ∧ Below w.heap.size w w' := by
  have HB := Lib.hid (below_new w (.cells x.cells 48))
  have HX := Lib.hid (boxp_new w x)
  have hq : hereP n (pf x) = decide (x.at_ < n) := rfl
  rw [hq]
  generalize x.cells = cs at *
  go_enter Tryz.func66, Tryz.ntmps66
  go_upto_region 1 with (fail)
  generalize World.alloc w _ = W1 at *
  have c1 := HX.out.cells.2.1
  go_wp2
  go_ret
  exact ⟨rfl, HB.out⟩
theorem namesAhead (x : Raw) (w : World) : Calls Tryz.prog 67 #[.agg x.cells] w fun e w' => e = .returned (.bool (aheadP (pf x))) ∧ Below w.heap.size w w' := by
  have HB := Lib.hid (below_new w (.cells x.cells 48))
  have HX := Lib.hid (boxp_new w x)
  have hq : aheadP (pf x) = (!x.f && decide (0 < x.at_)) := rfl
  rw [hq]
  generalize x.cells = cs at *
  cases hf : x.f
  · go_enter Tryz.func67, Tryz.ntmps67
    go_upto_region 1 with (fail)
    generalize World.alloc w _ = W1 at *
    have c0 := HX.out.cells.1
    have c1 := HX.out.cells.2.1
    rw [hf] at c0
    go_wp2
    go_ret
    exact ⟨rfl, HB.out⟩
  · go_enter Tryz.func67, Tryz.ntmps67
    go_upto_region 1 with (fail)
    generalize World.alloc w _ = W1 at *
    have c0 := HX.out.cells.1
    rw [hf] at c0
    go_wp2
    go_ret
    exact ⟨rfl, HB.out⟩
theorem told (x : Raw) (w : World) : Calls Tryz.prog 58 #[.agg x.cells] w fun e w' => e = .returned (st (toldP (pf x))) ∧ Below w.heap.size w w' := by
  have HB := Lib.hid (below_new w (.cells x.cells 48))
  have HX := Lib.hid (boxp_new w x)
  have hq : toldP (pf x) = if x.f = true then x.here.2 else [] := rfl
  rw [hq]
  generalize x.cells = cs at *
  cases hf : x.f
  · go_enter Tryz.func58, Tryz.ntmps58
    go_upto_region 1 with (fail)
    generalize World.alloc w _ = W1 at *
    have c0 := HX.out.cells.1
    rw [hf] at c0
    go_wp2
    go_ret
    exact ⟨rfl, HB.out⟩
  · go_enter Tryz.func58, Tryz.ntmps58
    go_upto_region 1 with (fail)
    generalize World.alloc w _ = W1 at *
    have c0 := HX.out.cells.1
    have c3 := HX.out.cells.2.2.2.1
    rw [hf] at c0
    go_wp2
    go_ret
    exact ⟨rfl, HB.out⟩
/-- What Compare answers of two ints. -/
theorem isNaN (x : Int) (w : World) : Calls Tryz.prog 86 #[.int .i64 x] w fun e w' => e = .returned (.bool false) ∧ w = w' := by
  go_enter Tryz.func86, Tryz.ntmps86
  go_wp2
  go_ret
  exact ⟨rfl, rfl⟩
theorem Compare (x y : Int) (w : World) : Calls Tryz.prog 65 #[.int .i64 x, .int .i64 y] w fun e w' => e = .returned (.int .i64 (cmpZ x y)) ∧ w = w' := by
  have HN := Lib.hid isNaN
  have HC := Lib.hid (show cmpZ x y = if x < y then -1 else if y < x then 1 else 0 from rfl)
  generalize cmpZ x y = c at *
  by_cases h1 : x < y
  · rw [if_pos h1] at HC
    go_enter Tryz.func65, Tryz.ntmps65
    go_wp2_with (go_at_call 86; refine (HN.out _ _).mono ?_; rintro e _ ⟨rfl, rfl⟩)
    go_ret
    exact ⟨by rw [HC.out] <;> rfl, rfl⟩
  · rw [if_neg h1] at HC
    by_cases h2 : y < x
    · rw [if_pos h2] at HC
      go_enter Tryz.func65, Tryz.ntmps65
      go_wp2_with (go_at_call 86; refine (HN.out _ _).mono ?_; rintro e _ ⟨rfl, rfl⟩)
      go_ret
      exact ⟨by rw [HC.out] <;> rfl, rfl⟩
    · rw [if_neg h2] at HC
      go_enter Tryz.func65, Tryz.ntmps65
      go_wp2_with (go_at_call 86; refine (HN.out _ _).mono ?_; rintro e _ ⟨rfl, rfl⟩)
      go_ret
      exact ⟨by rw [HC.out] <;> rfl, rfl⟩
/-- The closure of a search: how a leaf's place stands to another one. -/
theorem sought (x : Lf) (b : Int) (w : World) : Calls Tryz.prog 64 #[.agg #[.int .i64 x.1, st x.2], .int .i64 b] w fun e w' => e = .returned (.int .i64 (cmpZ x.1 b)) ∧ Below w.heap.size w w' := by
  have HB := Lib.hid (below_new w (.cells #[.int .i64 x.1, st x.2] 45))
  have c0 : (w.alloc (.cells #[.int .i64 x.1, st x.2] 45)).cell? ⟨w.heap.size, 0, none⟩ = some (.int .i64 x.1) := blk_cell (heap_alloc_new w _) rfl
  have HC := Lib.hid (fun W => Compare x.1 b W)
  generalize cmpZ x.1 b = c at *
  obtain ⟨a, s⟩ := x
  dsimp only at HB c0 HC ⊢
  go_enter Tryz.func64, Tryz.ntmps64
  go_upto_region 1 with (fail)
  generalize World.alloc w _ = W1 at *
  go_wp2_with (go_at_call 65; refine (HC.out _).mono ?_; rintro e _ ⟨rfl, rfl⟩)
  go_ret
  exact ⟨rfl, HB.out⟩
end Go.Proofs.YtdkcebaehdkphaaGreatDoor.PrgC
/- The program's package proof: Said, Check: the walks of their texts. No conditions but those that each lemma names. -/
namespace Go.Proofs.YtdkcebaehdkphaaGreatDoor.PrgK
open Go.RowKit
open PrfL PrfN PrfM PrfB PrgN PrgC MerQ
theorem dt {p : Prop} [Decidable p] (h : p) : decide p = true := decide_eq_true h
theorem df {p : Prop} [Decidable p] (h : ¬ p) : decide p = false := decide_eq_false h
theorem in_yes {n m : Int} (h : 0 ≤ n ∧ n ≤ m) : inB n m = true := by unfold inB; rw [dt h.1, dt h.2]; rfl
theorem in_no {n m : Int} (h : ¬ (0 ≤ n ∧ n ≤ m)) : inB n m = false := by
  unfold inB
  by_cases h0 : 0 ≤ n
  · rw [dt h0, df (fun h1 => h ⟨h0, h1⟩)]; rfl
  · rw [df h0]; rfl
set_option maxRecDepth 100000 in
theorem Said (x : Lf) (w : World) (hf : Fit x) : Calls Tryz.prog 85 #[.agg #[.int .i64 x.1, st x.2]] w fun e w' => e = .returned (st (said x)) ∧ Below w.heap.size w w' := by
  have HX := Lib.hid (box_new w x)
  have HB := Lib.hid (PrfB.below_new w (.cells #[.int .i64 x.1, st x.2] 45))
  have HW := Lib.hid (fun W => within x.1 4095 W)
  unfold Fit maxLen at hf
  by_cases h0 : 0 ≤ x.1 ∧ x.1 ≤ 4095
  · rw [in_yes h0] at HW
    by_cases h1 : x.2.length = 32
    · have hok : okL x = true := by unfold okL; rw [dt h0, dt h1]; rfl
      have HS := Lib.hid (said_yes hok)
      have HP := Lib.hid (fun W => OPut.any x.1 4 W)
      rw [put4 h0] at HP
      obtain ⟨n, s⟩ := x
      dsimp only at HX HB HP HS HW h0 h1 ⊢
      have hl : (be 4 n.toNat).length = 4 := be_length _ _
      generalize be 4 n.toNat = b at *
      rw [HS.out]
      have q2 : ((s.length : Int) == 32) = true := by rw [h1]; rfl
      clear hok HS hf h0
      go_enter Tryz.func85, Tryz.ntmps85
      go_upto_region 1 with (fail)
      generalize World.alloc w _ = W1 at *
      obtain ⟨k0, k1⟩ := HX.out
      clear HX
      dsimp only at k0 k1
      go_wp2_with (first
        | (go_at_call 56; refine (HW.out _).mono ?_; rintro e _ ⟨rfl, rfl⟩)
        | (go_at_call 47; refine (HP.out _).mono ?_; rintro e w' ⟨rfl, hb⟩; have k1' := (hb.cell (p := ⟨w.heap.size, 1, none⟩) (World.block_lt_of_cell? _ _ k1)).trans k1; have HB2 := Lib.hid (HB.out.trans (hb.mono HB.out.size)); clear hb))
      go_ret
      exact ⟨by simp [ByteArray.mk_append_mk], HB2.out⟩
    · have hok : okL x = false := by unfold okL; rw [df h1, Bool.and_false]
      have HS := Lib.hid (said_no hok)
      obtain ⟨n, s⟩ := x
      dsimp only at HX HB HS HW h0 h1 ⊢
      rw [HS.out]
      have q2 : ((s.length : Int) == 32) = false := by rw [beq_eq_false_iff_ne]; omega
      clear hok HS h0 h1
      go_enter Tryz.func85, Tryz.ntmps85
      go_upto_region 1 with (fail)
      generalize World.alloc w _ = W1 at *
      obtain ⟨k0, k1⟩ := HX.out
      clear HX
      dsimp only at k0 k1
      go_wp2_with (go_at_call 56; refine (HW.out _).mono ?_; rintro e _ ⟨rfl, rfl⟩)
      go_ret
      exact ⟨rfl, HB.out⟩
  · have hok : okL x = false := by unfold okL; rw [df h0, Bool.false_and]
    have HS := Lib.hid (said_no hok)
    rw [in_no h0] at HW
    obtain ⟨n, s⟩ := x
    dsimp only at HX HB HS HW h0 ⊢
    rw [HS.out]
    clear hok HS h0
    go_enter Tryz.func85, Tryz.ntmps85
    go_upto_region 1 with (fail)
    generalize World.alloc w _ = W1 at *
    obtain ⟨k0, k1⟩ := HX.out
    clear HX
    dsimp only at k0 k1
    go_wp2_with (go_at_call 56; refine (HW.out _).mono ?_; rintro e _ ⟨rfl, rfl⟩)
    go_ret
    exact ⟨rfl, HB.out⟩
/-- The least place that the next leaf may have. -/
def nxt (l : List Lf) (k : Nat) : Int := if k = 0 then 0 else (l.getD (k - 1) no).1 + 1
theorem infoL : (Tryz.prog.info? 45).map (·.size) = some 2 := by kernel_rfl
theorem two (a : Int) (s : L) : (#[.int .i64 a, st s] : Array Value).all (·.oneCell') = true := by simp [Value.oneCell']
set_option maxRecDepth 100000 in
set_option maxHeartbeats 1000000 in
theorem Check (a : Option Addr) (n c : Nat) (l : List Lf) (w : World) (h : Lvs w a n l) : Calls Tryz.prog 84 #[.slice a n c] w fun e w' => e = .returned (.int .i64 (if right l = true then 0 else 2)) ∧ Below w.heap.size w w' := by
  obtain ⟨hln, hn, hfit, hl⟩ := h
  unfold maxLen at hn
  obtain ⟨r, hr⟩ : ∃ r : Int, (if right l = true then (0 : Int) else 2) = r := ⟨_, rfl⟩
  rw [hr]
  have HR := Lib.hid hr
  have HL := Lib.hid hl
  have HF := Lib.hid hfit
  clear hr hl hfit
  go_enter Tryz.func84, Tryz.ntmps84
  go_wp2_with fail
  go_loopw [3, 8] (fun lv kv wr => ∃ k : Nat, k ≤ n ∧ kv = .int .i64 k ∧ lv = .int .i64 (nxt l k) ∧ PrfR.Far l k ∧ Below w.heap.size w wr) (fun _ kv _ => n - (intOf kv).toNat)
  case atStart => exact ⟨0, Nat.zero_le _, rfl, rfl, PrfR.far_zero l, Below.refl _ _⟩
  case round =>
    obtain ⟨k, hk, rfl, rfl, hfar, hb⟩ := hrel
    have HB := Lib.hid hb
    have HFar := Lib.hid hfar
    clear hb hfar
    by_cases hlt : k < n
    · have q0 : (0 : Int) ≤ (k : Int) := by omega
      have q1 : (k : Int) < (n : Int) := by omega
      obtain ⟨g, o, rfl, hg, hc⟩ := (HL.out.step HB.out) (by omega)
      obtain ⟨c0, c1⟩ := hc k (by omega)
      have hfk := HF.out (l.getD k no) (by rw [at_d _ (by omega)]; exact List.getElem_mem _)
      have HSd := Lib.hid (fun W => Said (l.getD k no) W hfk)
      have HBad : Hid (okL (l.getD k no) = false → r = 2) := Lib.hid fun h => by rw [← HR.out, PrfR.bad_leaf (by omega) h]; rfl
      have HBr : Hid ((l.getD k no).1 < nxt l k → 0 ≤ (l.getD k no).1 → r = 2) := Lib.hid fun h h0 => by
        unfold nxt at h
        by_cases e : k = 0
        · rw [if_pos e] at h; omega
        · rw [if_neg e] at h
          obtain ⟨j, rfl⟩ : ∃ j, k = j + 1 := ⟨k - 1, by omega⟩
          rw [← HR.out, PrfR.bad_rise (l := l) (k := j) (by omega) (by simpa using (show (l.getD (j + 1) no).1 ≤ (l.getD j no).1 by rw [Nat.add_sub_cancel] at h; omega))]
          rfl
      have HNx : Hid (okL (l.getD k no) = true → ¬ (l.getD k no).1 < nxt l k → PrfR.Far l (k + 1)) := Lib.hid fun h1 h2 => by
        unfold nxt at h2
        by_cases e : k = 0
        · subst e; exact PrfR.far_one h1
        · rw [if_neg e] at h2
          obtain ⟨j, rfl⟩ : ∃ j, k = j + 1 := ⟨k - 1, by omega⟩
          exact PrfR.far_next HFar.out h1 (by rw [Nat.add_sub_cancel] at h2; omega)
      have HN1 : Hid (nxt l (k + 1) = (l.getD k no).1 + 1) := Lib.hid (by unfold nxt; rw [if_neg (by omega)]; rfl)
      have hrange : okL (l.getD k no) = true → 0 ≤ (l.getD k no).1 ∧ (l.getD k no).1 ≤ 4095 := fun h => ⟨(okL_spec h).1, (okL_spec h).2.1⟩
      have hlen : okL (l.getD k no) = true → (said (l.getD k no)).length = 36 := fun h => said_length h
      have hnil : okL (l.getD k no) = false → said (l.getD k no) = [] := fun h => said_no h
      generalize nxt l k = ls at *
      generalize l.getD k no = x at *
      generalize okL x = b at *
      generalize said x = s at *
      obtain ⟨x0, x1⟩ := x
      dsimp only at HSd c0 c1 HBr HNx HN1 hrange
      clear hc hfk HFar
      go_upto_region 5 with (refine wpList_store_row rfl 45 _ _ rfl wr.heap.size _ rfl rfl 45 _ (heap_alloc_new wr _) infoL rfl (two x0 x1) ?_)
      generalize hW : World.setRow _ _ _ = W3
      have b3 : Below wr.heap.size wr W3 := by rw [← hW]; exact kept_new wr _ _ _
      have g3 : W3.heap[wr.heap.size]? = some (.cells #[.int .i64 x0, st x1] 45 (0, 0)) := by rw [← hW]; exact has_new wr _ _ _
      have hgl := (Array.getElem?_eq_some_iff.1 g3).1
      clear hW
      have G3 := Lib.hid g3
      have k0 : W3.cell? ⟨wr.heap.size, 0, none⟩ = some (.int .i64 x0) := blk_cell g3 rfl
      have k1 : W3.cell? ⟨wr.heap.size, 1, none⟩ = some (st x1) := blk_cell g3 rfl
      have B3 := Lib.hid (HB.out.trans (b3.mono HB.out.size))
      have HSt : Hid (∀ W, Below W3.heap.size W3 W → W.cell? ⟨wr.heap.size, 0, none⟩ = some (.int .i64 x0)) := Lib.hid fun W hb => (hb.cell (p := ⟨wr.heap.size, 0, none⟩) hgl).trans k0
      clear b3 g3 c0 c1 hgl
      cases b
      · obtain rfl := HBad.out rfl
        obtain rfl := hnil rfl
        have hE := PrfR.eq_nil [] true (by decide)
        clear hrange hlen hnil HNx HBr HN1
        go_wp2_with (go_at_call 85; refine (HSd.out _).mono ?_; rintro e w4 ⟨rfl, hb⟩; have k2 := HSt.out _ hb; have B4 := Lib.hid (B3.out.trans (hb.mono B3.out.size)); clear hb)
        go_ret
        exact ⟨rfl, B4.out⟩
      · have hs := hlen rfl
        have hE := PrfR.eq_nil s false (df (fun e => by rw [e] at hs; simp at hs))
        have hE2 : (s == []) = false := by rw [beq_eq_false_iff_ne]; intro e; rw [e] at hs; simp at hs
        obtain ⟨hx0, hx1⟩ := hrange rfl
        clear hrange hlen hnil
        by_cases hlt2 : x0 < ls
        · obtain rfl := HBr.out hlt2 hx0
          have hd2 : decide (x0 < ls) = true := dt hlt2
          clear HNx HBr HN1 hlt2
          go_wp2_with (go_at_call 85; refine (HSd.out _).mono ?_; rintro e w4 ⟨rfl, hb⟩; have k2 := HSt.out _ hb; have B4 := Lib.hid (B3.out.trans (hb.mono B3.out.size)); clear hb)
          go_ret
          exact ⟨rfl, B4.out⟩
        · have hd2 : decide (x0 < ls) = false := df hlt2
          have HN2 := Lib.hid (HNx.out rfl hlt2)
          clear HNx HBr hlt2
          go_wp2_with (go_at_call 85; refine (HSd.out _).mono ?_; rintro e w4 ⟨rfl, hb⟩; have k2 := HSt.out _ hb; have B4 := Lib.hid (B3.out.trans (hb.mono B3.out.size)); clear hb)
          go_roundw
          case rel => exact ⟨k + 1, by omega, by go_num, by rw [HN1.out], HN2.out, B4.out⟩
          case measure => simp [intOf]; omega
    · obtain rfl : k = n := by omega
      obtain rfl : r = 0 := by rw [← HR.out, if_pos (PrfR.far_all (by rw [hln]; exact HFar.out))]
      clear HFar
      go_wp2_with fail
      go_ret
      exact ⟨rfl, HB.out⟩
end Go.Proofs.YtdkcebaehdkphaaGreatDoor.PrgK
