/- PrgL PrgV: one behind the other. -/
import Derived.Test.YtdkcebaehdkphaaGreatDoorLPrgT
import Derived.Test.YtdkcebaehdkphaaGreatDoorLPrgA
import Derived.Test.YtdkcebaehdkphaaGreatDoorLMerU
import Derived.Test.YtdkcebaehdkphaaGreatDoorLPrfA
import Derived.Deep.RegionHeld3
import Derived.Test.YtdkcebaehdkphaaGreatDoorPrgB
import Derived.Test.YtdkcebaehdkphaaGreatDoorLPrgE
import Derived.Test.YtdkcebaehdkphaaGreatDoorLPrgH
/- The program's package proof: whether a seat's path leads to the root, whether its place stands aside: the walks of their texts. The condition: the rounds' numbers lie in the program's variable. -/
namespace Go.Proofs.YtdkcebaehdkphaaGreatDoor.PrgL
open Go.RowKit STurn SSum
open PrfL PrfN PrfM PrfB PrgN PrgC PrgK PrgT PrgI MerQ MerC MerV
/-- A tree as a value. -/
def trc (r : L) (n : Int) : Array Value := #[fv 51, fv 52, fv 53, fv 54, fv 55, st r, .int .i64 n]
theorem ne_nil (x : L) (q : Bool) (h : (!decide (x = [])) = q) (W : World) : (Op.stringOp .neq ⟨x.toArray⟩ ⟨#[]⟩).run Tryz.prog W = .ok (.bool q) W := by
  have e0 : ((⟨x.toArray⟩ : ByteArray).toList == (⟨#[]⟩ : ByteArray).toList) = decide (x = []) := by
    rw [Bool.eq_iff_iff, beq_iff_eq, decide_eq_true_eq, ByteArray.toList_eq, ByteArray.toList_eq]
  have e : ((⟨x.toArray⟩ : ByteArray).toList != (⟨#[]⟩ : ByteArray).toList) = q := by
    rw [bne, e0, h]
  rw [← e]
  rfl
theorem quiet_eq {P : Program} {f : FuncId} {args : Array Value} {w : World} {n : Nat} {v : Value}
    (h : Calls P f args (w.drewN n) fun e w' => e = .returned v ∧ w.drewN n = w') : Calls P f args (w.drewN n) fun e w'' => e = .returned v ∧ ∃ m, w'' = w.drewN m :=
  h.mono fun _ _ ⟨he, hm⟩ => ⟨he, n, hm.symm⟩
/-- What lies in the boxes of a tree and of a seat. -/
structure Two (w : World) (r : L) (n : Int) (m : MSeat) (W : World) : Prop where
  d : Below w.heap.size w W
  t : W.heap[w.heap.size]? = some (.cells (trc r n) 101 (0, 0))
  s : W.heap[w.heap.size + 1]? = some (.cells (sa m) 129 (0, 0))
theorem Two.step {w : World} {r : L} {n : Int} {m : MSeat} {W V : World} (h : Two w r n m W) (hb : Below W.heap.size W V) : Two w r n m V :=
  have h1 := (Array.getElem?_eq_some_iff.1 h.s).1
  have h0 := (Array.getElem?_eq_some_iff.1 h.t).1
  ⟨h.d.trans (hb.mono (by omega)), (hb.block _ h0).trans h.t, (hb.block _ h1).trans h.s⟩
set_option maxRecDepth 100000 in
set_option maxHeartbeats 2000000 in
theorem leads (r : L) (n : Int) (m : MSeat) (w : World) (hf : Fit m.s.leaf) (hp : Strs w w.heap.size m.a m.s.path.length m.s.path) (hpl : m.s.path.length ≤ 1000000) (hl : ∀ x ∈ m.s.path, x.length ≤ 9223372036854775807) (hr : Rds w) :
    Calls Tryz.prog 83 #[.agg (trc r n), .agg (sa m)] w fun e w' => e = .returned (.bool (leadsS r n m.s)) ∧ Below w.heap.size w w' := by
  obtain ⟨W1, hW1⟩ : ∃ W1, W1 = (w.alloc (.cells (trc r n) 101)).alloc (.cells (sa m) 129) := ⟨_, rfl⟩
  have TW := Lib.hid (show Two w r n m W1 by rw [hW1]; exact ⟨(below_new w _).alloc (by simp) _, heap_alloc2_old w _ _, heap_alloc2_new w _ _⟩)
  have HSd := Lib.hid (fun W => Said m.s.leaf W hf)
  have hok : leadsS r n m.s = (okL m.s.leaf && checkB r n m.s.at_ (lh m.s.leaf) m.s.path) := rfl
  rw [hok]
  cases ho : okL m.s.leaf with
  | false =>
    rw [said_no ho] at HSd
    have hE := ne_nil [] false (by decide)
    obtain ⟨⟨s0, s1, ⟨s2, s3⟩, s4⟩, ma, mc⟩ := m
    dsimp only at HSd
    clear hf hp hpl hl hr ho hok
    go_enter Tryz.func83, Tryz.ntmps83
    go_upto_region 1 with (fail)
    rw [← hW1]
    clear hW1
    have k2 : W1.cell? ⟨w.heap.size + 1, 2, none⟩ = some (.int .i64 s2) := blk_cell TW.out.s rfl
    have k3 : W1.cell? ⟨w.heap.size + 1, 3, none⟩ = some (st s3) := blk_cell TW.out.s rfl
    go_wp2_with (go_at_call 85; refine (HSd.out _).mono ?_; rintro e w2 ⟨rfl, hb⟩; replace TW := Lib.hid (TW.out.step hb); clear hb)
    go_quiet (fail)
    go_wp2
    go_ret
    exact ⟨rfl, PrfG.drawn TW.out.d _⟩
  | true =>
    have hs := said_length ho
    have hE := ne_nil (said m.s.leaf) true (by rw [df (fun e => by rw [e] at hs; simp at hs)]; rfl)
    have HLf := Lib.hid (fun W (hb : Below w.heap.size w W) => Leaf (said m.s.leaf) (by omega) W (hr.step hb))
    have HCk := Lib.hid (fun W (hb : Below w.heap.size w W) => Check r m.a n m.s.at_ (lh m.s.leaf) m.c m.s.path W ((hp.below hb).more hb.size) hpl (by rw [lh_length]; omega) hl (hr.step hb))
    rw [show sum (0 :: said m.s.leaf) = lh m.s.leaf from rfl] at HLf
    generalize checkB r n m.s.at_ (lh m.s.leaf) m.s.path = q at *
    have hE2 : (said m.s.leaf).isEmpty = false := by cases hh : said m.s.leaf with
      | nil => rw [hh] at hs; simp at hs
      | cons _ _ => rfl
    generalize lh m.s.leaf = y at *
    generalize said m.s.leaf = sd at *
    obtain ⟨⟨s0, s1, ⟨s2, s3⟩, s4⟩, ma, mc⟩ := m
    dsimp only at HSd HCk
    clear hf hp hpl hl hr ho hok hs
    go_enter Tryz.func83, Tryz.ntmps83
    go_upto_region 1 with (fail)
    rw [← hW1]
    clear hW1
    have k2 : W1.cell? ⟨w.heap.size + 1, 2, none⟩ = some (.int .i64 s2) := blk_cell TW.out.s rfl
    have k3 : W1.cell? ⟨w.heap.size + 1, 3, none⟩ = some (st s3) := blk_cell TW.out.s rfl
    go_wp2_with (go_at_call 85; refine (HSd.out _).mono ?_; rintro e w2 ⟨rfl, hb⟩; replace TW := Lib.hid (TW.out.step hb); clear hb)
    replace TW := Lib.hid (TW.out.step (Below.refl _ _).drew)
    have HS : Hid (∀ W, Two w r n ⟨⟨s0, s1, (s2, s3), s4⟩, ma, mc⟩ W → W.cell? ⟨w.heap.size, 0, none⟩ = some (fv 51) ∧ W.cell? ⟨w.heap.size, 3, none⟩ = some (fv 54) ∧ W.cell? ⟨w.heap.size, 5, none⟩ = some (st r) ∧ W.cell? ⟨w.heap.size, 6, none⟩ = some (.int .i64 n) ∧ W.cell? ⟨w.heap.size + 1, 0, none⟩ = some (.int .i64 s0) ∧ W.cell? ⟨w.heap.size + 1, 4, none⟩ = some (.slice ma s4.length mc)) :=
      Lib.hid fun W h => ⟨blk_cell h.t rfl, blk_cell h.t rfl, blk_cell h.t rfl, blk_cell h.t rfl, blk_cell h.s rfl, blk_cell h.s rfl⟩
    have hS0 := HS.out _ TW.out
    clear k2 k3
    go_region_held3 (fun W => W.cell? ⟨w.heap.size, 0, none⟩ = some (fv 51) ∧ W.cell? ⟨w.heap.size, 3, none⟩ = some (fv 54) ∧ W.cell? ⟨w.heap.size, 5, none⟩ = some (st r) ∧ W.cell? ⟨w.heap.size, 6, none⟩ = some (.int .i64 n) ∧ W.cell? ⟨w.heap.size + 1, 0, none⟩ = some (.int .i64 s0) ∧ W.cell? ⟨w.heap.size + 1, 4, none⟩ = some (.slice ma s4.length mc))
      (first | exact hS0 | exact hS1 | exact hS2)
      (first
        | (go_at_call 51; refine (HLf.out _ TW.out.d).mono ?_; rintro e w3 ⟨rfl, hb⟩; have T3 := Lib.hid (TW.out.step hb); have hS1 := HS.out _ T3.out; clear hb)
        | (go_at_call 54; refine (HCk.out _ T3.out.d).mono ?_; rintro e w4 ⟨rfl, hb⟩; have T4 := Lib.hid (T3.out.step hb); have hS2 := HS.out _ T4.out; clear hb))
    go_wp2
    go_ret
    exact ⟨rfl, T4.out.d⟩
set_option maxRecDepth 100000 in
set_option maxHeartbeats 1000000 in
theorem aside (b : Int) (X : Nat) (m : MSeat) (w : World) (hx : w.cell? ⟨X, 0, none⟩ = some (.int .i64 b)) :
    Calls Tryz.prog 80 #[.agg (sa m), .pointer (some ⟨X, 0, none⟩)] w fun e w' => e = .returned (.bool (asideS b m.s)) ∧ Below w.heap.size w w' := by
  have hxl := World.block_lt_of_cell? w _ hx
  obtain ⟨W1, hW1⟩ : ∃ W1, W1 = w.alloc (.cells (sa m) 129) := ⟨_, rfl⟩
  have b1 : Below w.heap.size w W1 := by rw [hW1]; exact below_new w _
  have s1' : W1.heap[w.heap.size]? = some (.cells (sa m) 129 (0, 0)) := by rw [hW1]; exact heap_alloc_new w _
  have k0 := (b1.cell (p := ⟨X, 0, none⟩) hxl).trans hx
  have B1 := Lib.hid b1
  have HC := Lib.hid (fun n => (Compare m.s.leaf.1 b (W1.drewN n)))
  have HA : Hid (asideS b m.s = (cmpZ m.s.leaf.1 b == m.s.side)) := Lib.hid (by unfold asideS; rw [Bool.eq_iff_iff, decide_eq_true_eq, beq_iff_eq])
  rw [HA.out]
  generalize cmpZ m.s.leaf.1 b = z at *
  obtain ⟨⟨s0, s1, ⟨s2, s3⟩, s4⟩, ma, mc⟩ := m
  dsimp only at HC ⊢
  have k1 : W1.cell? ⟨w.heap.size, 1, none⟩ = some (.int .i64 s1) := blk_cell s1' rfl
  have k2 : W1.cell? ⟨w.heap.size, 2, none⟩ = some (.int .i64 s2) := blk_cell s1' rfl
  obtain ⟨q, hq⟩ : ∃ q, (z == s1) = q := ⟨_, rfl⟩
  rw [hq]
  clear HA hx hxl b1 s1'
  go_enter Tryz.func80, Tryz.ntmps80
  go_upto_region 1 with (fail)
  rw [← hW1]
  clear hW1
  go_quiet ((go_at_call 65; exact quiet_eq (HC.out _)))
  go_wp2
  go_ret
  exact ⟨rfl, PrfG.drawn B1.out _⟩
end Go.Proofs.YtdkcebaehdkphaaGreatDoor.PrgL
/- The program's package proof: proves: the walk of its text. The condition: the rounds' numbers lie in the program's variable. -/
namespace Go.Proofs.YtdkcebaehdkphaaGreatDoor.PrgV
set_option linter.unusedVariables false
open Go.RowKit STurn SSum
open PrfL PrfN PrfM PrfB PrfG PrgN PrgC PrgK PrgB PrgT PrgI PrgL MerQ MerC MerV
/-- What a proof that is gone through is. -/
structure Okay (W : World) (x : Raw) : Prop where
  h : Fit x.here
  a : Fit x.ahead
  u : Strs W W.heap.size x.ua x.up.length x.up
  l : Strs W W.heap.size x.la x.left.length x.left
  un : x.up.length ≤ 1000000
  ln : x.left.length ≤ 1000000
  ul : ∀ y ∈ x.up, y.length ≤ 9223372036854775807
  ll : ∀ y ∈ x.left, y.length ≤ 9223372036854775807
  at_ : x.at_ ≤ 9223372036854775807
theorem Okay.step {W V : World} {x : Raw} (h : Okay W x) (hb : Below W.heap.size W V) : Okay V x :=
  ⟨h.h, h.a, (h.u.below hb).more hb.size, (h.l.below hb).more hb.size, h.un, h.ln, h.ul, h.ll, h.at_⟩
/-- The boxes of a tree, a place and a proof. -/
structure Tb (w : World) (r : L) (n b : Int) (x : Raw) (W : World) : Prop where
  d : Below w.heap.size w W
  t : W.heap[w.heap.size]? = some (.cells (trc r n) 101 (0, 0))
  i : W.heap[w.heap.size + 1]? = some (.cells #[.int .i64 b] 3 (0, 0))
  p : W.heap[w.heap.size + 1 + 1]? = some (.cells x.cells 48 (0, 0))
theorem Tb.step {w : World} {r : L} {n b : Int} {x : Raw} {W V : World} (h : Tb w r n b x W) (hb : Below W.heap.size W V) : Tb w r n b x V :=
  have h0 := (Array.getElem?_eq_some_iff.1 h.t).1
  have h1 := (Array.getElem?_eq_some_iff.1 h.i).1
  have h2 := (Array.getElem?_eq_some_iff.1 h.p).1
  ⟨h.d.trans (hb.mono (by omega)), (hb.block _ h0).trans h.t, (hb.block _ h1).trans h.i, (hb.block _ h2).trans h.p⟩
theorem tb_new (w : World) (r : L) (n b : Int) (x : Raw) : Tb w r n b x (((w.alloc (.cells (trc r n) 101)).alloc (.cells #[.int .i64 b] 3)).alloc (.cells x.cells 48)) :=
  ⟨below_alloc3 _ _ _ _, alloc3_0 _ _ _ _, alloc3_1 _ _ _ _, alloc3_2 _ _ _ _⟩
theorem same_bare (n : Int) (x : Raw) : sameB x (bareR n x) = decide (pf x = bareP n (pf x)) := by
  rw [Bool.eq_iff_iff, decide_eq_true_eq]
  unfold sameB
  simp only [Bool.and_eq_true, decide_eq_true_eq]
  obtain ⟨f, i, h, a, ua, uc, up, la, lc, left⟩ := x
  show _ ↔ (⟨f, i, h, a, up, left⟩ : Pf) = ⟨_, _, _, _, _, _⟩
  rw [Pf.mk.injEq]
  constructor
  · rintro ⟨⟨⟨⟨⟨h1, h2⟩, h3⟩, h4⟩, h5⟩, h6⟩
    exact ⟨h1, h2, h3, h4, h5, h6⟩
  · rintro ⟨h1, h2, h3, h4, h5, h6⟩
    exact ⟨⟨⟨⟨⟨h1, h2⟩, h3⟩, h4⟩, h5⟩, h6⟩
theorem bare_okay {W : World} {x : Raw} (n : Int) (h : Okay W x) : Strs W W.heap.size (bareR n x).ua (bareR n x).up.length (bareR n x).up ∧ Strs W W.heap.size (bareR n x).la (bareR n x).left.length (bareR n x).left ∧ (bareR n x).up.length ≤ 1000000 ∧ (bareR n x).left.length ≤ 1000000 := by
  unfold bareR
  dsimp only
  cases hereP n (pf x) <;> cases aheadP (pf x) <;> simp only [Bool.false_eq_true, if_false, if_true]
  · exact ⟨⟨rfl, fun h => absurd h (by simp)⟩, ⟨rfl, fun h => absurd h (by simp)⟩, by simp, by simp⟩
  · exact ⟨⟨rfl, fun h => absurd h (by simp)⟩, h.l, by simp, h.ln⟩
  · exact ⟨h.u, ⟨rfl, fun h => absurd h (by simp)⟩, h.un, by simp⟩
  · exact ⟨h.u, h.l, h.un, h.ln⟩
theorem seat_is {n : Int} {x : Raw} {i : Nat} (hi : i < (seatsR n x).length) : let m := (seatsR n x).getD i noM
    (m.s.leaf = x.here ∧ m.s.path = x.up ∧ m.a = x.ua) ∨ (m.s.leaf = x.ahead ∧ m.s.path = x.left ∧ m.a = x.la) := by
  intro m
  have hm : m ∈ seatsR n x := by
    have : m = (seatsR n x)[i] := by simp [m, hi]
    rw [this]; exact List.getElem_mem hi
  generalize m = m at *
  unfold seatsR at hm
  rw [List.mem_append] at hm
  rcases hm with hm | hm
  · split at hm
    · rw [List.mem_singleton] at hm; subst hm; exact .inl ⟨rfl, rfl, rfl⟩
    · exact absurd hm (List.not_mem_nil)
  · split at hm
    · rw [List.mem_singleton] at hm; subst hm; exact .inr ⟨rfl, rfl, rfl⟩
    · exact absurd hm (List.not_mem_nil)
theorem seat_leads {w : World} {x : Raw} (r : L) (n : Int) (h : Okay w x) (hr : Rds w) {i : Nat} (hi : i < (seatsR n x).length) :
    Calls Tryz.prog 83 #[.agg (trc r n), .agg (sa ((seatsR n x).getD i noM))] w fun e w' => e = .returned (.bool (leadsS r n ((seatsR n x).getD i noM).s)) ∧ Below w.heap.size w w' := by
  rcases seat_is hi with ⟨h1, h2, h3⟩ | ⟨h1, h2, h3⟩
  · exact leads r n _ w (by rw [h1]; exact h.h) (by rw [h2, h3]; exact h.u) (by rw [h2]; exact h.un) (by rw [h2]; exact h.ul) hr
  · exact leads r n _ w (by rw [h1]; exact h.a) (by rw [h2, h3]; exact h.l) (by rw [h2]; exact h.ln) (by rw [h2]; exact h.ll) hr
theorem all_seats (f : Seat → Bool) (n : Int) (x : Raw) : (seatsR n x).all (fun m => f m.s) = allS f (seatsP n (pf x)) := by
  unfold allS
  rw [← seats_map, List.all_map]
  rfl
theorem infoTr : (Tryz.prog.info? 101).map (·.size) = some 7 := by kernel_rfl
set_option maxRecDepth 100000 in
theorem every_leads {w : World} {x : Raw} (r : L) (n : Int) (h : Okay w x) (hr : Rds w) (p : Option Addr) (c : Nat) (hl : Seats w w.heap.size p (seatsR n x)) :
    Calls Tryz.prog 82 #[.slice p (seatsR n x).length c, .func (.func 83) #[.agg (trc r n)] #[]] w fun e w' => e = .returned (.bool (allS (leadsS r n) (seatsP n (pf x)))) ∧ Below w.heap.size w w' := by
  rw [← all_seats]
  refine every 83 #[.agg (trc r n)] #[] (fun m => leadsS r n m.s) (fun _ _ => rfl) p _ c (seatsR n x) w rfl (by have := seats_few n x; omega) hl (fun W i hb hi => ?_)
  exact seat_leads r n (h.step hb) (hr.step hb) hi
set_option maxRecDepth 100000 in
theorem every_aside {w : World} (x : Raw) (n b : Int) (X : Nat) (hX : w.cell? ⟨X, 0, none⟩ = some (.int .i64 b)) (p : Option Addr) (c : Nat) (hl : Seats w w.heap.size p (seatsR n x)) :
    Calls Tryz.prog 82 #[.slice p (seatsR n x).length c, .func (.func 80) #[] #[.pointer (some ⟨X, 0, none⟩)]] w fun e w' => e = .returned (.bool (allS (asideS b) (seatsP n (pf x)))) ∧ Below w.heap.size w w' := by
  rw [← all_seats]
  refine every 80 #[] #[.pointer (some ⟨X, 0, none⟩)] (fun m => asideS b m.s) (fun _ _ => rfl) p _ c (seatsR n x) w rfl (by have := seats_few n x; omega) hl (fun W i hb hi => ?_)
  exact aside b X _ W ((hb.cell (p := ⟨X, 0, none⟩) (World.block_lt_of_cell? w _ hX)).trans hX)
set_option maxRecDepth 100000 in
set_option maxHeartbeats 4000000 in
theorem outf (r : L) (n b : Int) (x : Raw) (w : World) (hn : 0 ≤ n ∧ n ≤ 1000000) (hx : Okay w x) (hr : Rds w) (hf : x.f = true) (ho : inB x.at_ (lastP n (pf x)) = false) : Calls Tryz.prog 57 #[.agg (trc r n), .int .i64 b, .agg x.cells] w fun e w' => e = .returned (.bool (false)) ∧ Below w.heap.size w w' := by
  obtain ⟨W1, hW1⟩ : ∃ W1, W1 = ((w.alloc (.cells (trc r n) 101)).alloc (.cells #[.int .i64 b] 3)).alloc (.cells x.cells 48) := ⟨_, rfl⟩
  have TB := Lib.hid (show Tb w r n b x W1 by rw [hW1]; exact tb_new w r n b x)
  have HW := Lib.hid (fun W => within x.at_ (n - 1) W)
  have HRd := Lib.hid (fun W (hb : Below w.heap.size w W) => hr.step hb)
  have HO := Lib.hid (fun W (hb : Below w.heap.size w W) => hx.step hb)
  have HBr := Lib.hid (fun W => bare n x W)
  have HSm := Lib.hid (fun W (hb : Below w.heap.size w W) => have h := hx.step hb; have k := bare_okay n h; PrgS.same x (bareR n x) W h.u h.l k.1 k.2.1 h.un h.ln k.2.2.1 k.2.2.2)
  rw [same_bare] at HSm
  have hw1 : wrap64 (n - 1) = n - 1 := IntWalk.wrap64_in _ (by omega)
  have hw2 : IntKind.i64.wrap (n - 1) = n - 1 := IntWalk.i64_in _ (by omega)
  rw [show lastP n (pf x) = n - 1 by unfold lastP; rw [show (pf x).found = x.f from rfl, hf]; rfl] at ho
  rw [ho] at HW
  clear hx hr HSm HBr HRd HO ho
  have HPS : Hid (∀ W, Tb w r n b x W → W.cell? ⟨w.heap.size + 1 + 1, 0, none⟩ = some (.bool x.f) ∧ W.cell? ⟨w.heap.size + 1 + 1, 1, none⟩ = some (.int .i64 x.at_) ∧ W.cell? ⟨w.heap.size + 1 + 1, 2, none⟩ = some (.int .i64 x.here.1) ∧ W.cell? ⟨w.heap.size + 1 + 1, 3, none⟩ = some (st x.here.2) ∧ W.cell? ⟨w.heap.size + 1 + 1, 4, none⟩ = some (.int .i64 x.ahead.1) ∧ W.cell? ⟨w.heap.size + 1 + 1, 5, none⟩ = some (st x.ahead.2) ∧ W.cell? ⟨w.heap.size + 1 + 1, 6, none⟩ = some (.slice x.ua x.up.length x.uc) ∧ W.cell? ⟨w.heap.size + 1 + 1, 7, none⟩ = some (.slice x.la x.left.length x.lc) ∧ W.cell? ⟨w.heap.size, 6, none⟩ = some (.int .i64 n)) :=
    Lib.hid fun W h => ⟨blk_cell h.p rfl, blk_cell h.p rfl, blk_cell h.p rfl, blk_cell h.p rfl, blk_cell h.p rfl, blk_cell h.p rfl, blk_cell h.p rfl, blk_cell h.p rfl, blk_cell h.t rfl⟩
  obtain ⟨f, i, ⟨h0, h1⟩, ⟨a0, a1⟩, ua, uc, up, la, lc, left⟩ := x
  dsimp only at hf HW HPS
  subst hf
  have k0 := (HPS.out _ TB.out).1
  have k6 := (HPS.out _ TB.out).2.2.2.2.2.2.2.2
  go_enter Tryz.func57, Tryz.ntmps57
  go_upto_region 1 with (fail)
  rw [← hW1]
  clear hW1
  go_upto_region 4 with (fail)
  obtain ⟨k0, k1, _⟩ := HPS.out _ TB.out
  go_quiet ((go_at_call 56; exact quiet_eq (HW.out _)))
  go_wp2
  go_ret
  exact ⟨rfl, drawn TB.out.d _⟩
set_option maxRecDepth 100000 in
set_option maxHeartbeats 4000000 in
theorem out (r : L) (n b : Int) (x : Raw) (w : World) (hn : 0 ≤ n ∧ n ≤ 1000000) (hx : Okay w x) (hr : Rds w) (hf : x.f = false) (ho : inB x.at_ (lastP n (pf x)) = false) : Calls Tryz.prog 57 #[.agg (trc r n), .int .i64 b, .agg x.cells] w fun e w' => e = .returned (.bool (false)) ∧ Below w.heap.size w w' := by
  obtain ⟨W1, hW1⟩ : ∃ W1, W1 = ((w.alloc (.cells (trc r n) 101)).alloc (.cells #[.int .i64 b] 3)).alloc (.cells x.cells 48) := ⟨_, rfl⟩
  have TB := Lib.hid (show Tb w r n b x W1 by rw [hW1]; exact tb_new w r n b x)
  have HW := Lib.hid (fun W => within x.at_ (n) W)
  have HRd := Lib.hid (fun W (hb : Below w.heap.size w W) => hr.step hb)
  have HO := Lib.hid (fun W (hb : Below w.heap.size w W) => hx.step hb)
  have HBr := Lib.hid (fun W => bare n x W)
  have HSm := Lib.hid (fun W (hb : Below w.heap.size w W) => have h := hx.step hb; have k := bare_okay n h; PrgS.same x (bareR n x) W h.u h.l k.1 k.2.1 h.un h.ln k.2.2.1 k.2.2.2)
  rw [same_bare] at HSm
  rw [show lastP n (pf x) = n by unfold lastP; rw [show (pf x).found = x.f from rfl, hf]; rfl] at ho
  rw [ho] at HW
  clear hx hr HSm HBr HRd HO ho
  have HPS : Hid (∀ W, Tb w r n b x W → W.cell? ⟨w.heap.size + 1 + 1, 0, none⟩ = some (.bool x.f) ∧ W.cell? ⟨w.heap.size + 1 + 1, 1, none⟩ = some (.int .i64 x.at_) ∧ W.cell? ⟨w.heap.size + 1 + 1, 2, none⟩ = some (.int .i64 x.here.1) ∧ W.cell? ⟨w.heap.size + 1 + 1, 3, none⟩ = some (st x.here.2) ∧ W.cell? ⟨w.heap.size + 1 + 1, 4, none⟩ = some (.int .i64 x.ahead.1) ∧ W.cell? ⟨w.heap.size + 1 + 1, 5, none⟩ = some (st x.ahead.2) ∧ W.cell? ⟨w.heap.size + 1 + 1, 6, none⟩ = some (.slice x.ua x.up.length x.uc) ∧ W.cell? ⟨w.heap.size + 1 + 1, 7, none⟩ = some (.slice x.la x.left.length x.lc) ∧ W.cell? ⟨w.heap.size, 6, none⟩ = some (.int .i64 n)) :=
    Lib.hid fun W h => ⟨blk_cell h.p rfl, blk_cell h.p rfl, blk_cell h.p rfl, blk_cell h.p rfl, blk_cell h.p rfl, blk_cell h.p rfl, blk_cell h.p rfl, blk_cell h.p rfl, blk_cell h.t rfl⟩
  obtain ⟨f, i, ⟨h0, h1⟩, ⟨a0, a1⟩, ua, uc, up, la, lc, left⟩ := x
  dsimp only at hf HW HPS
  subst hf
  have k0 := (HPS.out _ TB.out).1
  have k6 := (HPS.out _ TB.out).2.2.2.2.2.2.2.2
  go_enter Tryz.func57, Tryz.ntmps57
  go_upto_region 1 with (fail)
  rw [← hW1]
  clear hW1
  go_upto_region 4 with (fail)
  obtain ⟨k0, k1, _⟩ := HPS.out _ TB.out
  go_quiet ((go_at_call 56; exact quiet_eq (HW.out _)))
  go_wp2
  go_ret
  exact ⟨rfl, drawn TB.out.d _⟩
set_option maxRecDepth 100000 in
set_option maxHeartbeats 4000000 in
theorem unlikef (r : L) (n b : Int) (x : Raw) (w : World) (hn : 0 ≤ n ∧ n ≤ 1000000) (hx : Okay w x) (hr : Rds w) (hf : x.f = true) (ho : inB x.at_ (lastP n (pf x)) = true) (hs : decide (pf x = bareP n (pf x)) = false) : Calls Tryz.prog 57 #[.agg (trc r n), .int .i64 b, .agg x.cells] w fun e w' => e = .returned (.bool (false)) ∧ Below w.heap.size w w' := by
  obtain ⟨W1, hW1⟩ : ∃ W1, W1 = ((w.alloc (.cells (trc r n) 101)).alloc (.cells #[.int .i64 b] 3)).alloc (.cells x.cells 48) := ⟨_, rfl⟩
  have TB := Lib.hid (show Tb w r n b x W1 by rw [hW1]; exact tb_new w r n b x)
  have HW := Lib.hid (fun W => within x.at_ (n - 1) W)
  have HRd := Lib.hid (fun W (hb : Below w.heap.size w W) => hr.step hb)
  have HO := Lib.hid (fun W (hb : Below w.heap.size w W) => hx.step hb)
  have HBr := Lib.hid (fun W => bare n x W)
  have HSm := Lib.hid (fun W (hb : Below w.heap.size w W) => have h := hx.step hb; have k := bare_okay n h; PrgS.same x (bareR n x) W h.u h.l k.1 k.2.1 h.un h.ln k.2.2.1 k.2.2.2)
  rw [same_bare] at HSm
  have hw1 : wrap64 (n - 1) = n - 1 := IntWalk.wrap64_in _ (by omega)
  have hw2 : IntKind.i64.wrap (n - 1) = n - 1 := IntWalk.i64_in _ (by omega)
  rw [show lastP n (pf x) = n - 1 by unfold lastP; rw [show (pf x).found = x.f from rfl, hf]; rfl] at ho
  rw [ho] at HW
  rw [hs] at HSm
  clear hx hr HRd HO ho hs
  have HPS : Hid (∀ W, Tb w r n b x W → W.cell? ⟨w.heap.size + 1 + 1, 0, none⟩ = some (.bool x.f) ∧ W.cell? ⟨w.heap.size + 1 + 1, 1, none⟩ = some (.int .i64 x.at_) ∧ W.cell? ⟨w.heap.size + 1 + 1, 2, none⟩ = some (.int .i64 x.here.1) ∧ W.cell? ⟨w.heap.size + 1 + 1, 3, none⟩ = some (st x.here.2) ∧ W.cell? ⟨w.heap.size + 1 + 1, 4, none⟩ = some (.int .i64 x.ahead.1) ∧ W.cell? ⟨w.heap.size + 1 + 1, 5, none⟩ = some (st x.ahead.2) ∧ W.cell? ⟨w.heap.size + 1 + 1, 6, none⟩ = some (.slice x.ua x.up.length x.uc) ∧ W.cell? ⟨w.heap.size + 1 + 1, 7, none⟩ = some (.slice x.la x.left.length x.lc) ∧ W.cell? ⟨w.heap.size, 6, none⟩ = some (.int .i64 n)) :=
    Lib.hid fun W h => ⟨blk_cell h.p rfl, blk_cell h.p rfl, blk_cell h.p rfl, blk_cell h.p rfl, blk_cell h.p rfl, blk_cell h.p rfl, blk_cell h.p rfl, blk_cell h.p rfl, blk_cell h.t rfl⟩
  obtain ⟨f, i, ⟨h0, h1⟩, ⟨a0, a1⟩, ua, uc, up, la, lc, left⟩ := x
  dsimp only at hf HW HPS
  subst hf
  dsimp only [Raw.cells] at HBr HSm
  have k0 := (HPS.out _ TB.out).1
  have k6 := (HPS.out _ TB.out).2.2.2.2.2.2.2.2
  go_enter Tryz.func57, Tryz.ntmps57
  go_upto_region 1 with (fail)
  rw [← hW1]
  clear hW1
  go_upto_region 4 with (fail)
  replace TB := Lib.hid (TB.out.step (Below.refl _ _).drew)
  have hS0 := HPS.out _ TB.out
  clear k0 k6
  go_region_held3 (fun W => W.cell? ⟨w.heap.size + 1 + 1, 0, none⟩ = some (.bool true) ∧ W.cell? ⟨w.heap.size + 1 + 1, 1, none⟩ = some (.int .i64 i) ∧ W.cell? ⟨w.heap.size + 1 + 1, 2, none⟩ = some (.int .i64 h0) ∧ W.cell? ⟨w.heap.size + 1 + 1, 3, none⟩ = some (st h1) ∧ W.cell? ⟨w.heap.size + 1 + 1, 4, none⟩ = some (.int .i64 a0) ∧ W.cell? ⟨w.heap.size + 1 + 1, 5, none⟩ = some (st a1) ∧ W.cell? ⟨w.heap.size + 1 + 1, 6, none⟩ = some (.slice ua up.length uc) ∧ W.cell? ⟨w.heap.size + 1 + 1, 7, none⟩ = some (.slice la left.length lc) ∧ W.cell? ⟨w.heap.size, 6, none⟩ = some (.int .i64 n))
    (first | exact hS0 | exact hS1 | exact hS2)
    (first
      | (go_at_call 56; refine (HW.out _).mono ?_; rintro e _ ⟨rfl, rfl⟩)
      | (go_at_call 79; refine (HBr.out _).mono ?_; rintro e w3 ⟨rfl, hb⟩; have T3 := Lib.hid (TB.out.step hb); have hS1 := HPS.out _ T3.out; clear hb)
      | (go_at_call 78; refine (HSm.out _ T3.out.d).mono ?_; rintro e w4 ⟨rfl, hb⟩; have T4 := Lib.hid (T3.out.step hb); have hS2 := HPS.out _ T4.out; clear hb))
  go_wp2
  go_ret
  exact ⟨rfl, T4.out.d⟩
set_option maxRecDepth 100000 in
set_option maxHeartbeats 4000000 in
theorem unlike (r : L) (n b : Int) (x : Raw) (w : World) (hn : 0 ≤ n ∧ n ≤ 1000000) (hx : Okay w x) (hr : Rds w) (hf : x.f = false) (ho : inB x.at_ (lastP n (pf x)) = true) (hs : decide (pf x = bareP n (pf x)) = false) : Calls Tryz.prog 57 #[.agg (trc r n), .int .i64 b, .agg x.cells] w fun e w' => e = .returned (.bool (false)) ∧ Below w.heap.size w w' := by
  obtain ⟨W1, hW1⟩ : ∃ W1, W1 = ((w.alloc (.cells (trc r n) 101)).alloc (.cells #[.int .i64 b] 3)).alloc (.cells x.cells 48) := ⟨_, rfl⟩
  have TB := Lib.hid (show Tb w r n b x W1 by rw [hW1]; exact tb_new w r n b x)
  have HW := Lib.hid (fun W => within x.at_ (n) W)
  have HRd := Lib.hid (fun W (hb : Below w.heap.size w W) => hr.step hb)
  have HO := Lib.hid (fun W (hb : Below w.heap.size w W) => hx.step hb)
  have HBr := Lib.hid (fun W => bare n x W)
  have HSm := Lib.hid (fun W (hb : Below w.heap.size w W) => have h := hx.step hb; have k := bare_okay n h; PrgS.same x (bareR n x) W h.u h.l k.1 k.2.1 h.un h.ln k.2.2.1 k.2.2.2)
  rw [same_bare] at HSm
  rw [show lastP n (pf x) = n by unfold lastP; rw [show (pf x).found = x.f from rfl, hf]; rfl] at ho
  rw [ho] at HW
  rw [hs] at HSm
  clear hx hr HRd HO ho hs
  have HPS : Hid (∀ W, Tb w r n b x W → W.cell? ⟨w.heap.size + 1 + 1, 0, none⟩ = some (.bool x.f) ∧ W.cell? ⟨w.heap.size + 1 + 1, 1, none⟩ = some (.int .i64 x.at_) ∧ W.cell? ⟨w.heap.size + 1 + 1, 2, none⟩ = some (.int .i64 x.here.1) ∧ W.cell? ⟨w.heap.size + 1 + 1, 3, none⟩ = some (st x.here.2) ∧ W.cell? ⟨w.heap.size + 1 + 1, 4, none⟩ = some (.int .i64 x.ahead.1) ∧ W.cell? ⟨w.heap.size + 1 + 1, 5, none⟩ = some (st x.ahead.2) ∧ W.cell? ⟨w.heap.size + 1 + 1, 6, none⟩ = some (.slice x.ua x.up.length x.uc) ∧ W.cell? ⟨w.heap.size + 1 + 1, 7, none⟩ = some (.slice x.la x.left.length x.lc) ∧ W.cell? ⟨w.heap.size, 6, none⟩ = some (.int .i64 n)) :=
    Lib.hid fun W h => ⟨blk_cell h.p rfl, blk_cell h.p rfl, blk_cell h.p rfl, blk_cell h.p rfl, blk_cell h.p rfl, blk_cell h.p rfl, blk_cell h.p rfl, blk_cell h.p rfl, blk_cell h.t rfl⟩
  obtain ⟨f, i, ⟨h0, h1⟩, ⟨a0, a1⟩, ua, uc, up, la, lc, left⟩ := x
  dsimp only at hf HW HPS
  subst hf
  dsimp only [Raw.cells] at HBr HSm
  have k0 := (HPS.out _ TB.out).1
  have k6 := (HPS.out _ TB.out).2.2.2.2.2.2.2.2
  go_enter Tryz.func57, Tryz.ntmps57
  go_upto_region 1 with (fail)
  rw [← hW1]
  clear hW1
  go_upto_region 4 with (fail)
  replace TB := Lib.hid (TB.out.step (Below.refl _ _).drew)
  have hS0 := HPS.out _ TB.out
  clear k0 k6
  go_region_held3 (fun W => W.cell? ⟨w.heap.size + 1 + 1, 0, none⟩ = some (.bool false) ∧ W.cell? ⟨w.heap.size + 1 + 1, 1, none⟩ = some (.int .i64 i) ∧ W.cell? ⟨w.heap.size + 1 + 1, 2, none⟩ = some (.int .i64 h0) ∧ W.cell? ⟨w.heap.size + 1 + 1, 3, none⟩ = some (st h1) ∧ W.cell? ⟨w.heap.size + 1 + 1, 4, none⟩ = some (.int .i64 a0) ∧ W.cell? ⟨w.heap.size + 1 + 1, 5, none⟩ = some (st a1) ∧ W.cell? ⟨w.heap.size + 1 + 1, 6, none⟩ = some (.slice ua up.length uc) ∧ W.cell? ⟨w.heap.size + 1 + 1, 7, none⟩ = some (.slice la left.length lc) ∧ W.cell? ⟨w.heap.size, 6, none⟩ = some (.int .i64 n))
    (first | exact hS0 | exact hS1 | exact hS2)
    (first
      | (go_at_call 56; refine (HW.out _).mono ?_; rintro e _ ⟨rfl, rfl⟩)
      | (go_at_call 79; refine (HBr.out _).mono ?_; rintro e w3 ⟨rfl, hb⟩; have T3 := Lib.hid (TB.out.step hb); have hS1 := HPS.out _ T3.out; clear hb)
      | (go_at_call 78; refine (HSm.out _ T3.out.d).mono ?_; rintro e w4 ⟨rfl, hb⟩; have T4 := Lib.hid (T3.out.step hb); have hS2 := HPS.out _ T4.out; clear hb))
  go_wp2
  go_ret
  exact ⟨rfl, T4.out.d⟩
set_option maxRecDepth 100000 in
set_option maxHeartbeats 4000000 in
theorem noughtf (r : L) (n b : Int) (x : Raw) (w : World) (hn : 0 ≤ n ∧ n ≤ 1000000) (hx : Okay w x) (hr : Rds w) (hf : x.f = true) (ho : inB x.at_ (lastP n (pf x)) = true) (hs : decide (pf x = bareP n (pf x)) = true) (h0 : n = 0) : Calls Tryz.prog 57 #[.agg (trc r n), .int .i64 b, .agg x.cells] w fun e w' => e = .returned (.bool (decide (r = sum []))) ∧ Below w.heap.size w w' := by
  obtain ⟨W1, hW1⟩ : ∃ W1, W1 = ((w.alloc (.cells (trc r n) 101)).alloc (.cells #[.int .i64 b] 3)).alloc (.cells x.cells 48) := ⟨_, rfl⟩
  have TB := Lib.hid (show Tb w r n b x W1 by rw [hW1]; exact tb_new w r n b x)
  have HW := Lib.hid (fun W => within x.at_ (n - 1) W)
  have HRd := Lib.hid (fun W (hb : Below w.heap.size w W) => hr.step hb)
  have HO := Lib.hid (fun W (hb : Below w.heap.size w W) => hx.step hb)
  have HBr := Lib.hid (fun W => bare n x W)
  have HSm := Lib.hid (fun W (hb : Below w.heap.size w W) => have h := hx.step hb; have k := bare_okay n h; PrgS.same x (bareR n x) W h.u h.l k.1 k.2.1 h.un h.ln k.2.2.1 k.2.2.2)
  rw [same_bare] at HSm
  have hw1 : wrap64 (n - 1) = n - 1 := IntWalk.wrap64_in _ (by omega)
  have hw2 : IntKind.i64.wrap (n - 1) = n - 1 := IntWalk.i64_in _ (by omega)
  rw [show lastP n (pf x) = n - 1 by unfold lastP; rw [show (pf x).found = x.f from rfl, hf]; rfl] at ho
  rw [ho] at HW
  rw [hs] at HSm
  have HRo := Lib.hid (fun W (hb : Below w.heap.size w W) => show Calls Tryz.prog 52 #[.slice none 0 0] W fun e w' => e = .returned (.tuple #[str (sum []), .int .i64 0]) ∧ Below W.heap.size W w' from MerR.Root none 0 0 [] W ⟨rfl, fun h => absurd h (by simp)⟩ (by omega) (fun l hl => by simp at hl) (hr.step hb))
  have HQ : Hid (decide (r = sum []) = (r == sum [])) := Lib.hid (by rw [Bool.eq_iff_iff, decide_eq_true_eq, beq_iff_eq])
  rw [HQ.out]
  obtain ⟨q, hq⟩ : ∃ q, (r == sum []) = q := ⟨_, rfl⟩
  rw [hq]
  generalize sum [] = z at *
  have hn0 : (n == 0) = true := by rw [h0]; rfl
  clear hx hr HRd HO ho hs hn HQ h0
  have HPS : Hid (∀ W, Tb w r n b x W → W.cell? ⟨w.heap.size + 1 + 1, 0, none⟩ = some (.bool x.f) ∧ W.cell? ⟨w.heap.size + 1 + 1, 1, none⟩ = some (.int .i64 x.at_) ∧ W.cell? ⟨w.heap.size + 1 + 1, 2, none⟩ = some (.int .i64 x.here.1) ∧ W.cell? ⟨w.heap.size + 1 + 1, 3, none⟩ = some (st x.here.2) ∧ W.cell? ⟨w.heap.size + 1 + 1, 4, none⟩ = some (.int .i64 x.ahead.1) ∧ W.cell? ⟨w.heap.size + 1 + 1, 5, none⟩ = some (st x.ahead.2) ∧ W.cell? ⟨w.heap.size + 1 + 1, 6, none⟩ = some (.slice x.ua x.up.length x.uc) ∧ W.cell? ⟨w.heap.size + 1 + 1, 7, none⟩ = some (.slice x.la x.left.length x.lc) ∧ W.cell? ⟨w.heap.size, 6, none⟩ = some (.int .i64 n)) :=
    Lib.hid fun W h => ⟨blk_cell h.p rfl, blk_cell h.p rfl, blk_cell h.p rfl, blk_cell h.p rfl, blk_cell h.p rfl, blk_cell h.p rfl, blk_cell h.p rfl, blk_cell h.p rfl, blk_cell h.t rfl⟩
  obtain ⟨f, i, ⟨h0, h1⟩, ⟨a0, a1⟩, ua, uc, up, la, lc, left⟩ := x
  dsimp only at hf HW HPS
  subst hf
  dsimp only [Raw.cells] at HBr HSm
  have k0 := (HPS.out _ TB.out).1
  have k6 := (HPS.out _ TB.out).2.2.2.2.2.2.2.2
  go_enter Tryz.func57, Tryz.ntmps57
  go_upto_region 1 with (fail)
  rw [← hW1]
  clear hW1
  go_upto_region 4 with (fail)
  replace TB := Lib.hid (TB.out.step (Below.refl _ _).drew)
  have hS0 := HPS.out _ TB.out
  clear k0 k6
  go_region_held3 (fun W => W.cell? ⟨w.heap.size + 1 + 1, 0, none⟩ = some (.bool true) ∧ W.cell? ⟨w.heap.size + 1 + 1, 1, none⟩ = some (.int .i64 i) ∧ W.cell? ⟨w.heap.size + 1 + 1, 2, none⟩ = some (.int .i64 h0) ∧ W.cell? ⟨w.heap.size + 1 + 1, 3, none⟩ = some (st h1) ∧ W.cell? ⟨w.heap.size + 1 + 1, 4, none⟩ = some (.int .i64 a0) ∧ W.cell? ⟨w.heap.size + 1 + 1, 5, none⟩ = some (st a1) ∧ W.cell? ⟨w.heap.size + 1 + 1, 6, none⟩ = some (.slice ua up.length uc) ∧ W.cell? ⟨w.heap.size + 1 + 1, 7, none⟩ = some (.slice la left.length lc) ∧ W.cell? ⟨w.heap.size, 6, none⟩ = some (.int .i64 n))
    (first | exact hS0 | exact hS1 | exact hS2)
    (first
      | (go_at_call 56; refine (HW.out _).mono ?_; rintro e _ ⟨rfl, rfl⟩)
      | (go_at_call 79; refine (HBr.out _).mono ?_; rintro e w3 ⟨rfl, hb⟩; have T3 := Lib.hid (TB.out.step hb); have hS1 := HPS.out _ T3.out; clear hb)
      | (go_at_call 78; refine (HSm.out _ T3.out.d).mono ?_; rintro e w4 ⟨rfl, hb⟩; have T4 := Lib.hid (T3.out.step hb); have hS2 := HPS.out _ T4.out; clear hb))
  have m1 : w4.cell? ⟨w.heap.size, 1, none⟩ = some (fv 52) := blk_cell T4.out.t rfl
  have m6 : w4.cell? ⟨w.heap.size, 6, none⟩ = some (.int .i64 n) := blk_cell T4.out.t rfl
  go_wp2_with (go_at_call 52; refine (HRo.out _ T4.out.d).mono ?_; rintro e w5 ⟨rfl, hb⟩; have T5 := Lib.hid (T4.out.step hb); have m5 : w5.cell? ⟨w.heap.size, 5, none⟩ = some (st r) := blk_cell T5.out.t rfl; clear hb)
  go_ret
  exact ⟨rfl, T5.out.d⟩
set_option maxRecDepth 100000 in
set_option maxHeartbeats 4000000 in
theorem nought (r : L) (n b : Int) (x : Raw) (w : World) (hn : 0 ≤ n ∧ n ≤ 1000000) (hx : Okay w x) (hr : Rds w) (hf : x.f = false) (ho : inB x.at_ (lastP n (pf x)) = true) (hs : decide (pf x = bareP n (pf x)) = true) (h0 : n = 0) : Calls Tryz.prog 57 #[.agg (trc r n), .int .i64 b, .agg x.cells] w fun e w' => e = .returned (.bool (decide (r = sum []))) ∧ Below w.heap.size w w' := by
  obtain ⟨W1, hW1⟩ : ∃ W1, W1 = ((w.alloc (.cells (trc r n) 101)).alloc (.cells #[.int .i64 b] 3)).alloc (.cells x.cells 48) := ⟨_, rfl⟩
  have TB := Lib.hid (show Tb w r n b x W1 by rw [hW1]; exact tb_new w r n b x)
  have HW := Lib.hid (fun W => within x.at_ (n) W)
  have HRd := Lib.hid (fun W (hb : Below w.heap.size w W) => hr.step hb)
  have HO := Lib.hid (fun W (hb : Below w.heap.size w W) => hx.step hb)
  have HBr := Lib.hid (fun W => bare n x W)
  have HSm := Lib.hid (fun W (hb : Below w.heap.size w W) => have h := hx.step hb; have k := bare_okay n h; PrgS.same x (bareR n x) W h.u h.l k.1 k.2.1 h.un h.ln k.2.2.1 k.2.2.2)
  rw [same_bare] at HSm
  rw [show lastP n (pf x) = n by unfold lastP; rw [show (pf x).found = x.f from rfl, hf]; rfl] at ho
  rw [ho] at HW
  rw [hs] at HSm
  have HRo := Lib.hid (fun W (hb : Below w.heap.size w W) => show Calls Tryz.prog 52 #[.slice none 0 0] W fun e w' => e = .returned (.tuple #[str (sum []), .int .i64 0]) ∧ Below W.heap.size W w' from MerR.Root none 0 0 [] W ⟨rfl, fun h => absurd h (by simp)⟩ (by omega) (fun l hl => by simp at hl) (hr.step hb))
  have HQ : Hid (decide (r = sum []) = (r == sum [])) := Lib.hid (by rw [Bool.eq_iff_iff, decide_eq_true_eq, beq_iff_eq])
  rw [HQ.out]
  obtain ⟨q, hq⟩ : ∃ q, (r == sum []) = q := ⟨_, rfl⟩
  rw [hq]
  generalize sum [] = z at *
  have hn0 : (n == 0) = true := by rw [h0]; rfl
  clear hx hr HRd HO ho hs hn HQ h0
  have HPS : Hid (∀ W, Tb w r n b x W → W.cell? ⟨w.heap.size + 1 + 1, 0, none⟩ = some (.bool x.f) ∧ W.cell? ⟨w.heap.size + 1 + 1, 1, none⟩ = some (.int .i64 x.at_) ∧ W.cell? ⟨w.heap.size + 1 + 1, 2, none⟩ = some (.int .i64 x.here.1) ∧ W.cell? ⟨w.heap.size + 1 + 1, 3, none⟩ = some (st x.here.2) ∧ W.cell? ⟨w.heap.size + 1 + 1, 4, none⟩ = some (.int .i64 x.ahead.1) ∧ W.cell? ⟨w.heap.size + 1 + 1, 5, none⟩ = some (st x.ahead.2) ∧ W.cell? ⟨w.heap.size + 1 + 1, 6, none⟩ = some (.slice x.ua x.up.length x.uc) ∧ W.cell? ⟨w.heap.size + 1 + 1, 7, none⟩ = some (.slice x.la x.left.length x.lc) ∧ W.cell? ⟨w.heap.size, 6, none⟩ = some (.int .i64 n)) :=
    Lib.hid fun W h => ⟨blk_cell h.p rfl, blk_cell h.p rfl, blk_cell h.p rfl, blk_cell h.p rfl, blk_cell h.p rfl, blk_cell h.p rfl, blk_cell h.p rfl, blk_cell h.p rfl, blk_cell h.t rfl⟩
  obtain ⟨f, i, ⟨h0, h1⟩, ⟨a0, a1⟩, ua, uc, up, la, lc, left⟩ := x
  dsimp only at hf HW HPS
  subst hf
  dsimp only [Raw.cells] at HBr HSm
  have k0 := (HPS.out _ TB.out).1
  have k6 := (HPS.out _ TB.out).2.2.2.2.2.2.2.2
  go_enter Tryz.func57, Tryz.ntmps57
  go_upto_region 1 with (fail)
  rw [← hW1]
  clear hW1
  go_upto_region 4 with (fail)
  replace TB := Lib.hid (TB.out.step (Below.refl _ _).drew)
  have hS0 := HPS.out _ TB.out
  clear k0 k6
  go_region_held3 (fun W => W.cell? ⟨w.heap.size + 1 + 1, 0, none⟩ = some (.bool false) ∧ W.cell? ⟨w.heap.size + 1 + 1, 1, none⟩ = some (.int .i64 i) ∧ W.cell? ⟨w.heap.size + 1 + 1, 2, none⟩ = some (.int .i64 h0) ∧ W.cell? ⟨w.heap.size + 1 + 1, 3, none⟩ = some (st h1) ∧ W.cell? ⟨w.heap.size + 1 + 1, 4, none⟩ = some (.int .i64 a0) ∧ W.cell? ⟨w.heap.size + 1 + 1, 5, none⟩ = some (st a1) ∧ W.cell? ⟨w.heap.size + 1 + 1, 6, none⟩ = some (.slice ua up.length uc) ∧ W.cell? ⟨w.heap.size + 1 + 1, 7, none⟩ = some (.slice la left.length lc) ∧ W.cell? ⟨w.heap.size, 6, none⟩ = some (.int .i64 n))
    (first | exact hS0 | exact hS1 | exact hS2)
    (first
      | (go_at_call 56; refine (HW.out _).mono ?_; rintro e _ ⟨rfl, rfl⟩)
      | (go_at_call 79; refine (HBr.out _).mono ?_; rintro e w3 ⟨rfl, hb⟩; have T3 := Lib.hid (TB.out.step hb); have hS1 := HPS.out _ T3.out; clear hb)
      | (go_at_call 78; refine (HSm.out _ T3.out.d).mono ?_; rintro e w4 ⟨rfl, hb⟩; have T4 := Lib.hid (T3.out.step hb); have hS2 := HPS.out _ T4.out; clear hb))
  have m1 : w4.cell? ⟨w.heap.size, 1, none⟩ = some (fv 52) := blk_cell T4.out.t rfl
  have m6 : w4.cell? ⟨w.heap.size, 6, none⟩ = some (.int .i64 n) := blk_cell T4.out.t rfl
  go_wp2_with (go_at_call 52; refine (HRo.out _ T4.out.d).mono ?_; rintro e w5 ⟨rfl, hb⟩; have T5 := Lib.hid (T4.out.step hb); have m5 : w5.cell? ⟨w.heap.size, 5, none⟩ = some (st r) := blk_cell T5.out.t rfl; clear hb)
  go_ret
  exact ⟨rfl, T5.out.d⟩
set_option maxRecDepth 100000 in
set_option maxHeartbeats 4000000 in
theorem restf (r : L) (n b : Int) (x : Raw) (w : World) (hn : 0 ≤ n ∧ n ≤ 1000000) (hx : Okay w x) (hr : Rds w) (hf : x.f = true) (ho : inB x.at_ (lastP n (pf x)) = true) (hs : decide (pf x = bareP n (pf x)) = true) (h0 : n ≠ 0) : Calls Tryz.prog 57 #[.agg (trc r n), .int .i64 b, .agg x.cells] w fun e w' => e = .returned (.bool (allS (leadsS r n) (seatsP n (pf x)) && allS (asideS b) (seatsP n (pf x)))) ∧ Below w.heap.size w w' := by
  obtain ⟨W1, hW1⟩ : ∃ W1, W1 = ((w.alloc (.cells (trc r n) 101)).alloc (.cells #[.int .i64 b] 3)).alloc (.cells x.cells 48) := ⟨_, rfl⟩
  have TB := Lib.hid (show Tb w r n b x W1 by rw [hW1]; exact tb_new w r n b x)
  have HW := Lib.hid (fun W => within x.at_ (n - 1) W)
  have HRd := Lib.hid (fun W (hb : Below w.heap.size w W) => hr.step hb)
  have HO := Lib.hid (fun W (hb : Below w.heap.size w W) => hx.step hb)
  have HBr := Lib.hid (fun W => bare n x W)
  have HSm := Lib.hid (fun W (hb : Below w.heap.size w W) => have h := hx.step hb; have k := bare_okay n h; PrgS.same x (bareR n x) W h.u h.l k.1 k.2.1 h.un h.ln k.2.2.1 k.2.2.2)
  rw [same_bare] at HSm
  have hw1 : wrap64 (n - 1) = n - 1 := IntWalk.wrap64_in _ (by omega)
  have hw2 : IntKind.i64.wrap (n - 1) = n - 1 := IntWalk.i64_in _ (by omega)
  rw [show lastP n (pf x) = n - 1 by unfold lastP; rw [show (pf x).found = x.f from rfl, hf]; rfl] at ho
  rw [ho] at HW
  rw [hs] at HSm
  have hn0 : (n == 0) = false := by rw [beq_eq_false_iff_ne]; exact h0
  have HSe := Lib.hid (fun W => seats n x W hx.at_)
  have HE1 := Lib.hid (fun p c W (hb : Below w.heap.size w W) (hl : Seats W W.heap.size p (seatsR n x)) => every_leads r n (hx.step hb) (hr.step hb) p c hl)
  have HE2 := Lib.hid (fun p c W (hi : W.cell? ⟨w.heap.size + 1, 0, none⟩ = some (.int .i64 b)) (hl : Seats W W.heap.size p (seatsR n x)) => every_aside x n b (w.heap.size + 1) hi p c hl)
  generalize allS (leadsS r n) (seatsP n (pf x)) = q1 at *
  generalize allS (asideS b) (seatsP n (pf x)) = q2 at *
  generalize seatsR n x = l at *
  have hmf : ∀ (fn : Fn) (first cap : Array Value) (w : World), (Instr.makeFunc fn first cap).run Tryz.prog w = .ok (.func fn first cap) w := fun _ _ _ _ => rfl
  clear hx hr HRd HO ho hs hn h0
  have HPS : Hid (∀ W, Tb w r n b x W → W.cell? ⟨w.heap.size + 1 + 1, 0, none⟩ = some (.bool x.f) ∧ W.cell? ⟨w.heap.size + 1 + 1, 1, none⟩ = some (.int .i64 x.at_) ∧ W.cell? ⟨w.heap.size + 1 + 1, 2, none⟩ = some (.int .i64 x.here.1) ∧ W.cell? ⟨w.heap.size + 1 + 1, 3, none⟩ = some (st x.here.2) ∧ W.cell? ⟨w.heap.size + 1 + 1, 4, none⟩ = some (.int .i64 x.ahead.1) ∧ W.cell? ⟨w.heap.size + 1 + 1, 5, none⟩ = some (st x.ahead.2) ∧ W.cell? ⟨w.heap.size + 1 + 1, 6, none⟩ = some (.slice x.ua x.up.length x.uc) ∧ W.cell? ⟨w.heap.size + 1 + 1, 7, none⟩ = some (.slice x.la x.left.length x.lc) ∧ W.cell? ⟨w.heap.size, 6, none⟩ = some (.int .i64 n)) :=
    Lib.hid fun W h => ⟨blk_cell h.p rfl, blk_cell h.p rfl, blk_cell h.p rfl, blk_cell h.p rfl, blk_cell h.p rfl, blk_cell h.p rfl, blk_cell h.p rfl, blk_cell h.p rfl, blk_cell h.t rfl⟩
  obtain ⟨f, i, ⟨h0, h1⟩, ⟨a0, a1⟩, ua, uc, up, la, lc, left⟩ := x
  dsimp only at hf HW HPS
  subst hf
  dsimp only [Raw.cells] at HBr HSm
  have k0 := (HPS.out _ TB.out).1
  have k6 := (HPS.out _ TB.out).2.2.2.2.2.2.2.2
  go_enter Tryz.func57, Tryz.ntmps57
  go_upto_region 1 with (fail)
  rw [← hW1]
  clear hW1
  go_upto_region 4 with (fail)
  dsimp only [Raw.cells] at HSe
  replace TB := Lib.hid (TB.out.step (Below.refl _ _).drew)
  have hS0 := HPS.out _ TB.out
  clear k0 k6
  go_region_held3 (fun W => W.cell? ⟨w.heap.size + 1 + 1, 0, none⟩ = some (.bool true) ∧ W.cell? ⟨w.heap.size + 1 + 1, 1, none⟩ = some (.int .i64 i) ∧ W.cell? ⟨w.heap.size + 1 + 1, 2, none⟩ = some (.int .i64 h0) ∧ W.cell? ⟨w.heap.size + 1 + 1, 3, none⟩ = some (st h1) ∧ W.cell? ⟨w.heap.size + 1 + 1, 4, none⟩ = some (.int .i64 a0) ∧ W.cell? ⟨w.heap.size + 1 + 1, 5, none⟩ = some (st a1) ∧ W.cell? ⟨w.heap.size + 1 + 1, 6, none⟩ = some (.slice ua up.length uc) ∧ W.cell? ⟨w.heap.size + 1 + 1, 7, none⟩ = some (.slice la left.length lc) ∧ W.cell? ⟨w.heap.size, 6, none⟩ = some (.int .i64 n))
    (first | exact hS0 | exact hS1 | exact hS2)
    (first
      | (go_at_call 56; refine (HW.out _).mono ?_; rintro e _ ⟨rfl, rfl⟩)
      | (go_at_call 79; refine (HBr.out _).mono ?_; rintro e w3 ⟨rfl, hb⟩; have T3 := Lib.hid (TB.out.step hb); have hS1 := HPS.out _ T3.out; clear hb)
      | (go_at_call 78; refine (HSm.out _ T3.out.d).mono ?_; rintro e w4 ⟨rfl, hb⟩; have T4 := Lib.hid (T3.out.step hb); have hS2 := HPS.out _ T4.out; clear hb))
  obtain ⟨c0, c1, c2, c3, c4, c5, c6, c7, m6⟩ := HPS.out _ T4.out
  have F1 : Hid True := Lib.hid trivial
  cases q1
  · go_upto_region 11 with (go_at_call 81; refine (HSe.out _).mono ?_; rintro e w5 ⟨p, c, rfl, ho, hb⟩; have T5 := Lib.hid (T4.out.step hb); have S5 := Lib.hid (own_seats ho); clear ho hb c0 c1 c2 c3 c4 c5 c6 c7 m6)
    go_wp2_with (first
      | (refine wpList_load_row rfl 101 _ rfl w.heap.size rfl 101 _ (0, 0) _ T5.out.t Tryz.underlying101 rfl infoTr ?_)
      | (clear F1; go_at_call 82; refine (HE1.out _ _ _ T5.out.d S5.out).mono ?_; rintro e w6 ⟨rfl, hb⟩; have T6 := Lib.hid (T5.out.step hb); have S6 := Lib.hid ((S5.out.below hb).more hb.size); clear hb))
    go_ret
    exact ⟨rfl, T6.out.d⟩
  · go_upto_region 11 with (go_at_call 81; refine (HSe.out _).mono ?_; rintro e w5 ⟨p, c, rfl, ho, hb⟩; have T5 := Lib.hid (T4.out.step hb); have S5 := Lib.hid (own_seats ho); clear ho hb c0 c1 c2 c3 c4 c5 c6 c7 m6)
    go_wp2_with (first
      | (refine wpList_load_row rfl 101 _ rfl w.heap.size rfl 101 _ (0, 0) _ T5.out.t Tryz.underlying101 rfl infoTr ?_)
      | (clear F1; go_at_call 82; refine (HE1.out _ _ _ T5.out.d S5.out).mono ?_; rintro e w6 ⟨rfl, hb⟩; have T6 := Lib.hid (T5.out.step hb); have S6 := Lib.hid ((S5.out.below hb).more hb.size); clear hb)
      | (go_at_call 82; refine (HE2.out _ _ _ (blk_cell T6.out.i rfl) S6.out).mono ?_; rintro e w7 ⟨rfl, hb⟩; have T7 := Lib.hid (T6.out.step hb); clear hb))
    go_ret
    exact ⟨by simp, T7.out.d⟩
set_option maxRecDepth 100000 in
set_option maxHeartbeats 4000000 in
theorem rest (r : L) (n b : Int) (x : Raw) (w : World) (hn : 0 ≤ n ∧ n ≤ 1000000) (hx : Okay w x) (hr : Rds w) (hf : x.f = false) (ho : inB x.at_ (lastP n (pf x)) = true) (hs : decide (pf x = bareP n (pf x)) = true) (h0 : n ≠ 0) : Calls Tryz.prog 57 #[.agg (trc r n), .int .i64 b, .agg x.cells] w fun e w' => e = .returned (.bool (allS (leadsS r n) (seatsP n (pf x)) && allS (asideS b) (seatsP n (pf x)))) ∧ Below w.heap.size w w' := by
  obtain ⟨W1, hW1⟩ : ∃ W1, W1 = ((w.alloc (.cells (trc r n) 101)).alloc (.cells #[.int .i64 b] 3)).alloc (.cells x.cells 48) := ⟨_, rfl⟩
  have TB := Lib.hid (show Tb w r n b x W1 by rw [hW1]; exact tb_new w r n b x)
  have HW := Lib.hid (fun W => within x.at_ (n) W)
  have HRd := Lib.hid (fun W (hb : Below w.heap.size w W) => hr.step hb)
  have HO := Lib.hid (fun W (hb : Below w.heap.size w W) => hx.step hb)
  have HBr := Lib.hid (fun W => bare n x W)
  have HSm := Lib.hid (fun W (hb : Below w.heap.size w W) => have h := hx.step hb; have k := bare_okay n h; PrgS.same x (bareR n x) W h.u h.l k.1 k.2.1 h.un h.ln k.2.2.1 k.2.2.2)
  rw [same_bare] at HSm
  rw [show lastP n (pf x) = n by unfold lastP; rw [show (pf x).found = x.f from rfl, hf]; rfl] at ho
  rw [ho] at HW
  rw [hs] at HSm
  have hn0 : (n == 0) = false := by rw [beq_eq_false_iff_ne]; exact h0
  have HSe := Lib.hid (fun W => seats n x W hx.at_)
  have HE1 := Lib.hid (fun p c W (hb : Below w.heap.size w W) (hl : Seats W W.heap.size p (seatsR n x)) => every_leads r n (hx.step hb) (hr.step hb) p c hl)
  have HE2 := Lib.hid (fun p c W (hi : W.cell? ⟨w.heap.size + 1, 0, none⟩ = some (.int .i64 b)) (hl : Seats W W.heap.size p (seatsR n x)) => every_aside x n b (w.heap.size + 1) hi p c hl)
  generalize allS (leadsS r n) (seatsP n (pf x)) = q1 at *
  generalize allS (asideS b) (seatsP n (pf x)) = q2 at *
  generalize seatsR n x = l at *
  have hmf : ∀ (fn : Fn) (first cap : Array Value) (w : World), (Instr.makeFunc fn first cap).run Tryz.prog w = .ok (.func fn first cap) w := fun _ _ _ _ => rfl
  clear hx hr HRd HO ho hs hn h0
  have HPS : Hid (∀ W, Tb w r n b x W → W.cell? ⟨w.heap.size + 1 + 1, 0, none⟩ = some (.bool x.f) ∧ W.cell? ⟨w.heap.size + 1 + 1, 1, none⟩ = some (.int .i64 x.at_) ∧ W.cell? ⟨w.heap.size + 1 + 1, 2, none⟩ = some (.int .i64 x.here.1) ∧ W.cell? ⟨w.heap.size + 1 + 1, 3, none⟩ = some (st x.here.2) ∧ W.cell? ⟨w.heap.size + 1 + 1, 4, none⟩ = some (.int .i64 x.ahead.1) ∧ W.cell? ⟨w.heap.size + 1 + 1, 5, none⟩ = some (st x.ahead.2) ∧ W.cell? ⟨w.heap.size + 1 + 1, 6, none⟩ = some (.slice x.ua x.up.length x.uc) ∧ W.cell? ⟨w.heap.size + 1 + 1, 7, none⟩ = some (.slice x.la x.left.length x.lc) ∧ W.cell? ⟨w.heap.size, 6, none⟩ = some (.int .i64 n)) :=
    Lib.hid fun W h => ⟨blk_cell h.p rfl, blk_cell h.p rfl, blk_cell h.p rfl, blk_cell h.p rfl, blk_cell h.p rfl, blk_cell h.p rfl, blk_cell h.p rfl, blk_cell h.p rfl, blk_cell h.t rfl⟩
  obtain ⟨f, i, ⟨h0, h1⟩, ⟨a0, a1⟩, ua, uc, up, la, lc, left⟩ := x
  dsimp only at hf HW HPS
  subst hf
  dsimp only [Raw.cells] at HBr HSm
  have k0 := (HPS.out _ TB.out).1
  have k6 := (HPS.out _ TB.out).2.2.2.2.2.2.2.2
  go_enter Tryz.func57, Tryz.ntmps57
  go_upto_region 1 with (fail)
  rw [← hW1]
  clear hW1
  go_upto_region 4 with (fail)
  dsimp only [Raw.cells] at HSe
  replace TB := Lib.hid (TB.out.step (Below.refl _ _).drew)
  have hS0 := HPS.out _ TB.out
  clear k0 k6
  go_region_held3 (fun W => W.cell? ⟨w.heap.size + 1 + 1, 0, none⟩ = some (.bool false) ∧ W.cell? ⟨w.heap.size + 1 + 1, 1, none⟩ = some (.int .i64 i) ∧ W.cell? ⟨w.heap.size + 1 + 1, 2, none⟩ = some (.int .i64 h0) ∧ W.cell? ⟨w.heap.size + 1 + 1, 3, none⟩ = some (st h1) ∧ W.cell? ⟨w.heap.size + 1 + 1, 4, none⟩ = some (.int .i64 a0) ∧ W.cell? ⟨w.heap.size + 1 + 1, 5, none⟩ = some (st a1) ∧ W.cell? ⟨w.heap.size + 1 + 1, 6, none⟩ = some (.slice ua up.length uc) ∧ W.cell? ⟨w.heap.size + 1 + 1, 7, none⟩ = some (.slice la left.length lc) ∧ W.cell? ⟨w.heap.size, 6, none⟩ = some (.int .i64 n))
    (first | exact hS0 | exact hS1 | exact hS2)
    (first
      | (go_at_call 56; refine (HW.out _).mono ?_; rintro e _ ⟨rfl, rfl⟩)
      | (go_at_call 79; refine (HBr.out _).mono ?_; rintro e w3 ⟨rfl, hb⟩; have T3 := Lib.hid (TB.out.step hb); have hS1 := HPS.out _ T3.out; clear hb)
      | (go_at_call 78; refine (HSm.out _ T3.out.d).mono ?_; rintro e w4 ⟨rfl, hb⟩; have T4 := Lib.hid (T3.out.step hb); have hS2 := HPS.out _ T4.out; clear hb))
  obtain ⟨c0, c1, c2, c3, c4, c5, c6, c7, m6⟩ := HPS.out _ T4.out
  have F1 : Hid True := Lib.hid trivial
  cases q1
  · go_upto_region 11 with (go_at_call 81; refine (HSe.out _).mono ?_; rintro e w5 ⟨p, c, rfl, ho, hb⟩; have T5 := Lib.hid (T4.out.step hb); have S5 := Lib.hid (own_seats ho); clear ho hb c0 c1 c2 c3 c4 c5 c6 c7 m6)
    go_wp2_with (first
      | (refine wpList_load_row rfl 101 _ rfl w.heap.size rfl 101 _ (0, 0) _ T5.out.t Tryz.underlying101 rfl infoTr ?_)
      | (clear F1; go_at_call 82; refine (HE1.out _ _ _ T5.out.d S5.out).mono ?_; rintro e w6 ⟨rfl, hb⟩; have T6 := Lib.hid (T5.out.step hb); have S6 := Lib.hid ((S5.out.below hb).more hb.size); clear hb))
    go_ret
    exact ⟨rfl, T6.out.d⟩
  · go_upto_region 11 with (go_at_call 81; refine (HSe.out _).mono ?_; rintro e w5 ⟨p, c, rfl, ho, hb⟩; have T5 := Lib.hid (T4.out.step hb); have S5 := Lib.hid (own_seats ho); clear ho hb c0 c1 c2 c3 c4 c5 c6 c7 m6)
    go_wp2_with (first
      | (refine wpList_load_row rfl 101 _ rfl w.heap.size rfl 101 _ (0, 0) _ T5.out.t Tryz.underlying101 rfl infoTr ?_)
      | (clear F1; go_at_call 82; refine (HE1.out _ _ _ T5.out.d S5.out).mono ?_; rintro e w6 ⟨rfl, hb⟩; have T6 := Lib.hid (T5.out.step hb); have S6 := Lib.hid ((S5.out.below hb).more hb.size); clear hb)
      | (go_at_call 82; refine (HE2.out _ _ _ (blk_cell T6.out.i rfl) S6.out).mono ?_; rintro e w7 ⟨rfl, hb⟩; have T7 := Lib.hid (T6.out.step hb); clear hb))
    go_ret
    exact ⟨by simp, T7.out.d⟩
/-- THE CONTRACT of proves. -/
theorem proves (r : L) (n b : Int) (x : Raw) (w : World) (hn : 0 ≤ n ∧ n ≤ 1000000) (hx : Okay w x) (hr : Rds w) :
    Calls Tryz.prog 57 #[.agg (trc r n), .int .i64 b, .agg x.cells] w fun e w' => e = .returned (.bool (provesB r n b (pf x))) ∧ Below w.heap.size w w' := by
  have hin : decide (0 ≤ (pf x).at_ ∧ (pf x).at_ ≤ lastP n (pf x)) = inB x.at_ (lastP n (pf x)) := by
    unfold inB
    rw [Bool.eq_iff_iff, Bool.and_eq_true, decide_eq_true_eq, decide_eq_true_eq, decide_eq_true_eq]
    exact Iff.rfl
  unfold provesB
  rw [hin]
  cases ho : inB x.at_ (lastP n (pf x)) with
  | false =>
    rw [Bool.false_and, Bool.false_and]
    cases hf : x.f
    · exact out r n b x w hn hx hr hf ho
    · exact outf r n b x w hn hx hr hf ho
  | true =>
    cases hs : decide (pf x = bareP n (pf x)) with
    | false =>
      rw [Bool.and_false, Bool.false_and]
      cases hf : x.f
      · exact unlike r n b x w hn hx hr hf ho hs
      · exact unlikef r n b x w hn hx hr hf ho hs
    | true =>
      rw [Bool.and_self, Bool.true_and]
      by_cases h0 : n = 0
      · rw [if_pos h0]
        cases hf : x.f
        · exact nought r n b x w hn hx hr hf ho hs h0
        · exact noughtf r n b x w hn hx hr hf ho hs h0
      · rw [if_neg h0]
        cases hf : x.f
        · exact rest r n b x w hn hx hr hf ho hs h0
        · exact restf r n b x w hn hx hr hf ho hs h0
end Go.Proofs.YtdkcebaehdkphaaGreatDoor.PrgV
