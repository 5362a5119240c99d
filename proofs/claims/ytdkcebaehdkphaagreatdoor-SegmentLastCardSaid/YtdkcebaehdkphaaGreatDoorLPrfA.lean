/- PrfM PrfB PrfG PrfR: one behind the other. -/
import Derived.Test.YtdkcebaehdkphaaGreatDoorPrfL
import Derived.Test.YtdkcebaehdkphaaGreatDoorLHash
import Derived.Deep.Slices
import Derived.Deep.Grids
import Derived.Deep.Fields
import Derived.OpenShut
import Derived.WalkArith
import Derived.Laws.StructEq
/- Leaves and proofs in memory: what they read as; leaves, a row of leaves, a proof by value that come in. The conditions: that they came in as a Go program's values. -/
namespace Go.Proofs.YtdkcebaehdkphaaGreatDoor.PrfM
open Go.RowKit Go.ChangeShapes Go.WideShapes
open PrfL MerQ SSum
theorem cLeaf : Tryz.prog.cellsOf 45 = 2 := by kernel_rfl
theorem cInt : Tryz.prog.cellsOf 3 = 1 := by kernel_rfl
theorem cBool : Tryz.prog.cellsOf 4 = 1 := by kernel_rfl
theorem cStr : Tryz.prog.cellsOf 9 = 1 := by kernel_rfl
theorem cPath : Tryz.prog.cellsOf 46 = 1 := by kernel_rfl
theorem cProof : Tryz.prog.cellsOf 48 = 8 := by kernel_rfl
/-- A text. -/
abbrev st (l : L) : Value := .string ⟨l.toArray⟩
/-- A leaf as cells, as a value. -/
def lc (x : Lf) : List Value := [.int .i64 x.1, st x.2]
def lv (x : Lf) : Value := .agg #[.int .i64 x.1, st x.2]
/-- A leaf that came in. -/
def Fit (x : Lf) : Prop := x.2.length ≤ maxLen
theorem st_of (s : ByteArray) : st s.data.toList = .string s := by
  show Value.string ⟨s.data.toList.toArray⟩ = .string s
  rw [Array.toArray_toList]
set_option maxRecDepth 100000 in
theorem leaf_cells {H : Type} {enc : TypeId × Value → H} {W : World} {fuel : Nat} {cs : List Value} {x : DataW H × List MemPlace} (h : DataW.trod enc Tryz.prog W 0 (fun _ => true) true fuel 45 cs = some x) : ∃ v : Lf, cs = lc v ∧ Fit v := by
  obtain ⟨xs, m, _, _, hl, hxl, hel⟩ := DataW.trod_struct Tryz.underlying45 h
  rw [cLeaf] at hl
  have e0 : DataW.trod enc Tryz.prog W 0 (fun _ => true) true m 3 ((cs.drop 0).take (Tryz.prog.cellsOf 3)) = xs[0]? := hel 0 _ rfl
  rw [cInt] at e0
  have e1 : DataW.trod enc Tryz.prog W 0 (fun _ => true) true m 9 ((cs.drop 1).take (Tryz.prog.cellsOf 9)) = xs[1]? := hel 1 _ rfl
  rw [cStr] at e1
  match xs, hxl with
  | [y0, y1], _ =>
    match cs, hl with
    | [v0, v1], _ =>
      obtain ⟨a, h0, _, _⟩ := DataW.trod_int Tryz.underlying3 e0
      obtain ⟨s, h1, _, w1⟩ := DataW.trod_string Tryz.underlying9 e1
      simp at h0 h1
      subst h0 h1
      refine ⟨(a, s.data.toList), ?_, ?_⟩
      · unfold lc
        rw [st_of]
      · unfold Fit
        simpa using w1
/-- A row of leaves reads as these. -/
def Lies (W : World) (a : Option Addr) (l : List Lf) : Prop :=
  0 < l.length → ∃ g o, a = some ⟨g, o, none⟩ ∧ g < W.heap.size ∧ ∀ i, i < l.length → W.cell? ⟨g, o + i * 2, none⟩ = some (.int .i64 (l.getD i no).1) ∧ W.cell? ⟨g, o + i * 2 + 1, none⟩ = some (st (l.getD i no).2)
theorem Lies.nil (W : World) (a : Option Addr) : Lies W a [] := fun h => absurd h (by simp)
theorem Lies.step {W W' : World} {a : Option Addr} {l : List Lf} (h : Lies W a l) (hb : Below W.heap.size W W') : Lies W' a l := fun h0 => by
  obtain ⟨g, o, e, hg, hc⟩ := h h0
  refine ⟨g, o, e, Nat.lt_of_lt_of_le hg hb.size, fun i hi => ?_⟩
  obtain ⟨c0, c1⟩ := hc i hi
  exact ⟨(hb.cell (p := ⟨g, o + i * 2, none⟩) hg).trans c0, (hb.cell (p := ⟨g, o + i * 2 + 1, none⟩) hg).trans c1⟩
/-- A row of leaves that came in. -/
def Lvs (W : World) (a : Option Addr) (n : Nat) (l : List Lf) : Prop := l.length = n ∧ n ≤ maxLen ∧ (∀ x ∈ l, Fit x) ∧ Lies W a l
set_option maxRecDepth 100000 in
theorem open_leaves {H : Type} {enc : TypeId × Value → H} {W : World} {v : Value} {d : DataW H} {p : List MemPlace}
    (h : DataW.Trod enc Tryz.prog W 0 (fun _ => true) true 30 v d p) : ∃ a n cap l, v.cells.toList = [.slice a n cap] ∧ Lvs W a n l := by
  obtain ⟨fuel, hf⟩ := h
  rcases Go.Deep.open_slice Tryz.underlying30 hf with ⟨hcs, _⟩ | ⟨a, len, cap, m, n, D, Pl, hcs, _, hl, hm, hmm, _, hi⟩
  · exact ⟨none, 0, 0, [], hcs, rfl, Nat.zero_le _, (fun x hx => by simp at hx), Lies.nil _ _⟩
  · have hml : len ≤ m := by simp at hmm; omega
    have each : ∀ i, ∃ x : Lf, i < len → Fit x ∧ W.cell? (a.add (i * 2)) = some (.int .i64 x.1) ∧ W.cell? (a.add (i * 2 + 1)) = some (st x.2) := by
      intro i
      by_cases hil : i < len
      · obtain ⟨cs', hc, ht⟩ := hi i (by omega)
        obtain ⟨x, hx, hfit⟩ := leaf_cells ht
        rw [cLeaf] at hc
        obtain ⟨_, hlen, hat⟩ := World.cells?_some hc
        refine ⟨x, fun _ => ⟨hfit, ?_, ?_⟩⟩
        · have := hat 0 (by omega)
          rw [hx, Go.Deep.add_add] at this
          exact this
        · have := hat 1 (by omega)
          rw [hx, Go.Deep.add_add] at this
          exact this
      · exact ⟨no, fun h => absurd h hil⟩
    obtain ⟨z, hz⟩ := Classical.axiomOfChoice each
    refine ⟨some a, len, cap, (List.range len).map z, hcs, by simp, by omega, (fun x hx => ?_), fun h0 => ?_⟩
    · obtain ⟨i, hi, rfl⟩ := List.mem_map.1 hx
      exact (hz i (List.mem_range.1 hi)).1
    have h0' : 0 < len := by simpa using h0
    obtain ⟨g, o, spot⟩ := a
    have hc0 := (hz 0 h0').2.1
    have hspot : spot = none := by simpa [Addr.add] using World.cell?_spot hc0
    subst hspot
    refine ⟨g, o, rfl, World.block_lt_of_cell? W _ (by simpa [Addr.add] using hc0), fun i k => ?_⟩
    have hil : i < len := by simpa using k
    obtain ⟨_, q0, q1⟩ := hz i hil
    rw [add_off] at q0 q1
    rw [at_d _ k]
    simp only [List.getElem_map, List.getElem_range]
    exact ⟨q0, by rw [Nat.add_assoc]; exact q1⟩
/-- A path that came in. -/
def Pth (W : World) (a : Option Addr) (p : List L) : Prop := Strs W W.heap.size a p.length p ∧ (∀ x ∈ p, x.length ≤ maxLen) ∧ p.length ≤ maxLen
set_option maxRecDepth 100000 in
theorem open_path {H : Type} {enc : TypeId × Value → H} {W : World} {fuel : Nat} {cs : List Value} {x : DataW H × List MemPlace} (h : DataW.trod enc Tryz.prog W 0 (fun _ => true) true fuel 46 cs = some x) :
    ∃ a cap, ∃ p : List L, cs = [.slice a p.length cap] ∧ Pth W a p := by
  rcases Go.Deep.open_slice Tryz.underlying46 h with ⟨hcs, _⟩ | ⟨a, len, cap, m, n, D, Pl, hcs, _, hl, hm, hmm, _, hi⟩
  · exact ⟨none, 0, [], hcs, ⟨rfl, fun h => absurd h (by simp)⟩, (fun x hx => by simp at hx), Nat.zero_le _⟩
  · have hml : len ≤ m := by simp at hmm; omega
    have each : ∀ i, ∃ s : L, i < len → s.length ≤ maxLen ∧ W.cell? (a.add i) = some (st s) := by
      intro i
      by_cases hil : i < len
      · obtain ⟨cs', hc, ht⟩ := hi i (by omega)
        obtain ⟨s, hs, _, w⟩ := DataW.trod_string Tryz.underlying9 ht
        rw [cStr] at hc
        obtain ⟨_, hlen, hat⟩ := World.cells?_some hc
        refine ⟨s.data.toList, fun _ => ⟨by simpa using w, ?_⟩⟩
        have := hat 0 (by omega)
        rw [hs] at this
        rw [st_of]
        simpa [Addr.add] using this
      · exact ⟨[], fun h => absurd h hil⟩
    obtain ⟨f, hf'⟩ := Classical.axiomOfChoice each
    have hlen : ((List.range len).map f).length = len := by simp
    refine ⟨some a, cap, (List.range len).map f, by rw [hlen]; exact hcs, ⟨rfl, fun h0 => ?_⟩, (fun x hx => ?_), by rw [hlen]; omega⟩
    · rw [hlen] at h0
      obtain ⟨b, off, spot⟩ := a
      have hc0 := (hf' 0 h0).2
      have hspot : spot = none := by simpa [Addr.add] using World.cell?_spot hc0
      subst hspot
      refine ⟨b, off, rfl, World.block_lt_of_cell? W _ (by simpa [Addr.add] using hc0), fun k hk => ?_⟩
      rw [hlen] at hk
      have := (hf' k hk).2
      rw [add_off] at this
      rw [this, show (List.map f (List.range len)).getD k [] = f k by simp [List.getD, hk]]
    · obtain ⟨i, hi, rfl⟩ := List.mem_map.1 hx
      exact (hf' i (List.mem_range.1 hi)).1
/-- A proof as it comes in. -/
structure Raw where
  f : Bool
  at_ : Int
  here : Lf
  ahead : Lf
  ua : Option Addr
  uc : Nat
  up : List L
  la : Option Addr
  lc : Nat
  left : List L
def Raw.cells (x : Raw) : Array Value := #[.bool x.f, .int .i64 x.at_, .int .i64 x.here.1, st x.here.2, .int .i64 x.ahead.1, st x.ahead.2, .slice x.ua x.up.length x.uc, .slice x.la x.left.length x.lc]
/-- What a proof that came in is. -/
def RawOk (W : World) (x : Raw) : Prop := Fit x.here ∧ Fit x.ahead ∧ Pth W x.ua x.up ∧ Pth W x.la x.left ∧ -9223372036854775808 ≤ x.at_ ∧ x.at_ ≤ 9223372036854775807
set_option maxRecDepth 100000 in
set_option maxHeartbeats 1000000 in
theorem proof_cells {H : Type} {enc : TypeId × Value → H} {W : World} {fuel : Nat} {cs : List Value} {x : DataW H × List MemPlace} (h : DataW.trod enc Tryz.prog W 0 (fun _ => true) true fuel 48 cs = some x) : ∃ v : Raw, cs = v.cells.toList ∧ RawOk W v := by
  obtain ⟨xs, m, _, _, hl, hxl, hel⟩ := DataW.trod_struct Tryz.underlying48 h
  rw [cProof] at hl
  have e0 : DataW.trod enc Tryz.prog W 0 (fun _ => true) true m 4 ((cs.drop 0).take (Tryz.prog.cellsOf 4)) = xs[0]? := hel 0 _ rfl
  rw [cBool] at e0
  have e1 : DataW.trod enc Tryz.prog W 0 (fun _ => true) true m 3 ((cs.drop 1).take (Tryz.prog.cellsOf 3)) = xs[1]? := hel 1 _ rfl
  rw [cInt] at e1
  have e2 : DataW.trod enc Tryz.prog W 0 (fun _ => true) true m 45 ((cs.drop 2).take (Tryz.prog.cellsOf 45)) = xs[2]? := hel 2 _ rfl
  rw [cLeaf] at e2
  have e3 : DataW.trod enc Tryz.prog W 0 (fun _ => true) true m 45 ((cs.drop 4).take (Tryz.prog.cellsOf 45)) = xs[3]? := hel 3 _ rfl
  rw [cLeaf] at e3
  have e4 : DataW.trod enc Tryz.prog W 0 (fun _ => true) true m 46 ((cs.drop 6).take (Tryz.prog.cellsOf 46)) = xs[4]? := hel 4 _ rfl
  rw [cPath] at e4
  have e5 : DataW.trod enc Tryz.prog W 0 (fun _ => true) true m 46 ((cs.drop 7).take (Tryz.prog.cellsOf 46)) = xs[5]? := hel 5 _ rfl
  rw [cPath] at e5
  match xs, hxl with
  | [y0, y1, y2, y3, y4, y5], _ =>
    match cs, hl with
    | [v0, v1, v2, v3, v4, v5, v6, v7], _ =>
      obtain ⟨b, h0, _⟩ := DataW.trod_bool Tryz.underlying4 e0
      obtain ⟨k, h1, _, w1⟩ := DataW.trod_int Tryz.underlying3 e1
      obtain ⟨x2, h2, g2⟩ := leaf_cells e2
      obtain ⟨x3, h3, g3⟩ := leaf_cells e3
      obtain ⟨a4, c4, p4, h4, g4⟩ := open_path e4
      obtain ⟨a5, c5, p5, h5, g5⟩ := open_path e5
      simp [lc] at h0 h1 h2 h3 h4 h5
      obtain ⟨rfl, rfl⟩ := h2
      obtain ⟨rfl, rfl⟩ := h3
      subst h0 h1 h4 h5
      exact ⟨⟨b, k, x2, x3, a4, c4, p4, a5, c5, p5⟩, rfl, g2, g3, g4, g5, bounds_i64 w1⟩
set_option maxRecDepth 100000 in
/-- A proof by value. -/
theorem open_proof {H : Type} {enc : TypeId × Value → H} {W : World} {r : Reach} {b0 : Nat} {v : Value} {d : DataW H} {p : List MemPlace} (hval : Value.okWide Tryz.prog W r b0 48 v)
    (h : DataW.Trod enc Tryz.prog W 0 (fun _ => true) true 48 v d p) : ∃ x : Raw, v = .agg x.cells ∧ RawOk W x := by
  obtain ⟨cs, rfl, _⟩ := okWide_struct Tryz.underlying48 hval
  obtain ⟨fuel, hf⟩ := h
  obtain ⟨x, hx, g⟩ := proof_cells hf
  refine ⟨x, ?_, g⟩
  have : cs = x.cells := by
    have := hx
    simp only [Value.cells] at this
    exact Array.toList_inj.1 this
  rw [this]
end Go.Proofs.YtdkcebaehdkphaaGreatDoor.PrfM
/- A leaf in a box of its own. No conditions but those that each lemma names. -/
namespace Go.Proofs.YtdkcebaehdkphaaGreatDoor.PrfB
open Go.RowKit
open PrfL PrfM MerQ
/-- A leaf in a box of its own. -/
def Box (B : Nat) (x : Lf) (W : World) : Prop := W.cell? ⟨B, 0, none⟩ = some (.int .i64 x.1) ∧ W.cell? ⟨B, 1, none⟩ = some (st x.2)
theorem box_new (w : World) (x : Lf) : Box w.heap.size x (w.alloc (.cells #[.int .i64 x.1, st x.2] 45)) :=
  ⟨blk_cell (heap_alloc_new w _) rfl, blk_cell (heap_alloc_new w _) rfl⟩
theorem Box.lt {B : Nat} {x : Lf} {W : World} (h : Box B x W) : B < W.heap.size := World.block_lt_of_cell? W _ h.1
theorem Box.step {B : Nat} {x : Lf} {W W' : World} (h : Box B x W) (hb : Below W.heap.size W W') : Box B x W' :=
  ⟨(hb.cell (p := ⟨B, 0, none⟩) h.lt).trans h.1, (hb.cell (p := ⟨B, 1, none⟩) h.lt).trans h.2⟩
theorem below_new (w : World) (o : Obj) : Below w.heap.size w (w.alloc o) := (Below.refl _ _).alloc (Nat.le_refl _) _
theorem put4 {n : Int} (h : 0 ≤ n ∧ n ≤ 4095) : put n 4 = (be 4 n.toNat, 0) := by
  unfold put
  have e : (256 : Int) ^ (4 : Int).toNat = 4294967296 := rfl
  rw [if_pos ⟨by omega, by omega, by omega, by rw [e]; omega⟩]
  rfl
end Go.Proofs.YtdkcebaehdkphaaGreatDoor.PrfB
/- Two leaves held against each other; a proof in a box of its own; whether two proofs are the same. No conditions but those that each lemma names. -/
namespace Go.Proofs.YtdkcebaehdkphaaGreatDoor.PrfG
open Go.RowKit
open PrfL PrfM PrfB MerQ
theorem str_beq (s t : ByteArray) : (s.toList == t.toList) = decide (s = t) := by
  rw [Bool.eq_iff_iff, beq_iff_eq, decide_eq_true_eq, ByteArray.toList_eq, ByteArray.toList_eq]
  refine ⟨fun h => ?_, fun h => by rw [h]⟩
  obtain ⟨x⟩ := s
  obtain ⟨y⟩ := t
  have : x = y := Array.toList_inj.1 h
  rw [this]
theorem fields_leaf : Tryz.prog.fieldsOf 45 = #[{ name := "Lba", type := 3, offset := 0, embedded := false, tag := "", pkgPath := "", byteOffset := 0 }, { name := "Hash", type := 9, offset := 1, embedded := false, tag := "", pkgPath := "", byteOffset := 8 }] := by kernel_rfl
theorem under_leaf : Tryz.prog.underlying 45 = some (.struct (Tryz.prog.fieldsOf 45)) := by kernel_rfl
theorem stood_leaf : Tryz.prog.stoodInHeld 45 = false := by kernel_rfl
theorem st_inj (s t : L) : decide ((⟨s.toArray⟩ : ByteArray) = ⟨t.toArray⟩) = decide (s = t) := by
  rw [decide_eq_decide]
  refine ⟨fun h => ?_, fun h => by rw [h]⟩
  have : s.toArray = t.toArray := by injection h
  exact List.toArray_inj this
theorem run_eql_leaf (W : World) (a b : Int) (s t : L) (q : Bool) (h : decide ((a, s) = (b, t)) = q) :
    (binOp .eql 45 (.agg #[.int .i64 a, st s]) (.agg #[.int .i64 b, st t])).run Tryz.prog W = .ok (.bool q) W := by
  have e1 : (Op.equalIn 9999 3 (.int .i64 a) (.int .i64 b)).run Tryz.prog W = .ok (a == b) W := run_equalIn_int W 9998 3 .i64 .i64 a b Tryz.underlying3
  have e2 : (Op.equalIn 9999 9 (st s) (st t)).run Tryz.prog W = .ok (_ == _) W := run_equalIn_string W 9998 9 _ _ Tryz.underlying9
  have p0 : ∀ (x : Int) (u : ByteArray), (part 3 #[.int .i64 x, .string u] 0).run Tryz.prog W = .ok (.int .i64 x) W := fun x u => by simp [part, isAgg, run_underlying Tryz.underlying3]
  have p1 : ∀ (x : Int) (u : ByteArray), (part 9 #[.int .i64 x, .string u] 1).run Tryz.prog W = .ok (.string u) W := fun x u => by simp [part, isAgg, run_underlying Tryz.underlying9]
  rw [run_eql_struct, run_equalIn_struct W 9999 _ _ _ under_leaf stood_leaf, fields_leaf]
  rw [str_beq, st_inj] at e2
  subst h
  simp only [Op.eqFields, Sem.run_bind, Sem.run_ite, p0, p1, e1, e2, Result.andThen_ok]
  by_cases h1 : a = b <;> by_cases h2 : s = t <;> simp [h1, h2]
/-- Are two proofs the same? -/
def sameB (x y : Raw) : Bool := decide (x.f = y.f) && decide (x.at_ = y.at_) && decide (x.here = y.here) && decide (x.ahead = y.ahead) && decide (x.up = y.up) && decide (x.left = y.left)
theorem drawn {B : Nat} {a w : World} (h : Below B a w) (n : Nat) : Below B a (w.drewN n) := h.trans ⟨rfl, rfl, rfl, Nat.le_refl _, fun _ _ => rfl⟩
/-- A proof in a box of its own. -/
def BoxP (B : Nat) (x : Raw) (W : World) : Prop := W.cell? ⟨B, 0, none⟩ = some (.bool x.f) ∧ W.cell? ⟨B, 1, none⟩ = some (.int .i64 x.at_) ∧ W.cell? ⟨B, 2, none⟩ = some (.int .i64 x.here.1) ∧ W.cell? ⟨B, 3, none⟩ = some (st x.here.2) ∧ W.cell? ⟨B, 4, none⟩ = some (.int .i64 x.ahead.1) ∧ W.cell? ⟨B, 5, none⟩ = some (st x.ahead.2) ∧
  W.cell? ⟨B, 6, none⟩ = some (.slice x.ua x.up.length x.uc) ∧ W.cell? ⟨B, 7, none⟩ = some (.slice x.la x.left.length x.lc)
theorem boxp_of {B : Nat} {x : Raw} {W : World} (h : W.heap[B]? = some (.cells x.cells 48 (0, 0))) : BoxP B x W :=
  ⟨blk_cell h rfl, blk_cell h rfl, blk_cell h rfl, blk_cell h rfl, blk_cell h rfl, blk_cell h rfl, blk_cell h rfl, blk_cell h rfl⟩
theorem two_new (w : World) (x y : Raw) : BoxP w.heap.size x ((w.alloc (.cells x.cells 48)).alloc (.cells y.cells 48)) ∧ BoxP (w.heap.size + 1) y ((w.alloc (.cells x.cells 48)).alloc (.cells y.cells 48)) := by
  have h1 := heap_alloc_new w (.cells x.cells 48)
  have h2 := heap_alloc_new (w.alloc (.cells x.cells 48)) (.cells y.cells 48)
  rw [World.size_alloc] at h2
  exact ⟨boxp_of ((Below.heap_alloc _ _ _ (by simp)).trans h1), boxp_of h2⟩
end Go.Proofs.YtdkcebaehdkphaaGreatDoor.PrfG
/- Leaves that may be, as they are gone through one behind the other; a text held against the empty one. No conditions but those that each lemma names. -/
namespace Go.Proofs.YtdkcebaehdkphaaGreatDoor.PrfR
open Go.RowKit
open PrfL PrfM PrfB MerQ
theorem eq_nil (x : L) (q : Bool) (h : decide (x = []) = q) (W : World) : (Op.stringOp .eql ⟨x.toArray⟩ ⟨#[]⟩).run Tryz.prog W = .ok (.bool q) W := by
  have e : ((⟨x.toArray⟩ : ByteArray).toList == (⟨#[]⟩ : ByteArray).toList) = q := by
    rw [← h, Bool.eq_iff_iff, beq_iff_eq, decide_eq_true_eq, ByteArray.toList_eq, ByteArray.toList_eq]
  rw [← e]
  rfl
/-- So far, they may be. -/
def Far (l : List Lf) (k : Nat) : Prop := (∀ i, i < k → okL (l.getD i no) = true) ∧ ∀ i, i + 1 < k → (l.getD i no).1 < (l.getD (i + 1) no).1
theorem far_zero (l : List Lf) : Far l 0 := ⟨fun i h => absurd h (by omega), fun i h => absurd h (by omega)⟩
theorem far_one {l : List Lf} (h : okL (l.getD 0 no) = true) : Far l 1 := by
  refine ⟨fun i hi => ?_, fun i h => absurd h (by omega)⟩
  obtain rfl : i = 0 := by omega
  exact h
theorem far_next {l : List Lf} {k : Nat} (h : Far l (k + 1)) (ho : okL (l.getD (k + 1) no) = true) (hr : (l.getD k no).1 < (l.getD (k + 1) no).1) : Far l (k + 1 + 1) :=
  ⟨fun i hi => by
    by_cases e : i = k + 1
    · rw [e]; exact ho
    · exact h.1 i (by omega), fun i hi => by
    by_cases e : i = k
    · rw [e]; exact hr
    · exact h.2 i (by omega)⟩
theorem rise_of : ∀ {l : List Lf}, (∀ i, i + 1 < l.length → (l.getD i no).1 < (l.getD (i + 1) no).1) → rise l = true
  | [], _ => rfl
  | [_], _ => rfl
  | a :: b :: t, h => by
    unfold rise
    rw [decide_eq_true (show a.1 < b.1 from h 0 (by simp)), rise_of (l := b :: t) fun i hi => h (i + 1) (by simpa using hi)]
    rfl
theorem far_all {l : List Lf} (h : Far l l.length) : right l = true := by
  unfold right
  rw [rise_of h.2, List.all_eq_true.2 fun x hx => ?_]
  · rfl
  · obtain ⟨i, hi, rfl⟩ := List.getElem_of_mem hx
    have := h.1 i hi
    rwa [at_d _ hi] at this
theorem bad_leaf {l : List Lf} {k : Nat} (hk : k < l.length) (h : okL (l.getD k no) = false) : right l = false := by
  cases hr : right l with
  | false => rfl
  | true => rw [right_at hr hk] at h; simp at h
theorem bad_rise {l : List Lf} {k : Nat} (hk : k + 1 < l.length) (h : (l.getD (k + 1) no).1 ≤ (l.getD k no).1) : right l = false := by
  cases hr : right l with
  | false => rfl
  | true => have := rise_at (right_rise hr) (i := k) (j := k + 1) (by omega) hk; omega
end Go.Proofs.YtdkcebaehdkphaaGreatDoor.PrfR
