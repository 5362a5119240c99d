/- A cell in a block of memory: its five cells; two held against each other; what stands while a function runs. No conditions but those that each lemma names. -/
import Derived.Test.YteobimhibhfokaaCelN
import Derived.Test.YteobimhibhfokaaMem
import Derived.Test.YteobimhibhfokaaRows
import Derived.Laws.StructEq
import Derived.Deep.QuietTactic
import Derived.BigQuiet
import Derived.Deep.DeepCutAuto
namespace Go.Proofs.Yteobimhibhfokaa.CelC
open Go.RowKit
open CelN
theorem mk_append (l m : List UInt8) : (⟨l.toArray⟩ : ByteArray) ++ ⟨m.toArray⟩ = ⟨(l ++ m).toArray⟩ := by
  apply ByteArray.ext
  simp [ByteArray.data_append]
theorem size_mk (s : List UInt8) : (⟨s.toArray⟩ : ByteArray).size = s.length := by simp [ByteArray.size]
theorem ext_at (s : List UInt8) (n m : Nat) : (⟨s.toArray⟩ : ByteArray).extract n m = ⟨((s.drop n).take (m - n)).toArray⟩ := by rw [ByteArray.extract_mk]
theorem dt {p : Prop} [Decidable p] (h : p) : decide p = true := decide_eq_true h
theorem df {p : Prop} [Decidable p] (h : ¬ p) : decide p = false := decide_eq_false h
theorem text_mk (s : List UInt8) : text ⟨s.toArray⟩ = ⟨(txt s).toArray⟩ := by
  unfold text txt
  rw [size_mk, mk_append]
theorem lt_of_some {w : World} {g : Nat} {o : Obj} (h : w.heap[g]? = some o) : g < w.heap.size := (Array.getElem?_eq_some_iff.1 h).1
/-- A struct stored into a new block. -/
theorem kept_new (w : World) (old cs : Array Value) (t : TypeId) : Below w.heap.size w ((w.alloc (.cells old t)).setRow w.heap.size cs) := below_setRow ((Below.refl _ _).alloc (Nat.le_refl _) _) (Nat.le_refl _) _
theorem has_new (w : World) (old cs : Array Value) (t : TypeId) : ((w.alloc (.cells old t)).setRow w.heap.size cs).heap[w.heap.size]? = some (.cells cs t (0, 0)) := setRow_same (heap_alloc_new w _)
theorem below_new (w : World) (o : Obj) : Below w.heap.size w (w.alloc o) := (Below.refl _ _).alloc (Nat.le_refl _) _
/-- Results of which the first is a struct in a cell. -/
theorem results_cell_tmp_row {P : Program} {fn : Func} {p u : Tmp} {ty : TypeId} (h : fn.results = #[.cell p ty, .tmp u]) (tmps : Array Value) (w : World) (g : Nat) (t : TypeId) (cs : Array Value) (fr : Nat × Nat) (d : TypeDesc)
    (hp : tmps.getD p undef = .pointer (some ⟨g, 0, none⟩)) (hg : w.heap[g]? = some (.cells cs t fr))
    (hu : P.underlying ty = some d) (hd : (match d with | .struct _ | .array _ _ => true | _ => false) = true) (hi : (P.info? ty).map (·.size) = some cs.size) :
    (results fn tmps).run P w = .ok (.tuple #[.agg cs, tmps.getD u undef]) w := by
  rw [results_cell_tmp h, hp]
  simp [asAddr, run_loadVar_row w g t ty cs fr d hg hu hd hi]
theorem infoC : (Try.prog.info? 23).map (·.size) = some 5 := by kernel_rfl
theorem one5 (ep sl lb : Int) (gn : Bool) (ci : List UInt8) : (#[.int .i64 ep, .int .i64 sl, .int .i64 lb, .bool gn, .string ⟨ci.toArray⟩] : Array Value).all (·.oneCell') = true := by simp [Value.oneCell']
/-- A cell in a block. -/
def Bk (W : World) (X : Nat) (ep sl lb : Int) (gn : Bool) (ci : List UInt8) : Prop := W.heap[X]? = some (.cells #[.int .i64 ep, .int .i64 sl, .int .i64 lb, .bool gn, .string ⟨ci.toArray⟩] 23 (0, 0))
theorem Bk.lt {W : World} {X : Nat} {ep sl lb : Int} {gn : Bool} {ci : List UInt8} (h : Bk W X ep sl lb gn ci) : X < W.heap.size := lt_of_some h
theorem Bk.step {W W' : World} {X : Nat} {ep sl lb : Int} {gn : Bool} {ci : List UInt8} (h : Bk W X ep sl lb gn ci) (hb : Below W.heap.size W W') : Bk W' X ep sl lb gn ci := (hb.block _ h.lt).trans h
theorem Bk.drew {W : World} {X : Nat} {ep sl lb : Int} {gn : Bool} {ci : List UInt8} (h : Bk W X ep sl lb gn ci) : Bk W.drew X ep sl lb gn ci := h
theorem Bk.cells {W : World} {X : Nat} {ep sl lb : Int} {gn : Bool} {ci : List UInt8} (h : Bk W X ep sl lb gn ci) : W.cell? ⟨X, 0, none⟩ = some (.int .i64 ep) ∧ W.cell? ⟨X, 1, none⟩ = some (.int .i64 sl) ∧ W.cell? ⟨X, 2, none⟩ = some (.int .i64 lb) ∧ W.cell? ⟨X, 3, none⟩ = some (.bool gn) ∧ W.cell? ⟨X, 4, none⟩ = some (.string ⟨ci.toArray⟩) :=
  ⟨blk_cell h rfl, blk_cell h rfl, blk_cell h rfl, blk_cell h rfl, blk_cell h rfl⟩
/-- What stands while a function runs that was given a cell: what was stays, the cell in its block. -/
structure Ws (w : World) (ep sl lb : Int) (gn : Bool) (ci : List UInt8) (W : World) : Prop where
  bel : Below w.heap.size w W
  k : Bk W w.heap.size ep sl lb gn ci
theorem ws_new (w : World) (ep sl lb : Int) (gn : Bool) (ci : List UInt8) : Ws w ep sl lb gn ci (w.alloc (.cells #[.int .i64 ep, .int .i64 sl, .int .i64 lb, .bool gn, .string ⟨ci.toArray⟩] 23)) := ⟨below_new w _, heap_alloc_new w _⟩
theorem Ws.step {w W W' : World} {ep sl lb : Int} {gn : Bool} {ci : List UInt8} (h : Ws w ep sl lb gn ci W) (hb : Below W.heap.size W W') : Ws w ep sl lb gn ci W' := ⟨h.bel.trans (hb.mono h.bel.size), h.k.step hb⟩
theorem Ws.drew {w W : World} {ep sl lb : Int} {gn : Bool} {ci : List UInt8} (h : Ws w ep sl lb gn ci W) : Ws w ep sl lb gn ci W.drew := ⟨h.bel.drew, h.k⟩
theorem fields_cell : Try.prog.fieldsOf 23 = #[{ name := "Epoch", type := 3, offset := 0, embedded := false, tag := "", pkgPath := "", byteOffset := 0 }, { name := "Slot", type := 3, offset := 1, embedded := false, tag := "", pkgPath := "", byteOffset := 8 }, { name := "Lba", type := 3, offset := 2, embedded := false, tag := "", pkgPath := "", byteOffset := 16 }, { name := "Gone", type := 4, offset := 3, embedded := false, tag := "", pkgPath := "", byteOffset := 24 }, { name := "Cipher", type := 9, offset := 4, embedded := false, tag := "", pkgPath := "", byteOffset := 32 }] := by kernel_rfl
theorem under_cell : Try.prog.underlying 23 = some (.struct (Try.prog.fieldsOf 23)) := by kernel_rfl
theorem stood_cell : Try.prog.stoodInHeld 23 = false := by kernel_rfl
def same (ep1 sl1 lb1 : Int) (gn1 : Bool) (ci1 : List UInt8) (ep2 sl2 lb2 : Int) (gn2 : Bool) (ci2 : List UInt8) : Bool := decide (ep1 = ep2) && (decide (sl1 = sl2) && (decide (lb1 = lb2) && (decide (gn1 = gn2) && decide (ci1 = ci2))))
theorem run_in_cell (W : World) (ep1 sl1 lb1 : Int) (gn1 : Bool) (ci1 : List UInt8) (ep2 sl2 lb2 : Int) (gn2 : Bool) (ci2 : List UInt8) (q : Bool) (h : same ep1 sl1 lb1 gn1 ci1 ep2 sl2 lb2 gn2 ci2 = q) :
    (Op.equalIn 10000 23 (.agg #[.int .i64 ep1, .int .i64 sl1, .int .i64 lb1, .bool gn1, .string ⟨ci1.toArray⟩]) (.agg #[.int .i64 ep2, .int .i64 sl2, .int .i64 lb2, .bool gn2, .string ⟨ci2.toArray⟩])).run Try.prog W = .ok q W := by
  have hh : ∀ x y : Int, (Op.equalIn 9999 3 (.int .i64 x) (.int .i64 y)).run Try.prog W = .ok (x == y) W := fun x y => run_equalIn_int W 9998 3 .i64 .i64 x y Try.underlying3
  have hb : ∀ x y : Bool, (Op.equalIn 9999 4 (.bool x) (.bool y)).run Try.prog W = .ok (x == y) W := fun x y => run_equalIn_bool' W 9998 4 x y Try.underlying4
  have hs : ∀ x y : List UInt8, (Op.equalIn 9999 9 (.string ⟨x.toArray⟩) (.string ⟨y.toArray⟩)).run Try.prog W = .ok (x == y) W := fun x y => by
    have := run_equalIn_string W 9998 9 ⟨x.toArray⟩ ⟨y.toArray⟩ Try.underlying9
    rw [ByteArray.toList_mk, ByteArray.toList_mk] at this
    exact this
  have p0 : ∀ (ep sl lb : Int) (gn : Bool) (ci : List UInt8), (part 3 #[.int .i64 ep, .int .i64 sl, .int .i64 lb, .bool gn, .string ⟨ci.toArray⟩] 0).run Try.prog W = .ok (.int .i64 ep) W := fun ep sl lb gn ci => by simp [part, isAgg, run_underlying Try.underlying3]
  have p1 : ∀ (ep sl lb : Int) (gn : Bool) (ci : List UInt8), (part 3 #[.int .i64 ep, .int .i64 sl, .int .i64 lb, .bool gn, .string ⟨ci.toArray⟩] 1).run Try.prog W = .ok (.int .i64 sl) W := fun ep sl lb gn ci => by simp [part, isAgg, run_underlying Try.underlying3]
  have p2 : ∀ (ep sl lb : Int) (gn : Bool) (ci : List UInt8), (part 3 #[.int .i64 ep, .int .i64 sl, .int .i64 lb, .bool gn, .string ⟨ci.toArray⟩] 2).run Try.prog W = .ok (.int .i64 lb) W := fun ep sl lb gn ci => by simp [part, isAgg, run_underlying Try.underlying3]
  have p3 : ∀ (ep sl lb : Int) (gn : Bool) (ci : List UInt8), (part 4 #[.int .i64 ep, .int .i64 sl, .int .i64 lb, .bool gn, .string ⟨ci.toArray⟩] 3).run Try.prog W = .ok (.bool gn) W := fun ep sl lb gn ci => by simp [part, isAgg, run_underlying Try.underlying4]
  have p4 : ∀ (ep sl lb : Int) (gn : Bool) (ci : List UInt8), (part 9 #[.int .i64 ep, .int .i64 sl, .int .i64 lb, .bool gn, .string ⟨ci.toArray⟩] 4).run Try.prog W = .ok (.string ⟨ci.toArray⟩) W := fun ep sl lb gn ci => by simp [part, isAgg, run_underlying Try.underlying9]
  rw [run_equalIn_struct W 9999 _ _ _ under_cell stood_cell, fields_cell]
  subst h
  unfold same
  simp only [Op.eqFields, Sem.run_bind, Sem.run_ite, p0, p1, p2, p3, p4, hh, hb, hs, Result.andThen_ok]
  by_cases h1 : ep1 = ep2 <;> by_cases h2 : sl1 = sl2 <;> by_cases h3 : lb1 = lb2 <;> by_cases h4 : gn1 = gn2 <;> by_cases h5 : ci1 = ci2 <;> simp [h1, h2, h3, h4, h5]
/-- Two cells held against each other. -/
theorem run_neq_cell (W : World) (ep1 sl1 lb1 : Int) (gn1 : Bool) (ci1 : List UInt8) (ep2 sl2 lb2 : Int) (gn2 : Bool) (ci2 : List UInt8) (q : Bool) (h : same ep1 sl1 lb1 gn1 ci1 ep2 sl2 lb2 gn2 ci2 = q) :
    (binOp .neq 23 (.agg #[.int .i64 ep1, .int .i64 sl1, .int .i64 lb1, .bool gn1, .string ⟨ci1.toArray⟩]) (.agg #[.int .i64 ep2, .int .i64 sl2, .int .i64 lb2, .bool gn2, .string ⟨ci2.toArray⟩])).run Try.prog W = .ok (.bool (!q)) W := by
  rw [run_neq_struct, run_in_cell W ep1 sl1 lb1 gn1 ci1 ep2 sl2 lb2 gn2 ci2 q h, Result.andThen_ok]
theorem run_eql_cell (W : World) (ep1 sl1 lb1 : Int) (gn1 : Bool) (ci1 : List UInt8) (ep2 sl2 lb2 : Int) (gn2 : Bool) (ci2 : List UInt8) (q : Bool) (h : same ep1 sl1 lb1 gn1 ci1 ep2 sl2 lb2 gn2 ci2 = q) :
    (binOp .eql 23 (.agg #[.int .i64 ep1, .int .i64 sl1, .int .i64 lb1, .bool gn1, .string ⟨ci1.toArray⟩]) (.agg #[.int .i64 ep2, .int .i64 sl2, .int .i64 lb2, .bool gn2, .string ⟨ci2.toArray⟩])).run Try.prog W = .ok (.bool q) W := by
  rw [run_eql_struct, run_in_cell W ep1 sl1 lb1 gn1 ci1 ep2 sl2 lb2 gn2 ci2 q h, Result.andThen_ok]
theorem same_self (ep sl lb : Int) (gn : Bool) (ci : List UInt8) : same ep sl lb gn ci ep sl lb gn ci = true := by simp [same]
theorem eql_self (ep sl lb : Int) (gn : Bool) (ci : List UInt8) (W : World) : (binOp .eql 23 (.agg #[.int .i64 ep, .int .i64 sl, .int .i64 lb, .bool gn, .string ⟨ci.toArray⟩]) (.agg #[.int .i64 ep, .int .i64 sl, .int .i64 lb, .bool gn, .string ⟨ci.toArray⟩])).run Try.prog W = .ok (.bool true) W := run_eql_cell W ep sl lb gn ci ep sl lb gn ci true (same_self ep sl lb gn ci)
theorem neq_self (ep sl lb : Int) (gn : Bool) (ci : List UInt8) (W : World) : (binOp .neq 23 (.agg #[.int .i64 ep, .int .i64 sl, .int .i64 lb, .bool gn, .string ⟨ci.toArray⟩]) (.agg #[.int .i64 ep, .int .i64 sl, .int .i64 lb, .bool gn, .string ⟨ci.toArray⟩])).run Try.prog W = .ok (.bool false) W := run_neq_cell W ep sl lb gn ci ep sl lb gn ci true (same_self ep sl lb gn ci)
end Go.Proofs.Yteobimhibhfokaa.CelC
