/- A record in a block of memory: its eight cells; two held against each other; a record that comes in. No conditions but those that each lemma names. -/
import Derived.Test.YtopnodkdpehdoaaGreatDoorLOct
import Derived.Test.YtopnodkdpehdoaaGreatDoorMem
import Derived.Test.YtopnodkdpehdoaaGreatDoorRows
import Derived.Laws.StructEq
import Derived.Deep.QuietTactic
import Derived.BigQuiet
import Derived.Deep.DeepCutAuto
import Derived.WalkKit
import Derived.ProofKit
import Derived.OpenShut
import Derived.ShutString
import Derived.ChangeOld
namespace Go.Proofs.YtopnodkdpehdoaaGreatDoor.RecC
open Go.ChangeShapes Go.WideShapes Go.ChangeAt Go.RowKit
open RecN
theorem mk_append (l m : List UInt8) : (⟨l.toArray⟩ : ByteArray) ++ ⟨m.toArray⟩ = ⟨(l ++ m).toArray⟩ := by
  apply ByteArray.ext
  simp [ByteArray.data_append]
theorem size_mk (s : List UInt8) : (⟨s.toArray⟩ : ByteArray).size = s.length := by simp [ByteArray.size]
theorem ext_at (s : List UInt8) (n m : Nat) : (⟨s.toArray⟩ : ByteArray).extract n m = ⟨((s.drop n).take (m - n)).toArray⟩ := by rw [ByteArray.extract_mk]
theorem dt {p : Prop} [Decidable p] (h : p) : decide p = true := decide_eq_true h
theorem df {p : Prop} [Decidable p] (h : ¬ p) : decide p = false := decide_eq_false h
theorem text_mk (s : List UInt8) : text ⟨s.toArray⟩ = ⟨(txt s).toArray⟩ := by
  unfold text txt
  rw [size_mk, mk_append]
theorem lt_of_some {w : World} {g : Nat} {o : Obj} (h : w.heap[g]? = some o) : g < w.heap.size := (Array.getElem?_eq_some_iff.1 h).1
/-- A struct stored into a new block. -/
theorem kept_new (w : World) (old cs : Array Value) (t : TypeId) : Below w.heap.size w ((w.alloc (.cells old t)).setRow w.heap.size cs) := below_setRow ((Below.refl _ _).alloc (Nat.le_refl _) _) (Nat.le_refl _) _
theorem has_new (w : World) (old cs : Array Value) (t : TypeId) : ((w.alloc (.cells old t)).setRow w.heap.size cs).heap[w.heap.size]? = some (.cells cs t (0, 0)) := setRow_same (heap_alloc_new w _)
theorem below_new (w : World) (o : Obj) : Below w.heap.size w (w.alloc o) := (Below.refl _ _).alloc (Nat.le_refl _) _
/-- Results of which the first is a struct in a cell. -/
theorem results_cell_tmp_row {P : Program} {fn : Func} {p u : Tmp} {ty : TypeId} (h : fn.results = #[.cell p ty, .tmp u]) (tmps : Array Value) (w : World) (g : Nat) (t : TypeId) (cs : Array Value) (fr : Nat × Nat) (d : TypeDesc)
    (hp : tmps.getD p undef = .pointer (some ⟨g, 0, none⟩)) (hg : w.heap[g]? = some (.cells cs t fr))
    (hu : P.underlying ty = some d) (hd : (match d with | .struct _ | .array _ _ => true | _ => false) = true) (hi : (P.info? ty).map (·.size) = some cs.size) :
    (results fn tmps).run P w = .ok (.tuple #[.agg cs, tmps.getD u undef]) w := by
  rw [results_cell_tmp h, hp]
  simp [asAddr, run_loadVar_row w g t ty cs fr d hg hu hd hi]
theorem infoR : (Tryz.prog.info? 82).map (·.size) = some 8 := by kernel_rfl
theorem one8 (r : Rec) : (#[.int .i64 r.k, .int .i64 r.ep, .int .i64 r.tm, .int .i64 r.ct, .int .i64 r.tg, .int .i64 r.un, .string ⟨r.rt.toArray⟩, .string ⟨r.nm.toArray⟩] : Array Value).all (·.oneCell') = true := by simp [Value.oneCell']
theorem one0 : (#[.int .i64 0, .int .i64 0, .int .i64 0, .int .i64 0, .int .i64 0, .int .i64 0, .string ⟨#[]⟩, .string ⟨#[]⟩] : Array Value).all (·.oneCell') = true := by simp [Value.oneCell']
/-- A record in a block. -/
def Bk (W : World) (X : Nat) (r : Rec) : Prop := W.heap[X]? = some (.cells #[.int .i64 r.k, .int .i64 r.ep, .int .i64 r.tm, .int .i64 r.ct, .int .i64 r.tg, .int .i64 r.un, .string ⟨r.rt.toArray⟩, .string ⟨r.nm.toArray⟩] 82 (0, 0))
theorem Bk.lt {W : World} {X : Nat} {r : Rec} (h : Bk W X r) : X < W.heap.size := lt_of_some h
theorem Bk.step {W W' : World} {X : Nat} {r : Rec} (h : Bk W X r) (hb : Below W.heap.size W W') : Bk W' X r := (hb.block _ h.lt).trans h
theorem Bk.drew {W : World} {X : Nat} {r : Rec} (h : Bk W X r) : Bk W.drew X r := h
theorem Bk.cells {W : World} {X : Nat} {r : Rec} (h : Bk W X r) : W.cell? ⟨X, 0, none⟩ = some (.int .i64 r.k) ∧ W.cell? ⟨X, 1, none⟩ = some (.int .i64 r.ep) ∧ W.cell? ⟨X, 2, none⟩ = some (.int .i64 r.tm) ∧ W.cell? ⟨X, 3, none⟩ = some (.int .i64 r.ct) ∧ W.cell? ⟨X, 4, none⟩ = some (.int .i64 r.tg) ∧ W.cell? ⟨X, 5, none⟩ = some (.int .i64 r.un) ∧ W.cell? ⟨X, 6, none⟩ = some (.string ⟨r.rt.toArray⟩) ∧ W.cell? ⟨X, 7, none⟩ = some (.string ⟨r.nm.toArray⟩) :=
  ⟨blk_cell h rfl, blk_cell h rfl, blk_cell h rfl, blk_cell h rfl, blk_cell h rfl, blk_cell h rfl, blk_cell h rfl, blk_cell h rfl⟩
/-- What stands while a function runs that was given a record: what was stays, the record in its block. -/
structure Ws (w : World) (r : Rec) (W : World) : Prop where
  bel : Below w.heap.size w W
  k : Bk W w.heap.size r
theorem ws_new (w : World) (r : Rec) : Ws w r (w.alloc (.cells #[.int .i64 r.k, .int .i64 r.ep, .int .i64 r.tm, .int .i64 r.ct, .int .i64 r.tg, .int .i64 r.un, .string ⟨r.rt.toArray⟩, .string ⟨r.nm.toArray⟩] 82)) := ⟨below_new w _, heap_alloc_new w _⟩
theorem Ws.step {w W W' : World} {r : Rec} (h : Ws w r W) (hb : Below W.heap.size W W') : Ws w r W' := ⟨h.bel.trans (hb.mono h.bel.size), h.k.step hb⟩
theorem Ws.drew {w W : World} {r : Rec} (h : Ws w r W) : Ws w r W.drew := ⟨h.bel.drew, h.k⟩
theorem fields_rec : Tryz.prog.fieldsOf 82 = #[{ name := "Kind", type := 3, offset := 0, embedded := false, tag := "", pkgPath := "", byteOffset := 0 }, { name := "Epoch", type := 3, offset := 1, embedded := false, tag := "", pkgPath := "", byteOffset := 8 }, { name := "Time", type := 3, offset := 2, embedded := false, tag := "", pkgPath := "", byteOffset := 16 }, { name := "Count", type := 3, offset := 3, embedded := false, tag := "", pkgPath := "", byteOffset := 24 }, { name := "Target", type := 3, offset := 4, embedded := false, tag := "", pkgPath := "", byteOffset := 32 }, { name := "Until", type := 3, offset := 5, embedded := false, tag := "", pkgPath := "", byteOffset := 40 }, { name := "Root", type := 9, offset := 6, embedded := false, tag := "", pkgPath := "", byteOffset := 48 }, { name := "Name", type := 9, offset := 7, embedded := false, tag := "", pkgPath := "", byteOffset := 64 }] := by kernel_rfl
theorem under_rec : Tryz.prog.underlying 82 = some (.struct (Tryz.prog.fieldsOf 82)) := by kernel_rfl
theorem stood_rec : Tryz.prog.stoodInHeld 82 = false := by kernel_rfl
theorem eq_iff {a b : Rec} : a = b ↔ a.k = b.k ∧ a.ep = b.ep ∧ a.tm = b.tm ∧ a.ct = b.ct ∧ a.tg = b.tg ∧ a.un = b.un ∧ a.rt = b.rt ∧ a.nm = b.nm :=
  ⟨fun h => by rw [h]; exact ⟨rfl, rfl, rfl, rfl, rfl, rfl, rfl, rfl⟩, fun ⟨h1, h2, h3, h4, h5, h6, h7, h8⟩ => same h1 h2 h3 h4 h5 h6 h7 h8⟩
instance (a b : Rec) : Decidable (a = b) := decidable_of_iff _ eq_iff.symm
theorem run_in_rec (W : World) (a b : Rec) (q : Bool) (h : decide (a = b) = q) :
    (Op.equalIn 10000 82 (.agg #[.int .i64 a.k, .int .i64 a.ep, .int .i64 a.tm, .int .i64 a.ct, .int .i64 a.tg, .int .i64 a.un, .string ⟨a.rt.toArray⟩, .string ⟨a.nm.toArray⟩]) (.agg #[.int .i64 b.k, .int .i64 b.ep, .int .i64 b.tm, .int .i64 b.ct, .int .i64 b.tg, .int .i64 b.un, .string ⟨b.rt.toArray⟩, .string ⟨b.nm.toArray⟩])).run Tryz.prog W = .ok q W := by
  have hh : ∀ x y : Int, (Op.equalIn 9999 3 (.int .i64 x) (.int .i64 y)).run Tryz.prog W = .ok (x == y) W := fun x y => run_equalIn_int W 9998 3 .i64 .i64 x y Tryz.underlying3
  have hs : ∀ x y : List UInt8, (Op.equalIn 9999 9 (.string ⟨x.toArray⟩) (.string ⟨y.toArray⟩)).run Tryz.prog W = .ok (x == y) W := fun x y => by
    have := run_equalIn_string W 9998 9 ⟨x.toArray⟩ ⟨y.toArray⟩ Tryz.underlying9
    rw [ByteArray.toList_mk, ByteArray.toList_mk] at this
    exact this
  have p0 : ∀ r : Rec, (part 3 #[.int .i64 r.k, .int .i64 r.ep, .int .i64 r.tm, .int .i64 r.ct, .int .i64 r.tg, .int .i64 r.un, .string ⟨r.rt.toArray⟩, .string ⟨r.nm.toArray⟩] 0).run Tryz.prog W = .ok (.int .i64 r.k) W := fun r => by simp [part, isAgg, run_underlying Tryz.underlying3]
  have p1 : ∀ r : Rec, (part 3 #[.int .i64 r.k, .int .i64 r.ep, .int .i64 r.tm, .int .i64 r.ct, .int .i64 r.tg, .int .i64 r.un, .string ⟨r.rt.toArray⟩, .string ⟨r.nm.toArray⟩] 1).run Tryz.prog W = .ok (.int .i64 r.ep) W := fun r => by simp [part, isAgg, run_underlying Tryz.underlying3]
  have p2 : ∀ r : Rec, (part 3 #[.int .i64 r.k, .int .i64 r.ep, .int .i64 r.tm, .int .i64 r.ct, .int .i64 r.tg, .int .i64 r.un, .string ⟨r.rt.toArray⟩, .string ⟨r.nm.toArray⟩] 2).run Tryz.prog W = .ok (.int .i64 r.tm) W := fun r => by simp [part, isAgg, run_underlying Tryz.underlying3]
  have p3 : ∀ r : Rec, (part 3 #[.int .i64 r.k, .int .i64 r.ep, .int .i64 r.tm, .int .i64 r.ct, .int .i64 r.tg, .int .i64 r.un, .string ⟨r.rt.toArray⟩, .string ⟨r.nm.toArray⟩] 3).run Tryz.prog W = .ok (.int .i64 r.ct) W := fun r => by simp [part, isAgg, run_underlying Tryz.underlying3]
  have p4 : ∀ r : Rec, (part 3 #[.int .i64 r.k, .int .i64 r.ep, .int .i64 r.tm, .int .i64 r.ct, .int .i64 r.tg, .int .i64 r.un, .string ⟨r.rt.toArray⟩, .string ⟨r.nm.toArray⟩] 4).run Tryz.prog W = .ok (.int .i64 r.tg) W := fun r => by simp [part, isAgg, run_underlying Tryz.underlying3]
  have p5 : ∀ r : Rec, (part 3 #[.int .i64 r.k, .int .i64 r.ep, .int .i64 r.tm, .int .i64 r.ct, .int .i64 r.tg, .int .i64 r.un, .string ⟨r.rt.toArray⟩, .string ⟨r.nm.toArray⟩] 5).run Tryz.prog W = .ok (.int .i64 r.un) W := fun r => by simp [part, isAgg, run_underlying Tryz.underlying3]
  have p6 : ∀ r : Rec, (part 9 #[.int .i64 r.k, .int .i64 r.ep, .int .i64 r.tm, .int .i64 r.ct, .int .i64 r.tg, .int .i64 r.un, .string ⟨r.rt.toArray⟩, .string ⟨r.nm.toArray⟩] 6).run Tryz.prog W = .ok (.string ⟨r.rt.toArray⟩) W := fun r => by simp [part, isAgg, run_underlying Tryz.underlying9]
  have p7 : ∀ r : Rec, (part 9 #[.int .i64 r.k, .int .i64 r.ep, .int .i64 r.tm, .int .i64 r.ct, .int .i64 r.tg, .int .i64 r.un, .string ⟨r.rt.toArray⟩, .string ⟨r.nm.toArray⟩] 7).run Tryz.prog W = .ok (.string ⟨r.nm.toArray⟩) W := fun r => by simp [part, isAgg, run_underlying Tryz.underlying9]
  rw [run_equalIn_struct W 9999 _ _ _ under_rec stood_rec, fields_rec]
  subst h
  simp only [Op.eqFields, Sem.run_bind, Sem.run_ite, p0, p1, p2, p3, p4, p5, p6, p7, hh, hs, Result.andThen_ok]
  by_cases h1 : a.k = b.k
  rotate_left 1
  · simp [h1, eq_iff]
  by_cases h2 : a.ep = b.ep
  rotate_left 1
  · simp [h1, h2, eq_iff]
  by_cases h3 : a.tm = b.tm
  rotate_left 1
  · simp [h1, h2, h3, eq_iff]
  by_cases h4 : a.ct = b.ct
  rotate_left 1
  · simp [h1, h2, h3, h4, eq_iff]
  by_cases h5 : a.tg = b.tg
  rotate_left 1
  · simp [h1, h2, h3, h4, h5, eq_iff]
  by_cases h6 : a.un = b.un
  rotate_left 1
  · simp [h1, h2, h3, h4, h5, h6, eq_iff]
  by_cases h7 : a.rt = b.rt
  rotate_left 1
  · simp [h1, h2, h3, h4, h5, h6, h7, eq_iff]
  by_cases h8 : a.nm = b.nm
  rotate_left 1
  · simp [h1, h2, h3, h4, h5, h6, h7, h8, eq_iff]
  simp [h1, h2, h3, h4, h5, h6, h7, h8, eq_iff]
/-- Two records held against each other. -/
theorem run_neq_rec (W : World) (a b : Rec) (q : Bool) (h : decide (a = b) = q) :
    (binOp .neq 82 (.agg #[.int .i64 a.k, .int .i64 a.ep, .int .i64 a.tm, .int .i64 a.ct, .int .i64 a.tg, .int .i64 a.un, .string ⟨a.rt.toArray⟩, .string ⟨a.nm.toArray⟩]) (.agg #[.int .i64 b.k, .int .i64 b.ep, .int .i64 b.tm, .int .i64 b.ct, .int .i64 b.tg, .int .i64 b.un, .string ⟨b.rt.toArray⟩, .string ⟨b.nm.toArray⟩])).run Tryz.prog W = .ok (.bool (!q)) W := by
  rw [run_neq_struct, run_in_rec W a b q h, Result.andThen_ok]
theorem run_eql_rec (W : World) (a b : Rec) (q : Bool) (h : decide (a = b) = q) :
    (binOp .eql 82 (.agg #[.int .i64 a.k, .int .i64 a.ep, .int .i64 a.tm, .int .i64 a.ct, .int .i64 a.tg, .int .i64 a.un, .string ⟨a.rt.toArray⟩, .string ⟨a.nm.toArray⟩]) (.agg #[.int .i64 b.k, .int .i64 b.ep, .int .i64 b.tm, .int .i64 b.ct, .int .i64 b.tg, .int .i64 b.un, .string ⟨b.rt.toArray⟩, .string ⟨b.nm.toArray⟩])).run Tryz.prog W = .ok (.bool q) W := by
  rw [run_eql_struct, run_in_rec W a b q h, Result.andThen_ok]
theorem cInt : Tryz.prog.cellsOf 3 = 1 := by kernel_rfl
theorem cStr : Tryz.prog.cellsOf 9 = 1 := by kernel_rfl
theorem cRec : Tryz.prog.cellsOf 82 = 8 := by kernel_rfl
set_option maxRecDepth 100000 in
/-- A record by value. -/
theorem open_record {H : Type} {enc : TypeId × Value → H} {W : World} {r : Reach} {b0 : Nat} {v : Value} {d : DataW H} {p : List MemPlace} (hval : Value.okWide Tryz.prog W r b0 82 v)
    (h : DataW.Trod enc Tryz.prog W 0 (fun _ => true) true 82 v d p) :
    ∃ a : Rec, v = .agg #[.int .i64 a.k, .int .i64 a.ep, .int .i64 a.tm, .int .i64 a.ct, .int .i64 a.tg, .int .i64 a.un, .string ⟨a.rt.toArray⟩, .string ⟨a.nm.toArray⟩] := by
  obtain ⟨cs, rfl, _⟩ := okWide_struct Tryz.underlying82 hval
  obtain ⟨fuel, hf⟩ := h
  obtain ⟨xs, n, _, _, hl, hxl, hel⟩ := DataW.trod_struct Tryz.underlying82 hf
  rw [cRec] at hl
  have e0 : DataW.trod enc Tryz.prog W 0 (fun _ => true) true n 3 (((Value.agg cs).cells.toList.drop 0).take (Tryz.prog.cellsOf 3)) = xs[0]? := hel 0 _ rfl
  have e1 : DataW.trod enc Tryz.prog W 0 (fun _ => true) true n 3 (((Value.agg cs).cells.toList.drop 1).take (Tryz.prog.cellsOf 3)) = xs[1]? := hel 1 _ rfl
  have e2 : DataW.trod enc Tryz.prog W 0 (fun _ => true) true n 3 (((Value.agg cs).cells.toList.drop 2).take (Tryz.prog.cellsOf 3)) = xs[2]? := hel 2 _ rfl
  have e3 : DataW.trod enc Tryz.prog W 0 (fun _ => true) true n 3 (((Value.agg cs).cells.toList.drop 3).take (Tryz.prog.cellsOf 3)) = xs[3]? := hel 3 _ rfl
  have e4 : DataW.trod enc Tryz.prog W 0 (fun _ => true) true n 3 (((Value.agg cs).cells.toList.drop 4).take (Tryz.prog.cellsOf 3)) = xs[4]? := hel 4 _ rfl
  have e5 : DataW.trod enc Tryz.prog W 0 (fun _ => true) true n 3 (((Value.agg cs).cells.toList.drop 5).take (Tryz.prog.cellsOf 3)) = xs[5]? := hel 5 _ rfl
  have e6 : DataW.trod enc Tryz.prog W 0 (fun _ => true) true n 9 (((Value.agg cs).cells.toList.drop 6).take (Tryz.prog.cellsOf 9)) = xs[6]? := hel 6 _ rfl
  have e7 : DataW.trod enc Tryz.prog W 0 (fun _ => true) true n 9 (((Value.agg cs).cells.toList.drop 7).take (Tryz.prog.cellsOf 9)) = xs[7]? := hel 7 _ rfl
  rw [cInt] at e0 e1 e2 e3 e4 e5
  rw [cStr] at e6 e7
  simp only [Value.cells] at hl e0 e1 e2 e3 e4 e5 e6 e7
  obtain ⟨l, rfl⟩ : ∃ l : List Value, cs = l.toArray := ⟨cs.toList, by simp⟩
  match xs, hxl with
  | [y0, y1, y2, y3, y4, y5, y6, y7], _ =>
    match l, hl with
    | [v0, v1, v2, v3, v4, v5, v6, v7], _ =>
      obtain ⟨k, h0, _, _⟩ := DataW.trod_int Tryz.underlying3 e0
      obtain ⟨ep, h1, _, _⟩ := DataW.trod_int Tryz.underlying3 e1
      obtain ⟨tm, h2, _, _⟩ := DataW.trod_int Tryz.underlying3 e2
      obtain ⟨ct, h3, _, _⟩ := DataW.trod_int Tryz.underlying3 e3
      obtain ⟨tg, h4, _, _⟩ := DataW.trod_int Tryz.underlying3 e4
      obtain ⟨un, h5, _, _⟩ := DataW.trod_int Tryz.underlying3 e5
      obtain ⟨⟨⟨rt⟩⟩, h6, _, _⟩ := DataW.trod_string Tryz.underlying9 e6
      obtain ⟨⟨⟨nm⟩⟩, h7, _, _⟩ := DataW.trod_string Tryz.underlying9 e7
      simp at h0 h1 h2 h3 h4 h5 h6 h7
      subst h0 h1 h2 h3 h4 h5 h6 h7
      exact ⟨⟨k, ep, tm, ct, tg, un, rt, nm⟩, rfl⟩
end Go.Proofs.YtopnodkdpehdoaaGreatDoor.RecC
