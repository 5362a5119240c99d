/- CalR AnsC: one behind the other. -/
import Derived.Test.YtopnodkdpehdoaaGreatDoorMdN
import Derived.Test.YtopnodkdpehdoaaGreatDoorRetR
import Derived.Test.YtopnodkdpehdoaaGreatDoorRecC
/- Rows of calls in memory: what they read as; rows that come in, a call that comes in. The conditions: that what came in came as a Go program's values. -/
namespace Go.Proofs.YtopnodkdpehdoaaGreatDoor.CalR
set_option linter.unusedVariables false
open Go.RowKit Go.ChangeShapes Go.WideShapes
open RecN RecC RetR MdN
/-- A call, with the slice that it carries. -/
structure Ca where
  c : Cl
  p : Option Addr
  n : Nat
  cap : Nat
def ca0 : Ca := ⟨⟨0, 0, 0, 0, [], []⟩, none, 0, 0⟩
/-- A call as cells. -/
def clL (x : Ca) : List Value := [.int .i64 x.c.k, .int .i64 x.c.lb, .int .i64 x.c.ep, .int .i64 x.c.tm, .string ⟨x.c.da.toArray⟩, .string ⟨x.c.nm.toArray⟩, .slice x.p x.n x.cap]
theorem cl_len (x : Ca) : (clL x).length = 7 := rfl
def cc (l : List Ca) : List Value := l.flatMap clL
theorem cc_len (l : List Ca) : (cc l).length = l.length * 7 := fm_len cl_len l
theorem cc_app (l m : List Ca) : cc (l ++ m) = cc l ++ cc m := by simp [cc]
theorem cc_one (x : Ca) : cc [x] = clL x := by simp [cc]
theorem cl_one (x : Ca) : ∀ u ∈ clL x, u.oneCell' = true := by
  intro u hu
  simp only [clL, List.mem_cons, List.not_mem_nil, or_false] at hu
  rcases hu with rfl | rfl | rfl | rfl | rfl | rfl | rfl <;> rfl
theorem infoC : (Tryz.prog.info? 35).map (·.size) = some 7 := by kernel_rfl
theorem one7 (x : Ca) : (#[.int .i64 x.c.k, .int .i64 x.c.lb, .int .i64 x.c.ep, .int .i64 x.c.tm, .string ⟨x.c.da.toArray⟩, .string ⟨x.c.nm.toArray⟩, .slice x.p x.n x.cap] : Array Value).all (·.oneCell') = true := by simp [Value.oneCell']
/-- One call amid a block. -/
def At7 (W : World) (g p : Nat) (x : Ca) : Prop := W.cell? ⟨g, p, none⟩ = some (.int .i64 x.c.k) ∧ W.cell? ⟨g, p + 1, none⟩ = some (.int .i64 x.c.lb) ∧ W.cell? ⟨g, p + 2, none⟩ = some (.int .i64 x.c.ep) ∧ W.cell? ⟨g, p + 3, none⟩ = some (.int .i64 x.c.tm) ∧ W.cell? ⟨g, p + 4, none⟩ = some (.string ⟨x.c.da.toArray⟩) ∧ W.cell? ⟨g, p + 5, none⟩ = some (.string ⟨x.c.nm.toArray⟩) ∧ W.cell? ⟨g, p + 6, none⟩ = some (.slice x.p x.n x.cap)
theorem At7.step {W W' : World} {B g p : Nat} {x : Ca} (h : At7 W g p x) (hg : g < B) (hb : Below B W W') : At7 W' g p x := by
  obtain ⟨h0, h1, h2, h3, h4, h5, h6⟩ := h
  have k : ∀ q v, W.cell? ⟨g, q, none⟩ = some v → W'.cell? ⟨g, q, none⟩ = some v := fun q v e => (hb.cell (p := ⟨g, q, none⟩) hg).trans e
  exact ⟨k _ _ h0, k _ _ h1, k _ _ h2, k _ _ h3, k _ _ h4, k _ _ h5, k _ _ h6⟩
theorem at7_of {W : World} {g o : Nat} {l : List Ca} (h : ∀ j u, (cc l)[j]? = some u → W.cell? ⟨g, o + j, none⟩ = some u) (i : Nat) (hi : i < l.length) : At7 W g (o + i * 7) l[i] := by
  have k : ∀ j u, j < 7 → (clL l[i])[j]? = some u → W.cell? ⟨g, o + i * 7 + j, none⟩ = some u := fun j u hj hu => by
    rw [Nat.add_assoc]
    exact h _ _ ((fm_at cl_len l i hi j hj).trans hu)
  exact ⟨k 0 _ (by omega) rfl, k 1 _ (by omega) rfl, k 2 _ (by omega) rfl, k 3 _ (by omega) rfl, k 4 _ (by omega) rfl, k 5 _ (by omega) rfl, k 6 _ (by omega) rfl⟩
theorem at7 {W : World} {a : Option Addr} {l : List Ca} (h : Lies W a (cc l)) (h0 : 0 < l.length) : ∃ g o, a = some ⟨g, o, none⟩ ∧ g < W.heap.size ∧ ∀ i (hi : i < l.length), At7 W g (o + i * 7) l[i] := by
  obtain ⟨g, o, e, hg, hc⟩ := h (by rw [cc_len]; omega)
  exact ⟨g, o, e, hg, at7_of hc⟩
/-- What bounds a call that came in. -/
def FitC (x : Ca) : Prop := x.c.da.length ≤ maxLen ∧ x.c.nm.length ≤ maxLen ∧ x.n ≤ maxLen ∧ (Lit.int .i64 x.c.ep).wf = true
theorem fit_ca0 : FitC ca0 := ⟨by decide, by decide, by decide, by decide⟩
theorem cCal : Tryz.prog.cellsOf 35 = 7 := by kernel_rfl
theorem cKp : Tryz.prog.cellsOf 33 = 1 := by kernel_rfl
theorem keep_of {H : Type} {enc : TypeId × Value → H} {W : World} {fuel : Nat} {cs : List Value} {x : DataW H × List MemPlace} (h : DataW.trod enc Tryz.prog W 0 (fun _ => true) true fuel 33 cs = some x) : ∃ p n c, cs = [.slice p n c] ∧ n ≤ maxLen := by
  rcases Go.Deep.open_slice Tryz.underlying33 h with ⟨hcs, _⟩ | ⟨a, len, cap, m, n, D, Pl, hcs, _, hl, hm, hmm, hd, hi⟩
  · exact ⟨none, 0, 0, hcs, by decide⟩
  · exact ⟨some a, len, cap, hcs, by omega⟩
set_option maxRecDepth 100000 in
theorem call_cells {H : Type} {enc : TypeId × Value → H} {W : World} {fuel : Nat} {cs : List Value} {x : DataW H × List MemPlace} (h : DataW.trod enc Tryz.prog W 0 (fun _ => true) true fuel 35 cs = some x) : ∃ r : Ca, cs = clL r ∧ FitC r := by
  obtain ⟨xs, n, _, _, hl, hxl, hel⟩ := DataW.trod_struct Tryz.underlying35 h
  rw [cCal] at hl
  have e0 : DataW.trod enc Tryz.prog W 0 (fun _ => true) true n 3 ((cs.drop 0).take (Tryz.prog.cellsOf 3)) = xs[0]? := hel 0 _ rfl
  have e1 : DataW.trod enc Tryz.prog W 0 (fun _ => true) true n 3 ((cs.drop 1).take (Tryz.prog.cellsOf 3)) = xs[1]? := hel 1 _ rfl
  have e2 : DataW.trod enc Tryz.prog W 0 (fun _ => true) true n 3 ((cs.drop 2).take (Tryz.prog.cellsOf 3)) = xs[2]? := hel 2 _ rfl
  have e3 : DataW.trod enc Tryz.prog W 0 (fun _ => true) true n 3 ((cs.drop 3).take (Tryz.prog.cellsOf 3)) = xs[3]? := hel 3 _ rfl
  have e4 : DataW.trod enc Tryz.prog W 0 (fun _ => true) true n 9 ((cs.drop 4).take (Tryz.prog.cellsOf 9)) = xs[4]? := hel 4 _ rfl
  have e5 : DataW.trod enc Tryz.prog W 0 (fun _ => true) true n 9 ((cs.drop 5).take (Tryz.prog.cellsOf 9)) = xs[5]? := hel 5 _ rfl
  have e6 : DataW.trod enc Tryz.prog W 0 (fun _ => true) true n 33 ((cs.drop 6).take (Tryz.prog.cellsOf 33)) = xs[6]? := hel 6 _ rfl
  rw [cInt] at e0 e1 e2 e3
  rw [cStr] at e4 e5
  rw [cKp] at e6
  match xs, hxl with
  | [y0, y1, y2, y3, y4, y5, y6], _ =>
    match cs, hl with
    | [v0, v1, v2, v3, v4, v5, v6], _ =>
      obtain ⟨k, h0, _, _⟩ := DataW.trod_int Tryz.underlying3 e0
      obtain ⟨lb, h1, _, _⟩ := DataW.trod_int Tryz.underlying3 e1
      obtain ⟨ep, h2, _, w2⟩ := DataW.trod_int Tryz.underlying3 e2
      obtain ⟨tm, h3, _, _⟩ := DataW.trod_int Tryz.underlying3 e3
      obtain ⟨⟨⟨da⟩⟩, h4, _, w4⟩ := DataW.trod_string Tryz.underlying9 e4
      obtain ⟨⟨⟨nm⟩⟩, h5, _, w5⟩ := DataW.trod_string Tryz.underlying9 e5
      obtain ⟨p, kn, kc, h6, w6⟩ := keep_of e6
      simp at h0 h1 h2 h3 h4 h5 h6
      subst h0 h1 h2 h3 h4 h5 h6
      exact ⟨⟨⟨k, lb, ep, tm, da, nm⟩, p, kn, kc⟩, rfl, by simpa [ByteArray.size] using w4, by simpa [ByteArray.size] using w5, w6, w2⟩
/-- A row of calls that came in. -/
def CameC (W : World) (a : Option Addr) (n c : Nat) (l : List Ca) : Prop := l.length = n ∧ n ≤ maxLen ∧ n ≤ c ∧ (∀ x ∈ l, FitC x) ∧ Lies W a (cc l)
theorem lies_ofC {W : World} {g o : Nat} {l : List Ca} (hg : g < W.heap.size) (h : ∀ i (hi : i < l.length) j u, (clL l[i])[j]? = some u → W.cell? ⟨g, o + i * 7 + j, none⟩ = some u) : Lies W (some ⟨g, o, none⟩) (cc l) := fun _ => by
  refine ⟨g, o, rfl, hg, fun j u hj => ?_⟩
  have hlt : j < l.length * 7 := by rw [← cc_len]; exact (List.getElem?_eq_some_iff.1 hj).1
  have hi : j / 7 < l.length := by omega
  have e : j = j / 7 * 7 + j % 7 := by omega
  rw [e] at hj
  unfold cc at hj
  rw [fm_at cl_len l (j / 7) hi (j % 7) (by omega)] at hj
  have := h (j / 7) hi (j % 7) u hj
  rw [e, ← Nat.add_assoc]
  exact this
set_option maxRecDepth 100000 in
theorem open_calls {H : Type} {enc : TypeId × Value → H} {W : World} {v : Value} {d : DataW H} {p : List MemPlace}
    (h : DataW.Trod enc Tryz.prog W 0 (fun _ => true) true 24 v d p) : ∃ a n cap l, v.cells.toList = [.slice a n cap] ∧ CameC W a n cap l := by
  obtain ⟨fuel, hf⟩ := h
  rcases Go.Deep.open_slice Tryz.underlying24 hf with ⟨hcs, _⟩ | ⟨a, len, cap, m, n, D, Pl, hcs, _, hl, hm, hmm, hd, hi⟩
  · exact ⟨none, 0, 0, [], hcs, rfl, Nat.zero_le _, Nat.le_refl _, (fun x hx => by simp at hx), Lies.nil _ _⟩
  · have hml : len ≤ m := by simp at hmm; omega
    have each : ∀ i, ∃ x : Ca, i < len → FitC x ∧ ∀ j u, (clL x)[j]? = some u → W.cell? (a.add (i * 7 + j)) = some u := by
      intro i
      by_cases hil : i < len
      · obtain ⟨cs', hc, ht⟩ := hi i (by omega)
        obtain ⟨x, hx, hfit⟩ := call_cells ht
        rw [cCal] at hc
        obtain ⟨_, hlen, hat⟩ := World.cells?_some hc
        refine ⟨x, fun _ => ⟨hfit, fun j u hj => ?_⟩⟩
        have hj8 : j < 7 := by rw [← cl_len x]; exact (List.getElem?_eq_some_iff.1 hj).1
        have := hat j (by omega)
        rw [hx, Go.Deep.add_add] at this
        rw [this]
        exact hj
      · exact ⟨ca0, fun h => absurd h hil⟩
    obtain ⟨z, hz⟩ := Classical.axiomOfChoice each
    have hll : ((List.range len).map z).length = len := by simp
    refine ⟨some a, len, cap, (List.range len).map z, hcs, hll, by omega, hl, (fun x hx => ?_), fun h0 => ?_⟩
    · obtain ⟨i, hi, rfl⟩ := List.mem_map.1 hx
      exact (hz i (List.mem_range.1 hi)).1
    have h0' : 0 < len := by rw [cc_len, hll] at h0; omega
    obtain ⟨g, o, spot⟩ := a
    have hc0 := (hz 0 h0').2 0 _ rfl
    have hspot : spot = none := by simpa [Addr.add] using World.cell?_spot hc0
    subst hspot
    refine lies_ofC (World.block_lt_of_cell? W _ (by simpa [Addr.add] using hc0)) (fun i hi j u hj => ?_) h0
    rw [hll] at hi
    simp only [List.getElem_map, List.getElem_range] at hj
    have := (hz i hi).2 j u hj
    rw [add_off] at this
    rw [Nat.add_assoc]
    exact this
set_option maxRecDepth 100000 in
/-- A call by value. -/
theorem open_call {H : Type} {enc : TypeId × Value → H} {W : World} {r : Reach} {b0 : Nat} {v : Value} {d : DataW H} {p : List MemPlace} (hval : Value.okWide Tryz.prog W r b0 35 v)
    (h : DataW.Trod enc Tryz.prog W 0 (fun _ => true) true 35 v d p) : ∃ x : Ca, v = .agg #[.int .i64 x.c.k, .int .i64 x.c.lb, .int .i64 x.c.ep, .int .i64 x.c.tm, .string ⟨x.c.da.toArray⟩, .string ⟨x.c.nm.toArray⟩, .slice x.p x.n x.cap] ∧ FitC x := by
  obtain ⟨cs, rfl, _⟩ := okWide_struct Tryz.underlying35 hval
  obtain ⟨fuel, hf⟩ := h
  obtain ⟨x, hx, hfit⟩ := call_cells hf
  refine ⟨x, ?_, hfit⟩
  congr 1
  apply Array.toList_inj.1
  exact hx
end Go.Proofs.YtopnodkdpehdoaaGreatDoor.CalR
/- Answers as cells; two answers held against each other. No conditions. -/
namespace Go.Proofs.YtopnodkdpehdoaaGreatDoor.AnsC
set_option linter.unusedVariables false
open Go.RowKit
open RecN RecC MdN
/-- An answer's cells. -/
def anA (a : An) : Array Value := #[.int .i64 a.er, .string ⟨a.da.toArray⟩, .int .i64 a.st.ep, .int .i64 a.st.ck, .int .i64 a.st.fr, .int .i64 a.st.rc, .int .i64 a.st.pl, .int .i64 a.st.ho]
theorem infoA : (Tryz.prog.info? 39).map (·.size) = some 8 := by kernel_rfl
theorem one8A (a : An) : (#[.int .i64 a.er, .string ⟨a.da.toArray⟩, .int .i64 a.st.ep, .int .i64 a.st.ck, .int .i64 a.st.fr, .int .i64 a.st.rc, .int .i64 a.st.pl, .int .i64 a.st.ho] : Array Value).all (·.oneCell') = true := by simp [Value.oneCell']
theorem sta_iff {a b : Sta} : a = b ↔ a.ep = b.ep ∧ a.ck = b.ck ∧ a.fr = b.fr ∧ a.rc = b.rc ∧ a.pl = b.pl ∧ a.ho = b.ho := by
  obtain ⟨a1, a2, a3, a4, a5, a6⟩ := a
  obtain ⟨b1, b2, b3, b4, b5, b6⟩ := b
  simp
instance (a b : Sta) : Decidable (a = b) := decidable_of_iff _ sta_iff.symm
theorem an_iff {a b : An} : a = b ↔ a.er = b.er ∧ a.da = b.da ∧ a.st = b.st := by
  obtain ⟨a1, a2, a3⟩ := a
  obtain ⟨b1, b2, b3⟩ := b
  simp
instance (a b : An) : Decidable (a = b) := decidable_of_iff _ an_iff.symm
theorem fields_sta : Tryz.prog.fieldsOf 37 = #[{ name := "Epoch", type := 3, offset := 0, embedded := false, tag := "", pkgPath := "", byteOffset := 0 }, { name := "Clock", type := 3, offset := 1, embedded := false, tag := "", pkgPath := "", byteOffset := 8 }, { name := "Free", type := 3, offset := 2, embedded := false, tag := "", pkgPath := "", byteOffset := 16 }, { name := "Records", type := 3, offset := 3, embedded := false, tag := "", pkgPath := "", byteOffset := 24 }, { name := "Places", type := 3, offset := 4, embedded := false, tag := "", pkgPath := "", byteOffset := 32 }, { name := "Holds", type := 3, offset := 5, embedded := false, tag := "", pkgPath := "", byteOffset := 40 }] := by kernel_rfl
theorem under_sta : Tryz.prog.underlying 37 = some (.struct (Tryz.prog.fieldsOf 37)) := by kernel_rfl
theorem stood_sta : Tryz.prog.stoodInHeld 37 = false := by kernel_rfl
theorem info_sta : ((Tryz.prog.info? 37).map fun i => (i.zero, i.size, i.bytes)) = some (some (.agg #[.int .i64 0, .int .i64 0, .int .i64 0, .int .i64 0, .int .i64 0, .int .i64 0]), 6, 48) := by kernel_rfl
theorem fields_ans : Tryz.prog.fieldsOf 39 = #[{ name := "Err", type := 28, offset := 0, embedded := false, tag := "", pkgPath := "", byteOffset := 0 }, { name := "Data", type := 9, offset := 1, embedded := false, tag := "", pkgPath := "", byteOffset := 8 }, { name := "Stat", type := 37, offset := 2, embedded := false, tag := "", pkgPath := "", byteOffset := 24 }] := by kernel_rfl
theorem under_ans : Tryz.prog.underlying 39 = some (.struct (Tryz.prog.fieldsOf 39)) := by kernel_rfl
theorem stood_ans : Tryz.prog.stoodInHeld 39 = false := by kernel_rfl
theorem run_in_sta (W : World) (a b : Sta) : (Op.equalIn 9999 37 (.agg #[.int .i64 a.ep, .int .i64 a.ck, .int .i64 a.fr, .int .i64 a.rc, .int .i64 a.pl, .int .i64 a.ho]) (.agg #[.int .i64 b.ep, .int .i64 b.ck, .int .i64 b.fr, .int .i64 b.rc, .int .i64 b.pl, .int .i64 b.ho])).run Tryz.prog W = .ok (decide (a = b)) W := by
  have hh : ∀ x y : Int, (Op.equalIn 9998 3 (.int .i64 x) (.int .i64 y)).run Tryz.prog W = .ok (x == y) W := fun x y => run_equalIn_int W 9997 3 .i64 .i64 x y Tryz.underlying3
  have p0 : ∀ r : Sta, (part 3 #[.int .i64 r.ep, .int .i64 r.ck, .int .i64 r.fr, .int .i64 r.rc, .int .i64 r.pl, .int .i64 r.ho] 0).run Tryz.prog W = .ok (.int .i64 r.ep) W := fun r => by simp [part, isAgg, run_underlying Tryz.underlying3]
  have p1 : ∀ r : Sta, (part 3 #[.int .i64 r.ep, .int .i64 r.ck, .int .i64 r.fr, .int .i64 r.rc, .int .i64 r.pl, .int .i64 r.ho] 1).run Tryz.prog W = .ok (.int .i64 r.ck) W := fun r => by simp [part, isAgg, run_underlying Tryz.underlying3]
  have p2 : ∀ r : Sta, (part 3 #[.int .i64 r.ep, .int .i64 r.ck, .int .i64 r.fr, .int .i64 r.rc, .int .i64 r.pl, .int .i64 r.ho] 2).run Tryz.prog W = .ok (.int .i64 r.fr) W := fun r => by simp [part, isAgg, run_underlying Tryz.underlying3]
  have p3 : ∀ r : Sta, (part 3 #[.int .i64 r.ep, .int .i64 r.ck, .int .i64 r.fr, .int .i64 r.rc, .int .i64 r.pl, .int .i64 r.ho] 3).run Tryz.prog W = .ok (.int .i64 r.rc) W := fun r => by simp [part, isAgg, run_underlying Tryz.underlying3]
  have p4 : ∀ r : Sta, (part 3 #[.int .i64 r.ep, .int .i64 r.ck, .int .i64 r.fr, .int .i64 r.rc, .int .i64 r.pl, .int .i64 r.ho] 4).run Tryz.prog W = .ok (.int .i64 r.pl) W := fun r => by simp [part, isAgg, run_underlying Tryz.underlying3]
  have p5 : ∀ r : Sta, (part 3 #[.int .i64 r.ep, .int .i64 r.ck, .int .i64 r.fr, .int .i64 r.rc, .int .i64 r.pl, .int .i64 r.ho] 5).run Tryz.prog W = .ok (.int .i64 r.ho) W := fun r => by simp [part, isAgg, run_underlying Tryz.underlying3]
  rw [run_equalIn_struct W 9998 _ _ _ under_sta stood_sta, fields_sta]
  simp only [Op.eqFields, Sem.run_bind, Sem.run_ite, p0, p1, p2, p3, p4, p5, hh, Result.andThen_ok]
  by_cases h1 : a.ep = b.ep
  rotate_left 1
  · simp [h1, sta_iff]
  by_cases h2 : a.ck = b.ck
  rotate_left 1
  · simp [h1, h2, sta_iff]
  by_cases h3 : a.fr = b.fr
  rotate_left 1
  · simp [h1, h2, h3, sta_iff]
  by_cases h4 : a.rc = b.rc
  rotate_left 1
  · simp [h1, h2, h3, h4, sta_iff]
  by_cases h5 : a.pl = b.pl
  rotate_left 1
  · simp [h1, h2, h3, h4, h5, sta_iff]
  by_cases h6 : a.ho = b.ho
  rotate_left 1
  · simp [h1, h2, h3, h4, h5, h6, sta_iff]
  simp [h1, h2, h3, h4, h5, h6, sta_iff]
theorem part_err (W : World) (x : An) : (part 28 #[.int .i64 x.er, .string ⟨x.da.toArray⟩, .int .i64 x.st.ep, .int .i64 x.st.ck, .int .i64 x.st.fr, .int .i64 x.st.rc, .int .i64 x.st.pl, .int .i64 x.st.ho] 0).run Tryz.prog W = .ok (.int .i64 x.er) W := by simp [part, isAgg, run_underlying Tryz.underlying28]
theorem part_dat (W : World) (x : An) : (part 9 #[.int .i64 x.er, .string ⟨x.da.toArray⟩, .int .i64 x.st.ep, .int .i64 x.st.ck, .int .i64 x.st.fr, .int .i64 x.st.rc, .int .i64 x.st.pl, .int .i64 x.st.ho] 1).run Tryz.prog W = .ok (.string ⟨x.da.toArray⟩) W := by simp [part, isAgg, run_underlying Tryz.underlying9]
theorem part_sta (W : World) (x : An) : (part 37 #[.int .i64 x.er, .string ⟨x.da.toArray⟩, .int .i64 x.st.ep, .int .i64 x.st.ck, .int .i64 x.st.fr, .int .i64 x.st.rc, .int .i64 x.st.pl, .int .i64 x.st.ho] 2).run Tryz.prog W = .ok (.agg #[.int .i64 x.st.ep, .int .i64 x.st.ck, .int .i64 x.st.fr, .int .i64 x.st.rc, .int .i64 x.st.pl, .int .i64 x.st.ho]) W := by
  obtain ⟨i0, hi, _, hz1, _⟩ := info_parts info_sta
  have hagg : (isAgg 37).run Tryz.prog W = .ok true W := by
    unfold isAgg
    rw [Sem.run_bind, run_underlying under_sta W]
    rfl
  simp [part, Sem.run_bind, hagg, sizeOf, typeInfo, hi, hz1]
theorem run_in_ans (W : World) (a b : An) : (Op.equalIn 10000 39 (.agg (anA a)) (.agg (anA b))).run Tryz.prog W = .ok (decide (a = b)) W := by
  have hh : ∀ x y : Int, (Op.equalIn 9999 28 (.int .i64 x) (.int .i64 y)).run Tryz.prog W = .ok (x == y) W := fun x y => run_equalIn_int W 9998 28 .i64 .i64 x y Tryz.underlying28
  have hs : ∀ x y : List UInt8, (Op.equalIn 9999 9 (.string ⟨x.toArray⟩) (.string ⟨y.toArray⟩)).run Tryz.prog W = .ok (x == y) W := fun x y => by
    have := run_equalIn_string W 9998 9 ⟨x.toArray⟩ ⟨y.toArray⟩ Tryz.underlying9
    rw [ByteArray.toList_mk, ByteArray.toList_mk] at this
    exact this
  unfold anA
  rw [run_equalIn_struct W 9999 _ _ _ under_ans stood_ans, fields_ans]
  simp only [Op.eqFields, Sem.run_bind, Sem.run_ite, part_err, part_dat, part_sta, run_in_sta, hh, hs, Result.andThen_ok]
  by_cases h1 : a.er = b.er
  rotate_left 1
  · simp [h1, an_iff]
  by_cases h2 : a.da = b.da
  rotate_left 1
  · simp [h1, h2, an_iff]
  by_cases h3 : a.st = b.st
  rotate_left 1
  · simp [h1, h2, h3, an_iff]
  simp [h1, h2, h3, an_iff]
/-- Two answers held against each other. -/
theorem run_neq_ans (a b : An) (q : Bool) (h : decide (a = b) = q) (W : World) : (binOp .neq 39 (.agg (anA a)) (.agg (anA b))).run Tryz.prog W = .ok (.bool (!q)) W := by
  rw [run_neq_struct, run_in_ans W a b, Result.andThen_ok, h]
theorem run_eql_ans (a b : An) (q : Bool) (h : decide (a = b) = q) (W : World) : (binOp .eql 39 (.agg (anA a)) (.agg (anA b))).run Tryz.prog W = .ok (.bool q) W := by
  rw [run_eql_struct, run_in_ans W a b, Result.andThen_ok, h]
/-- The parts of an answer, and of a stat. -/
theorem fld_err (x : An) (W : World) : (Instr.field 39 (.agg #[.int .i64 x.er, .string ⟨x.da.toArray⟩, .int .i64 x.st.ep, .int .i64 x.st.ck, .int .i64 x.st.fr, .int .i64 x.st.rc, .int .i64 x.st.pl, .int .i64 x.st.ho]) 0).run Tryz.prog W = .ok (.int .i64 x.er) W := by kernel_rfl
theorem fld_dat (x : An) (W : World) : (Instr.field 39 (.agg #[.int .i64 x.er, .string ⟨x.da.toArray⟩, .int .i64 x.st.ep, .int .i64 x.st.ck, .int .i64 x.st.fr, .int .i64 x.st.rc, .int .i64 x.st.pl, .int .i64 x.st.ho]) 1).run Tryz.prog W = .ok (.string ⟨x.da.toArray⟩) W := by kernel_rfl
theorem fld_sta (x : An) (W : World) : (Instr.field 39 (.agg #[.int .i64 x.er, .string ⟨x.da.toArray⟩, .int .i64 x.st.ep, .int .i64 x.st.ck, .int .i64 x.st.fr, .int .i64 x.st.rc, .int .i64 x.st.pl, .int .i64 x.st.ho]) 2).run Tryz.prog W = .ok (.agg #[.int .i64 x.st.ep, .int .i64 x.st.ck, .int .i64 x.st.fr, .int .i64 x.st.rc, .int .i64 x.st.pl, .int .i64 x.st.ho]) W := by kernel_rfl
theorem fld_free (x : An) (W : World) : (Instr.field 37 (.agg #[.int .i64 x.st.ep, .int .i64 x.st.ck, .int .i64 x.st.fr, .int .i64 x.st.rc, .int .i64 x.st.pl, .int .i64 x.st.ho]) 2).run Tryz.prog W = .ok (.int .i64 x.st.fr) W := by kernel_rfl
end Go.Proofs.YtopnodkdpehdoaaGreatDoor.AnsC
