/- Rows of records in memory: what they read as; rows that come in. The conditions: that what came in came as a Go program's values. -/
import Derived.Test.YtopnodkdpehdoaaGreatDoorRecC
import Derived.Deep.Slices
import Derived.Deep.Grids
import Derived.Deep.Fields
import Derived.Deep.MidRow
import Derived.Laws.AppendOwn
import Derived.WalkArith
namespace Go.Proofs.YtopnodkdpehdoaaGreatDoor.RetR
set_option linter.unusedVariables false
open Go.RowKit Go.ChangeShapes Go.WideShapes
open RecN RecC
section
variable {α : Type} {f : α → List Value} {n : Nat} (hf : ∀ x, (f x).length = n)
include hf
theorem fm_len (l : List α) : (l.flatMap f).length = l.length * n := by
  induction l with
  | nil => simp
  | cons x l ih => rw [List.flatMap_cons, List.length_append, ih, hf, List.length_cons, Nat.succ_mul]; omega
theorem fm_at (l : List α) : ∀ i (h : i < l.length) (j : Nat), j < n → (l.flatMap f)[i * n + j]? = (f l[i])[j]? := by
  induction l with
  | nil => intro i h; simp at h
  | cons x l ih =>
    intro i h j hj
    rw [List.flatMap_cons]
    cases i with
    | zero => rw [Nat.zero_mul, Nat.zero_add, List.getElem?_append_left (by rw [hf]; exact hj)]; rfl
    | succ i =>
      rw [List.getElem?_append_right (by rw [hf, Nat.succ_mul]; omega), hf, show (i + 1) * n + j - n = i * n + j by rw [Nat.succ_mul]; omega]
      exact ih i (by simpa using h) j hj
end
/-- A record as cells. -/
def rcL (r : Rec) : List Value := [.int .i64 r.k, .int .i64 r.ep, .int .i64 r.tm, .int .i64 r.ct, .int .i64 r.tg, .int .i64 r.un, .string ⟨r.rt.toArray⟩, .string ⟨r.nm.toArray⟩]
theorem rc_len (r : Rec) : (rcL r).length = 8 := rfl
def rr (l : List Rec) : List Value := l.flatMap rcL
theorem rr_len (l : List Rec) : (rr l).length = l.length * 8 := fm_len rc_len l
theorem rr_app (l m : List Rec) : rr (l ++ m) = rr l ++ rr m := by simp [rr]
theorem rr_nil : rr [] = [] := rfl
theorem rr_one (r : Rec) : rr [r] = rcL r := by simp [rr]
theorem rc_one (r : Rec) : ∀ u ∈ rcL r, u.oneCell' = true := by
  intro u hu
  simp only [rcL, List.mem_cons, List.not_mem_nil, or_false] at hu
  rcases hu with rfl | rfl | rfl | rfl | rfl | rfl | rfl | rfl <;> rfl
/-- A row reads as these cells. -/
def Lies (W : World) (a : Option Addr) (cs : List Value) : Prop := 0 < cs.length → ∃ g o, a = some ⟨g, o, none⟩ ∧ g < W.heap.size ∧ ∀ j u, cs[j]? = some u → W.cell? ⟨g, o + j, none⟩ = some u
theorem Lies.nil (W : World) (a : Option Addr) : Lies W a [] := fun h => absurd h (by simp)
theorem Lies.step {W W' : World} {a : Option Addr} {cs : List Value} (h : Lies W a cs) (hb : Below W.heap.size W W') : Lies W' a cs := fun h0 => by
  obtain ⟨g, o, e, hg, hc⟩ := h h0
  exact ⟨g, o, e, Nat.lt_of_lt_of_le hg hb.size, fun j u hj => (hb.cell (p := ⟨g, o + j, none⟩) hg).trans (hc j u hj)⟩
theorem Lies.pre {W : World} {a : Option Addr} {cs c1 c2 : List Value} (h : Lies W a cs) (e : cs = c1 ++ c2) : Lies W a c1 := fun h0 => by
  obtain ⟨g, o, ea, hg, hc⟩ := h (by rw [e, List.length_append]; omega)
  refine ⟨g, o, ea, hg, fun j u hj => hc j u ?_⟩
  rw [e, List.getElem?_append_left (List.getElem?_eq_some_iff.1 hj).1]
  exact hj
/-- A row of the call's own reads as it does. -/
theorem own_lies {W : World} {base size : Nat} {e : TypeId} {a : Option Addr} {n c : Nat} {cs : List Value} (h : W.ownsRow base e size (.slice a n c) n cs) : Lies W a cs := fun h0 => by
  have hl := h.1
  rcases h.2 with ⟨_, hn⟩ | ⟨g, cap, cur, hv, _, hg, _⟩
  · subst hn
    rw [Nat.zero_mul] at hl
    omega
  · injection hv with hv
    subst hv
    refine ⟨g, 0, rfl, (Array.getElem?_eq_some_iff.1 hg).1, fun j u hj => ?_⟩
    have := h.cells (g := g) rfl j u hj
    rwa [add_off] at this
/-- One record amid a block. -/
def At8 (W : World) (g p : Nat) (r : Rec) : Prop := W.cell? ⟨g, p, none⟩ = some (.int .i64 r.k) ∧ W.cell? ⟨g, p + 1, none⟩ = some (.int .i64 r.ep) ∧ W.cell? ⟨g, p + 2, none⟩ = some (.int .i64 r.tm) ∧ W.cell? ⟨g, p + 3, none⟩ = some (.int .i64 r.ct) ∧ W.cell? ⟨g, p + 4, none⟩ = some (.int .i64 r.tg) ∧ W.cell? ⟨g, p + 5, none⟩ = some (.int .i64 r.un) ∧ W.cell? ⟨g, p + 6, none⟩ = some (.string ⟨r.rt.toArray⟩) ∧ W.cell? ⟨g, p + 7, none⟩ = some (.string ⟨r.nm.toArray⟩)
theorem At8.step {W W' : World} {B g p : Nat} {r : Rec} (h : At8 W g p r) (hg : g < B) (hb : Below B W W') : At8 W' g p r := by
  obtain ⟨h0, h1, h2, h3, h4, h5, h6, h7⟩ := h
  have k : ∀ q v, W.cell? ⟨g, q, none⟩ = some v → W'.cell? ⟨g, q, none⟩ = some v := fun q v e => (hb.cell (p := ⟨g, q, none⟩) hg).trans e
  exact ⟨k _ _ h0, k _ _ h1, k _ _ h2, k _ _ h3, k _ _ h4, k _ _ h5, k _ _ h6, k _ _ h7⟩
theorem at8_of {W : World} {g o : Nat} {l : List Rec} (h : ∀ j u, (rr l)[j]? = some u → W.cell? ⟨g, o + j, none⟩ = some u) (i : Nat) (hi : i < l.length) : At8 W g (o + i * 8) l[i] := by
  have k : ∀ j u, j < 8 → (rcL l[i])[j]? = some u → W.cell? ⟨g, o + i * 8 + j, none⟩ = some u := fun j u hj hu => by
    rw [Nat.add_assoc]
    exact h _ _ ((fm_at rc_len l i hi j hj).trans hu)
  exact ⟨k 0 _ (by omega) rfl, k 1 _ (by omega) rfl, k 2 _ (by omega) rfl, k 3 _ (by omega) rfl, k 4 _ (by omega) rfl, k 5 _ (by omega) rfl, k 6 _ (by omega) rfl, k 7 _ (by omega) rfl⟩
theorem Lies.at8 {W : World} {a : Option Addr} {l : List Rec} (h : Lies W a (rr l)) (h0 : 0 < l.length) : ∃ g o, a = some ⟨g, o, none⟩ ∧ g < W.heap.size ∧ ∀ i (hi : i < l.length), At8 W g (o + i * 8) l[i] := by
  obtain ⟨g, o, e, hg, hc⟩ := h (by rw [rr_len]; omega)
  exact ⟨g, o, e, hg, at8_of hc⟩
/-- What bounds a record that came in. -/
def Fit (r : Rec) : Prop := (Lit.int .i64 r.tg).wf = true ∧ r.rt.length ≤ maxLen ∧ r.nm.length ≤ maxLen
theorem fit_zero : Fit zero := ⟨by decide, by decide, by decide⟩
set_option maxRecDepth 100000 in
theorem rec_cells {H : Type} {enc : TypeId × Value → H} {W : World} {fuel : Nat} {cs : List Value} {x : DataW H × List MemPlace} (h : DataW.trod enc Tryz.prog W 0 (fun _ => true) true fuel 82 cs = some x) : ∃ r : Rec, cs = rcL r ∧ Fit r := by
  obtain ⟨xs, n, _, _, hl, hxl, hel⟩ := DataW.trod_struct Tryz.underlying82 h
  rw [cRec] at hl
  have e0 : DataW.trod enc Tryz.prog W 0 (fun _ => true) true n 3 ((cs.drop 0).take (Tryz.prog.cellsOf 3)) = xs[0]? := hel 0 _ rfl
  have e1 : DataW.trod enc Tryz.prog W 0 (fun _ => true) true n 3 ((cs.drop 1).take (Tryz.prog.cellsOf 3)) = xs[1]? := hel 1 _ rfl
  have e2 : DataW.trod enc Tryz.prog W 0 (fun _ => true) true n 3 ((cs.drop 2).take (Tryz.prog.cellsOf 3)) = xs[2]? := hel 2 _ rfl
  have e3 : DataW.trod enc Tryz.prog W 0 (fun _ => true) true n 3 ((cs.drop 3).take (Tryz.prog.cellsOf 3)) = xs[3]? := hel 3 _ rfl
  have e4 : DataW.trod enc Tryz.prog W 0 (fun _ => true) true n 3 ((cs.drop 4).take (Tryz.prog.cellsOf 3)) = xs[4]? := hel 4 _ rfl
  have e5 : DataW.trod enc Tryz.prog W 0 (fun _ => true) true n 3 ((cs.drop 5).take (Tryz.prog.cellsOf 3)) = xs[5]? := hel 5 _ rfl
  have e6 : DataW.trod enc Tryz.prog W 0 (fun _ => true) true n 9 ((cs.drop 6).take (Tryz.prog.cellsOf 9)) = xs[6]? := hel 6 _ rfl
  have e7 : DataW.trod enc Tryz.prog W 0 (fun _ => true) true n 9 ((cs.drop 7).take (Tryz.prog.cellsOf 9)) = xs[7]? := hel 7 _ rfl
  rw [cInt] at e0 e1 e2 e3 e4 e5
  rw [cStr] at e6 e7
  match xs, hxl with
  | [y0, y1, y2, y3, y4, y5, y6, y7], _ =>
    match cs, hl with
    | [v0, v1, v2, v3, v4, v5, v6, v7], _ =>
      obtain ⟨k, h0, _, _⟩ := DataW.trod_int Tryz.underlying3 e0
      obtain ⟨ep, h1, _, _⟩ := DataW.trod_int Tryz.underlying3 e1
      obtain ⟨tm, h2, _, _⟩ := DataW.trod_int Tryz.underlying3 e2
      obtain ⟨ct, h3, _, _⟩ := DataW.trod_int Tryz.underlying3 e3
      obtain ⟨tg, h4, _, w4⟩ := DataW.trod_int Tryz.underlying3 e4
      obtain ⟨un, h5, _, _⟩ := DataW.trod_int Tryz.underlying3 e5
      obtain ⟨⟨⟨rt⟩⟩, h6, _, w6⟩ := DataW.trod_string Tryz.underlying9 e6
      obtain ⟨⟨⟨nm⟩⟩, h7, _, w7⟩ := DataW.trod_string Tryz.underlying9 e7
      simp at h0 h1 h2 h3 h4 h5 h6 h7
      subst h0 h1 h2 h3 h4 h5 h6 h7
      exact ⟨⟨k, ep, tm, ct, tg, un, rt, nm⟩, rfl, w4, by simpa [ByteArray.size] using w6, by simpa [ByteArray.size] using w7⟩
/-- A row of records that came in. -/
def Came (W : World) (a : Option Addr) (n c : Nat) (l : List Rec) : Prop := l.length = n ∧ n ≤ maxLen ∧ n ≤ c ∧ (∀ x ∈ l, Fit x) ∧ Lies W a (rr l)
theorem lies_of {W : World} {g o : Nat} {l : List Rec} (hg : g < W.heap.size) (h : ∀ i (hi : i < l.length) j u, (rcL l[i])[j]? = some u → W.cell? ⟨g, o + i * 8 + j, none⟩ = some u) : Lies W (some ⟨g, o, none⟩) (rr l) := fun _ => by
  refine ⟨g, o, rfl, hg, fun j u hj => ?_⟩
  have hlt : j < l.length * 8 := by rw [← rr_len]; exact (List.getElem?_eq_some_iff.1 hj).1
  have hi : j / 8 < l.length := by omega
  have e : j = j / 8 * 8 + j % 8 := by omega
  rw [e] at hj
  unfold rr at hj
  rw [fm_at rc_len l (j / 8) hi (j % 8) (by omega)] at hj
  have := h (j / 8) hi (j % 8) u hj
  rw [e, ← Nat.add_assoc]
  exact this
set_option maxRecDepth 100000 in
theorem open_recs {H : Type} {enc : TypeId × Value → H} {W : World} {v : Value} {d : DataW H} {p : List MemPlace}
    (h : DataW.Trod enc Tryz.prog W 0 (fun _ => true) true 56 v d p) : ∃ a n cap l, v.cells.toList = [.slice a n cap] ∧ Came W a n cap l := by
  obtain ⟨fuel, hf⟩ := h
  rcases Go.Deep.open_slice Tryz.underlying56 hf with ⟨hcs, _⟩ | ⟨a, len, cap, m, n, D, Pl, hcs, _, hl, hm, hmm, hd, hi⟩
  · exact ⟨none, 0, 0, [], hcs, rfl, Nat.zero_le _, Nat.le_refl _, (fun x hx => by simp at hx), Lies.nil _ _⟩
  · have hml : len ≤ m := by simp at hmm; omega
    have each : ∀ i, ∃ x : Rec, i < len → Fit x ∧ ∀ j u, (rcL x)[j]? = some u → W.cell? (a.add (i * 8 + j)) = some u := by
      intro i
      by_cases hil : i < len
      · obtain ⟨cs', hc, ht⟩ := hi i (by omega)
        obtain ⟨x, hx, hfit⟩ := rec_cells ht
        rw [cRec] at hc
        obtain ⟨_, hlen, hat⟩ := World.cells?_some hc
        refine ⟨x, fun _ => ⟨hfit, fun j u hj => ?_⟩⟩
        have hj8 : j < 8 := by rw [← rc_len x]; exact (List.getElem?_eq_some_iff.1 hj).1
        have := hat j (by omega)
        rw [hx, Go.Deep.add_add] at this
        rw [this]
        exact hj
      · exact ⟨zero, fun h => absurd h hil⟩
    obtain ⟨z, hz⟩ := Classical.axiomOfChoice each
    have hll : ((List.range len).map z).length = len := by simp
    refine ⟨some a, len, cap, (List.range len).map z, hcs, hll, by omega, hl, (fun x hx => ?_), fun h0 => ?_⟩
    · obtain ⟨i, hi, rfl⟩ := List.mem_map.1 hx
      exact (hz i (List.mem_range.1 hi)).1
    have h0' : 0 < len := by rw [rr_len, hll] at h0; omega
    obtain ⟨g, o, spot⟩ := a
    have hc0 := (hz 0 h0').2 0 _ rfl
    have hspot : spot = none := by simpa [Addr.add] using World.cell?_spot hc0
    subst hspot
    refine lies_of (World.block_lt_of_cell? W _ (by simpa [Addr.add] using hc0)) (fun i hi j u hj => ?_) h0
    rw [hll] at hi
    simp only [List.getElem_map, List.getElem_range] at hj
    have := (hz i hi).2 j u hj
    rw [add_off] at this
    rw [Nat.add_assoc]
    exact this
end Go.Proofs.YtopnodkdpehdoaaGreatDoor.RetR
