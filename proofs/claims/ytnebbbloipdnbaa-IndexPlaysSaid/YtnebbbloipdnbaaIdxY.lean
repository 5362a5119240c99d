/- A version by value, and a row of versions, that come in: what they read as. The conditions: that they came in as a Go program's values. -/
import Derived.Test.YtnebbbloipdnbaaIdxO
import Derived.Deep.Grids
import Derived.Deep.Fields
import Derived.OpenShut
import Derived.WalkArith
namespace Go.Proofs.Ytnebbbloipdnbaa.IdxY
open Go.RowKit Go.ChangeShapes Go.WideShapes
open IdxN IdxM IdxC
theorem cVer : Try.prog.cellsOf 27 = 3 := by kernel_rfl
theorem cInt : Try.prog.cellsOf 3 = 1 := by kernel_rfl
set_option maxRecDepth 100000 in
theorem ver_cells {H : Type} {enc : TypeId × Value → H} {W : World} {fuel : Nat} {cs : List Value} {x : DataW H × List MemPlace} (h : DataW.trod enc Try.prog W 0 (fun _ => true) true fuel 27 cs = some x) : ∃ v : V, cs = vc v := by
  obtain ⟨xs, m, _, _, hl, hxl, hel⟩ := DataW.trod_struct Try.underlying27 h
  rw [cVer] at hl
  have e0 : DataW.trod enc Try.prog W 0 (fun _ => true) true m 3 ((cs.drop 0).take (Try.prog.cellsOf 3)) = xs[0]? := hel 0 _ rfl
  rw [cInt] at e0
  have e1 : DataW.trod enc Try.prog W 0 (fun _ => true) true m 3 ((cs.drop 1).take (Try.prog.cellsOf 3)) = xs[1]? := hel 1 _ rfl
  rw [cInt] at e1
  have e2 : DataW.trod enc Try.prog W 0 (fun _ => true) true m 3 ((cs.drop 2).take (Try.prog.cellsOf 3)) = xs[2]? := hel 2 _ rfl
  rw [cInt] at e2
  match xs, hxl with
  | [y0, y1, y2], _ =>
    match cs, hl with
    | [v0, v1, v2], _ =>
      obtain ⟨a, h0, _, _⟩ := DataW.trod_int Try.underlying3 e0
      obtain ⟨b, h1, _, _⟩ := DataW.trod_int Try.underlying3 e1
      obtain ⟨c, h2, _, _⟩ := DataW.trod_int Try.underlying3 e2
      simp at h0 h1 h2
      subst h0 h1 h2
      exact ⟨(a, b, c), rfl⟩
/-- A version by value. -/
theorem open_ver {H : Type} {enc : TypeId × Value → H} {W : World} {r : Reach} {b0 : Nat} {v : Value} {d : DataW H} {p : List MemPlace} (hval : Value.okWide Try.prog W r b0 27 v)
    (h : DataW.Trod enc Try.prog W 0 (fun _ => true) true 27 v d p) : ∃ x : V, v = .agg #[.int .i64 x.1, .int .i64 x.2.1, .int .i64 x.2.2] := by
  obtain ⟨cs, rfl, _⟩ := okWide_struct Try.underlying27 hval
  obtain ⟨fuel, hf⟩ := h
  obtain ⟨x, hx⟩ := ver_cells hf
  refine ⟨x, ?_⟩
  have e : cs.toList = vc x := by simpa [Value.cells] using hx
  have : cs = (vc x).toArray := by rw [← e]
  rw [this]
  rfl
/-- A row of versions that came in. -/
def Vers (W : World) (a : Option Addr) (n : Nat) (l : List V) : Prop := l.length = n ∧ n ≤ maxLen ∧ Lies W a l
theorem vc_at (v : V) : (vc v)[0]? = some (.int .i64 v.1) ∧ (vc v)[1]? = some (.int .i64 v.2.1) ∧ (vc v)[2]? = some (.int .i64 v.2.2) := ⟨rfl, rfl, rfl⟩
theorem rc_cells {W : World} {g o : Nat} {l : List V} (h : ∀ i (k : i < l.length), W.cell? ⟨g, o + i * 3, none⟩ = some (.int .i64 l[i].1) ∧ W.cell? ⟨g, o + i * 3 + 1, none⟩ = some (.int .i64 l[i].2.1) ∧ W.cell? ⟨g, o + i * 3 + 2, none⟩ = some (.int .i64 l[i].2.2)) :
    ∀ j u, (rc l)[j]? = some u → W.cell? ⟨g, o + j, none⟩ = some u := fun j u hj => by
  have hlt : j < l.length * 3 := by rw [← rc_length]; exact (List.getElem?_eq_some_iff.1 hj).1
  have hi : j / 3 < l.length := by omega
  obtain ⟨r0, r1, r2⟩ := rc_at l (j / 3) hi
  obtain ⟨h0, h1, h2⟩ := h (j / 3) hi
  have hm : j = j / 3 * 3 ∨ j = j / 3 * 3 + 1 ∨ j = j / 3 * 3 + 2 := by omega
  rcases hm with e | e | e
  · rw [← e] at r0 h0; rw [r0] at hj; rw [h0]; exact hj
  · rw [← e] at r1; rw [Nat.add_assoc, ← e] at h1; rw [r1] at hj; rw [h1]; exact hj
  · rw [← e] at r2; rw [Nat.add_assoc, ← e] at h2; rw [r2] at hj; rw [h2]; exact hj
set_option maxRecDepth 100000 in
theorem open_vers {H : Type} {enc : TypeId × Value → H} {W : World} {v : Value} {d : DataW H} {p : List MemPlace}
    (h : DataW.Trod enc Try.prog W 0 (fun _ => true) true 22 v d p) : ∃ a n cap l, v.cells.toList = [.slice a n cap] ∧ Vers W a n l := by
  obtain ⟨fuel, hf⟩ := h
  rcases Go.Deep.open_slice Try.underlying22 hf with ⟨hcs, _⟩ | ⟨a, len, cap, m, n, D, Pl, hcs, _, hl, hm, hmm, _, hi⟩
  · exact ⟨none, 0, 0, [], hcs, rfl, Nat.zero_le _, Lies.nil _ _⟩
  · have hml : len ≤ m := by simp at hmm; omega
    have each : ∀ i, ∃ x : V, i < len → W.cell? (a.add (i * 3)) = some (.int .i64 x.1) ∧ W.cell? (a.add (i * 3 + 1)) = some (.int .i64 x.2.1) ∧ W.cell? (a.add (i * 3 + 2)) = some (.int .i64 x.2.2) := by
      intro i
      by_cases hil : i < len
      · obtain ⟨cs', hc, ht⟩ := hi i (by omega)
        obtain ⟨x, hx⟩ := ver_cells ht
        rw [cVer] at hc
        obtain ⟨_, hlen, hat⟩ := World.cells?_some hc
        obtain ⟨x0, x1, x2⟩ := vc_at x
        refine ⟨x, fun _ => ⟨?_, ?_, ?_⟩⟩
        · have := hat 0 (by omega)
          rw [hx, Go.Deep.add_add] at this
          rw [← x0, ← this]; rfl
        · have := hat 1 (by omega)
          rw [hx, Go.Deep.add_add] at this
          rw [← x1, ← this]
        · have := hat 2 (by omega)
          rw [hx, Go.Deep.add_add] at this
          rw [← x2, ← this]
      · exact ⟨z0, fun h => absurd h hil⟩
    obtain ⟨z, hz⟩ := Classical.axiomOfChoice each
    refine ⟨some a, len, cap, (List.range len).map z, hcs, by simp, by omega, fun h0 => ?_⟩
    have h0' : 0 < len := by simpa using h0
    obtain ⟨g, o, spot⟩ := a
    have hc0 := (hz 0 h0').1
    have hspot : spot = none := by simpa [Addr.add] using World.cell?_spot hc0
    subst hspot
    refine ⟨g, o, rfl, World.block_lt_of_cell? W _ (by simpa [Addr.add] using hc0), rc_cells fun i k => ?_⟩
    have hil : i < len := by simpa using k
    obtain ⟨q0, q1, q2⟩ := hz i hil
    rw [add_off] at q0 q1 q2
    simp only [List.getElem_map, List.getElem_range]
    exact ⟨q0, by rw [Nat.add_assoc]; exact q1, by rw [Nat.add_assoc]; exact q2⟩
end Go.Proofs.Ytnebbbloipdnbaa.IdxY
