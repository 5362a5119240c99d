/- A row of bools, and a row of acts, that come in: what they read as. The conditions: that they came in as a Go program's values. -/
import Derived.Test.YtmghkacbphdakaaDoorSpaY
import Derived.Deep.Grids
import Derived.Deep.Fields
import Derived.OpenShut
import Derived.WalkArith
namespace Go.Proofs.YtmghkacbphdakaaDoor.SpaO
open Go.RowKit Go.ChangeShapes Go.WideShapes
open GeoN GeoC GeoS SpaN SpaC SpaY
/-- A row of bools: the slice's address, how many, which. -/
def Bools (W : World) (a : Option Addr) (n : Nat) (z : Nat → Bool) : Prop :=
  n ≤ maxLen ∧ (0 < n → ∃ g o, a = some ⟨g, o, none⟩ ∧ g < W.heap.size ∧ ∀ i, i < n → W.cell? ⟨g, o + i, none⟩ = some (.bool (z i)))
theorem cBool : Tryd.prog.cellsOf 4 = 1 := by kernel_rfl
theorem open_bools {H : Type} {enc : TypeId × Value → H} {W : World} {v : Value} {d : DataW H} {p : List MemPlace}
    (h : DataW.Trod enc Tryd.prog W 0 (fun _ => true) true 40 v d p) : ∃ a n cap z, v.cells.toList = [.slice a n cap] ∧ Bools W a n z := by
  obtain ⟨fuel, hf⟩ := h
  rcases Go.Deep.open_bools Tryd.underlying40 Tryd.underlying4 cBool hf with ⟨hcs, _⟩ | ⟨a, n, cap, z, hcs, _, hl, hm, _, hc⟩
  · exact ⟨none, 0, 0, fun _ => false, hcs, Nat.zero_le _, fun h => absurd h (by omega)⟩
  · refine ⟨some a, n, cap, z, hcs, Nat.le_trans hl hm, fun h0 => ?_⟩
    obtain ⟨g, o, spot⟩ := a
    have hc0 := hc 0 (by omega)
    have hspot : spot = none := by simpa [Addr.add] using World.cell?_spot hc0
    subst hspot
    refine ⟨g, o, rfl, World.block_lt_of_cell? W _ (by simpa [Addr.add] using hc0), fun i hi => ?_⟩
    have := hc i (by omega)
    rwa [add_off] at this
/-- A row of acts: each its kind and its number. -/
def Acts (W : World) (a : Option Addr) (n : Nat) (z : Nat → Int × Int) : Prop :=
  n ≤ maxLen ∧ (∀ i, i < n → (z i).2 ≤ 9223372036854775807) ∧ (0 < n → ∃ g o, a = some ⟨g, o, none⟩ ∧ g < W.heap.size ∧ ∀ i, i < n → W.cell? ⟨g, o + i * 2, none⟩ = some (.int .i64 (z i).1) ∧ W.cell? ⟨g, o + i * 2 + 1, none⟩ = some (.int .i64 (z i).2))
theorem cInt : Tryd.prog.cellsOf 3 = 1 := by kernel_rfl
theorem cAct : Tryd.prog.cellsOf 33 = 2 := by kernel_rfl
set_option maxRecDepth 100000 in
theorem act_cells {H : Type} {enc : TypeId × Value → H} {W : World} {fuel : Nat} {cs : List Value} {x : DataW H × List MemPlace} (h : DataW.trod enc Tryd.prog W 0 (fun _ => true) true fuel 33 cs = some x) :
    ∃ k n : Int, cs = [.int .i64 k, .int .i64 n] ∧ n ≤ 9223372036854775807 := by
  obtain ⟨xs, m, _, _, hl, hxl, hel⟩ := DataW.trod_struct Tryd.underlying33 h
  rw [cAct] at hl
  have e0 : DataW.trod enc Tryd.prog W 0 (fun _ => true) true m 3 ((cs.drop 0).take (Tryd.prog.cellsOf 3)) = xs[0]? := hel 0 _ rfl
  rw [cInt] at e0
  have e1 : DataW.trod enc Tryd.prog W 0 (fun _ => true) true m 3 ((cs.drop 1).take (Tryd.prog.cellsOf 3)) = xs[1]? := hel 1 _ rfl
  rw [cInt] at e1
  match xs, hxl with
  | [y0, y1], _ =>
    match cs, hl with
    | [v0, v1], _ =>
      obtain ⟨k, h0, _, _⟩ := DataW.trod_int Tryd.underlying3 e0
      obtain ⟨n, h1, _, w1⟩ := DataW.trod_int Tryd.underlying3 e1
      simp at h0 h1
      subst h0 h1
      exact ⟨k, n, rfl, (bounds_i64 w1).2⟩
set_option maxRecDepth 100000 in
theorem open_acts {H : Type} {enc : TypeId × Value → H} {W : World} {v : Value} {d : DataW H} {p : List MemPlace}
    (h : DataW.Trod enc Tryd.prog W 0 (fun _ => true) true 24 v d p) : ∃ a n cap z, v.cells.toList = [.slice a n cap] ∧ Acts W a n z := by
  obtain ⟨fuel, hf⟩ := h
  rcases Go.Deep.open_slice Tryd.underlying24 hf with ⟨hcs, _⟩ | ⟨a, len, cap, m, n, D, Pl, hcs, _, hl, hm, hmm, _, hi⟩
  · exact ⟨none, 0, 0, fun _ => (0, 0), hcs, Nat.zero_le _, fun i h => absurd h (by omega), fun h => absurd h (by omega)⟩
  · have hml : len ≤ m := by simp at hmm; omega
    have each : ∀ i, ∃ x : Int × Int, i < len → x.2 ≤ 9223372036854775807 ∧ W.cell? (a.add (i * 2)) = some (.int .i64 x.1) ∧ W.cell? (a.add (i * 2 + 1)) = some (.int .i64 x.2) := by
      intro i
      by_cases hil : i < len
      · obtain ⟨cs', hc, ht⟩ := hi i (by omega)
        obtain ⟨k, q, hx, hq⟩ := act_cells ht
        rw [cAct] at hc
        obtain ⟨_, hlen, hat⟩ := World.cells?_some hc
        refine ⟨(k, q), fun _ => ⟨hq, ?_, ?_⟩⟩
        · have := hat 0 (by omega)
          rw [hx, Go.Deep.add_add] at this
          simpa using this
        · have := hat 1 (by omega)
          rw [hx, Go.Deep.add_add] at this
          simpa using this
      · exact ⟨(0, 0), fun h => absurd h hil⟩
    obtain ⟨z, hz⟩ := Classical.axiomOfChoice each
    refine ⟨some a, len, cap, z, hcs, by omega, fun i hi' => (hz i hi').1, fun h0 => ?_⟩
    obtain ⟨g, o, spot⟩ := a
    have hc0 := (hz 0 h0).2.1
    have hspot : spot = none := by simpa [Addr.add] using World.cell?_spot hc0
    subst hspot
    refine ⟨g, o, rfl, World.block_lt_of_cell? W _ (by simpa [Addr.add] using hc0), fun i hi' => ?_⟩
    have h1 := (hz i hi').2.1
    have h2 := (hz i hi').2.2
    rw [add_off] at h1 h2
    exact ⟨h1, by rw [Nat.add_assoc]; exact h2⟩
/-- What stands while a statement runs: what was stays, the two variables, the shape's block, the space's. -/
structure Now (w : World) (B : Nat) (b l f u : Int) (W : World) : Prop where
  b0 : Bnd w
  bel : Below w.heap.size w W
  k : W.heap[w.heap.size]? = some (.cells #[.int .i64 b, .int .i64 l, .int .i64 f] 23 (0, 0))
  s : Sp W B b l f u
  own : w.heap.size < B
variable {w W W' : World} {B : Nat} {b l f u v : Int}
theorem Now.bn (h : Now w B b l f u W) : Bnd W := h.b0.step h.bel
theorem Now.lt (h : Now w B b l f u W) : w.heap.size < W.heap.size := (Array.getElem?_eq_some_iff.1 h.k).1
theorem Now.step (h : Now w B b l f u W) (hb : Below W.heap.size W W') : Now w B b l f u W' := ⟨h.b0, h.bel.trans (hb.mono h.bel.size), (hb.block _ h.lt).trans h.k, h.s.step hb, h.own⟩
theorem Now.turn (h : Now w B b l f u W) (k : Sp W' B b l f v ∧ But B W W') : Now w B b l f v W' :=
  ⟨h.b0, h.bel.trans (k.2.below (Nat.le_of_lt h.own) h.bel.size), (k.2.block _ h.lt (Nat.ne_of_lt h.own)).trans h.k, k.1, h.own⟩
theorem Now.cells (h : Now w B b l f u W) : W.cell? ⟨w.heap.size, 0, none⟩ = some (.int .i64 b) ∧ W.cell? ⟨w.heap.size, 1, none⟩ = some (.int .i64 l) ∧ W.cell? ⟨w.heap.size, 2, none⟩ = some (.int .i64 f) :=
  ⟨blk_cell h.k rfl, blk_cell h.k rfl, blk_cell h.k rfl⟩
theorem Now.of {w1 : World} (h : St w b l f w1) (hb : Bnd w) (hB : w1.heap.size ≤ B) (hs : Sp W B b l f u) (hbe : Below w1.heap.size w1 W) : Now w B b l f u W :=
  ⟨hb, (h.step hbe).bel, (h.step hbe).k, hs, Nat.lt_of_lt_of_le h.lt hB⟩
/-- What is known of the space's numbers. -/
theorem ne0 (h : good b l f u) : (b == 0) = false := by
  rw [beq_eq_false_iff_ne]
  have := h.b
  omega
end Go.Proofs.YtmghkacbphdakaaDoor.SpaO
