/- Acts that come in, by value and in a row: what they read as. The conditions: that they came in as a Go program's values. -/
import Derived.Test.YtofpflkkbkodaaaDkL
import Derived.Deep.Slices
import Derived.Deep.Fields
import Derived.OpenShut
import Derived.WalkArith
namespace Go.Proofs.Ytofpflkkbkodaaa.DkO
open Go.RowKit Go.ChangeShapes Go.WideShapes
open DkN DkM DkU DkL
theorem c3 : Try.prog.cellsOf 3 = 1 := by kernel_rfl
theorem c9 : Try.prog.cellsOf 9 = 1 := by kernel_rfl
theorem c4 : Try.prog.cellsOf 4 = 1 := by kernel_rfl
theorem c31 : Try.prog.cellsOf 31 = 1 := by kernel_rfl
theorem c33 : Try.prog.cellsOf 33 = 6 := by kernel_rfl
/-- What an act that came in is. -/
def Good (W : World) (a : RawAct) (keep : List Int) : Prop :=
  Row W W.heap.size a.ka a.kn keep ∧ (∀ x ∈ keep, IsInt x) ∧ a.kn ≤ maxLen ∧ a.text.size ≤ maxLen ∧ IsInt a.kind ∧ IsInt a.at_ ∧ IsInt a.n
theorem ints_good {W : World} {a : Option Addr} {len cap : Nat} {zs : List Int} (h : IntsAt .i64 W a len cap zs) : ∃ keep, Row W W.heap.size a len keep ∧ (∀ x ∈ keep, IsInt x) ∧ len ≤ maxLen := by
  obtain ⟨l, h1, h2⟩ := row_at h
  refine ⟨l, h1, h2, ?_⟩
  rcases h with ⟨_, h0, _⟩ | ⟨x, _, hl, hm, _⟩
  · omega
  · omega
theorem ints_at_all {H : Type} {enc : TypeId × Value → H} {W : World} {fuel : Nat} {cs : List Value} {x : DataW H × List MemPlace} (h : DataW.trod enc Try.prog W 0 (fun _ => true) true fuel 31 cs = some x) :
    ∃ a len cap zs, cs = [.slice a len cap] ∧ IntsAt .i64 W a len cap zs := by
  rcases open_ints Try.underlying31 Try.underlying3 c3 h with ⟨rfl, _⟩ | ⟨x, l, c, zs, rfl, _, hl, hm, hz, _, hcell, hwz⟩
  · exact ⟨none, 0, 0, [], rfl, .inl ⟨rfl, rfl, rfl, rfl⟩⟩
  · exact ⟨_, _, _, zs, rfl, .inr ⟨_, rfl, hl, hm, by simpa using hz, hcell, hwz⟩⟩
set_option maxRecDepth 100000 in
theorem act_cells {H : Type} {enc : TypeId × Value → H} {W : World} {fuel : Nat} {cs : List Value} {x : DataW H × List MemPlace} (h : DataW.trod enc Try.prog W 0 (fun _ => true) true fuel 33 cs = some x) :
    ∃ a : RawAct, cs = a.cells.toList ∧ ∃ keep, Good W a keep := by
  obtain ⟨xs, n, _, _, hl, hxl, hel⟩ := DataW.trod_struct Try.underlying33 h
  rw [c33] at hl
  have e0 : DataW.trod enc Try.prog W 0 (fun _ => true) true n 3 ((cs.drop 0).take (Try.prog.cellsOf 3)) = xs[0]? := hel 0 _ rfl
  rw [c3] at e0
  have e1 : DataW.trod enc Try.prog W 0 (fun _ => true) true n 3 ((cs.drop 1).take (Try.prog.cellsOf 3)) = xs[1]? := hel 1 _ rfl
  rw [c3] at e1
  have e2 : DataW.trod enc Try.prog W 0 (fun _ => true) true n 3 ((cs.drop 2).take (Try.prog.cellsOf 3)) = xs[2]? := hel 2 _ rfl
  rw [c3] at e2
  have e3 : DataW.trod enc Try.prog W 0 (fun _ => true) true n 9 ((cs.drop 3).take (Try.prog.cellsOf 9)) = xs[3]? := hel 3 _ rfl
  rw [c9] at e3
  have e4 : DataW.trod enc Try.prog W 0 (fun _ => true) true n 4 ((cs.drop 4).take (Try.prog.cellsOf 4)) = xs[4]? := hel 4 _ rfl
  rw [c4] at e4
  have e5 : DataW.trod enc Try.prog W 0 (fun _ => true) true n 31 ((cs.drop 5).take (Try.prog.cellsOf 31)) = xs[5]? := hel 5 _ rfl
  rw [c31] at e5
  match xs, hxl with
  | [y0, y1, y2, y3, y4, y5], _ =>
    match cs, hl with
    | [v0, v1, v2, v3, v4, v5], _ =>
      obtain ⟨k, h0, _, w0⟩ := DataW.trod_int Try.underlying3 e0
      obtain ⟨at_, h1, _, w1⟩ := DataW.trod_int Try.underlying3 e1
      obtain ⟨nn, h2, _, w2⟩ := DataW.trod_int Try.underlying3 e2
      obtain ⟨s, h3, _, w3⟩ := DataW.trod_string Try.underlying9 e3
      obtain ⟨b, h4, _⟩ := DataW.trod_bool Try.underlying4 e4
      obtain ⟨a, len, cap, zs, h5, hi⟩ := ints_at_all e5
      simp at h0 h1 h2 h3 h4 h5
      subst h0 h1 h2 h3 h4 h5
      obtain ⟨keep, r1, r2, r3⟩ := ints_good hi
      exact ⟨⟨k, at_, nn, s, b, a, len, cap⟩, rfl, keep, r1, r2, r3, w3, bounds_i64 w0, bounds_i64 w1, bounds_i64 w2⟩
set_option maxRecDepth 100000 in
/-- An act by value. -/
theorem open_act {H : Type} {enc : TypeId × Value → H} {W : World} {r : Reach} {b0 : Nat} {v : Value} {d : DataW H} {p : List MemPlace} (hval : Value.okWide Try.prog W r b0 33 v)
    (h : DataW.Trod enc Try.prog W 0 (fun _ => true) true 33 v d p) : ∃ a : RawAct, v = .agg a.cells ∧ ∃ keep, Good W a keep := by
  obtain ⟨cs, rfl, _⟩ := okWide_struct Try.underlying33 hval
  obtain ⟨fuel, hf⟩ := h
  obtain ⟨a, ha, g⟩ := act_cells hf
  refine ⟨a, ?_, g⟩
  have : cs = a.cells := by
    have := ha
    simp only [Value.cells] at this
    exact Array.toList_inj.1 this
  rw [this]
set_option maxRecDepth 100000 in
/-- A row of acts. -/
theorem open_acts {H : Type} {enc : TypeId × Value → H} {W : World} {v : Value} {d : DataW H} {p : List MemPlace}
    (h : DataW.Trod enc Try.prog W 0 (fun _ => true) true 22 v d p) : ∃ a cap, ∃ l : List RawAct, v.cells.toList = [.slice a l.length cap] ∧ ActRow W a l ∧ l.length ≤ maxLen ∧ ∀ x ∈ l, ∃ keep, Good W x keep := by
  obtain ⟨fuel, hf⟩ := h
  rcases Go.Deep.open_slice Try.underlying22 hf with ⟨hcs, _⟩ | ⟨a, len, cap, m, n, D, Pl, hcs, _, hl, hm, hmm, _, hi⟩
  · exact ⟨none, 0, [], hcs, fun h => absurd h (by simp), by simp, fun x hx => by simp at hx⟩
  · have hml : len ≤ m := by simp at hmm; omega
    have each : ∀ i, ∃ x : RawAct, i < len → (∀ j v, x.cells[j]? = some v → W.cell? (a.add (i * 6 + j)) = some v) ∧ ∃ keep, Good W x keep := by
      intro i
      by_cases hil : i < len
      · obtain ⟨cs', hc, ht⟩ := hi i (by omega)
        obtain ⟨x, hx, g⟩ := act_cells ht
        rw [c33] at hc
        obtain ⟨_, hlen, hat⟩ := World.cells?_some hc
        refine ⟨x, fun _ => ⟨fun j v hv => ?_, g⟩⟩
        have hj : j < 6 := by
          have := (Array.getElem?_eq_some_iff.1 hv).1
          simpa [RawAct.cells] using this
        rw [← Go.Deep.add_add, hat j hj, hx]
        simpa using hv
      · exact ⟨⟨0, 0, 0, ByteArray.empty, false, none, 0, 0⟩, fun h => absurd h hil⟩
    obtain ⟨f, hf'⟩ := Classical.axiomOfChoice each
    have hlen : ((List.range len).map f).length = len := by simp
    refine ⟨some a, cap, (List.range len).map f, by rw [hlen]; exact hcs, fun h0 => ?_, by rw [hlen]; omega, fun x hx => ?_⟩
    · rw [hlen] at h0
      obtain ⟨b, off, spot⟩ := a
      have hc0 := (hf' 0 h0).1 0 _ rfl
      have hspot : spot = none := by simpa [Addr.add] using World.cell?_spot hc0
      subst hspot
      refine ⟨b, off, rfl, ?_, fun k hk j v hv => ?_⟩
      · exact World.block_lt_of_cell? W _ (by simpa [Addr.add] using hc0)
      · rw [hlen] at hk
        have := (hf' k hk).1 j v (by simpa using hv)
        rwa [add_off, ← Nat.add_assoc] at this
    · obtain ⟨i, hi', rfl⟩ := List.mem_map.1 hx
      exact (hf' i (by simpa using hi')).2
end Go.Proofs.Ytofpflkkbkodaaa.DkO
