/- An api.Image that comes in, by value: what it reads as. The conditions: that it came in as a Go program's value. -/
import Derived.Test.YtofpflkkbkodaaaDkO
import Derived.Test.YtofpflkkbkodaaaDkV
namespace Go.Proofs.Ytofpflkkbkodaaa.DkG
open Go.RowKit Go.ChangeShapes Go.WideShapes
open DkN DkM DkV
theorem c36 : Try.prog.cellsOf 36 = 1 := by kernel_rfl
theorem c37 : Try.prog.cellsOf 37 = 1 := by kernel_rfl
theorem c39 : Try.prog.cellsOf 39 = 2 := by kernel_rfl
theorem c76 : Try.prog.cellsOf 76 = 2 := by kernel_rfl
/-- An image as it comes in. -/
structure RawImg where
  ba : Option Addr
  bc : Nat
  bl : List ByteArray
  pa : Option Addr
  pc : Nat
  ca : List (Int × ByteArray)
def RawImg.cells (x : RawImg) : Array Value := #[.slice x.ba x.bl.length x.bc, .slice x.pa x.ca.length x.pc]
/-- What an image that came in is. -/
def Good (W : World) (x : RawImg) : Prop :=
  StrRow W x.ba x.bl ∧ RRow W x.pa x.ca ∧ (x.ba = none → x.bl = [] ∧ x.bc = 0) ∧ (x.pa = none → x.ca = [] ∧ x.pc = 0) ∧ x.bl.length ≤ maxLen ∧ x.ca.length ≤ maxLen
set_option maxRecDepth 100000 in
theorem open_strs {H : Type} {enc : TypeId × Value → H} {W : World} {fuel : Nat} {cs : List Value} {x : DataW H × List MemPlace} (h : DataW.trod enc Try.prog W 0 (fun _ => true) true fuel 36 cs = some x) :
    ∃ a cap, ∃ l : List ByteArray, cs = [.slice a l.length cap] ∧ StrRow W a l ∧ (a = none → l = [] ∧ cap = 0) ∧ l.length ≤ maxLen := by
  rcases Go.Deep.open_slice Try.underlying36 h with ⟨hcs, _⟩ | ⟨a, len, cap, m, n, D, Pl, hcs, _, hl, hm, hmm, _, hi⟩
  · exact ⟨none, 0, [], hcs, fun h => absurd h (by simp), fun _ => ⟨rfl, rfl⟩, by simp⟩
  · have hml : len ≤ m := by simp at hmm; omega
    have each : ∀ i, ∃ s : ByteArray, i < len → W.cell? (a.add i) = some (.string s) := by
      intro i
      by_cases hil : i < len
      · obtain ⟨cs', hc, ht⟩ := hi i (by omega)
        obtain ⟨s, hs, _⟩ := DataW.trod_string Try.underlying9 ht
        rw [DkO.c9] at hc
        obtain ⟨_, hlen, hat⟩ := World.cells?_some hc
        refine ⟨s, fun _ => ?_⟩
        have := hat 0 (by omega)
        rw [hs] at this
        simpa [Addr.add] using this
      · exact ⟨ByteArray.empty, fun h => absurd h hil⟩
    obtain ⟨f, hf'⟩ := Classical.axiomOfChoice each
    have hlen : ((List.range len).map f).length = len := by simp
    refine ⟨some a, cap, (List.range len).map f, by rw [hlen]; exact hcs, fun h0 => ?_, fun h => by simp at h, by rw [hlen]; omega⟩
    rw [hlen] at h0
    obtain ⟨b, off, spot⟩ := a
    have hc0 := hf' 0 h0
    have hspot : spot = none := by simpa [Addr.add] using World.cell?_spot hc0
    subst hspot
    refine ⟨b, off, rfl, World.block_lt_of_cell? W _ (by simpa [Addr.add] using hc0), fun k hk => ?_⟩
    rw [hlen] at hk
    have := hf' k hk
    rw [add_off] at this
    simpa using this
set_option maxRecDepth 100000 in
theorem open_put {H : Type} {enc : TypeId × Value → H} {W : World} {fuel : Nat} {cs : List Value} {x : DataW H × List MemPlace} (h : DataW.trod enc Try.prog W 0 (fun _ => true) true fuel 76 cs = some x) :
    ∃ (i : Int) (s : ByteArray), cs = [.int .i64 i, .string s] := by
  obtain ⟨xs, n, _, _, hl, hxl, hel⟩ := DataW.trod_struct Try.underlying76 h
  rw [c76] at hl
  have e0 : DataW.trod enc Try.prog W 0 (fun _ => true) true n 3 ((cs.drop 0).take (Try.prog.cellsOf 3)) = xs[0]? := hel 0 _ rfl
  rw [DkO.c3] at e0
  have e1 : DataW.trod enc Try.prog W 0 (fun _ => true) true n 9 ((cs.drop 1).take (Try.prog.cellsOf 9)) = xs[1]? := hel 1 _ rfl
  rw [DkO.c9] at e1
  match xs, hxl with
  | [y0, y1], _ =>
    match cs, hl with
    | [v0, v1], _ =>
      obtain ⟨k, h0, _, _⟩ := DataW.trod_int Try.underlying3 e0
      obtain ⟨s, h1, _, _⟩ := DataW.trod_string Try.underlying9 e1
      simp at h0 h1
      subst h0 h1
      exact ⟨k, s, rfl⟩
set_option maxRecDepth 100000 in
theorem open_puts {H : Type} {enc : TypeId × Value → H} {W : World} {fuel : Nat} {cs : List Value} {x : DataW H × List MemPlace} (h : DataW.trod enc Try.prog W 0 (fun _ => true) true fuel 37 cs = some x) :
    ∃ a cap, ∃ l : List (Int × ByteArray), cs = [.slice a l.length cap] ∧ RRow W a l ∧ (a = none → l = [] ∧ cap = 0) ∧ l.length ≤ maxLen := by
  rcases Go.Deep.open_slice Try.underlying37 h with ⟨hcs, _⟩ | ⟨a, len, cap, m, n, D, Pl, hcs, _, hl, hm, hmm, _, hi⟩
  · exact ⟨none, 0, [], hcs, fun h => absurd h (by simp), fun _ => ⟨rfl, rfl⟩, by simp⟩
  · have hml : len ≤ m := by simp at hmm; omega
    have each : ∀ i, ∃ x : Int × ByteArray, i < len → W.cell? (a.add (i * 2)) = some (.int .i64 x.1) ∧ W.cell? (a.add (i * 2 + 1)) = some (.string x.2) := by
      intro i
      by_cases hil : i < len
      · obtain ⟨cs', hc, ht⟩ := hi i (by omega)
        obtain ⟨k, s, hs⟩ := open_put ht
        rw [c76] at hc
        obtain ⟨_, hlen, hat⟩ := World.cells?_some hc
        refine ⟨(k, s), fun _ => ⟨?_, ?_⟩⟩
        · have := hat 0 (by omega)
          rw [hs] at this
          rw [← Nat.add_zero (i * 2), ← Go.Deep.add_add, this]
          rfl
        · have := hat 1 (by omega)
          rw [hs] at this
          rw [← Go.Deep.add_add, this]
          rfl
      · exact ⟨(0, ByteArray.empty), fun h => absurd h hil⟩
    obtain ⟨f, hf'⟩ := Classical.axiomOfChoice each
    have hlen : ((List.range len).map f).length = len := by simp
    refine ⟨some a, cap, (List.range len).map f, by rw [hlen]; exact hcs, fun h0 => ?_, fun h => by simp at h, by rw [hlen]; omega⟩
    rw [hlen] at h0
    obtain ⟨b, off, spot⟩ := a
    have hc0 := (hf' 0 h0).1
    have hspot : spot = none := by simpa [Addr.add] using World.cell?_spot hc0
    subst hspot
    refine ⟨b, off, rfl, World.block_lt_of_cell? W _ (by simpa [Addr.add] using hc0), fun k hk => ?_⟩
    rw [hlen] at hk
    obtain ⟨q0, q1⟩ := hf' k hk
    rw [add_off] at q0 q1
    rw [← Nat.add_assoc] at q1
    simp only [List.getElem_map, List.getElem_range]
    exact ⟨q0, q1⟩
set_option maxRecDepth 100000 in
/-- An image by value. -/
theorem open_image {H : Type} {enc : TypeId × Value → H} {W : World} {r : Reach} {b0 : Nat} {v : Value} {d : DataW H} {p : List MemPlace} (hval : Value.okWide Try.prog W r b0 39 v)
    (h : DataW.Trod enc Try.prog W 0 (fun _ => true) true 39 v d p) : ∃ x : RawImg, v = .agg x.cells ∧ Good W x := by
  obtain ⟨cs, rfl, _⟩ := okWide_struct Try.underlying39 hval
  obtain ⟨fuel, hf⟩ := h
  obtain ⟨xs, n, _, _, hl, hxl, hel⟩ := DataW.trod_struct Try.underlying39 hf
  simp only [Value.cells] at hl hel
  rw [c39] at hl
  obtain ⟨l⟩ := cs
  simp only at hl hel
  have e0 : DataW.trod enc Try.prog W 0 (fun _ => true) true n 36 ((l.drop 0).take (Try.prog.cellsOf 36)) = xs[0]? := hel 0 _ rfl
  rw [c36] at e0
  have e1 : DataW.trod enc Try.prog W 0 (fun _ => true) true n 37 ((l.drop 1).take (Try.prog.cellsOf 37)) = xs[1]? := hel 1 _ rfl
  rw [c37] at e1
  match xs, hxl with
  | [y0, y1], _ =>
    match l, hl with
    | [v0, v1], _ =>
      obtain ⟨a, c, bl, h0, s0, n0, m0⟩ := open_strs e0
      obtain ⟨a', c', ca, h1, s1, n1, m1⟩ := open_puts e1
      simp at h0 h1
      subst h0 h1
      exact ⟨⟨a, c, bl, a', c', ca⟩, rfl, s0, s1, n0, n1, m0, m1⟩
end Go.Proofs.Ytofpflkkbkodaaa.DkG
