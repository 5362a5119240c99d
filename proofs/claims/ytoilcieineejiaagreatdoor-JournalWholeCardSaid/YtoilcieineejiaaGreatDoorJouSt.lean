/- Steps of a script that come in: what they read as; are they so few: the walk of its text. The conditions: that they came in as a Go program's values. -/
import Derived.Test.YtoilcieineejiaaGreatDoorLDkm
import Derived.Deep.QuietTactic
import Derived.BigQuiet
import Derived.IntWalk
import Derived.Deep.Slices
import Derived.Deep.Fields
import Derived.OpenShut
import Derived.WalkArith
namespace Go.Proofs.YtoilcieineejiaaGreatDoor.JouSt
open Go.RowKit Go.ChangeShapes Go.WideShapes
open DkN DkM
/-- A step, as it is handed over. -/
structure RawSt where
  kind : Int
  n : Int
  text : ByteArray
def RawSt.cells (a : RawSt) : Array Value := #[.int .i64 a.kind, .int .i64 a.n, .string a.text]
/-- A row of acts, wherever it lies. -/
def StpRow (w : World) (a : Option Addr) (l : List RawSt) : Prop :=
  0 < l.length → ∃ g o, a = some ⟨g, o, none⟩ ∧ g < w.heap.size ∧ ∀ k (_ : k < l.length) j v, l[k].cells[j]? = some v → w.cell? ⟨g, o + k * 3 + j, none⟩ = some v
theorem StpRow.below {w w' : World} {a : Option Addr} {l : List RawSt} (h : StpRow w a l) (hb : Below w.heap.size w w') : StpRow w' a l := by
  intro hl
  obtain ⟨g, o, e, hg, hc⟩ := h hl
  exact ⟨g, o, e, Nat.lt_of_lt_of_le hg hb.size, fun k hk j v hv => (hb.cell (p := ⟨g, o + k * 3 + j, none⟩) hg).trans (hc k hk j v hv)⟩
theorem ret_bool {a b : Bool} (h : a = b) : Ending.returned (.bool a) = .returned (.bool b) := by rw [h]
theorem vint {a b : Int} (h : a = b) : Value.int .i64 a = Value.int .i64 b := by rw [h]
/-- How much an act counts. -/
def wt (a : RawSt) : Nat := min a.text.size 10000
def wsum (l : List RawSt) : Nat := (l.map wt).sum
theorem wsum_next (l : List RawSt) (k : Nat) (h : k < l.length) : wsum (l.take (k + 1)) = wsum (l.take k) + wt l[k] := by
  unfold wsum
  rw [List.take_succ_eq_append_getElem h, List.map_append, List.sum_append]
  simp
theorem wsum_le (l : List RawSt) : wsum l ≤ 10000 * l.length := by
  unfold wsum
  induction l with
  | nil => simp
  | cons x l ih =>
    rw [List.map_cons, List.sum_cons, List.length_cons]
    have : wt x ≤ 10000 := by unfold wt; omega
    omega
/-- Are acts gone through? -/
def fewB (l : List RawSt) : Bool := decide (l.length ≤ 40 ∧ wsum (l.take 41) ≤ 20000)
set_option maxRecDepth 100000 in
set_option maxHeartbeats 1000000 in
theorem short (a : Option Addr) (c : Nat) (l : List RawSt) (w : World) (h : StpRow w a l) (hl : l.length ≤ maxLen) (ht : ∀ x ∈ l, x.text.size ≤ maxLen) :
    Calls Tryz.prog 6 #[.slice a l.length c] w fun e w' => e = .returned (.bool (fewB l)) ∧ Below w.heap.size w w' := by
  have HH := Lib.hid h
  have HT := Lib.hid ht
  obtain ⟨n, hn⟩ : ∃ n, l.length = n := ⟨_, rfl⟩
  rw [hn] at hl ⊢
  have HN := Lib.hid hn
  unfold maxLen at hl
  clear h ht hn
  go_enter Tryz.func6, Tryz.ntmps6
  go_wp2_with fail
  go_loopw [3, 4] (fun s i wr => ∃ j : Nat, j ≤ n ∧ j ≤ 41 ∧ i = .int .i64 j ∧ s = .int .i64 (wsum (l.take j)) ∧ Below w.heap.size w wr) (fun _ i _ => 41 - (intOf i).toNat)
  case atStart => exact ⟨0, Nat.zero_le _, Nat.zero_le _, rfl, rfl, Below.refl _ _⟩
  case round =>
    obtain ⟨j, hj, hj41, rfl, rfl, hbel⟩ := hrel
    have hws := wsum_le (l.take j)
    have hlj : (l.take j).length ≤ 41 := by rw [List.length_take]; omega
    have hwb : wsum (l.take j) ≤ 410000 := by omega
    clear hws hlj
    have HB := Lib.hid hbel
    clear hbel
    by_cases hlt : j < n ∧ j ≤ 40
    · have hjl : j < l.length := by rw [HN.out]; exact hlt.1
      obtain ⟨g, o, rfl, hg, hcs⟩ := HH.out (by omega)
      have q3 : wr.cell? ⟨g, o + j * 3 + 2, none⟩ = some (.string l[j].text) := (HB.out.cell (p := ⟨g, o + j * 3 + 2, none⟩) hg).trans (hcs j hjl 2 _ rfl)
      have HX := Lib.hid (wsum_next l j hjl)
      have t1 := HT.out _ (List.getElem_mem hjl)
      unfold wt at HX
      unfold maxLen at t1
      clear hcs
      generalize l[j] = x at *
      clear hjl
      obtain ⟨kind, nn, s⟩ := x
      simp only at q3 HX t1
      obtain ⟨h1, h2⟩ := hlt
      have hjn : (j : Int) < (n : Int) := by omega
      have hj0 : (0 : Int) ≤ (j : Int) := by omega
      have hj40 : (j : Int) ≤ 40 := by omega
      generalize wsum (l.take j) = S at *
      go_wp2_with fail
      go_roundw
      case rel =>
        refine ⟨j + 1, by omega, by omega, by go_num, ?_, ⟨HB.out.os, HB.out.tape, HB.out.output, HB.out.size, HB.out.block⟩⟩
        rw [HX.out]
        exact vint (by omega)
      case measure => simp [intOf]; omega
    · by_cases h60 : n ≤ 40
      · have hjn : j = n := by omega
        subst hjn
        have ht : l.take j = l := List.take_of_length_le (by rw [HN.out]; exact Nat.le_refl _)
        have ht' : l.take 41 = l := List.take_of_length_le (by rw [HN.out]; omega)
        rw [ht] at hwb ⊢
        have hnn : (j : Int) ≤ 40 := by omega
        by_cases hS : wsum l ≤ 20000
        · have hf : fewB l = true := decide_eq_true ⟨by rw [HN.out]; exact h60, by rw [ht']; exact hS⟩
          have HF := Lib.hid hf
          have hS' : (wsum l : Int) ≤ 20000 := by omega
          clear hf ht ht' hlt
          generalize wsum l = S at *
          go_wp2
          go_ret
          exact ⟨ret_bool HF.out.symm, HB.out⟩
        · have hf : fewB l = false := decide_eq_false fun q => hS (by rw [ht'] at q; exact q.2)
          have HF := Lib.hid hf
          have hS' : ¬ (wsum l : Int) ≤ 20000 := by omega
          clear hf ht ht' hlt
          generalize wsum l = S at *
          go_wp2
          go_ret
          exact ⟨ret_bool HF.out.symm, HB.out⟩
      · have hf : fewB l = false := decide_eq_false fun q => h60 (by rw [← HN.out]; exact q.1)
        have HF := Lib.hid hf
        have hnn : ¬ (n : Int) ≤ 40 := by omega
        clear hf
        generalize wsum (l.take j) = S at *
        by_cases hjn : (j : Int) < (n : Int)
        · have hj40 : ¬ (j : Int) ≤ 40 := by omega
          clear hlt
          go_wp2
          go_ret
          exact ⟨ret_bool HF.out.symm, HB.out⟩
        · clear hlt
          go_wp2
          go_ret
          exact ⟨ret_bool HF.out.symm, HB.out⟩
theorem c3 : Tryz.prog.cellsOf 3 = 1 := by kernel_rfl
theorem c9 : Tryz.prog.cellsOf 9 = 1 := by kernel_rfl
theorem c33 : Tryz.prog.cellsOf 41 = 3 := by kernel_rfl
def Good (a : RawSt) : Prop := a.text.size ≤ maxLen ∧ IsInt a.kind ∧ IsInt a.n
set_option maxRecDepth 100000 in
theorem st_cells {H : Type} {enc : TypeId × Value → H} {W : World} {fuel : Nat} {cs : List Value} {x : DataW H × List MemPlace} (h : DataW.trod enc Tryz.prog W 0 (fun _ => true) true fuel 41 cs = some x) :
    ∃ a : RawSt, cs = a.cells.toList ∧ Good a := by
  obtain ⟨xs, n, _, _, hl, hxl, hel⟩ := DataW.trod_struct Tryz.underlying41 h
  rw [c33] at hl
  have e0 : DataW.trod enc Tryz.prog W 0 (fun _ => true) true n 3 ((cs.drop 0).take (Tryz.prog.cellsOf 3)) = xs[0]? := hel 0 _ rfl
  rw [c3] at e0
  have e1 : DataW.trod enc Tryz.prog W 0 (fun _ => true) true n 3 ((cs.drop 1).take (Tryz.prog.cellsOf 3)) = xs[1]? := hel 1 _ rfl
  rw [c3] at e1
  have e2 : DataW.trod enc Tryz.prog W 0 (fun _ => true) true n 9 ((cs.drop 2).take (Tryz.prog.cellsOf 9)) = xs[2]? := hel 2 _ rfl
  rw [c9] at e2
  match xs, hxl with
  | [y0, y1, y2], _ =>
    match cs, hl with
    | [v0, v1, v2], _ =>
      obtain ⟨k, h0, _, w0⟩ := DataW.trod_int Tryz.underlying3 e0
      obtain ⟨nn, h1, _, w1⟩ := DataW.trod_int Tryz.underlying3 e1
      obtain ⟨s, h2, _, w2⟩ := DataW.trod_string Tryz.underlying9 e2
      simp at h0 h1 h2
      subst h0 h1 h2
      exact ⟨⟨k, nn, s⟩, rfl, w2, bounds_i64 w0, bounds_i64 w1⟩
set_option maxRecDepth 100000 in
/-- A row of acts. -/
theorem open_steps {H : Type} {enc : TypeId × Value → H} {W : World} {v : Value} {d : DataW H} {p : List MemPlace}
    (h : DataW.Trod enc Tryz.prog W 0 (fun _ => true) true 22 v d p) : ∃ a cap, ∃ l : List RawSt, v.cells.toList = [.slice a l.length cap] ∧ StpRow W a l ∧ l.length ≤ maxLen ∧ ∀ x ∈ l, Good x := by
  obtain ⟨fuel, hf⟩ := h
  rcases Go.Deep.open_slice Tryz.underlying22 hf with ⟨hcs, _⟩ | ⟨a, len, cap, m, n, D, Pl, hcs, _, hl, hm, hmm, _, hi⟩
  · exact ⟨none, 0, [], hcs, fun h => absurd h (by simp), by simp, fun x hx => by simp at hx⟩
  · have hml : len ≤ m := by simp at hmm; omega
    have each : ∀ i, ∃ x : RawSt, i < len → (∀ j v, x.cells[j]? = some v → W.cell? (a.add (i * 3 + j)) = some v) ∧ Good x := by
      intro i
      by_cases hil : i < len
      · obtain ⟨cs', hc, ht⟩ := hi i (by omega)
        obtain ⟨x, hx, g⟩ := st_cells ht
        rw [c33] at hc
        obtain ⟨_, hlen, hat⟩ := World.cells?_some hc
        refine ⟨x, fun _ => ⟨fun j v hv => ?_, g⟩⟩
        have hj : j < 3 := by
          have := (Array.getElem?_eq_some_iff.1 hv).1
          simpa [RawSt.cells] using this
        rw [← Go.Deep.add_add, hat j hj, hx]
        simpa using hv
      · exact ⟨⟨0, 0, ByteArray.empty⟩, fun h => absurd h hil⟩
    obtain ⟨f, hf'⟩ := Classical.axiomOfChoice each
    have hlen : ((List.range len).map f).length = len := by simp
    refine ⟨some a, cap, (List.range len).map f, by rw [hlen]; exact hcs, fun h0 => ?_, by rw [hlen]; omega, fun x hx => ?_⟩
    · rw [hlen] at h0
      obtain ⟨b, off, spot⟩ := a
      have hc0 := (hf' 0 h0).1 0 _ rfl
      have hspot : spot = none := by simpa [Addr.add] using World.cell?_spot hc0
      subst hspot
      refine ⟨b, off, rfl, ?_, fun k hk j v hv => ?_⟩
      · exact World.block_lt_of_cell? W _ (by simpa [Addr.add] using hc0)
      · rw [hlen] at hk
        have := (hf' k hk).1 j v (by simpa using hv)
        rwa [add_off, ← Nat.add_assoc] at this
    · obtain ⟨i, hi', rfl⟩ := List.mem_map.1 hx
      exact (hf' i (by simpa using hi')).2
end Go.Proofs.YtoilcieineejiaaGreatDoor.JouSt
