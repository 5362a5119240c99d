/- keepsakeref08.Copy of an image that came in, keepsakeref08.Load: the walks of their texts. No conditions but those that each lemma names. -/
import Derived.Test.YtofpflkkbkodaaaDkK
import Derived.Test.YtofpflkkbkodaaaDkG
import Derived.Test.YtofpflkkbkodaaaDkX
namespace Go.Proofs.Ytofpflkkbkodaaa.DkJ
open Go.RowKit
open DkN DkM DkQ DkC DkV DkK DkX DkNew
/-- The cells of a row of writes, their places any numbers. -/
def rawCells : List (Int × ByteArray) → List Value
  | [] => []
  | x :: r => Value.int .i64 x.1 :: Value.string x.2 :: rawCells r
theorem rawCells_length (l : List (Int × ByteArray)) : (rawCells l).length = l.length * 2 := by
  induction l with
  | nil => rfl
  | cons x l ih => simp only [rawCells, List.length_cons, ih]; omega
theorem rawCells_0 (l : List (Int × ByteArray)) (k : Nat) (h : k < l.length) : (rawCells l)[k * 2]? = some (.int .i64 l[k].1) := by
  induction l generalizing k with
  | nil => simp at h
  | cons x l ih =>
    match k with
    | 0 => rfl
    | k + 1 =>
      rw [show (k + 1) * 2 = k * 2 + 1 + 1 from by omega, rawCells, List.getElem?_cons_succ, List.getElem?_cons_succ]
      simpa using ih k (by simpa using h)
theorem rawCells_1 (l : List (Int × ByteArray)) (k : Nat) (h : k < l.length) : (rawCells l)[k * 2 + 1]? = some (.string l[k].2) := by
  induction l generalizing k with
  | nil => simp at h
  | cons x l ih =>
    match k with
    | 0 => rfl
    | k + 1 =>
      rw [show (k + 1) * 2 + 1 = k * 2 + 1 + 1 + 1 from by omega, rawCells, List.getElem?_cons_succ, List.getElem?_cons_succ]
      simpa using ih k (by simpa using h)
theorem rawCells_one (l : List (Int × ByteArray)) : ∀ v ∈ rawCells l, v.oneCell' = true := by
  induction l with
  | nil => intro v hv; simp [rawCells] at hv
  | cons x l ih =>
    intro v hv
    simp only [rawCells, List.mem_cons] at hv
    rcases hv with rfl | rfl | hv
    · rfl
    · rfl
    · exact ih v hv
theorem raw_nat (l : List (Int × ByteArray)) (h : ∀ x ∈ l, 0 ≤ x.1) : rawCells l = putCells (natPuts l) := by
  induction l with
  | nil => rfl
  | cons x l ih =>
    have h0 := h x (List.mem_cons_self ..)
    show Value.int .i64 x.1 :: Value.string x.2 :: rawCells l = Value.int .i64 ((x.1.toNat : Nat) : Int) :: Value.string x.2 :: putCells (natPuts l)
    rw [ih fun y hy => h y (List.mem_cons_of_mem _ hy), show ((x.1.toNat : Nat) : Int) = x.1 by omega]
theorem src_strs {w : World} {a : Option Addr} {c : Nat} {l : List ByteArray} (h : StrRow w a l) (hn : a = none → l = [] ∧ c = 0) : Src w a l.length c (l.map Value.string) := by
  refine ⟨fun e => ?_, fun A e j u hj => ?_⟩
  · obtain ⟨rfl, rfl⟩ := hn e
    exact ⟨rfl, rfl, rfl⟩
  · have hjl : j < l.length := by have := (List.getElem?_eq_some_iff.1 hj).1; simpa using this
    obtain ⟨g, o, e', hg, hc⟩ := h (by omega)
    rw [e] at e'
    cases e'
    rw [add_off, hc j hjl]
    simpa [hjl] using hj
theorem src_puts {w : World} {a : Option Addr} {c : Nat} {l : List (Int × ByteArray)} (h : RRow w a l) (hn : a = none → l = [] ∧ c = 0) : Src w a l.length c (rawCells l) := by
  refine ⟨fun e => ?_, fun A e j u hj => ?_⟩
  · obtain ⟨rfl, rfl⟩ := hn e
    exact ⟨rfl, rfl, rfl⟩
  · have hlt : j < l.length * 2 := by rw [← rawCells_length]; exact (List.getElem?_eq_some_iff.1 hj).1
    obtain ⟨g, o, e', hg, hc⟩ := h (by omega)
    rw [e] at e'
    cases e'
    rw [add_off]
    rcases Nat.mod_two_eq_zero_or_one j with hm | hm
    · obtain ⟨k, rfl⟩ : ∃ k, j = k * 2 := ⟨j / 2, by omega⟩
      rw [rawCells_0 l k (by omega)] at hj
      rw [(hc k (by omega)).1]; exact hj
    · obtain ⟨k, rfl⟩ : ∃ k, j = k * 2 + 1 := ⟨j / 2, by omega⟩
      rw [rawCells_1 l k (by omega)] at hj
      rw [← Nat.add_assoc, (hc k (by omega)).2]; exact hj
/-- THE CONTRACT of Copy. -/
theorem Copy (a a' : Option Addr) (c c' : Nat) (bl : List ByteArray) (ca : List (Int × ByteArray)) (w : World) (hs : StrRow w a bl) (hp : RRow w a' ca) (hn : a = none → bl = [] ∧ c = 0) (hn' : a' = none → ca = [] ∧ c' = 0) (hl : bl.length ≤ 100000) (hm : ca.length ≤ 100000) :
    Calls Try.prog 14 #[.agg #[.slice a bl.length c, .slice a' ca.length c']] w (DkK.Twin bl.length ca.length (bl.map Value.string) (rawCells ca) w) :=
  Copy_any a a' bl.length ca.length c c' _ _ w (by simp) (rawCells_length ca) (src_strs hs hn) (src_puts hp hn') (fun v hv => by obtain ⟨s, _, rfl⟩ := List.mem_map.1 hv; rfl) (rawCells_one ca) hl hm
set_option maxRecDepth 100000 in
theorem Load_no (a a' : Option Addr) (c c' : Nat) (bl : List ByteArray) (ca : List (Int × ByteArray)) (w : World) (hs : StrRow w a bl) (hp : RRow w a' ca) (hm : mayB bl ca = false) :
    Calls Try.prog 16 #[.agg #[.slice a bl.length c, .slice a' ca.length c']] w fun e w' => e = .returned (.pointer none) ∧ Below w.heap.size w w' := by
  have hb1 : Below w.heap.size w (w.alloc (.cells #[.slice a bl.length c, .slice a' ca.length c'] 39)) := (Below.refl _ _).alloc (Nat.le_refl _) _
  have k0 : (w.alloc (.cells #[.slice a bl.length c, .slice a' ca.length c'] 39)).cell? ⟨w.heap.size, 0, none⟩ = some (.slice a bl.length c) := blk_cell (heap_alloc_new w _) rfl
  have HM := Lib.hid (DkZ.May c c' a a' bl ca _ (StrRow.below hs hb1) (hp.below hb1))
  rw [hm] at HM
  have HB := Lib.hid hb1
  clear hs hp hm hb1 k0
  generalize bl.length = n at *
  generalize ca.length = m at *
  go_enter Try.func16, Try.ntmps16
  go_wp2_with fail
  refine (HM.out).mono ?_
  rintro e w1 ⟨rfl, hb1⟩
  have HB1 := Lib.hid (HB.out.trans (hb1.mono HB.out.size))
  clear hb1
  go_wp2
  go_ret
  exact ⟨rfl, HB1.out⟩
/-- A disk's own block around copied rows: the document's. -/
theorem fresh_doc {w w1 : World} {D : Dk} (hok : D.ok) (h0 : D.armed = 0) (h1 : D.down = false) {v u : Value} (hv : w1.ownsRow w.heap.size 9 1 v D.bl.length (D.bl.map Value.string)) (hu : w1.ownsRow w.heap.size 76 2 u D.ca.length (putCells D.ca)) (hb : Below w.heap.size w w1) :
    Fresh true D w w1.heap.size v u (w1.alloc (.cells #[v, u, .bool false, .int .i64 0] 68)) := by
  refine ⟨⟨hok, ?_, own_base (hv.alloc _) (Nat.zero_le _), own_base (hu.alloc _) (Nat.zero_le _)⟩, hb.alloc hb.size _, fun k hk => ?_⟩
  · have := heap_alloc_new w1 (.cells #[v, u, .bool false, .int .i64 0] 68)
    rw [this]
    unfold headObj
    rw [h0, h1]
    rfl
  · rcases hk with rfl | hk | hk
    · exact hb.size
    · exact (hv.lt k hk).1
    · exact (hu.lt k hk).1
/-- What Load leaves. -/
def LoadedR (D : Dk) (w : World) (e : Ending) (w' : World) : Prop := ∃ b bv cv, e = .returned (.pointer (some ⟨b, 0, none⟩)) ∧ Fresh true D w b bv cv w'
set_option maxRecDepth 100000 in
theorem Load_yes (a a' : Option Addr) (c c' : Nat) (bl : List ByteArray) (ca : List (Int × ByteArray)) (w : World) (hs : StrRow w a bl) (hp : RRow w a' ca) (hn : a = none → bl = [] ∧ c = 0) (hn' : a' = none → ca = [] ∧ c' = 0) (hm : mayB bl ca = true) :
    Calls Try.prog 16 #[.agg #[.slice a bl.length c, .slice a' ca.length c']] w (LoadedR (held bl ca) w) := by
  have hb1 : Below w.heap.size w (w.alloc (.cells #[.slice a bl.length c, .slice a' ca.length c'] 39)) := (Below.refl _ _).alloc (Nat.le_refl _) _
  have HX := Lib.hid (heap_alloc_new w (.cells #[.slice a bl.length c, .slice a' ca.length c'] 39))
  have HM := Lib.hid (DkZ.May c c' a a' bl ca _ (StrRow.below hs hb1) (hp.below hb1))
  rw [hm] at HM
  obtain ⟨⟨l1, l2, l3⟩, _, l5⟩ := may_parts hm
  have HC : Hid (∀ W, Below w.heap.size w W → Calls Try.prog 14 #[.agg #[.slice a bl.length c, .slice a' ca.length c']] W (DkK.Twin bl.length ca.length (bl.map Value.string) (rawCells ca) W)) := Lib.hid fun W hW => Copy a a' c c' bl ca W (StrRow.below hs hW) (hp.below hW) hn hn' (by omega) (by omega)
  have HR := Lib.hid (raw_nat ca fun x hx => (l5 x hx).1)
  have HOk := Lib.hid (held_ok hm)
  have HLn := Lib.hid (natPuts_length ca)
  have HB := Lib.hid hb1
  have hlt : w.heap.size < (w.alloc (.cells #[.slice a bl.length c, .slice a' ca.length c'] 39)).heap.size := by simp
  have HLt := Lib.hid hlt
  clear hs hp hm hb1 l1 l2 l3 l5 hn hn' hlt
  obtain ⟨n, hn⟩ : ∃ n, bl.length = n := ⟨_, rfl⟩
  obtain ⟨m, hm⟩ : ∃ m, ca.length = m := ⟨_, rfl⟩
  rw [hn, hm] at HX HM HC HB HLt ⊢
  have HN := Lib.hid hn
  have HM2 := Lib.hid hm
  clear hn hm
  go_enter Try.func16, Try.ntmps16
  go_wp2_with fail
  refine (HM.out).mono ?_
  rintro e w1 ⟨rfl, hb1⟩
  have HB1 := Lib.hid (HB.out.trans (hb1.mono HB.out.size))
  have HX1 := Lib.hid ((hb1.block _ HLt.out).trans HX.out)
  have k0 : w1.cell? ⟨w.heap.size, 0, none⟩ = some (.slice a n c) := blk_cell HX1.out rfl
  have k1 : w1.cell? ⟨w.heap.size, 1, none⟩ = some (.slice a' m c') := blk_cell HX1.out rfl
  clear hb1 HX HM HB HLt
  go_wp2_with fail
  refine (HC.out _ HB1.out).mono ?_
  rintro e w2 ⟨v, u, rfl, hv, hu, hb2⟩
  obtain ⟨va, vl, vc, rfl⟩ := own_slice hv
  obtain ⟨ua, ul, uc, rfl⟩ := own_slice hu
  have HF := Lib.hid (fresh_doc (w := w) (D := held bl ca) HOk.out rfl rfl (by have := own_base hv HB1.out.size; rw [← HN.out] at this; exact this) (by have := own_base hu HB1.out.size; rw [HR.out, ← HM2.out, ← HLn.out] at this; exact this) (HB1.out.trans (hb2.mono HB1.out.size)))
  clear hv hu hb2
  go_wp2
  go_ret
  exact ⟨_, _, _, rfl, HF.out⟩
end Go.Proofs.Ytofpflkkbkodaaa.DkJ
