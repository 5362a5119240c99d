/- Leaves: what is said of one, which may be, how many places are less, a place's own hash. Mathematics alone; no conditions but those that each lemma names. -/
import Derived.Test.YtdkcebaehdkphaaGreatDoorMerQ
import Derived.Test.YtdkcebaehdkphaaGreatDoorLOct
namespace Go.Proofs.YtdkcebaehdkphaaGreatDoor.PrfL
open MerQ
/-- A leaf: its place, its hash. -/
abbrev Lf := Int × L
abbrev no : Lf := (0, [])
def okL (x : Lf) : Bool := decide (0 ≤ x.1 ∧ x.1 ≤ 4095) && decide (x.2.length = 32)
theorem okL_spec {x : Lf} (h : okL x = true) : 0 ≤ x.1 ∧ x.1 ≤ 4095 ∧ x.2.length = 32 := by
  unfold okL at h
  rw [Bool.and_eq_true, decide_eq_true_eq, decide_eq_true_eq] at h
  exact ⟨h.1.1, h.1.2, h.2⟩
/-- As a leaf is said. -/
def said (x : Lf) : L := if okL x = true then be 4 x.1.toNat ++ x.2 else []
theorem said_yes {x : Lf} (h : okL x = true) : said x = be 4 x.1.toNat ++ x.2 := if_pos h
theorem said_no {x : Lf} (h : okL x = false) : said x = [] := by unfold said; rw [h]; rfl
theorem said_length {x : Lf} (h : okL x = true) : (said x).length = 36 := by rw [said_yes h, List.length_append, be_length, (okL_spec h).2.2]
theorem said_nil (x : Lf) : said x = [] ↔ okL x = false := by
  cases h : okL x with
  | false => exact ⟨fun _ => rfl, fun _ => said_no h⟩
  | true =>
    have hl := said_length h
    exact ⟨fun e => by rw [e] at hl; simp at hl, fun e => by simp at e⟩
theorem said_inj {x y : Lf} (hx : okL x = true) (hy : okL y = true) (h : said x = said y) : x = y := by
  rw [said_yes hx, said_yes hy] at h
  have h1 := List.append_inj h (by rw [be_length, be_length])
  obtain ⟨a, s⟩ := x
  obtain ⟨b, t⟩ := y
  obtain ⟨x0, x1, _⟩ := okL_spec hx
  obtain ⟨y0, y1, _⟩ := okL_spec hy
  dsimp only at h1 x0 x1 y0 y1
  have e := congrArg num h1.1
  rw [num_be, num_be] at e
  obtain rfl : a = b := by omega
  rw [h1.2]
theorem at_d (l : List Lf) {i : Nat} (h : i < l.length) : l.getD i no = l[i] := by simp [List.getD, h]
/-- A leaf's hash in the tree. -/
def lh (x : Lf) : L := sum (0 :: said x)
theorem lh_length (x : Lf) : (lh x).length = 32 := sum_length _
def hs (l : List Lf) : List L := l.map lh
theorem hs_length (l : List Lf) : (hs l).length = l.length := List.length_map ..
/-- Do the places rise? -/
def rise : List Lf → Bool
  | a :: b :: t => decide (a.1 < b.1) && rise (b :: t)
  | _ => true
/-- May leaves be? -/
def right (l : List Lf) : Bool := l.all okL && rise l
theorem right_ok {l : List Lf} (h : right l = true) : ∀ x ∈ l, okL x = true := by
  unfold right at h
  rw [Bool.and_eq_true, List.all_eq_true] at h
  exact h.1
theorem rise_cons : ∀ {a : Lf} {l : List Lf}, rise (a :: l) = true → rise l = true ∧ ∀ x ∈ l, a.1 < x.1
  | _, [], _ => ⟨rfl, fun x hx => absurd hx (List.not_mem_nil)⟩
  | a, b :: t, h => by
    unfold rise at h
    rw [Bool.and_eq_true, decide_eq_true_eq] at h
    have ih := rise_cons h.2
    refine ⟨h.2, fun x hx => ?_⟩
    rw [List.mem_cons] at hx
    rcases hx with rfl | hx
    · exact h.1
    · have := ih.2 x hx
      omega
theorem rise_at : ∀ {l : List Lf}, rise l = true → ∀ {i j : Nat}, i < j → j < l.length → (l.getD i no).1 < (l.getD j no).1
  | [], _, i, j, _, hj => by simp at hj
  | a :: t, h, 0, j + 1, _, hj => by
    have hj' : j < t.length := by simpa using hj
    show a.1 < (t.getD j no).1
    rw [at_d _ hj']
    exact (rise_cons h).2 _ (List.getElem_mem hj')
  | a :: t, h, i + 1, j + 1, hij, hj => rise_at (rise_cons h).1 (i := i) (j := j) (by omega) (by simpa using hj)
theorem right_at {l : List Lf} (h : right l = true) {i : Nat} (hi : i < l.length) : okL (l.getD i no) = true := right_ok h _ (by rw [at_d _ hi]; exact List.getElem_mem hi)
theorem right_rise {l : List Lf} (h : right l = true) : rise l = true := by
  unfold right at h
  rw [Bool.and_eq_true] at h
  exact h.2
theorem right_low {l : List Lf} (h : right l = true) : ∀ {i : Nat}, i < l.length → (i : Int) ≤ (l.getD i no).1
  | 0, hi => (okL_spec (right_at h hi)).1
  | i + 1, hi => by
    have h1 := right_low h (i := i) (by omega)
    have h2 := rise_at (right_rise h) (i := i) (j := i + 1) (by omega) hi
    omega
/-- There are no more leaves than places. -/
theorem right_few {l : List Lf} (h : right l = true) : l.length ≤ 4096 := by
  by_cases h0 : l.length = 0
  · omega
  · have h1 := right_low h (i := l.length - 1) (by omega)
    have h2 := (okL_spec (right_at h (i := l.length - 1) (by omega))).2.1
    omega
/-- How many places are less. -/
def plc : List Lf → Int → Nat
  | [], _ => 0
  | x :: t, b => if x.1 < b then plc t b + 1 else 0
theorem plc_le : ∀ (l : List Lf) (b : Int), plc l b ≤ l.length
  | [], _ => Nat.le_refl _
  | x :: t, b => by
    have := plc_le t b
    unfold plc
    split <;> simp only [List.length_cons] <;> omega
theorem plc_lt : ∀ (l : List Lf) (b : Int) {i : Nat}, i < plc l b → (l.getD i no).1 < b
  | [], _, i, h => by simp [plc] at h
  | x :: t, b, i, h => by
    unfold plc at h
    split at h
    · match i, h with
      | 0, _ => assumption
      | i + 1, h => exact plc_lt t b (i := i) (by omega)
    · omega
theorem plc_ge : ∀ (l : List Lf) (b : Int), plc l b < l.length → b ≤ (l.getD (plc l b) no).1
  | [], _, h => by simp [plc] at h
  | x :: t, b, h => by
    by_cases hx : x.1 < b
    · have e : plc (x :: t) b = plc t b + 1 := by rw [plc, if_pos hx]
      rw [e] at h ⊢
      exact plc_ge t b (by simpa using h)
    · have e : plc (x :: t) b = 0 := by rw [plc, if_neg hx]
      rw [e]
      show b ≤ x.1
      omega
/-- It is the only place that parts the leaves so. -/
theorem plc_is {l : List Lf} {b : Int} {k : Nat} (hk : k ≤ l.length) (h0 : ∀ i, i < k → (l.getD i no).1 < b) (h1 : k < l.length → b ≤ (l.getD k no).1) : plc l b = k := by
  have hl := plc_le l b
  by_cases h : plc l b < k
  · have := plc_ge l b (by omega)
    have := h0 _ h
    omega
  · by_cases h' : k < plc l b
    · have := plc_lt l b h'
      have := h1 (by omega)
      omega
    · omega
/-- A place's own hash, if it has a leaf. -/
def own (l : List Lf) (b : Int) : L × Bool := if plc l b < l.length ∧ (l.getD (plc l b) no).1 = b then ((l.getD (plc l b) no).2, true) else ([], false)
theorem own_yes {l : List Lf} {b : Int} {i : Nat} (hr : rise l = true) (hi : i < l.length) (hb : (l.getD i no).1 = b) : plc l b = i ∧ own l b = ((l.getD i no).2, true) := by
  have e : plc l b = i := plc_is (by omega) (fun j hj => by have := rise_at hr hj hi; omega) (fun _ => by omega)
  refine ⟨e, ?_⟩
  unfold own
  rw [e, if_pos ⟨hi, hb⟩]
theorem own_no {l : List Lf} {b : Int} (h : ∀ i, i < l.length → (l.getD i no).1 ≠ b) : own l b = ([], false) := by
  unfold own
  rw [if_neg]
  rintro ⟨h1, h2⟩
  exact h _ h1 h2
/-- As the leaves are gone through, one behind the other: the last one of the place. -/
def lastOf (l : List Lf) (b : Int) : L × Bool := l.foldl (fun s x => if x.1 = b then (x.2, true) else s) ([], false)
theorem foldl_none : ∀ (l : List Lf) (b : Int) (s : L × Bool), (∀ x ∈ l, x.1 ≠ b) → l.foldl (fun s x => if x.1 = b then (x.2, true) else s) s = s
  | [], _, _, _ => rfl
  | x :: t, b, s, h => by
    rw [List.foldl_cons, if_neg (h x (List.mem_cons_self ..))]
    exact foldl_none t b s fun y hy => h y (List.mem_cons_of_mem _ hy)
theorem foldl_own : ∀ (l : List Lf) (b : Int), rise l = true → lastOf l b = own l b
  | [], _, _ => rfl
  | x :: t, b, h => by
    have hc := rise_cons h
    have ih := foldl_own t b hc.1
    unfold lastOf at ih ⊢
    rw [List.foldl_cons]
    by_cases hx : x.1 = b
    · rw [if_pos hx, foldl_none t b _ (fun y hy => by have := hc.2 y hy; omega)]
      exact (own_yes (i := 0) h (by simp) hx).2.symm
    · rw [if_neg hx, ih]
      unfold own
      by_cases hl : x.1 < b
      · have e : plc (x :: t) b = plc t b + 1 := by rw [plc, if_pos hl]
        rw [e]
        simp only [List.length_cons, List.getD_cons_succ, Nat.add_lt_add_iff_right]
      · have e : plc (x :: t) b = 0 := by rw [plc, if_neg hl]
        have g : ¬ (plc t b < t.length ∧ (t.getD (plc t b) no).1 = b) := by
          rintro ⟨h1, h2⟩
          have := hc.2 (t.getD (plc t b) no) (by rw [at_d _ h1]; exact List.getElem_mem h1)
          omega
        rw [e, if_neg g, if_neg (fun hh => hx hh.2)]
end Go.Proofs.YtdkcebaehdkphaaGreatDoor.PrfL
