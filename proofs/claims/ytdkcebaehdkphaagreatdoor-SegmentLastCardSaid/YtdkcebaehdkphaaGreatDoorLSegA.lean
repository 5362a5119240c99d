/- SegN SegM SegR SegS SegF: one behind the other. -/
import Derived.Test.YtdkcebaehdkphaaGreatDoorPrfL
import Derived.Test.YtdkcebaehdkphaaGreatDoorLPrfA
import Derived.Deep.Slices
import Derived.Deep.Grids
import Derived.Deep.Fields
import Derived.Test.YtdkcebaehdkphaaGreatDoorMerJ
import Derived.Deep.QuietTactic
import Derived.BigQuiet
/- What places have, by places: leaves of a map, a leaf put, what was put last. Mathematics alone; no conditions but those that each lemma names. -/
namespace Go.Proofs.YtdkcebaehdkphaaGreatDoor.SegN
open MerQ PrfL
/-- Which place has which hash. -/
abbrev Pl := Nat → Option L
def non : Pl := fun _ => none
def upd (C : Pl) (b : Nat) (h : L) : Pl := fun i => if i = b then some h else C i
theorem upd_at (C : Pl) (b : Nat) (h : L) : upd C b h b = some h := if_pos rfl
theorem upd_other (C : Pl) {b i : Nat} (h : L) (e : i ≠ b) : upd C b h i = C i := if_neg e
/-- A place's leaf, if it has one. -/
def one (C : Pl) (k : Nat) : List Lf := match C k with | some h => [((k : Int), h)] | none => []
/-- The leaves of the places below 'k', by places rising. -/
def lvs (C : Pl) : Nat → List Lf
  | 0 => []
  | k + 1 => lvs C k ++ one C k
theorem one_mem {C : Pl} {k : Nat} {x : Lf} (h : x ∈ one C k) : x.1 = (k : Int) ∧ C k = some x.2 := by
  unfold one at h
  split at h
  · rename_i y hy
    rw [List.mem_singleton] at h
    subst h
    exact ⟨rfl, hy⟩
  · exact absurd h (List.not_mem_nil)
theorem lvs_mem {C : Pl} : ∀ {k : Nat} {x : Lf}, x ∈ lvs C k → 0 ≤ x.1 ∧ x.1 < (k : Int) ∧ C x.1.toNat = some x.2
  | 0, x, h => absurd h (List.not_mem_nil)
  | k + 1, x, h => by
    rw [lvs, List.mem_append] at h
    rcases h with h | h
    · obtain ⟨h0, h1, h2⟩ := lvs_mem h
      exact ⟨h0, by omega, h2⟩
    · obtain ⟨h1, h2⟩ := one_mem h
      refine ⟨by omega, by omega, ?_⟩
      rw [h1, show ((k : Int)).toNat = k by omega]
      exact h2
theorem rise_append : ∀ {l m : List Lf}, rise l = true → rise m = true → (∀ x ∈ l, ∀ y ∈ m, x.1 < y.1) → rise (l ++ m) = true
  | [], _, _, hm, _ => hm
  | [a], [], _, _, _ => rfl
  | [a], b :: t, _, hm, h => by
    show rise (a :: b :: t) = true
    unfold rise
    rw [hm, decide_eq_true (h a (by simp) b (by simp))]
    rfl
  | a :: c :: l, m, hl, hm, h => by
    have h1 := (rise_cons hl).2 c (by simp)
    have ih := rise_append (l := c :: l) (m := m) (rise_cons hl).1 hm (fun x hx y hy => h x (List.mem_cons_of_mem _ hx) y hy)
    show rise (a :: c :: (l ++ m)) = true
    unfold rise
    rw [decide_eq_true h1]
    exact ih
theorem rise_one (C : Pl) (k : Nat) : rise (one C k) = true := by
  unfold one
  split <;> rfl
theorem lvs_rise (C : Pl) : ∀ k, rise (lvs C k) = true
  | 0 => rfl
  | k + 1 => rise_append (lvs_rise C k) (rise_one C k) (fun x hx y hy => by
      have h1 := (lvs_mem hx).2.1
      have h2 := (one_mem hy).1
      omega)
theorem lvs_length (C : Pl) : ∀ k, (lvs C k).length ≤ k
  | 0 => Nat.le_refl _
  | k + 1 => by
    have := lvs_length C k
    rw [lvs, List.length_append]
    unfold one
    split <;> simp <;> omega
theorem lvs_right {C : Pl} {k : Nat} (hk : k ≤ 4096) (h : ∀ i x, C i = some x → x.length = 32) : right (lvs C k) = true := by
  unfold right
  rw [lvs_rise, Bool.and_true, List.all_eq_true]
  intro x hx
  obtain ⟨h0, h1, h2⟩ := lvs_mem hx
  unfold okL
  rw [decide_eq_true (show 0 ≤ x.1 ∧ x.1 ≤ 4095 by omega), decide_eq_true (h _ _ h2)]
  rfl
theorem lvs_none : ∀ k, lvs non k = []
  | 0 => rfl
  | k + 1 => by rw [lvs, lvs_none k]; rfl
theorem lvs_eq {C D : Pl} : ∀ {k : Nat}, (∀ i, i < k → C i = D i) → lvs C k = lvs D k
  | 0, _ => rfl
  | k + 1, h => by
    rw [lvs, lvs, lvs_eq (fun i hi => h i (by omega))]
    unfold one
    rw [h k (by omega)]
/-- A leaf put where its place is. -/
def ins : List Lf → Int → L → List Lf
  | [], b, h => [(b, h)]
  | x :: t, b, h => if x.1 < b then x :: ins t b h else (b, h) :: (x :: t).filter (fun y => y.1 != b)
theorem filter_all {b : Int} : ∀ {m : List Lf}, (∀ x ∈ m, b < x.1) → m.filter (fun y => y.1 != b) = m := fun {m} h => by
  rw [List.filter_eq_self]
  intro x hx
  have := h x hx
  rw [bne_iff_ne]
  omega
theorem ins_low {b : Int} (h : L) : ∀ {l m : List Lf}, (∀ x ∈ l, x.1 < b) → ins (l ++ m) b h = l ++ ins m b h
  | [], _, _ => rfl
  | x :: t, m, hl => by
    show ins (x :: (t ++ m)) b h = x :: (t ++ ins m b h)
    rw [ins, if_pos (hl x (by simp)), ins_low h (fun y hy => hl y (List.mem_cons_of_mem _ hy))]
theorem ins_high {b : Int} (h : L) {m : List Lf} (hm : ∀ x ∈ m, b < x.1) : ∀ (l : List Lf), ins (l ++ m) b h = ins l b h ++ m
  | [] => by
    show ins m b h = (b, h) :: m
    match m, hm with
    | [], _ => rfl
    | x :: t, hm =>
      have h1 := hm x (by simp)
      rw [ins, if_neg (by omega), filter_all hm]
  | x :: t => by
    show ins (x :: (t ++ m)) b h = ins (x :: t) b h ++ m
    rw [ins, ins]
    by_cases hx : x.1 < b
    · rw [if_pos hx, if_pos hx, ins_high h hm t]; rfl
    · rw [if_neg hx, if_neg hx, show (x :: (t ++ m)) = (x :: t) ++ m from rfl, List.filter_append, filter_all hm]; rfl
theorem lvs_upd (C : Pl) (b : Nat) (h : L) : ∀ k, b < k → lvs (upd C b h) k = ins (lvs C k) (b : Int) h
  | 0, hk => absurd hk (Nat.not_lt_zero _)
  | k + 1, hk => by
    rw [lvs, lvs]
    rcases Nat.lt_or_ge b k with h1 | h1
    · rw [lvs_upd C b h k h1, ins_high h (fun x hx => by have := (one_mem hx).1; omega)]
      unfold one
      rw [upd_other C h (show k ≠ b by omega)]
    · obtain rfl : b = k := by omega
      rw [lvs_eq (C := upd C b h) (D := C) (fun i hi => upd_other C h (by omega)), ins_low h (fun x hx => (lvs_mem hx).2.1)]
      congr 1
      unfold one
      rw [upd_at]
      cases hc : C b with
      | none => rfl
      | some y => simp [ins]
/-- The document's way to put: what stands in the new row, whether the leaf stands there. -/
def stepP (b : Int) (h : L) (s : List Lf × Bool) (x : Lf) : List Lf × Bool :=
  ((if s.2 = false ∧ b ≤ x.1 then s.1 ++ [(b, h)] else s.1) ++ (if x.1 = b then [] else [x]), s.2 || decide (b ≤ x.1))
def fin (b : Int) (h : L) (s : List Lf × Bool) : List Lf := if s.2 then s.1 else s.1 ++ [(b, h)]
theorem fold_put {b : Int} {h : L} : ∀ (l o : List Lf), fin b h (l.foldl (stepP b h) (o, true)) = o ++ l.filter (fun y => y.1 != b)
  | [], o => by simp [fin]
  | x :: t, o => by
    rw [List.foldl_cons, show stepP b h (o, true) x = (o ++ (if x.1 = b then [] else [x]), true) by unfold stepP; simp, fold_put t]
    by_cases hx : x.1 = b
    · rw [if_pos hx, List.filter_cons_of_neg (by simp [hx]), List.append_nil]
    · rw [if_neg hx, List.filter_cons_of_pos (by simp [hx]), List.append_assoc]; rfl
theorem fold_ins {b : Int} {h : L} : ∀ (l o : List Lf), fin b h (l.foldl (stepP b h) (o, false)) = o ++ ins l b h
  | [], o => by simp [fin, ins]
  | x :: t, o => by
    rw [List.foldl_cons]
    by_cases hx : x.1 < b
    · rw [show stepP b h (o, false) x = (o ++ [x], false) by
        unfold stepP
        rw [if_neg (by simp; omega), if_neg (by omega), decide_eq_false (by omega)]
        rfl, fold_ins t, ins, if_pos hx, List.append_assoc]
      rfl
    · rw [show stepP b h (o, false) x = (o ++ [(b, h)] ++ (if x.1 = b then [] else [x]), true) by
        unfold stepP
        rw [if_pos ⟨rfl, by omega⟩, decide_eq_true (by omega)]
        rfl, fold_put t, ins, if_neg hx]
      by_cases he : x.1 = b
      · rw [if_pos he, List.filter_cons_of_neg (by simp [he])]; simp
      · rw [if_neg he, List.filter_cons_of_pos (by simp [he])]; simp
/-- An act: a place, a slot, a cipher. -/
abbrev A := Int × Int × L
/-- What an act puts, if it is taken ('D': its hash, if it is taken). -/
def put1 (D : A → Option L) (C : Pl) (a : A) : Pl := match D a with | some h => upd C a.1.toNat h | none => C
def puts (D : A → Option L) (C : Pl) (l : List A) : Pl := l.foldl (put1 D) C
/-- What was put last of a place. -/
theorem puts_last (D : A → Option L) (i : Nat) : ∀ (l : List A) (C : Pl), puts D C l i = (puts D non l i).or (C i)
  | [], C => by simp [puts, non]
  | a :: l, C => by
    show puts D (put1 D C a) l i = (puts D (put1 D non a) l i).or (C i)
    rw [puts_last D i l (put1 D C a), puts_last D i l (put1 D non a)]
    cases h1 : puts D non l i with
    | some x => simp
    | none =>
      simp only [Option.none_or]
      unfold put1
      cases h2 : D a with
      | none => simp [non]
      | some h =>
        simp only []
        by_cases e : i = a.1.toNat
        · rw [e, upd_at, upd_at]; rfl
        · rw [upd_other _ _ e, upd_other _ _ e]; simp [non]
/-- The statement's other way: from the end on, each place once. -/
def stepL (D : A → Option L) (a : A) (s : Pl × List A) : Pl × List A :=
  if s.2.any (fun y => y.1 == a.1) = false ∧ (D a).isSome = true then (put1 D s.1 a, s.2 ++ [a]) else s
def lastly (D : A → Option L) (l : List A) : Pl × List A := l.foldr (stepL D) (non, [])
theorem lastly_is {D : A → Option L} (hD : ∀ a h, D a = some h → 0 ≤ a.1) : ∀ (l : List A), (∀ i, (lastly D l).1 i = puts D non l i) ∧ (∀ y ∈ (lastly D l).2, 0 ≤ y.1 ∧ (puts D non l y.1.toNat).isSome = true) ∧ (∀ i, (puts D non l i).isSome = true → ∃ y ∈ (lastly D l).2, y.1 = (i : Int))
  | [] => ⟨fun _ => rfl, fun y hy => absurd hy (List.not_mem_nil), fun i h => by simp [puts, non] at h⟩
  | a :: l => by
    obtain ⟨h1, h2, h3⟩ := lastly_is hD l
    have hp : ∀ i, puts D non (a :: l) i = (puts D non l i).or (put1 D non a i) := fun i => puts_last D i l (put1 D non a)
    have hl : lastly D (a :: l) = stepL D a (lastly D l) := rfl
    rw [hl]
    unfold stepL
    by_cases hm : (lastly D l).2.any (fun y => y.1 == a.1) = true
    · rw [if_neg (by rw [hm]; simp)]
      rw [List.any_eq_true] at hm
      obtain ⟨y, hy, he⟩ := hm
      rw [beq_iff_eq] at he
      obtain ⟨y0, ys⟩ := h2 y hy
      have hsame : ∀ i, puts D non (a :: l) i = puts D non l i := fun i => by
        rw [hp]
        cases hi : puts D non l i with
        | some x => rfl
        | none =>
          have hne : i ≠ a.1.toNat := fun e => by rw [← he] at e; rw [e] at hi; rw [hi] at ys; simp at ys
          unfold put1
          cases D a with
          | none => rfl
          | some h => simp only []; rw [upd_other _ _ hne]; rfl
      exact ⟨fun i => by rw [hsame, h1], fun z hz => by rw [hsame]; exact h2 z hz, fun i hi => h3 i (by rw [hsame] at hi; exact hi)⟩
    · rw [Bool.not_eq_true] at hm
      cases ha : D a with
      | none =>
        rw [if_neg (by simp)]
        have hsame : ∀ i, puts D non (a :: l) i = puts D non l i := fun i => by
          rw [hp]
          unfold put1
          rw [ha]
          simp [non]
        exact ⟨fun i => by rw [hsame, h1], fun z hz => by rw [hsame]; exact h2 z hz, fun i hi => h3 i (by rw [hsame] at hi; exact hi)⟩
      | some h =>
        rw [if_pos ⟨hm, rfl⟩]
        have a0 := hD a h ha
        have hno : puts D non l a.1.toNat = none := by
          cases hi : puts D non l a.1.toNat with
          | none => rfl
          | some x =>
            obtain ⟨y, hy, he⟩ := h3 a.1.toNat (by rw [hi]; rfl)
            have : (lastly D l).2.any (fun y => y.1 == a.1) = true := by
              rw [List.any_eq_true]
              exact ⟨y, hy, by rw [beq_iff_eq]; omega⟩
            rw [hm] at this
            simp at this
        have hput : ∀ C i, put1 D C a i = upd C a.1.toNat h i := fun C i => by unfold put1; rw [ha]
        have hsame : ∀ i, puts D non (a :: l) i = upd (puts D non l) a.1.toNat h i := fun i => by
          rw [hp, hput]
          by_cases e : i = a.1.toNat
          · rw [e, upd_at, upd_at, hno]; rfl
          · rw [upd_other _ _ e, upd_other _ _ e]; simp [non]
        refine ⟨fun i => ?_, fun z hz => ?_, fun i hi => ?_⟩
        · rw [hsame]
          show put1 D (lastly D l).1 a i = _
          rw [hput]
          by_cases e : i = a.1.toNat
          · rw [e, upd_at, upd_at]
          · rw [upd_other _ _ e, upd_other _ _ e, h1]
        · rw [hsame]
          have hz' : z ∈ (lastly D l).2 ++ [a] := hz
          rw [List.mem_append, List.mem_singleton] at hz'
          by_cases e : z.1.toNat = a.1.toNat
          · refine ⟨?_, by rw [e, upd_at]; rfl⟩
            rcases hz' with hz' | rfl
            · exact (h2 z hz').1
            · exact a0
          · rw [upd_other _ _ e]
            rcases hz' with hz' | rfl
            · exact h2 z hz'
            · exact absurd rfl e
        · rw [hsame] at hi
          show ∃ y ∈ (lastly D l).2 ++ [a], y.1 = (i : Int)
          by_cases e : i = a.1.toNat
          · exact ⟨a, by simp, by omega⟩
          · rw [upd_other _ _ e] at hi
            obtain ⟨y, hy, he⟩ := h3 i hi
            exact ⟨y, by simp [hy], he⟩
/-- In whatever order the places were put, what was put last of each counts alone. -/
theorem lastly_leaves {D : A → Option L} (hD : ∀ a h, D a = some h → 0 ≤ a.1) (l : List A) (k : Nat) : lvs (lastly D l).1 k = lvs (puts D non l) k := lvs_eq fun i _ => (lastly_is hD l).1 i
end Go.Proofs.YtdkcebaehdkphaaGreatDoor.SegN
/- Acts in memory: what they read as; a row of acts, an act by value that come in; two leaves held against each other. The conditions: that they came in as a Go program's values. -/
namespace Go.Proofs.YtdkcebaehdkphaaGreatDoor.SegM
open Go.RowKit Go.ChangeShapes Go.WideShapes
open PrfL PrfM PrfB PrfG MerQ SSum SegN
theorem cAct : Tryz.prog.cellsOf 34 = 3 := by kernel_rfl
/-- An act as cells, as a value. -/
def ac (x : A) : Array Value := #[.int .i64 x.1, .int .i64 x.2.1, st x.2.2]
/-- No act. -/
abbrev noA : A := (0, 0, [])
/-- An act that came in. -/
def FitA (x : A) : Prop := (-9223372036854775808 ≤ x.1 ∧ x.1 ≤ 9223372036854775807) ∧ (-9223372036854775808 ≤ x.2.1 ∧ x.2.1 ≤ 9223372036854775807) ∧ x.2.2.length ≤ maxLen
theorem at_a (l : List A) {i : Nat} (h : i < l.length) : l.getD i noA = l[i] := by simp [List.getD, h]
set_option maxRecDepth 100000 in
theorem act_cells {H : Type} {enc : TypeId × Value → H} {W : World} {fuel : Nat} {cs : List Value} {x : DataW H × List MemPlace} (h : DataW.trod enc Tryz.prog W 0 (fun _ => true) true fuel 34 cs = some x) : ∃ v : A, cs = (ac v).toList ∧ FitA v ∧ ((∀ n ∈ x.1.weights Tryz.prog 34, n ≤ reachBytes) → v.2.2.length ≤ reachBytes) := by
  obtain ⟨xs, m, _, hx, hl, hxl, hel⟩ := DataW.trod_struct Tryz.underlying34 h
  rw [cAct] at hl
  have e0 : DataW.trod enc Tryz.prog W 0 (fun _ => true) true m 3 ((cs.drop 0).take (Tryz.prog.cellsOf 3)) = xs[0]? := hel 0 _ rfl
  rw [cInt] at e0
  have e1 : DataW.trod enc Tryz.prog W 0 (fun _ => true) true m 3 ((cs.drop 1).take (Tryz.prog.cellsOf 3)) = xs[1]? := hel 1 _ rfl
  rw [cInt] at e1
  have e2 : DataW.trod enc Tryz.prog W 0 (fun _ => true) true m 9 ((cs.drop 2).take (Tryz.prog.cellsOf 9)) = xs[2]? := hel 2 _ rfl
  rw [cStr] at e2
  match xs, hxl with
  | [y0, y1, y2], _ =>
    match cs, hl with
    | [v0, v1, v2], _ =>
      obtain ⟨a, h0, _, w0⟩ := DataW.trod_int Tryz.underlying3 e0
      obtain ⟨b, h1, _, w1⟩ := DataW.trod_int Tryz.underlying3 e1
      obtain ⟨s, h2, hs, w2⟩ := DataW.trod_string Tryz.underlying9 e2
      simp at h0 h1 h2
      subst h0 h1 h2
      refine ⟨(a, b, s.data.toList), ?_, ⟨bounds_i64 w0, bounds_i64 w1, ?_⟩, fun hw => hw _ ?_⟩
      · unfold ac
        rw [st_of]
      · simpa using w2
      · subst hs
        rw [hx]
        simp [DataW.weights, Tryz.underlying34, DataW.weightsEach]
/-- A row of acts reads as these. -/
def LiesA (W : World) (a : Option Addr) (l : List A) : Prop :=
  0 < l.length → ∃ g o, a = some ⟨g, o, none⟩ ∧ g < W.heap.size ∧ ∀ i, i < l.length → W.cell? ⟨g, o + i * 3, none⟩ = some (.int .i64 (l.getD i noA).1) ∧ W.cell? ⟨g, o + i * 3 + 1, none⟩ = some (.int .i64 (l.getD i noA).2.1) ∧ W.cell? ⟨g, o + i * 3 + 2, none⟩ = some (st (l.getD i noA).2.2)
theorem LiesA.nil (W : World) (a : Option Addr) : LiesA W a [] := fun h => absurd h (by simp)
theorem LiesA.step {W W' : World} {a : Option Addr} {l : List A} (h : LiesA W a l) (hb : Below W.heap.size W W') : LiesA W' a l := fun h0 => by
  obtain ⟨g, o, e, hg, hc⟩ := h h0
  refine ⟨g, o, e, Nat.lt_of_lt_of_le hg hb.size, fun i hi => ?_⟩
  obtain ⟨c0, c1, c2⟩ := hc i hi
  exact ⟨(hb.cell (p := ⟨g, o + i * 3, none⟩) hg).trans c0, (hb.cell (p := ⟨g, o + i * 3 + 1, none⟩) hg).trans c1, (hb.cell (p := ⟨g, o + i * 3 + 2, none⟩) hg).trans c2⟩
/-- A row of acts that came in. -/
def Acts (W : World) (a : Option Addr) (n : Nat) (l : List A) : Prop := l.length = n ∧ n ≤ maxLen ∧ (∀ x ∈ l, FitA x) ∧ LiesA W a l
theorem weights_all {H : Type} {P : Program} {e : TypeId} : ∀ {ds : List (DataW H)} {d : DataW H} {n : Nat}, d ∈ ds → n ∈ d.weights P e → n ∈ DataW.weightsAll P e ds
  | x :: r, d, n, hd, hn => by
    unfold DataW.weightsAll
    rw [List.mem_append]
    rcases List.mem_cons.1 hd with rfl | hd
    · exact .inl hn
    · exact .inr (weights_all hd hn)
set_option maxRecDepth 100000 in
theorem open_acts {H : Type} {enc : TypeId × Value → H} {W : World} {v : Value} {d : DataW H} {p : List MemPlace}
    (h : DataW.Trod enc Tryz.prog W 0 (fun _ => true) true 22 v d p) : ∃ a n cap l, v.cells.toList = [.slice a n cap] ∧ Acts W a n l ∧ ((∀ n ∈ d.weights Tryz.prog 22, n ≤ reachBytes) → ∀ x ∈ l, x.2.2.length ≤ reachBytes) := by
  obtain ⟨fuel, hf⟩ := h
  rcases Go.Deep.open_slice Tryz.underlying22 hf with ⟨hcs, _⟩ | ⟨a, len, cap, m, n, D, Pl, hcs, _, hl, hm, hmm, hd, hi⟩
  · exact ⟨none, 0, 0, [], hcs, ⟨rfl, Nat.zero_le _, (fun x hx => by simp at hx), LiesA.nil _ _⟩, (fun _ x hx => by simp at hx)⟩
  · have hml : len ≤ m := by simp at hmm; omega
    have each : ∀ i, ∃ x : A, i < len → (FitA x ∧ ((∀ n ∈ (D i).weights Tryz.prog 34, n ≤ reachBytes) → x.2.2.length ≤ reachBytes)) ∧ W.cell? (a.add (i * 3)) = some (.int .i64 x.1) ∧ W.cell? (a.add (i * 3 + 1)) = some (.int .i64 x.2.1) ∧ W.cell? (a.add (i * 3 + 2)) = some (st x.2.2) := by
      intro i
      by_cases hil : i < len
      · obtain ⟨cs', hc, ht⟩ := hi i (by omega)
        obtain ⟨x, hx, hfit, hwt⟩ := act_cells ht
        rw [cAct] at hc
        obtain ⟨_, hlen, hat⟩ := World.cells?_some hc
        refine ⟨x, fun _ => ⟨⟨hfit, hwt⟩, ?_, ?_, ?_⟩⟩
        · have := hat 0 (by omega)
          rw [hx, Go.Deep.add_add] at this
          exact this
        · have := hat 1 (by omega)
          rw [hx, Go.Deep.add_add] at this
          exact this
        · have := hat 2 (by omega)
          rw [hx, Go.Deep.add_add] at this
          exact this
      · exact ⟨noA, fun h => absurd h hil⟩
    obtain ⟨z, hz⟩ := Classical.axiomOfChoice each
    refine ⟨some a, len, cap, (List.range len).map z, hcs, ⟨by simp, by omega, (fun x hx => ?_), fun h0 => ?_⟩, fun hw x hx => ?_⟩
    · obtain ⟨i, hi, rfl⟩ := List.mem_map.1 hx
      exact (hz i (List.mem_range.1 hi)).1.1
    rotate_left
    · obtain ⟨i, hi, rfl⟩ := List.mem_map.1 hx
      refine (hz i (List.mem_range.1 hi)).1.2 fun n hn => hw n ?_
      injection hd with hd _
      rw [hd]
      unfold DataW.weights
      rw [Tryz.underlying22]
      refine List.mem_cons_of_mem _ (List.mem_append.2 (.inl (weights_all (List.mem_map.2 ⟨i, hi, rfl⟩) hn)))
    have h0' : 0 < len := by simpa using h0
    obtain ⟨g, o, spot⟩ := a
    have hc0 := (hz 0 h0').2.1
    have hspot : spot = none := by simpa [Addr.add] using World.cell?_spot hc0
    subst hspot
    refine ⟨g, o, rfl, World.block_lt_of_cell? W _ (by simpa [Addr.add] using hc0), fun i k => ?_⟩
    have hil : i < len := by simpa using k
    obtain ⟨_, q0, q1, q2⟩ := hz i hil
    rw [add_off] at q0 q1 q2
    rw [at_a _ k]
    simp only [List.getElem_map, List.getElem_range]
    exact ⟨q0, by rw [Nat.add_assoc]; exact q1, by rw [Nat.add_assoc]; exact q2⟩
set_option maxRecDepth 100000 in
/-- An act by value. -/
theorem open_act {H : Type} {enc : TypeId × Value → H} {W : World} {r : Reach} {b0 : Nat} {v : Value} {d : DataW H} {p : List MemPlace} (hval : Value.okWide Tryz.prog W r b0 34 v)
    (h : DataW.Trod enc Tryz.prog W 0 (fun _ => true) true 34 v d p) : ∃ x : A, v = .agg (ac x) ∧ FitA x ∧ ((∀ n ∈ d.weights Tryz.prog 34, n ≤ reachBytes) → x.2.2.length ≤ reachBytes) := by
  obtain ⟨cs, rfl, _⟩ := okWide_struct Tryz.underlying34 hval
  obtain ⟨fuel, hf⟩ := h
  obtain ⟨x, hx, g⟩ := act_cells hf
  refine ⟨x, ?_, g⟩
  have : cs = ac x := by
    have := hx
    simp only [Value.cells] at this
    exact Array.toList_inj.1 this
  rw [this]
end Go.Proofs.YtdkcebaehdkphaaGreatDoor.SegM
/- Rows of leaves that a call owns: what they read as; a leaf appended; two leaves held against each other ('!='). No conditions but those that each lemma names. -/
namespace Go.Proofs.YtdkcebaehdkphaaGreatDoor.SegR
set_option linter.unusedVariables false
open Go.RowKit
open PrfL PrfM PrfB PrfG MerQ MerJ
/-- A row of leaves as cells. -/
def rl (l : List Lf) : List Value := l.flatMap lc
theorem rl_nil : rl [] = [] := rfl
theorem rl_cons (v : Lf) (l : List Lf) : rl (v :: l) = .int .i64 v.1 :: st v.2 :: rl l := rfl
theorem rl_append (l m : List Lf) : rl (l ++ m) = rl l ++ rl m := by simp [rl]
theorem rl_length (l : List Lf) : (rl l).length = l.length * 2 := by
  induction l with
  | nil => rfl
  | cons v l ih => rw [rl_cons]; simp only [List.length_cons, ih]; omega
theorem rl_at (l : List Lf) : ∀ i (h : i < l.length), (rl l)[i * 2]? = some (.int .i64 l[i].1) ∧ (rl l)[i * 2 + 1]? = some (st l[i].2) := by
  induction l with
  | nil => intro i h; simp at h
  | cons v l ih =>
    intro i h
    cases i with
    | zero => exact ⟨rfl, rfl⟩
    | succ i =>
      have := ih i (by simpa using h)
      rw [rl_cons, show (i + 1) * 2 = i * 2 + 1 + 1 by omega]
      simpa using this
theorem lc_one (v : Lf) : ∀ u ∈ lc v, u.oneCell' = true := by
  intro u hu
  simp only [lc, List.mem_cons, List.not_mem_nil, or_false] at hu
  rcases hu with rfl | rfl <;> rfl
/-- A row of the call's own reads as it does. -/
theorem own_lies {W : World} {base : Nat} {e : TypeId} {a : Option Addr} {n c : Nat} {l : List Lf} (h : W.ownsRow base e 2 (.slice a n c) n (rl l)) : Lies W a l := fun h0 => by
  have hl : l.length * 2 = n * 2 := by rw [← rl_length]; exact h.1
  rcases h.2 with ⟨_, hn⟩ | ⟨g, cap, cur, hv, _, hg, _⟩
  · omega
  · injection hv with hv
    subst hv
    refine ⟨g, 0, rfl, (Array.getElem?_eq_some_iff.1 hg).1, fun i hi => ?_⟩
    obtain ⟨r0, r1⟩ := rl_at l i hi
    rw [← at_d l hi] at r0 r1
    have k0 := h.cells (g := g) rfl _ _ r0
    have k1 := h.cells (g := g) rfl _ _ r1
    rw [add_off] at k0 k1
    exact ⟨k0, by rw [Nat.add_assoc]; exact k1⟩
theorem own_len {W : World} {base : Nat} {e : TypeId} {v : Value} {n : Nat} {l : List Lf} (h : W.ownsRow base e 2 v n (rl l)) : l.length = n := by
  have := h.1
  rw [rl_length] at this
  omega
theorem info_leaf : ((Tryz.prog.info? 45).map fun i => (i.zero, i.size, i.bytes)) = some (some (.agg #[.int .i64 0, .string ByteArray.empty]), 2, 24) := by kernel_rfl
theorem cell_row_new (w : World) (v : Lf) (t : TypeId) : ∀ j u, (lc v)[j]? = some u → (w.alloc (.cells #[.int .i64 v.1, st v.2] t)).cell? ((⟨w.heap.size, 0, none⟩ : Addr).add j) = some u := fun j u hj => by
  rw [add_off, Nat.zero_add]
  exact blk_cell (heap_alloc_new w _) (by rw [← Array.getElem?_toList]; exact hj)
theorem own_slice {w : World} {base n : Nat} {e : TypeId} {size : Nat} {v : Value} {xs : List Value} (h : w.ownsRow base e size v (n + 1) xs) : ∃ p c, v = .slice p (n + 1) c := by
  rcases h.2 with ⟨_, h0⟩ | ⟨g, cap, cur, hv, _⟩
  · omega
  · exact ⟨_, _, hv⟩
/-- A leaf appended to a row of the call's own. -/
theorem append_leaf {ops : Array Oper} {rest : List Oper} {o : Oper} {a : Act} {Q : Exit → Act → World → Prop} (w : World) (hgd : o.guard = none) (s x : Operand)
    (ho : o.op = .call { callee := .builtin .append, args := #[s, x], argTypes := #[30, 30] }) (base c : Nat) (p : Option Addr) (l : List Lf) (v : Lf) (hs : a.eval s = .slice p l.length c) (hn : l.length ≤ 100000) (hb : base ≤ w.heap.size)
    (hx : a.eval x = .slice (some ⟨w.heap.size, 0, none⟩) 1 1) (hown : w.ownsRow base 45 2 (.slice p l.length c) l.length (rl l))
    (h : ∀ p' c' w', w'.ownsRow base 45 2 (.slice p' (l ++ [v]).length c') (l ++ [v]).length (rl (l ++ [v])) → Below base w w' → wpList Tryz.prog ops Q rest (a.put o.dst (.slice p' (l.length + 1) c')) w') :
    wpList Tryz.prog ops Q (o :: rest) a (w.alloc (.cells #[.int .i64 v.1, st v.2] 45)) := by
  obtain ⟨i0, hi, hz0, hz1, hz2⟩ := info_parts info_leaf
  refine wpList_append_own _ hgd s x 30 ho base 45 i0 (.agg #[.int .i64 0, .string ByteArray.empty]) 2 24 Tryz.underlying30 hi hz0 hz1 hz2 rfl (by decide) _ _ _ hs (hown.alloc _) ⟨w.heap.size, 0, none⟩ 1 1 (lc v) hx rfl (cell_row_new w v _) (lc_one v) (by unfold maxLen; omega) (by omega) (by simp; omega) ?_
  intro v' w1 h1 hgrow _
  obtain ⟨p', c', rfl⟩ := own_slice h1
  refine h p' c' w1 (by rw [rl_append, List.length_append]; simpa [rl] using h1) ?_
  exact Below.grown ((below_new w _).mono hb) hgrow (by simp; omega) (fun k hk => (hown.lt k hk).1)
theorem run_neq_leaf (W : World) (a b : Int) (s t : L) (q : Bool) (h : decide ((a, s) = (b, t)) = q) :
    (binOp .neq 45 (.agg #[.int .i64 a, st s]) (.agg #[.int .i64 b, st t])).run Tryz.prog W = .ok (.bool (!q)) W := by
  have e1 : (Op.equalIn 9999 3 (.int .i64 a) (.int .i64 b)).run Tryz.prog W = .ok (a == b) W := run_equalIn_int W 9998 3 .i64 .i64 a b Tryz.underlying3
  have e2 : (Op.equalIn 9999 9 (st s) (st t)).run Tryz.prog W = .ok (_ == _) W := run_equalIn_string W 9998 9 _ _ Tryz.underlying9
  have p0 : ∀ (x : Int) (u : ByteArray), (part 3 #[.int .i64 x, .string u] 0).run Tryz.prog W = .ok (.int .i64 x) W := fun x u => by simp [part, isAgg, run_underlying Tryz.underlying3]
  have p1 : ∀ (x : Int) (u : ByteArray), (part 9 #[.int .i64 x, .string u] 1).run Tryz.prog W = .ok (.string u) W := fun x u => by simp [part, isAgg, run_underlying Tryz.underlying9]
  rw [run_neq_struct, run_equalIn_struct W 9999 _ _ _ under_leaf stood_leaf, fields_leaf]
  rw [str_beq, st_inj] at e2
  subst h
  simp only [Op.eqFields, Sem.run_bind, Sem.run_ite, p0, p1, e1, e2, Result.andThen_ok]
  by_cases h1 : a = b <;> by_cases h2 : s = t <;> simp [h1, h2]
end Go.Proofs.YtdkcebaehdkphaaGreatDoor.SegR
/- The document's Same of two rows of leaves: the walk of its text. No conditions but those that each lemma names. -/
namespace Go.Proofs.YtdkcebaehdkphaaGreatDoor.SegS
set_option linter.unusedVariables false
open Go.RowKit
open PrfL PrfM PrfB PrfG MerQ SegR
theorem eq_take (a b : List Lf) (h : a.length = b.length) (k : a.take a.length = b.take a.length) : a = b := by
  rw [List.take_length, h, List.take_length] at k
  exact k
theorem take_eq_succ (a b : List Lf) (j : Nat) (ha : j < a.length) (hb : j < b.length) (h : a.take j = b.take j) (k : a[j] = b[j]) : a.take (j + 1) = b.take (j + 1) := by
  rw [List.take_succ_eq_append_getElem ha, List.take_succ_eq_append_getElem hb, h, k]
set_option maxRecDepth 100000 in
set_option maxHeartbeats 1000000 in
theorem Same (a b : Option Addr) (c d : Nat) (l m : List Lf) (w : World) (h : Lies w a l) (k : Lies w b m) (hl : l.length ≤ 100000) (hm : m.length ≤ 100000) :
    Calls Tryz.prog 11 #[.slice a l.length c, .slice b m.length d] w fun e w' => e = .returned (.bool (decide (l = m))) ∧ Below w.heap.size w w' := by
  by_cases hlm : l.length = m.length
  · have HL := Lib.hid h
    have HM := Lib.hid k
    have HQ := Lib.hid (fun (j : Nat) (hj : j < l.length) (hk : j < m.length) W => run_neq_leaf W l[j].1 m[j].1 l[j].2 m[j].2)
    have HLM := Lib.hid hlm
    clear h k
    have hli : (l.length : Int) = (m.length : Int) := by omega
    go_enter Tryz.func11, Tryz.ntmps11
    go_wp2_with fail
    go_loopw [5] (fun i wr => ∃ j : Nat, j ≤ l.length ∧ i = .int .i64 j ∧ l.take j = m.take j ∧ Below w.heap.size w wr) (fun i _ => l.length - (intOf i).toNat)
    case atStart => exact ⟨0, Nat.zero_le _, rfl, by simp, Below.refl _ _⟩
    case round =>
      obtain ⟨j, hj, rfl, hn, hb⟩ := hrel
      have BW := Lib.hid hb
      have HN := Lib.hid hn
      clear hb hn
      by_cases hlt : j < l.length
      · have hlt2 : j < m.length := by omega
        obtain ⟨g, o, rfl, hg, hat⟩ := (HL.out.step BW.out) (by omega)
        obtain ⟨m0, m1⟩ := hat j hlt
        obtain ⟨g', o', rfl, hg', hat'⟩ := (HM.out.step BW.out) (by omega)
        obtain ⟨k0, k1⟩ := hat' j hlt2
        rw [at_d _ hlt] at m0 m1
        rw [at_d _ hlt2] at k0 k1
        have hjl : (j : Int) < (l.length : Int) := by omega
        have hjm : (j : Int) < (m.length : Int) := by omega
        have hQ := fun W q hq => HQ.out j hlt hlt2 W q hq
        have HT := Lib.hid (take_eq_succ l m j hlt hlt2 HN.out)
        have HF : Hid (¬ l[j] = m[j] → ¬ l = m) := Lib.hid fun h1 h2 => h1 (by subst h2; rfl)
        clear hat hat' HQ
        generalize l[j] = u at *
        generalize m[j] = v at *
        by_cases he : u = v
        · have hQ1 := fun W => hQ W true (decide_eq_true (by rw [he]))
          have HV := Lib.hid (HT.out he)
          clear he hQ
          obtain ⟨u0, u1⟩ := u
          obtain ⟨v0, v1⟩ := v
          dsimp only at *
          go_wp2_with fail
          go_quiet (fail)
          go_wp2
          go_roundw
          case rel => exact ⟨j + 1, by omega, by go_num, HV.out, BW.out.trans (below_drewN _ _)⟩
          case measure => simp [intOf]; omega
        · have hQ1 := fun W => hQ W false (decide_eq_false fun e => he e)
          have HV := Lib.hid (decide_eq_false (HF.out he))
          clear he hQ
          obtain ⟨u0, u1⟩ := u
          obtain ⟨v0, v1⟩ := v
          dsimp only at *
          go_wp2_with fail
          go_quiet (fail)
          go_wp2
          go_ret
          exact ⟨by rw [HV.out] <;> rfl, BW.out.trans (below_drewN _ _)⟩
      · obtain rfl : j = l.length := by omega
        have HV := Lib.hid (decide_eq_true (eq_take l m HLM.out HN.out))
        go_wp2
        go_ret
        exact ⟨by rw [HV.out] <;> rfl, BW.out⟩
  · have HV := Lib.hid (decide_eq_false (show ¬ l = m from fun e => hlm (by rw [e])))
    have hne : ((l.length : Int) == (m.length : Int)) = false := by rw [beq_eq_false_iff_ne]; omega
    clear hlm h k
    go_enter Tryz.func11, Tryz.ntmps11
    go_wp2
    go_ret
    exact ⟨by rw [HV.out] <;> rfl, Below.refl _ _⟩
end Go.Proofs.YtdkcebaehdkphaaGreatDoor.SegS
/- The statements' Few: the walk of its text. No conditions but those that each lemma names. -/
namespace Go.Proofs.YtdkcebaehdkphaaGreatDoor.SegF
set_option linter.unusedVariables false
open Go.RowKit SSum
open PrfL PrfM PrfB PrfG MerQ SegN SegM
/-- The ciphers' lengths' sum, none counted above 10,000. -/
def asum (l : List A) : Nat := (l.map fun x => min x.2.2.length 10000).sum
theorem asum_next (l : List A) (j : Nat) (h : j < l.length) : asum (l.take (j + 1)) = asum (l.take j) + min (l.getD j noA).2.2.length 10000 := by
  unfold asum
  rw [List.take_succ_eq_append_getElem h, List.map_append, List.sum_append]
  simp [List.getD, h]
theorem asum_le (l : List A) : asum l ≤ 10000 * l.length := by
  unfold asum
  induction l with
  | nil => simp
  | cons x l ih =>
    rw [List.map_cons, List.sum_cons, List.length_cons]
    omega
/-- Are acts gone through? -/
def fewB (l : List A) : Bool := decide (l.length ≤ 40) && decide (((asum (l.take 41) : Nat) : Int) ≤ 10000)
theorem few_in {l : List A} (h : fewB l = true) : l.length ≤ 40 := by
  unfold fewB at h
  rw [Bool.and_eq_true, decide_eq_true_eq] at h
  exact h.1
theorem min_it (k : Nat) (W : World) (ts : Array TypeId) (t : TypeId) : (Builtin.min_ ts t #[.int .i64 (k : Int), .int .i64 10000]).run Tryz.prog W = .ok (.int .i64 ((min k 10000 : Nat) : Int)) W := by
  rw [run_min_int2]
  congr 2
  by_cases h : (10000 : Int) < (k : Int)
  · rw [if_pos h]; omega
  · rw [if_neg h]; omega
set_option maxRecDepth 100000 in
set_option maxHeartbeats 4000000 in
theorem Few (a : Option Addr) (n c : Nat) (l : List A) (w : World) (h : Acts w a n l) :
    Calls Tryz.prog 6 #[.slice a n c] w fun e w' => e = .returned (.bool (fewB l)) ∧ Below w.heap.size w w' := by
  obtain ⟨hln, hn, hfit, hli⟩ := h
  have HL := Lib.hid hli
  have HF := Lib.hid hfit
  unfold maxLen at hn
  obtain ⟨r, hr⟩ : ∃ r, fewB l = r := ⟨_, rfl⟩
  rw [hr]
  have HR := Lib.hid hr
  clear hr hli hfit
  go_enter Tryz.func6, Tryz.ntmps6
  go_wp2_with fail
  go_loopw [3, 4] (fun sv kv wr => ∃ k : Nat, k ≤ n ∧ k ≤ 41 ∧ kv = .int .i64 k ∧ sv = .int .i64 (asum (l.take k) : Nat) ∧ wr = w) (fun _ kv _ => n - (intOf kv).toNat)
  case atStart => exact ⟨0, Nat.zero_le _, Nat.zero_le _, rfl, rfl, rfl⟩
  case round =>
    obtain ⟨k, hk, hk41, rfl, rfl, rfl⟩ := hrel
    have hsb := asum_le (l.take k)
    have hlk : (l.take k).length ≤ 41 := by rw [List.length_take]; omega
    have hbb : asum (l.take k) ≤ 410000 := by omega
    clear hsb hlk
    by_cases hlt : k < n ∧ k ≤ 40
    · obtain ⟨h1, h2⟩ := hlt
      obtain ⟨g, o, rfl, hg, hc⟩ := HL.out (by omega)
      obtain ⟨_, _, c2⟩ := hc k (by omega)
      have hfk := (HF.out (l.getD k noA) (by rw [at_a _ (by omega)]; exact List.getElem_mem _)).2.2
      unfold maxLen at hfk
      have HN := Lib.hid (asum_next l k (by omega))
      have hm := min_it (l.getD k noA).2.2.length
      have hmb : min (l.getD k noA).2.2.length 10000 ≤ 10000 := by omega
      generalize asum (l.take k) = s at *
      generalize l.getD k noA = y at *
      obtain ⟨y0, y1, y2⟩ := y
      dsimp only at c2 hm hmb HN hfk
      generalize min y2.length 10000 = mm at *
      have q0 : (0 : Int) ≤ (k : Int) := by omega
      have q1 : (k : Int) < (n : Int) := by omega
      have q2 : (k : Int) ≤ 40 := by omega
      clear hc
      go_wp2_with fail
      go_roundw
      case rel => exact ⟨k + 1, by omega, by omega, by go_num, by rw [HN.out]; exact STurn.vint (by omega), by trivial⟩
      case measure => simp [intOf]; omega
    · have hk' : k = min n 41 := by omega
      have ht : l.take k = l.take 41 := by
        rw [hk']
        by_cases h1 : n ≤ 41
        · rw [Nat.min_eq_left h1, List.take_of_length_le (by omega), List.take_of_length_le (by omega)]
        · rw [Nat.min_eq_right (by omega)]
      rw [ht] at hbb ⊢
      have HFe : Hid (r = (decide (l.length ≤ 40) && decide (((asum (l.take 41) : Nat) : Int) ≤ 10000))) := Lib.hid HR.out.symm
      rw [hln] at HFe
      generalize asum (l.take 41) = s at *
      by_cases h1 : (n : Int) ≤ 40
      · have qn : ¬ (k : Int) < (n : Int) := by omega
        have HE := Lib.hid (show r = decide ((s : Int) ≤ 10000) by rw [HFe.out, decide_eq_true (by omega)]; rfl)
        go_wp2_with fail
        go_ret
        rw [HE.out]
        exact ⟨rfl, Below.refl _ _⟩
      · have qn : ¬ (k : Int) ≤ 40 := by omega
        have qm : (k : Int) < (n : Int) ∨ ¬ (k : Int) < (n : Int) := by omega
        have HE := Lib.hid (show r = false by rw [HFe.out, decide_eq_false (by omega)]; rfl)
        rcases qm with qm | qm
        · go_wp2_with fail
          go_ret
          rw [HE.out]
          exact ⟨rfl, Below.refl _ _⟩
        · go_wp2_with fail
          go_ret
          rw [HE.out]
          exact ⟨rfl, Below.refl _ _⟩
end Go.Proofs.YtdkcebaehdkphaaGreatDoor.SegF
