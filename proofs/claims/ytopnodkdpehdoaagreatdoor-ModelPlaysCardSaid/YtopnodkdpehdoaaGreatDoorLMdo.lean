/- MdO PgN: one behind the other. -/
import Derived.Test.YtopnodkdpehdoaaGreatDoorMdN
/- Plain mathematics: what is refused, or only asks, turns nothing; what is read as of a closed epoch stays, until it is purged; closing. No program is reached here; no conditions but those that each lemma names. -/
namespace Go.Proofs.YtopnodkdpehdoaaGreatDoor.MdO
set_option linter.unusedVariables false
open RecN RetN DbN MdN
/-- What is refused, or only asks, turns nothing. -/
theorem refused {m : Mo} {c : Cl} (h : (doA m c).er ≠ 0 ∨ c.k = 2 ∨ c.k = 3 ∨ c.k = 4 ∨ c.k = 10) : doM m c = m := by
  have hE : ¬ (c.k = 2 ∨ c.k = 3 ∨ c.k = 4 ∨ c.k = 10) → doE m c ≠ 0 := fun hn => by
    rcases h with h | h
    · unfold doA at h
      rw [if_neg (by omega), if_neg (by omega), if_neg (by omega)] at h
      exact h
    · exact absurd h hn
  unfold doM
  by_cases h1 : c.k = 1
  · have := hE (by omega)
    unfold doE at this
    rw [if_pos h1] at this
    rw [if_pos h1, if_neg this]
  rw [if_neg h1]
  by_cases h5 : c.k = 5
  · have := hE (by omega)
    unfold doE at this
    rw [if_neg h1, if_neg (by omega), if_pos h5] at this
    rw [if_pos h5, if_neg this]
  rw [if_neg h5]
  by_cases h6 : c.k = 6 ∨ c.k = 7 ∨ c.k = 8 ∨ c.k = 9
  · have := hE (by omega)
    unfold doE at this
    rw [if_neg h1, if_neg (by omega), if_neg h5, if_pos h6] at this
    rw [if_pos h6, if_neg this]
  rw [if_neg h6]
  by_cases h11 : c.k = 11
  · have := hE (by omega)
    unfold doE at this
    rw [if_neg h1, if_neg (by omega), if_neg h5, if_neg h6, if_pos h11] at this
    rw [if_pos h11, if_neg this]
  rw [if_neg h11]
/-- What a call may turn: a write, a record, the clock. -/
theorem turns (m : Mo) (c : Cl) : doM m c = m ∨ doM m c = wrM m c ∨ (∃ r, doM m c = rcM m r ∧ may m.s (stamp m r) = 0 ∧ (r.k = 1 → m.s.ep < 4294967295)) ∨ (∃ t, doM m c = { m with ck := t }) := by
  unfold doM
  by_cases h1 : c.k = 1
  · rw [if_pos h1]
    by_cases he : wrE m c = 0
    · rw [if_pos he]; exact .inr (.inl rfl)
    · rw [if_neg he]; exact .inl rfl
  rw [if_neg h1]
  by_cases h5 : c.k = 5
  · rw [if_pos h5]
    by_cases he : clE m = 0
    · rw [if_pos he]
      obtain ⟨hc, hr⟩ := cl_in he
      exact .inr (.inr (.inl ⟨_, rfl, (rec_ok hr).1, fun _ => hc.1⟩))
    · rw [if_neg he]; exact .inl rfl
  rw [if_neg h5]
  by_cases h6 : c.k = 6 ∨ c.k = 7 ∨ c.k = 8 ∨ c.k = 9
  · rw [if_pos h6]
    by_cases he : slE m c = 0
    · rw [if_pos he]
      refine .inr (.inr (.inl ⟨_, rfl, (rec_ok (sl_in he)).1, fun hk => ?_⟩))
      unfold slR at hk
      repeat' split at hk
      all_goals simp at hk
    · rw [if_neg he]; exact .inl rfl
  rw [if_neg h6]
  by_cases h11 : c.k = 11
  · rw [if_pos h11]
    by_cases he : tkE m c.tm = 0
    · rw [if_pos he]; exact .inr (.inr (.inr ⟨_, rfl⟩))
    · rw [if_neg he]; exact .inl rfl
  rw [if_neg h11]
  exact .inl rfl
/-- The open epoch grows by one at most, and not beyond the last one. -/
theorem ep_do {m : Mo} (c : Cl) (h : m.s.ep ≤ 4294967295) : m.s.ep ≤ (doM m c).s.ep ∧ (doM m c).s.ep ≤ 4294967295 := by
  rcases turns m c with e | e | ⟨r, e, hm, hk⟩ | ⟨t, e⟩
  · rw [e]; exact ⟨Int.le_refl _, h⟩
  · rw [e]; exact ⟨Int.le_refl _, h⟩
  · rw [e]
    show m.s.ep ≤ (take m.s (stamp m r)).ep ∧ (take m.s (stamp m r)).ep ≤ 4294967295
    rcases take_ep m.s (stamp m r) with q | ⟨q0, q⟩
    · omega
    · have := hk q0
      omega
  · rw [e]; exact ⟨Int.le_refl _, h⟩
theorem take_gone (s : St) (r : Rec) (t : Int) (h : s.gone t = true) : (take s r).gone t = true := by
  unfold take
  repeat' split
  all_goals first | exact h | skip
  show upd s.gone r.tg true t = true
  by_cases e : t = r.tg
  · rw [e]; exact upd_at _ _ _
  · rw [upd_other _ _ e]; exact h
/-- The same answer, or one that was read and is purged since. -/
def R (a b : An) : Prop := a = b ∨ (a.er = 0 ∧ b.er = 13)
theorem R.trans {a b c : An} (h : R a b) (k : R b c) : R a c := by
  rcases h with rfl | ⟨h1, h2⟩
  · exact k
  · rcases k with rfl | ⟨k1, _⟩
    · exact .inr ⟨h1, h2⟩
    · omega
theorem bst_late (vs : List V) (v : V) (lba fr to : Int) (h : to < v.ep) : bst (vs ++ [v]) lba fr to = bst vs lba fr to := by
  rw [bst_snoc]
  unfold bst1
  rw [if_neg (fun hh => by have := hh.1.2.2; omega)]
/-- What is read as of a closed epoch stays, until it is purged: one call. -/
theorem once_do {m : Mo} (hl : m.s.ep ≤ 4294967295) (c : Cl) (lba e : Int) (he : e < m.s.ep) : R (rd m lba e) (rd (doM m c) lba e) := by
  rcases turns m c with q | q | ⟨r, q, hm, hk⟩ | ⟨t, q⟩
  · rw [q]; exact .inl rfl
  · rw [q]
    refine .inl ?_
    have hb : bst (wrM m c).vs lba m.f e = bst m.vs lba m.f e := bst_late _ _ _ _ _ he
    have ht : there (wrM m c) e false = there m e false := rfl
    show rd m lba e = _
    unfold rd
    rw [ht]
    show _ = if lba < 0 ∨ m.lb ≤ lba then anE 4 else if there m e false ≠ 0 then anE 7 else match bst (wrM m c).vs lba m.f e with
      | none => anE 7
      | some v => if m.s.gone v.ep = true then anE 13 else anD v.da
    rw [hb]
    cases bst m.vs lba m.f e <;> rfl
  · rw [q]
    have h2 : there (rcM m r) e false = there m e false := by
      unfold there
      have h3 : (rcM m r).f = m.f := rfl
      have h4 : m.s.ep ≤ (rcM m r).s.ep := by
        show m.s.ep ≤ (take m.s (stamp m r)).ep
        rcases take_ep m.s (stamp m r) with q | ⟨_, q⟩ <;> omega
      rw [h3]
      by_cases h5 : e < m.f
      · rw [if_pos (.inl h5), if_pos (.inl h5)]
      · rw [if_neg (show ¬ (e < m.f ∨ (rcM m r).s.ep < e) by omega), if_neg (show ¬ (e < m.f ∨ m.s.ep < e) by omega), if_neg (by simp), if_neg (by simp)]
    unfold rd
    rw [h2]
    show R _ (if lba < 0 ∨ m.lb ≤ lba then anE 4 else if there m e false ≠ 0 then anE 7 else match bst m.vs lba m.f e with
      | none => anE 7
      | some v => if (take m.s (stamp m r)).gone v.ep = true then anE 13 else anD v.da)
    by_cases g1 : lba < 0 ∨ m.lb ≤ lba
    · rw [if_pos g1, if_pos g1]; exact .inl rfl
    rw [if_neg g1, if_neg g1]
    by_cases g2 : there m e false ≠ 0
    · rw [if_pos g2, if_pos g2]; exact .inl rfl
    rw [if_neg g2, if_neg g2]
    cases bst m.vs lba m.f e with
    | none => exact .inl rfl
    | some v =>
      show R (if m.s.gone v.ep = true then anE 13 else anD v.da) (if (take m.s (stamp m r)).gone v.ep = true then anE 13 else anD v.da)
      by_cases g3 : m.s.gone v.ep = true
      · rw [if_pos g3, if_pos (take_gone _ _ _ g3)]; exact .inl rfl
      · rw [if_neg g3]
        by_cases g4 : (take m.s (stamp m r)).gone v.ep = true
        · rw [if_pos g4]; exact .inr ⟨rfl, rfl⟩
        · rw [if_neg g4]; exact .inl rfl
  · rw [q]; exact .inl rfl
/-- A model behind calls. -/
def doL (m : Mo) (l : List Cl) : Mo := l.foldl doM m
theorem doL_snoc (m : Mo) (l : List Cl) (c : Cl) : doL m (l ++ [c]) = doM (doL m l) c := by unfold doL; rw [List.foldl_append]; rfl
theorem ok_doL {m : Mo} (h : Ok m) (l : List Cl) : Ok (doL m l) := by
  induction l using rev_ind with
  | h0 => exact h
  | h1 p x ih => rw [doL_snoc]; exact ok_do ih x
theorem ep_doL {m : Mo} (h : m.s.ep ≤ 4294967295) (l : List Cl) : m.s.ep ≤ (doL m l).s.ep ∧ (doL m l).s.ep ≤ 4294967295 := by
  induction l using rev_ind with
  | h0 => exact ⟨Int.le_refl _, h⟩
  | h1 p x ih => rw [doL_snoc]; have := ep_do x ih.2; omega
theorem once {m : Mo} (hl : m.s.ep ≤ 4294967295) (l : List Cl) (lba e : Int) (he : e < m.s.ep) : R (rd m lba e) (rd (doL m l) lba e) := by
  induction l using rev_ind with
  | h0 => exact .inl rfl
  | h1 p x ih =>
    rw [doL_snoc]
    have := ep_doL hl p
    exact ih.trans (once_do this.2 x lba e (by omega))
theorem plc_most {m : Mo} (h : Ok m) (fr : Int) : (plc m.vs fr m.lb.toNat : Int) ≤ 4096 := by
  have h1 := plc_le m.vs fr m.lb.toNat
  have h2 := h.geo
  unfold GeoN.right at h2
  omega
/-- Closing is taken where it may be. -/
theorem close_may {m : Mo} (h : Ok m) (he : m.s.ep < 4294967295) : rcE m (clR m) 1 = 0 := by
  have h1 := plc_most h m.s.ep
  have h0 := h.ep0
  have hg := h.geo
  unfold GeoN.right at hg
  have hr : right (stamp m (clR m)) := ⟨⟨by show 0 ≤ m.s.ep; omega, by show m.s.ep ≤ 4294967295; omega, h.ck0, h.ck1⟩, .inl ⟨rfl, by show (0 : Int) ≤ (plc m.vs m.s.ep m.lb.toNat : Int); omega, h1, by simp [stamp, clR], rfl, rfl, rfl⟩⟩
  have hm : may m.s (stamp m (clR m)) = 0 := by
    unfold may
    rw [if_neg (fun hh => hh hr), if_neg (show ¬ ((stamp m (clR m)).ep ≠ m.s.ep ∨ (stamp m (clR m)).tm < m.s.now) from fun hh => by
      rcases hh with hh | hh
      · exact hh rfl
      · have := h.now
        have e : (stamp m (clR m)).tm = m.ck := rfl
        omega)]
    unfold mayK
    have hk : (stamp m (clR m)).k = 1 := rfl
    rw [if_neg (by omega), if_neg (by omega), if_neg (by omega), if_neg (by omega)]
  unfold rcE
  rw [hm, if_neg (by decide), if_neg (by decide)]
/-- Closing: as long as a block is left, and the epoch is not the last one. -/
theorem closes {m : Mo} (h : Ok m) (hl : m.s.ep ≤ 4294967295) : (clE m = 0 ∧ (rcM m (clR m)).s.ep = m.s.ep + 1) ∨ (clE m = 6 ∧ rm m = 0) ∨ (clE m = 6 ∧ m.s.ep = 4294967295) := by
  unfold clE
  by_cases h1 : m.s.ep < 4294967295
  · by_cases h2 : m.used < GeoN.data m.b m.lb m.f
    · rw [if_pos ⟨h1, h2⟩]
      refine .inl ⟨close_may h h1, ?_⟩
      show (take m.s (stamp m (clR m))).ep = m.s.ep + 1
      unfold take
      rw [if_pos (show (stamp m (clR m)).k = 1 from rfl)]
    · rw [if_neg (fun hh => h2 hh.2)]
      refine .inr (.inl ⟨rfl, ?_⟩)
      unfold rm
      refine GeoN.room_no (fun hh => ?_)
      rw [GeoN.data_yes h.geo] at h2
      omega
  · rw [if_neg (fun hh => h1 hh.1)]
    exact .inr (.inr ⟨rfl, by omega⟩)
end Go.Proofs.YtopnodkdpehdoaaGreatDoor.MdO
/- Plain mathematics: the newest version is the first that is met from behind; places that have a version, counted by a set; where versions stand. No program is reached here; no conditions but those that each lemma names. -/
namespace Go.Proofs.YtopnodkdpehdoaaGreatDoor.PgN
set_option linter.unusedVariables false
open RecN RetN DbN MdN MdO
/-- From behind, the first that fits is the newest. -/
theorem bst_back {vs : List V} (h : vs.Pairwise fun v x => v.ep ≤ x.ep) (lba fr to : Int) : bst vs lba fr to = vs.reverse.find? (fun v => decide (vfit lba fr to v)) := by
  induction vs using rev_ind with
  | h0 => rfl
  | h1 p x ih =>
    have hp := (List.pairwise_append.1 h).1
    have hx := (List.pairwise_append.1 h).2.2
    rw [bst_snoc, List.reverse_append]
    show _ = List.find? _ (x :: p.reverse)
    unfold bst1
    by_cases hf : vfit lba fr to x
    · have hn : newer (bst p lba fr to) x = true := by
        cases hb : bst p lba fr to with
        | none => rfl
        | some v => exact decide_eq_true (hx v (bst_mem hb).1 x (by simp))
      rw [if_pos ⟨hf, hn⟩]
      exact (List.find?_cons_of_pos (p := fun v => decide (vfit lba fr to v)) (decide_eq_true hf)).symm
    · rw [if_neg (fun hh => hf hh.1)]
      exact (ih hp).trans (List.find?_cons_of_neg (p := fun v => decide (vfit lba fr to v)) (by simpa using hf)).symm
theorem bst_stop {vs q : List V} {x : V} (h : vs.Pairwise fun v x => v.ep ≤ x.ep) {lba fr to : Int} (hp : q ++ [x] <+: vs.reverse) (hq : ∀ y ∈ q, ¬ vfit lba fr to y) (hx : vfit lba fr to x) : bst vs lba fr to = some x := by
  rw [bst_back h]
  obtain ⟨r, hr⟩ := hp
  rw [← hr, List.append_assoc, List.find?_append, List.find?_eq_none.2 (fun y hy => by simpa using hq y hy)]
  rw [Option.none_or]
  show List.find? (fun v => decide (vfit lba fr to v)) (x :: r) = some x
  exact List.find?_cons_of_pos (p := fun v => decide (vfit lba fr to v)) (decide_eq_true hx)
theorem bst_all {vs : List V} (h : vs.Pairwise fun v x => v.ep ≤ x.ep) {lba fr to : Int} (hq : ∀ y ∈ vs.reverse, ¬ vfit lba fr to y) : bst vs lba fr to = none := by
  rw [bst_back h, List.find?_eq_none]
  exact fun y hy => by simpa using hq y hy
theorem bst_is {vs : List V} (h : vs.Pairwise fun v x => v.ep ≤ x.ep) (lba fr to : Int) : (bst vs lba fr to).isSome = true ↔ ∃ v ∈ vs, vfit lba fr to v := by
  rw [bst_back h, List.find?_isSome]
  constructor
  · rintro ⟨v, hv, hf⟩
    exact ⟨v, List.mem_reverse.1 hv, of_decide_eq_true hf⟩
  · rintro ⟨v, hv, hf⟩
    exact ⟨v, List.mem_reverse.2 hv, decide_eq_true hf⟩
/-- How many of the first n numbers are in a set. -/
def cnt (g : Int → Bool) : Nat → Nat
  | 0 => 0
  | n + 1 => cnt g n + if g (n : Int) = true then 1 else 0
theorem cnt_le (g : Int → Bool) : ∀ n, cnt g n ≤ n
  | 0 => Nat.le_refl _
  | n + 1 => by have := cnt_le g n; unfold cnt; split <;> omega
theorem cnt_no (n : Nat) : cnt (fun _ => false) n = 0 := by
  induction n with
  | zero => rfl
  | succ n ih => unfold cnt; rw [ih]; rfl
theorem cnt_eq {g g' : Int → Bool} : ∀ {n : Nat}, (∀ i : Nat, i < n → g (i : Int) = g' (i : Int)) → cnt g n = cnt g' n
  | 0, _ => rfl
  | n + 1, h => by unfold cnt; rw [cnt_eq fun i hi => h i (Nat.lt_succ_of_lt hi), h n (Nat.lt_succ_self n)]
theorem cnt_put (g : Int → Bool) {i : Int} (h0 : 0 ≤ i) : ∀ {n : Nat}, i < (n : Int) → cnt (upd g i true) n = cnt g n + if g i = true then 0 else 1
  | 0, h => by omega
  | n + 1, h => by
    unfold cnt
    by_cases hn : i = (n : Int)
    · subst hn
      rw [upd_at, if_pos rfl, cnt_eq (g' := g) fun i hi => upd_other _ _ (by omega)]
      by_cases hg : g (n : Int) = true
      · rw [if_pos hg, if_pos hg]
      · rw [if_neg hg, if_neg hg]
    · rw [cnt_put g h0 (by omega), upd_other g true (show (n : Int) ≠ i from fun e => hn e.symm)]
      omega
/-- Which places these versions are of. -/
def lbs (q : List V) (n : Int) : Bool := q.any fun v => decide (v.lb = n)
theorem lbs_nil : lbs [] = fun _ => false := rfl
theorem lbs_snoc (q : List V) (x : V) : lbs (q ++ [x]) = upd (lbs q) x.lb true := by
  funext n
  unfold lbs upd
  rw [List.any_append]
  by_cases h : n = x.lb
  · rw [if_pos h]; simp [h]
  · rw [if_neg h]; simp [Ne.symm h]
theorem lbs_is (q : List V) (n : Int) : lbs q n = true ↔ ∃ v ∈ q, v.lb = n := by
  unfold lbs
  rw [List.any_eq_true]
  exact ⟨fun ⟨v, hv, e⟩ => ⟨v, hv, of_decide_eq_true e⟩, fun ⟨v, hv, e⟩ => ⟨v, hv, decide_eq_true e⟩⟩
/-- All that are from an epoch on: as many places as the document counts. -/
theorem places_are {vs q : List V} {fr : Int} {N : Nat} (h : vs.Pairwise fun v x => v.ep ≤ x.ep) (hm : ∀ v ∈ vs, v.ep ≤ 4294967295) (hq : ∀ v, v ∈ q ↔ v ∈ vs ∧ fr ≤ v.ep) : cnt (lbs q) N = plc vs fr N := by
  have e : ∀ n : Int, lbs q n = (bst vs n fr 4294967295).isSome := fun n => by
    rw [Bool.eq_iff_iff, lbs_is, bst_is h]
    constructor
    · rintro ⟨v, hv, e⟩
      exact ⟨v, ((hq v).1 hv).1, e, ((hq v).1 hv).2, hm v ((hq v).1 hv).1⟩
    · rintro ⟨v, hv, e, h1, h2⟩
      exact ⟨v, (hq v).2 ⟨hv, h1⟩, e⟩
  induction N with
  | zero => rfl
  | succ n ih => unfold cnt plc; rw [ih, e]
theorem places_all {vs : List V} {fr : Int} {N : Nat} (h : vs.Pairwise fun v x => v.ep ≤ x.ep) (hm : ∀ v ∈ vs, v.ep ≤ 4294967295) (hq : ∀ y ∈ vs.reverse, fr ≤ y.ep) : cnt (lbs vs.reverse) N = plc vs fr N :=
  places_are h hm fun v => ⟨fun hv => ⟨List.mem_reverse.1 hv, hq v hv⟩, fun hv => List.mem_reverse.2 hv.1⟩
theorem places_stop {vs q : List V} {x : V} {fr : Int} {N : Nat} (h : vs.Pairwise fun v x => v.ep ≤ x.ep) (hm : ∀ v ∈ vs, v.ep ≤ 4294967295) (hp : q ++ [x] <+: vs.reverse) (hq : ∀ y ∈ q, fr ≤ y.ep) (hx : x.ep < fr) : cnt (lbs q) N = plc vs fr N := by
  obtain ⟨r, hr⟩ := hp
  have e : vs = (x :: r).reverse ++ q.reverse := by
    have := congrArg List.reverse hr
    rw [List.reverse_reverse, List.append_assoc, List.reverse_append] at this
    exact this.symm
  refine places_are h hm fun v => ?_
  constructor
  · intro hv
    exact ⟨by rw [e]; exact List.mem_append_right _ (List.mem_reverse.2 hv), hq v hv⟩
  · rintro ⟨hv, hf⟩
    rw [e] at hv
    rcases List.mem_append.1 hv with hv | hv
    · exfalso
      rcases List.mem_cons.1 (List.mem_reverse.1 hv) with rfl | hv
      · omega
      · rw [e, List.reverse_cons, List.append_assoc] at h
        have := (List.pairwise_append.1 h).2.2 v (List.mem_reverse.2 hv) x (by simp)
        omega
    · exact List.mem_reverse.1 hv
/-- Each version is of a place; the book's time. -/
structure Lo (m : Mo) : Prop where
  lb : ∀ v ∈ m.vs, 0 ≤ v.lb ∧ v.lb < m.lb
  now : 0 ≤ m.s.now
theorem lo_new (b lb f : Int) : Lo (MdN.new b lb f) := ⟨fun v hv => absurd hv (by simp [MdN.new]), Int.le_refl 0⟩
theorem lo_write {m : Mo} (h : Lo m) {c : Cl} (he : wrE m c = 0) : Lo (wrM m c) := by
  refine ⟨fun v hv => ?_, h.now⟩
  rcases List.mem_append.1 hv with hv | hv
  · exact h.lb v hv
  · obtain rfl : v = ⟨c.lb, m.s.ep, c.da⟩ := by simpa using hv
    unfold wrE at he
    by_cases h2 : c.lb < 0 ∨ m.lb ≤ c.lb
    · rw [if_pos h2] at he; omega
    · show 0 ≤ c.lb ∧ c.lb < m.lb
      omega
theorem lo_rec {m : Mo} (h : Lo m) (hc : 0 ≤ m.ck) (r : Rec) : Lo (rcM m r) := ⟨h.lb, by
  show 0 ≤ (RetN.take m.s (stamp m r)).now
  rw [take_now]
  exact hc⟩
theorem ep_top {m : Mo} (h : Ok m) (he : m.s.ep ≤ 4294967295) : ∀ v ∈ m.vs, v.ep ≤ 4294967295 := fun v hv => by have := (h.vs v hv).2; omega
end Go.Proofs.YtopnodkdpehdoaaGreatDoor.PgN
