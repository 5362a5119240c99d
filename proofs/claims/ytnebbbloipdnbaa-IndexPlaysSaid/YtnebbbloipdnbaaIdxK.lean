/- slices.Clone and slices.Insert of a row of versions: the walks of their texts. No conditions but those that each lemma names. -/
import Derived.Test.YtnebbbloipdnbaaIdxI
import Derived.Maps.AppendAt
import Derived.Lib.SliceRun
import Derived.Lib.AppendZerosOnto
import Derived.Lib.Overlaps
import Derived.Deep.RegionLaw
import Derived.Laws.Externs
namespace Go.Proofs.Ytnebbbloipdnbaa.IdxK
open Go.RowKit
open IdxN IdxM IdxC IdxD IdxH IdxI
/-- What a copy of a row leaves. -/
def Cloned (l : List V) (w : World) (r : Ending) (w' : World) : Prop := ∃ v, r = .returned v ∧ w'.ownsRow w.heap.size 27 3 v l.length (rc l) ∧ Below w.heap.size w w'
theorem nil_eq (w : World) (a : Option Addr) (n c n' c' : Nat) : (binOp .eql 49 (.slice a n c) (.slice none n' c')).run Try.prog w = .ok (.bool a.isNone) w := Lib.run_eql_slice_nil w _ _ a n c n' c' Try.underlying49
set_option maxRecDepth 100000 in
theorem clone_none (n c : Nat) (w : World) : Calls Try.prog 36 #[.slice none n c] w fun e w' => e = .returned (.slice none 0 0) ∧ w = w' := by
  have q := nil_eq
  go_enter Try.func36, Try.ntmps36
  go_wp2
  go_ret
  exact ⟨rfl, rfl⟩
set_option maxRecDepth 100000 in
set_option maxHeartbeats 2000000 in
theorem clone_some (ad : Addr) (n c : Nat) (xs : List Value) (w : World) (hl : xs.length = n * 3) (hn : n ≤ 100000) (hc : ∀ j u, xs[j]? = some u → w.cell? (ad.add j) = some u) (h1 : ∀ v ∈ xs, v.oneCell' = true) :
    Calls Try.prog 36 #[.slice (some ad) n c] w fun r w' => ∃ v, r = .returned v ∧ w'.ownsRow w.heap.size 27 3 v n xs ∧ Below w.heap.size w w' := by
  have q := nil_eq
  obtain ⟨i0, hi, hz0, hz1, hz2⟩ := info_parts info_ver
  have HA : Hid (∀ j u, xs[j]? = some u → (w.alloc (.cells #[] 27)).cell? (ad.add j) = some u) := Lib.hid fun j u hj => Lib.cell?_alloc_some _ (hc j u hj)
  clear hc
  go_enter Try.func36, Try.ntmps36
  go_wp2_with (at_builtin; refine wpList_append_own _ rfl _ _ 49 rfl w.heap.size 27 i0 (.agg #[.int .i64 0, .int .i64 0, .int .i64 0]) 3 24 Try.underlying49 hi hz0 hz1 hz2 rfl (by decide) _ _ _ rfl (World.ownsRow_made w #[] 0 (Nat.le_refl _) (Nat.zero_le _) rfl) ad n c xs rfl hl HA.out h1 (by unfold maxLen; omega) (by omega) (by simp) ?_; intro v' w1 hown hgrow hnil; obtain ⟨a2, l2, c2, rfl⟩ := own_slice hown)
  go_ret
  refine ⟨_, rfl, by simpa using hown, ?_⟩
  exact ((Below.refl _ w).alloc (Nat.le_refl _) _).grown hgrow (by simp) (fun k hk => by have e : w.heap.size = k := Option.some.inj hk; omega)
theorem Clone (a : Option Addr) (c : Nat) (l : List V) (w : World) (h : Lies w a l) (hl : l.length ≤ 100000) :
    Calls Try.prog 36 #[.slice a l.length c] w (Cloned l w) := by
  cases a with
  | none =>
    have h0 : l = [] := by
      cases l with
      | nil => rfl
      | cons x l => obtain ⟨g, o, e, _⟩ := h (by simp); cases e
    subst h0
    exact (clone_none _ c w).mono fun e w' ⟨h1, h2⟩ => ⟨_, h1, World.ownsRow_nil _ _ _ _, h2 ▸ Below.refl _ _⟩
  | some ad =>
    refine clone_some ad l.length c (rc l) w (rc_length l) hl ?_ (rc_one l)
    intro j u hj
    have hlt : 0 < l.length := by
      have := (List.getElem?_eq_some_iff.1 hj).1
      rw [rc_length] at this
      omega
    obtain ⟨g, o, e, hg, hc⟩ := h hlt
    cases e
    rw [add_off]
    exact hc j u hj
/-- append, where the second one's type is another slice of the same. -/
theorem append_types {P : Program} (w : World) (t u ty e e' : TypeId) (ht : P.underlying t = some (.slice e)) (hu : P.underlying u = some (.slice e')) (b a : Option Addr) (n c m k : Nat) :
    (Builtin.append_ #[t, u] ty #[.slice b n c, .slice a m k]).run P w = (Builtin.append_ #[t, t] ty #[.slice b n c, .slice a m k]).run P w := by
  simp [Builtin.append_, run_underlying ht, run_underlying hu]
/-- What Insert leaves: the row of the call's own, where it was or in a new block. -/
def Insd (base : Nat) (v : Value) (r : List V) (w : World) (e : Ending) (w' : World) : Prop :=
  ∃ v', e = .returned v' ∧ w'.ownsRow base 27 3 v' r.length (rc r) ∧ w.grownBy w' v.ownBlock ∧ (v'.ownBlock = v.ownBlock ∨ v'.ownBlock = some w.heap.size)
theorem vc_one (x : V) : ∀ u ∈ vc x, u.oneCell' = true := by
  intro u h
  simp only [vc, List.mem_cons, List.not_mem_nil, or_false] at h
  rcases h with rfl | rfl | rfl <;> rfl
set_option maxRecDepth 100000 in
set_option maxHeartbeats 1000000 in
theorem insert_end_some (base g c S : Nat) (l : List V) (x : V) (w : World) (hn : l.length ≤ 100000) (hb : base ≤ w.heap.size)
    (hown : w.ownsRow base 27 3 (.slice (some ⟨g, 0, none⟩) l.length c) l.length (rc l)) (hx : ∀ j u, (vc x)[j]? = some u → w.cell? ((⟨S, 0, none⟩ : Addr).add j) = some u) :
    Calls Try.prog 30 #[.slice (some ⟨g, 0, none⟩) l.length c, .int .i64 l.length, .slice (some ⟨S, 0, none⟩) 1 1] w (Insd base (.slice (some ⟨g, 0, none⟩) l.length c) (l ++ [x]) w) := by
  obtain ⟨i0, hi, hz0, hz1, hz2⟩ := info_parts info_ver
  obtain ⟨v', w', hr, h2, h3, _, h5⟩ := run_append_own_at (P := Try.prog) w base 49 49 27 i0 (.agg #[.int .i64 0, .int .i64 0, .int .i64 0]) 3 24 Try.underlying49 hi hz0 hz1 hz2 rfl (by decide) (.slice (some ⟨g, 0, none⟩) l.length c) l.length (rc l) hown ⟨S, 0, none⟩ 1 1 (vc x) rfl hx (vc_one x) (by unfold maxLen; omega) (by omega) hb
  have hr' : (Builtin.append_ #[49, 22] 49 #[.slice (some ⟨g, 0, none⟩) l.length c, .slice (some ⟨S, 0, none⟩) 1 1]).run Try.prog w = .ok v' w' := by
    rw [append_types w 49 22 49 27 27 Try.underlying49 Try.underlying22]
    exact hr
  have HR := Lib.hid hr'
  have H2 : Hid (w'.ownsRow base 27 3 v' (l ++ [x]).length (rc (l ++ [x]))) := Lib.hid (by rw [rc_append, List.length_append]; exact h2)
  have H3 := Lib.hid h3
  have H5 := Lib.hid h5
  have hcap : l.length ≤ c := by
    rcases hown.2 with ⟨h, _⟩ | ⟨g', c', cur, h, _, _, hc, _⟩
    · cases h
    · cases h; exact hc
  clear hr hr' h2 h3 h5 hown hx
  generalize l.length = n at *
  go_enter Try.func30, Try.ntmps30
  go_wp2_with (at_builtin; refine Lib.wpList_append_run _ rfl _ _ _ _ rfl _ _ rfl rfl _ _ HR.out ?_)
  all_goals go_ret
  all_goals exact ⟨v', rfl, H2.out, H3.out, H5.out⟩
set_option maxRecDepth 100000 in
set_option maxHeartbeats 1000000 in
theorem insert_none (base S : Nat) (x : V) (w : World) (hb : base ≤ w.heap.size) (hx : ∀ j u, (vc x)[j]? = some u → w.cell? ((⟨S, 0, none⟩ : Addr).add j) = some u) :
    Calls Try.prog 30 #[.slice none 0 0, .int .i64 0, .slice (some ⟨S, 0, none⟩) 1 1] w (Insd base (.slice none 0 0) [x] w) := by
  obtain ⟨i0, hi, hz0, hz1, hz2⟩ := info_parts info_ver
  obtain ⟨v', w', hr, h2, h3, _, h5⟩ := run_append_own_at (P := Try.prog) w base 49 49 27 i0 (.agg #[.int .i64 0, .int .i64 0, .int .i64 0]) 3 24 Try.underlying49 hi hz0 hz1 hz2 rfl (by decide) (.slice none 0 0) 0 [] (World.ownsRow_nil _ _ _ _) ⟨S, 0, none⟩ 1 1 (vc x) rfl hx (vc_one x) (by unfold maxLen; omega) (by omega) hb
  have hr' : (Builtin.append_ #[49, 22] 49 #[.slice none 0 0, .slice (some ⟨S, 0, none⟩) 1 1]).run Try.prog w = .ok v' w' := by
    rw [append_types w 49 22 49 27 27 Try.underlying49 Try.underlying22]
    exact hr
  have HR := Lib.hid hr'
  have H2 : Hid (w'.ownsRow base 27 3 v' [x].length (rc [x])) := Lib.hid h2
  have H3 := Lib.hid h3
  have H5 := Lib.hid h5
  clear hr hr' h2 h3 h5 hx
  go_enter Try.func30, Try.ntmps30
  go_wp2_with (at_builtin; refine Lib.wpList_append_run _ rfl _ _ _ _ rfl _ _ rfl rfl _ _ HR.out ?_)
  go_ret
  exact ⟨v', rfl, H2.out, H3.out, H5.out⟩
/-- The cells behind both copies. -/
def fin (cur : List Value) (i : Nat) (x : V) (l : List V) : List Value := cur.take (i * 3) ++ vc x ++ rc (l.drop i) ++ cur.drop ((l.length + 1) * 3)
theorem fin_take {cur : List Value} {i : Nat} {x : V} {l : List V} (hi : i ≤ l.length) (hc : cur.take (i * 3) = rc (l.take i)) : (fin cur i x l).take ((l.length + 1) * 3) = rc (l.take i ++ x :: l.drop i) := by
  unfold fin
  rw [hc, show rc (l.take i ++ x :: l.drop i) = rc (l.take i) ++ vc x ++ rc (l.drop i) by rw [rc_append, List.append_assoc]; rfl]
  refine List.take_left' ?_
  rw [List.length_append, List.length_append, rc_length, rc_length, List.length_take, List.length_drop]
  simp only [vc, List.length_cons, List.length_nil]
  omega
theorem fin_length {cur : List Value} {i : Nat} {x : V} {l : List V} (hi : i ≤ l.length) (hc : (l.length + 1) * 3 ≤ cur.length) : (fin cur i x l).length = cur.length := by
  unfold fin
  simp only [List.length_append, List.length_take, List.length_drop, rc_length, vc, List.length_cons, List.length_nil]
  omega
/-- First the ones behind, then the new one. -/
theorem fin_shift {cur : List Value} {i : Nat} {x : V} {l : List V} (hi : i ≤ l.length) (hc : (l.length + 1) * 3 ≤ cur.length) :
    ((cur.take ((i + 1) * 3) ++ rc (l.drop i) ++ cur.drop ((i + 1) * 3 + (rc (l.drop i)).length)).take (i * 3) ++ vc x ++ (cur.take ((i + 1) * 3) ++ rc (l.drop i) ++ cur.drop ((i + 1) * 3 + (rc (l.drop i)).length)).drop (i * 3 + (vc x).length)) = fin cur i x l := by
  have e1 : (rc (l.drop i)).length = (l.length - i) * 3 := by rw [rc_length, List.length_drop]
  have e2 : (i + 1) * 3 + (l.length - i) * 3 = (l.length + 1) * 3 := by omega
  have eA : (cur.take ((i + 1) * 3)).length = (i + 1) * 3 := by rw [List.length_take]; omega
  rw [e1, e2, List.append_assoc (cur.take ((i + 1) * 3)), List.take_append_of_le_length (by rw [eA]; omega), List.take_take, Nat.min_eq_left (by omega), show i * 3 + (vc x).length = (i + 1) * 3 from by show i * 3 + 3 = _; omega, List.drop_left' eA]
  unfold fin
  simp only [List.append_assoc]
/-- First the new one, then the ones behind. -/
theorem fin_grow {cur : List Value} {i : Nat} {x : V} {l : List V} (hi : i ≤ l.length) (hc : (l.length + 1) * 3 ≤ cur.length) :
    ((cur.take (i * 3) ++ vc x ++ cur.drop (i * 3 + (vc x).length)).take ((i + 1) * 3) ++ rc (l.drop i) ++ (cur.take (i * 3) ++ vc x ++ cur.drop (i * 3 + (vc x).length)).drop ((i + 1) * 3 + (rc (l.drop i)).length)) = fin cur i x l := by
  have e1 : (rc (l.drop i)).length = (l.length - i) * 3 := by rw [rc_length, List.length_drop]
  have e2 : (i + 1) * 3 + (l.length - i) * 3 = (l.length + 1) * 3 := by omega
  have eB : (cur.take (i * 3) ++ vc x).length = (i + 1) * 3 := by rw [List.length_append, List.length_take]; show _ + 3 = _; omega
  rw [List.take_left' eB, e1, show (i + 1) * 3 + (l.length - i) * 3 = (cur.take (i * 3) ++ vc x).length + (l.length - i) * 3 by rw [eB], List.drop_length_add_append, List.drop_drop, show i * 3 + (vc x).length + (l.length - i) * 3 = (l.length + 1) * 3 from by show i * 3 + 3 + _ = _; omega]
  rfl
end Go.Proofs.Ytnebbbloipdnbaa.IdxK
