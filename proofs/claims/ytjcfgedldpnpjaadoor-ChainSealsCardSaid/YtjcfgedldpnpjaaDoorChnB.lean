/- The main walk of the statement of what was sealed. The condition: the rounds' numbers lie in the program's variable. -/
import Derived.Test.YtjcfgedldpnpjaaDoorChnZ
namespace Go.Proofs.YtjcfgedldpnpjaaDoor.ChnB
set_option linter.unusedVariables false
open Go.RowKit
open RecN RecC STurn SSum ChnN ChnM ChnC ChnD ChnF ChnG ChnS ChnK ChnE ChnZ
/-- A row appended to an empty one of the call's own. -/
theorem append_all {ops : Array Oper} {rest : List Oper} {o : Oper} {a : Act} {Q : Exit → Act → World → Prop} (W : World) (hgd : o.guard = none) (s x : Operand)
    (ho : o.op = .call { callee := .builtin .append, args := #[s, x], argTypes := #[34, 34] }) (base B c m g off : Nat) (S : List Sd) (hS : S.length = m) (hs : a.eval s = .slice (some ⟨B, 0, none⟩) 0 0) (hB : W.heap[B]? = some (.cells #[] 44 (0, 0))) (hbB : base ≤ B)
    (hx : a.eval x = .slice (some ⟨g, off, none⟩) m c) (hcells : ∀ j u, (ss S)[j]? = some u → W.cell? ⟨g, off + j, none⟩ = some u) (hm : 0 < m) (hm2 : m ≤ 100000) (hb : base ≤ W.heap.size)
    (h : ∀ p' c' w', w'.ownsRow base 44 9 (.slice p' m c') m (ss S) → Below base W w' → wpList Tryd.prog ops Q rest (a.put o.dst (.slice p' m c')) w') :
    wpList Tryd.prog ops Q (o :: rest) a W := by
  obtain ⟨i0, hi, hz0, hz1, hz2⟩ := info_parts info_sd
  have hown : W.ownsRow base 44 9 (.slice (some ⟨B, 0, none⟩) 0 0) 0 [] := ⟨rfl, .inr ⟨B, 0, #[], rfl, hbB, hB, Nat.le_refl _, Nat.zero_le _, rfl, rfl⟩⟩
  refine wpList_append_own _ hgd s x 34 ho base 44 i0 (.agg #[.int .i64 0, .int .i64 0, .int .i64 0, .int .i64 0, .int .i64 0, .int .i64 0, .string ⟨#[]⟩, .string ⟨#[]⟩, .string ⟨#[]⟩]) 9 96 Tryd.underlying34 hi hz0 hz1 hz2 rfl (by decide) _ 0 [] hs hown ⟨g, off, none⟩ m c (ss S) hx (by rw [ss_len, hS]) (fun j u hj => by rw [add_off]; exact hcells j u hj) (fun u hu => ?_) (by unfold maxLen; omega) (by omega) hb ?_
  · unfold ss at hu
    obtain ⟨y, _, hy⟩ := List.mem_flatMap.1 hu
    exact sc_one y u hy
  intro v' w1 h1 hgrow _
  rw [Nat.zero_add, List.nil_append] at h1
  obtain ⟨k, rfl⟩ : ∃ k, m = k + 1 := ⟨m - 1, by omega⟩
  obtain ⟨p', c', rfl⟩ := ChnC.own_slice h1
  exact h p' c' w1 h1 (Below.grown (Below.refl _ W |>.mono hb) hgrow hb (fun k hk => by cases hk; exact hbB))
section
variable (root : List UInt8) (f : Int) (a : Option Addr) (n c : Nat) (l : List Sd) (i : Int) (tag : List UInt8) (w : World) (hl : Came w a n c l) (hr : Rds w) (few : fewB l = true) (ht : ¬ (1000 : Int) < (tag.length : Int))
include hl hr few ht
set_option maxRecDepth 100000 in
set_option maxHeartbeats 8000000 in
theorem no (ho : ¬ okR root f (recs l)) :
    Calls Tryd.prog 4 #[.string ⟨root.toArray⟩, .int .i64 f, .slice a n c, .int .i64 i, .string ⟨tag.toArray⟩] w fun e w' => e = .returned (.bool true) ∧ Below w.heap.size w w' := by
  obtain ⟨hn60, _⟩ := few_in few
  have hll := hl.1
  rw [hll] at hn60
  have HFew := Lib.hid (Few a n c l w hl.2.2.2.2 hl.1 hl.2.1 hl.2.2.2.1)
  rw [few] at HFew
  have HR := Lib.hid hr
  have HRec := Lib.hid (fun W (hb : Below w.heap.size w W) => ChnY.records a n c l W (hl.2.2.2.2.step hb) hll (by omega))
  have hrl : (recs l).length = n := by rw [recs_len, hll]
  have HSn := Lib.hid (fun p cp W (h : Lies W p (rr (recs l))) => Seal_no root f p n cp (recs l) W h hrl (by omega) ho)
  clear hl hr few ho hrl
  go_enter Tryd.func4, Tryd.ntmps4
  go_wp2_with (first
    | (go_at_call 13; refine HFew.out.mono ?_; rintro e w2 ⟨rfl, hb⟩; have B := Lib.hid hb; clear hb HFew)
    | (go_at_call 15; refine (HRec.out _ B.out).mono ?_; rintro e wr ⟨pr, cr, rfl, ho, hb⟩; have LR := Lib.hid (own_lies ho); replace B := Lib.hid (B.out.trans (hb.mono B.out.size)); clear ho hb)
    | (go_at_call 14; refine (HSn.out _ _ _ LR.out).mono ?_; rintro e ws ⟨z, hz, rfl, hb⟩; have hz2 : (z != 0) = true := (by rw [bne, hz]; rfl); replace B := Lib.hid (B.out.trans (hb.mono B.out.size)); clear hb hz)
    | (go_at_call 8; refine (ChnY.alive _ (HR.out.step B.out)).mono ?_; rintro e wa ⟨rfl, hb⟩; replace B := Lib.hid (B.out.trans (hb.mono B.out.size)); clear hb))
  go_ret
  exact ⟨rfl, B.out⟩
set_option maxRecDepth 100000 in
set_option maxHeartbeats 8000000 in
theorem out (ho : okR root f (recs l)) (hi : i < 0 ∨ (¬ i < 0 ∧ (n : Int) ≤ i)) :
    Calls Tryd.prog 4 #[.string ⟨root.toArray⟩, .int .i64 f, .slice a n c, .int .i64 i, .string ⟨tag.toArray⟩] w fun e w' => e = .returned (.bool true) ∧ Below w.heap.size w w' := by
  obtain ⟨hn60, _⟩ := few_in few
  have hll := hl.1
  rw [hll] at hn60
  have HFew := Lib.hid (Few a n c l w hl.2.2.2.2 hl.1 hl.2.1 hl.2.2.2.1)
  rw [few] at HFew
  have HR := Lib.hid hr
  have HRec := Lib.hid (fun W (hb : Below w.heap.size w W) => ChnY.records a n c l W (hl.2.2.2.2.step hb) hll (by omega))
  have hrl : (recs l).length = n := by rw [recs_len, hll]
  obtain ⟨S, hS⟩ : ∃ S, sealR root f [] (recs l) = S := ⟨_, rfl⟩
  have hSl : S.length = n := by rw [← hS, seal_len, hrl]; simp
  have hSr : recs S = recs l := by rw [← hS, recs_seal]
  have hSt : tagsOk root f S := by rw [← hS]; exact seal_ok root f _ [] (tagsOk_nil root f)
  have hoS : okR root f (recs S) := by rw [hSr]; exact ho
  have HSy := Lib.hid (fun p cp W (h : Lies W p (rr (recs l))) hr => Seal_yes root f p n cp (recs l) W h hrl (by omega) hr ho)
  rw [hS] at HSy
  have HCk := Lib.hid (fun p cp W (h : Lies W p (ss S)) hr => ChnV.Check root f p n cp S W h hSl (by omega) hr)
  rw [check_good hoS hSt, hSr, hSl] at HCk
  have HFo := Lib.hid (fun p cp W (h : Lies W p (rr (recs l))) => Follow f p n cp (recs l) W h hrl (by unfold maxLen; omega))
  rw [fol_ok ho.2.1 ho.2.2.1, hrl] at HFo
  have hqn : ((n : Int) != (n : Int)) = false := by simp
  have F1 : Hid True := Lib.hid trivial
  have F0 : Hid True := Lib.hid trivial
  clear hl hr few ho hrl hoS hSt hSr hS
  generalize opn f (recs l) = x at *
  have hqx : (x != x) = false := by simp
  go_enter Tryd.func4, Tryd.ntmps4
  rcases hi with hi | ⟨hi, hi2⟩
  all_goals
    go_wp2_with (first
      | (go_at_call 13; refine HFew.out.mono ?_; rintro e w2 ⟨rfl, hb⟩; have B := Lib.hid hb; clear hb HFew)
      | (clear F0; go_at_call 15; refine (HRec.out _ B.out).mono ?_; rintro e wr ⟨pr, cr, rfl, ho, hb⟩; have LR := Lib.hid (own_lies ho); replace B := Lib.hid (B.out.trans (hb.mono B.out.size)); clear ho hb)
      | (go_at_call 15; refine (HRec.out _ B.out).mono ?_; rintro e wr2 ⟨pr2, cr2, rfl, ho, hb⟩; have LR2 := Lib.hid (own_lies ho); have OS2 := Lib.hid (own_step OS1.out hb); replace B := Lib.hid (B.out.trans (hb.mono B.out.size)); clear ho hb)
      | (go_at_call 14; refine (HSy.out _ _ _ LR.out (HR.out.step B.out)).mono ?_; rintro e ws ⟨ps, cs, rfl, ho, hb⟩; have OS0 := Lib.hid (own_base ho B.out.size); replace B := Lib.hid (B.out.trans (hb.mono B.out.size)); clear ho hb)
      | (clear F1; go_at_call 16; refine (HCk.out _ _ _ (own_lies OS0.out) (HR.out.step B.out)).mono ?_; rintro e wc ⟨rfl, hb⟩; have OS1 := Lib.hid (own_step OS0.out hb); replace B := Lib.hid (B.out.trans (hb.mono B.out.size)); clear hb HCk)
      | (go_at_call 17; refine (HFo.out _ _ _ LR2.out).mono ?_; rintro e wf ⟨rfl, hb⟩; have OS3 := Lib.hid (own_step OS2.out hb); replace B := Lib.hid (B.out.trans (hb.mono B.out.size)); clear hb HFo)
      | (go_at_call 8; refine (ChnY.alive _ (HR.out.step B.out)).mono ?_; rintro e wa ⟨rfl, hb⟩; replace B := Lib.hid (B.out.trans (hb.mono B.out.size)); clear hb))
    go_ret
    exact ⟨rfl, B.out⟩
set_option maxRecDepth 100000 in
set_option maxHeartbeats 8000000 in
theorem same_ (ho : okR root f (recs l)) (j : Nat) (hj : j < n) (hq : ∀ h : j < (sealR root f [] (recs l)).length, tag = (sealR root f [] (recs l))[j].2) :
    Calls Tryd.prog 4 #[.string ⟨root.toArray⟩, .int .i64 f, .slice a n c, .int .i64 (j : Int), .string ⟨tag.toArray⟩] w fun e w' => e = .returned (.bool true) ∧ Below w.heap.size w w' := by
  obtain ⟨hn60, _⟩ := few_in few
  have hll := hl.1
  rw [hll] at hn60
  have HFew := Lib.hid (Few a n c l w hl.2.2.2.2 hl.1 hl.2.1 hl.2.2.2.1)
  rw [few] at HFew
  have HR := Lib.hid hr
  have HRec := Lib.hid (fun W (hb : Below w.heap.size w W) => ChnY.records a n c l W (hl.2.2.2.2.step hb) hll (by omega))
  have hrl : (recs l).length = n := by rw [recs_len, hll]
  obtain ⟨S, hS⟩ : ∃ S, sealR root f [] (recs l) = S := ⟨_, rfl⟩
  have hSl : S.length = n := by rw [← hS, seal_len, hrl]; simp
  have hSr : recs S = recs l := by rw [← hS, recs_seal]
  have hSt : tagsOk root f S := by rw [← hS]; exact seal_ok root f _ [] (tagsOk_nil root f)
  have hoS : okR root f (recs S) := by rw [hSr]; exact ho
  have HSy := Lib.hid (fun p cp W (h : Lies W p (rr (recs l))) hr => Seal_yes root f p n cp (recs l) W h hrl (by omega) hr ho)
  rw [hS] at HSy
  have HCk := Lib.hid (fun p cp W (h : Lies W p (ss S)) hr => ChnV.Check root f p n cp S W h hSl (by omega) hr)
  rw [check_good hoS hSt, hSr, hSl] at HCk
  have HFo := Lib.hid (fun p cp W (h : Lies W p (rr (recs l))) => Follow f p n cp (recs l) W h hrl (by unfold maxLen; omega))
  rw [fol_ok ho.2.1 ho.2.2.1, hrl] at HFo
  have hqn : ((n : Int) != (n : Int)) = false := by simp
  have F1 : Hid True := Lib.hid trivial
  have F0 : Hid True := Lib.hid trivial
  have hjS : j < S.length := by omega
  have hq2 : (tag == S[j].2) = true := by subst hS; rw [hq hjS]; simp
  have p0 : ¬ (j : Int) < 0 := by omega
  have p1 : ¬ (n : Int) ≤ (j : Int) := by omega
  have p2 : (j : Int) < (n : Int) := by omega
  have p3 : (0 : Int) ≤ (j : Int) := by omega
  clear hl hr few ho hrl hoS hSt hSr hS hq
  generalize opn f (recs l) = x at *
  have hqx : (x != x) = false := by simp
  go_enter Tryd.func4, Tryd.ntmps4
  go_wp2_with (first
    | (go_at_call 13; refine HFew.out.mono ?_; rintro e w2 ⟨rfl, hb⟩; have B := Lib.hid hb; clear hb HFew)
    | (clear F0; go_at_call 15; refine (HRec.out _ B.out).mono ?_; rintro e wr ⟨pr, cr, rfl, ho, hb⟩; have LR := Lib.hid (own_lies ho); replace B := Lib.hid (B.out.trans (hb.mono B.out.size)); clear ho hb)
    | (go_at_call 15; refine (HRec.out _ B.out).mono ?_; rintro e wr2 ⟨pr2, cr2, rfl, ho, hb⟩; have LR2 := Lib.hid (own_lies ho); have OS2 := Lib.hid (own_step OS1.out hb); replace B := Lib.hid (B.out.trans (hb.mono B.out.size)); clear ho hb)
    | (go_at_call 14; refine (HSy.out _ _ _ LR.out (HR.out.step B.out)).mono ?_; rintro e ws ⟨ps, cs, rfl, ho, hb⟩; obtain ⟨gs, os, rfl, _, _⟩ := own_lies ho (by rw [ss_len]; omega); have OS0 := Lib.hid (own_base ho B.out.size); replace B := Lib.hid (B.out.trans (hb.mono B.out.size)); clear ho hb)
    | (clear F1; go_at_call 16; refine (HCk.out _ _ _ (own_lies OS0.out) (HR.out.step B.out)).mono ?_; rintro e wc ⟨rfl, hb⟩; have OS1 := Lib.hid (own_step OS0.out hb); replace B := Lib.hid (B.out.trans (hb.mono B.out.size)); clear hb HCk)
    | (go_at_call 17; refine (HFo.out _ _ _ LR2.out).mono ?_; rintro e wf ⟨rfl, hb⟩; have OS3 := Lib.hid (own_step OS2.out hb); replace B := Lib.hid (B.out.trans (hb.mono B.out.size)); clear hb HFo; obtain ⟨_, _, e9, _, hc9⟩ := own_lies OS3.out (by rw [ss_len]; omega); cases e9; obtain ⟨_, _, _, _, _, _, _, _, t8⟩ := at9_of hc9 j hjS; clear hc9)
    | (go_at_call 8; refine (ChnY.alive _ (HR.out.step B.out)).mono ?_; rintro e wa ⟨rfl, hb⟩; replace B := Lib.hid (B.out.trans (hb.mono B.out.size)); clear hb))
  go_ret
  exact ⟨rfl, B.out⟩
set_option maxRecDepth 100000 in
set_option maxHeartbeats 8000000 in
theorem turned (ho : okR root f (recs l)) (j : Nat) (hj : j < n) (hq : ∀ h : j < (sealR root f [] (recs l)).length, tag ≠ (sealR root f [] (recs l))[j].2) :
    Calls Tryd.prog 4 #[.string ⟨root.toArray⟩, .int .i64 f, .slice a n c, .int .i64 (j : Int), .string ⟨tag.toArray⟩] w fun e w' => e = .returned (.bool true) ∧ Below w.heap.size w w' := by
  obtain ⟨hn60, _⟩ := few_in few
  have hll := hl.1
  rw [hll] at hn60
  have HFew := Lib.hid (Few a n c l w hl.2.2.2.2 hl.1 hl.2.1 hl.2.2.2.1)
  rw [few] at HFew
  have HR := Lib.hid hr
  have HRec := Lib.hid (fun W (hb : Below w.heap.size w W) => ChnY.records a n c l W (hl.2.2.2.2.step hb) hll (by omega))
  have hrl : (recs l).length = n := by rw [recs_len, hll]
  obtain ⟨S, hS⟩ : ∃ S, sealR root f [] (recs l) = S := ⟨_, rfl⟩
  have hSl : S.length = n := by rw [← hS, seal_len, hrl]; simp
  have hSr : recs S = recs l := by rw [← hS, recs_seal]
  have hSt : tagsOk root f S := by rw [← hS]; exact seal_ok root f _ [] (tagsOk_nil root f)
  have hoS : okR root f (recs S) := by rw [hSr]; exact ho
  have HSy := Lib.hid (fun p cp W (h : Lies W p (rr (recs l))) hr => Seal_yes root f p n cp (recs l) W h hrl (by omega) hr ho)
  rw [hS] at HSy
  have HCk := Lib.hid (fun p cp W (h : Lies W p (ss S)) hr => ChnV.Check root f p n cp S W h hSl (by omega) hr)
  rw [check_good hoS hSt, hSr, hSl] at HCk
  have HFo := Lib.hid (fun p cp W (h : Lies W p (rr (recs l))) => Follow f p n cp (recs l) W h hrl (by unfold maxLen; omega))
  rw [fol_ok ho.2.1 ho.2.2.1, hrl] at HFo
  have hqn : ((n : Int) != (n : Int)) = false := by simp
  have F1 : Hid True := Lib.hid trivial
  have F0 : Hid True := Lib.hid trivial
  have hjS : j < S.length := by omega
  have hne : tag ≠ S[j].2 := by subst hS; exact hq hjS
  have hq2 : (tag == S[j].2) = false := by rw [beq_eq_false_iff_ne]; exact hne
  have HCk2 := Lib.hid (fun p cp W (h : Lies W p (ss (S.set j (S[j].1, tag)))) hr => ChnV.Check root f p n cp (S.set j (S[j].1, tag)) W h (by rw [List.length_set]; exact hSl) (by omega) hr)
  rw [check_turned hoS hSt hjS hne] at HCk2
  have HCell := Lib.hid (fun (W : World) (gs os cs : Nat) (h : World.ownsRow W w.heap.size 44 9 (.slice (some ⟨gs, os, none⟩) n cs) n (ss S)) => (show ∀ j u, (ss S)[j]? = some u → W.cell? ⟨gs, os + j, none⟩ = some u from by
    obtain ⟨_, _, e9, _, hc9⟩ := own_lies h (by rw [ss_len]; omega)
    cases e9
    exact hc9))
  have p0 : ¬ (j : Int) < 0 := by omega
  have p1 : ¬ (n : Int) ≤ (j : Int) := by omega
  have p2 : (j : Int) < (n : Int) := by omega
  have p3 : (0 : Int) ≤ (j : Int) := by omega
  have p4 : ((j : Int) == (j : Int)) = true := by simp
  have hn0 : Hid (0 < n) := Lib.hid (by omega)
  have hn1 : Hid (n ≤ 100000) := Lib.hid (by omega)
  clear hl hr few ho hrl hoS hSt hSr hS hq hne
  generalize opn f (recs l) = x at *
  have hqx : (x != x) = false := by simp
  go_enter Tryd.func4, Tryd.ntmps4
  go_wp2_with (first
    | (go_at_call 13; refine HFew.out.mono ?_; rintro e w2 ⟨rfl, hb⟩; have B := Lib.hid hb; clear hb HFew)
    | (clear F0; go_at_call 15; refine (HRec.out _ B.out).mono ?_; rintro e wr ⟨pr, cr, rfl, ho, hb⟩; have LR := Lib.hid (own_lies ho); replace B := Lib.hid (B.out.trans (hb.mono B.out.size)); clear ho hb)
    | (go_at_call 15; refine (HRec.out _ B.out).mono ?_; rintro e wr2 ⟨pr2, cr2, rfl, ho, hb⟩; have LR2 := Lib.hid (own_lies ho); have OS2 := Lib.hid (own_step OS1.out hb); replace B := Lib.hid (B.out.trans (hb.mono B.out.size)); clear ho hb)
    | (go_at_call 14; refine (HSy.out _ _ _ LR.out (HR.out.step B.out)).mono ?_; rintro e ws ⟨ps, cs, rfl, ho, hb⟩; obtain ⟨gs, os, rfl, _, _⟩ := own_lies ho (by rw [ss_len]; omega); have OS0 := Lib.hid (own_base ho B.out.size); replace B := Lib.hid (B.out.trans (hb.mono B.out.size)); clear ho hb)
    | (clear F1; go_at_call 16; refine (HCk.out _ _ _ (own_lies OS0.out) (HR.out.step B.out)).mono ?_; rintro e wc ⟨rfl, hb⟩; have OS1 := Lib.hid (own_step OS0.out hb); replace B := Lib.hid (B.out.trans (hb.mono B.out.size)); clear hb HCk)
    | (go_at_call 17; refine (HFo.out _ _ _ LR2.out).mono ?_; rintro e wf ⟨rfl, hb⟩; have OS3 := Lib.hid (own_step OS2.out hb); replace B := Lib.hid (B.out.trans (hb.mono B.out.size)); clear hb HFo; have HCl := Lib.hid (HCell.out (wf.alloc (.cells #[] 44)) gs os cs (own_step OS3.out (below_new wf _))); have BA := Lib.hid (B.out.trans ((below_new wf (.cells #[] 44)).mono B.out.size)); have GN : Hid ((wf.alloc (.cells #[] 44)).heap[wf.heap.size]? = some (.cells #[] 44 (0, 0))) := Lib.hid (heap_alloc_new wf _); obtain ⟨_, _, e9, _, hc9⟩ := own_lies OS3.out (by rw [ss_len]; omega); cases e9; obtain ⟨_, _, _, _, _, _, _, _, t8⟩ := at9_of hc9 j hjS; clear hc9)
    | (at_builtin; refine append_all _ rfl _ _ rfl w.heap.size wf.heap.size cs n gs os S hSl rfl GN.out B.out.size rfl HCl.out hn0.out hn1.out BA.out.size ?_; intro pt ct wt ho hb; replace B := Lib.hid (BA.out.trans hb); clear hb; obtain ⟨gt, rfl, hgt, fz, ct0, hlt⟩ := own_turn ho hjS tag; have LT := Lib.hid hlt; have BT := Lib.hid (B.out.setCell (p := ⟨gt, j * 9 + 8, none⟩) hgt (.string ⟨tag.toArray⟩)); clear ho hlt)
    | (go_at_call 16; refine (HCk2.out _ _ _ LT.out (HR.out.step BT.out)).mono ?_; rintro e wd ⟨rfl, hb⟩; replace B := Lib.hid (BT.out.trans (hb.mono BT.out.size)); clear hb HCk2)
    | (go_at_call 8; refine (ChnY.alive _ (HR.out.step B.out)).mono ?_; rintro e wa ⟨rfl, hb⟩; replace B := Lib.hid (B.out.trans (hb.mono B.out.size)); clear hb))
  go_ret
  exact ⟨rfl, B.out⟩
end
end Go.Proofs.YtjcfgedldpnpjaaDoor.ChnB
