/- The statements' own calls for the program's package merkle: the chapter's example; whether hashes are gone through. No conditions but those that each lemma names. -/
import Derived.Test.YtfjlpialblllgaaDoorMerV
import Derived.Test.YtfjlpialblllgaaDoorSStrs
namespace Go.Proofs.YtfjlpialblllgaaDoor.MerZ
open Go.RowKit Go.Shelf STurn SSum MerG MerQ MerN MerM MerC MerR MerU MerV
theorem root3 (a b c : L) : MerN.root nd (sum []) [a, b, c] = nd (nd a b) c := rfl
theorem path3 (a b c : L) : pathN nd [a, b, c] 2 = [nd a b] := rfl
set_option maxRecDepth 100000 in
set_option maxHeartbeats 4000000 in
theorem alive (w : World) (hr : Rds w) : Calls Tryd.prog 9 #[] w fun e w' => e = .returned (.bool true) ∧ Below w.heap.size w w' := by
  obtain ⟨A, hA⟩ : ∃ A, sum [0, 97] = A := ⟨_, rfl⟩
  obtain ⟨B, hB⟩ : ∃ B, sum [0, 98] = B := ⟨_, rfl⟩
  obtain ⟨C, hC⟩ : ∃ C, sum [0, 99] = C := ⟨_, rfl⟩
  have lA : A.length = 32 := hA ▸ sum_length _
  have lB : B.length = 32 := hB ▸ sum_length _
  have lC : C.length = 32 := hC ▸ sum_length _
  have HR := Lib.hid (fun W (hb : Below w.heap.size w W) => hr.step hb)
  have HA := Lib.hid (fun W (hb : Below w.heap.size w W) => Leaf [97] (by simp) W (hr.step hb))
  have HB := Lib.hid (fun W (hb : Below w.heap.size w W) => Leaf [98] (by simp) W (hr.step hb))
  have HC := Lib.hid (fun W (hb : Below w.heap.size w W) => Leaf [99] (by simp) W (hr.step hb))
  rw [hA] at HA
  rw [hB] at HB
  rw [hC] at HC
  have hall : all32 [A, B, C] = true := by unfold all32; simp [lA, lB, lC]
  have hl3 : ∀ l ∈ [A, B, C], l.length ≤ 9223372036854775807 := fun l hl => by rw [all32_at hall l hl]; omega
  obtain ⟨D, hD⟩ : ∃ D, nd A B = D := ⟨_, rfl⟩
  obtain ⟨E, hE⟩ : ∃ E, nd D C = E := ⟨_, rfl⟩
  have lD : D.length = 32 := hD ▸ nd_length _ _
  have HS3 := Lib.hid (fun (V : World) => (show Strs (V.alloc (.cells #[str A, str B, str C] 9)) (V.alloc (.cells #[str A, str B, str C] 9)).heap.size (some ⟨V.heap.size, 0, none⟩) 3 [A, B, C] from
    ⟨rfl, fun _ => ⟨_, _, rfl, by simp, fun i hi => by
      refine blk_cell (heap_alloc_new V _) ?_
      match i, hi with
      | 0, _ => rfl
      | 1, _ => rfl
      | 2, _ => rfl⟩⟩))
  have HRo := Lib.hid (fun V (hb : Below w.heap.size w V) => Root (some ⟨V.heap.size, 0, none⟩) 3 3 [A, B, C] (V.alloc (.cells #[str A, str B, str C] 9)) (HS3.out V) (by omega) hl3 (hr.step (hb.alloc hb.size _)))
  have hpa : ∀ W e w', PathAns W [A, B, C] 2 e w' → PathOk W [D] e w' := fun W e w' h => by
    unfold PathAns at h
    rw [if_pos (by rw [hall]; rfl)] at h
    rw [← hD]
    exact h
  have HPa := Lib.hid (fun (G : Nat) W (hb : Below w.heap.size w W) (hs : Strs W W.heap.size (some ⟨G, 0, none⟩) 3 [A, B, C]) => show Calls Tryd.prog 11 #[.slice (some ⟨G, 0, none⟩) 3 3, .int .i64 2] W (PathOk W [D]) from (Path (some ⟨G, 0, none⟩) 3 [A, B, C] 2 W hs (by simp) hl3 (hr.step hb)).mono (hpa W))
  simp only [rootR, hall, if_true, root3, hD, hE] at HRo
  have HN1 := Lib.hid (fun W (hb : Below w.heap.size w W) => MerC.Node A B (by omega) (by omega) W (hr.step hb))
  have HN2 := Lib.hid (fun W (hb : Below w.heap.size w W) => MerC.Node D C (by omega) (by omega) W (hr.step hb))
  rw [hD] at HN1
  rw [hE] at HN2
  have B0 := Lib.hid (Below.refl w.heap.size w)
  have e1 : (D == D) = true := by simp
  have e2 : (E == E) = true := by simp
  clear hr hA hB hC hall hl3 hpa hD hE lA lB lC lD
  go_enter Tryd.func9, Tryd.ntmps9
  have F1 : Hid True := Lib.hid trivial
  have F2 : Hid True := Lib.hid trivial
  go_wp2_with (first
    | (clear F1; go_at_call 12; refine (HA.out _ B0.out).mono ?_; rintro e w1 ⟨rfl, hb1⟩; have B1 := Lib.hid (B0.out.trans (hb1.mono B0.out.size)); clear hb1)
    | (clear F2; go_at_call 12; refine (HB.out _ B1.out).mono ?_; rintro e w2 ⟨rfl, hb2⟩; have B2 := Lib.hid (B1.out.trans (hb2.mono B1.out.size)); clear hb2)
    | (go_at_call 12; refine (HC.out _ B2.out).mono ?_; rintro e w3 ⟨rfl, hb3⟩; have B3 := Lib.hid (B2.out.trans (hb3.mono B2.out.size)); clear hb3)
    | (go_at_call 10; refine (HRo.out _ B3.out).mono ?_; rintro e w5 ⟨rfl, hb5⟩; have B5 := Lib.hid ((B3.out.alloc B3.out.size _).trans (hb5.mono (Nat.le_trans B3.out.size (by simp)))); have HS5 := Lib.hid (((HS3.out _).below hb5).more hb5.size); clear hb5)
    | (go_at_call 11; refine (HPa.out _ _ B5.out HS5.out).mono ?_; rintro e w6 ⟨a6, c6, rfl, hs6, hb6⟩; have B6 := Lib.hid (B5.out.trans (hb6.mono B5.out.size)); have HS6 := Lib.hid hs6; have HT6 := Lib.hid ((HS5.out.below hb6).more hb6.size); clear hb6 hs6))
  obtain ⟨G, hG⟩ : ∃ G, w3.heap.size = G := ⟨_, rfl⟩
  rw [hG] at HT6 HS5 ⊢
  clear hG HS5
  obtain ⟨P, o, rfl, hP, hcP⟩ := HS6.out.2 (by simp)
  obtain ⟨_, _, hGe, hGl, hcG⟩ := HT6.out.2 (by omega)
  cases hGe
  have HCel := Lib.hid (fun W (hb : Below w6.heap.size w6 W) => (⟨(hb.cell (p := ⟨G, 0, none⟩) hGl).trans (hcG 0 (by omega)), (hb.cell (p := ⟨G, 1, none⟩) hGl).trans (hcG 1 (by omega)), (hb.cell (p := ⟨G, 2, none⟩) hGl).trans (hcG 2 (by omega)), (hb.cell (p := ⟨P, o, none⟩) hP).trans (hcP 0 (by simp))⟩ :
    W.cell? ⟨G, 0, none⟩ = some (str A) ∧ W.cell? ⟨G, 1, none⟩ = some (str B) ∧ W.cell? ⟨G, 2, none⟩ = some (str C) ∧ W.cell? ⟨P, o, none⟩ = some (str D)))
  have C0 := Lib.hid (Below.refl w6.heap.size w6).drew
  have hS0 := HCel.out _ C0.out
  clear hcP hcG hP hGl HS6 HT6
  have F1 : Hid True := Lib.hid trivial
  have F2 : Hid True := Lib.hid trivial
  go_region_held3 (fun w' => w'.cell? ⟨G, 0, none⟩ = some (str A) ∧ w'.cell? ⟨G, 1, none⟩ = some (str B) ∧ w'.cell? ⟨G, 2, none⟩ = some (str C) ∧ w'.cell? ⟨P, o, none⟩ = some (str D))
    (first | exact hS0 | exact hS1 | exact hS2 | exact hS3)
    (first
      | (clear F1; go_at_call 14; refine (HN1.out _ (B6.out.trans (C0.out.mono B6.out.size))).mono ?_; rintro e v1 ⟨rfl, hb1⟩; have C1 := Lib.hid (C0.out.trans (hb1.mono C0.out.size)); have hS1 := HCel.out _ C1.out; clear hb1)
      | (clear F2; go_at_call 14; refine (HN2.out _ (B6.out.trans (C1.out.mono B6.out.size))).mono ?_; rintro e v2 ⟨rfl, hb2⟩; have C2 := Lib.hid (C1.out.trans (hb2.mono C1.out.size)); have hS2 := HCel.out _ C2.out; clear hb2)
      | (go_at_call 14; refine (HN1.out _ (B6.out.trans (C2.out.mono B6.out.size))).mono ?_; rintro e v3 ⟨rfl, hb3⟩; have C3 := Lib.hid (C2.out.trans (hb3.mono C2.out.size)); have hS3 := HCel.out _ C3.out; clear hb3))
  go_wp2
  go_ret
  exact ⟨rfl, B6.out.trans (C3.out.mono B6.out.size)⟩
/-- Are hashes gone through? -/
def fewB (ls : List L) : Bool := decide (ls.length ≤ 70) && decide (bsum ls ≤ 5000)
theorem few (a : Option Addr) (n c : Nat) (ls : List L) (w : World) (h : Strs w w.heap.size a n ls) (hn : n ≤ 9223372036854775807) :
    Calls Tryd.prog 8 #[.slice a n c] w fun e w' => e = .returned (.bool (fewB ls)) ∧ w = w' := by
  unfold fewB
  rw [h.1]
  by_cases h70 : n ≤ 70
  · have HB := Lib.hid (bytes_any a n c ls w h (by omega))
    have q1 : (n : Int) ≤ 70 := by omega
    rw [decide_eq_true h70, Bool.true_and]
    by_cases hb : bsum ls ≤ 5000
    · rw [decide_eq_true hb]
      have q2 : ((bsum ls : Nat) : Int) ≤ 5000 := by omega
      clear h hb h70
      go_enter Tryd.func8, Tryd.ntmps8
      go_wp2_with (go_at_call 24; refine HB.out.mono ?_; rintro e w' ⟨rfl, rfl⟩)
      go_ret
      exact ⟨rfl, rfl⟩
    · rw [decide_eq_false hb]
      have q2 : decide (((bsum ls : Nat) : Int) ≤ 5000) = false := decide_eq_false (by omega)
      clear h hb h70
      go_enter Tryd.func8, Tryd.ntmps8
      go_wp2_with (go_at_call 24; refine HB.out.mono ?_; rintro e w' ⟨rfl, rfl⟩)
      go_ret
      exact ⟨rfl, rfl⟩
  · have q1 : ¬ (n : Int) ≤ 70 := by omega
    rw [decide_eq_false h70, Bool.false_and]
    clear h h70
    go_enter Tryd.func8, Tryd.ntmps8
    go_wp2
    go_ret
    exact ⟨rfl, rfl⟩
theorem few_len {ls : List L} (h : fewB ls = true) : ls.length ≤ 70 := by
  unfold fewB at h
  rw [Bool.and_eq_true, decide_eq_true_eq] at h
  exact h.1
end Go.Proofs.YtfjlpialblllgaaDoor.MerZ
