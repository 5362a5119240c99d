/- slices.Insert amid a row of versions that has no room: the walk of its text. No conditions but those that each lemma names. -/
import Derived.Test.YtnebbbloipdnbaaIdxT
namespace Go.Proofs.Ytnebbbloipdnbaa.IdxU
open Go.RowKit
open IdxN IdxM IdxC IdxD IdxH IdxI IdxK IdxT
set_option maxRecDepth 100000 in
set_option maxHeartbeats 1000000 in
theorem insert_grow (base g c i n S : Nat) (l : List V) (x : V) (w : World) (hnl : l.length = n) (hn : n ≤ 100000) (hi : i < n) (hc : n ≤ c) (hc1 : c < n + 1) (hb : base ≤ w.heap.size)
    (hgc : ∀ j u, (rc l)[j]? = some u → w.cell? ⟨g, j, none⟩ = some u) (hglt : g < w.heap.size) (hs : w.heap[S]? = some (.cells (vc x).toArray 27 (0, 0))) :
    Calls Try.prog 30 #[.slice (some ⟨g, 0, none⟩) n c, .int .i64 i, .slice (some ⟨S, 0, none⟩) 1 1] w (Insd base (.slice (some ⟨g, 0, none⟩) n c) (l.take i ++ x :: l.drop i) w) := by
  obtain ⟨i0, hi0, hz0, hz1, hzb⟩ := info_parts info_ver
  have hz2 : ¬ ((i : Int) = (n : Int)) := by omega
  have hz3 : (c : Int) < (n : Int) + 1 := by omega
  have hb5 : (i : Int) ≤ (n : Int) := by omega
  have hci : ¬ (c = i) := by omega
  have hll : i ≤ l.length := by omega
  have hold : (Builtin.firstCells i0.size i (.slice (some ⟨g, 0, none⟩) i c)).run Try.prog w.drew = .ok (rc (l.take i)).toArray w.drew := by
    rw [hz1]
    exact run_firstCells_some w.drew 3 i ⟨g, 0, none⟩ i c (rc (l.take i)) (by rw [rc_length, List.length_take]; omega) (fun j v hj => by
      rw [add_off, Nat.zero_add]
      rw [rc_take, List.getElem?_take] at hj
      split at hj
      · exact hgc j v hj
      · cases hj)
  obtain ⟨G, hG⟩ : ∃ G, G = grownCap w (n + 1) c 27 := ⟨_, rfl⟩
  obtain ⟨ROW, hROW⟩ : ∃ ROW : Array Value, ROW = (rc (l.take i)).toArray ++ Builtin.zeroCells (Value.agg #[.int .i64 0, .int .i64 0, .int .i64 0]).cells (n + 1 - i) ++ Builtin.zeroCells (Value.agg #[.int .i64 0, .int .i64 0, .int .i64 0]).cells (G - (n + 1)) := ⟨_, rfl⟩
  have hrz : ∀ ty, (Builtin.append_ #[49, 3] ty #[.slice (some ⟨g, 0, none⟩) i c, .int .i64 ((n : Int) + 1 - (i : Int))]).run Try.prog w = .ok (.slice (some ⟨w.heap.size, 0, none⟩) (n + 1) G) (w.drew.alloc (.cells ROW 27)) := fun ty => by
    have h := Lib.run_append_grow_zeros w 49 3 ty 27 i0 _ .i64 .i64 Try.underlying49 Try.underlying3 hi0 hz0 (some ⟨g, 0, none⟩) i c (rc (l.take i)) hold (n + 1 - i) (by omega) (by omega) (by omega) (by omega) (by rw [hzb]; omega) (growslice_fits (by omega) (by rw [hzb]; omega))
    have hik : i + (n + 1 - i) = n + 1 := by omega
    rw [hik, ← hG, ← hROW] at h
    rw [show (n : Int) + 1 - (i : Int) = ((n + 1 - i : Nat) : Int) by omega]
    exact h
  have hGn : n + 1 ≤ G := by rw [hG]; exact grownCap_ge w _ _ _
  have hGm : G ≤ maxLen := by rw [hG]; exact grownCap_le_maxLen w (n + 1) c 27 (by unfold maxLen; omega)
  have hGs : ROW.size = G * 3 := by
    rw [hROW]
    simp only [Array.size_append, List.size_toArray, size_zeroCells, rc_length, List.length_take]
    show min i l.length * 3 + (n + 1 - i) * 3 + (G - (n + 1)) * 3 = _
    omega
  have hRt : ROW.toList.take (i * 3) = rc (l.take i) := by
    rw [hROW, Array.toList_append, Array.toList_append, List.append_assoc, List.toList_toArray]
    exact List.take_left' (by rw [rc_length, List.length_take]; omega)
  clear hG hROW hold
  have hw1 : IntKind.i64.wrap ((i : Int) + 1) = (i : Int) + 1 := by rw [IntKind.wrap_i64]; omega
  have hb1 : (0 : Int) ≤ (i : Int) + 1 := by omega
  have hin : i ≤ n := by omega
  obtain ⟨B, hB⟩ : ∃ B, B = w.heap.size := ⟨_, rfl⟩
  have hg1 : (w.alloc (.cells ROW 27)).drew.heap[B]? = some (.cells ROW 27 (0, 0)) := by rw [hB]; exact heap_alloc_new w _
  have hs1 : (w.alloc (.cells ROW 27)).drew.heap[S]? = some (.cells (vc x).toArray 27 (0, 0)) := (heap_alloc_old w _ (lt_of hs)).trans hs
  have ho1 : ∀ k, k < B → (w.alloc (.cells ROW 27)).drew.heap[k]? = w.heap[k]? := fun k hk => heap_alloc_old w _ (by omega)
  have hgr1 : (w.alloc (.cells ROW 27)).drew.heap.size = w.heap.size + 1 ∧ (w.alloc (.cells ROW 27)).drew.os = w.os ∧ (w.alloc (.cells ROW 27)).drew.tape = w.tape ∧ (w.alloc (.cells ROW 27)).drew.output = w.output := ⟨by simp, rfl, rfl, rfl⟩
  have hrz' : ∀ ty, (Builtin.append_ #[49, 3] ty #[.slice (some ⟨g, 0, none⟩) i c, .int .i64 ((n : Int) + 1 - (i : Int))]).run Try.prog w = .ok (.slice (some ⟨B, 0, none⟩) (n + 1) G) (w.alloc (.cells ROW 27)).drew := by rw [hB]; exact hrz
  clear hrz
  obtain ⟨W1, hW1⟩ : ∃ W1, W1 = (w.alloc (.cells ROW 27)).drew := ⟨_, rfl⟩
  rw [← hW1] at hg1 hs1 ho1 hgr1 hrz'
  clear hW1
  have hRl : (l.length + 1) * 3 ≤ ROW.toList.length := by have : ROW.toList.length = G * 3 := by rw [Array.length_toList]; exact hGs
                                                          omega
  have hBS : S ≠ B := by have := lt_of hs; omega
  have hBg : g ≠ B := by omega
  have hGi : ¬ (G = i) := by omega
  have hGi1 : ¬ (G = i + 1) := by omega
  have hcpA : ∀ ty dc, (Builtin.copy_ #[49, 22] ty #[.slice (some ⟨B, i * 3, none⟩) (n + 1 - i) dc, .slice (some ⟨S, 0, none⟩) 1 1]).run Try.prog W1 = .ok (goInt (1 : Nat)) (W1.setRow B (ROW.toList.take (i * 3) ++ vc x ++ ROW.toList.drop (i * 3 + (vc x).length)).toArray) := fun ty dc =>
    run_copy_wide W1 _ _ ty 27 B (i * 3) (n + 1 - i) dc ⟨S, 0, none⟩ 1 1 1 3 ROW 27 (vc x) Try.underlying49 infoV hg1 (by simp only [Nat.min_def]; split <;> omega) rfl
      (fun j u hj => by rw [add_off, Nat.zero_add]; exact blk_cell hs1 (by rw [← Array.getElem?_toList]; exact hj)) (by rw [hGs]; show _ + 3 ≤ _; omega) (vc_one x)
  obtain ⟨cu1, hcu1⟩ : ∃ cu1, cu1 = ROW.toList.take (i * 3) ++ vc x ++ ROW.toList.drop (i * 3 + (vc x).length) := ⟨_, rfl⟩
  rw [← hcu1] at hcpA
  have e1 : (rc (l.drop i)).length = (n - i) * 3 := by rw [rc_length, List.length_drop, hnl]
  have hcl1 : cu1.length = G * 3 := by
    have : (vc x).length = 3 := rfl
    rw [hcu1]
    simp only [List.length_append, List.length_take, List.length_drop, this, Array.length_toList, hGs]
    omega
  obtain ⟨W2, hW2⟩ : ∃ W2, W2 = W1.setRow B cu1.toArray := ⟨_, rfl⟩
  rw [← hW2] at hcpA
  have hg2 : W2.heap[B]? = some (.cells cu1.toArray 27 (0, 0)) := by rw [hW2]; exact setRow_same hg1
  have hgc2 : ∀ j u, (rc l)[j]? = some u → W2.drew.cell? ⟨g, j, none⟩ = some u := fun j u hj => by
    refine (World.cell?_of_block (w := w) (w' := W2.drew) ?_).trans (hgc j u hj)
    show W2.heap[g]? = _
    rw [hW2, setRow_far hBg]
    exact ho1 g (by omega)
  have hfin : (cu1.take ((i + 1) * 3) ++ rc (l.drop i) ++ cu1.drop ((i + 1) * 3 + (rc (l.drop i)).length)) = fin ROW.toList i x l := by rw [hcu1]; exact fin_grow hll hRl
  have hcpB : ∀ ty dc sc, (Builtin.copy_ #[49, 49] ty #[.slice (some ⟨B, (i + 1) * 3, none⟩) (n + 1 - (i + 1)) dc, .slice (some ⟨g, i * 3, none⟩) (n - i) sc]).run Try.prog W2.drew = .ok (goInt (n - i : Nat)) (W2.drew.setRow B (fin ROW.toList i x l).toArray) := fun ty dc sc => by
    rw [← hfin]
    exact run_copy_wide W2.drew _ _ ty 27 B ((i + 1) * 3) (n + 1 - (i + 1)) dc ⟨g, i * 3, none⟩ (n - i) sc (n - i) 3 cu1.toArray 27 (rc (l.drop i)) Try.underlying49 infoV hg2 (by simp only [Nat.min_def]; split <;> omega) e1
      (fun j u hj => by rw [add_off]; rw [rc_drop, List.getElem?_drop] at hj; exact hgc2 _ _ hj) (by rw [e1, List.size_toArray, hcl1]; omega) (rc_one _)
  have HF : Hid (Insd base (.slice (some ⟨g, 0, none⟩) n c) (l.take i ++ x :: l.drop i) w (.returned (.slice (some ⟨B, 0, none⟩) (n + 1) G)) (W2.drew.setRow B (fin ROW.toList i x l).toArray)) := by
    have hlen : (l.take i ++ x :: l.drop i).length = n + 1 := by simp; omega
    refine ⟨_, rfl, ?_, ?_, .inr (by rw [← hB]; rfl)⟩
    · rw [hlen]
      refine ⟨by rw [rc_length, hlen], .inr ⟨B, G, (fin ROW.toList i x l).toArray, rfl, by omega, setRow_same (w := W2.drew) hg2, hGn, hGm, ?_, ?_⟩⟩
      · rw [List.size_toArray, fin_length hll hRl, Array.length_toList, hGs]
      · rw [List.toList_toArray, ← hnl]
        exact fin_take hll hRt
    · refine ⟨?_, ?_, ?_, ?_, fun k hk hne' => ?_⟩
      · rw [← hgr1.2.1, hW2]; rfl
      · rw [← hgr1.2.2.1, hW2]; rfl
      · rw [← hgr1.2.2.2, hW2]; rfl
      · have : W2.heap.size = W1.heap.size := by rw [hW2]; simp
        simp only [setRow_size]
        show w.heap.size ≤ W2.heap.size
        omega
      · have hkg : k ≠ B := by omega
        rw [setRow_far hkg]
        show W2.heap[k]? = _
        rw [hW2, setRow_far hkg]
        exact ho1 k (by omega)
  clear hgc hglt hs hg1 hs1 ho1 hgr1 hRl hcu1 hcl1 hg2 hgc2 hfin e1 hGs hRt hll hnl hW2 hi0 hz0 hz1 hzb hB hBS hBg
  generalize fin ROW.toList i x l = FF at *
  go_enter Try.func30, Try.ntmps30
  go_upto_region 11 with (first
    | (at_builtin; refine Lib.wpList_append_run _ rfl _ _ _ _ rfl _ _ rfl rfl _ _ (hrz' _) ?_)
    | (at_builtin; refine wpList_copy_eq _ rfl _ _ 49 22 rfl _ _ rfl rfl (hcpA _ _) ?_))
  go_region_law (refine step_copy_eq rfl _ _ 49 49 rfl (.slice (some ⟨B, (i + 1) * 3, none⟩) (n + 1 - (i + 1)) (G - (i + 1))) (.slice (some ⟨g, i * 3, none⟩) (n - i) (c - i)) (by simp [Act.eval, Act.put]) (by simp [Act.eval, Act.put]) (hcpB _ _ _) ?_)
  go_wp2
  go_ret
  exact HF.out
end Go.Proofs.Ytnebbbloipdnbaa.IdxU
