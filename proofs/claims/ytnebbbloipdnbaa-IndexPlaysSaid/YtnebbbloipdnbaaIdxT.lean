/- slices.Insert amid a row of versions: the walks of its text. No conditions but those that each lemma names. -/
import Derived.Test.YtnebbbloipdnbaaIdxK
namespace Go.Proofs.Ytnebbbloipdnbaa.IdxT
open Go.RowKit
open IdxN IdxM IdxC IdxD IdxH IdxI IdxK
theorem sizeV (w : World) : (sizeOf 27).run Try.prog w = .ok 3 w := by
  obtain ⟨i0, hi, hz0, hz1, hz2⟩ := info_parts info_ver
  simp [sizeOf, typeInfo, hi, hz1]
theorem apart (w : World) (g S o1 o2 la ca lb cb : Nat) (cg cs : Array Value) (tg ts : TypeId) (hg : w.heap[g]? = some (.cells cg tg (0, 0))) (hs : w.heap[S]? = some (.cells cs ts (0, 0))) (hn : cg.size ≠ 0) (hne : S ≠ g) :
    (callFunc 42 #[.slice (some ⟨S, o1, none⟩) la ca, .slice (some ⟨g, o2, none⟩) lb cb]).run Try.prog w = .ok (.value (.bool false)) w := by
  rw [run_callFunc_extern Try.func42 (by kernel_rfl) (by kernel_rfl) (by kernel_rfl) (e := Extern.SlicesOverlaps.overlaps #[22, 22] #[4]) (by kernel_rfl),
    Lib.run_overlaps_apart w 22 4 27 Try.underlying22 3 sizeV ⟨S, o1, none⟩ ⟨g, o2, none⟩ la ca lb cb hne ts tg cs.size cg.size (by simp [World.shape?, hs]) (by simp [World.shape?, hg]) hn (blk_free hs) (blk_free hs)]
  rfl
set_option maxRecDepth 100000 in
set_option maxHeartbeats 1000000 in
theorem insert_shift (base g c i n S : Nat) (l : List V) (x : V) (w : World) (cur : Array Value) (hnl : l.length = n) (hn : n ≤ 100000) (hi : i < n) (hc : n + 1 ≤ c) (hc2 : c ≤ maxLen) (hcur : cur.size = c * 3) (ht : cur.toList.take (n * 3) = rc l) (hbg : base ≤ g)
    (hg : w.heap[g]? = some (.cells cur 27 (0, 0))) (hs : w.heap[S]? = some (.cells (vc x).toArray 27 (0, 0))) (hne : S ≠ g) :
    Calls Try.prog 30 #[.slice (some ⟨g, 0, none⟩) n c, .int .i64 i, .slice (some ⟨S, 0, none⟩) 1 1] w (Insd base (.slice (some ⟨g, 0, none⟩) n c) (l.take i ++ x :: l.drop i) w) := by
  have hov := fun o1 o2 la ca lb cb => apart w g S o1 o2 la ca lb cb cur (vc x).toArray 27 27 hg hs (by omega) hne
  have hz2 : ¬ ((i : Int) = (n : Int)) := by omega
  have hw1 : IntKind.i64.wrap ((i : Int) + 1) = (i : Int) + 1 := by rw [IntKind.wrap_i64]; omega
  have hb2 : ¬ (c = i + 1) := by omega
  have hb4 : ¬ (c = i) := by omega
  have hb3 : (i : Int) ≤ (n : Int) + 1 := by omega
  have hb1 : (0 : Int) ≤ (i : Int) + 1 := by omega
  have hb5 : (i : Int) ≤ (n : Int) := by omega
  have hin : i ≤ n := by omega
  have hll : i ≤ l.length := by omega
  have e1 : (rc (l.drop i)).length = (n - i) * 3 := by rw [rc_length, List.length_drop, hnl]
  have hc3 : cur.toList.length = c * 3 := by rw [Array.length_toList]; exact hcur
  have hlc : (l.length + 1) * 3 ≤ cur.toList.length := by omega
  have hcells : ∀ j u, (rc l)[j]? = some u → w.drew.cell? ⟨g, j, none⟩ = some u := fun j u hj => by
    have hg' : w.drew.heap[g]? = some (.cells cur 27 (0, 0)) := hg
    refine blk_cell hg' ?_
    rw [← ht, List.getElem?_take] at hj
    split at hj
    · rw [← Array.getElem?_toList]; exact hj
    · cases hj
  have hcp1 : ∀ ty dc sc, (Builtin.copy_ #[49, 49] ty #[.slice (some ⟨g, (i + 1) * 3, none⟩) (n + 1 - (i + 1)) dc, .slice (some ⟨g, i * 3, none⟩) (n + 1 - i) sc]).run Try.prog w.drew = .ok (goInt (n - i : Nat)) (w.drew.setRow g (cur.toList.take ((i + 1) * 3) ++ rc (l.drop i) ++ cur.toList.drop ((i + 1) * 3 + (rc (l.drop i)).length)).toArray) := fun ty dc sc =>
    run_copy_wide w.drew _ _ ty 27 g ((i + 1) * 3) (n + 1 - (i + 1)) dc ⟨g, i * 3, none⟩ (n + 1 - i) sc (n - i) 3 cur 27 (rc (l.drop i)) Try.underlying49 infoV hg (by simp only [Nat.min_def]; split <;> omega) e1
      (fun j u hj => by rw [add_off]; rw [rc_drop, List.getElem?_drop] at hj; exact hcells _ _ hj) (by rw [e1, hcur]; omega) (rc_one _)
  obtain ⟨cu1, hcu1⟩ : ∃ cu1, cu1 = cur.toList.take ((i + 1) * 3) ++ rc (l.drop i) ++ cur.toList.drop ((i + 1) * 3 + (rc (l.drop i)).length) := ⟨_, rfl⟩
  rw [← hcu1] at hcp1
  have hcl1 : cu1.length = c * 3 := by
    rw [hcu1]
    simp only [List.length_append, List.length_take, List.length_drop, e1, Array.length_toList, hcur]
    omega
  obtain ⟨W1, hW1⟩ : ∃ W1, W1 = w.drew.setRow g cu1.toArray := ⟨_, rfl⟩
  rw [← hW1] at hcp1
  have hg1 : W1.heap[g]? = some (.cells cu1.toArray 27 (0, 0)) := by rw [hW1]; exact setRow_same (w := w.drew) hg
  have hs1 : W1.heap[S]? = some (.cells (vc x).toArray 27 (0, 0)) := by rw [hW1, setRow_far hne]; exact hs
  have hfin : (cu1.take (i * 3) ++ vc x ++ cu1.drop (i * 3 + (vc x).length)) = fin cur.toList i x l := by rw [hcu1]; exact fin_shift hll hlc
  have hcp2 : ∀ ty dc, (Builtin.copy_ #[49, 22] ty #[.slice (some ⟨g, i * 3, none⟩) (n + 1 - i) dc, .slice (some ⟨S, 0, none⟩) 1 1]).run Try.prog W1 = .ok (goInt (1 : Nat)) (W1.setRow g (fin cur.toList i x l).toArray) := fun ty dc => by
    rw [← hfin]
    exact run_copy_wide W1 _ _ ty 27 g (i * 3) (n + 1 - i) dc ⟨S, 0, none⟩ 1 1 1 3 cu1.toArray 27 (vc x) Try.underlying49 infoV hg1 (by simp only [Nat.min_def]; split <;> omega) rfl
      (fun j u hj => by rw [add_off, Nat.zero_add]; exact blk_cell hs1 (by rw [← Array.getElem?_toList]; exact hj)) (by rw [List.size_toArray, hcl1]; show _ + 3 ≤ _; omega) (vc_one x)
  have HF : Hid (Insd base (.slice (some ⟨g, 0, none⟩) n c) (l.take i ++ x :: l.drop i) w (.returned (.slice (some ⟨g, 0, none⟩) (n + 1) c)) (W1.setRow g (fin cur.toList i x l).toArray)) := by
    have hlen : (l.take i ++ x :: l.drop i).length = n + 1 := by simp; omega
    refine ⟨_, rfl, ?_, ?_, .inl rfl⟩
    · rw [hlen]
      refine ⟨by rw [rc_length, hlen], .inr ⟨g, c, (fin cur.toList i x l).toArray, rfl, hbg, setRow_same hg1, hc, hc2, ?_, ?_⟩⟩
      · rw [List.size_toArray, fin_length hll hlc, Array.length_toList, hcur]
      · rw [List.toList_toArray, ← hnl]
        refine fin_take hll ?_
        rw [rc_take, ← ht, List.take_take, Nat.min_eq_left (by omega)]
    · refine ⟨?_, ?_, ?_, ?_, fun k hk hne' => ?_⟩
      · rw [hW1]; rfl
      · rw [hW1]; rfl
      · rw [hW1]; rfl
      · rw [hW1]; simp
      · have hkg : k ≠ g := fun e => hne' (by rw [e]; rfl)
        rw [setRow_far hkg, hW1, setRow_far hkg]
        rfl
  clear hc3 hcells hg hs hg1 hs1 hfin hcu1 hcl1 hlc e1 hll hcur ht hnl hW1
  generalize fin cur.toList i x l = FF at *
  go_enter Try.func30, Try.ntmps30
  go_upto_region 15 with (simp only [hov])
  go_region_law (refine step_copy_eq rfl _ _ 49 49 rfl (.slice (some ⟨g, (i + 1) * 3, none⟩) (n + 1 - (i + 1)) (c - (i + 1))) (.slice (some ⟨g, i * 3, none⟩) (n + 1 - i) (c - i)) (by simp [Act.eval, Act.put]) (by simp [Act.eval, Act.put]) (hcp1 _ _ _) ?_)
  go_wp2_with (at_builtin; refine wpList_copy_eq _ rfl _ _ 49 22 rfl _ _ rfl rfl (hcp2 _ _) ?_)
  go_ret
  exact HF.out
end Go.Proofs.Ytnebbbloipdnbaa.IdxT
