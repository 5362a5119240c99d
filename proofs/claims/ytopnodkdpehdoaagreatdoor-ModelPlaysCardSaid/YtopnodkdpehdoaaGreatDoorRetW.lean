/- New, Replay, the calls of a book that is none, and the chapter's example: the walks of their texts. No conditions but those that each lemma names. -/
import Derived.Test.YtopnodkdpehdoaaGreatDoorLRea
import Derived.Test.YtopnodkdpehdoaaGreatDoorRetR
import Derived.Test.YtopnodkdpehdoaaGreatDoorLRef
namespace Go.Proofs.YtopnodkdpehdoaaGreatDoor.RetW
set_option linter.unusedVariables false
open Go.RowKit Go.Maps
open RecN RecC RetN RetC RetH RetP RetB RetR
open CloC (Ck)
/-- A book just made. -/
theorem made_new (f : Int) (K : Nat) (w : World) (h : Ck w K 0 true 0) :
    Book ⟨w.heap.size + 1 + 1 + 1 + 1, w.heap.size + 1 + 1 + 1, K, w.heap.size, w.heap.size + 1, w.heap.size + 1 + 1⟩ (new f)
      (((((w.alloc (.map #[] 0)).alloc (.map #[] 0)).alloc (.map #[] 0)).alloc (.cells #[.pointer (some ⟨K, 0, none⟩), .int .i64 f, .int .i64 f, .map (some w.heap.size), .map (some (w.heap.size + 1)), .map (some (w.heap.size + 1 + 1))] 104)).alloc (.cells #[.pointer (some ⟨w.heap.size + 1 + 1 + 1, 0, none⟩)] 106)) ∧
    Below w.heap.size w (((((w.alloc (.map #[] 0)).alloc (.map #[] 0)).alloc (.map #[] 0)).alloc (.cells #[.pointer (some ⟨K, 0, none⟩), .int .i64 f, .int .i64 f, .map (some w.heap.size), .map (some (w.heap.size + 1)), .map (some (w.heap.size + 1 + 1))] 104)).alloc (.cells #[.pointer (some ⟨w.heap.size + 1 + 1 + 1, 0, none⟩)] 106)) := by
  have hlt := h.lt
  obtain ⟨W1, e1⟩ : ∃ W, W = w.alloc (.map #[] 0) := ⟨_, rfl⟩
  obtain ⟨W2, e2⟩ : ∃ W, W = W1.alloc (.map #[] 0) := ⟨_, rfl⟩
  obtain ⟨W3, e3⟩ : ∃ W, W = W2.alloc (.map #[] 0) := ⟨_, rfl⟩
  obtain ⟨W4, e4⟩ : ∃ W, W = W3.alloc (.cells #[.pointer (some ⟨K, 0, none⟩), .int .i64 f, .int .i64 f, .map (some w.heap.size), .map (some (w.heap.size + 1)), .map (some (w.heap.size + 1 + 1))] 104) := ⟨_, rfl⟩
  obtain ⟨W5, e5⟩ : ∃ W, W = W4.alloc (.cells #[.pointer (some ⟨w.heap.size + 1 + 1 + 1, 0, none⟩)] 106) := ⟨_, rfl⟩
  rw [← e1, ← e2, ← e3, ← e4, ← e5]
  have s1 : W1.heap.size = w.heap.size + 1 := by rw [e1]; simp
  have s2 : W2.heap.size = w.heap.size + 1 + 1 := by rw [e2, ← s1]; simp
  have s3 : W3.heap.size = w.heap.size + 1 + 1 + 1 := by rw [e3, ← s2]; simp
  have s4 : W4.heap.size = w.heap.size + 1 + 1 + 1 + 1 := by rw [e4, ← s3]; simp
  have b1 : Below w.heap.size w W1 := by rw [e1]; exact below_new _ _
  have b2 : Below W1.heap.size W1 W2 := by rw [e2]; exact below_new _ _
  have b3 : Below W2.heap.size W2 W3 := by rw [e3]; exact below_new _ _
  have b4 : Below W3.heap.size W3 W4 := by rw [e4]; exact below_new _ _
  have b5 : Below W4.heap.size W4 W5 := by rw [e5]; exact below_new _ _
  have m1 : Mi W1 w.heap.size (fun _ => 0) := by rw [e1]; exact mi_new w
  have m2 : Mh W2 (w.heap.size + 1) [] := by rw [e2, ← s1]; exact mh_new W1
  have m3 : Mu W3 (w.heap.size + 1 + 1) (fun _ => false) := by rw [e3, ← s2]; exact mu_new W2
  have h4 : W4.heap[w.heap.size + 1 + 1 + 1]? = some (.cells #[.pointer (some ⟨K, 0, none⟩), .int .i64 f, .int .i64 f, .map (some w.heap.size), .map (some (w.heap.size + 1)), .map (some (w.heap.size + 1 + 1))] 104 (0, 0)) := by rw [e4, ← s3]; exact heap_alloc_new W3 _
  have h5 : W5.heap[w.heap.size + 1 + 1 + 1 + 1]? = some (.cells #[.pointer (some ⟨w.heap.size + 1 + 1 + 1, 0, none⟩)] 106 (0, 0)) := by rw [e5, ← s4]; exact heap_alloc_new W4 _
  have c1 := h.step b1
  have c2 := c1.step b2
  have c3 := c2.step b3
  have c4 := c3.step b4
  have c5 := c4.step b5
  have u5 : Mi W5 w.heap.size (fun _ => 0) := m1.block ((b5.block _ (by omega)).trans ((b4.block _ (by omega)).trans ((b3.block _ (by omega)).trans (b2.block _ (by omega)))))
  have v5 : Mh W5 (w.heap.size + 1) [] := m2.block ((b5.block _ (by omega)).trans ((b4.block _ (by omega)).trans (b3.block _ (by omega))))
  have g5 : Mu W5 (w.heap.size + 1 + 1) (fun _ => false) := m3.block ((b5.block _ (by omega)).trans (b4.block _ (by omega)))
  have h45 := (b5.block (w.heap.size + 1 + 1 + 1) (by omega)).trans h4
  refine ⟨⟨h5, ⟨h45, c5, u5, v5, g5, ?_⟩, ?_⟩, ?_⟩
  · dsimp only; omega
  · dsimp only; omega
  · exact (((b1.trans (b2.mono (by omega))).trans (b3.mono (by omega))).trans (b4.mono (by omega))).trans (b5.mono (by omega))
/-- A book of the call's own. -/
def Made (w : World) (s : St) (A : Pl) (w' : World) : Prop := A.from_ w.heap.size ∧ Book A s w' ∧ Below w.heap.size w w'
set_option maxRecDepth 100000 in
theorem New_no (f : Int) (w : World) (h : f < 0 ∨ 4294967295 < f) : Calls Tryz.prog 24 #[.int .i64 f] w fun e w' => e = .returned (.tuple #[.pointer none, .int .i64 2]) ∧ w = w' := by
  by_cases h0 : f < 0
  · clear h
    go_enter Tryz.func24, Tryz.ntmps24
    go_wp2
    go_ret2
    exact ⟨rfl, rfl⟩
  · have h1 : 4294967295 < f := by omega
    clear h
    go_enter Tryz.func24, Tryz.ntmps24
    go_wp2
    go_ret2
    exact ⟨rfl, rfl⟩
set_option maxRecDepth 100000 in
set_option maxHeartbeats 1000000 in
theorem New_yes (f : Int) (w : World) (h0 : 0 ≤ f) (h1 : f ≤ 4294967295) : Calls Tryz.prog 24 #[.int .i64 f] w fun e w' => ∃ A, e = .returned (.tuple #[.pointer (some ⟨A.b, 0, none⟩), .int .i64 0]) ∧ Made w (new f) A w' := by
  have HC := Lib.hid (CloM.New_yes 0 w (by decide) (by decide))
  have hmm := @run_makeMap Tryz.prog
  go_enter Tryz.func24, Tryz.ntmps24
  go_wp2_with (go_at_call 23; refine HC.out.mono ?_; rintro e w2 ⟨K, hK, rfl, hk, hb⟩; have KK := Lib.hid hk; have BB := Lib.hid hb; clear hk hb)
  go_ret2
  have hm := made_new f K w2 KK.out
  have hs := BB.out.size
  refine ⟨⟨w2.heap.size + 1 + 1 + 1 + 1, w2.heap.size + 1 + 1 + 1, K, w2.heap.size, w2.heap.size + 1, w2.heap.size + 1 + 1⟩, rfl, ?_, hm.1, BB.out.trans (hm.2.mono hs)⟩
  unfold Pl.from_
  dsimp only
  omega
end Go.Proofs.YtopnodkdpehdoaaGreatDoor.RetW
