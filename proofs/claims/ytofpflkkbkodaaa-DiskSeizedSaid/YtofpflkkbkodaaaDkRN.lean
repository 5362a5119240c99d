/- The document's disk: New: the walk of its text. No conditions but those that each lemma names. -/
import Derived.Test.YtofpflkkbkodaaaDkRC
import Derived.Test.YtofpflkkbkodaaaDkC
import Derived.Deep.RegionLaw
import Derived.Deep.AppendLies
namespace Go.Proofs.Ytofpflkkbkodaaa.DkRN
open Go.RowKit
open DkN DkM DkR DkNew DkC
theorem New_no (n : Int) (w : World) (h : n < 8 ∨ 1024 < n) : Calls Try.prog 11 #[.int .i64 n] w fun e w' => e = .returned (.pointer none) ∧ w = w' := by
  by_cases h0 : n < 8
  · clear h
    go_enter Try.func11, Try.ntmps11
    go_wp2
    go_ret
    exact ⟨rfl, rfl⟩
  · have h1 : 1024 < n := by omega
    clear h
    go_enter Try.func11, Try.ntmps11
    go_wp2
    go_ret
    exact ⟨rfl, rfl⟩
/-- The image's block, and the row that its first field owns. -/
structure Grow (w0 w : World) (X : Nat) (va : Option Addr) (vn vc : Nat) (z : ByteArray) (j : Nat) : Prop where
  blk : w.heap[X]? = some (.cells #[.slice va vn vc, .slice none 0 0] 39 (0, 0))
  own : w.ownsRow w0.heap.size 9 1 (.slice va vn vc) j ((List.replicate j z).map Value.string)
  below : Below w0.heap.size w0 w
theorem Grow.step {w0 w w' : World} {X : Nat} {va : Option Addr} {vn vc : Nat} {z : ByteArray} {j : Nat} (h : Grow w0 w X va vn vc z j) (hb : Below w.heap.size w w') : Grow w0 w' X va vn vc z j :=
  ⟨(hb.block X (Array.getElem?_eq_some_iff.1 h.blk).1).trans h.blk, own_kept h.own fun k e => hb.block k (h.own.lt k e).2, h.below.trans (hb.mono h.below.size)⟩
theorem Grow.drew {w0 w : World} {X : Nat} {va : Option Addr} {vn vc : Nat} {z : ByteArray} {j : Nat} (h : Grow w0 w X va vn vc z j) : Grow w0 w.drew X va vn vc z j := ⟨h.blk, h.own, h.below.drew⟩
theorem Grow.c0 {w0 w : World} {X : Nat} {va : Option Addr} {vn vc : Nat} {z : ByteArray} {j : Nat} (h : Grow w0 w X va vn vc z j) : w.cell? ⟨X, 0, none⟩ = some (.slice va vn vc) := blk_cell h.blk rfl
theorem Grow.free {w0 w : World} {X : Nat} {va : Option Addr} {vn vc : Nat} {z : ByteArray} {j : Nat} (h : Grow w0 w X va vn vc z j) : w.frozen? ⟨X, 0, none⟩ = false := blk_free h.blk
theorem Grow.ne {w0 w : World} {X : Nat} {va : Option Addr} {vn vc : Nat} {z : ByteArray} {j : Nat} (h : Grow w0 w X va vn vc z j) : (Value.slice va vn vc).ownBlock ≠ some X := by
  intro e
  rcases h.own.2 with ⟨hv, _⟩ | ⟨g, cap, cur, hv, _, hg, _⟩
  · rw [hv] at e; cases e
  · rw [hv] at e
    have e' : g = X := by simpa [Value.ownBlock] using e
    subst e'
    have := hg.symm.trans h.blk
    simp at this
/-- Behind the append and the store of the field. -/
theorem Grow.next {w0 w w2 : World} {X : Nat} {va : Option Addr} {vn vc : Nat} {z : ByteArray} {j : Nat} (h : Grow w0 w X va vn vc z j) (hX : w0.heap.size ≤ X) {a2 : Option Addr} {l2 c2 : Nat}
    (hown : w2.ownsRow w0.heap.size 9 1 (.slice a2 l2 c2) (j + 1) ((List.replicate j z).map Value.string ++ [.string z])) (hg : (w.alloc (.cells #[.string z] 9)).grownBy w2 (Value.slice va vn vc).ownBlock) :
    w2.cell? ⟨X, 0, none⟩ = some (.slice va vn vc) ∧ w2.frozen? ⟨X, 0, none⟩ = false ∧ Grow w0 (w2.setCell ⟨X, 0, none⟩ (.slice a2 l2 c2)) X a2 l2 c2 z (j + 1) := by
  have hlt := (Array.getElem?_eq_some_iff.1 h.blk).1
  have ha := World.grownBy_alloc w (.cells #[.string z] 9) none
  have hb2 : w2.heap[X]? = w.heap[X]? := (hg.block X (Nat.lt_of_lt_of_le hlt ha.size) (fun e => h.ne e.symm)).trans (ha.block X hlt (by simp))
  have hblk := hb2.trans h.blk
  refine ⟨blk_cell hblk rfl, blk_free hblk, ?_, ?_, ?_⟩
  · exact (blk_set hblk).trans rfl
  · rw [List.replicate_succ', List.map_append]
    refine own_kept (w := w2) hown fun k e => set_cell_block fun e' => ?_
    subst e'
    rcases hown.2 with ⟨hv, _⟩ | ⟨g, cap, cur, hv, _, hg', _⟩
    · rw [hv] at e; cases e
    · rw [hv] at e
      have e' : g = k := by simpa [Value.ownBlock] using e
      subst e'
      have := hg'.symm.trans hblk
      simp at this
  · refine Below.setCell ?_ (p := ⟨X, 0, none⟩) hX _
    refine ((h.below.alloc h.below.size (.cells #[.string z] 9))).grown hg (by have := h.below.size; simp; omega) fun k e => (h.own.lt k e).1
set_option maxRecDepth 100000 in
set_option maxHeartbeats 4000000 in
theorem New_loop (n : Nat) (w : World) (h1 : 8 ≤ n) (h2 : n ≤ 1024) (z : ByteArray) (hz : z = nou 4096) : Calls Try.prog 11 #[.int .i64 n] w fun e w' => ∃ b va vn vc, e = .returned (.pointer (some ⟨b, 0, none⟩)) ∧ Grow w w' w.heap.size va vn vc z n ∧ w'.heap[b]? = some (.cells #[.slice va vn vc, .slice none 0 0, .bool false, .int .i64 0] 68 (0, 0)) ∧ w.heap.size ≤ b := by
  have HNo : Hid (∀ W : World, Calls Try.prog 33 #[.int .i64 4096] W fun e w' => e = .returned (.string z) ∧ Below W.heap.size W w') := by
    rw [hz]; exact Lib.hid fun W => RNou.noughts 4096 W (by omega)
  clear hz
  obtain ⟨i0, hi, hz0, hz1, hz2⟩ := info_parts info9
  have h8 : ¬ (n : Int) < 8 := by omega
  have h9 : ¬ 1024 < (n : Int) := by omega
  go_enter Try.func11, Try.ntmps11
  go_wp2_with fail
  go_loopw [4] (fun i wr => ∃ j : Nat, j ≤ n ∧ i = .int .i64 j ∧ ∃ va vn vc, Grow w wr w.heap.size va vn vc z j) (fun i _ => n - (intOf i).toNat)
  case atStart => exact ⟨0, Nat.zero_le _, rfl, none, 0, 0, heap_alloc_new w _, World.ownsRow_nil _ _ _ _, (Below.refl _ _).alloc (Nat.le_refl _) _⟩
  case round =>
    obtain ⟨j, hj, rfl, va, vn, vc, hG⟩ := hrel
    by_cases hlt : j < n
    · have HG := Lib.hid hG
      have c0 := hG.c0
      have k0 := hG.drew.c0
      have f0 := hG.drew.free
      have HGD := Lib.hid hG.drew
      clear hG
      have hjn : (j : Int) < (n : Int) := by omega
      go_wp2_with fail
      go_region_law (first
        | (go_simp
           go_at_call 33
           refine (HNo.out _).mono ?_
           rintro e w1 ⟨rfl, hb1⟩
           have hG1 := HGD.out.step hb1
           have c1 := hG1.c0
           have c2 := (hG1.step ((Below.refl _ _).alloc (Nat.le_refl _) (.cells #[.string z] 9))).c0
           have HO := Lib.hid (hG1.own.alloc (.cells #[.string z] 9))
           have HNew := Lib.hid (World.news_of_block (cs := #[.string z]) (t := 9) (fr := (0, 0)) (heap_alloc_new w1 (.cells #[.string z] 9)))
           have HBas : Hid (w.heap.size ≤ (w1.alloc (.cells #[.string z] 9)).heap.size) := Lib.hid (by have := hG1.below.size; simp; omega)
           have HG1 := Lib.hid hG1
           clear hb1 hG1)
        | (refine step_append_lies _ (by rfl) _ _ _ (by rfl) w.heap.size 9 i0 (.string ⟨#[]⟩) 1 16 Try.underlying36 hi hz0 hz1 hz2 rfl (by omega) (.slice va vn vc) j _ (by rfl) HO.out ⟨w1.heap.size, 0, none⟩ 1 1 [.string z] (by rfl) (by rfl) HNew.out (by simp [Value.oneCell']) (by omega) (by unfold maxLen; omega) (by omega) HBas.out (w1.heap.size + 1) (by simp) ?_
           intro gg cap w2 hown2 hg2 hat hlt2
           obtain ⟨d0, d1, hG2⟩ := HG1.out.next (Nat.le_refl _) hown2 hg2
           have HG2 := Lib.hid hG2
           clear hown2 hg2 hat hlt2 hG2))
      all_goals
        (try go_simp)
        go_wp2_with fail
        go_roundw
        case rel => exact ⟨j + 1, by omega, by go_num, _, _, _, HG2.out⟩
        case measure => simp [intOf]; omega
    · obtain rfl : j = n := by omega
      have HG := Lib.hid hG
      have c0 := hG.c0
      have c1 : wr.cell? ⟨w.heap.size, 1, none⟩ = some (.slice none 0 0) := blk_cell hG.blk rfl
      have hs := hG.below.size
      clear hG
      go_wp2
      go_ret
      exact ⟨wr.heap.size, va, vn, vc, rfl, HG.out.step ((Below.refl _ _).alloc (Nat.le_refl _) _), heap_alloc_new _ _, hs⟩
/-- What New leaves. -/
theorem New_yes (n : Nat) (w : World) (h1 : 8 ≤ n) (h2 : n ≤ 1024) : Calls Try.prog 11 #[.int .i64 n] w fun e w' => ∃ b bv cv, e = .returned (.pointer (some ⟨b, 0, none⟩)) ∧ Fresh true (made n) w b bv cv w' := by
  refine (New_loop n w h1 h2 _ rfl).mono ?_
  rintro e w' ⟨b, va, vn, vc, rfl, hG, hb, hle⟩
  have hl : (made n).bl.length = n := List.length_replicate
  refine ⟨b, .slice va vn vc, .slice none 0 0, rfl, ⟨made_ok n h1 h2, hb, ?_, own_nil _⟩, hG.below, ?_⟩
  · rw [hl]
    exact own_base hG.own (Nat.zero_le _)
  · intro k hk
    rcases hk with rfl | hk | hk
    · exact hle
    · exact (hG.own.lt k hk).1
    · simp [Value.ownBlock] at hk
end Go.Proofs.Ytofpflkkbkodaaa.DkRN
