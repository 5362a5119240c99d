/- The chapter's example: the walk of its text. The condition: that the least and the most numbers, and the rounds' numbers, lie in the program's variables. -/
import Derived.Test.YtghljhohbhkdeaaDoorSupV
import Derived.Test.YtghljhohbhkdeaaDoorLRef
namespace Go.Proofs.YtghljhohbhkdeaaDoor.SupY
open Go.RowKit
open GeoN GeoC GeoS SupN SupC SupD SupP
theorem may_one : may ⟨1, 0, 0, 0, 8, 4, 0⟩ := by simp [may, right]
theorem not_good : ¬ good (List.replicate 4096 0) := by
  intro h
  have h1 := h.1.2.1.1
  have h2 : r0 (List.replicate 4096 0) = List.replicate 8 0 := by unfold r0; rw [List.drop_replicate, List.take_replicate]; rfl
  have h3 : (rd (List.replicate 4096 0)).g = num (r0 (List.replicate 4096 0)) := rfl
  rw [h3, h2, show num (List.replicate 8 (0 : UInt8)) = 0 from rfl] at h1
  simp at h1
theorem chosen : SupN.choose (List.replicate 4096 0) (blk ⟨1, 0, 0, 0, 8, 4, 0⟩) = (⟨1, 0, 0, 0, 8, 4, 0⟩, 1, 0) := by
  rw [choose_1 (by rw [take_blk may_one, take_no not_good]; simp [nil_]), take_blk may_one]
/-- What stands while the example runs. -/
structure Al (w : World) (X : Nat) (W : World) : Prop where
  bel : Below w.heap.size w W
  gl : Gl W
  k : Bk W X 1 0 0 0 8 4 0
theorem Al.step {w W W' : World} {X : Nat} (h : Al w X W) (hb : Below W.heap.size W W') : Al w X W' := ⟨h.bel.trans (hb.mono h.bel.size), h.gl.step hb, h.k.step hb⟩
set_option maxRecDepth 100000 in
theorem alive (w : World) (hg : Gl w) :
    Calls Tryd.prog 11 #[] w fun r w' => r = .returned (.bool true) ∧ Below w.heap.size w w' := by
  have HP := Lib.hid (fun W h => SupP.Put 1 0 0 0 8 4 0 W h)
  rw [SupN.put_yes may_one] at HP
  have HN := Lib.hid (fun W => RNou.noughts 4096 W (by omega))
  have HC := Lib.hid (fun W h => SupV.Choose (List.replicate 4096 0) (blk ⟨1, 0, 0, 0, 8, 4, 0⟩) W h)
  rw [chosen] at HC
  generalize List.replicate 4096 (0 : UInt8) = z at *
  generalize blk ⟨1, 0, 0, 0, 8, 4, 0⟩ = bk at *
  have heq := fun W => eql_self 1 0 0 0 8 4 0 W
  have hb0 : Below w.heap.size w (w.alloc (.cells #[.int .i64 0, .int .i64 0, .int .i64 0, .int .i64 0, .int .i64 0, .int .i64 0, .int .i64 0] 25)) := (Below.refl _ _).alloc (Nat.le_refl _) _
  go_enter Tryd.func11, Tryd.ntmps11
  go_upto_region 2 with (refine wpList_store_row rfl 25 _ _ rfl w.heap.size _ rfl rfl 25 _ (heap_alloc_new w _) infoS rfl (one7 1 0 0 0 8 4 0) ?_)
  generalize hW2 : World.setRow (World.alloc w _) _ _ = W2
  have AA : Hid (Al w w.heap.size W2) := Lib.hid (by
    rw [← hW2]
    exact ⟨kept_new _ _ _ _, hg.step (kept_new _ _ _ _), has_new _ _ _ _⟩)
  clear hW2 hb0 hg
  obtain ⟨k0, k1, k2, k3, k4, k5, k6⟩ := AA.out.k.cells
  go_upto_region 4 with (first
    | (go_at_call 7; refine (HP.out _ AA.out.gl).mono ?_; rintro r w3 ⟨rfl, hb3⟩; replace AA := Lib.hid (AA.out.step hb3); clear hb3 k0 k1 k2 k3 k4 k5 k6)
    | (go_at_call 25; refine (HN.out _).mono ?_; rintro r w4 ⟨rfl, hb4⟩; replace AA := Lib.hid (AA.out.step hb4); clear hb4)
    | (go_at_call 14; refine (HC.out _ AA.out.gl).mono ?_; rintro r w5 ⟨rfl, hb5⟩; replace AA := Lib.hid (AA.out.step hb5); clear hb5)
    | (refine wpList_store_row rfl 25 _ _ rfl w5.heap.size _ rfl rfl 25 _ (heap_alloc_new w5 _) infoS rfl (one7 1 0 0 0 8 4 0) ?_))
  generalize hW6 : World.setRow (World.alloc w5 _) _ _ = W6
  replace AA : Hid (Al w w.heap.size W6) := Lib.hid (by rw [← hW6]; exact AA.out.step (kept_new _ _ _ _))
  have KY : Hid (Bk W6 w5.heap.size 1 0 0 0 8 4 0) := Lib.hid (by rw [← hW6]; exact has_new _ _ _ _)
  clear hW6 HP HN HC
  generalize w5.heap.size = Y at *
  obtain ⟨k0, k1, k2, k3, k4, k5, k6⟩ := AA.out.k.cells
  obtain ⟨y0, y1, y2, y3, y4, y5, y6⟩ := KY.out.cells
  go_wp2_with fail
  go_ret
  exact ⟨rfl, AA.out.bel⟩
end Go.Proofs.YtghljhohbhkdeaaDoor.SupY
