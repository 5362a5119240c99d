/- SuperLater's text: the ways in which nothing is asked. The condition: the least and the most numbers, and the rounds' numbers, lie in the program's variables. -/
import Derived.Test.YtghljhohbhkdeaaDoorSupK
namespace Go.Proofs.YtghljhohbhkdeaaDoor.SLr
open Go.RowKit
open GeoN GeoC GeoS SupN SupC SupP SupK
theorem keep {w W W' : World} {g t e k b l f : Int} (h : Lw w g t e k b l f W) (hg : Gl w) (hb : Below (w.heap.size + 1) W W') : Lw w g t e k b l f W' :=
  have hB : Below w.heap.size w W' := h.bel.trans (hb.mono (by omega))
  ⟨hB, Gl.below hg hB (Gl.lt hg).1 (Gl.lt hg).2.1 (Gl.lt hg).2.2, (hb.block _ (by omega)).trans h.k⟩
theorem row_below {W : World} {C B : Nat} (h : B ≤ C) (cs : Array Value) : Below B W (W.setRow C cs) := below_setRow (Below.refl _ _) h _
theorem far {W : World} {C X : Nat} {g t e k b l f : Int} (h : Bk W X g t e k b l f) (hn : X ≠ C) (cs : Array Value) : Bk (W.setRow C cs) X g t e k b l f := (setRow_far hn).trans h
set_option maxRecDepth 100000 in
set_option maxHeartbeats 4000000 in
theorem refused (g t e k b l f : Int) (c : Int) (second came : Bool) (s : List UInt8) (w : World) (hg : Gl w) (hc : c = 2 ∨ c = 6) (hx : next ⟨g, t, e, k, b, l, f⟩ = (nil_, c)) :
    Calls Tryd.prog 6 #[.agg #[.int .i64 g, .int .i64 t, .int .i64 e, .int .i64 k, .int .i64 b, .int .i64 l, .int .i64 f], .bool second, .string ⟨s.toArray⟩, .bool came] w fun r w' => r = .returned (.bool true) ∧ Below w.heap.size w w' := by
  obtain ⟨W1, hW1⟩ : ∃ W1, W1 = w.alloc (.cells #[.int .i64 g, .int .i64 t, .int .i64 e, .int .i64 k, .int .i64 b, .int .i64 l, .int .i64 f] 25) := ⟨_, rfl⟩
  have LL : Hid (Lw w g t e k b l f W1) := Lib.hid (by rw [hW1]; exact lw_new g t e k b l f hg)
  obtain ⟨k0, k1, k2, k3, k4, k5, k6⟩ := LL.out.k.cells
  have GG := Lib.hid hg
  have HX := Lib.hid (fun W h => SupE.Next g t e k b l f W h)
  rw [hx] at HX
  clear hx hg
  go_enter Tryd.func6, Tryd.ntmps6
  go_upto_region 1 with (fail)
  rw [← hW1]
  clear hW1
  go_upto_region 2 with (first
    | (go_at_call 9; refine (HX.out _ LL.out.gl.bn).mono ?_; rintro r w2 ⟨rfl, hb⟩; replace LL := Lib.hid (LL.out.step hb); clear hb k0 k1 k2 k3 k4 k5 k6)
    | (refine wpList_store_row rfl 25 _ _ rfl w2.heap.size _ rfl rfl 25 _ (heap_alloc_new w2 _) infoS rfl (one7 0 0 0 0 0 0 0) ?_))
  generalize hW3 : World.setRow (World.alloc w2 _) _ _ = W3
  replace LL : Hid (Lw w g t e k b l f W3) := Lib.hid (by rw [← hW3]; exact LL.out.step (kept_new _ _ _ _))
  have KN : Hid (Bk W3 w2.heap.size 0 0 0 0 0 0 0) := Lib.hid (by rw [← hW3]; exact has_new _ _ _ _)
  clear hW3 HX
  generalize w2.heap.size = N at *
  clear GG KN
  rcases hc with rfl | rfl
  all_goals
    go_wp2_with (go_at_call 11; refine (SupY.alive _ LL.out.gl).mono ?_; rintro r w9 ⟨rfl, hb⟩; have HE := Lib.hid (LL.out.step hb); clear hb)
    go_ret
    exact ⟨rfl, HE.out.bel⟩
set_option maxRecDepth 100000 in
set_option maxHeartbeats 4000000 in
theorem long (g t e k b l f : Int) (second came : Bool) (s : List UInt8) (w : World) (hg : Gl w) (hl : 10000 < s.length) (hx : next ⟨g, t, e, k, b, l, f⟩ = (⟨g + 1, t, e, k, b, l, f⟩, 0)) :
    Calls Tryd.prog 6 #[.agg #[.int .i64 g, .int .i64 t, .int .i64 e, .int .i64 k, .int .i64 b, .int .i64 l, .int .i64 f], .bool second, .string ⟨s.toArray⟩, .bool came] w fun r w' => r = .returned (.bool true) ∧ Below w.heap.size w w' := by
  have hz := GeoQ.size_mk s
  obtain ⟨W1, hW1⟩ : ∃ W1, W1 = w.alloc (.cells #[.int .i64 g, .int .i64 t, .int .i64 e, .int .i64 k, .int .i64 b, .int .i64 l, .int .i64 f] 25) := ⟨_, rfl⟩
  have LL : Hid (Lw w g t e k b l f W1) := Lib.hid (by rw [hW1]; exact lw_new g t e k b l f hg)
  obtain ⟨k0, k1, k2, k3, k4, k5, k6⟩ := LL.out.k.cells
  have GG := Lib.hid hg
  have HX := Lib.hid (fun W h => SupE.Next g t e k b l f W h)
  rw [hx] at HX
  clear hx hg
  go_enter Tryd.func6, Tryd.ntmps6
  go_upto_region 1 with (fail)
  rw [← hW1]
  clear hW1
  go_upto_region 2 with (first
    | (go_at_call 9; refine (HX.out _ LL.out.gl.bn).mono ?_; rintro r w2 ⟨rfl, hb⟩; replace LL := Lib.hid (LL.out.step hb); clear hb k0 k1 k2 k3 k4 k5 k6)
    | (refine wpList_store_row rfl 25 _ _ rfl w2.heap.size _ rfl rfl 25 _ (heap_alloc_new w2 _) infoS rfl (one7 (g + 1) t e k b l f) ?_))
  generalize hW3 : World.setRow (World.alloc w2 _) _ _ = W3
  replace LL : Hid (Lw w g t e k b l f W3) := Lib.hid (by rw [← hW3]; exact LL.out.step (kept_new _ _ _ _))
  have KN : Hid (Bk W3 w2.heap.size (g + 1) t e k b l f) := Lib.hid (by rw [← hW3]; exact has_new _ _ _ _)
  clear hW3 HX
  generalize w2.heap.size = N at *
  clear GG KN
  go_wp2_with (go_at_call 11; refine (SupY.alive _ LL.out.gl).mono ?_; rintro r w9 ⟨rfl, hb⟩; have HE := Lib.hid (LL.out.step hb); clear hb)
  go_ret
  exact ⟨rfl, HE.out.bel⟩
set_option maxRecDepth 100000 in
set_option maxHeartbeats 4000000 in
theorem stands (g t e k b l f : Int) (second : Bool) (L M : List UInt8) (g8 t8 e8 k8 b8 l8 f8 : Int) (s : List UInt8) (w : World) (hg : Gl w) (hs : ¬ 10000 < s.length) (hx : next ⟨g, t, e, k, b, l, f⟩ = (⟨g + 1, t, e, k, b, l, f⟩, 0)) (hp : put_ ⟨g, t, e, k, b, l, f⟩ = (L, 0)) (hq : put_ ⟨g + 1, t, e, k, b, l, f⟩ = (M, 0)) (ht : take s = (⟨g8, t8, e8, k8, b8, l8, f8⟩, 0)) (ho : g < g8 ∨ (¬ g < g8 ∧ (g8 == g) = true ∧ second = true)) :
    Calls Tryd.prog 6 #[.agg #[.int .i64 g, .int .i64 t, .int .i64 e, .int .i64 k, .int .i64 b, .int .i64 l, .int .i64 f], .bool second, .string ⟨s.toArray⟩, .bool false] w fun r w' => r = .returned (.bool true) ∧ Below w.heap.size w w' := by
  have hz := GeoQ.size_mk s
  obtain ⟨W1, hW1⟩ : ∃ W1, W1 = w.alloc (.cells #[.int .i64 g, .int .i64 t, .int .i64 e, .int .i64 k, .int .i64 b, .int .i64 l, .int .i64 f] 25) := ⟨_, rfl⟩
  have LL : Hid (Lw w g t e k b l f W1) := Lib.hid (by rw [hW1]; exact lw_new g t e k b l f hg)
  obtain ⟨k0, k1, k2, k3, k4, k5, k6⟩ := LL.out.k.cells
  have GG := Lib.hid hg
  have HX := Lib.hid (fun W h => SupE.Next g t e k b l f W h)
  rw [hx] at HX
  have HP := Lib.hid (fun W h => SupP.Put g t e k b l f W h)
  have HQ := Lib.hid (fun W h => SupP.Put (g + 1) t e k b l f W h)
  have HT := Lib.hid (fun W h => SupU.Take s W h)
  rw [hp] at HP
  rw [hq] at HQ
  rw [ht] at HT
  clear hp hq ht
  clear hx hg
  go_enter Tryd.func6, Tryd.ntmps6
  go_upto_region 1 with (fail)
  rw [← hW1]
  clear hW1
  go_upto_region 2 with (first
    | (go_at_call 9; refine (HX.out _ LL.out.gl.bn).mono ?_; rintro r w2 ⟨rfl, hb⟩; replace LL := Lib.hid (LL.out.step hb); clear hb k0 k1 k2 k3 k4 k5 k6)
    | (refine wpList_store_row rfl 25 _ _ rfl w2.heap.size _ rfl rfl 25 _ (heap_alloc_new w2 _) infoS rfl (one7 (g + 1) t e k b l f) ?_))
  generalize hW3 : World.setRow (World.alloc w2 _) _ _ = W3
  replace LL : Hid (Lw w g t e k b l f W3) := Lib.hid (by rw [← hW3]; exact LL.out.step (kept_new _ _ _ _))
  have KN : Hid (Bk W3 w2.heap.size (g + 1) t e k b l f) := Lib.hid (by rw [← hW3]; exact has_new _ _ _ _)
  clear hW3 HX
  generalize w2.heap.size = N at *
  obtain ⟨k0, k1, k2, k3, k4, k5, k6⟩ := LL.out.k.cells
  obtain ⟨n0, n1, n2, n3, n4, n5, n6⟩ := KN.out.cells
  go_upto_region 5 with (go_at_call 7; refine (HP.out _ LL.out.gl).mono ?_; rintro r w4 ⟨rfl, hb⟩; replace LL := Lib.hid (LL.out.step hb); replace KN := Lib.hid (KN.out.step hb); clear hb k0 k1 k2 k3 k4 k5 k6 n0 n1 n2 n3 n4 n5 n6; obtain ⟨k0, k1, k2, k3, k4, k5, k6⟩ := LL.out.k.cells; obtain ⟨n0, n1, n2, n3, n4, n5, n6⟩ := KN.out.cells)
  go_upto_region 6 with (go_at_call 7; refine (HQ.out _ LL.out.gl).mono ?_; rintro r w5 ⟨rfl, hb⟩; replace LL := Lib.hid (LL.out.step hb); replace KN := Lib.hid (KN.out.step hb); clear hb k0 k1 k2 k3 k4 k5 k6 n0 n1 n2 n3 n4 n5 n6; obtain ⟨k0, k1, k2, k3, k4, k5, k6⟩ := LL.out.k.cells; obtain ⟨n0, n1, n2, n3, n4, n5, n6⟩ := KN.out.cells)
  clear HP HQ
  go_upto_region 11 with (first
    | (go_at_call 12; refine (HT.out _ LL.out.gl).mono ?_; rintro r w6 ⟨rfl, hb⟩; replace LL := Lib.hid (LL.out.step hb); replace KN := Lib.hid (KN.out.step hb); clear hb k0 k1 k2 k3 k4 k5 k6 n0 n1 n2 n3 n4 n5 n6)
    | (refine wpList_store_row rfl 25 _ _ rfl w6.heap.size _ rfl rfl 25 _ (heap_alloc_new w6 _) infoS rfl (one7 g8 t8 e8 k8 b8 l8 f8) ?_))
  generalize hW7 : World.setRow (World.alloc w6 _) _ _ = W7
  replace LL : Hid (Lw w g t e k b l f W7) := Lib.hid (by rw [← hW7]; exact LL.out.step (kept_new _ _ _ _))
  replace KN : Hid (Bk W7 N (g + 1) t e k b l f) := Lib.hid (by rw [← hW7]; exact KN.out.step (kept_new _ _ _ _))
  have KO : Hid (Bk W7 w6.heap.size g8 t8 e8 k8 b8 l8 f8) := Lib.hid (by rw [← hW7]; exact has_new _ _ _ _)
  clear hW7 HT
  generalize w6.heap.size = O at *
  obtain ⟨k0, k1, k2, k3, k4, k5, k6⟩ := LL.out.k.cells
  obtain ⟨o0, o1, o2, o3, o4, o5, o6⟩ := KO.out.cells
  clear GG KN KO
  rcases ho with ho | ⟨ho, ho2, rfl⟩
  all_goals
    go_wp2_with (go_at_call 11; refine (SupY.alive _ LL.out.gl).mono ?_; rintro r w9 ⟨rfl, hb⟩; have HE := Lib.hid (LL.out.step hb); clear hb)
    go_ret
    exact ⟨rfl, HE.out.bel⟩
end Go.Proofs.YtghljhohbhkdeaaDoor.SLr
