/- SuperLater's text: the next one did not come to the second place. The condition: the least and the most numbers, and the rounds' numbers, lie in the program's variables. -/
import Derived.Test.YtghljhohbhkdeaaDoorSLr
namespace Go.Proofs.YtghljhohbhkdeaaDoor.SLc
open Go.RowKit
open GeoN GeoC GeoS SupN SupC SupP SupK SLr
set_option maxRecDepth 100000 in
set_option maxHeartbeats 4000000 in
theorem not_first (g t e k b l f : Int) (L M : List UInt8) (g8 t8 e8 k8 b8 l8 f8 h : Int) (s : List UInt8) (w : World) (hg : Gl w) (hs : ¬ 10000 < s.length) (hx : next ⟨g, t, e, k, b, l, f⟩ = (⟨g + 1, t, e, k, b, l, f⟩, 0)) (hp : put_ ⟨g, t, e, k, b, l, f⟩ = (L, 0)) (hq : put_ ⟨g + 1, t, e, k, b, l, f⟩ = (M, 0)) (hc : SupN.choose L s = (⟨g, t, e, k, b, l, f⟩, 0, 0)) (ht : take s = (⟨g8, t8, e8, k8, b8, l8, f8⟩, h)) (ho : h = 3 ∨ (h = 0 ∧ g8 < g ∧ (g8 == g) = false) ∨ (h = 0 ∧ ¬ g < g8 ∧ (g8 == g) = true)) :
    Calls Tryd.prog 6 #[.agg #[.int .i64 g, .int .i64 t, .int .i64 e, .int .i64 k, .int .i64 b, .int .i64 l, .int .i64 f], .bool false, .string ⟨s.toArray⟩, .bool false] w fun r w' => r = .returned (.bool true) ∧ Below w.heap.size w w' := by
  have hz := GeoQ.size_mk s
  have HC := Lib.hid (fun W h => SupV.Choose L s W h)
  rw [hc] at HC
  have heq := fun W => eql_self g t e k b l f W
  clear hc
  obtain ⟨W1, hW1⟩ : ∃ W1, W1 = w.alloc (.cells #[.int .i64 g, .int .i64 t, .int .i64 e, .int .i64 k, .int .i64 b, .int .i64 l, .int .i64 f] 25) := ⟨_, rfl⟩
  have LL : Hid (Lw w g t e k b l f W1) := Lib.hid (by rw [hW1]; exact lw_new g t e k b l f hg)
  obtain ⟨k0, k1, k2, k3, k4, k5, k6⟩ := LL.out.k.cells
  have GG := Lib.hid hg
  have HX := Lib.hid (fun W h => SupE.Next g t e k b l f W h)
  rw [hx] at HX
  have HP := Lib.hid (fun W h => SupP.Put g t e k b l f W h)
  have HQ := Lib.hid (fun W h => SupP.Put (g + 1) t e k b l f W h)
  have HT := Lib.hid (fun W h => SupU.Take s W h)
  rw [hp] at HP
  rw [hq] at HQ
  rw [ht] at HT
  clear hp hq ht
  clear hx hg
  go_enter Tryd.func6, Tryd.ntmps6
  go_upto_region 1 with (fail)
  rw [← hW1]
  clear hW1
  go_upto_region 2 with (first
    | (go_at_call 9; refine (HX.out _ LL.out.gl.bn).mono ?_; rintro r w2 ⟨rfl, hb⟩; replace LL := Lib.hid (LL.out.step hb); clear hb k0 k1 k2 k3 k4 k5 k6)
    | (refine wpList_store_row rfl 25 _ _ rfl w2.heap.size _ rfl rfl 25 _ (heap_alloc_new w2 _) infoS rfl (one7 (g + 1) t e k b l f) ?_))
  generalize hW3 : World.setRow (World.alloc w2 _) _ _ = W3
  replace LL : Hid (Lw w g t e k b l f W3) := Lib.hid (by rw [← hW3]; exact LL.out.step (kept_new _ _ _ _))
  have KN : Hid (Bk W3 w2.heap.size (g + 1) t e k b l f) := Lib.hid (by rw [← hW3]; exact has_new _ _ _ _)
  clear hW3 HX
  generalize w2.heap.size = N at *
  obtain ⟨k0, k1, k2, k3, k4, k5, k6⟩ := LL.out.k.cells
  obtain ⟨n0, n1, n2, n3, n4, n5, n6⟩ := KN.out.cells
  go_upto_region 5 with (go_at_call 7; refine (HP.out _ LL.out.gl).mono ?_; rintro r w4 ⟨rfl, hb⟩; replace LL := Lib.hid (LL.out.step hb); replace KN := Lib.hid (KN.out.step hb); clear hb k0 k1 k2 k3 k4 k5 k6 n0 n1 n2 n3 n4 n5 n6; obtain ⟨k0, k1, k2, k3, k4, k5, k6⟩ := LL.out.k.cells; obtain ⟨n0, n1, n2, n3, n4, n5, n6⟩ := KN.out.cells)
  go_upto_region 6 with (go_at_call 7; refine (HQ.out _ LL.out.gl).mono ?_; rintro r w5 ⟨rfl, hb⟩; replace LL := Lib.hid (LL.out.step hb); replace KN := Lib.hid (KN.out.step hb); clear hb k0 k1 k2 k3 k4 k5 k6 n0 n1 n2 n3 n4 n5 n6; obtain ⟨k0, k1, k2, k3, k4, k5, k6⟩ := LL.out.k.cells; obtain ⟨n0, n1, n2, n3, n4, n5, n6⟩ := KN.out.cells)
  clear HP HQ
  go_upto_region 11 with (first
    | (go_at_call 12; refine (HT.out _ LL.out.gl).mono ?_; rintro r w6 ⟨rfl, hb⟩; replace LL := Lib.hid (LL.out.step hb); replace KN := Lib.hid (KN.out.step hb); clear hb k0 k1 k2 k3 k4 k5 k6 n0 n1 n2 n3 n4 n5 n6)
    | (refine wpList_store_row rfl 25 _ _ rfl w6.heap.size _ rfl rfl 25 _ (heap_alloc_new w6 _) infoS rfl (one7 g8 t8 e8 k8 b8 l8 f8) ?_))
  generalize hW7 : World.setRow (World.alloc w6 _) _ _ = W7
  replace LL : Hid (Lw w g t e k b l f W7) := Lib.hid (by rw [← hW7]; exact LL.out.step (kept_new _ _ _ _))
  replace KN : Hid (Bk W7 N (g + 1) t e k b l f) := Lib.hid (by rw [← hW7]; exact KN.out.step (kept_new _ _ _ _))
  have KO : Hid (Bk W7 w6.heap.size g8 t8 e8 k8 b8 l8 f8) := Lib.hid (by rw [← hW7]; exact has_new _ _ _ _)
  clear hW7 HT
  generalize w6.heap.size = O at *
  obtain ⟨k0, k1, k2, k3, k4, k5, k6⟩ := LL.out.k.cells
  obtain ⟨o0, o1, o2, o3, o4, o5, o6⟩ := KO.out.cells
  rcases ho with rfl | ⟨rfl, ho, ho2⟩ | ⟨rfl, ho, ho2⟩
  all_goals
    go_upto_region 13 with (fail)
    clear o0 o1 o2 o3 o4 o5 o6 KO
    go_upto_region 14 with (first
      | (go_at_call 14; refine (HC.out _ LL.out.gl).mono ?_; rintro r w8 ⟨rfl, hb⟩; replace LL := Lib.hid (LL.out.step hb); replace KN := Lib.hid (KN.out.step hb); clear hb k0 k1 k2 k3 k4 k5 k6)
      | (refine wpList_store_row rfl 25 _ _ rfl w8.heap.size _ rfl rfl 25 _ (heap_alloc_new w8 _) infoS rfl (one7 g t e k b l f) ?_))
    generalize hW9 : World.setRow (World.alloc w8 _) _ _ = W9
    have ltC : Hid (w.heap.size + 1 ≤ w8.heap.size) := Lib.hid LL.out.k.lt
    have neC : Hid (N ≠ w8.heap.size) := Lib.hid (Nat.ne_of_lt KN.out.lt)
    replace LL : Hid (Lw w g t e k b l f W9) := Lib.hid (by rw [← hW9]; exact LL.out.step (kept_new _ _ _ _))
    replace KN : Hid (Bk W9 N (g + 1) t e k b l f) := Lib.hid (by rw [← hW9]; exact KN.out.step (kept_new _ _ _ _))
    have KC : Hid (Bk W9 w8.heap.size g t e k b l f) := Lib.hid (by rw [← hW9]; exact has_new _ _ _ _)
    clear hW9 HC
    generalize w8.heap.size = C at *
    go_upto_region 16 with (fail)
    obtain ⟨k0, k1, k2, k3, k4, k5, k6⟩ := LL.out.k.cells
    go_upto_region 17 with (refine wpList_store_row rfl 25 _ _ rfl W9.heap.size _ rfl rfl 25 _ (heap_alloc_new W9 _) infoS rfl (one7 g t e k b l f) ?_)
    generalize hWb : World.setRow (World.alloc W9 _) _ _ = Wb
    have ltT : Hid (w.heap.size + 1 ≤ W9.heap.size) := Lib.hid LL.out.k.lt
    have neN : Hid (N ≠ W9.heap.size) := Lib.hid (Nat.ne_of_lt KN.out.lt)
    have neT : Hid (C ≠ W9.heap.size) := Lib.hid (Nat.ne_of_lt KC.out.lt)
    replace LL : Hid (Lw w g t e k b l f Wb) := Lib.hid (by rw [← hWb]; exact LL.out.step (kept_new _ _ _ _))
    replace KN : Hid (Bk Wb N (g + 1) t e k b l f) := Lib.hid (by rw [← hWb]; exact KN.out.step (kept_new _ _ _ _))
    replace KC : Hid (Bk Wb C g t e k b l f) := Lib.hid (by rw [← hWb]; exact KC.out.step (kept_new _ _ _ _))
    have KT : Hid (Bk Wb W9.heap.size g t e k b l f) := Lib.hid (by rw [← hWb]; exact has_new _ _ _ _)
    clear hWb k0 k1 k2 k3 k4 k5 k6
    generalize W9.heap.size = T at *
    clear GG
    obtain ⟨c0, c1, c2, c3, c4, c5, c6⟩ := KC.out.cells
    obtain ⟨t0, t1, t2, t3, t4, t5, t6⟩ := KT.out.cells
    go_wp2_with (go_at_call 11; refine (SupY.alive _ LL.out.gl).mono ?_; rintro r w9 ⟨rfl, hb⟩; have HE := Lib.hid (LL.out.step hb); clear hb)
    go_ret
    exact ⟨rfl, HE.out.bel⟩
end Go.Proofs.YtghljhohbhkdeaaDoor.SLc
