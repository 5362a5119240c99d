/- SuperBack: at any superblock, and any text of at most 2^47 bytes, what was put is taken as it was, and is a block's bytes; what was taken, put, is those bytes. The condition: the least and the most numbers, and the rounds' numbers, lie in the program's variables (the card ties them to the program's text). -/
import Derived.Test.YtghljhohbhkdeaaDoorSupK
import Derived.Test.YtghljhohbhkdeaaDoorRows
import Derived.Test.YtghljhohbhkdeaaDoorTie
import Derived.Test.YtghljhohbhkdeaaDoorCards
import Derived.Test.YtghljhohbhkdeaaDoorSupL
import Derived.WalkKit
import Derived.ProofKit
import Derived.OpenShut
import Derived.ShutString
import Derived.ChangeOld
import Derived.Below
import Derived.LaidMore
import Derived.SevenTiedAt
import Derived.Stop.Joined
namespace Go.Proofs.YtghljhohbhkdeaaDoor.superBack
open Go.ChangeShapes Go.WideShapes Go.ChangeAt Go.RowKit
open Go.ChangeMaps (open_string shut_string)
set_option linter.unusedVariables false
open GeoN GeoC GeoS SupN SupC SupP SupK
set_option maxRecDepth 100000 in
theorem long (g t e k b l f : Int) (s : List UInt8) (w : World) (hg : Gl w) (h : 10000 < s.length) :
    Calls Tryd.prog 5 #[.agg #[.int .i64 g, .int .i64 t, .int .i64 e, .int .i64 k, .int .i64 b, .int .i64 l, .int .i64 f], .string ⟨s.toArray⟩] w fun r w' => r = .returned (.bool true) ∧ Below w.heap.size w w' := by
  obtain ⟨W1, hW1⟩ : ∃ W1, W1 = w.alloc (.cells #[.int .i64 g, .int .i64 t, .int .i64 e, .int .i64 k, .int .i64 b, .int .i64 l, .int .i64 f] 25) := ⟨_, rfl⟩
  have LL : Hid (Lw w g t e k b l f W1) := Lib.hid (by rw [hW1]; exact lw_new g t e k b l f hg)
  have hz := GeoQ.size_mk s
  clear hg
  go_enter Tryd.func5, Tryd.ntmps5
  go_upto_region 1 with (fail)
  rw [← hW1]
  clear hW1
  go_wp2_with (go_at_call 11; refine (SupY.alive _ LL.out.gl).mono ?_; rintro r w9 ⟨rfl, hb⟩; have HE := Lib.hid (LL.out.step hb); clear hb)
  go_ret
  exact ⟨rfl, HE.out.bel⟩
set_option maxRecDepth 100000 in
set_option maxHeartbeats 2000000 in
theorem way_nn (g t e k b l f : Int) (s : List UInt8) (hp : put_ ⟨g, t, e, k, b, l, f⟩ = ([], 2)) (hs : take s = (nil_, 3)) (w : World) (hg : Gl w) (h : ¬ 10000 < s.length) :
    Calls Tryd.prog 5 #[.agg #[.int .i64 g, .int .i64 t, .int .i64 e, .int .i64 k, .int .i64 b, .int .i64 l, .int .i64 f], .string ⟨s.toArray⟩] w fun r w' => r = .returned (.bool true) ∧ Below w.heap.size w w' := by
  obtain ⟨W1, hW1⟩ : ∃ W1, W1 = w.alloc (.cells #[.int .i64 g, .int .i64 t, .int .i64 e, .int .i64 k, .int .i64 b, .int .i64 l, .int .i64 f] 25) := ⟨_, rfl⟩
  have LL : Hid (Lw w g t e k b l f W1) := Lib.hid (by rw [hW1]; exact lw_new g t e k b l f hg)
  have hz := GeoQ.size_mk s
  obtain ⟨k0, k1, k2, k3, k4, k5, k6⟩ := LL.out.k.cells
  have HP := Lib.hid (fun W h => SupP.Put g t e k b l f W h)
  have HS := Lib.hid (fun W h => SupU.Take s W h)
  rw [hp] at HP
  rw [hs] at HS
  have heq := fun W => eql_self 0 0 0 0 0 0 0 W
  clear hp hs hg
  go_enter Tryd.func5, Tryd.ntmps5
  go_upto_region 1 with (fail)
  rw [← hW1]
  clear hW1
  go_upto_region 8 with ((go_at_call 7; refine (HP.out _ LL.out.gl).mono ?_; rintro r w2 ⟨rfl, hb⟩; replace LL := Lib.hid (LL.out.step hb); clear hb k0 k1 k2 k3 k4 k5 k6; obtain ⟨k0, k1, k2, k3, k4, k5, k6⟩ := LL.out.k.cells))
  clear k0 k1 k2 k3 k4 k5 k6
  go_upto_region 9 with (first
    | (go_at_call 12; refine (HS.out _ LL.out.gl).mono ?_; rintro r w5 ⟨rfl, hb⟩; replace LL := Lib.hid (LL.out.step hb); clear hb)
    | (refine wpList_store_row rfl 25 _ _ rfl w5.heap.size _ rfl rfl 25 _ (heap_alloc_new w5 _) infoS rfl (one7 0 0 0 0 0 0 0) ?_))
  generalize hW6 : World.setRow (World.alloc w5 _) _ _ = W6
  replace LL : Hid (Lw w g t e k b l f W6) := Lib.hid (by rw [← hW6]; exact LL.out.step (kept_new _ _ _ _))
  have KY : Hid (Bk W6 w5.heap.size 0 0 0 0 0 0 0) := Lib.hid (by rw [← hW6]; exact has_new _ _ _ _)
  clear hW6
  generalize w5.heap.size = Y at *
  obtain ⟨y0, y1, y2, y3, y4, y5, y6⟩ := KY.out.cells
  go_wp2_with (go_at_call 11; refine (SupY.alive _ LL.out.gl).mono ?_; rintro r w9 ⟨rfl, hb⟩; have HE := Lib.hid (LL.out.step hb); clear hb)
  go_ret
  exact ⟨rfl, HE.out.bel⟩
set_option maxRecDepth 100000 in
set_option maxHeartbeats 2000000 in
theorem way_ny (g t e k b l f : Int) (s : List UInt8) (hp : put_ ⟨g, t, e, k, b, l, f⟩ = ([], 2)) (g9 t9 e9 k9 b9 l9 f9 : Int) (hs : take s = (⟨g9, t9, e9, k9, b9, l9, f9⟩, 0)) (hq : put_ ⟨g9, t9, e9, k9, b9, l9, f9⟩ = (s, 0)) (hc : check ⟨g9, t9, e9, k9, b9, l9, f9⟩ = 0) (w : World) (hg : Gl w) (h : ¬ 10000 < s.length) :
    Calls Tryd.prog 5 #[.agg #[.int .i64 g, .int .i64 t, .int .i64 e, .int .i64 k, .int .i64 b, .int .i64 l, .int .i64 f], .string ⟨s.toArray⟩] w fun r w' => r = .returned (.bool true) ∧ Below w.heap.size w w' := by
  obtain ⟨W1, hW1⟩ : ∃ W1, W1 = w.alloc (.cells #[.int .i64 g, .int .i64 t, .int .i64 e, .int .i64 k, .int .i64 b, .int .i64 l, .int .i64 f] 25) := ⟨_, rfl⟩
  have LL : Hid (Lw w g t e k b l f W1) := Lib.hid (by rw [hW1]; exact lw_new g t e k b l f hg)
  have hz := GeoQ.size_mk s
  obtain ⟨k0, k1, k2, k3, k4, k5, k6⟩ := LL.out.k.cells
  have HP := Lib.hid (fun W h => SupP.Put g t e k b l f W h)
  have HS := Lib.hid (fun W h => SupU.Take s W h)
  rw [hp] at HP
  rw [hs] at HS
  have HQ := Lib.hid (fun W h => SupP.Put g9 t9 e9 k9 b9 l9 f9 W h)
  have HC := Lib.hid (fun W h => SupD.Check g9 t9 e9 k9 b9 l9 f9 W h)
  rw [hq] at HQ
  rw [hc] at HC
  clear hq hc
  clear hp hs hg
  go_enter Tryd.func5, Tryd.ntmps5
  go_upto_region 1 with (fail)
  rw [← hW1]
  clear hW1
  go_upto_region 8 with ((go_at_call 7; refine (HP.out _ LL.out.gl).mono ?_; rintro r w2 ⟨rfl, hb⟩; replace LL := Lib.hid (LL.out.step hb); clear hb k0 k1 k2 k3 k4 k5 k6; obtain ⟨k0, k1, k2, k3, k4, k5, k6⟩ := LL.out.k.cells))
  clear k0 k1 k2 k3 k4 k5 k6
  go_upto_region 9 with (first
    | (go_at_call 12; refine (HS.out _ LL.out.gl).mono ?_; rintro r w5 ⟨rfl, hb⟩; replace LL := Lib.hid (LL.out.step hb); clear hb)
    | (refine wpList_store_row rfl 25 _ _ rfl w5.heap.size _ rfl rfl 25 _ (heap_alloc_new w5 _) infoS rfl (one7 g9 t9 e9 k9 b9 l9 f9) ?_))
  generalize hW6 : World.setRow (World.alloc w5 _) _ _ = W6
  replace LL : Hid (Lw w g t e k b l f W6) := Lib.hid (by rw [← hW6]; exact LL.out.step (kept_new _ _ _ _))
  have KY : Hid (Bk W6 w5.heap.size g9 t9 e9 k9 b9 l9 f9) := Lib.hid (by rw [← hW6]; exact has_new _ _ _ _)
  clear hW6
  generalize w5.heap.size = Y at *
  obtain ⟨y0, y1, y2, y3, y4, y5, y6⟩ := KY.out.cells
  go_wp2_with (first
    | (go_at_call 7; refine (HQ.out _ LL.out.gl).mono ?_; rintro r w7 ⟨rfl, hb⟩; replace LL := Lib.hid (LL.out.step hb); replace KY := Lib.hid (KY.out.step hb); clear hb y0 y1 y2 y3 y4 y5 y6; obtain ⟨y0, y1, y2, y3, y4, y5, y6⟩ := KY.out.cells)
    | (go_at_call 10; refine (HC.out _ LL.out.gl.bn).mono ?_; rintro r w8 ⟨rfl, hb⟩; replace LL := Lib.hid (LL.out.step hb); replace KY := Lib.hid (KY.out.step hb); clear hb y0 y1 y2 y3 y4 y5 y6; obtain ⟨y0, y1, y2, y3, y4, y5, y6⟩ := KY.out.cells)
    | (go_at_call 11; refine (SupY.alive _ LL.out.gl).mono ?_; rintro r w9 ⟨rfl, hb⟩; have HE := Lib.hid (LL.out.step hb); clear hb))
  go_ret
  exact ⟨rfl, HE.out.bel⟩
set_option maxRecDepth 100000 in
set_option maxHeartbeats 2000000 in
theorem way_yn (g t e k b l f : Int) (s : List UInt8) (L : List UInt8) (hl : L.length = 4096) (hp : put_ ⟨g, t, e, k, b, l, f⟩ = (L, 0)) (hb_ : take L = (⟨g, t, e, k, b, l, f⟩, 0)) (hs : take s = (nil_, 3)) (w : World) (hg : Gl w) (h : ¬ 10000 < s.length) :
    Calls Tryd.prog 5 #[.agg #[.int .i64 g, .int .i64 t, .int .i64 e, .int .i64 k, .int .i64 b, .int .i64 l, .int .i64 f], .string ⟨s.toArray⟩] w fun r w' => r = .returned (.bool true) ∧ Below w.heap.size w w' := by
  obtain ⟨W1, hW1⟩ : ∃ W1, W1 = w.alloc (.cells #[.int .i64 g, .int .i64 t, .int .i64 e, .int .i64 k, .int .i64 b, .int .i64 l, .int .i64 f] 25) := ⟨_, rfl⟩
  have LL : Hid (Lw w g t e k b l f W1) := Lib.hid (by rw [hW1]; exact lw_new g t e k b l f hg)
  have hz := GeoQ.size_mk s
  obtain ⟨k0, k1, k2, k3, k4, k5, k6⟩ := LL.out.k.cells
  have HP := Lib.hid (fun W h => SupP.Put g t e k b l f W h)
  have HS := Lib.hid (fun W h => SupU.Take s W h)
  rw [hp] at HP
  rw [hs] at HS
  have HB := Lib.hid (fun W h => SupU.Take L W h)
  rw [hb_] at HB
  have hneq := fun W => neq_self g t e k b l f W
  have hzL := GeoQ.size_mk L
  clear hb_
  have heq := fun W => eql_self 0 0 0 0 0 0 0 W
  clear hp hs hg
  go_enter Tryd.func5, Tryd.ntmps5
  go_upto_region 1 with (fail)
  rw [← hW1]
  clear hW1
  go_upto_region 6 with (first
    | (go_at_call 7; refine (HP.out _ LL.out.gl).mono ?_; rintro r w2 ⟨rfl, hb⟩; replace LL := Lib.hid (LL.out.step hb); clear hb k0 k1 k2 k3 k4 k5 k6; obtain ⟨k0, k1, k2, k3, k4, k5, k6⟩ := LL.out.k.cells)
    | (go_at_call 12; refine (HB.out _ LL.out.gl).mono ?_; rintro r w3 ⟨rfl, hb⟩; replace LL := Lib.hid (LL.out.step hb); clear hb k0 k1 k2 k3 k4 k5 k6)
    | (refine wpList_store_row rfl 25 _ _ rfl w3.heap.size _ rfl rfl 25 _ (heap_alloc_new w3 _) infoS rfl (one7 g t e k b l f) ?_))
  generalize hW4 : World.setRow (World.alloc w3 _) _ _ = W4
  replace LL : Hid (Lw w g t e k b l f W4) := Lib.hid (by rw [← hW4]; exact LL.out.step (kept_new _ _ _ _))
  have KX : Hid (Bk W4 w3.heap.size g t e k b l f) := Lib.hid (by rw [← hW4]; exact has_new _ _ _ _)
  clear hW4
  generalize w3.heap.size = X at *
  obtain ⟨k0, k1, k2, k3, k4, k5, k6⟩ := LL.out.k.cells
  obtain ⟨x0, x1, x2, x3, x4, x5, x6⟩ := KX.out.cells
  go_upto_region 8 with (fail)
  clear x0 x1 x2 x3 x4 x5 x6 KX
  clear k0 k1 k2 k3 k4 k5 k6
  go_upto_region 9 with (first
    | (go_at_call 12; refine (HS.out _ LL.out.gl).mono ?_; rintro r w5 ⟨rfl, hb⟩; replace LL := Lib.hid (LL.out.step hb); clear hb)
    | (refine wpList_store_row rfl 25 _ _ rfl w5.heap.size _ rfl rfl 25 _ (heap_alloc_new w5 _) infoS rfl (one7 0 0 0 0 0 0 0) ?_))
  generalize hW6 : World.setRow (World.alloc w5 _) _ _ = W6
  replace LL : Hid (Lw w g t e k b l f W6) := Lib.hid (by rw [← hW6]; exact LL.out.step (kept_new _ _ _ _))
  have KY : Hid (Bk W6 w5.heap.size 0 0 0 0 0 0 0) := Lib.hid (by rw [← hW6]; exact has_new _ _ _ _)
  clear hW6
  generalize w5.heap.size = Y at *
  obtain ⟨y0, y1, y2, y3, y4, y5, y6⟩ := KY.out.cells
  go_wp2_with (go_at_call 11; refine (SupY.alive _ LL.out.gl).mono ?_; rintro r w9 ⟨rfl, hb⟩; have HE := Lib.hid (LL.out.step hb); clear hb)
  go_ret
  exact ⟨rfl, HE.out.bel⟩
set_option maxRecDepth 100000 in
set_option maxHeartbeats 2000000 in
theorem way_yy (g t e k b l f : Int) (s : List UInt8) (L : List UInt8) (hl : L.length = 4096) (hp : put_ ⟨g, t, e, k, b, l, f⟩ = (L, 0)) (hb_ : take L = (⟨g, t, e, k, b, l, f⟩, 0)) (g9 t9 e9 k9 b9 l9 f9 : Int) (hs : take s = (⟨g9, t9, e9, k9, b9, l9, f9⟩, 0)) (hq : put_ ⟨g9, t9, e9, k9, b9, l9, f9⟩ = (s, 0)) (hc : check ⟨g9, t9, e9, k9, b9, l9, f9⟩ = 0) (w : World) (hg : Gl w) (h : ¬ 10000 < s.length) :
    Calls Tryd.prog 5 #[.agg #[.int .i64 g, .int .i64 t, .int .i64 e, .int .i64 k, .int .i64 b, .int .i64 l, .int .i64 f], .string ⟨s.toArray⟩] w fun r w' => r = .returned (.bool true) ∧ Below w.heap.size w w' := by
  obtain ⟨W1, hW1⟩ : ∃ W1, W1 = w.alloc (.cells #[.int .i64 g, .int .i64 t, .int .i64 e, .int .i64 k, .int .i64 b, .int .i64 l, .int .i64 f] 25) := ⟨_, rfl⟩
  have LL : Hid (Lw w g t e k b l f W1) := Lib.hid (by rw [hW1]; exact lw_new g t e k b l f hg)
  have hz := GeoQ.size_mk s
  obtain ⟨k0, k1, k2, k3, k4, k5, k6⟩ := LL.out.k.cells
  have HP := Lib.hid (fun W h => SupP.Put g t e k b l f W h)
  have HS := Lib.hid (fun W h => SupU.Take s W h)
  rw [hp] at HP
  rw [hs] at HS
  have HB := Lib.hid (fun W h => SupU.Take L W h)
  rw [hb_] at HB
  have hneq := fun W => neq_self g t e k b l f W
  have hzL := GeoQ.size_mk L
  clear hb_
  have HQ := Lib.hid (fun W h => SupP.Put g9 t9 e9 k9 b9 l9 f9 W h)
  have HC := Lib.hid (fun W h => SupD.Check g9 t9 e9 k9 b9 l9 f9 W h)
  rw [hq] at HQ
  rw [hc] at HC
  clear hq hc
  clear hp hs hg
  go_enter Tryd.func5, Tryd.ntmps5
  go_upto_region 1 with (fail)
  rw [← hW1]
  clear hW1
  go_upto_region 6 with (first
    | (go_at_call 7; refine (HP.out _ LL.out.gl).mono ?_; rintro r w2 ⟨rfl, hb⟩; replace LL := Lib.hid (LL.out.step hb); clear hb k0 k1 k2 k3 k4 k5 k6; obtain ⟨k0, k1, k2, k3, k4, k5, k6⟩ := LL.out.k.cells)
    | (go_at_call 12; refine (HB.out _ LL.out.gl).mono ?_; rintro r w3 ⟨rfl, hb⟩; replace LL := Lib.hid (LL.out.step hb); clear hb k0 k1 k2 k3 k4 k5 k6)
    | (refine wpList_store_row rfl 25 _ _ rfl w3.heap.size _ rfl rfl 25 _ (heap_alloc_new w3 _) infoS rfl (one7 g t e k b l f) ?_))
  generalize hW4 : World.setRow (World.alloc w3 _) _ _ = W4
  replace LL : Hid (Lw w g t e k b l f W4) := Lib.hid (by rw [← hW4]; exact LL.out.step (kept_new _ _ _ _))
  have KX : Hid (Bk W4 w3.heap.size g t e k b l f) := Lib.hid (by rw [← hW4]; exact has_new _ _ _ _)
  clear hW4
  generalize w3.heap.size = X at *
  obtain ⟨k0, k1, k2, k3, k4, k5, k6⟩ := LL.out.k.cells
  obtain ⟨x0, x1, x2, x3, x4, x5, x6⟩ := KX.out.cells
  go_upto_region 8 with (fail)
  clear x0 x1 x2 x3 x4 x5 x6 KX
  clear k0 k1 k2 k3 k4 k5 k6
  go_upto_region 9 with (first
    | (go_at_call 12; refine (HS.out _ LL.out.gl).mono ?_; rintro r w5 ⟨rfl, hb⟩; replace LL := Lib.hid (LL.out.step hb); clear hb)
    | (refine wpList_store_row rfl 25 _ _ rfl w5.heap.size _ rfl rfl 25 _ (heap_alloc_new w5 _) infoS rfl (one7 g9 t9 e9 k9 b9 l9 f9) ?_))
  generalize hW6 : World.setRow (World.alloc w5 _) _ _ = W6
  replace LL : Hid (Lw w g t e k b l f W6) := Lib.hid (by rw [← hW6]; exact LL.out.step (kept_new _ _ _ _))
  have KY : Hid (Bk W6 w5.heap.size g9 t9 e9 k9 b9 l9 f9) := Lib.hid (by rw [← hW6]; exact has_new _ _ _ _)
  clear hW6
  generalize w5.heap.size = Y at *
  obtain ⟨y0, y1, y2, y3, y4, y5, y6⟩ := KY.out.cells
  go_wp2_with (first
    | (go_at_call 7; refine (HQ.out _ LL.out.gl).mono ?_; rintro r w7 ⟨rfl, hb⟩; replace LL := Lib.hid (LL.out.step hb); replace KY := Lib.hid (KY.out.step hb); clear hb y0 y1 y2 y3 y4 y5 y6; obtain ⟨y0, y1, y2, y3, y4, y5, y6⟩ := KY.out.cells)
    | (go_at_call 10; refine (HC.out _ LL.out.gl.bn).mono ?_; rintro r w8 ⟨rfl, hb⟩; replace LL := Lib.hid (LL.out.step hb); replace KY := Lib.hid (KY.out.step hb); clear hb y0 y1 y2 y3 y4 y5 y6; obtain ⟨y0, y1, y2, y3, y4, y5, y6⟩ := KY.out.cells)
    | (go_at_call 11; refine (SupY.alive _ LL.out.gl).mono ?_; rintro r w9 ⟨rfl, hb⟩; have HE := Lib.hid (LL.out.step hb); clear hb))
  go_ret
  exact ⟨rfl, HE.out.bel⟩
theorem walk (g t e k b l f : Int) (ta : ByteArray) (w : World) (wa : ta.size ≤ maxLen) (hr : Gl w) :
    Calls Tryd.prog 5 #[.agg #[.int .i64 g, .int .i64 t, .int .i64 e, .int .i64 k, .int .i64 b, .int .i64 l, .int .i64 f], .string ta] w fun e w' => e = .returned (.bool true) ∧ Below w.heap.size w w' := by
  obtain ⟨⟨s⟩⟩ := ta
  by_cases h : 10000 < s.length
  · exact long g t e k b l f s w hr h
  · by_cases hs : good s
    · by_cases hm : may ⟨g, t, e, k, b, l, f⟩
      · exact way_yy g t e k b l f s _ (blk_len _) (SupN.put_yes hm) (take_blk hm) _ _ _ _ _ _ _ (take_yes hs) (put_take hs) (check_yes hs.1) w hr h
      · exact way_ny g t e k b l f s (SupN.put_no hm) _ _ _ _ _ _ _ (take_yes hs) (put_take hs) (check_yes hs.1) w hr h
    · by_cases hm : may ⟨g, t, e, k, b, l, f⟩
      · exact way_yn g t e k b l f s _ (blk_len _) (SupN.put_yes hm) (take_blk hm) (take_no hs) w hr h
      · exact way_nn g t e k b l f s (SupN.put_no hm) (take_no hs) w hr h
theorem own : ownKnob Tryd.prog.godebug = none := by kernel_rfl
theorem laidOut : laidOutB Tryd.prog = true := by kernel_rfl
set_option maxRecDepth 100000 in
theorem lifted (os : Os) (started : os.Started) (H : Type) (enc : TypeId × Value → H) :
    ReturnsInHanded {} Tryd.checked os 5 .any (fun w args => (Rows.superBackSpec.pre enc Tryd.prog Tryd.f5 Rows.superBackRow.domain false w args ∧ laidMetH Tryd.prog Rows.superBackRow.laid w) ∧ sizedMet enc Tryd.prog Tryd.f5 (OpenSpec.ofChange Rows.superBackSpec) false w args) (Rows.superBackSpec.post enc Tryd.prog Tryd.f5 false true false false) := by
  refine returnsInHanded_of_change_and (C := Tryd.checked) (X := fun w _ => laidMetH Tryd.prog Rows.superBackRow.laid w) (fun _ _ _ hh h => h.of_heap hh) own started (by kernel_rfl) Tryd.func5
    (ChangeSpec.witness_shaped (enc := enc) (C := Tryd.checked) (os := os) (X := fun w _ => laidMetH Tryd.prog Rows.superBackRow.laid w) false (World.doorLaid Tryd.prog 400 os) #[.agg #[.int .i64 0, .int .i64 0, .int .i64 0, .int .i64 0, .int .i64 0, .int .i64 0, .int .i64 0], .string ByteArray.empty] 8 rfl (World.shaped_of_RefB (by kernel_rfl) (by kernel_rfl)) (by kernel_rfl) (by kernel_rfl) (by kernel_rfl) (SupL.door_met os _)) ?_
  intro W base args ds gs before hval0 hW _ _ hL _
  have hr := SupL.of_laid hL
  have hval : ∀ (j : Nat) t v, Tryd.f5.params[j]? = some t → args[j]? = some v → Value.okWide Tryd.prog W .any base t v := hval0
  have hW' := hW
  obtain ⟨p, q, hA0, hV, rfl, hfz, hnd⟩ := hW
  have hA : DataW.TrodAll enc Tryd.prog W 0 (fun _ => true) true Tryd.f5.params.toList args.toList ds p := hA0
  rw [Tryd.params5] at hA hval
  obtain ⟨v0, vs0, d0, ds0, p0, q0, hargs, rfl, rfl, h0, r0⟩ := trodAll_cons hA
  obtain ⟨v1, vs1, d1, ds1, p1, q1, rfl, rfl, rfl, h1, r1⟩ := trodAll_cons r0
  obtain ⟨rfl, rfl, rfl⟩ := trodAll_nil r1
  obtain rfl : args = #[v0, v1] := by cases args; simp_all
  obtain ⟨rfl, rfl⟩ := trodVars_none hV
  have k0 := h0
  have lt0 : ∀ x ∈ p0, x.block < W.heap.size := by obtain ⟨m, hm⟩ := k0; exact DataW.trod_lt m _ _ _ hm
  obtain ⟨sg0, st0, se0, sk0, sb0, sl0, sf0, rfl⟩ := SupL.open_sup (hval 0 25 v0 rfl rfl) h0
  obtain ⟨a1, rfl, rfl, rfl, w1⟩ := open_string Tryd.underlying9 (hval 1 9 v1 rfl rfl) h1
  clear hA0 hval0
  refine (walk sg0 st0 se0 sk0 sb0 sl0 sf0 a1 W w1 hr).mono fun e W' ⟨he, bel⟩ => ?_
  subst he
  exact ⟨_, rfl, _, _, _, [], _, [], hW', trodAll_mk1 (shut_bool Tryd.underlying4 _), (trodAll_cons_mk (Below.trod laidOut (by kernel_rfl) (of_decide_eq_true (by kernel_rfl)) k0 bel lt0) (trodAll_cons_mk (shut_string Tryd.underlying9 w1) trodAll_mk0)), rfl, bel.frame _, fun h => by cases h⟩
theorem over : Rows.superBackRow.holds Tryd.pinned (OpenSpec.ofChange Rows.superBackSpec) :=
  OpenClaim.holds_of_wide 5 Tryd.f5 rfl rfl rfl rfl rfl rfl rfl ⟨rfl, rfl, rfl, rfl, rfl⟩ rfl rfl rfl rfl rfl (by kernel_rfl) Tryd.func5 (by kernel_rfl)
    (of_decide_eq_true (by kernel_rfl)) (by unfold Func.isWrapper; first | (rw [if_pos (by decide +kernel)]; kernel_rfl) | (rw [if_neg (by decide +kernel)]; exact ⟨rfl, rfl⟩))
    (fun os started H enc _ => lifted os started H enc)
/-- THE STATEMENT, proved. -/
theorem proved : Rows.SuperBackCardSaid :=
  Claim7.holds_tied_plain_at .later [] _ true _ false
    over (fun _ h => by cases h) (by kernel_rfl) (fun _ h => by cases h) superBack_row_tie rfl ⟨rfl, rfl⟩ (by kernel_rfl) rfl
    (fun f fn hf hfn => by
      obtain rfl : f = 5 := Option.some.inj ((show Tryd.prog.funcNamed "keepsake/keepsakelaw10.SuperBack" = some 5 by kernel_rfl).symm.trans hf) |>.symm
      obtain rfl : fn = Tryd.f5 := (Option.some.inj (Tryd.func5.symm.trans hfn)).symm
      exact ⟨by kernel_rfl, fun j t ht => by
        rw [Tryd.params5] at ht
        have hm : t ∈ [25, 9] := by simpa using Array.mem_of_getElem? ht
        have hall : ([25, 9].all fun u => !Tryd.prog.wantsStandIn u) = true := by kernel_rfl
        exact (show Tryd.prog.wantsStandIn t = false by simpa using List.all_eq_true.1 hall t hm)⟩)
    (by kernel_rfl)
#print axioms proved
end Go.Proofs.YtghljhohbhkdeaaDoor.superBack
