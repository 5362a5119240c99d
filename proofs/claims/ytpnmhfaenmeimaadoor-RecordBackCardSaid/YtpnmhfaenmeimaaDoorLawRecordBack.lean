/- RecordBack: at any record and any two texts of at most 2^47 bytes, a record that was put is taken, whatever is behind it; what was taken, put, is what was cut off. The condition: the table of tens lies in its variable (the card ties it to the program's text). -/
import Derived.Test.YtpnmhfaenmeimaaDoorRecF
import Derived.Test.YtpnmhfaenmeimaaDoorRecR
import Derived.Test.YtpnmhfaenmeimaaDoorRecD
import Derived.Test.YtpnmhfaenmeimaaDoorRecU
import Derived.Test.YtpnmhfaenmeimaaDoorRows
import Derived.Test.YtpnmhfaenmeimaaDoorTie
import Derived.Test.YtpnmhfaenmeimaaDoorCards
import Derived.Test.YtpnmhfaenmeimaaDoorRecL
import Derived.WalkKit
import Derived.ProofKit
import Derived.OpenShut
import Derived.ShutString
import Derived.ChangeOld
import Derived.Below
import Derived.LaidMore
import Derived.SevenTiedAt
import Derived.Stop.Joined
namespace Go.Proofs.YtpnmhfaenmeimaaDoor.recordBack
open Go.ChangeShapes Go.WideShapes Go.ChangeAt Go.RowKit
open Go.ChangeMaps (open_string shut_string)
set_option linter.unusedVariables false
open RecN RecC RecM RecL RecK RecW RecU
theorem zero_eq (W : World) : (binOp .eql 23 (.agg #[.int .i64 0, .int .i64 0, .int .i64 0, .int .i64 0, .int .i64 0, .int .i64 0, .string ⟨#[]⟩, .string ⟨#[]⟩]) (.agg #[.int .i64 0, .int .i64 0, .int .i64 0, .int .i64 0, .int .i64 0, .int .i64 0, .string ⟨#[]⟩, .string ⟨#[]⟩])).run Tryd.prog W = .ok (.bool true) W := run_eql_rec W zero zero true (dt rfl)
set_option maxRecDepth 100000 in
theorem long (r : Rec) (b s : List UInt8) (q : Bool) (w : World) (ht : Tens w) (hq : RecR.fewB r = q) (h : q = false ∨ (q = true ∧ (10000 : Int) < (b.length : Int)) ∨ (q = true ∧ ¬ (10000 : Int) < (b.length : Int) ∧ (10000 : Int) < (s.length : Int))) :
    Calls Tryd.prog 5 #[.agg #[.int .i64 r.k, .int .i64 r.ep, .int .i64 r.tm, .int .i64 r.ct, .int .i64 r.tg, .int .i64 r.un, .string ⟨r.rt.toArray⟩, .string ⟨r.nm.toArray⟩], .string ⟨b.toArray⟩, .string ⟨s.toArray⟩] w fun e w' => e = .returned (.bool true) ∧ Below w.heap.size w w' := by
  obtain ⟨W1, hW1⟩ : ∃ W1, W1 = w.alloc (.cells #[.int .i64 r.k, .int .i64 r.ep, .int .i64 r.tm, .int .i64 r.ct, .int .i64 r.tg, .int .i64 r.un, .string ⟨r.rt.toArray⟩, .string ⟨r.nm.toArray⟩] 23) := ⟨_, rfl⟩
  have SS : Hid (Wt w r W1) := Lib.hid (by rw [hW1]; exact wt_new w r ht)
  obtain ⟨k0, k1, k2, k3, k4, k5, k6, k7⟩ := SS.out.k.cells
  have hz := size_mk s
  have hy := size_mk b
  have HF := Lib.hid (fun W => RecR.Few r W)
  rw [hq] at HF
  clear hq ht
  go_enter Tryd.func5, Tryd.ntmps5
  go_upto_region 1 with (fail)
  rw [← hW1]
  clear hW1
  rcases h with rfl | ⟨rfl, h⟩ | ⟨rfl, h, h'⟩
  all_goals
    go_wp2_with (first
      | (go_at_call 7; refine (HF.out _).mono ?_; rintro e w2 ⟨rfl, hb⟩; replace SS := Lib.hid (SS.out.step hb); clear hb)
      | (go_at_call 8; refine (RecF.alive _ SS.out.tens).mono ?_; rintro e w3 ⟨rfl, hb⟩; replace SS := Lib.hid (SS.out.step hb); clear hb))
    go_ret
    exact ⟨rfl, SS.out.bel⟩
set_option maxRecDepth 100000 in
set_option maxHeartbeats 8000000 in
theorem way_yes_yes (r : Rec) (b s : List UInt8) (w : World) (ht : Tens w) (hf : RecR.fewB r = true) (h : ¬ (10000 : Int) < (b.length : Int)) (h' : ¬ (10000 : Int) < (s.length : Int)) (hr : right r) (hk : took s) :
    Calls Tryd.prog 5 #[.agg #[.int .i64 r.k, .int .i64 r.ep, .int .i64 r.tm, .int .i64 r.ct, .int .i64 r.tg, .int .i64 r.un, .string ⟨r.rt.toArray⟩, .string ⟨r.nm.toArray⟩], .string ⟨b.toArray⟩, .string ⟨s.toArray⟩] w fun e w' => e = .returned (.bool true) ∧ Below w.heap.size w w' := by
  obtain ⟨W1, hW1⟩ : ∃ W1, W1 = w.alloc (.cells #[.int .i64 r.k, .int .i64 r.ep, .int .i64 r.tm, .int .i64 r.ct, .int .i64 r.tg, .int .i64 r.un, .string ⟨r.rt.toArray⟩, .string ⟨r.nm.toArray⟩] 23) := ⟨_, rfl⟩
  have SS : Hid (Wt w r W1) := Lib.hid (by rw [hW1]; exact wt_new w r ht)
  obtain ⟨k0, k1, k2, k3, k4, k5, k6, k7⟩ := SS.out.k.cells
  have hz := size_mk s
  have hy := size_mk b
  have HF := Lib.hid (fun W => RecR.Few r W)
  rw [hf] at HF
  have HP := Lib.hid (fun W => RecQ.Put r W)
  have HT2 := Lib.hid (fun W => RecU.Take s W (by unfold maxLen; omega))
  rw [RecQ.put_yes hr] at HP
  have hbl := bytes_len hr
  have hbo := bounds hr
  have HT1 := Lib.hid (fun W => RecU.Take (RecN.bytes r ++ b) W (by rw [List.length_append]; unfold maxLen; omega))
  rw [take_bytes hr b, tc_yes (show took (RecN.bytes r ++ b) from by
    have := take_bytes hr b
    by_cases hk : took (RecN.bytes r ++ b)
    · exact hk
    · rw [take_no hk] at this
      cases (Prod.mk.inj (Prod.mk.inj this).2).2)] at HT1
  have a1 := fun c (hc : RecN.bytes r ++ b = c) W => RecD.add_l (RecN.bytes r) b c hc (by omega) (by omega) W
  generalize hc1 : RecN.bytes r ++ b = c1 at *
  replace a1 := a1 c1 rfl
  dsimp only at HP HT1
  have hne := fun W => run_neq_rec W r r true (dt rfl)
  clear hbl hbo hc1
  have hbk := bytes_take hk
  have HP2 := Lib.hid (fun W => RecQ.Put (got s) W)
  rw [RecQ.put_yes hk.2.2.2.2] at HP2
  rw [take_yes hk, tc_yes hk] at HT2
  have hl2 := congrArg List.length hbk
  rw [List.length_append] at hl2
  have a2 := fun W => RecD.add_l (RecN.bytes (got s)) (c2 s).2.1 s hbk (by omega) (by omega) W
  dsimp only at HP2 HT2
  clear hbk hl2 hk
  generalize got s = q at *
  generalize (c2 s).2.1 = rest at *
  generalize RecN.bytes r = bs at *
  generalize RecN.bytes q = bq at *
  clear ht hf hr
  go_enter Tryd.func5, Tryd.ntmps5
  go_upto_region 1 with (fail)
  rw [← hW1]
  clear hW1
  go_upto_region 3 with (go_at_call 7; refine (HF.out _).mono ?_; rintro e w2 ⟨rfl, hb⟩; replace SS := Lib.hid (SS.out.step hb); clear hb HF k0 k1 k2 k3 k4 k5 k6 k7)
  clear h h' hz hy
  obtain ⟨k0, k1, k2, k3, k4, k5, k6, k7⟩ := SS.out.k.cells
  go_upto_region 4 with (go_at_call 9; refine (HP.out _).mono ?_; rintro e w3 ⟨rfl, hb⟩; replace SS := Lib.hid (SS.out.step hb); clear hb HP k0 k1 k2 k3 k4 k5 k6 k7)
  go_upto_region 6 with (first
    | (go_at_call 16; refine (HT1.out _).mono ?_; rintro e w4 ⟨rfl, hb⟩; replace SS := Lib.hid (SS.out.step hb); clear hb HT1)
    | (refine wpList_store_row rfl 23 _ _ rfl w4.heap.size _ rfl rfl 23 _ (heap_alloc_new w4 _) infoR rfl (one8 r) ?_))
  generalize hW5 : World.setRow (World.alloc w4 _) _ _ = W5
  replace SS : Hid (Wt w r W5) := Lib.hid (by rw [← hW5]; exact SS.out.step (kept_new _ _ _ _))
  have K5 : Hid (Bk W5 w4.heap.size r) := Lib.hid (by rw [← hW5]; exact has_new _ _ _ _)
  clear hW5
  generalize w4.heap.size = X at *
  obtain ⟨x0, x1, x2, x3, x4, x5, x6, x7⟩ := K5.out.cells
  obtain ⟨k0, k1, k2, k3, k4, k5, k6, k7⟩ := SS.out.k.cells
  go_upto_region 8 with (fail)
  clear x0 x1 x2 x3 x4 x5 x6 x7 k0 k1 k2 k3 k4 k5 k6 k7 K5 a1 hne
  go_upto_region 9 with (first
    | (go_at_call 16; refine (HT2.out _).mono ?_; rintro e w6 ⟨rfl, hb⟩; replace SS := Lib.hid (SS.out.step hb); clear hb HT2)
    | (refine wpList_store_row rfl 23 _ _ rfl w6.heap.size _ rfl rfl 23 _ (heap_alloc_new w6 _) infoR rfl (one8 q) ?_))
  generalize hW7 : World.setRow (World.alloc w6 _) _ _ = W7
  replace SS : Hid (Wt w r W7) := Lib.hid (by rw [← hW7]; exact SS.out.step (kept_new _ _ _ _))
  have K7 : Hid (Bk W7 w6.heap.size q) := Lib.hid (by rw [← hW7]; exact has_new _ _ _ _)
  clear hW7
  generalize w6.heap.size = Y at *
  obtain ⟨y0, y1, y2, y3, y4, y5, y6, y7⟩ := K7.out.cells
  go_upto_region 12 with (go_at_call 9; refine (HP2.out _).mono ?_; rintro e w8 ⟨rfl, hb⟩; replace SS := Lib.hid (SS.out.step hb); clear hb HP2 K7 y0 y1 y2 y3 y4 y5 y6 y7)
  go_wp2_with (go_at_call 8; refine (RecF.alive _ SS.out.tens).mono ?_; rintro e wA ⟨rfl, hb⟩; replace SS := Lib.hid (SS.out.step hb); clear hb)
  go_ret
  exact ⟨rfl, SS.out.bel⟩
set_option maxRecDepth 100000 in
set_option maxHeartbeats 8000000 in
theorem way_yes_no (r : Rec) (b s : List UInt8) (w : World) (ht : Tens w) (hf : RecR.fewB r = true) (h : ¬ (10000 : Int) < (b.length : Int)) (h' : ¬ (10000 : Int) < (s.length : Int)) (hr : right r) (hk : ¬ took s) :
    Calls Tryd.prog 5 #[.agg #[.int .i64 r.k, .int .i64 r.ep, .int .i64 r.tm, .int .i64 r.ct, .int .i64 r.tg, .int .i64 r.un, .string ⟨r.rt.toArray⟩, .string ⟨r.nm.toArray⟩], .string ⟨b.toArray⟩, .string ⟨s.toArray⟩] w fun e w' => e = .returned (.bool true) ∧ Below w.heap.size w w' := by
  obtain ⟨W1, hW1⟩ : ∃ W1, W1 = w.alloc (.cells #[.int .i64 r.k, .int .i64 r.ep, .int .i64 r.tm, .int .i64 r.ct, .int .i64 r.tg, .int .i64 r.un, .string ⟨r.rt.toArray⟩, .string ⟨r.nm.toArray⟩] 23) := ⟨_, rfl⟩
  have SS : Hid (Wt w r W1) := Lib.hid (by rw [hW1]; exact wt_new w r ht)
  obtain ⟨k0, k1, k2, k3, k4, k5, k6, k7⟩ := SS.out.k.cells
  have hz := size_mk s
  have hy := size_mk b
  have HF := Lib.hid (fun W => RecR.Few r W)
  rw [hf] at HF
  have HP := Lib.hid (fun W => RecQ.Put r W)
  have HT2 := Lib.hid (fun W => RecU.Take s W (by unfold maxLen; omega))
  rw [RecQ.put_yes hr] at HP
  have hbl := bytes_len hr
  have hbo := bounds hr
  have HT1 := Lib.hid (fun W => RecU.Take (RecN.bytes r ++ b) W (by rw [List.length_append]; unfold maxLen; omega))
  rw [take_bytes hr b, tc_yes (show took (RecN.bytes r ++ b) from by
    have := take_bytes hr b
    by_cases hk : took (RecN.bytes r ++ b)
    · exact hk
    · rw [take_no hk] at this
      cases (Prod.mk.inj (Prod.mk.inj this).2).2)] at HT1
  have a1 := fun c (hc : RecN.bytes r ++ b = c) W => RecD.add_l (RecN.bytes r) b c hc (by omega) (by omega) W
  generalize hc1 : RecN.bytes r ++ b = c1 at *
  replace a1 := a1 c1 rfl
  dsimp only at HP HT1
  have hne := fun W => run_neq_rec W r r true (dt rfl)
  clear hbl hbo hc1
  rw [take_no hk, tc_no hk] at HT2
  replace HT2 : Hid (∀ W, Calls Tryd.prog 16 #[.string ⟨s.toArray⟩] W fun e w' => e = .returned (.tuple #[.agg #[.int .i64 0, .int .i64 0, .int .i64 0, .int .i64 0, .int .i64 0, .int .i64 0, .string ⟨#[]⟩, .string ⟨#[]⟩], .string ⟨#[]⟩, .int .i64 3]) ∧ Below W.heap.size W w') := Lib.hid (fun W => HT2.out W)
  have heq := fun W => zero_eq W
  clear hk
  generalize RecN.bytes r = bs at *
  clear ht hf hr
  go_enter Tryd.func5, Tryd.ntmps5
  go_upto_region 1 with (fail)
  rw [← hW1]
  clear hW1
  go_upto_region 3 with (go_at_call 7; refine (HF.out _).mono ?_; rintro e w2 ⟨rfl, hb⟩; replace SS := Lib.hid (SS.out.step hb); clear hb HF k0 k1 k2 k3 k4 k5 k6 k7)
  clear h h' hz hy
  obtain ⟨k0, k1, k2, k3, k4, k5, k6, k7⟩ := SS.out.k.cells
  go_upto_region 4 with (go_at_call 9; refine (HP.out _).mono ?_; rintro e w3 ⟨rfl, hb⟩; replace SS := Lib.hid (SS.out.step hb); clear hb HP k0 k1 k2 k3 k4 k5 k6 k7)
  go_upto_region 6 with (first
    | (go_at_call 16; refine (HT1.out _).mono ?_; rintro e w4 ⟨rfl, hb⟩; replace SS := Lib.hid (SS.out.step hb); clear hb HT1)
    | (refine wpList_store_row rfl 23 _ _ rfl w4.heap.size _ rfl rfl 23 _ (heap_alloc_new w4 _) infoR rfl (one8 r) ?_))
  generalize hW5 : World.setRow (World.alloc w4 _) _ _ = W5
  replace SS : Hid (Wt w r W5) := Lib.hid (by rw [← hW5]; exact SS.out.step (kept_new _ _ _ _))
  have K5 : Hid (Bk W5 w4.heap.size r) := Lib.hid (by rw [← hW5]; exact has_new _ _ _ _)
  clear hW5
  generalize w4.heap.size = X at *
  obtain ⟨x0, x1, x2, x3, x4, x5, x6, x7⟩ := K5.out.cells
  obtain ⟨k0, k1, k2, k3, k4, k5, k6, k7⟩ := SS.out.k.cells
  go_upto_region 8 with (fail)
  clear x0 x1 x2 x3 x4 x5 x6 x7 k0 k1 k2 k3 k4 k5 k6 k7 K5 a1 hne
  go_upto_region 9 with (first
    | (go_at_call 16; refine (HT2.out _).mono ?_; rintro e w6 ⟨rfl, hb⟩; replace SS := Lib.hid (SS.out.step hb); clear hb HT2)
    | (refine wpList_store_row rfl 23 _ _ rfl w6.heap.size _ rfl rfl 23 _ (heap_alloc_new w6 _) infoR rfl one0 ?_))
  generalize hW7 : World.setRow (World.alloc w6 _) _ _ = W7
  replace SS : Hid (Wt w r W7) := Lib.hid (by rw [← hW7]; exact SS.out.step (kept_new _ _ _ _))
  have K7 : Hid (Bk W7 w6.heap.size zero) := Lib.hid (by rw [← hW7]; exact has_new _ _ _ _)
  clear hW7
  generalize w6.heap.size = Y at *
  have hy8 : W7.cell? ⟨Y, 0, none⟩ = some (.int .i64 0) ∧ W7.cell? ⟨Y, 1, none⟩ = some (.int .i64 0) ∧ W7.cell? ⟨Y, 2, none⟩ = some (.int .i64 0) ∧ W7.cell? ⟨Y, 3, none⟩ = some (.int .i64 0) ∧ W7.cell? ⟨Y, 4, none⟩ = some (.int .i64 0) ∧ W7.cell? ⟨Y, 5, none⟩ = some (.int .i64 0) ∧ W7.cell? ⟨Y, 6, none⟩ = some (.string ⟨#[]⟩) ∧ W7.cell? ⟨Y, 7, none⟩ = some (.string ⟨#[]⟩) := K7.out.cells
  obtain ⟨y0, y1, y2, y3, y4, y5, y6, y7⟩ := hy8
  go_wp2_with (go_at_call 8; refine (RecF.alive _ SS.out.tens).mono ?_; rintro e wA ⟨rfl, hb⟩; replace SS := Lib.hid (SS.out.step hb); clear hb)
  go_ret
  exact ⟨rfl, SS.out.bel⟩
set_option maxRecDepth 100000 in
set_option maxHeartbeats 8000000 in
theorem way_no_yes (r : Rec) (b s : List UInt8) (w : World) (ht : Tens w) (hf : RecR.fewB r = true) (h : ¬ (10000 : Int) < (b.length : Int)) (h' : ¬ (10000 : Int) < (s.length : Int)) (hr : ¬ right r) (hk : took s) :
    Calls Tryd.prog 5 #[.agg #[.int .i64 r.k, .int .i64 r.ep, .int .i64 r.tm, .int .i64 r.ct, .int .i64 r.tg, .int .i64 r.un, .string ⟨r.rt.toArray⟩, .string ⟨r.nm.toArray⟩], .string ⟨b.toArray⟩, .string ⟨s.toArray⟩] w fun e w' => e = .returned (.bool true) ∧ Below w.heap.size w w' := by
  obtain ⟨W1, hW1⟩ : ∃ W1, W1 = w.alloc (.cells #[.int .i64 r.k, .int .i64 r.ep, .int .i64 r.tm, .int .i64 r.ct, .int .i64 r.tg, .int .i64 r.un, .string ⟨r.rt.toArray⟩, .string ⟨r.nm.toArray⟩] 23) := ⟨_, rfl⟩
  have SS : Hid (Wt w r W1) := Lib.hid (by rw [hW1]; exact wt_new w r ht)
  obtain ⟨k0, k1, k2, k3, k4, k5, k6, k7⟩ := SS.out.k.cells
  have hz := size_mk s
  have hy := size_mk b
  have HF := Lib.hid (fun W => RecR.Few r W)
  rw [hf] at HF
  have HP := Lib.hid (fun W => RecQ.Put r W)
  have HT2 := Lib.hid (fun W => RecU.Take s W (by unfold maxLen; omega))
  rw [RecQ.put_no hr] at HP
  dsimp only at HP
  have hbk := bytes_take hk
  have HP2 := Lib.hid (fun W => RecQ.Put (got s) W)
  rw [RecQ.put_yes hk.2.2.2.2] at HP2
  rw [take_yes hk, tc_yes hk] at HT2
  have hl2 := congrArg List.length hbk
  rw [List.length_append] at hl2
  have a2 := fun W => RecD.add_l (RecN.bytes (got s)) (c2 s).2.1 s hbk (by omega) (by omega) W
  dsimp only at HP2 HT2
  clear hbk hl2 hk
  generalize got s = q at *
  generalize (c2 s).2.1 = rest at *
  generalize RecN.bytes q = bq at *
  clear ht hf hr
  go_enter Tryd.func5, Tryd.ntmps5
  go_upto_region 1 with (fail)
  rw [← hW1]
  clear hW1
  go_upto_region 3 with (go_at_call 7; refine (HF.out _).mono ?_; rintro e w2 ⟨rfl, hb⟩; replace SS := Lib.hid (SS.out.step hb); clear hb HF k0 k1 k2 k3 k4 k5 k6 k7)
  clear h h' hz hy
  obtain ⟨k0, k1, k2, k3, k4, k5, k6, k7⟩ := SS.out.k.cells
  go_upto_region 4 with (go_at_call 9; refine (HP.out _).mono ?_; rintro e w3 ⟨rfl, hb⟩; replace SS := Lib.hid (SS.out.step hb); clear hb HP k0 k1 k2 k3 k4 k5 k6 k7)
  go_upto_region 8 with (fail)
  go_upto_region 9 with (first
    | (go_at_call 16; refine (HT2.out _).mono ?_; rintro e w6 ⟨rfl, hb⟩; replace SS := Lib.hid (SS.out.step hb); clear hb HT2)
    | (refine wpList_store_row rfl 23 _ _ rfl w6.heap.size _ rfl rfl 23 _ (heap_alloc_new w6 _) infoR rfl (one8 q) ?_))
  generalize hW7 : World.setRow (World.alloc w6 _) _ _ = W7
  replace SS : Hid (Wt w r W7) := Lib.hid (by rw [← hW7]; exact SS.out.step (kept_new _ _ _ _))
  have K7 : Hid (Bk W7 w6.heap.size q) := Lib.hid (by rw [← hW7]; exact has_new _ _ _ _)
  clear hW7
  generalize w6.heap.size = Y at *
  obtain ⟨y0, y1, y2, y3, y4, y5, y6, y7⟩ := K7.out.cells
  go_upto_region 12 with (go_at_call 9; refine (HP2.out _).mono ?_; rintro e w8 ⟨rfl, hb⟩; replace SS := Lib.hid (SS.out.step hb); clear hb HP2 K7 y0 y1 y2 y3 y4 y5 y6 y7)
  go_wp2_with (go_at_call 8; refine (RecF.alive _ SS.out.tens).mono ?_; rintro e wA ⟨rfl, hb⟩; replace SS := Lib.hid (SS.out.step hb); clear hb)
  go_ret
  exact ⟨rfl, SS.out.bel⟩
set_option maxRecDepth 100000 in
set_option maxHeartbeats 8000000 in
theorem way_no_no (r : Rec) (b s : List UInt8) (w : World) (ht : Tens w) (hf : RecR.fewB r = true) (h : ¬ (10000 : Int) < (b.length : Int)) (h' : ¬ (10000 : Int) < (s.length : Int)) (hr : ¬ right r) (hk : ¬ took s) :
    Calls Tryd.prog 5 #[.agg #[.int .i64 r.k, .int .i64 r.ep, .int .i64 r.tm, .int .i64 r.ct, .int .i64 r.tg, .int .i64 r.un, .string ⟨r.rt.toArray⟩, .string ⟨r.nm.toArray⟩], .string ⟨b.toArray⟩, .string ⟨s.toArray⟩] w fun e w' => e = .returned (.bool true) ∧ Below w.heap.size w w' := by
  obtain ⟨W1, hW1⟩ : ∃ W1, W1 = w.alloc (.cells #[.int .i64 r.k, .int .i64 r.ep, .int .i64 r.tm, .int .i64 r.ct, .int .i64 r.tg, .int .i64 r.un, .string ⟨r.rt.toArray⟩, .string ⟨r.nm.toArray⟩] 23) := ⟨_, rfl⟩
  have SS : Hid (Wt w r W1) := Lib.hid (by rw [hW1]; exact wt_new w r ht)
  obtain ⟨k0, k1, k2, k3, k4, k5, k6, k7⟩ := SS.out.k.cells
  have hz := size_mk s
  have hy := size_mk b
  have HF := Lib.hid (fun W => RecR.Few r W)
  rw [hf] at HF
  have HP := Lib.hid (fun W => RecQ.Put r W)
  have HT2 := Lib.hid (fun W => RecU.Take s W (by unfold maxLen; omega))
  rw [RecQ.put_no hr] at HP
  dsimp only at HP
  rw [take_no hk, tc_no hk] at HT2
  replace HT2 : Hid (∀ W, Calls Tryd.prog 16 #[.string ⟨s.toArray⟩] W fun e w' => e = .returned (.tuple #[.agg #[.int .i64 0, .int .i64 0, .int .i64 0, .int .i64 0, .int .i64 0, .int .i64 0, .string ⟨#[]⟩, .string ⟨#[]⟩], .string ⟨#[]⟩, .int .i64 3]) ∧ Below W.heap.size W w') := Lib.hid (fun W => HT2.out W)
  have heq := fun W => zero_eq W
  clear hk
  clear ht hf hr
  go_enter Tryd.func5, Tryd.ntmps5
  go_upto_region 1 with (fail)
  rw [← hW1]
  clear hW1
  go_upto_region 3 with (go_at_call 7; refine (HF.out _).mono ?_; rintro e w2 ⟨rfl, hb⟩; replace SS := Lib.hid (SS.out.step hb); clear hb HF k0 k1 k2 k3 k4 k5 k6 k7)
  clear h h' hz hy
  obtain ⟨k0, k1, k2, k3, k4, k5, k6, k7⟩ := SS.out.k.cells
  go_upto_region 4 with (go_at_call 9; refine (HP.out _).mono ?_; rintro e w3 ⟨rfl, hb⟩; replace SS := Lib.hid (SS.out.step hb); clear hb HP k0 k1 k2 k3 k4 k5 k6 k7)
  go_upto_region 8 with (fail)
  go_upto_region 9 with (first
    | (go_at_call 16; refine (HT2.out _).mono ?_; rintro e w6 ⟨rfl, hb⟩; replace SS := Lib.hid (SS.out.step hb); clear hb HT2)
    | (refine wpList_store_row rfl 23 _ _ rfl w6.heap.size _ rfl rfl 23 _ (heap_alloc_new w6 _) infoR rfl one0 ?_))
  generalize hW7 : World.setRow (World.alloc w6 _) _ _ = W7
  replace SS : Hid (Wt w r W7) := Lib.hid (by rw [← hW7]; exact SS.out.step (kept_new _ _ _ _))
  have K7 : Hid (Bk W7 w6.heap.size zero) := Lib.hid (by rw [← hW7]; exact has_new _ _ _ _)
  clear hW7
  generalize w6.heap.size = Y at *
  have hy8 : W7.cell? ⟨Y, 0, none⟩ = some (.int .i64 0) ∧ W7.cell? ⟨Y, 1, none⟩ = some (.int .i64 0) ∧ W7.cell? ⟨Y, 2, none⟩ = some (.int .i64 0) ∧ W7.cell? ⟨Y, 3, none⟩ = some (.int .i64 0) ∧ W7.cell? ⟨Y, 4, none⟩ = some (.int .i64 0) ∧ W7.cell? ⟨Y, 5, none⟩ = some (.int .i64 0) ∧ W7.cell? ⟨Y, 6, none⟩ = some (.string ⟨#[]⟩) ∧ W7.cell? ⟨Y, 7, none⟩ = some (.string ⟨#[]⟩) := K7.out.cells
  obtain ⟨y0, y1, y2, y3, y4, y5, y6, y7⟩ := hy8
  go_wp2_with (go_at_call 8; refine (RecF.alive _ SS.out.tens).mono ?_; rintro e wA ⟨rfl, hb⟩; replace SS := Lib.hid (SS.out.step hb); clear hb)
  go_ret
  exact ⟨rfl, SS.out.bel⟩
theorem walk (r : Rec) (b s : ByteArray) (w : World) (_h : b.size ≤ maxLen) (_h' : s.size ≤ maxLen) (ht : Tens w) :
    Calls Tryd.prog 5 #[.agg #[.int .i64 r.k, .int .i64 r.ep, .int .i64 r.tm, .int .i64 r.ct, .int .i64 r.tg, .int .i64 r.un, .string ⟨r.rt.toArray⟩, .string ⟨r.nm.toArray⟩], .string b, .string s] w fun e w' => e = .returned (.bool true) ∧ Below w.heap.size w w' := by
  obtain ⟨l, rfl⟩ : ∃ l : List UInt8, b = ⟨l.toArray⟩ := ⟨b.data.toList, rfl⟩
  obtain ⟨m, rfl⟩ : ∃ l : List UInt8, s = ⟨l.toArray⟩ := ⟨s.data.toList, rfl⟩
  cases hf : RecR.fewB r
  · exact long r l m false w ht hf (.inl rfl)
  · by_cases h : (10000 : Int) < (l.length : Int)
    · exact long r l m true w ht hf (.inr (.inl ⟨rfl, h⟩))
    · by_cases h' : (10000 : Int) < (m.length : Int)
      · exact long r l m true w ht hf (.inr (.inr ⟨rfl, h, h'⟩))
      · by_cases hr : right r <;> by_cases hk : took m
        · exact way_yes_yes r l m w ht hf h h' hr hk
        · exact way_yes_no r l m w ht hf h h' hr hk
        · exact way_no_yes r l m w ht hf h h' hr hk
        · exact way_no_no r l m w ht hf h h' hr hk
theorem own : ownKnob Tryd.prog.godebug = none := by kernel_rfl
theorem laidOut : laidOutB Tryd.prog = true := by kernel_rfl
set_option maxRecDepth 100000 in
theorem lifted (os : Os) (started : os.Started) (H : Type) (enc : TypeId × Value → H) :
    ReturnsInHanded {} Tryd.checked os 5 .any (fun w args => (Rows.recordBackSpec.pre enc Tryd.prog Tryd.f5 Rows.recordBackRow.domain false w args ∧ laidMetH Tryd.prog Rows.recordBackRow.laid w) ∧ sizedMet enc Tryd.prog Tryd.f5 (OpenSpec.ofChange Rows.recordBackSpec) false w args) (Rows.recordBackSpec.post enc Tryd.prog Tryd.f5 false true false false) := by
  refine returnsInHanded_of_change_and (C := Tryd.checked) (X := fun w _ => laidMetH Tryd.prog Rows.recordBackRow.laid w) (fun _ _ _ hh h => h.of_heap hh) own started (by kernel_rfl) Tryd.func5
    (ChangeSpec.witness_shaped (enc := enc) (C := Tryd.checked) (os := os) (X := fun w _ => laidMetH Tryd.prog Rows.recordBackRow.laid w) false (World.doorLaid Tryd.prog 400 os) #[.agg #[.int .i64 0, .int .i64 0, .int .i64 0, .int .i64 0, .int .i64 0, .int .i64 0, .string ByteArray.empty, .string ByteArray.empty], .string ByteArray.empty, .string ByteArray.empty] 8 rfl (World.shaped_of_RefB (by kernel_rfl) (by kernel_rfl)) (by kernel_rfl) (by kernel_rfl) (by kernel_rfl) (RecL.door_met os _)) ?_
  intro W base args ds gs before hval0 hW _ hZ hL _
  have hr := RecL.of_laid hL
  have hval : ∀ (j : Nat) t v, Tryd.f5.params[j]? = some t → args[j]? = some v → Value.okWide Tryd.prog W .any base t v := hval0
  have hW' := hW
  obtain ⟨p, q, hA0, hV, rfl, hfz, hnd⟩ := hW
  have hA : DataW.TrodAll enc Tryd.prog W 0 (fun _ => true) true Tryd.f5.params.toList args.toList ds p := hA0
  rw [Tryd.params5] at hA hval
  obtain ⟨v0, vs0, d0, ds0, p0, q0, hargs, rfl, rfl, h0, r0⟩ := trodAll_cons hA
  obtain ⟨v1, vs1, d1, ds1, p1, q1, rfl, rfl, rfl, h1, r1⟩ := trodAll_cons r0
  obtain ⟨v2, vs2, d2, ds2, p2, q2, rfl, rfl, rfl, h2, r2⟩ := trodAll_cons r1
  obtain ⟨rfl, rfl, rfl⟩ := trodAll_nil r2
  obtain rfl : args = #[v0, v1, v2] := by cases args; simp_all
  obtain ⟨rfl, rfl⟩ := trodVars_none hV
  have k0 := h0
  have lt0 : ∀ x ∈ p0, x.block < W.heap.size := by obtain ⟨m, hm⟩ := k0; exact DataW.trod_lt m _ _ _ hm
  obtain ⟨a0, rfl⟩ := RecC.open_record (hval 0 23 v0 rfl rfl) h0
  obtain ⟨a1, rfl, rfl, rfl, w1⟩ := open_string Tryd.underlying9 (hval 1 9 v1 rfl rfl) h1
  obtain ⟨a2, rfl, rfl, rfl, w2⟩ := open_string Tryd.underlying9 (hval 2 9 v2 rfl rfl) h2
  clear hA0 hval0
  refine (walk a0 a1 a2 W w1 w2 hr).mono fun e W' ⟨he, bel⟩ => ?_
  subst he
  exact ⟨_, rfl, _, _, _, [], _, [], hW', trodAll_mk1 (shut_bool Tryd.underlying4 _), (trodAll_cons_mk (Below.trod laidOut (by kernel_rfl) (of_decide_eq_true (by kernel_rfl)) k0 bel lt0) (trodAll_cons_mk (shut_string Tryd.underlying9 w1) (trodAll_cons_mk (shut_string Tryd.underlying9 w2) trodAll_mk0))), rfl, bel.frame _, fun h => by cases h⟩
theorem over : Rows.recordBackRow.holds Tryd.pinned (OpenSpec.ofChange Rows.recordBackSpec) :=
  OpenClaim.holds_of_wide 5 Tryd.f5 rfl rfl rfl rfl rfl rfl rfl ⟨rfl, rfl, rfl, rfl, rfl⟩ rfl rfl rfl rfl rfl (by kernel_rfl) Tryd.func5 (by kernel_rfl)
    (of_decide_eq_true (by kernel_rfl)) (by unfold Func.isWrapper; first | (rw [if_pos (by decide +kernel)]; kernel_rfl) | (rw [if_neg (by decide +kernel)]; exact ⟨rfl, rfl⟩))
    (fun os started H enc _ => lifted os started H enc)
/-- THE STATEMENT, proved. -/
theorem proved : Rows.RecordBackCardSaid :=
  Claim7.holds_tied_plain_at .later [] _ true _ false
    over (fun _ h => by cases h) (by kernel_rfl) (fun _ h => by cases h) recordBack_row_tie rfl ⟨rfl, rfl⟩ (by kernel_rfl) rfl
    (fun f fn hf hfn => by
      obtain rfl : f = 5 := Option.some.inj ((show Tryd.prog.funcNamed "keepsake/keepsakelaw19.RecordBack" = some 5 by kernel_rfl).symm.trans hf) |>.symm
      obtain rfl : fn = Tryd.f5 := (Option.some.inj (Tryd.func5.symm.trans hfn)).symm
      exact ⟨by kernel_rfl, fun j t ht => by
        rw [Tryd.params5] at ht
        have hm : t ∈ [23, 9, 9] := by simpa using Array.mem_of_getElem? ht
        have hall : ([23, 9, 9].all fun u => !Tryd.prog.wantsStandIn u) = true := by kernel_rfl
        exact (show Tryd.prog.wantsStandIn t = false by simpa using List.all_eq_true.1 hall t hm)⟩)
    (by kernel_rfl)
#print axioms proved
end Go.Proofs.YtpnmhfaenmeimaaDoor.recordBack
