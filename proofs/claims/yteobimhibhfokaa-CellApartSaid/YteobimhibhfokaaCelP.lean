/- cell.Put, cell.Hold, cell.Left: the walks of their texts. No conditions. -/
import Derived.Test.YteobimhibhfokaaCelD
import Derived.Test.YteobimhibhfokaaOPack
import Derived.Test.YteobimhibhfokaaOText
import Derived.Test.YteobimhibhfokaaOFill
import Derived.Deep.RegionHeld3
import Derived.Laws.ResultCell
namespace Go.Proofs.Yteobimhibhfokaa.CelP
open Go.RowKit
open CelN CelC CelD
/-- Four ints in a block as a row. -/
theorem row4 {w : World} {g : Nat} {t : TypeId} {f : Nat × Nat} {a b c d : Int} (h : w.heap[g]? = some (.cells #[.int .i64 a, .int .i64 b, .int .i64 c, .int .i64 d] t f)) : Row w w.heap.size (some ⟨g, 0, none⟩) 4 [a, b, c, d] :=
  ⟨rfl, fun _ => ⟨g, 0, rfl, (Array.getElem?_eq_some_iff.1 h).1, fun i hi => by
    rw [Nat.zero_add]
    match i, hi with
    | 0, _ => exact blk_cell h rfl
    | 1, _ => exact blk_cell h rfl
    | 2, _ => exact blk_cell h rfl
    | 3, _ => exact blk_cell h rfl⟩⟩
/-- What Text answers. -/
theorem texted (s : List UInt8) (h : s.length ≤ 4000) (w : World) :
    Calls Try.prog 25 #[.string ⟨s.toArray⟩] w fun r w' => r = .returned (.string ⟨(txt s).toArray⟩) ∧ Below w.heap.size w w' := by
  have := OText.any ⟨s.toArray⟩ w (by rw [size_mk]; omega)
  rw [text_mk] at this
  exact this
/-- What Fill answers of what has room in a block. -/
theorem filled (a b hd : List UInt8) (e : hd = a ++ b) (h : hd.length ≤ 4096) (w : World) :
    Calls Try.prog 24 #[.string (⟨a.toArray⟩ ++ ⟨b.toArray⟩), .int .i64 4096] w fun r w' => r = .returned (.tuple #[.string ⟨(hd ++ List.replicate (4096 - hd.length) 0).toArray⟩, .int .i64 0]) ∧ Below w.heap.size w w' := by
  have := OFill.any ⟨hd.toArray⟩ 4096 w
  have hg := fill_good ⟨hd.toArray⟩ (4096 - hd.length) (by rw [size_mk]; omega)
  rw [size_mk, show ((hd.length + (4096 - hd.length) : Nat) : Int) = 4096 from by omega] at hg
  rw [hg, mk_append] at this
  rw [mk_append, ← e]
  exact this
set_option maxRecDepth 100000 in
set_option maxHeartbeats 2000000 in
theorem Put_yes (ep sl lb : Int) (gn : Bool) (ci : List UInt8) (w : World) (h : may ⟨ep, sl, lb, gn, ci⟩) :
    Calls Try.prog 8 #[.agg #[.int .i64 ep, .int .i64 sl, .int .i64 lb, .bool gn, .string ⟨ci.toArray⟩]] w fun r w' => r = .returned (.tuple #[.string ⟨(blk ⟨ep, sl, lb, gn, ci⟩).toArray⟩, .int .i64 0]) ∧ Below w.heap.size w w' := by
  obtain ⟨W1, hW1⟩ : ∃ W1, W1 = w.alloc (.cells #[.int .i64 ep, .int .i64 sl, .int .i64 lb, .bool gn, .string ⟨ci.toArray⟩] 23) := ⟨_, rfl⟩
  have SS : Hid (Ws w ep sl lb gn ci W1) := Lib.hid (by rw [hW1]; exact ws_new w ep sl lb gn ci)
  obtain ⟨k0, k1, k2, k3, k4⟩ := SS.out.k.cells
  have HC := Lib.hid (fun W => Check ep sl lb gn ci W)
  rw [check_yes h] at HC
  have HK := Lib.hid (fun W => kind ep sl lb gn ci W)
  have HL : Hid (pack [1, 4, 4, 4] [kd gn, ep, sl, lb] = (nums ⟨ep, sl, lb, gn, ci⟩, 0)) := Lib.hid (pack_may h)
  have HT := Lib.hid (fun W => texted ci h.2.2.2.1 W)
  have hl := head_len ⟨ep, sl, lb, gn, ci⟩
  have hle : (head ⟨ep, sl, lb, gn, ci⟩).length ≤ 4096 := by have := h.2.2.2.1; dsimp only at this hl; omega
  have HF : Hid (∀ W, Calls Try.prog 24 #[.string (⟨(nums ⟨ep, sl, lb, gn, ci⟩).toArray⟩ ++ ⟨(txt ci).toArray⟩), .int .i64 4096] W fun r w' => r = .returned (.tuple #[.string ⟨(blk ⟨ep, sl, lb, gn, ci⟩).toArray⟩, .int .i64 0]) ∧ Below W.heap.size W w') := Lib.hid (fun W => filled _ _ _ rfl hle W)
  have q3 := nums_len ⟨ep, sl, lb, gn, ci⟩
  have q4 := txt_len ci
  have q5 : ci.length ≤ 4000 := h.2.2.2.1
  clear hl hle h
  generalize kd gn = kn at *
  generalize txt ci = t at *
  generalize blk ⟨ep, sl, lb, gn, ci⟩ = bk at *
  generalize nums ⟨ep, sl, lb, gn, ci⟩ = nm at *
  go_enter Try.func8, Try.ntmps8
  go_upto_region 1 with (fail)
  rw [← hW1]
  clear hW1
  go_upto_region 4 with (go_at_call 12; refine (HC.out _).mono ?_; rintro r w2 ⟨rfl, hb⟩; replace SS := Lib.hid (SS.out.step hb); clear hb k0 k1 k2 k3 k4)
  replace SS := Lib.hid SS.out.drew
  have hS := SS.out.k.cells
  go_region_held3 (fun w' => w'.cell? ⟨w.heap.size, 0, none⟩ = some (.int .i64 ep) ∧ w'.cell? ⟨w.heap.size, 1, none⟩ = some (.int .i64 sl) ∧ w'.cell? ⟨w.heap.size, 2, none⟩ = some (.int .i64 lb) ∧ w'.cell? ⟨w.heap.size, 3, none⟩ = some (.bool gn) ∧ w'.cell? ⟨w.heap.size, 4, none⟩ = some (.string ⟨ci.toArray⟩))
    (first | exact hS | exact hS1)
    (first
      | (go_at_call 22; refine (widths _).mono ?_; rintro r w5 ⟨rfl, hk5, hb5⟩; have S5 := Lib.hid (SS.out.step hb5); have K5 := Lib.hid hk5; have hS := S5.out.k.cells; clear hb5 hk5)
      | (go_at_call 23; refine (HK.out _).mono ?_; rintro r w6 ⟨rfl, hb6⟩; have S6 : Hid (Ws w ep sl lb gn ci (w6.alloc (.cells #[.int .i64 kn, .int .i64 ep, .int .i64 sl, .int .i64 lb] 3))) := Lib.hid ((S5.out.step hb6).step (below_new w6 _)); have R6 : Hid (Row (w6.alloc (.cells #[.int .i64 kn, .int .i64 ep, .int .i64 sl, .int .i64 lb] 3)) (w6.alloc (.cells #[.int .i64 kn, .int .i64 ep, .int .i64 sl, .int .i64 lb] 3)).heap.size (some ⟨w2.heap.size, 0, none⟩) 4 [1, 4, 4, 4]) := Lib.hid (row4 ((Below.heap_alloc _ _ _ (lt_of_some ((hb6.block _ (lt_of_some K5.out)).trans K5.out))).trans ((hb6.block _ (lt_of_some K5.out)).trans K5.out))); have N6 : Hid (Row (w6.alloc (.cells #[.int .i64 kn, .int .i64 ep, .int .i64 sl, .int .i64 lb] 3)) (w6.alloc (.cells #[.int .i64 kn, .int .i64 ep, .int .i64 sl, .int .i64 lb] 3)).heap.size (some ⟨w6.heap.size, 0, none⟩) 4 [kn, ep, sl, lb]) := Lib.hid (row4 (heap_alloc_new w6 _)); have hS := (S5.out.step hb6).k.cells; have hS1 := S6.out.k.cells; clear hb6)
      | (go_at_call 21; refine (OPack.any _ _ _ _ _ _ _ _ _ R6.out N6.out (by omega)).mono ?_; rw [HL.out]; rintro r w7 ⟨rfl, hb7⟩; have S7 := Lib.hid (S6.out.step hb7); have hS := S7.out.k.cells; clear hb7))
  obtain ⟨k0, k1, k2, k3, k4⟩ := hS
  clear hS1 S5 SS K5 S6 R6 N6 HC HK HL
  have hz := size_mk ci
  have B7 := Lib.hid S7.out.bel
  clear S7
  go_wp2_with (first
    | (go_at_call 25; refine (HT.out _).mono ?_; rintro r w8 ⟨rfl, hb⟩; have B8 := Lib.hid (B7.out.trans (hb.mono B7.out.size)); clear hb)
    | (go_at_call 24; refine (HF.out _).mono ?_; rintro r w9 ⟨rfl, hb⟩; have B9 := Lib.hid (B8.out.trans (hb.mono B8.out.size)); clear hb))
  go_ret2
  exact ⟨rfl, B9.out⟩
theorem Put_no (ep sl lb : Int) (gn : Bool) (ci : List UInt8) (w : World) (h : ¬ may ⟨ep, sl, lb, gn, ci⟩) :
    Calls Try.prog 8 #[.agg #[.int .i64 ep, .int .i64 sl, .int .i64 lb, .bool gn, .string ⟨ci.toArray⟩]] w fun r w' => r = .returned (.tuple #[.string ⟨#[]⟩, .int .i64 2]) ∧ Below w.heap.size w w' := by
  obtain ⟨W1, hW1⟩ : ∃ W1, W1 = w.alloc (.cells #[.int .i64 ep, .int .i64 sl, .int .i64 lb, .bool gn, .string ⟨ci.toArray⟩] 23) := ⟨_, rfl⟩
  have SS : Hid (Ws w ep sl lb gn ci W1) := Lib.hid (by rw [hW1]; exact ws_new w ep sl lb gn ci)
  obtain ⟨k0, k1, k2, k3, k4⟩ := SS.out.k.cells
  have HC := Lib.hid (fun W => Check ep sl lb gn ci W)
  rw [check_no h] at HC
  clear h
  go_enter Try.func8, Try.ntmps8
  go_upto_region 1 with (fail)
  rw [← hW1]
  clear hW1
  go_wp2_with (go_at_call 12; refine (HC.out _).mono ?_; rintro r w2 ⟨rfl, hb⟩; replace SS := Lib.hid (SS.out.step hb); clear hb)
  go_ret2
  exact ⟨rfl, SS.out.bel⟩
/-- What cell.Put answers. -/
theorem Put (ep sl lb : Int) (gn : Bool) (ci : List UInt8) (w : World) :
    Calls Try.prog 8 #[.agg #[.int .i64 ep, .int .i64 sl, .int .i64 lb, .bool gn, .string ⟨ci.toArray⟩]] w fun r w' => r = .returned (.tuple #[.string ⟨(put_ ⟨ep, sl, lb, gn, ci⟩).1.toArray⟩, .int .i64 (put_ ⟨ep, sl, lb, gn, ci⟩).2]) ∧ Below w.heap.size w w' := by
  by_cases h : may ⟨ep, sl, lb, gn, ci⟩
  · rw [CelN.put_yes h]
    exact Put_yes ep sl lb gn ci w h
  · rw [CelN.put_no h]
    exact Put_no ep sl lb gn ci w h
theorem three : put 3 1 = ([3], 0) := by decide +kernel
theorem put3 (w : World) :
    Calls Try.prog 30 #[.int .i64 3, .int .i64 1] w fun r w' => r = .returned (.tuple #[.string ⟨([3] : List UInt8).toArray⟩, .int .i64 0]) ∧ Below w.heap.size w w' := by
  have := OPut.any 3 1 w
  rw [three] at this
  exact this
theorem ins_len (s : List UInt8) : ins ((s.length : Nat) : Int) 1 4000 = decide (hmay s) := by
  by_cases h : hmay s
  · rw [dt h]
    exact ins_yes (by have := h.1; omega) (by have := h.2; omega)
  · rw [df h]
    exact decide_eq_false (fun hh => h ⟨by omega, by omega⟩)
set_option maxRecDepth 100000 in
theorem Hold_yes (s : List UInt8) (w : World) (h : hmay s) :
    Calls Try.prog 10 #[.string ⟨s.toArray⟩] w fun r w' => r = .returned (.tuple #[.string ⟨(hblk s).toArray⟩, .int .i64 0]) ∧ Below w.heap.size w w' := by
  have hz := size_mk s
  have HW := Lib.hid (fun W => within 1 4000 W)
  have HA := Lib.hid (fun B W (hl : Lm W B 1 4000) => asked ((s.length : Nat) : Int) 1 4000 B W hl)
  rw [ins_len, dt h] at HA
  have HP := Lib.hid (fun W => put3 W)
  have HT := Lib.hid (fun W => texted s h.2 W)
  have hl := hhead_len s
  have hle : (hhead s).length ≤ 4096 := by have := h.2; omega
  have HF : Hid (∀ W, Calls Try.prog 24 #[.string (⟨([3] : List UInt8).toArray⟩ ++ ⟨(txt s).toArray⟩), .int .i64 4096] W fun r w' => r = .returned (.tuple #[.string ⟨(hblk s).toArray⟩, .int .i64 0]) ∧ Below W.heap.size W w') := Lib.hid (fun W => filled _ _ _ rfl hle W)
  have q4 := txt_len s
  have q5 : s.length ≤ 4000 := h.2
  have q3 : ([3] : List UInt8).length = 1 := rfl
  clear hl hle h
  generalize txt s = t at *
  generalize hblk s = bk at *
  generalize ([3] : List UInt8) = nm at *
  go_enter Try.func10, Try.ntmps10
  go_wp2_with (first
    | (go_at_call 29; refine (HW.out _).mono ?_; rintro r w2 ⟨rfl, hl2, hb⟩; have L2 := Lib.hid hl2; have B2 := Lib.hid hb; clear hl2 hb)
    | (go_at_call 38; refine (HA.out _ _ L2.out).mono ?_; rintro r _ ⟨rfl, rfl⟩)
    | (go_at_call 30; refine (HP.out _).mono ?_; rintro r w4 ⟨rfl, hb⟩; have B4 := Lib.hid (B2.out.trans (hb.mono B2.out.size)); clear hb)
    | (go_at_call 25; refine (HT.out _).mono ?_; rintro r w8 ⟨rfl, hb⟩; have B8 := Lib.hid (B4.out.trans (hb.mono B4.out.size)); clear hb)
    | (go_at_call 24; refine (HF.out _).mono ?_; rintro r w9 ⟨rfl, hb⟩; have B9 := Lib.hid (B8.out.trans (hb.mono B8.out.size)); clear hb))
  go_ret2
  exact ⟨rfl, B9.out⟩
theorem Hold_no (s : List UInt8) (w : World) (h : ¬ hmay s) :
    Calls Try.prog 10 #[.string ⟨s.toArray⟩] w fun r w' => r = .returned (.tuple #[.string ⟨#[]⟩, .int .i64 2]) ∧ Below w.heap.size w w' := by
  have hz := size_mk s
  have HW := Lib.hid (fun W => within 1 4000 W)
  have HA := Lib.hid (fun B W (hl : Lm W B 1 4000) => asked ((s.length : Nat) : Int) 1 4000 B W hl)
  rw [ins_len, df h] at HA
  clear h
  go_enter Try.func10, Try.ntmps10
  go_wp2_with (first
    | (go_at_call 29; refine (HW.out _).mono ?_; rintro r w2 ⟨rfl, hl2, hb⟩; have L2 := Lib.hid hl2; have B2 := Lib.hid hb; clear hl2 hb)
    | (go_at_call 38; refine (HA.out _ _ L2.out).mono ?_; rintro r _ ⟨rfl, rfl⟩))
  go_ret2
  exact ⟨rfl, B2.out⟩
/-- What cell.Hold answers. -/
theorem Hold (s : List UInt8) (w : World) :
    Calls Try.prog 10 #[.string ⟨s.toArray⟩] w fun r w' => r = .returned (.tuple #[.string ⟨(hold s).1.toArray⟩, .int .i64 (hold s).2]) ∧ Below w.heap.size w w' := by
  by_cases h : hmay s
  · rw [CelN.hold_yes h]
    exact Hold_yes s w h
  · rw [CelN.hold_no h]
    exact Hold_no s w h
set_option maxRecDepth 100000 in
/-- What cell.Left answers. -/
theorem Left (ep sl lb : Int) (gn : Bool) (ci : List UInt8) (w : World) :
    Calls Try.prog 13 #[.agg #[.int .i64 ep, .int .i64 sl, .int .i64 lb, .bool gn, .string ⟨ci.toArray⟩]] w fun r w' => r = .returned (.agg #[.int .i64 ep, .int .i64 sl, .int .i64 lb, .bool true, .string ⟨#[]⟩]) ∧ Below w.heap.size w w' := by
  obtain ⟨W1, hW1⟩ : ∃ W1, W1 = w.alloc (.cells #[.int .i64 ep, .int .i64 sl, .int .i64 lb, .bool gn, .string ⟨ci.toArray⟩] 23) := ⟨_, rfl⟩
  obtain ⟨W2, hW2⟩ : ∃ W2, W2 = W1.alloc (.cells #[.int .i64 0, .int .i64 0, .int .i64 0, .bool false, .string ⟨#[]⟩] 23) := ⟨_, rfl⟩
  have hs1 : W1.heap.size = w.heap.size + 1 := by rw [hW1]; simp
  have SS : Hid (Ws w ep sl lb gn ci W2) := Lib.hid (by rw [hW2, hW1]; exact (ws_new w ep sl lb gn ci).step (below_new _ _))
  have NN : Hid (Bk W2 (w.heap.size + 1) 0 0 0 false []) := Lib.hid (by rw [hW2, ← hs1]; exact heap_alloc_new W1 _)
  have f3 : W2.frozen? ⟨w.heap.size, 3, none⟩ = false := blk_free SS.out.k
  have f4 : (W2.setCell ⟨w.heap.size, 3, none⟩ (.bool true)).frozen? ⟨w.heap.size, 4, none⟩ = false := blk_free (blk_set SS.out.k)
  obtain ⟨k0, k1, k2, k3, k4⟩ := SS.out.k.cells
  go_enter Try.func13, Try.ntmps13
  go_upto_region 1 with (fail)
  rw [← hW1, ← hW2]
  clear hW1 hW2 hs1
  go_upto_region 2 with (fail)
  obtain ⟨W3, hW3⟩ : ∃ W3, W3 = (W2.setCell ⟨w.heap.size, 3, none⟩ (.bool true)).setCell ⟨w.heap.size, 4, none⟩ (.string ⟨#[]⟩) := ⟨_, rfl⟩
  have SK : Hid (Bk W3 w.heap.size ep sl lb true []) := Lib.hid (by rw [hW3]; exact blk_set (blk_set SS.out.k))
  have b3 : Below w.heap.size W2 W3 := by rw [hW3]; exact ((Below.refl _ _).setCell (p := ⟨w.heap.size, 3, none⟩) (Nat.le_refl _) _).setCell (p := ⟨w.heap.size, 4, none⟩) (Nat.le_refl _) _
  have NK : Hid (Bk W3 (w.heap.size + 1) 0 0 0 false []) := Lib.hid (by
    rw [hW3]
    show _ = _
    rw [heap_setCell_other _ _ _ _ (by simp), heap_setCell_other _ _ _ _ (by simp)]
    exact NN.out)
  have B3 := Lib.hid (SS.out.bel.trans b3)
  rw [← hW3]
  clear hW3 b3 f3 f4 k0 k1 k2 k3 k4 SS NN
  obtain ⟨k0, k1, k2, k3, k4⟩ := SK.out.cells
  go_wp2_with (refine wpList_store_row rfl 23 _ _ rfl (w.heap.size + 1) _ rfl rfl 23 _ NK.out infoC rfl (one5 ep sl lb true []) ?_)
  refine bodyPost_ret (v := .agg #[.int .i64 ep, .int .i64 sl, .int .i64 lb, .bool true, .string ⟨([] : List UInt8).toArray⟩])
    (results_cell_row Try.results13 _ _ (w.heap.size + 1) 23 _ (0, 0) _ rfl (setRow_same NK.out) Try.underlying23 rfl infoC) rfl
    ⟨rfl, below_setRow B3.out (by omega) _⟩
end Go.Proofs.Yteobimhibhfokaa.CelP
