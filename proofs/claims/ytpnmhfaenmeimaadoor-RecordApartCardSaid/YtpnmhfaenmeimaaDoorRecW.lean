/- record.words: the walk of its text. The condition: the table of tens lies in its variable. -/
import Derived.Test.YtpnmhfaenmeimaaDoorRecK
import Derived.Test.YtpnmhfaenmeimaaDoorRecL
import Derived.Test.YtpnmhfaenmeimaaDoorShelf
import Derived.Deep.RegionHeld3
namespace Go.Proofs.YtpnmhfaenmeimaaDoor.RecW
open Go.RowKit
open RecN RecC RecM RecL
theorem grown (w : World) (k : Nat) (os : Array Obj) : Below w.heap.size w (Go.Sort.grow (w.drewN k) os) :=
  ⟨rfl, rfl, rfl, by simp [Go.Sort.grow, World.drewN], fun j hj => by
    simp only [Go.Sort.grow, World.drewN]
    rw [Array.getElem?_append_left hj]⟩
/-- What strconv.Itoa answers of a number from 0 on. -/
theorem itoa (n : Int) (h0 : 0 ≤ n) (h1 : n ≤ 1099511627776) (w : World) (h : Tens w) :
    Calls Tryd.prog 28 #[.int .i64 n] w fun e w' => e = .returned (.string ⟨(dec n).toArray⟩) ∧ Below w.heap.size w w' := by
  refine (Tryd.strconv_Itoa n (by omega) (by omega) w h).mono ?_
  rintro e w' ⟨rfl, k, os, rfl⟩
  rw [itoa_dec h0]
  exact ⟨rfl, grown w k os⟩
/-- What stands while words runs: what was stays, the record in its block, the table of tens. -/
structure Wt (w : World) (r : Rec) (W : World) : Prop where
  bel : Below w.heap.size w W
  k : Bk W w.heap.size r
  tens : Tens W
theorem Wt.step {w W W' : World} {r : Rec} (h : Wt w r W) (hb : Below W.heap.size W W') : Wt w r W' := ⟨h.bel.trans (hb.mono h.bel.size), h.k.step hb, h.tens.step hb⟩
theorem Wt.drew {w W : World} {r : Rec} (h : Wt w r W) : Wt w r W.drew := ⟨h.bel.drew, h.k, h.tens⟩
theorem wt_new (w : World) (r : Rec) (h : Tens w) : Wt w r (w.alloc (.cells #[.int .i64 r.k, .int .i64 r.ep, .int .i64 r.tm, .int .i64 r.ct, .int .i64 r.tg, .int .i64 r.un, .string ⟨r.rt.toArray⟩, .string ⟨r.nm.toArray⟩] 23)) := ⟨below_new w _, heap_alloc_new w _, h.step (below_new w _)⟩
/-- The cells of a row of texts. -/
def wc (l : List (List UInt8)) : List Value := l.map fun s => Value.string ⟨s.toArray⟩
/-- What words leaves. -/
def Told (l : List (List UInt8)) (w : World) (e : Ending) (w' : World) : Prop :=
  ∃ g, e = .returned (.slice (some ⟨g, 0, none⟩) l.length l.length) ∧ w.heap.size ≤ g ∧ w'.heap[g]? = some (.cells (wc l).toArray 9 (0, 0)) ∧ Below w.heap.size w w'
set_option maxRecDepth 100000 in
set_option maxHeartbeats 2000000 in
theorem words_1 (r : Rec) (h : right r) (hk : r.k = 1) (w : World) (ht : Tens w) :
    Calls Tryd.prog 27 #[.agg #[.int .i64 r.k, .int .i64 r.ep, .int .i64 r.tm, .int .i64 r.ct, .int .i64 r.tg, .int .i64 r.un, .string ⟨r.rt.toArray⟩, .string ⟨r.nm.toArray⟩]] w (Told [wClose, dec r.ep, dec r.ct] w) := by
  obtain ⟨W1, hW1⟩ : ∃ W1, W1 = w.alloc (.cells #[.int .i64 r.k, .int .i64 r.ep, .int .i64 r.tm, .int .i64 r.ct, .int .i64 r.tg, .int .i64 r.un, .string ⟨r.rt.toArray⟩, .string ⟨r.nm.toArray⟩] 23) := ⟨_, rfl⟩
  have SS : Hid (Wt w r W1) := Lib.hid (by rw [hW1]; exact wt_new w r ht)
  have hb := bounds h
  have H1 := Lib.hid (fun W (h : Tens W) => itoa r.ep hb.2.1.1 (by omega) W h)
  have H2 := Lib.hid (fun W (h : Tens W) => itoa r.ct hb.2.2.2.1.1 (by omega) W h)
  have H3 := Lib.hid (fun W (h : Tens W) => itoa r.tg hb.2.2.2.2.1.1 (by omega) W h)
  have H4 := Lib.hid (fun W (h : Tens W) => itoa r.un hb.2.2.2.2.2.1.1 (by omega) W h)
  have t1 : (r.k == 1) = true := by rw [hk]; rfl
  clear h hk hb ht
  generalize dec r.ep = dE at *
  generalize dec r.ct = dC at *
  generalize dec r.tg = dT at *
  generalize dec r.un = dU at *
  go_enter Tryd.func27, Tryd.ntmps27
  go_upto_region 1 with (fail)
  rw [← hW1]
  clear hW1
  replace SS := Lib.hid SS.out.drew
  have hS := SS.out.k.cells
  go_region_held3 (fun W' => W'.cell? ⟨w.heap.size, 0, none⟩ = some (.int .i64 r.k) ∧ W'.cell? ⟨w.heap.size, 1, none⟩ = some (.int .i64 r.ep) ∧ W'.cell? ⟨w.heap.size, 2, none⟩ = some (.int .i64 r.tm) ∧ W'.cell? ⟨w.heap.size, 3, none⟩ = some (.int .i64 r.ct) ∧ W'.cell? ⟨w.heap.size, 4, none⟩ = some (.int .i64 r.tg) ∧ W'.cell? ⟨w.heap.size, 5, none⟩ = some (.int .i64 r.un) ∧ W'.cell? ⟨w.heap.size, 6, none⟩ = some (.string ⟨r.rt.toArray⟩) ∧ W'.cell? ⟨w.heap.size, 7, none⟩ = some (.string ⟨r.nm.toArray⟩))
    (exact hS)
    (first
      | (go_at_call 28; refine (H1.out _ SS.out.tens).mono ?_; rintro e w2 ⟨rfl, hb⟩; replace SS := Lib.hid (SS.out.step hb); replace hS := SS.out.k.cells; clear hb H1)
      | (go_at_call 28; refine (H2.out _ SS.out.tens).mono ?_; rintro e w3 ⟨rfl, hb⟩; replace SS := Lib.hid (SS.out.step hb); replace hS := SS.out.k.cells; clear hb H2)
      | (go_at_call 28; refine (H3.out _ SS.out.tens).mono ?_; rintro e w4 ⟨rfl, hb⟩; replace SS := Lib.hid (SS.out.step hb); replace hS := SS.out.k.cells; clear hb H3)
      | (go_at_call 28; refine (H4.out _ SS.out.tens).mono ?_; rintro e w5 ⟨rfl, hb⟩; replace SS := Lib.hid (SS.out.step hb); replace hS := SS.out.k.cells; clear hb H4))
  obtain ⟨k0, k1, k2, k3, k4, k5, k6, k7⟩ := hS
  have HK := Lib.hid (heap_alloc_new w5 (.cells #[.string ⟨([99, 108, 111, 115, 101] : List UInt8).toArray⟩, .string ⟨dE.toArray⟩, .string ⟨dC.toArray⟩] 9))
  have HB := Lib.hid (SS.out.bel.trans ((below_new w5 (.cells #[.string ⟨([99, 108, 111, 115, 101] : List UInt8).toArray⟩, .string ⟨dE.toArray⟩, .string ⟨dC.toArray⟩] 9)).mono SS.out.bel.size))
  have HG := Lib.hid SS.out.bel.size
  go_wp2_with fail
  go_ret
  exact ⟨w5.heap.size, rfl, HG.out, HK.out, HB.out⟩
set_option maxRecDepth 100000 in
set_option maxHeartbeats 2000000 in
theorem words_2 (r : Rec) (h : right r) (hk : r.k = 2) (w : World) (ht : Tens w) :
    Calls Tryd.prog 27 #[.agg #[.int .i64 r.k, .int .i64 r.ep, .int .i64 r.tm, .int .i64 r.ct, .int .i64 r.tg, .int .i64 r.un, .string ⟨r.rt.toArray⟩, .string ⟨r.nm.toArray⟩]] w (Told [wRetain, dec r.tg, dec r.un] w) := by
  obtain ⟨W1, hW1⟩ : ∃ W1, W1 = w.alloc (.cells #[.int .i64 r.k, .int .i64 r.ep, .int .i64 r.tm, .int .i64 r.ct, .int .i64 r.tg, .int .i64 r.un, .string ⟨r.rt.toArray⟩, .string ⟨r.nm.toArray⟩] 23) := ⟨_, rfl⟩
  have SS : Hid (Wt w r W1) := Lib.hid (by rw [hW1]; exact wt_new w r ht)
  have hb := bounds h
  have H1 := Lib.hid (fun W (h : Tens W) => itoa r.ep hb.2.1.1 (by omega) W h)
  have H2 := Lib.hid (fun W (h : Tens W) => itoa r.ct hb.2.2.2.1.1 (by omega) W h)
  have H3 := Lib.hid (fun W (h : Tens W) => itoa r.tg hb.2.2.2.2.1.1 (by omega) W h)
  have H4 := Lib.hid (fun W (h : Tens W) => itoa r.un hb.2.2.2.2.2.1.1 (by omega) W h)
  have t1 : (r.k == 1) = false := by rw [hk]; rfl
  have t2 : (r.k == 2) = true := by rw [hk]; rfl
  clear h hk hb ht
  generalize dec r.ep = dE at *
  generalize dec r.ct = dC at *
  generalize dec r.tg = dT at *
  generalize dec r.un = dU at *
  go_enter Tryd.func27, Tryd.ntmps27
  go_upto_region 1 with (fail)
  rw [← hW1]
  clear hW1
  replace SS := Lib.hid SS.out.drew
  have hS := SS.out.k.cells
  go_region_held3 (fun W' => W'.cell? ⟨w.heap.size, 0, none⟩ = some (.int .i64 r.k) ∧ W'.cell? ⟨w.heap.size, 1, none⟩ = some (.int .i64 r.ep) ∧ W'.cell? ⟨w.heap.size, 2, none⟩ = some (.int .i64 r.tm) ∧ W'.cell? ⟨w.heap.size, 3, none⟩ = some (.int .i64 r.ct) ∧ W'.cell? ⟨w.heap.size, 4, none⟩ = some (.int .i64 r.tg) ∧ W'.cell? ⟨w.heap.size, 5, none⟩ = some (.int .i64 r.un) ∧ W'.cell? ⟨w.heap.size, 6, none⟩ = some (.string ⟨r.rt.toArray⟩) ∧ W'.cell? ⟨w.heap.size, 7, none⟩ = some (.string ⟨r.nm.toArray⟩))
    (exact hS)
    (first
      | (go_at_call 28; refine (H1.out _ SS.out.tens).mono ?_; rintro e w2 ⟨rfl, hb⟩; replace SS := Lib.hid (SS.out.step hb); replace hS := SS.out.k.cells; clear hb H1)
      | (go_at_call 28; refine (H2.out _ SS.out.tens).mono ?_; rintro e w3 ⟨rfl, hb⟩; replace SS := Lib.hid (SS.out.step hb); replace hS := SS.out.k.cells; clear hb H2)
      | (go_at_call 28; refine (H3.out _ SS.out.tens).mono ?_; rintro e w4 ⟨rfl, hb⟩; replace SS := Lib.hid (SS.out.step hb); replace hS := SS.out.k.cells; clear hb H3)
      | (go_at_call 28; refine (H4.out _ SS.out.tens).mono ?_; rintro e w5 ⟨rfl, hb⟩; replace SS := Lib.hid (SS.out.step hb); replace hS := SS.out.k.cells; clear hb H4))
  obtain ⟨k0, k1, k2, k3, k4, k5, k6, k7⟩ := hS
  have HK := Lib.hid (heap_alloc_new w5 (.cells #[.string ⟨([114, 101, 116, 97, 105, 110] : List UInt8).toArray⟩, .string ⟨dT.toArray⟩, .string ⟨dU.toArray⟩] 9))
  have HB := Lib.hid (SS.out.bel.trans ((below_new w5 (.cells #[.string ⟨([114, 101, 116, 97, 105, 110] : List UInt8).toArray⟩, .string ⟨dT.toArray⟩, .string ⟨dU.toArray⟩] 9)).mono SS.out.bel.size))
  have HG := Lib.hid SS.out.bel.size
  go_wp2_with fail
  go_ret
  exact ⟨w5.heap.size, rfl, HG.out, HK.out, HB.out⟩
set_option maxRecDepth 100000 in
set_option maxHeartbeats 2000000 in
theorem words_3 (r : Rec) (h : right r) (hk : r.k = 3) (w : World) (ht : Tens w) :
    Calls Tryd.prog 27 #[.agg #[.int .i64 r.k, .int .i64 r.ep, .int .i64 r.tm, .int .i64 r.ct, .int .i64 r.tg, .int .i64 r.un, .string ⟨r.rt.toArray⟩, .string ⟨r.nm.toArray⟩]] w (Told [wHold, r.nm, dec r.tg] w) := by
  obtain ⟨W1, hW1⟩ : ∃ W1, W1 = w.alloc (.cells #[.int .i64 r.k, .int .i64 r.ep, .int .i64 r.tm, .int .i64 r.ct, .int .i64 r.tg, .int .i64 r.un, .string ⟨r.rt.toArray⟩, .string ⟨r.nm.toArray⟩] 23) := ⟨_, rfl⟩
  have SS : Hid (Wt w r W1) := Lib.hid (by rw [hW1]; exact wt_new w r ht)
  have hb := bounds h
  have H1 := Lib.hid (fun W (h : Tens W) => itoa r.ep hb.2.1.1 (by omega) W h)
  have H2 := Lib.hid (fun W (h : Tens W) => itoa r.ct hb.2.2.2.1.1 (by omega) W h)
  have H3 := Lib.hid (fun W (h : Tens W) => itoa r.tg hb.2.2.2.2.1.1 (by omega) W h)
  have H4 := Lib.hid (fun W (h : Tens W) => itoa r.un hb.2.2.2.2.2.1.1 (by omega) W h)
  have t1 : (r.k == 1) = false := by rw [hk]; rfl
  have t2 : (r.k == 2) = false := by rw [hk]; rfl
  have t3 : (r.k == 3) = true := by rw [hk]; rfl
  clear h hk hb ht
  generalize dec r.ep = dE at *
  generalize dec r.ct = dC at *
  generalize dec r.tg = dT at *
  generalize dec r.un = dU at *
  go_enter Tryd.func27, Tryd.ntmps27
  go_upto_region 1 with (fail)
  rw [← hW1]
  clear hW1
  replace SS := Lib.hid SS.out.drew
  have hS := SS.out.k.cells
  go_region_held3 (fun W' => W'.cell? ⟨w.heap.size, 0, none⟩ = some (.int .i64 r.k) ∧ W'.cell? ⟨w.heap.size, 1, none⟩ = some (.int .i64 r.ep) ∧ W'.cell? ⟨w.heap.size, 2, none⟩ = some (.int .i64 r.tm) ∧ W'.cell? ⟨w.heap.size, 3, none⟩ = some (.int .i64 r.ct) ∧ W'.cell? ⟨w.heap.size, 4, none⟩ = some (.int .i64 r.tg) ∧ W'.cell? ⟨w.heap.size, 5, none⟩ = some (.int .i64 r.un) ∧ W'.cell? ⟨w.heap.size, 6, none⟩ = some (.string ⟨r.rt.toArray⟩) ∧ W'.cell? ⟨w.heap.size, 7, none⟩ = some (.string ⟨r.nm.toArray⟩))
    (exact hS)
    (first
      | (go_at_call 28; refine (H1.out _ SS.out.tens).mono ?_; rintro e w2 ⟨rfl, hb⟩; replace SS := Lib.hid (SS.out.step hb); replace hS := SS.out.k.cells; clear hb H1)
      | (go_at_call 28; refine (H2.out _ SS.out.tens).mono ?_; rintro e w3 ⟨rfl, hb⟩; replace SS := Lib.hid (SS.out.step hb); replace hS := SS.out.k.cells; clear hb H2)
      | (go_at_call 28; refine (H3.out _ SS.out.tens).mono ?_; rintro e w4 ⟨rfl, hb⟩; replace SS := Lib.hid (SS.out.step hb); replace hS := SS.out.k.cells; clear hb H3)
      | (go_at_call 28; refine (H4.out _ SS.out.tens).mono ?_; rintro e w5 ⟨rfl, hb⟩; replace SS := Lib.hid (SS.out.step hb); replace hS := SS.out.k.cells; clear hb H4))
  obtain ⟨k0, k1, k2, k3, k4, k5, k6, k7⟩ := hS
  have HK := Lib.hid (heap_alloc_new w5 (.cells #[.string ⟨([104, 111, 108, 100] : List UInt8).toArray⟩, .string ⟨r.nm.toArray⟩, .string ⟨dT.toArray⟩] 9))
  have HB := Lib.hid (SS.out.bel.trans ((below_new w5 (.cells #[.string ⟨([104, 111, 108, 100] : List UInt8).toArray⟩, .string ⟨r.nm.toArray⟩, .string ⟨dT.toArray⟩] 9)).mono SS.out.bel.size))
  have HG := Lib.hid SS.out.bel.size
  go_wp2_with fail
  go_ret
  exact ⟨w5.heap.size, rfl, HG.out, HK.out, HB.out⟩
set_option maxRecDepth 100000 in
set_option maxHeartbeats 2000000 in
theorem words_4 (r : Rec) (h : right r) (hk : r.k = 4) (w : World) (ht : Tens w) :
    Calls Tryd.prog 27 #[.agg #[.int .i64 r.k, .int .i64 r.ep, .int .i64 r.tm, .int .i64 r.ct, .int .i64 r.tg, .int .i64 r.un, .string ⟨r.rt.toArray⟩, .string ⟨r.nm.toArray⟩]] w (Told [wRelease, r.nm] w) := by
  obtain ⟨W1, hW1⟩ : ∃ W1, W1 = w.alloc (.cells #[.int .i64 r.k, .int .i64 r.ep, .int .i64 r.tm, .int .i64 r.ct, .int .i64 r.tg, .int .i64 r.un, .string ⟨r.rt.toArray⟩, .string ⟨r.nm.toArray⟩] 23) := ⟨_, rfl⟩
  have SS : Hid (Wt w r W1) := Lib.hid (by rw [hW1]; exact wt_new w r ht)
  have hb := bounds h
  have H1 := Lib.hid (fun W (h : Tens W) => itoa r.ep hb.2.1.1 (by omega) W h)
  have H2 := Lib.hid (fun W (h : Tens W) => itoa r.ct hb.2.2.2.1.1 (by omega) W h)
  have H3 := Lib.hid (fun W (h : Tens W) => itoa r.tg hb.2.2.2.2.1.1 (by omega) W h)
  have H4 := Lib.hid (fun W (h : Tens W) => itoa r.un hb.2.2.2.2.2.1.1 (by omega) W h)
  have t1 : (r.k == 1) = false := by rw [hk]; rfl
  have t2 : (r.k == 2) = false := by rw [hk]; rfl
  have t3 : (r.k == 3) = false := by rw [hk]; rfl
  have t4 : (r.k == 4) = true := by rw [hk]; rfl
  clear h hk hb ht
  generalize dec r.ep = dE at *
  generalize dec r.ct = dC at *
  generalize dec r.tg = dT at *
  generalize dec r.un = dU at *
  go_enter Tryd.func27, Tryd.ntmps27
  go_upto_region 1 with (fail)
  rw [← hW1]
  clear hW1
  replace SS := Lib.hid SS.out.drew
  have hS := SS.out.k.cells
  go_region_held3 (fun W' => W'.cell? ⟨w.heap.size, 0, none⟩ = some (.int .i64 r.k) ∧ W'.cell? ⟨w.heap.size, 1, none⟩ = some (.int .i64 r.ep) ∧ W'.cell? ⟨w.heap.size, 2, none⟩ = some (.int .i64 r.tm) ∧ W'.cell? ⟨w.heap.size, 3, none⟩ = some (.int .i64 r.ct) ∧ W'.cell? ⟨w.heap.size, 4, none⟩ = some (.int .i64 r.tg) ∧ W'.cell? ⟨w.heap.size, 5, none⟩ = some (.int .i64 r.un) ∧ W'.cell? ⟨w.heap.size, 6, none⟩ = some (.string ⟨r.rt.toArray⟩) ∧ W'.cell? ⟨w.heap.size, 7, none⟩ = some (.string ⟨r.nm.toArray⟩))
    (exact hS)
    (first
      | (go_at_call 28; refine (H1.out _ SS.out.tens).mono ?_; rintro e w2 ⟨rfl, hb⟩; replace SS := Lib.hid (SS.out.step hb); replace hS := SS.out.k.cells; clear hb H1)
      | (go_at_call 28; refine (H2.out _ SS.out.tens).mono ?_; rintro e w3 ⟨rfl, hb⟩; replace SS := Lib.hid (SS.out.step hb); replace hS := SS.out.k.cells; clear hb H2)
      | (go_at_call 28; refine (H3.out _ SS.out.tens).mono ?_; rintro e w4 ⟨rfl, hb⟩; replace SS := Lib.hid (SS.out.step hb); replace hS := SS.out.k.cells; clear hb H3)
      | (go_at_call 28; refine (H4.out _ SS.out.tens).mono ?_; rintro e w5 ⟨rfl, hb⟩; replace SS := Lib.hid (SS.out.step hb); replace hS := SS.out.k.cells; clear hb H4))
  obtain ⟨k0, k1, k2, k3, k4, k5, k6, k7⟩ := hS
  have HK := Lib.hid (heap_alloc_new w5 (.cells #[.string ⟨([114, 101, 108, 101, 97, 115, 101] : List UInt8).toArray⟩, .string ⟨r.nm.toArray⟩] 9))
  have HB := Lib.hid (SS.out.bel.trans ((below_new w5 (.cells #[.string ⟨([114, 101, 108, 101, 97, 115, 101] : List UInt8).toArray⟩, .string ⟨r.nm.toArray⟩] 9)).mono SS.out.bel.size))
  have HG := Lib.hid SS.out.bel.size
  go_wp2_with fail
  go_ret
  exact ⟨w5.heap.size, rfl, HG.out, HK.out, HB.out⟩
set_option maxRecDepth 100000 in
set_option maxHeartbeats 2000000 in
theorem words_5 (r : Rec) (h : right r) (hk : r.k = 5) (w : World) (ht : Tens w) :
    Calls Tryd.prog 27 #[.agg #[.int .i64 r.k, .int .i64 r.ep, .int .i64 r.tm, .int .i64 r.ct, .int .i64 r.tg, .int .i64 r.un, .string ⟨r.rt.toArray⟩, .string ⟨r.nm.toArray⟩]] w (Told [wPurge, dec r.tg, dec r.un] w) := by
  obtain ⟨W1, hW1⟩ : ∃ W1, W1 = w.alloc (.cells #[.int .i64 r.k, .int .i64 r.ep, .int .i64 r.tm, .int .i64 r.ct, .int .i64 r.tg, .int .i64 r.un, .string ⟨r.rt.toArray⟩, .string ⟨r.nm.toArray⟩] 23) := ⟨_, rfl⟩
  have SS : Hid (Wt w r W1) := Lib.hid (by rw [hW1]; exact wt_new w r ht)
  have hb := bounds h
  have H1 := Lib.hid (fun W (h : Tens W) => itoa r.ep hb.2.1.1 (by omega) W h)
  have H2 := Lib.hid (fun W (h : Tens W) => itoa r.ct hb.2.2.2.1.1 (by omega) W h)
  have H3 := Lib.hid (fun W (h : Tens W) => itoa r.tg hb.2.2.2.2.1.1 (by omega) W h)
  have H4 := Lib.hid (fun W (h : Tens W) => itoa r.un hb.2.2.2.2.2.1.1 (by omega) W h)
  have t1 : (r.k == 1) = false := by rw [hk]; rfl
  have t2 : (r.k == 2) = false := by rw [hk]; rfl
  have t3 : (r.k == 3) = false := by rw [hk]; rfl
  have t4 : (r.k == 4) = false := by rw [hk]; rfl
  clear h hk hb ht
  generalize dec r.ep = dE at *
  generalize dec r.ct = dC at *
  generalize dec r.tg = dT at *
  generalize dec r.un = dU at *
  go_enter Tryd.func27, Tryd.ntmps27
  go_upto_region 1 with (fail)
  rw [← hW1]
  clear hW1
  replace SS := Lib.hid SS.out.drew
  have hS := SS.out.k.cells
  go_region_held3 (fun W' => W'.cell? ⟨w.heap.size, 0, none⟩ = some (.int .i64 r.k) ∧ W'.cell? ⟨w.heap.size, 1, none⟩ = some (.int .i64 r.ep) ∧ W'.cell? ⟨w.heap.size, 2, none⟩ = some (.int .i64 r.tm) ∧ W'.cell? ⟨w.heap.size, 3, none⟩ = some (.int .i64 r.ct) ∧ W'.cell? ⟨w.heap.size, 4, none⟩ = some (.int .i64 r.tg) ∧ W'.cell? ⟨w.heap.size, 5, none⟩ = some (.int .i64 r.un) ∧ W'.cell? ⟨w.heap.size, 6, none⟩ = some (.string ⟨r.rt.toArray⟩) ∧ W'.cell? ⟨w.heap.size, 7, none⟩ = some (.string ⟨r.nm.toArray⟩))
    (exact hS)
    (first
      | (go_at_call 28; refine (H1.out _ SS.out.tens).mono ?_; rintro e w2 ⟨rfl, hb⟩; replace SS := Lib.hid (SS.out.step hb); replace hS := SS.out.k.cells; clear hb H1)
      | (go_at_call 28; refine (H2.out _ SS.out.tens).mono ?_; rintro e w3 ⟨rfl, hb⟩; replace SS := Lib.hid (SS.out.step hb); replace hS := SS.out.k.cells; clear hb H2)
      | (go_at_call 28; refine (H3.out _ SS.out.tens).mono ?_; rintro e w4 ⟨rfl, hb⟩; replace SS := Lib.hid (SS.out.step hb); replace hS := SS.out.k.cells; clear hb H3)
      | (go_at_call 28; refine (H4.out _ SS.out.tens).mono ?_; rintro e w5 ⟨rfl, hb⟩; replace SS := Lib.hid (SS.out.step hb); replace hS := SS.out.k.cells; clear hb H4))
  obtain ⟨k0, k1, k2, k3, k4, k5, k6, k7⟩ := hS
  have HK := Lib.hid (heap_alloc_new w5 (.cells #[.string ⟨([112, 117, 114, 103, 101] : List UInt8).toArray⟩, .string ⟨dT.toArray⟩, .string ⟨dU.toArray⟩] 9))
  have HB := Lib.hid (SS.out.bel.trans ((below_new w5 (.cells #[.string ⟨([112, 117, 114, 103, 101] : List UInt8).toArray⟩, .string ⟨dT.toArray⟩, .string ⟨dU.toArray⟩] 9)).mono SS.out.bel.size))
  have HG := Lib.hid SS.out.bel.size
  go_wp2_with fail
  go_ret
  exact ⟨w5.heap.size, rfl, HG.out, HK.out, HB.out⟩
/-- What record.words answers. -/
theorem words (r : Rec) (h : right r) (w : World) (ht : Tens w) : Calls Tryd.prog 27 #[.agg #[.int .i64 r.k, .int .i64 r.ep, .int .i64 r.tm, .int .i64 r.ct, .int .i64 r.tg, .int .i64 r.un, .string ⟨r.rt.toArray⟩, .string ⟨r.nm.toArray⟩]] w (Told (RecM.words r) w) := by
  have hk := (bounds h).1
  unfold RecM.words
  by_cases h1 : r.k = 1
  · rw [if_pos h1]; exact words_1 r h h1 w ht
  rw [if_neg h1]
  by_cases h2 : r.k = 2
  · rw [if_pos h2]; exact words_2 r h h2 w ht
  rw [if_neg h2]
  by_cases h3 : r.k = 3
  · rw [if_pos h3]; exact words_3 r h h3 w ht
  rw [if_neg h3]
  by_cases h4 : r.k = 4
  · rw [if_pos h4]; exact words_4 r h h4 w ht
  rw [if_neg h4]
  exact words_5 r h (by omega) w ht
end Go.Proofs.YtpnmhfaenmeimaaDoor.RecW
