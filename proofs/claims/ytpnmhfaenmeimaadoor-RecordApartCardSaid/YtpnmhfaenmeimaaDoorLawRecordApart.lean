/- RecordApart: at any two records, unlike ones have unlike bytes, of which none begins with the other's; and are shown, if they may be. The condition: the table of tens lies in its variable (the card ties it to the program's text). -/
import Derived.Test.YtpnmhfaenmeimaaDoorRecF
import Derived.Test.YtpnmhfaenmeimaaDoorRecR
import Derived.Test.YtpnmhfaenmeimaaDoorRecQ
import Derived.Deep.RegionHeld3
import Derived.Test.YtpnmhfaenmeimaaDoorRows
import Derived.Test.YtpnmhfaenmeimaaDoorTie
import Derived.Test.YtpnmhfaenmeimaaDoorCards
import Derived.Test.YtpnmhfaenmeimaaDoorRecL
import Derived.WalkKit
import Derived.ProofKit
import Derived.OpenShut
import Derived.ShutString
import Derived.ChangeOld
import Derived.Below
import Derived.LaidMore
import Derived.SevenTiedAt
import Derived.Stop.Joined
namespace Go.Proofs.YtpnmhfaenmeimaaDoor.recordApart
open Go.ChangeShapes Go.WideShapes Go.ChangeAt Go.RowKit
open Go.ChangeMaps (open_string shut_string)
set_option linter.unusedVariables false
open RecN RecC RecM RecL RecK RecW
theorem head_of (s : List UInt8) (p : Nat) (W : World) (h : p ≤ s.length) : (Instr.slice 9 (.string ⟨s.toArray⟩) none (some (.int .i64 ((p : Nat) : Int))) none).run Tryd.prog W = .ok (.string ⟨(s.take p).toArray⟩) W := by
  have hz := size_mk s
  have s0 := run_slice_string_h (P := Tryd.prog) (w := W) 9 ⟨s.toArray⟩ Tryd.underlying9 .i64 (p : Int) (by omega) (by rw [hz]; omega)
  rw [show (⟨s.toArray⟩ : ByteArray).extract 0 ((p : Nat) : Int).toNat = ⟨(s.take p).toArray⟩ from ext_at s 0 p] at s0
  exact s0
/-- What stands while the statement runs: what was stays, both records in their blocks, the table of tens. -/
structure Wd (w : World) (a b : Rec) (W : World) : Prop where
  bel : Below w.heap.size w W
  x : Bk W w.heap.size a
  y : Bk W (w.heap.size + 1) b
  tens : Tens W
theorem Wd.step {w W W' : World} {a b : Rec} (h : Wd w a b W) (hb : Below W.heap.size W W') : Wd w a b W' := ⟨h.bel.trans (hb.mono h.bel.size), h.x.step hb, h.y.step hb, h.tens.step hb⟩
theorem Wd.drew {w W : World} {a b : Rec} (h : Wd w a b W) : Wd w a b W.drew := ⟨h.bel.drew, h.x, h.y, h.tens⟩
theorem wd_new {w W1 W2 : World} {a b : Rec} (h1 : W1 = w.alloc (.cells #[.int .i64 a.k, .int .i64 a.ep, .int .i64 a.tm, .int .i64 a.ct, .int .i64 a.tg, .int .i64 a.un, .string ⟨a.rt.toArray⟩, .string ⟨a.nm.toArray⟩] 23)) (h2 : W2 = W1.alloc (.cells #[.int .i64 b.k, .int .i64 b.ep, .int .i64 b.tm, .int .i64 b.ct, .int .i64 b.tg, .int .i64 b.un, .string ⟨b.rt.toArray⟩, .string ⟨b.nm.toArray⟩] 23)) (ht : Tens w) : Wd w a b W2 := by
  have hs : W1.heap.size = w.heap.size + 1 := by rw [h1]; simp
  have b1 : Below w.heap.size w W1 := by rw [h1]; exact below_new w _
  have x1 : Bk W1 w.heap.size a := by rw [h1]; exact heap_alloc_new w _
  have b2 : Below W1.heap.size W1 W2 := by rw [h2]; exact below_new W1 _
  have y2 : Bk W2 (w.heap.size + 1) b := by rw [h2, ← hs]; exact heap_alloc_new W1 _
  exact ⟨b1.trans (b2.mono b1.size), x1.step b2, y2, (ht.step b1).step b2⟩
theorem cells16 {W : World} {X Y : Nat} {a b : Rec} (h : Bk W X a) (g : Bk W Y b) : W.cell? ⟨X, 0, none⟩ = some (.int .i64 a.k) ∧ W.cell? ⟨X, 1, none⟩ = some (.int .i64 a.ep) ∧ W.cell? ⟨X, 2, none⟩ = some (.int .i64 a.tm) ∧ W.cell? ⟨X, 3, none⟩ = some (.int .i64 a.ct) ∧ W.cell? ⟨X, 4, none⟩ = some (.int .i64 a.tg) ∧ W.cell? ⟨X, 5, none⟩ = some (.int .i64 a.un) ∧ W.cell? ⟨X, 6, none⟩ = some (.string ⟨a.rt.toArray⟩) ∧ W.cell? ⟨X, 7, none⟩ = some (.string ⟨a.nm.toArray⟩) ∧ W.cell? ⟨Y, 0, none⟩ = some (.int .i64 b.k) ∧ W.cell? ⟨Y, 1, none⟩ = some (.int .i64 b.ep) ∧ W.cell? ⟨Y, 2, none⟩ = some (.int .i64 b.tm) ∧ W.cell? ⟨Y, 3, none⟩ = some (.int .i64 b.ct) ∧ W.cell? ⟨Y, 4, none⟩ = some (.int .i64 b.tg) ∧ W.cell? ⟨Y, 5, none⟩ = some (.int .i64 b.un) ∧ W.cell? ⟨Y, 6, none⟩ = some (.string ⟨b.rt.toArray⟩) ∧ W.cell? ⟨Y, 7, none⟩ = some (.string ⟨b.nm.toArray⟩) := by
  obtain ⟨k0, k1, k2, k3, k4, k5, k6, k7⟩ := h.cells
  obtain ⟨j0, j1, j2, j3, j4, j5, j6, j7⟩ := g.cells
  exact ⟨k0, k1, k2, k3, k4, k5, k6, k7, j0, j1, j2, j3, j4, j5, j6, j7⟩
set_option maxRecDepth 100000 in
theorem long (a b : Rec) (q1 q2 : Bool) (w : World) (ht : Tens w) (h1 : RecR.fewB a = q1) (h2 : RecR.fewB b = q2) (h : q1 = false ∨ (q1 = true ∧ q2 = false)) :
    Calls Tryd.prog 6 #[.agg #[.int .i64 a.k, .int .i64 a.ep, .int .i64 a.tm, .int .i64 a.ct, .int .i64 a.tg, .int .i64 a.un, .string ⟨a.rt.toArray⟩, .string ⟨a.nm.toArray⟩], .agg #[.int .i64 b.k, .int .i64 b.ep, .int .i64 b.tm, .int .i64 b.ct, .int .i64 b.tg, .int .i64 b.un, .string ⟨b.rt.toArray⟩, .string ⟨b.nm.toArray⟩]] w fun e w' => e = .returned (.bool true) ∧ Below w.heap.size w w' := by
  obtain ⟨W1, hW1⟩ : ∃ W1, W1 = w.alloc (.cells #[.int .i64 a.k, .int .i64 a.ep, .int .i64 a.tm, .int .i64 a.ct, .int .i64 a.tg, .int .i64 a.un, .string ⟨a.rt.toArray⟩, .string ⟨a.nm.toArray⟩] 23) := ⟨_, rfl⟩
  obtain ⟨W2, hW2⟩ : ∃ W2, W2 = W1.alloc (.cells #[.int .i64 b.k, .int .i64 b.ep, .int .i64 b.tm, .int .i64 b.ct, .int .i64 b.tg, .int .i64 b.un, .string ⟨b.rt.toArray⟩, .string ⟨b.nm.toArray⟩] 23) := ⟨_, rfl⟩
  have SS : Hid (Wd w a b W2) := Lib.hid (wd_new hW1 hW2 ht)
  obtain ⟨k0, k1, k2, k3, k4, k5, k6, k7⟩ := SS.out.x.cells
  obtain ⟨j0, j1, j2, j3, j4, j5, j6, j7⟩ := SS.out.y.cells
  have HF1 := Lib.hid (fun W => RecR.Few a W)
  have HF2 := Lib.hid (fun W => RecR.Few b W)
  rw [h1] at HF1
  rw [h2] at HF2
  clear h1 h2 ht
  go_enter Tryd.func6, Tryd.ntmps6
  go_upto_region 1 with (fail)
  rw [← hW1, ← hW2]
  clear hW1 hW2
  rcases h with rfl | ⟨rfl, rfl⟩
  · clear HF2
    go_wp2_with (first
      | (go_at_call 7; refine (HF1.out _).mono ?_; rintro e w2 ⟨rfl, hb⟩; replace SS := Lib.hid (SS.out.step hb); clear hb HF1 k0 k1 k2 k3 k4 k5 k6 k7 j0 j1 j2 j3 j4 j5 j6 j7)
      | (go_at_call 8; refine (RecF.alive _ SS.out.tens).mono ?_; rintro e w3 ⟨rfl, hb⟩; replace SS := Lib.hid (SS.out.step hb); clear hb))
    go_ret
    exact ⟨rfl, SS.out.bel⟩
  · go_wp2_with (first
      | (go_at_call 7; refine (HF1.out _).mono ?_; rintro e w2 ⟨rfl, hb⟩; replace SS := Lib.hid (SS.out.step hb); clear hb HF1 k0 k1 k2 k3 k4 k5 k6 k7 j0 j1 j2 j3 j4 j5 j6 j7; obtain ⟨j0, j1, j2, j3, j4, j5, j6, j7⟩ := SS.out.y.cells)
      | (go_at_call 7; refine (HF2.out _).mono ?_; rintro e w3 ⟨rfl, hb⟩; replace SS := Lib.hid (SS.out.step hb); clear hb HF2 j0 j1 j2 j3 j4 j5 j6 j7)
      | (go_at_call 8; refine (RecF.alive _ SS.out.tens).mono ?_; rintro e w4 ⟨rfl, hb⟩; replace SS := Lib.hid (SS.out.step hb); clear hb))
    go_ret
    exact ⟨rfl, SS.out.bel⟩
set_option maxRecDepth 100000 in
set_option maxHeartbeats 2000000 in
theorem one (a b : Rec) (s t : List UInt8) (c d : Int) (w : World) (ht : Tens w) (h1 : RecR.fewB a = true) (h2 : RecR.fewB b = true) (p1 : RecQ.put_ a = (s, c)) (p2 : RecQ.put_ b = (t, d)) (ho : c = 2 ∨ (c = 0 ∧ d = 2)) :
    Calls Tryd.prog 6 #[.agg #[.int .i64 a.k, .int .i64 a.ep, .int .i64 a.tm, .int .i64 a.ct, .int .i64 a.tg, .int .i64 a.un, .string ⟨a.rt.toArray⟩, .string ⟨a.nm.toArray⟩], .agg #[.int .i64 b.k, .int .i64 b.ep, .int .i64 b.tm, .int .i64 b.ct, .int .i64 b.tg, .int .i64 b.un, .string ⟨b.rt.toArray⟩, .string ⟨b.nm.toArray⟩]] w fun e w' => e = .returned (.bool true) ∧ Below w.heap.size w w' := by
  obtain ⟨W1, hW1⟩ : ∃ W1, W1 = w.alloc (.cells #[.int .i64 a.k, .int .i64 a.ep, .int .i64 a.tm, .int .i64 a.ct, .int .i64 a.tg, .int .i64 a.un, .string ⟨a.rt.toArray⟩, .string ⟨a.nm.toArray⟩] 23) := ⟨_, rfl⟩
  obtain ⟨W2, hW2⟩ : ∃ W2, W2 = W1.alloc (.cells #[.int .i64 b.k, .int .i64 b.ep, .int .i64 b.tm, .int .i64 b.ct, .int .i64 b.tg, .int .i64 b.un, .string ⟨b.rt.toArray⟩, .string ⟨b.nm.toArray⟩] 23) := ⟨_, rfl⟩
  have SS : Hid (Wd w a b W2) := Lib.hid (wd_new hW1 hW2 ht)
  obtain ⟨k0, k1, k2, k3, k4, k5, k6, k7⟩ := SS.out.x.cells
  obtain ⟨j0, j1, j2, j3, j4, j5, j6, j7⟩ := SS.out.y.cells
  have HF1 := Lib.hid (fun W => RecR.Few a W)
  have HF2 := Lib.hid (fun W => RecR.Few b W)
  rw [h1] at HF1
  rw [h2] at HF2
  have HP1 := Lib.hid (fun W => RecQ.Put a W)
  have HP2 := Lib.hid (fun W => RecQ.Put b W)
  rw [p1] at HP1
  rw [p2] at HP2
  dsimp only at HP1 HP2
  clear h1 h2 p1 p2 ht
  go_enter Tryd.func6, Tryd.ntmps6
  go_upto_region 1 with (fail)
  rw [← hW1, ← hW2]
  clear hW1 hW2
  go_upto_region 3 with (first
      | (go_at_call 7; refine (HF1.out _).mono ?_; rintro e w2 ⟨rfl, hb⟩; replace SS := Lib.hid (SS.out.step hb); clear hb HF1 k0 k1 k2 k3 k4 k5 k6 k7 j0 j1 j2 j3 j4 j5 j6 j7; obtain ⟨j0, j1, j2, j3, j4, j5, j6, j7⟩ := SS.out.y.cells)
      | (go_at_call 7; refine (HF2.out _).mono ?_; rintro e w3 ⟨rfl, hb⟩; replace SS := Lib.hid (SS.out.step hb); clear hb HF2 j0 j1 j2 j3 j4 j5 j6 j7))
  obtain ⟨k0, k1, k2, k3, k4, k5, k6, k7⟩ := SS.out.x.cells
  obtain ⟨j0, j1, j2, j3, j4, j5, j6, j7⟩ := SS.out.y.cells
  go_upto_region 4 with (go_at_call 9; refine (HP1.out _).mono ?_; rintro e w4 ⟨rfl, hb⟩; replace SS := Lib.hid (SS.out.step hb); clear hb HP1 k0 k1 k2 k3 k4 k5 k6 k7 j0 j1 j2 j3 j4 j5 j6 j7)
  obtain ⟨k0, k1, k2, k3, k4, k5, k6, k7⟩ := SS.out.x.cells
  obtain ⟨j0, j1, j2, j3, j4, j5, j6, j7⟩ := SS.out.y.cells
  go_upto_region 5 with (go_at_call 9; refine (HP2.out _).mono ?_; rintro e w5 ⟨rfl, hb⟩; replace SS := Lib.hid (SS.out.step hb); clear hb HP2 k0 k1 k2 k3 k4 k5 k6 k7 j0 j1 j2 j3 j4 j5 j6 j7)
  rcases ho with rfl | ⟨rfl, rfl⟩
  all_goals
    go_wp2_with (go_at_call 8; refine (RecF.alive _ SS.out.tens).mono ?_; rintro e w6 ⟨rfl, hb⟩; replace SS := Lib.hid (SS.out.step hb); clear hb)
    go_ret
    exact ⟨rfl, SS.out.bel⟩
set_option maxRecDepth 100000 in
set_option maxHeartbeats 8000000 in
theorem two (a b : Rec) (s t v : List UInt8) (p : Nat) (q : Bool) (w : World) (ht : Tens w) (h1 : RecR.fewB a = true) (h2 : RecR.fewB b = true) (p1 : RecQ.put_ a = (s, 0)) (p2 : RecQ.put_ b = (t, 0)) (hv : shown a = v) (hn : (v == []) = false) (hq : decide (a = b) = q) (hst : (s == t) = q) (hp : p = min s.length t.length) (hsp : (s.take p == t.take p) = q) :
    Calls Tryd.prog 6 #[.agg #[.int .i64 a.k, .int .i64 a.ep, .int .i64 a.tm, .int .i64 a.ct, .int .i64 a.tg, .int .i64 a.un, .string ⟨a.rt.toArray⟩, .string ⟨a.nm.toArray⟩], .agg #[.int .i64 b.k, .int .i64 b.ep, .int .i64 b.tm, .int .i64 b.ct, .int .i64 b.tg, .int .i64 b.un, .string ⟨b.rt.toArray⟩, .string ⟨b.nm.toArray⟩]] w fun e w' => e = .returned (.bool true) ∧ Below w.heap.size w w' := by
  obtain ⟨W1, hW1⟩ : ∃ W1, W1 = w.alloc (.cells #[.int .i64 a.k, .int .i64 a.ep, .int .i64 a.tm, .int .i64 a.ct, .int .i64 a.tg, .int .i64 a.un, .string ⟨a.rt.toArray⟩, .string ⟨a.nm.toArray⟩] 23) := ⟨_, rfl⟩
  obtain ⟨W2, hW2⟩ : ∃ W2, W2 = W1.alloc (.cells #[.int .i64 b.k, .int .i64 b.ep, .int .i64 b.tm, .int .i64 b.ct, .int .i64 b.tg, .int .i64 b.un, .string ⟨b.rt.toArray⟩, .string ⟨b.nm.toArray⟩] 23) := ⟨_, rfl⟩
  have SS : Hid (Wd w a b W2) := Lib.hid (wd_new hW1 hW2 ht)
  obtain ⟨k0, k1, k2, k3, k4, k5, k6, k7⟩ := SS.out.x.cells
  obtain ⟨j0, j1, j2, j3, j4, j5, j6, j7⟩ := SS.out.y.cells
  have HF1 := Lib.hid (fun W => RecR.Few a W)
  have HF2 := Lib.hid (fun W => RecR.Few b W)
  rw [h1] at HF1
  rw [h2] at HF2
  have HP1 := Lib.hid (fun W => RecQ.Put a W)
  have HP2 := Lib.hid (fun W => RecQ.Put b W)
  rw [p1] at HP1
  rw [p2] at HP2
  dsimp only at HP1 HP2
  have HS := Lib.hid (fun W ht => RecF.Show a W ht)
  rw [hv] at HS
  have heq := fun W => run_eql_rec W a b q hq
  have hn' : (v != []) = true := by rw [bne, hn]; rfl
  have HPI : Hid (min (s.length : Int) (t.length : Int) = (p : Int)) := Lib.hid (by omega)
  have HS1 := fun W => head_of s p W (by omega)
  have HS2 := fun W => head_of t p W (by omega)
  have hzs := size_mk s
  have hzt := size_mk t
  clear h1 h2 p1 p2 ht hv hq hp
  go_enter Tryd.func6, Tryd.ntmps6
  go_upto_region 1 with (fail)
  rw [← hW1, ← hW2]
  clear hW1 hW2
  go_upto_region 3 with (first
      | (go_at_call 7; refine (HF1.out _).mono ?_; rintro e w2 ⟨rfl, hb⟩; replace SS := Lib.hid (SS.out.step hb); clear hb HF1 k0 k1 k2 k3 k4 k5 k6 k7 j0 j1 j2 j3 j4 j5 j6 j7; obtain ⟨j0, j1, j2, j3, j4, j5, j6, j7⟩ := SS.out.y.cells)
      | (go_at_call 7; refine (HF2.out _).mono ?_; rintro e w3 ⟨rfl, hb⟩; replace SS := Lib.hid (SS.out.step hb); clear hb HF2 j0 j1 j2 j3 j4 j5 j6 j7))
  obtain ⟨k0, k1, k2, k3, k4, k5, k6, k7⟩ := SS.out.x.cells
  obtain ⟨j0, j1, j2, j3, j4, j5, j6, j7⟩ := SS.out.y.cells
  go_upto_region 4 with (go_at_call 9; refine (HP1.out _).mono ?_; rintro e w4 ⟨rfl, hb⟩; replace SS := Lib.hid (SS.out.step hb); clear hb HP1 k0 k1 k2 k3 k4 k5 k6 k7 j0 j1 j2 j3 j4 j5 j6 j7)
  obtain ⟨k0, k1, k2, k3, k4, k5, k6, k7⟩ := SS.out.x.cells
  obtain ⟨j0, j1, j2, j3, j4, j5, j6, j7⟩ := SS.out.y.cells
  go_upto_region 5 with (go_at_call 9; refine (HP2.out _).mono ?_; rintro e w5 ⟨rfl, hb⟩; replace SS := Lib.hid (SS.out.step hb); clear hb HP2 k0 k1 k2 k3 k4 k5 k6 k7 j0 j1 j2 j3 j4 j5 j6 j7)
  go_upto_region 8 with (fail)
  rw [HPI.out]
  clear hzs hzt
  generalize s.take p = s' at *
  generalize t.take p = t' at *
  replace SS := Lib.hid SS.out.drew
  have hS := cells16 SS.out.x SS.out.y
  go_region_held3 (fun W' => W'.cell? ⟨w.heap.size, 0, none⟩ = some (.int .i64 a.k) ∧ W'.cell? ⟨w.heap.size, 1, none⟩ = some (.int .i64 a.ep) ∧ W'.cell? ⟨w.heap.size, 2, none⟩ = some (.int .i64 a.tm) ∧ W'.cell? ⟨w.heap.size, 3, none⟩ = some (.int .i64 a.ct) ∧ W'.cell? ⟨w.heap.size, 4, none⟩ = some (.int .i64 a.tg) ∧ W'.cell? ⟨w.heap.size, 5, none⟩ = some (.int .i64 a.un) ∧ W'.cell? ⟨w.heap.size, 6, none⟩ = some (.string ⟨a.rt.toArray⟩) ∧ W'.cell? ⟨w.heap.size, 7, none⟩ = some (.string ⟨a.nm.toArray⟩) ∧ W'.cell? ⟨w.heap.size + 1, 0, none⟩ = some (.int .i64 b.k) ∧ W'.cell? ⟨w.heap.size + 1, 1, none⟩ = some (.int .i64 b.ep) ∧ W'.cell? ⟨w.heap.size + 1, 2, none⟩ = some (.int .i64 b.tm) ∧ W'.cell? ⟨w.heap.size + 1, 3, none⟩ = some (.int .i64 b.ct) ∧ W'.cell? ⟨w.heap.size + 1, 4, none⟩ = some (.int .i64 b.tg) ∧ W'.cell? ⟨w.heap.size + 1, 5, none⟩ = some (.int .i64 b.un) ∧ W'.cell? ⟨w.heap.size + 1, 6, none⟩ = some (.string ⟨b.rt.toArray⟩) ∧ W'.cell? ⟨w.heap.size + 1, 7, none⟩ = some (.string ⟨b.nm.toArray⟩))
    (exact hS)
    (first
      | (go_at_call 12; refine (HS.out _ SS.out.tens).mono ?_; rintro e w6 ⟨rfl, hb⟩; replace SS := Lib.hid (SS.out.step hb); replace hS := cells16 SS.out.x SS.out.y; clear hb)
      | (go_at_call 8; refine (RecF.alive _ SS.out.tens).mono ?_; rintro e w7 ⟨rfl, hb⟩; replace SS := Lib.hid (SS.out.step hb); replace hS := cells16 SS.out.x SS.out.y; clear hb))
  go_wp2
  go_ret
  exact ⟨rfl, SS.out.bel⟩
theorem walk (a b : Rec) (w : World) (ht : Tens w) : Calls Tryd.prog 6 #[.agg #[.int .i64 a.k, .int .i64 a.ep, .int .i64 a.tm, .int .i64 a.ct, .int .i64 a.tg, .int .i64 a.un, .string ⟨a.rt.toArray⟩, .string ⟨a.nm.toArray⟩], .agg #[.int .i64 b.k, .int .i64 b.ep, .int .i64 b.tm, .int .i64 b.ct, .int .i64 b.tg, .int .i64 b.un, .string ⟨b.rt.toArray⟩, .string ⟨b.nm.toArray⟩]] w fun e w' => e = .returned (.bool true) ∧ Below w.heap.size w w' := by
  cases h1 : RecR.fewB a
  · exact long a b false _ w ht h1 rfl (.inl rfl)
  cases h2 : RecR.fewB b
  · exact long a b true false w ht h1 h2 (.inr ⟨rfl, rfl⟩)
  by_cases ha : right a
  · by_cases hb : right b
    · have hv : (shown a == []) = false := by
        rw [beq_eq_false_iff_ne, shown, if_pos ha]
        exact told_some a
      refine two a b (RecN.bytes a) (RecN.bytes b) (shown a) _ _ w ht h1 h2 (RecQ.put_yes ha) (RecQ.put_yes hb) rfl hv rfl ?_ rfl ?_
      · rw [Bool.eq_iff_iff, beq_iff_eq, decide_eq_true_eq]
        exact ⟨bytes_inj ha hb, fun h => by rw [h]⟩
      · rw [Bool.eq_iff_iff, beq_iff_eq, decide_eq_true_eq]
        exact ⟨fun h => apart ha hb rfl h, fun h => by rw [h]⟩
    · exact one a b _ _ 0 2 w ht h1 h2 (RecQ.put_yes ha) (RecQ.put_no hb) (.inr ⟨rfl, rfl⟩)
  · exact one a b _ (RecQ.put_ b).1 2 (RecQ.put_ b).2 w ht h1 h2 (RecQ.put_no ha) rfl (.inl rfl)
theorem own : ownKnob Tryd.prog.godebug = none := by kernel_rfl
theorem laidOut : laidOutB Tryd.prog = true := by kernel_rfl
set_option maxRecDepth 100000 in
theorem lifted (os : Os) (started : os.Started) (H : Type) (enc : TypeId × Value → H) :
    ReturnsInHanded {} Tryd.checked os 6 .any (fun w args => (Rows.recordApartSpec.pre enc Tryd.prog Tryd.f6 Rows.recordApartRow.domain false w args ∧ laidMetH Tryd.prog Rows.recordApartRow.laid w) ∧ sizedMet enc Tryd.prog Tryd.f6 (OpenSpec.ofChange Rows.recordApartSpec) false w args) (Rows.recordApartSpec.post enc Tryd.prog Tryd.f6 false true false false) := by
  refine returnsInHanded_of_change_and (C := Tryd.checked) (X := fun w _ => laidMetH Tryd.prog Rows.recordApartRow.laid w) (fun _ _ _ hh h => h.of_heap hh) own started (by kernel_rfl) Tryd.func6
    (ChangeSpec.witness_shaped (enc := enc) (C := Tryd.checked) (os := os) (X := fun w _ => laidMetH Tryd.prog Rows.recordApartRow.laid w) false (World.doorLaid Tryd.prog 400 os) #[.agg #[.int .i64 0, .int .i64 0, .int .i64 0, .int .i64 0, .int .i64 0, .int .i64 0, .string ByteArray.empty, .string ByteArray.empty], .agg #[.int .i64 0, .int .i64 0, .int .i64 0, .int .i64 0, .int .i64 0, .int .i64 0, .string ByteArray.empty, .string ByteArray.empty]] 8 rfl (World.shaped_of_RefB (by kernel_rfl) (by kernel_rfl)) (by kernel_rfl) (by kernel_rfl) (by kernel_rfl) (RecL.door_met os _)) ?_
  intro W base args ds gs before hval0 hW _ hZ hL _
  have hr := RecL.of_laid hL
  have hval : ∀ (j : Nat) t v, Tryd.f6.params[j]? = some t → args[j]? = some v → Value.okWide Tryd.prog W .any base t v := hval0
  have hW' := hW
  obtain ⟨p, q, hA0, hV, rfl, hfz, hnd⟩ := hW
  have hA : DataW.TrodAll enc Tryd.prog W 0 (fun _ => true) true Tryd.f6.params.toList args.toList ds p := hA0
  rw [Tryd.params6] at hA hval
  obtain ⟨v0, vs0, d0, ds0, p0, q0, hargs, rfl, rfl, h0, r0⟩ := trodAll_cons hA
  obtain ⟨v1, vs1, d1, ds1, p1, q1, rfl, rfl, rfl, h1, r1⟩ := trodAll_cons r0
  obtain ⟨rfl, rfl, rfl⟩ := trodAll_nil r1
  obtain rfl : args = #[v0, v1] := by cases args; simp_all
  obtain ⟨rfl, rfl⟩ := trodVars_none hV
  have k0 := h0
  have lt0 : ∀ x ∈ p0, x.block < W.heap.size := by obtain ⟨m, hm⟩ := k0; exact DataW.trod_lt m _ _ _ hm
  obtain ⟨a0, rfl⟩ := RecC.open_record (hval 0 23 v0 rfl rfl) h0
  have k1 := h1
  have lt1 : ∀ x ∈ p1, x.block < W.heap.size := by obtain ⟨m, hm⟩ := k1; exact DataW.trod_lt m _ _ _ hm
  obtain ⟨a1, rfl⟩ := RecC.open_record (hval 1 23 v1 rfl rfl) h1
  clear hA0 hval0
  refine (walk a0 a1 W hr).mono fun e W' ⟨he, bel⟩ => ?_
  subst he
  exact ⟨_, rfl, _, _, _, [], _, [], hW', trodAll_mk1 (shut_bool Tryd.underlying4 _), (trodAll_cons_mk (Below.trod laidOut (by kernel_rfl) (of_decide_eq_true (by kernel_rfl)) k0 bel lt0) (trodAll_cons_mk (Below.trod laidOut (by kernel_rfl) (of_decide_eq_true (by kernel_rfl)) k1 bel lt1) trodAll_mk0)), rfl, bel.frame _, fun h => by cases h⟩
theorem over : Rows.recordApartRow.holds Tryd.pinned (OpenSpec.ofChange Rows.recordApartSpec) :=
  OpenClaim.holds_of_wide 6 Tryd.f6 rfl rfl rfl rfl rfl rfl rfl ⟨rfl, rfl, rfl, rfl, rfl⟩ rfl rfl rfl rfl rfl (by kernel_rfl) Tryd.func6 (by kernel_rfl)
    (of_decide_eq_true (by kernel_rfl)) (by unfold Func.isWrapper; first | (rw [if_pos (by decide +kernel)]; kernel_rfl) | (rw [if_neg (by decide +kernel)]; exact ⟨rfl, rfl⟩))
    (fun os started H enc _ => lifted os started H enc)
/-- THE STATEMENT, proved. -/
theorem proved : Rows.RecordApartCardSaid :=
  Claim7.holds_tied_plain_at .later [] _ true _ false
    over (fun _ h => by cases h) (by kernel_rfl) (fun _ h => by cases h) recordApart_row_tie rfl ⟨rfl, rfl⟩ (by kernel_rfl) rfl
    (fun f fn hf hfn => by
      obtain rfl : f = 6 := Option.some.inj ((show Tryd.prog.funcNamed "keepsake/keepsakelaw19.RecordApart" = some 6 by kernel_rfl).symm.trans hf) |>.symm
      obtain rfl : fn = Tryd.f6 := (Option.some.inj (Tryd.func6.symm.trans hfn)).symm
      exact ⟨by kernel_rfl, fun j t ht => by
        rw [Tryd.params6] at ht
        have hm : t ∈ [23, 23] := by simpa using Array.mem_of_getElem? ht
        have hall : ([23, 23].all fun u => !Tryd.prog.wantsStandIn u) = true := by kernel_rfl
        exact (show Tryd.prog.wantsStandIn t = false by simpa using List.all_eq_true.1 hall t hm)⟩)
    (by kernel_rfl)
#print axioms proved
end Go.Proofs.YtpnmhfaenmeimaaDoor.recordApart
