/- ModelRefused over any model that meets the letters. The conditions: those letters. -/
import Derived.Test.YtopnodkdpehdoaaGreatDoorMdS
namespace Go.Proofs.YtopnodkdpehdoaaGreatDoor.MdT
set_option linter.unusedVariables false
open Go.RowKit
open RecN RecC RetR MdN MdO CalR AnsC MdP MdQ MdR MdS
/-- What the program's Copy and Same must meet. -/
structure ApiB (P : PT) : Prop where
  copy : ∀ b X F m w, P b X F m w → b ≤ w.heap.size → Calls Tryz.prog 16 #[.pointer (some ⟨X, 0, none⟩)] w fun x w' => (∃ X' F', x = .returned (.pointer (some ⟨X', 0, none⟩)) ∧ P b X' F' m w' ∧ ∀ k, F' k → w.heap.size ≤ k) ∧ Below w.heap.size w w'
  same : ∀ b X F X' F' m w, P b X F m w → P b X' F' m w → Calls Tryz.prog 17 #[.pointer (some ⟨X, 0, none⟩), .pointer (some ⟨X', 0, none⟩)] w fun x w' => x = .returned (.bool true) ∧ Below w.heap.size w w'
/-- Two models that are the caller's, apart, beside blocks of his own (K), as they stood (w1). -/
def M2 (P : PT) (base X X' : Nat) (m m' : Mo) (w0 : World) (K : Nat → Prop) (w1 w : World) : Prop :=
  ∃ F F', P base X F m w ∧ P base X' F' m' w ∧ (∀ k, F k → w0.heap.size ≤ k) ∧ (∀ k, F' k → w0.heap.size ≤ k) ∧ (∀ k, F k → ¬ F' k) ∧ (∀ k, K k → ¬ F k ∧ ¬ F' k ∧ k < w.heap.size ∧ w.heap[k]? = w1.heap[k]?) ∧ Below w0.heap.size w0 w
section
variable {G : Nat → World → Prop} {P : PT} {base X X' : Nat} {m m' : Mo} {w0 w1 w W : World} {K K' : Nat → Prop}
theorem M2.bel (h : M2 P base X X' m m' w0 K w1 w) : Below w0.heap.size w0 w := by obtain ⟨_, _, _, _, _, _, _, _, h⟩ := h; exact h
theorem M2.at_ (h : M2 P base X X' m m' w0 K w1 w) {k : Nat} (hk : K k) {ob : Obj} (hw : w1.heap[k]? = some ob) : w.heap[k]? = some ob := by obtain ⟨_, _, _, _, _, _, _, h, _⟩ := h; exact (h k hk).2.2.2.trans hw
theorem M2.swap (h : M2 P base X X' m m' w0 K w1 w) : M2 P base X' X m' m w0 K w1 w := by
  obtain ⟨F, F', h1, h2, h3, h4, h5, h6, h7⟩ := h
  exact ⟨F', F, h2, h1, h4, h3, fun k hk hf => h5 k hf hk, fun k hk => ⟨(h6 k hk).2.1, (h6 k hk).1, (h6 k hk).2.2⟩, h7⟩
theorem M2.step (A : Api G P) (h : M2 P base X X' m m' w0 K w1 w) (hb : Below w.heap.size w W) : M2 P base X X' m m' w0 K w1 W := by
  obtain ⟨F, F', h1, h2, h3, h4, h5, h6, h7⟩ := h
  exact ⟨F, F', A.stepB h1 hb, A.stepB h2 hb, h3, h4, h5,
    fun k hk => ⟨(h6 k hk).1, (h6 k hk).2.1, Nat.lt_of_lt_of_le (h6 k hk).2.2.1 hb.size, (hb.block k (h6 k hk).2.2.1).trans (h6 k hk).2.2.2⟩, h7.trans (hb.mono h7.size)⟩
theorem M2.more (A : Api G P) (h : M2 P base X X' m m' w0 K w1 w) (hb : Below w.heap.size w W) (hk : ∀ k, K' k → K k ∨ (w.heap.size ≤ k ∧ k < W.heap.size)) : M2 P base X X' m m' w0 K' W W := by
  have hs := h.step A hb
  obtain ⟨F, F', h1, h2, h3, h4, h5, h6, h7⟩ := h
  refine ⟨F, F', A.stepB h1 hb, A.stepB h2 hb, h3, h4, h5, fun k hk' => ?_, h7.trans (hb.mono h7.size)⟩
  rcases hk k hk' with q | ⟨q1, q2⟩
  · exact ⟨(h6 k q).1, (h6 k q).2.1, Nat.lt_of_lt_of_le (h6 k q).2.2.1 hb.size, rfl⟩
  · exact ⟨fun hf => by have := (A.lt _ _ _ _ _ h1 k hf).2; omega, fun hf => by have := (A.lt _ _ _ _ _ h2 k hf).2; omega, q2, rfl⟩
theorem M2.does (A : Api G P) (h : M2 P base X X' m m' w0 K w1 w) (hb : base ≤ w0.heap.size) (c : Cl) (pk : Option Addr) (nk ck : Nat) :
    Calls Tryz.prog 12 #[.pointer (some ⟨X, 0, none⟩), .agg #[.int .i64 c.k, .int .i64 c.lb, .int .i64 c.ep, .int .i64 c.tm, .string ⟨c.da.toArray⟩, .string ⟨c.nm.toArray⟩, .slice pk nk ck]] w fun x w' => x = .returned (.agg (anA (doA m c))) ∧ M2 P base X X' (doM m c) m' w0 K w1 w' := by
  obtain ⟨F, F', h1, h2, h3, h4, h5, h6, h7⟩ := h
  refine (A.does _ _ _ _ _ c pk nk ck h1 (Nat.le_trans hb h7.size)).mono ?_
  rintro x w' ⟨rfl, ⟨F1, q1, q2⟩, q3⟩
  have l1 := A.lt _ _ _ _ _ h1
  have l2 := A.lt _ _ _ _ _ h2
  refine ⟨rfl, F1, F', q1, A.step _ _ _ _ _ _ h2 q3.size (fun k hk => q3.block k (l2 k hk).2 (fun hf => h5 k hf hk)) (fun k hk => q3.block k (Nat.lt_of_lt_of_le hk (A.sz _ _ _ _ _ h2)) (fun hf => by have := (l1 k hf).1; omega)), fun k hk => ?_, h4, fun k hk hf => ?_, fun k hk => ⟨fun hf => ?_, (h6 k hk).2.1, Nat.lt_of_lt_of_le (h6 k hk).2.2.1 q3.size, (q3.block k (h6 k hk).2.2.1 (h6 k hk).1).trans (h6 k hk).2.2.2⟩, q3.below h7 h3⟩
  · rcases q2 k hk with q | q
    · exact h3 k q
    · exact Nat.le_trans h7.size q
  · rcases q2 k hk with q | q
    · exact h5 k q hf
    · have := (l2 k hf).2; omega
  · rcases q2 k hf with q | q
    · exact (h6 k hk).1 q
    · have := (h6 k hk).2.2.1; omega
theorem M2.same (A : Api G P) (B : ApiB P) (h : M2 P base X X' m m w0 K w1 w) : Calls Tryz.prog 17 #[.pointer (some ⟨X, 0, none⟩), .pointer (some ⟨X', 0, none⟩)] w fun x w' => x = .returned (.bool true) ∧ M2 P base X X' m m w0 K w1 w' := by
  have hm := h
  obtain ⟨F, F', h1, h2, _⟩ := h
  exact (B.same _ _ _ _ _ _ _ h1 h2).mono (fun x w' ⟨e, hb⟩ => ⟨e, hm.step A hb⟩)
theorem Mine.copy (A : Api G P) (B : ApiB P) (h : Mine P base X m w0 w) (hb : base ≤ w0.heap.size) : Calls Tryz.prog 16 #[.pointer (some ⟨X, 0, none⟩)] w fun x w' => ∃ X', x = .returned (.pointer (some ⟨X', 0, none⟩)) ∧ M2 P base X X' m m w0 (fun _ => False) w' w' := by
  obtain ⟨F, h1, h2, h3⟩ := h
  refine (B.copy _ _ _ _ _ h1 (Nat.le_trans hb h3.size)).mono ?_
  rintro x w' ⟨⟨X', F', rfl, q1, q2⟩, q3⟩
  have l1 := A.lt _ _ _ _ _ h1
  exact ⟨X', rfl, F, F', A.stepB h1 q3, q1, h2, fun k hk => Nat.le_trans h3.size (q2 k hk), fun k hk hf => by have := (l1 k hk).2; have := q2 k hf; omega, fun k hk => hk.elim, h3.trans (q3.mono h3.size)⟩
end
/-- A row of one call. -/
theorem lies_one {W : World} {Y : Nat} {x : Ca} (h : W.heap[Y]? = some (.cells #[.int .i64 x.c.k, .int .i64 x.c.lb, .int .i64 x.c.ep, .int .i64 x.c.tm, .string ⟨x.c.da.toArray⟩, .string ⟨x.c.nm.toArray⟩, .slice x.p x.n x.cap] 35 (0, 0))) : Lies W (some ⟨Y, 0, none⟩) (cc [x]) := fun _ => by
  refine ⟨Y, 0, rfl, RecC.lt_of_some h, fun j u hj => ?_⟩
  rw [Nat.zero_add]
  rw [cc_one] at hj
  exact blk_cell h (by rw [← Array.getElem?_toList]; exact hj)
set_option maxRecDepth 100000 in
set_option maxHeartbeats 8000000 in
theorem refused_no {G : Nat → World → Prop} {P : PT} (A : Api G P) (B : ApiB P) {b lb f : Int} {a : Option Addr} {n ca : Nat} {l : List Ca} {x : Ca} {w : World} (hg : G w.heap.size w) (hl : Lies w a (cc l)) (hln : l.length = n) (hn : n ≤ maxLen) (hno : ¬ (GeoN.right b lb f ∧ CalF.fewB l = true ∧ lb ≤ 64)) : Calls Tryz.prog 4 #[.agg #[.int .i64 b, .int .i64 lb, .int .i64 f], .slice a n ca, .agg #[.int .i64 x.c.k, .int .i64 x.c.lb, .int .i64 x.c.ep, .int .i64 x.c.tm, .string ⟨x.c.da.toArray⟩, .string ⟨x.c.nm.toArray⟩, .slice x.p x.n x.cap]] w fun v w' => v = .returned (.bool true) ∧ Below w.heap.size w w' := by
  obtain ⟨W1, hW1⟩ : ∃ W1, W1 = (w.alloc (.cells #[.int .i64 b, .int .i64 lb, .int .i64 f] 23)).alloc (.cells #[.int .i64 x.c.k, .int .i64 x.c.lb, .int .i64 x.c.ep, .int .i64 x.c.tm, .string ⟨x.c.da.toArray⟩, .string ⟨x.c.nm.toArray⟩, .slice x.p x.n x.cap] 35) := ⟨_, rfl⟩
  have BB : Hid (Below w.heap.size w W1) := Lib.hid (by rw [hW1]; exact (below_new w _).trans ((below_new _ _).mono (by simp)))
  have hk : W1.heap[w.heap.size]? = some (.cells #[.int .i64 b, .int .i64 lb, .int .i64 f] 23 (0, 0)) := by rw [hW1]; exact heap_alloc2_old w _ _
  have hx : W1.heap[w.heap.size + 1]? = some (.cells #[.int .i64 x.c.k, .int .i64 x.c.lb, .int .i64 x.c.ep, .int .i64 x.c.tm, .string ⟨x.c.da.toArray⟩, .string ⟨x.c.nm.toArray⟩, .slice x.p x.n x.cap] 35 (0, 0)) := by rw [hW1]; exact heap_alloc2_new w _ _
  have HX := Lib.hid hx
  have c0 : W1.cell? ⟨w.heap.size, 0, none⟩ = some (.int .i64 b) := blk_cell hk rfl
  have c1 : W1.cell? ⟨w.heap.size, 1, none⟩ = some (.int .i64 lb) := blk_cell hk rfl
  have c2 : W1.cell? ⟨w.heap.size, 2, none⟩ = some (.int .i64 f) := blk_cell hk rfl
  have HL := Lib.hid (hl.step BB.out)
  have HA := Lib.hid (fun W (hb : Below w.heap.size w W) => alive A W (A.gs hg hb))
  have HF := Lib.hid (fun W Y (h : W.heap[Y]? = some (.cells #[.int .i64 x.c.k, .int .i64 x.c.lb, .int .i64 x.c.ep, .int .i64 x.c.tm, .string ⟨x.c.da.toArray⟩, .string ⟨x.c.nm.toArray⟩, .slice x.p x.n x.cap] 35 (0, 0))) => CalF.Few (some ⟨Y, 0, none⟩) 1 1 [x] W (lies_one h) rfl (by decide))
  clear hk hx hl
  have HB := Lib.hid (begun_no A (w := W1) (c := ca) (A.gs hg BB.out) HL.out hln hn hno)
  clear hno HL
  go_enter Tryz.func4, Tryz.ntmps4
  go_upto_region 1 with (fail)
  rw [← hW1]
  clear hW1
  go_wp2_with (first
    | (go_at_call 15; refine HB.out.mono ?_; rintro e7 w7 ⟨rfl, hb⟩; replace BB := Lib.hid (BB.out.trans (hb.mono BB.out.size)); clear hb HB c0 c1 c2)
    | (go_at_call 9; refine (HA.out _ BB.out).mono ?_; rintro e9 w9 ⟨rfl, hb⟩; have B9 := Lib.hid (BB.out.trans (hb.mono BB.out.size)); clear hb HA))
  go_ret
  exact ⟨rfl, B9.out⟩
set_option maxRecDepth 100000 in
set_option maxHeartbeats 8000000 in
theorem refused_many {G : Nat → World → Prop} {P : PT} (A : Api G P) (B : ApiB P) {b lb f : Int} {a : Option Addr} {n ca : Nat} {l : List Ca} {x : Ca} {w : World} (hg : G w.heap.size w) (hl : Lies w a (cc l)) (hln : l.length = n) (hn : n ≤ maxLen) (h1 : GeoN.right b lb f) (h2 : CalF.fewB l = true) (h3 : lb ≤ 64) (hx : CalF.fewB [x] = false) : Calls Tryz.prog 4 #[.agg #[.int .i64 b, .int .i64 lb, .int .i64 f], .slice a n ca, .agg #[.int .i64 x.c.k, .int .i64 x.c.lb, .int .i64 x.c.ep, .int .i64 x.c.tm, .string ⟨x.c.da.toArray⟩, .string ⟨x.c.nm.toArray⟩, .slice x.p x.n x.cap]] w fun v w' => v = .returned (.bool true) ∧ Below w.heap.size w w' := by
  obtain ⟨W1, hW1⟩ : ∃ W1, W1 = (w.alloc (.cells #[.int .i64 b, .int .i64 lb, .int .i64 f] 23)).alloc (.cells #[.int .i64 x.c.k, .int .i64 x.c.lb, .int .i64 x.c.ep, .int .i64 x.c.tm, .string ⟨x.c.da.toArray⟩, .string ⟨x.c.nm.toArray⟩, .slice x.p x.n x.cap] 35) := ⟨_, rfl⟩
  have BB : Hid (Below w.heap.size w W1) := Lib.hid (by rw [hW1]; exact (below_new w _).trans ((below_new _ _).mono (by simp)))
  have hk : W1.heap[w.heap.size]? = some (.cells #[.int .i64 b, .int .i64 lb, .int .i64 f] 23 (0, 0)) := by rw [hW1]; exact heap_alloc2_old w _ _
  have hx1 : W1.heap[w.heap.size + 1]? = some (.cells #[.int .i64 x.c.k, .int .i64 x.c.lb, .int .i64 x.c.ep, .int .i64 x.c.tm, .string ⟨x.c.da.toArray⟩, .string ⟨x.c.nm.toArray⟩, .slice x.p x.n x.cap] 35 (0, 0)) := by rw [hW1]; exact heap_alloc2_new w _ _
  have HX := Lib.hid hx1
  have c0 : W1.cell? ⟨w.heap.size, 0, none⟩ = some (.int .i64 b) := blk_cell hk rfl
  have c1 : W1.cell? ⟨w.heap.size, 1, none⟩ = some (.int .i64 lb) := blk_cell hk rfl
  have c2 : W1.cell? ⟨w.heap.size, 2, none⟩ = some (.int .i64 f) := blk_cell hk rfl
  have HL := Lib.hid (hl.step BB.out)
  have HA := Lib.hid (fun W (hb : Below w.heap.size w W) => alive A W (A.gs hg hb))
  have HF := Lib.hid (fun W Y (h : W.heap[Y]? = some (.cells #[.int .i64 x.c.k, .int .i64 x.c.lb, .int .i64 x.c.ep, .int .i64 x.c.tm, .string ⟨x.c.da.toArray⟩, .string ⟨x.c.nm.toArray⟩, .slice x.p x.n x.cap] 35 (0, 0))) => CalF.Few (some ⟨Y, 0, none⟩) 1 1 [x] W (lies_one h) rfl (by decide))
  clear hk hl
  have HB := Lib.hid (begun_yes A (base := w.heap.size) (w := W1) (c := ca) BB.out.size (A.gd _ _ _ hg BB.out.size BB.out.block) HL.out hln hn h1 h2 h3)
  obtain ⟨m, hm0⟩ : ∃ m, m = doL (MdN.new b lb f) (cs l) := ⟨_, rfl⟩
  rw [← hm0] at HB
  clear h1 h2 h3 hm0 HL
  rw [hx] at HF
  clear hx
  go_enter Tryz.func4, Tryz.ntmps4
  go_upto_region 1 with (fail)
  rw [← hW1]
  clear hW1
  go_upto_region 2 with (go_at_call 15; refine HB.out.mono ?_; rintro e7 w7 ⟨X, rfl, hm7⟩; have MM := Lib.hid hm7; clear hm7 HB c0 c1 c2)
  have k0 : w7.cell? ⟨w.heap.size + 1, 0, none⟩ = some (.int .i64 x.c.k) := blk_cell ((MM.out.bel.block _ (RecC.lt_of_some HX.out)).trans HX.out) rfl
  have k1 : w7.cell? ⟨w.heap.size + 1, 1, none⟩ = some (.int .i64 x.c.lb) := blk_cell ((MM.out.bel.block _ (RecC.lt_of_some HX.out)).trans HX.out) rfl
  have k2 : w7.cell? ⟨w.heap.size + 1, 2, none⟩ = some (.int .i64 x.c.ep) := blk_cell ((MM.out.bel.block _ (RecC.lt_of_some HX.out)).trans HX.out) rfl
  have k3 : w7.cell? ⟨w.heap.size + 1, 3, none⟩ = some (.int .i64 x.c.tm) := blk_cell ((MM.out.bel.block _ (RecC.lt_of_some HX.out)).trans HX.out) rfl
  have k4 : w7.cell? ⟨w.heap.size + 1, 4, none⟩ = some (.string ⟨x.c.da.toArray⟩) := blk_cell ((MM.out.bel.block _ (RecC.lt_of_some HX.out)).trans HX.out) rfl
  have k5 : w7.cell? ⟨w.heap.size + 1, 5, none⟩ = some (.string ⟨x.c.nm.toArray⟩) := blk_cell ((MM.out.bel.block _ (RecC.lt_of_some HX.out)).trans HX.out) rfl
  have k6 : w7.cell? ⟨w.heap.size + 1, 6, none⟩ = some (.slice x.p x.n x.cap) := blk_cell ((MM.out.bel.block _ (RecC.lt_of_some HX.out)).trans HX.out) rfl
  go_wp2_with (first
    | (go_at_call 8; refine (HF.out _ _ (heap_alloc_new w7 _)).mono ?_; rintro e8 w8 ⟨rfl, hb⟩; replace MM := Lib.hid ((MM.out.step A (below_new w7 _)).step A hb); clear hb HF)
    | (go_at_call 9; refine (HA.out _ (BB.out.trans (MM.out.bel.mono BB.out.size))).mono ?_; rintro e9 w9 ⟨rfl, hb⟩; have B9 := Lib.hid (BB.out.trans ((MM.out.bel.trans (hb.mono MM.out.bel.size)).mono BB.out.size)); clear hb HA))
  go_ret
  exact ⟨rfl, B9.out⟩
set_option maxRecDepth 100000 in
set_option maxHeartbeats 16000000 in
theorem refused_yes {G : Nat → World → Prop} {P : PT} (A : Api G P) (B : ApiB P) {b lb f : Int} {a : Option Addr} {n ca : Nat} {l : List Ca} {x : Ca} {w : World} (hg : G w.heap.size w) (hl : Lies w a (cc l)) (hln : l.length = n) (hn : n ≤ maxLen) (h1 : GeoN.right b lb f) (h2 : CalF.fewB l = true) (h3 : lb ≤ 64) (hfx : CalF.fewB [x] = true) : Calls Tryz.prog 4 #[.agg #[.int .i64 b, .int .i64 lb, .int .i64 f], .slice a n ca, .agg #[.int .i64 x.c.k, .int .i64 x.c.lb, .int .i64 x.c.ep, .int .i64 x.c.tm, .string ⟨x.c.da.toArray⟩, .string ⟨x.c.nm.toArray⟩, .slice x.p x.n x.cap]] w fun v w' => v = .returned (.bool true) ∧ Below w.heap.size w w' := by
  obtain ⟨W1, hW1⟩ : ∃ W1, W1 = (w.alloc (.cells #[.int .i64 b, .int .i64 lb, .int .i64 f] 23)).alloc (.cells #[.int .i64 x.c.k, .int .i64 x.c.lb, .int .i64 x.c.ep, .int .i64 x.c.tm, .string ⟨x.c.da.toArray⟩, .string ⟨x.c.nm.toArray⟩, .slice x.p x.n x.cap] 35) := ⟨_, rfl⟩
  have BB : Hid (Below w.heap.size w W1) := Lib.hid (by rw [hW1]; exact (below_new w _).trans ((below_new _ _).mono (by simp)))
  have hk : W1.heap[w.heap.size]? = some (.cells #[.int .i64 b, .int .i64 lb, .int .i64 f] 23 (0, 0)) := by rw [hW1]; exact heap_alloc2_old w _ _
  have hx1 : W1.heap[w.heap.size + 1]? = some (.cells #[.int .i64 x.c.k, .int .i64 x.c.lb, .int .i64 x.c.ep, .int .i64 x.c.tm, .string ⟨x.c.da.toArray⟩, .string ⟨x.c.nm.toArray⟩, .slice x.p x.n x.cap] 35 (0, 0)) := by rw [hW1]; exact heap_alloc2_new w _ _
  have HX := Lib.hid hx1
  have c0 : W1.cell? ⟨w.heap.size, 0, none⟩ = some (.int .i64 b) := blk_cell hk rfl
  have c1 : W1.cell? ⟨w.heap.size, 1, none⟩ = some (.int .i64 lb) := blk_cell hk rfl
  have c2 : W1.cell? ⟨w.heap.size, 2, none⟩ = some (.int .i64 f) := blk_cell hk rfl
  have HL := Lib.hid (hl.step BB.out)
  have HA := Lib.hid (fun W (hb : Below w.heap.size w W) => alive A W (A.gs hg hb))
  have HF := Lib.hid (fun W Y (h : W.heap[Y]? = some (.cells #[.int .i64 x.c.k, .int .i64 x.c.lb, .int .i64 x.c.ep, .int .i64 x.c.tm, .string ⟨x.c.da.toArray⟩, .string ⟨x.c.nm.toArray⟩, .slice x.p x.n x.cap] 35 (0, 0))) => CalF.Few (some ⟨Y, 0, none⟩) 1 1 [x] W (lies_one h) rfl (by decide))
  clear hk hl
  have HB := Lib.hid (begun_yes A (base := w.heap.size) (w := W1) (c := ca) BB.out.size (A.gd _ _ _ hg BB.out.size BB.out.block) HL.out hln hn h1 h2 h3)
  obtain ⟨m, hm0⟩ : ∃ m, m = doL (MdN.new b lb f) (cs l) := ⟨_, rfl⟩
  rw [← hm0] at HB
  clear h1 h2 h3 hm0 HL
  rw [hfx] at HF
  clear hfx
  have hrf := fun h => refused (m := m) (c := x.c) h
  obtain ⟨y, hy⟩ : ∃ y, y = doA m x.c := ⟨_, rfl⟩
  obtain ⟨m1, hm1⟩ : ∃ m1, m1 = doM m x.c := ⟨_, rfl⟩
  rw [← hy, ← hm1] at hrf
  have HD1 : Hid (∀ X X' K W1' W, M2 P w.heap.size X X' m m W1 K W1' W → Calls Tryz.prog 12 #[.pointer (some ⟨X, 0, none⟩), .agg #[.int .i64 x.c.k, .int .i64 x.c.lb, .int .i64 x.c.ep, .int .i64 x.c.tm, .string ⟨x.c.da.toArray⟩, .string ⟨x.c.nm.toArray⟩, .slice x.p x.n x.cap]] W fun v w' => v = .returned (.agg #[.int .i64 y.er, .string ⟨y.da.toArray⟩, .int .i64 y.st.ep, .int .i64 y.st.ck, .int .i64 y.st.fr, .int .i64 y.st.rc, .int .i64 y.st.pl, .int .i64 y.st.ho]) ∧ M2 P w.heap.size X X' m1 m W1 K W1' w') := Lib.hid (fun X X' K W1' W h => by
    have := h.does A BB.out.size x.c x.p x.n x.cap
    rw [← hy, ← hm1] at this
    exact this)
  have HD2 : Hid (∀ X X' K W1' W, M2 P w.heap.size X X' m1 m W1 K W1' W → Calls Tryz.prog 12 #[.pointer (some ⟨X', 0, none⟩), .agg #[.int .i64 x.c.k, .int .i64 x.c.lb, .int .i64 x.c.ep, .int .i64 x.c.tm, .string ⟨x.c.da.toArray⟩, .string ⟨x.c.nm.toArray⟩, .slice x.p x.n x.cap]] W fun v w' => v = .returned (.agg #[.int .i64 y.er, .string ⟨y.da.toArray⟩, .int .i64 y.st.ep, .int .i64 y.st.ck, .int .i64 y.st.fr, .int .i64 y.st.rc, .int .i64 y.st.pl, .int .i64 y.st.ho]) ∧ M2 P w.heap.size X X' m1 m1 W1 K W1' w') := Lib.hid (fun X X' K W1' W h => by
    have := h.swap.does A BB.out.size x.c x.p x.n x.cap
    rw [← hy, ← hm1] at this
    exact this.mono (fun v w' ⟨q1, q2⟩ => ⟨q1, q2.swap⟩))
  have hqe : ∀ W, (binOp .eql 39 (.agg #[.int .i64 y.er, .string ⟨y.da.toArray⟩, .int .i64 y.st.ep, .int .i64 y.st.ck, .int .i64 y.st.fr, .int .i64 y.st.rc, .int .i64 y.st.pl, .int .i64 y.st.ho]) (.agg #[.int .i64 y.er, .string ⟨y.da.toArray⟩, .int .i64 y.st.ep, .int .i64 y.st.ck, .int .i64 y.st.fr, .int .i64 y.st.rc, .int .i64 y.st.pl, .int .i64 y.st.ho])).run Tryz.prog W = .ok (.bool true) W := fun W => run_eql_ans y y true (by simp) W
  clear hy hm1
  have hcase : (x.c.k = 2 ∧ m1 = m) ∨ (x.c.k = 3 ∧ m1 = m) ∨ (x.c.k = 4 ∧ m1 = m) ∨ (x.c.k = 10 ∧ m1 = m) ∨ ((x.c.k ≠ 2 ∧ x.c.k ≠ 3 ∧ x.c.k ≠ 4 ∧ x.c.k ≠ 10) ∧ y.er ≠ 0 ∧ m1 = m) ∨ ((x.c.k ≠ 2 ∧ x.c.k ≠ 3 ∧ x.c.k ≠ 4 ∧ x.c.k ≠ 10) ∧ y.er = 0) := by
    by_cases q2 : x.c.k = 2
    · exact .inl ⟨q2, hrf (.inr (.inl q2))⟩
    by_cases q3 : x.c.k = 3
    · exact .inr (.inl ⟨q3, hrf (.inr (.inr (.inl q3)))⟩)
    by_cases q4 : x.c.k = 4
    · exact .inr (.inr (.inl ⟨q4, hrf (.inr (.inr (.inr (.inl q4))))⟩))
    by_cases q10 : x.c.k = 10
    · exact .inr (.inr (.inr (.inl ⟨q10, hrf (.inr (.inr (.inr (.inr q10))))⟩)))
    by_cases q0 : y.er = 0
    · exact .inr (.inr (.inr (.inr (.inr ⟨⟨q2, q3, q4, q10⟩, q0⟩))))
    · exact .inr (.inr (.inr (.inr (.inl ⟨⟨q2, q3, q4, q10⟩, q0, hrf (.inl q0)⟩))))
  clear hrf
  rcases hcase with ⟨hk, rfl⟩ | ⟨hk, rfl⟩ | ⟨hk, rfl⟩ | ⟨hk, rfl⟩ | ⟨⟨q2, q3, q4, q10⟩, hz, rfl⟩ | ⟨⟨q2, q3, q4, q10⟩, hz⟩
  · have t2 : (x.c.k == 2) = true := by simp [hk]
    clear hk
    by_cases hz : y.er = 0
    · have tz : (y.er != 0) = false := by simp [hz]
      clear hz
      go_enter Tryz.func4, Tryz.ntmps4
      go_upto_region 1 with (fail)
      rw [← hW1]
      clear hW1
      go_upto_region 2 with (go_at_call 15; refine HB.out.mono ?_; rintro e7 w7 ⟨X, rfl, hm7⟩; have MM := Lib.hid hm7; clear hm7 HB c0 c1 c2)
      have k0 : w7.cell? ⟨w.heap.size + 1, 0, none⟩ = some (.int .i64 x.c.k) := blk_cell ((MM.out.bel.block _ (RecC.lt_of_some HX.out)).trans HX.out) rfl
      have k1 : w7.cell? ⟨w.heap.size + 1, 1, none⟩ = some (.int .i64 x.c.lb) := blk_cell ((MM.out.bel.block _ (RecC.lt_of_some HX.out)).trans HX.out) rfl
      have k2 : w7.cell? ⟨w.heap.size + 1, 2, none⟩ = some (.int .i64 x.c.ep) := blk_cell ((MM.out.bel.block _ (RecC.lt_of_some HX.out)).trans HX.out) rfl
      have k3 : w7.cell? ⟨w.heap.size + 1, 3, none⟩ = some (.int .i64 x.c.tm) := blk_cell ((MM.out.bel.block _ (RecC.lt_of_some HX.out)).trans HX.out) rfl
      have k4 : w7.cell? ⟨w.heap.size + 1, 4, none⟩ = some (.string ⟨x.c.da.toArray⟩) := blk_cell ((MM.out.bel.block _ (RecC.lt_of_some HX.out)).trans HX.out) rfl
      have k5 : w7.cell? ⟨w.heap.size + 1, 5, none⟩ = some (.string ⟨x.c.nm.toArray⟩) := blk_cell ((MM.out.bel.block _ (RecC.lt_of_some HX.out)).trans HX.out) rfl
      have k6 : w7.cell? ⟨w.heap.size + 1, 6, none⟩ = some (.slice x.p x.n x.cap) := blk_cell ((MM.out.bel.block _ (RecC.lt_of_some HX.out)).trans HX.out) rfl
      go_upto_region 4 with (go_at_call 8; refine (HF.out _ _ (heap_alloc_new w7 _)).mono ?_; rintro e8 w8 ⟨rfl, hb⟩; replace MM := Lib.hid ((MM.out.step A (below_new w7 _)).step A hb); clear hb HF)
      clear k0 k1 k2 k3 k4 k5 k6
      go_upto_region 5 with (go_at_call 16; refine (Mine.copy A B MM.out BB.out.size).mono ?_; rintro e10 w10 ⟨X', rfl, h⟩; have TT := Lib.hid h; clear h MM)
      go_upto_region 7 with (go_at_call 17; refine (TT.out.same A B).mono ?_; rintro eS w11 ⟨rfl, hS⟩; replace TT := Lib.hid hS; clear hS)
      have k0 : w11.cell? ⟨w.heap.size + 1, 0, none⟩ = some (.int .i64 x.c.k) := blk_cell ((TT.out.bel.block _ (RecC.lt_of_some HX.out)).trans HX.out) rfl
      have k1 : w11.cell? ⟨w.heap.size + 1, 1, none⟩ = some (.int .i64 x.c.lb) := blk_cell ((TT.out.bel.block _ (RecC.lt_of_some HX.out)).trans HX.out) rfl
      have k2 : w11.cell? ⟨w.heap.size + 1, 2, none⟩ = some (.int .i64 x.c.ep) := blk_cell ((TT.out.bel.block _ (RecC.lt_of_some HX.out)).trans HX.out) rfl
      have k3 : w11.cell? ⟨w.heap.size + 1, 3, none⟩ = some (.int .i64 x.c.tm) := blk_cell ((TT.out.bel.block _ (RecC.lt_of_some HX.out)).trans HX.out) rfl
      have k4 : w11.cell? ⟨w.heap.size + 1, 4, none⟩ = some (.string ⟨x.c.da.toArray⟩) := blk_cell ((TT.out.bel.block _ (RecC.lt_of_some HX.out)).trans HX.out) rfl
      have k5 : w11.cell? ⟨w.heap.size + 1, 5, none⟩ = some (.string ⟨x.c.nm.toArray⟩) := blk_cell ((TT.out.bel.block _ (RecC.lt_of_some HX.out)).trans HX.out) rfl
      have k6 : w11.cell? ⟨w.heap.size + 1, 6, none⟩ = some (.slice x.p x.n x.cap) := blk_cell ((TT.out.bel.block _ (RecC.lt_of_some HX.out)).trans HX.out) rfl
      go_upto_region 8 with (first
        | (go_at_call 12; refine (HD1.out _ _ _ _ _ TT.out).mono ?_; rintro e12 w12 ⟨rfl, hD⟩; replace TT := Lib.hid hD; clear hD HD1 k0 k1 k2 k3 k4 k5 k6)
        | (refine wpList_store_row rfl 39 _ _ rfl w12.heap.size _ rfl rfl 39 _ (heap_alloc_new w12 _) infoA rfl (one8A y) ?_))
      generalize hW : World.setRow _ _ _ = W8
      have b8 : Below w12.heap.size w12 W8 := by rw [← hW]; exact kept_new w12 _ _ _
      have h8 : W8.heap[w12.heap.size]? = some (.cells #[.int .i64 y.er, .string ⟨y.da.toArray⟩, .int .i64 y.st.ep, .int .i64 y.st.ck, .int .i64 y.st.fr, .int .i64 y.st.rc, .int .i64 y.st.pl, .int .i64 y.st.ho] 39 (0, 0)) := by rw [← hW]; exact has_new w12 _ _ _
      replace TT := Lib.hid (TT.out.more (K' := (fun k => k = w12.heap.size)) A b8 (fun k hk => .inr ⟨by omega, by have := RecC.lt_of_some h8; omega⟩))
      have H8 := Lib.hid h8
      clear hW b8
      have k0 : W8.cell? ⟨w.heap.size + 1, 0, none⟩ = some (.int .i64 x.c.k) := blk_cell ((TT.out.bel.block _ (RecC.lt_of_some HX.out)).trans HX.out) rfl
      have a0 : W8.cell? ⟨w12.heap.size, 0, none⟩ = some (.int .i64 y.er) := blk_cell h8 rfl
      clear h8
      go_upto_region 11 with (go_at_call 17; refine (TT.out.same A B).mono ?_; rintro eS wS ⟨rfl, hS⟩; replace TT := Lib.hid hS; clear hS)
      clear k0 a0
      have k0 : wS.cell? ⟨w.heap.size + 1, 0, none⟩ = some (.int .i64 x.c.k) := blk_cell ((TT.out.bel.block _ (RecC.lt_of_some HX.out)).trans HX.out) rfl
      have k1 : wS.cell? ⟨w.heap.size + 1, 1, none⟩ = some (.int .i64 x.c.lb) := blk_cell ((TT.out.bel.block _ (RecC.lt_of_some HX.out)).trans HX.out) rfl
      have k2 : wS.cell? ⟨w.heap.size + 1, 2, none⟩ = some (.int .i64 x.c.ep) := blk_cell ((TT.out.bel.block _ (RecC.lt_of_some HX.out)).trans HX.out) rfl
      have k3 : wS.cell? ⟨w.heap.size + 1, 3, none⟩ = some (.int .i64 x.c.tm) := blk_cell ((TT.out.bel.block _ (RecC.lt_of_some HX.out)).trans HX.out) rfl
      have k4 : wS.cell? ⟨w.heap.size + 1, 4, none⟩ = some (.string ⟨x.c.da.toArray⟩) := blk_cell ((TT.out.bel.block _ (RecC.lt_of_some HX.out)).trans HX.out) rfl
      have k5 : wS.cell? ⟨w.heap.size + 1, 5, none⟩ = some (.string ⟨x.c.nm.toArray⟩) := blk_cell ((TT.out.bel.block _ (RecC.lt_of_some HX.out)).trans HX.out) rfl
      have k6 : wS.cell? ⟨w.heap.size + 1, 6, none⟩ = some (.slice x.p x.n x.cap) := blk_cell ((TT.out.bel.block _ (RecC.lt_of_some HX.out)).trans HX.out) rfl
      go_upto_region 12 with (first
        | (go_at_call 12; refine (HD2.out _ _ _ _ _ TT.out).mono ?_; rintro e14 w14 ⟨rfl, hD⟩; replace TT := Lib.hid hD; clear hD HD2 k0 k1 k2 k3 k4 k5 k6)
        | (refine wpList_store_row rfl 39 _ _ rfl w14.heap.size _ rfl rfl 39 _ (heap_alloc_new w14 _) infoA rfl (one8A y) ?_))
      generalize hW : World.setRow _ _ _ = W9
      have b9 : Below w14.heap.size w14 W9 := by rw [← hW]; exact kept_new w14 _ _ _
      have h9 : W9.heap[w14.heap.size]? = some (.cells #[.int .i64 y.er, .string ⟨y.da.toArray⟩, .int .i64 y.st.ep, .int .i64 y.st.ck, .int .i64 y.st.fr, .int .i64 y.st.rc, .int .i64 y.st.pl, .int .i64 y.st.ho] 39 (0, 0)) := by rw [← hW]; exact has_new w14 _ _ _
      replace TT := Lib.hid (TT.out.step A b9)
      have h8 := TT.out.at_ rfl H8.out
      clear hW b9
      have a0 : W9.cell? ⟨w12.heap.size, 0, none⟩ = some (.int .i64 y.er) := blk_cell h8 rfl
      have a1 : W9.cell? ⟨w12.heap.size, 1, none⟩ = some (.string ⟨y.da.toArray⟩) := blk_cell h8 rfl
      have a2 : W9.cell? ⟨w12.heap.size, 2, none⟩ = some (.int .i64 y.st.ep) := blk_cell h8 rfl
      have a3 : W9.cell? ⟨w12.heap.size, 3, none⟩ = some (.int .i64 y.st.ck) := blk_cell h8 rfl
      have a4 : W9.cell? ⟨w12.heap.size, 4, none⟩ = some (.int .i64 y.st.fr) := blk_cell h8 rfl
      have a5 : W9.cell? ⟨w12.heap.size, 5, none⟩ = some (.int .i64 y.st.rc) := blk_cell h8 rfl
      have a6 : W9.cell? ⟨w12.heap.size, 6, none⟩ = some (.int .i64 y.st.pl) := blk_cell h8 rfl
      have a7 : W9.cell? ⟨w12.heap.size, 7, none⟩ = some (.int .i64 y.st.ho) := blk_cell h8 rfl
      have b0 : W9.cell? ⟨w14.heap.size, 0, none⟩ = some (.int .i64 y.er) := blk_cell h9 rfl
      have b1 : W9.cell? ⟨w14.heap.size, 1, none⟩ = some (.string ⟨y.da.toArray⟩) := blk_cell h9 rfl
      have b2 : W9.cell? ⟨w14.heap.size, 2, none⟩ = some (.int .i64 y.st.ep) := blk_cell h9 rfl
      have b3 : W9.cell? ⟨w14.heap.size, 3, none⟩ = some (.int .i64 y.st.ck) := blk_cell h9 rfl
      have b4 : W9.cell? ⟨w14.heap.size, 4, none⟩ = some (.int .i64 y.st.fr) := blk_cell h9 rfl
      have b5 : W9.cell? ⟨w14.heap.size, 5, none⟩ = some (.int .i64 y.st.rc) := blk_cell h9 rfl
      have b6 : W9.cell? ⟨w14.heap.size, 6, none⟩ = some (.int .i64 y.st.pl) := blk_cell h9 rfl
      have b7 : W9.cell? ⟨w14.heap.size, 7, none⟩ = some (.int .i64 y.st.ho) := blk_cell h9 rfl
      clear h8 h9
      have FL : Hid True := Lib.hid trivial
      go_wp2_with (first
          | (go_at_call 17; first | (clear FL; refine (TT.out.same A B).mono ?_; rintro eS w15 ⟨rfl, hS⟩; replace TT := Lib.hid hS; clear hS) | (refine (TT.out.swap.same A B).mono ?_; rintro eS w15 ⟨rfl, hS⟩; replace TT := Lib.hid hS.swap; clear hS))
          | (go_at_call 9; refine (HA.out _ (BB.out.trans (TT.out.bel.mono BB.out.size))).mono ?_; rintro e9 w9 ⟨rfl, hb⟩; have B9 := Lib.hid (BB.out.trans ((TT.out.bel.trans (hb.mono TT.out.bel.size)).mono BB.out.size)); clear hb HA))
      go_ret
      exact ⟨rfl, B9.out⟩
    · have tz : (y.er != 0) = true := by simp [hz]
      clear hz
      go_enter Tryz.func4, Tryz.ntmps4
      go_upto_region 1 with (fail)
      rw [← hW1]
      clear hW1
      go_upto_region 2 with (go_at_call 15; refine HB.out.mono ?_; rintro e7 w7 ⟨X, rfl, hm7⟩; have MM := Lib.hid hm7; clear hm7 HB c0 c1 c2)
      have k0 : w7.cell? ⟨w.heap.size + 1, 0, none⟩ = some (.int .i64 x.c.k) := blk_cell ((MM.out.bel.block _ (RecC.lt_of_some HX.out)).trans HX.out) rfl
      have k1 : w7.cell? ⟨w.heap.size + 1, 1, none⟩ = some (.int .i64 x.c.lb) := blk_cell ((MM.out.bel.block _ (RecC.lt_of_some HX.out)).trans HX.out) rfl
      have k2 : w7.cell? ⟨w.heap.size + 1, 2, none⟩ = some (.int .i64 x.c.ep) := blk_cell ((MM.out.bel.block _ (RecC.lt_of_some HX.out)).trans HX.out) rfl
      have k3 : w7.cell? ⟨w.heap.size + 1, 3, none⟩ = some (.int .i64 x.c.tm) := blk_cell ((MM.out.bel.block _ (RecC.lt_of_some HX.out)).trans HX.out) rfl
      have k4 : w7.cell? ⟨w.heap.size + 1, 4, none⟩ = some (.string ⟨x.c.da.toArray⟩) := blk_cell ((MM.out.bel.block _ (RecC.lt_of_some HX.out)).trans HX.out) rfl
      have k5 : w7.cell? ⟨w.heap.size + 1, 5, none⟩ = some (.string ⟨x.c.nm.toArray⟩) := blk_cell ((MM.out.bel.block _ (RecC.lt_of_some HX.out)).trans HX.out) rfl
      have k6 : w7.cell? ⟨w.heap.size + 1, 6, none⟩ = some (.slice x.p x.n x.cap) := blk_cell ((MM.out.bel.block _ (RecC.lt_of_some HX.out)).trans HX.out) rfl
      go_upto_region 4 with (go_at_call 8; refine (HF.out _ _ (heap_alloc_new w7 _)).mono ?_; rintro e8 w8 ⟨rfl, hb⟩; replace MM := Lib.hid ((MM.out.step A (below_new w7 _)).step A hb); clear hb HF)
      clear k0 k1 k2 k3 k4 k5 k6
      go_upto_region 5 with (go_at_call 16; refine (Mine.copy A B MM.out BB.out.size).mono ?_; rintro e10 w10 ⟨X', rfl, h⟩; have TT := Lib.hid h; clear h MM)
      go_upto_region 7 with (go_at_call 17; refine (TT.out.same A B).mono ?_; rintro eS w11 ⟨rfl, hS⟩; replace TT := Lib.hid hS; clear hS)
      have k0 : w11.cell? ⟨w.heap.size + 1, 0, none⟩ = some (.int .i64 x.c.k) := blk_cell ((TT.out.bel.block _ (RecC.lt_of_some HX.out)).trans HX.out) rfl
      have k1 : w11.cell? ⟨w.heap.size + 1, 1, none⟩ = some (.int .i64 x.c.lb) := blk_cell ((TT.out.bel.block _ (RecC.lt_of_some HX.out)).trans HX.out) rfl
      have k2 : w11.cell? ⟨w.heap.size + 1, 2, none⟩ = some (.int .i64 x.c.ep) := blk_cell ((TT.out.bel.block _ (RecC.lt_of_some HX.out)).trans HX.out) rfl
      have k3 : w11.cell? ⟨w.heap.size + 1, 3, none⟩ = some (.int .i64 x.c.tm) := blk_cell ((TT.out.bel.block _ (RecC.lt_of_some HX.out)).trans HX.out) rfl
      have k4 : w11.cell? ⟨w.heap.size + 1, 4, none⟩ = some (.string ⟨x.c.da.toArray⟩) := blk_cell ((TT.out.bel.block _ (RecC.lt_of_some HX.out)).trans HX.out) rfl
      have k5 : w11.cell? ⟨w.heap.size + 1, 5, none⟩ = some (.string ⟨x.c.nm.toArray⟩) := blk_cell ((TT.out.bel.block _ (RecC.lt_of_some HX.out)).trans HX.out) rfl
      have k6 : w11.cell? ⟨w.heap.size + 1, 6, none⟩ = some (.slice x.p x.n x.cap) := blk_cell ((TT.out.bel.block _ (RecC.lt_of_some HX.out)).trans HX.out) rfl
      go_upto_region 8 with (first
        | (go_at_call 12; refine (HD1.out _ _ _ _ _ TT.out).mono ?_; rintro e12 w12 ⟨rfl, hD⟩; replace TT := Lib.hid hD; clear hD HD1 k0 k1 k2 k3 k4 k5 k6)
        | (refine wpList_store_row rfl 39 _ _ rfl w12.heap.size _ rfl rfl 39 _ (heap_alloc_new w12 _) infoA rfl (one8A y) ?_))
      generalize hW : World.setRow _ _ _ = W8
      have b8 : Below w12.heap.size w12 W8 := by rw [← hW]; exact kept_new w12 _ _ _
      have h8 : W8.heap[w12.heap.size]? = some (.cells #[.int .i64 y.er, .string ⟨y.da.toArray⟩, .int .i64 y.st.ep, .int .i64 y.st.ck, .int .i64 y.st.fr, .int .i64 y.st.rc, .int .i64 y.st.pl, .int .i64 y.st.ho] 39 (0, 0)) := by rw [← hW]; exact has_new w12 _ _ _
      replace TT := Lib.hid (TT.out.more (K' := (fun k => k = w12.heap.size)) A b8 (fun k hk => .inr ⟨by omega, by have := RecC.lt_of_some h8; omega⟩))
      have H8 := Lib.hid h8
      clear hW b8
      have k0 : W8.cell? ⟨w.heap.size + 1, 0, none⟩ = some (.int .i64 x.c.k) := blk_cell ((TT.out.bel.block _ (RecC.lt_of_some HX.out)).trans HX.out) rfl
      have a0 : W8.cell? ⟨w12.heap.size, 0, none⟩ = some (.int .i64 y.er) := blk_cell h8 rfl
      clear h8
      go_upto_region 11 with (go_at_call 17; refine (TT.out.same A B).mono ?_; rintro eS wS ⟨rfl, hS⟩; replace TT := Lib.hid hS; clear hS)
      clear k0 a0
      have k0 : wS.cell? ⟨w.heap.size + 1, 0, none⟩ = some (.int .i64 x.c.k) := blk_cell ((TT.out.bel.block _ (RecC.lt_of_some HX.out)).trans HX.out) rfl
      have k1 : wS.cell? ⟨w.heap.size + 1, 1, none⟩ = some (.int .i64 x.c.lb) := blk_cell ((TT.out.bel.block _ (RecC.lt_of_some HX.out)).trans HX.out) rfl
      have k2 : wS.cell? ⟨w.heap.size + 1, 2, none⟩ = some (.int .i64 x.c.ep) := blk_cell ((TT.out.bel.block _ (RecC.lt_of_some HX.out)).trans HX.out) rfl
      have k3 : wS.cell? ⟨w.heap.size + 1, 3, none⟩ = some (.int .i64 x.c.tm) := blk_cell ((TT.out.bel.block _ (RecC.lt_of_some HX.out)).trans HX.out) rfl
      have k4 : wS.cell? ⟨w.heap.size + 1, 4, none⟩ = some (.string ⟨x.c.da.toArray⟩) := blk_cell ((TT.out.bel.block _ (RecC.lt_of_some HX.out)).trans HX.out) rfl
      have k5 : wS.cell? ⟨w.heap.size + 1, 5, none⟩ = some (.string ⟨x.c.nm.toArray⟩) := blk_cell ((TT.out.bel.block _ (RecC.lt_of_some HX.out)).trans HX.out) rfl
      have k6 : wS.cell? ⟨w.heap.size + 1, 6, none⟩ = some (.slice x.p x.n x.cap) := blk_cell ((TT.out.bel.block _ (RecC.lt_of_some HX.out)).trans HX.out) rfl
      go_upto_region 12 with (first
        | (go_at_call 12; refine (HD2.out _ _ _ _ _ TT.out).mono ?_; rintro e14 w14 ⟨rfl, hD⟩; replace TT := Lib.hid hD; clear hD HD2 k0 k1 k2 k3 k4 k5 k6)
        | (refine wpList_store_row rfl 39 _ _ rfl w14.heap.size _ rfl rfl 39 _ (heap_alloc_new w14 _) infoA rfl (one8A y) ?_))
      generalize hW : World.setRow _ _ _ = W9
      have b9 : Below w14.heap.size w14 W9 := by rw [← hW]; exact kept_new w14 _ _ _
      have h9 : W9.heap[w14.heap.size]? = some (.cells #[.int .i64 y.er, .string ⟨y.da.toArray⟩, .int .i64 y.st.ep, .int .i64 y.st.ck, .int .i64 y.st.fr, .int .i64 y.st.rc, .int .i64 y.st.pl, .int .i64 y.st.ho] 39 (0, 0)) := by rw [← hW]; exact has_new w14 _ _ _
      replace TT := Lib.hid (TT.out.step A b9)
      have h8 := TT.out.at_ rfl H8.out
      clear hW b9
      have a0 : W9.cell? ⟨w12.heap.size, 0, none⟩ = some (.int .i64 y.er) := blk_cell h8 rfl
      have a1 : W9.cell? ⟨w12.heap.size, 1, none⟩ = some (.string ⟨y.da.toArray⟩) := blk_cell h8 rfl
      have a2 : W9.cell? ⟨w12.heap.size, 2, none⟩ = some (.int .i64 y.st.ep) := blk_cell h8 rfl
      have a3 : W9.cell? ⟨w12.heap.size, 3, none⟩ = some (.int .i64 y.st.ck) := blk_cell h8 rfl
      have a4 : W9.cell? ⟨w12.heap.size, 4, none⟩ = some (.int .i64 y.st.fr) := blk_cell h8 rfl
      have a5 : W9.cell? ⟨w12.heap.size, 5, none⟩ = some (.int .i64 y.st.rc) := blk_cell h8 rfl
      have a6 : W9.cell? ⟨w12.heap.size, 6, none⟩ = some (.int .i64 y.st.pl) := blk_cell h8 rfl
      have a7 : W9.cell? ⟨w12.heap.size, 7, none⟩ = some (.int .i64 y.st.ho) := blk_cell h8 rfl
      have b0 : W9.cell? ⟨w14.heap.size, 0, none⟩ = some (.int .i64 y.er) := blk_cell h9 rfl
      have b1 : W9.cell? ⟨w14.heap.size, 1, none⟩ = some (.string ⟨y.da.toArray⟩) := blk_cell h9 rfl
      have b2 : W9.cell? ⟨w14.heap.size, 2, none⟩ = some (.int .i64 y.st.ep) := blk_cell h9 rfl
      have b3 : W9.cell? ⟨w14.heap.size, 3, none⟩ = some (.int .i64 y.st.ck) := blk_cell h9 rfl
      have b4 : W9.cell? ⟨w14.heap.size, 4, none⟩ = some (.int .i64 y.st.fr) := blk_cell h9 rfl
      have b5 : W9.cell? ⟨w14.heap.size, 5, none⟩ = some (.int .i64 y.st.rc) := blk_cell h9 rfl
      have b6 : W9.cell? ⟨w14.heap.size, 6, none⟩ = some (.int .i64 y.st.pl) := blk_cell h9 rfl
      have b7 : W9.cell? ⟨w14.heap.size, 7, none⟩ = some (.int .i64 y.st.ho) := blk_cell h9 rfl
      clear h8 h9
      have FL : Hid True := Lib.hid trivial
      go_wp2_with (first
          | (go_at_call 17; first | (clear FL; refine (TT.out.same A B).mono ?_; rintro eS w15 ⟨rfl, hS⟩; replace TT := Lib.hid hS; clear hS) | (refine (TT.out.swap.same A B).mono ?_; rintro eS w15 ⟨rfl, hS⟩; replace TT := Lib.hid hS.swap; clear hS))
          | (go_at_call 9; refine (HA.out _ (BB.out.trans (TT.out.bel.mono BB.out.size))).mono ?_; rintro e9 w9 ⟨rfl, hb⟩; have B9 := Lib.hid (BB.out.trans ((TT.out.bel.trans (hb.mono TT.out.bel.size)).mono BB.out.size)); clear hb HA))
      go_ret
      exact ⟨rfl, B9.out⟩
  · have t2 : (x.c.k == 2) = false := by simp [hk]
    have t3 : (x.c.k == 3) = true := by simp [hk]
    clear hk
    by_cases hz : y.er = 0
    · have tz : (y.er != 0) = false := by simp [hz]
      clear hz
      go_enter Tryz.func4, Tryz.ntmps4
      go_upto_region 1 with (fail)
      rw [← hW1]
      clear hW1
      go_upto_region 2 with (go_at_call 15; refine HB.out.mono ?_; rintro e7 w7 ⟨X, rfl, hm7⟩; have MM := Lib.hid hm7; clear hm7 HB c0 c1 c2)
      have k0 : w7.cell? ⟨w.heap.size + 1, 0, none⟩ = some (.int .i64 x.c.k) := blk_cell ((MM.out.bel.block _ (RecC.lt_of_some HX.out)).trans HX.out) rfl
      have k1 : w7.cell? ⟨w.heap.size + 1, 1, none⟩ = some (.int .i64 x.c.lb) := blk_cell ((MM.out.bel.block _ (RecC.lt_of_some HX.out)).trans HX.out) rfl
      have k2 : w7.cell? ⟨w.heap.size + 1, 2, none⟩ = some (.int .i64 x.c.ep) := blk_cell ((MM.out.bel.block _ (RecC.lt_of_some HX.out)).trans HX.out) rfl
      have k3 : w7.cell? ⟨w.heap.size + 1, 3, none⟩ = some (.int .i64 x.c.tm) := blk_cell ((MM.out.bel.block _ (RecC.lt_of_some HX.out)).trans HX.out) rfl
      have k4 : w7.cell? ⟨w.heap.size + 1, 4, none⟩ = some (.string ⟨x.c.da.toArray⟩) := blk_cell ((MM.out.bel.block _ (RecC.lt_of_some HX.out)).trans HX.out) rfl
      have k5 : w7.cell? ⟨w.heap.size + 1, 5, none⟩ = some (.string ⟨x.c.nm.toArray⟩) := blk_cell ((MM.out.bel.block _ (RecC.lt_of_some HX.out)).trans HX.out) rfl
      have k6 : w7.cell? ⟨w.heap.size + 1, 6, none⟩ = some (.slice x.p x.n x.cap) := blk_cell ((MM.out.bel.block _ (RecC.lt_of_some HX.out)).trans HX.out) rfl
      go_upto_region 4 with (go_at_call 8; refine (HF.out _ _ (heap_alloc_new w7 _)).mono ?_; rintro e8 w8 ⟨rfl, hb⟩; replace MM := Lib.hid ((MM.out.step A (below_new w7 _)).step A hb); clear hb HF)
      clear k0 k1 k2 k3 k4 k5 k6
      go_upto_region 5 with (go_at_call 16; refine (Mine.copy A B MM.out BB.out.size).mono ?_; rintro e10 w10 ⟨X', rfl, h⟩; have TT := Lib.hid h; clear h MM)
      go_upto_region 7 with (go_at_call 17; refine (TT.out.same A B).mono ?_; rintro eS w11 ⟨rfl, hS⟩; replace TT := Lib.hid hS; clear hS)
      have k0 : w11.cell? ⟨w.heap.size + 1, 0, none⟩ = some (.int .i64 x.c.k) := blk_cell ((TT.out.bel.block _ (RecC.lt_of_some HX.out)).trans HX.out) rfl
      have k1 : w11.cell? ⟨w.heap.size + 1, 1, none⟩ = some (.int .i64 x.c.lb) := blk_cell ((TT.out.bel.block _ (RecC.lt_of_some HX.out)).trans HX.out) rfl
      have k2 : w11.cell? ⟨w.heap.size + 1, 2, none⟩ = some (.int .i64 x.c.ep) := blk_cell ((TT.out.bel.block _ (RecC.lt_of_some HX.out)).trans HX.out) rfl
      have k3 : w11.cell? ⟨w.heap.size + 1, 3, none⟩ = some (.int .i64 x.c.tm) := blk_cell ((TT.out.bel.block _ (RecC.lt_of_some HX.out)).trans HX.out) rfl
      have k4 : w11.cell? ⟨w.heap.size + 1, 4, none⟩ = some (.string ⟨x.c.da.toArray⟩) := blk_cell ((TT.out.bel.block _ (RecC.lt_of_some HX.out)).trans HX.out) rfl
      have k5 : w11.cell? ⟨w.heap.size + 1, 5, none⟩ = some (.string ⟨x.c.nm.toArray⟩) := blk_cell ((TT.out.bel.block _ (RecC.lt_of_some HX.out)).trans HX.out) rfl
      have k6 : w11.cell? ⟨w.heap.size + 1, 6, none⟩ = some (.slice x.p x.n x.cap) := blk_cell ((TT.out.bel.block _ (RecC.lt_of_some HX.out)).trans HX.out) rfl
      go_upto_region 8 with (first
        | (go_at_call 12; refine (HD1.out _ _ _ _ _ TT.out).mono ?_; rintro e12 w12 ⟨rfl, hD⟩; replace TT := Lib.hid hD; clear hD HD1 k0 k1 k2 k3 k4 k5 k6)
        | (refine wpList_store_row rfl 39 _ _ rfl w12.heap.size _ rfl rfl 39 _ (heap_alloc_new w12 _) infoA rfl (one8A y) ?_))
      generalize hW : World.setRow _ _ _ = W8
      have b8 : Below w12.heap.size w12 W8 := by rw [← hW]; exact kept_new w12 _ _ _
      have h8 : W8.heap[w12.heap.size]? = some (.cells #[.int .i64 y.er, .string ⟨y.da.toArray⟩, .int .i64 y.st.ep, .int .i64 y.st.ck, .int .i64 y.st.fr, .int .i64 y.st.rc, .int .i64 y.st.pl, .int .i64 y.st.ho] 39 (0, 0)) := by rw [← hW]; exact has_new w12 _ _ _
      replace TT := Lib.hid (TT.out.more (K' := (fun k => k = w12.heap.size)) A b8 (fun k hk => .inr ⟨by omega, by have := RecC.lt_of_some h8; omega⟩))
      have H8 := Lib.hid h8
      clear hW b8
      have k0 : W8.cell? ⟨w.heap.size + 1, 0, none⟩ = some (.int .i64 x.c.k) := blk_cell ((TT.out.bel.block _ (RecC.lt_of_some HX.out)).trans HX.out) rfl
      have a0 : W8.cell? ⟨w12.heap.size, 0, none⟩ = some (.int .i64 y.er) := blk_cell h8 rfl
      clear h8
      go_upto_region 11 with (go_at_call 17; refine (TT.out.same A B).mono ?_; rintro eS wS ⟨rfl, hS⟩; replace TT := Lib.hid hS; clear hS)
      clear k0 a0
      have k0 : wS.cell? ⟨w.heap.size + 1, 0, none⟩ = some (.int .i64 x.c.k) := blk_cell ((TT.out.bel.block _ (RecC.lt_of_some HX.out)).trans HX.out) rfl
      have k1 : wS.cell? ⟨w.heap.size + 1, 1, none⟩ = some (.int .i64 x.c.lb) := blk_cell ((TT.out.bel.block _ (RecC.lt_of_some HX.out)).trans HX.out) rfl
      have k2 : wS.cell? ⟨w.heap.size + 1, 2, none⟩ = some (.int .i64 x.c.ep) := blk_cell ((TT.out.bel.block _ (RecC.lt_of_some HX.out)).trans HX.out) rfl
      have k3 : wS.cell? ⟨w.heap.size + 1, 3, none⟩ = some (.int .i64 x.c.tm) := blk_cell ((TT.out.bel.block _ (RecC.lt_of_some HX.out)).trans HX.out) rfl
      have k4 : wS.cell? ⟨w.heap.size + 1, 4, none⟩ = some (.string ⟨x.c.da.toArray⟩) := blk_cell ((TT.out.bel.block _ (RecC.lt_of_some HX.out)).trans HX.out) rfl
      have k5 : wS.cell? ⟨w.heap.size + 1, 5, none⟩ = some (.string ⟨x.c.nm.toArray⟩) := blk_cell ((TT.out.bel.block _ (RecC.lt_of_some HX.out)).trans HX.out) rfl
      have k6 : wS.cell? ⟨w.heap.size + 1, 6, none⟩ = some (.slice x.p x.n x.cap) := blk_cell ((TT.out.bel.block _ (RecC.lt_of_some HX.out)).trans HX.out) rfl
      go_upto_region 12 with (first
        | (go_at_call 12; refine (HD2.out _ _ _ _ _ TT.out).mono ?_; rintro e14 w14 ⟨rfl, hD⟩; replace TT := Lib.hid hD; clear hD HD2 k0 k1 k2 k3 k4 k5 k6)
        | (refine wpList_store_row rfl 39 _ _ rfl w14.heap.size _ rfl rfl 39 _ (heap_alloc_new w14 _) infoA rfl (one8A y) ?_))
      generalize hW : World.setRow _ _ _ = W9
      have b9 : Below w14.heap.size w14 W9 := by rw [← hW]; exact kept_new w14 _ _ _
      have h9 : W9.heap[w14.heap.size]? = some (.cells #[.int .i64 y.er, .string ⟨y.da.toArray⟩, .int .i64 y.st.ep, .int .i64 y.st.ck, .int .i64 y.st.fr, .int .i64 y.st.rc, .int .i64 y.st.pl, .int .i64 y.st.ho] 39 (0, 0)) := by rw [← hW]; exact has_new w14 _ _ _
      replace TT := Lib.hid (TT.out.step A b9)
      have h8 := TT.out.at_ rfl H8.out
      clear hW b9
      have a0 : W9.cell? ⟨w12.heap.size, 0, none⟩ = some (.int .i64 y.er) := blk_cell h8 rfl
      have a1 : W9.cell? ⟨w12.heap.size, 1, none⟩ = some (.string ⟨y.da.toArray⟩) := blk_cell h8 rfl
      have a2 : W9.cell? ⟨w12.heap.size, 2, none⟩ = some (.int .i64 y.st.ep) := blk_cell h8 rfl
      have a3 : W9.cell? ⟨w12.heap.size, 3, none⟩ = some (.int .i64 y.st.ck) := blk_cell h8 rfl
      have a4 : W9.cell? ⟨w12.heap.size, 4, none⟩ = some (.int .i64 y.st.fr) := blk_cell h8 rfl
      have a5 : W9.cell? ⟨w12.heap.size, 5, none⟩ = some (.int .i64 y.st.rc) := blk_cell h8 rfl
      have a6 : W9.cell? ⟨w12.heap.size, 6, none⟩ = some (.int .i64 y.st.pl) := blk_cell h8 rfl
      have a7 : W9.cell? ⟨w12.heap.size, 7, none⟩ = some (.int .i64 y.st.ho) := blk_cell h8 rfl
      have b0 : W9.cell? ⟨w14.heap.size, 0, none⟩ = some (.int .i64 y.er) := blk_cell h9 rfl
      have b1 : W9.cell? ⟨w14.heap.size, 1, none⟩ = some (.string ⟨y.da.toArray⟩) := blk_cell h9 rfl
      have b2 : W9.cell? ⟨w14.heap.size, 2, none⟩ = some (.int .i64 y.st.ep) := blk_cell h9 rfl
      have b3 : W9.cell? ⟨w14.heap.size, 3, none⟩ = some (.int .i64 y.st.ck) := blk_cell h9 rfl
      have b4 : W9.cell? ⟨w14.heap.size, 4, none⟩ = some (.int .i64 y.st.fr) := blk_cell h9 rfl
      have b5 : W9.cell? ⟨w14.heap.size, 5, none⟩ = some (.int .i64 y.st.rc) := blk_cell h9 rfl
      have b6 : W9.cell? ⟨w14.heap.size, 6, none⟩ = some (.int .i64 y.st.pl) := blk_cell h9 rfl
      have b7 : W9.cell? ⟨w14.heap.size, 7, none⟩ = some (.int .i64 y.st.ho) := blk_cell h9 rfl
      clear h8 h9
      have FL : Hid True := Lib.hid trivial
      go_wp2_with (first
          | (go_at_call 17; first | (clear FL; refine (TT.out.same A B).mono ?_; rintro eS w15 ⟨rfl, hS⟩; replace TT := Lib.hid hS; clear hS) | (refine (TT.out.swap.same A B).mono ?_; rintro eS w15 ⟨rfl, hS⟩; replace TT := Lib.hid hS.swap; clear hS))
          | (go_at_call 9; refine (HA.out _ (BB.out.trans (TT.out.bel.mono BB.out.size))).mono ?_; rintro e9 w9 ⟨rfl, hb⟩; have B9 := Lib.hid (BB.out.trans ((TT.out.bel.trans (hb.mono TT.out.bel.size)).mono BB.out.size)); clear hb HA))
      go_ret
      exact ⟨rfl, B9.out⟩
    · have tz : (y.er != 0) = true := by simp [hz]
      clear hz
      go_enter Tryz.func4, Tryz.ntmps4
      go_upto_region 1 with (fail)
      rw [← hW1]
      clear hW1
      go_upto_region 2 with (go_at_call 15; refine HB.out.mono ?_; rintro e7 w7 ⟨X, rfl, hm7⟩; have MM := Lib.hid hm7; clear hm7 HB c0 c1 c2)
      have k0 : w7.cell? ⟨w.heap.size + 1, 0, none⟩ = some (.int .i64 x.c.k) := blk_cell ((MM.out.bel.block _ (RecC.lt_of_some HX.out)).trans HX.out) rfl
      have k1 : w7.cell? ⟨w.heap.size + 1, 1, none⟩ = some (.int .i64 x.c.lb) := blk_cell ((MM.out.bel.block _ (RecC.lt_of_some HX.out)).trans HX.out) rfl
      have k2 : w7.cell? ⟨w.heap.size + 1, 2, none⟩ = some (.int .i64 x.c.ep) := blk_cell ((MM.out.bel.block _ (RecC.lt_of_some HX.out)).trans HX.out) rfl
      have k3 : w7.cell? ⟨w.heap.size + 1, 3, none⟩ = some (.int .i64 x.c.tm) := blk_cell ((MM.out.bel.block _ (RecC.lt_of_some HX.out)).trans HX.out) rfl
      have k4 : w7.cell? ⟨w.heap.size + 1, 4, none⟩ = some (.string ⟨x.c.da.toArray⟩) := blk_cell ((MM.out.bel.block _ (RecC.lt_of_some HX.out)).trans HX.out) rfl
      have k5 : w7.cell? ⟨w.heap.size + 1, 5, none⟩ = some (.string ⟨x.c.nm.toArray⟩) := blk_cell ((MM.out.bel.block _ (RecC.lt_of_some HX.out)).trans HX.out) rfl
      have k6 : w7.cell? ⟨w.heap.size + 1, 6, none⟩ = some (.slice x.p x.n x.cap) := blk_cell ((MM.out.bel.block _ (RecC.lt_of_some HX.out)).trans HX.out) rfl
      go_upto_region 4 with (go_at_call 8; refine (HF.out _ _ (heap_alloc_new w7 _)).mono ?_; rintro e8 w8 ⟨rfl, hb⟩; replace MM := Lib.hid ((MM.out.step A (below_new w7 _)).step A hb); clear hb HF)
      clear k0 k1 k2 k3 k4 k5 k6
      go_upto_region 5 with (go_at_call 16; refine (Mine.copy A B MM.out BB.out.size).mono ?_; rintro e10 w10 ⟨X', rfl, h⟩; have TT := Lib.hid h; clear h MM)
      go_upto_region 7 with (go_at_call 17; refine (TT.out.same A B).mono ?_; rintro eS w11 ⟨rfl, hS⟩; replace TT := Lib.hid hS; clear hS)
      have k0 : w11.cell? ⟨w.heap.size + 1, 0, none⟩ = some (.int .i64 x.c.k) := blk_cell ((TT.out.bel.block _ (RecC.lt_of_some HX.out)).trans HX.out) rfl
      have k1 : w11.cell? ⟨w.heap.size + 1, 1, none⟩ = some (.int .i64 x.c.lb) := blk_cell ((TT.out.bel.block _ (RecC.lt_of_some HX.out)).trans HX.out) rfl
      have k2 : w11.cell? ⟨w.heap.size + 1, 2, none⟩ = some (.int .i64 x.c.ep) := blk_cell ((TT.out.bel.block _ (RecC.lt_of_some HX.out)).trans HX.out) rfl
      have k3 : w11.cell? ⟨w.heap.size + 1, 3, none⟩ = some (.int .i64 x.c.tm) := blk_cell ((TT.out.bel.block _ (RecC.lt_of_some HX.out)).trans HX.out) rfl
      have k4 : w11.cell? ⟨w.heap.size + 1, 4, none⟩ = some (.string ⟨x.c.da.toArray⟩) := blk_cell ((TT.out.bel.block _ (RecC.lt_of_some HX.out)).trans HX.out) rfl
      have k5 : w11.cell? ⟨w.heap.size + 1, 5, none⟩ = some (.string ⟨x.c.nm.toArray⟩) := blk_cell ((TT.out.bel.block _ (RecC.lt_of_some HX.out)).trans HX.out) rfl
      have k6 : w11.cell? ⟨w.heap.size + 1, 6, none⟩ = some (.slice x.p x.n x.cap) := blk_cell ((TT.out.bel.block _ (RecC.lt_of_some HX.out)).trans HX.out) rfl
      go_upto_region 8 with (first
        | (go_at_call 12; refine (HD1.out _ _ _ _ _ TT.out).mono ?_; rintro e12 w12 ⟨rfl, hD⟩; replace TT := Lib.hid hD; clear hD HD1 k0 k1 k2 k3 k4 k5 k6)
        | (refine wpList_store_row rfl 39 _ _ rfl w12.heap.size _ rfl rfl 39 _ (heap_alloc_new w12 _) infoA rfl (one8A y) ?_))
      generalize hW : World.setRow _ _ _ = W8
      have b8 : Below w12.heap.size w12 W8 := by rw [← hW]; exact kept_new w12 _ _ _
      have h8 : W8.heap[w12.heap.size]? = some (.cells #[.int .i64 y.er, .string ⟨y.da.toArray⟩, .int .i64 y.st.ep, .int .i64 y.st.ck, .int .i64 y.st.fr, .int .i64 y.st.rc, .int .i64 y.st.pl, .int .i64 y.st.ho] 39 (0, 0)) := by rw [← hW]; exact has_new w12 _ _ _
      replace TT := Lib.hid (TT.out.more (K' := (fun k => k = w12.heap.size)) A b8 (fun k hk => .inr ⟨by omega, by have := RecC.lt_of_some h8; omega⟩))
      have H8 := Lib.hid h8
      clear hW b8
      have k0 : W8.cell? ⟨w.heap.size + 1, 0, none⟩ = some (.int .i64 x.c.k) := blk_cell ((TT.out.bel.block _ (RecC.lt_of_some HX.out)).trans HX.out) rfl
      have a0 : W8.cell? ⟨w12.heap.size, 0, none⟩ = some (.int .i64 y.er) := blk_cell h8 rfl
      clear h8
      go_upto_region 11 with (go_at_call 17; refine (TT.out.same A B).mono ?_; rintro eS wS ⟨rfl, hS⟩; replace TT := Lib.hid hS; clear hS)
      clear k0 a0
      have k0 : wS.cell? ⟨w.heap.size + 1, 0, none⟩ = some (.int .i64 x.c.k) := blk_cell ((TT.out.bel.block _ (RecC.lt_of_some HX.out)).trans HX.out) rfl
      have k1 : wS.cell? ⟨w.heap.size + 1, 1, none⟩ = some (.int .i64 x.c.lb) := blk_cell ((TT.out.bel.block _ (RecC.lt_of_some HX.out)).trans HX.out) rfl
      have k2 : wS.cell? ⟨w.heap.size + 1, 2, none⟩ = some (.int .i64 x.c.ep) := blk_cell ((TT.out.bel.block _ (RecC.lt_of_some HX.out)).trans HX.out) rfl
      have k3 : wS.cell? ⟨w.heap.size + 1, 3, none⟩ = some (.int .i64 x.c.tm) := blk_cell ((TT.out.bel.block _ (RecC.lt_of_some HX.out)).trans HX.out) rfl
      have k4 : wS.cell? ⟨w.heap.size + 1, 4, none⟩ = some (.string ⟨x.c.da.toArray⟩) := blk_cell ((TT.out.bel.block _ (RecC.lt_of_some HX.out)).trans HX.out) rfl
      have k5 : wS.cell? ⟨w.heap.size + 1, 5, none⟩ = some (.string ⟨x.c.nm.toArray⟩) := blk_cell ((TT.out.bel.block _ (RecC.lt_of_some HX.out)).trans HX.out) rfl
      have k6 : wS.cell? ⟨w.heap.size + 1, 6, none⟩ = some (.slice x.p x.n x.cap) := blk_cell ((TT.out.bel.block _ (RecC.lt_of_some HX.out)).trans HX.out) rfl
      go_upto_region 12 with (first
        | (go_at_call 12; refine (HD2.out _ _ _ _ _ TT.out).mono ?_; rintro e14 w14 ⟨rfl, hD⟩; replace TT := Lib.hid hD; clear hD HD2 k0 k1 k2 k3 k4 k5 k6)
        | (refine wpList_store_row rfl 39 _ _ rfl w14.heap.size _ rfl rfl 39 _ (heap_alloc_new w14 _) infoA rfl (one8A y) ?_))
      generalize hW : World.setRow _ _ _ = W9
      have b9 : Below w14.heap.size w14 W9 := by rw [← hW]; exact kept_new w14 _ _ _
      have h9 : W9.heap[w14.heap.size]? = some (.cells #[.int .i64 y.er, .string ⟨y.da.toArray⟩, .int .i64 y.st.ep, .int .i64 y.st.ck, .int .i64 y.st.fr, .int .i64 y.st.rc, .int .i64 y.st.pl, .int .i64 y.st.ho] 39 (0, 0)) := by rw [← hW]; exact has_new w14 _ _ _
      replace TT := Lib.hid (TT.out.step A b9)
      have h8 := TT.out.at_ rfl H8.out
      clear hW b9
      have a0 : W9.cell? ⟨w12.heap.size, 0, none⟩ = some (.int .i64 y.er) := blk_cell h8 rfl
      have a1 : W9.cell? ⟨w12.heap.size, 1, none⟩ = some (.string ⟨y.da.toArray⟩) := blk_cell h8 rfl
      have a2 : W9.cell? ⟨w12.heap.size, 2, none⟩ = some (.int .i64 y.st.ep) := blk_cell h8 rfl
      have a3 : W9.cell? ⟨w12.heap.size, 3, none⟩ = some (.int .i64 y.st.ck) := blk_cell h8 rfl
      have a4 : W9.cell? ⟨w12.heap.size, 4, none⟩ = some (.int .i64 y.st.fr) := blk_cell h8 rfl
      have a5 : W9.cell? ⟨w12.heap.size, 5, none⟩ = some (.int .i64 y.st.rc) := blk_cell h8 rfl
      have a6 : W9.cell? ⟨w12.heap.size, 6, none⟩ = some (.int .i64 y.st.pl) := blk_cell h8 rfl
      have a7 : W9.cell? ⟨w12.heap.size, 7, none⟩ = some (.int .i64 y.st.ho) := blk_cell h8 rfl
      have b0 : W9.cell? ⟨w14.heap.size, 0, none⟩ = some (.int .i64 y.er) := blk_cell h9 rfl
      have b1 : W9.cell? ⟨w14.heap.size, 1, none⟩ = some (.string ⟨y.da.toArray⟩) := blk_cell h9 rfl
      have b2 : W9.cell? ⟨w14.heap.size, 2, none⟩ = some (.int .i64 y.st.ep) := blk_cell h9 rfl
      have b3 : W9.cell? ⟨w14.heap.size, 3, none⟩ = some (.int .i64 y.st.ck) := blk_cell h9 rfl
      have b4 : W9.cell? ⟨w14.heap.size, 4, none⟩ = some (.int .i64 y.st.fr) := blk_cell h9 rfl
      have b5 : W9.cell? ⟨w14.heap.size, 5, none⟩ = some (.int .i64 y.st.rc) := blk_cell h9 rfl
      have b6 : W9.cell? ⟨w14.heap.size, 6, none⟩ = some (.int .i64 y.st.pl) := blk_cell h9 rfl
      have b7 : W9.cell? ⟨w14.heap.size, 7, none⟩ = some (.int .i64 y.st.ho) := blk_cell h9 rfl
      clear h8 h9
      have FL : Hid True := Lib.hid trivial
      go_wp2_with (first
          | (go_at_call 17; first | (clear FL; refine (TT.out.same A B).mono ?_; rintro eS w15 ⟨rfl, hS⟩; replace TT := Lib.hid hS; clear hS) | (refine (TT.out.swap.same A B).mono ?_; rintro eS w15 ⟨rfl, hS⟩; replace TT := Lib.hid hS.swap; clear hS))
          | (go_at_call 9; refine (HA.out _ (BB.out.trans (TT.out.bel.mono BB.out.size))).mono ?_; rintro e9 w9 ⟨rfl, hb⟩; have B9 := Lib.hid (BB.out.trans ((TT.out.bel.trans (hb.mono TT.out.bel.size)).mono BB.out.size)); clear hb HA))
      go_ret
      exact ⟨rfl, B9.out⟩
  · have t2 : (x.c.k == 2) = false := by simp [hk]
    have t3 : (x.c.k == 3) = false := by simp [hk]
    have t4 : (x.c.k == 4) = true := by simp [hk]
    clear hk
    by_cases hz : y.er = 0
    · have tz : (y.er != 0) = false := by simp [hz]
      clear hz
      go_enter Tryz.func4, Tryz.ntmps4
      go_upto_region 1 with (fail)
      rw [← hW1]
      clear hW1
      go_upto_region 2 with (go_at_call 15; refine HB.out.mono ?_; rintro e7 w7 ⟨X, rfl, hm7⟩; have MM := Lib.hid hm7; clear hm7 HB c0 c1 c2)
      have k0 : w7.cell? ⟨w.heap.size + 1, 0, none⟩ = some (.int .i64 x.c.k) := blk_cell ((MM.out.bel.block _ (RecC.lt_of_some HX.out)).trans HX.out) rfl
      have k1 : w7.cell? ⟨w.heap.size + 1, 1, none⟩ = some (.int .i64 x.c.lb) := blk_cell ((MM.out.bel.block _ (RecC.lt_of_some HX.out)).trans HX.out) rfl
      have k2 : w7.cell? ⟨w.heap.size + 1, 2, none⟩ = some (.int .i64 x.c.ep) := blk_cell ((MM.out.bel.block _ (RecC.lt_of_some HX.out)).trans HX.out) rfl
      have k3 : w7.cell? ⟨w.heap.size + 1, 3, none⟩ = some (.int .i64 x.c.tm) := blk_cell ((MM.out.bel.block _ (RecC.lt_of_some HX.out)).trans HX.out) rfl
      have k4 : w7.cell? ⟨w.heap.size + 1, 4, none⟩ = some (.string ⟨x.c.da.toArray⟩) := blk_cell ((MM.out.bel.block _ (RecC.lt_of_some HX.out)).trans HX.out) rfl
      have k5 : w7.cell? ⟨w.heap.size + 1, 5, none⟩ = some (.string ⟨x.c.nm.toArray⟩) := blk_cell ((MM.out.bel.block _ (RecC.lt_of_some HX.out)).trans HX.out) rfl
      have k6 : w7.cell? ⟨w.heap.size + 1, 6, none⟩ = some (.slice x.p x.n x.cap) := blk_cell ((MM.out.bel.block _ (RecC.lt_of_some HX.out)).trans HX.out) rfl
      go_upto_region 4 with (go_at_call 8; refine (HF.out _ _ (heap_alloc_new w7 _)).mono ?_; rintro e8 w8 ⟨rfl, hb⟩; replace MM := Lib.hid ((MM.out.step A (below_new w7 _)).step A hb); clear hb HF)
      clear k0 k1 k2 k3 k4 k5 k6
      go_upto_region 5 with (go_at_call 16; refine (Mine.copy A B MM.out BB.out.size).mono ?_; rintro e10 w10 ⟨X', rfl, h⟩; have TT := Lib.hid h; clear h MM)
      go_upto_region 7 with (go_at_call 17; refine (TT.out.same A B).mono ?_; rintro eS w11 ⟨rfl, hS⟩; replace TT := Lib.hid hS; clear hS)
      have k0 : w11.cell? ⟨w.heap.size + 1, 0, none⟩ = some (.int .i64 x.c.k) := blk_cell ((TT.out.bel.block _ (RecC.lt_of_some HX.out)).trans HX.out) rfl
      have k1 : w11.cell? ⟨w.heap.size + 1, 1, none⟩ = some (.int .i64 x.c.lb) := blk_cell ((TT.out.bel.block _ (RecC.lt_of_some HX.out)).trans HX.out) rfl
      have k2 : w11.cell? ⟨w.heap.size + 1, 2, none⟩ = some (.int .i64 x.c.ep) := blk_cell ((TT.out.bel.block _ (RecC.lt_of_some HX.out)).trans HX.out) rfl
      have k3 : w11.cell? ⟨w.heap.size + 1, 3, none⟩ = some (.int .i64 x.c.tm) := blk_cell ((TT.out.bel.block _ (RecC.lt_of_some HX.out)).trans HX.out) rfl
      have k4 : w11.cell? ⟨w.heap.size + 1, 4, none⟩ = some (.string ⟨x.c.da.toArray⟩) := blk_cell ((TT.out.bel.block _ (RecC.lt_of_some HX.out)).trans HX.out) rfl
      have k5 : w11.cell? ⟨w.heap.size + 1, 5, none⟩ = some (.string ⟨x.c.nm.toArray⟩) := blk_cell ((TT.out.bel.block _ (RecC.lt_of_some HX.out)).trans HX.out) rfl
      have k6 : w11.cell? ⟨w.heap.size + 1, 6, none⟩ = some (.slice x.p x.n x.cap) := blk_cell ((TT.out.bel.block _ (RecC.lt_of_some HX.out)).trans HX.out) rfl
      go_upto_region 8 with (first
        | (go_at_call 12; refine (HD1.out _ _ _ _ _ TT.out).mono ?_; rintro e12 w12 ⟨rfl, hD⟩; replace TT := Lib.hid hD; clear hD HD1 k0 k1 k2 k3 k4 k5 k6)
        | (refine wpList_store_row rfl 39 _ _ rfl w12.heap.size _ rfl rfl 39 _ (heap_alloc_new w12 _) infoA rfl (one8A y) ?_))
      generalize hW : World.setRow _ _ _ = W8
      have b8 : Below w12.heap.size w12 W8 := by rw [← hW]; exact kept_new w12 _ _ _
      have h8 : W8.heap[w12.heap.size]? = some (.cells #[.int .i64 y.er, .string ⟨y.da.toArray⟩, .int .i64 y.st.ep, .int .i64 y.st.ck, .int .i64 y.st.fr, .int .i64 y.st.rc, .int .i64 y.st.pl, .int .i64 y.st.ho] 39 (0, 0)) := by rw [← hW]; exact has_new w12 _ _ _
      replace TT := Lib.hid (TT.out.more (K' := (fun k => k = w12.heap.size)) A b8 (fun k hk => .inr ⟨by omega, by have := RecC.lt_of_some h8; omega⟩))
      have H8 := Lib.hid h8
      clear hW b8
      have k0 : W8.cell? ⟨w.heap.size + 1, 0, none⟩ = some (.int .i64 x.c.k) := blk_cell ((TT.out.bel.block _ (RecC.lt_of_some HX.out)).trans HX.out) rfl
      have a0 : W8.cell? ⟨w12.heap.size, 0, none⟩ = some (.int .i64 y.er) := blk_cell h8 rfl
      clear h8
      go_upto_region 11 with (go_at_call 17; refine (TT.out.same A B).mono ?_; rintro eS wS ⟨rfl, hS⟩; replace TT := Lib.hid hS; clear hS)
      clear k0 a0
      have k0 : wS.cell? ⟨w.heap.size + 1, 0, none⟩ = some (.int .i64 x.c.k) := blk_cell ((TT.out.bel.block _ (RecC.lt_of_some HX.out)).trans HX.out) rfl
      have k1 : wS.cell? ⟨w.heap.size + 1, 1, none⟩ = some (.int .i64 x.c.lb) := blk_cell ((TT.out.bel.block _ (RecC.lt_of_some HX.out)).trans HX.out) rfl
      have k2 : wS.cell? ⟨w.heap.size + 1, 2, none⟩ = some (.int .i64 x.c.ep) := blk_cell ((TT.out.bel.block _ (RecC.lt_of_some HX.out)).trans HX.out) rfl
      have k3 : wS.cell? ⟨w.heap.size + 1, 3, none⟩ = some (.int .i64 x.c.tm) := blk_cell ((TT.out.bel.block _ (RecC.lt_of_some HX.out)).trans HX.out) rfl
      have k4 : wS.cell? ⟨w.heap.size + 1, 4, none⟩ = some (.string ⟨x.c.da.toArray⟩) := blk_cell ((TT.out.bel.block _ (RecC.lt_of_some HX.out)).trans HX.out) rfl
      have k5 : wS.cell? ⟨w.heap.size + 1, 5, none⟩ = some (.string ⟨x.c.nm.toArray⟩) := blk_cell ((TT.out.bel.block _ (RecC.lt_of_some HX.out)).trans HX.out) rfl
      have k6 : wS.cell? ⟨w.heap.size + 1, 6, none⟩ = some (.slice x.p x.n x.cap) := blk_cell ((TT.out.bel.block _ (RecC.lt_of_some HX.out)).trans HX.out) rfl
      go_upto_region 12 with (first
        | (go_at_call 12; refine (HD2.out _ _ _ _ _ TT.out).mono ?_; rintro e14 w14 ⟨rfl, hD⟩; replace TT := Lib.hid hD; clear hD HD2 k0 k1 k2 k3 k4 k5 k6)
        | (refine wpList_store_row rfl 39 _ _ rfl w14.heap.size _ rfl rfl 39 _ (heap_alloc_new w14 _) infoA rfl (one8A y) ?_))
      generalize hW : World.setRow _ _ _ = W9
      have b9 : Below w14.heap.size w14 W9 := by rw [← hW]; exact kept_new w14 _ _ _
      have h9 : W9.heap[w14.heap.size]? = some (.cells #[.int .i64 y.er, .string ⟨y.da.toArray⟩, .int .i64 y.st.ep, .int .i64 y.st.ck, .int .i64 y.st.fr, .int .i64 y.st.rc, .int .i64 y.st.pl, .int .i64 y.st.ho] 39 (0, 0)) := by rw [← hW]; exact has_new w14 _ _ _
      replace TT := Lib.hid (TT.out.step A b9)
      have h8 := TT.out.at_ rfl H8.out
      clear hW b9
      have a0 : W9.cell? ⟨w12.heap.size, 0, none⟩ = some (.int .i64 y.er) := blk_cell h8 rfl
      have a1 : W9.cell? ⟨w12.heap.size, 1, none⟩ = some (.string ⟨y.da.toArray⟩) := blk_cell h8 rfl
      have a2 : W9.cell? ⟨w12.heap.size, 2, none⟩ = some (.int .i64 y.st.ep) := blk_cell h8 rfl
      have a3 : W9.cell? ⟨w12.heap.size, 3, none⟩ = some (.int .i64 y.st.ck) := blk_cell h8 rfl
      have a4 : W9.cell? ⟨w12.heap.size, 4, none⟩ = some (.int .i64 y.st.fr) := blk_cell h8 rfl
      have a5 : W9.cell? ⟨w12.heap.size, 5, none⟩ = some (.int .i64 y.st.rc) := blk_cell h8 rfl
      have a6 : W9.cell? ⟨w12.heap.size, 6, none⟩ = some (.int .i64 y.st.pl) := blk_cell h8 rfl
      have a7 : W9.cell? ⟨w12.heap.size, 7, none⟩ = some (.int .i64 y.st.ho) := blk_cell h8 rfl
      have b0 : W9.cell? ⟨w14.heap.size, 0, none⟩ = some (.int .i64 y.er) := blk_cell h9 rfl
      have b1 : W9.cell? ⟨w14.heap.size, 1, none⟩ = some (.string ⟨y.da.toArray⟩) := blk_cell h9 rfl
      have b2 : W9.cell? ⟨w14.heap.size, 2, none⟩ = some (.int .i64 y.st.ep) := blk_cell h9 rfl
      have b3 : W9.cell? ⟨w14.heap.size, 3, none⟩ = some (.int .i64 y.st.ck) := blk_cell h9 rfl
      have b4 : W9.cell? ⟨w14.heap.size, 4, none⟩ = some (.int .i64 y.st.fr) := blk_cell h9 rfl
      have b5 : W9.cell? ⟨w14.heap.size, 5, none⟩ = some (.int .i64 y.st.rc) := blk_cell h9 rfl
      have b6 : W9.cell? ⟨w14.heap.size, 6, none⟩ = some (.int .i64 y.st.pl) := blk_cell h9 rfl
      have b7 : W9.cell? ⟨w14.heap.size, 7, none⟩ = some (.int .i64 y.st.ho) := blk_cell h9 rfl
      clear h8 h9
      have FL : Hid True := Lib.hid trivial
      go_wp2_with (first
          | (go_at_call 17; first | (clear FL; refine (TT.out.same A B).mono ?_; rintro eS w15 ⟨rfl, hS⟩; replace TT := Lib.hid hS; clear hS) | (refine (TT.out.swap.same A B).mono ?_; rintro eS w15 ⟨rfl, hS⟩; replace TT := Lib.hid hS.swap; clear hS))
          | (go_at_call 9; refine (HA.out _ (BB.out.trans (TT.out.bel.mono BB.out.size))).mono ?_; rintro e9 w9 ⟨rfl, hb⟩; have B9 := Lib.hid (BB.out.trans ((TT.out.bel.trans (hb.mono TT.out.bel.size)).mono BB.out.size)); clear hb HA))
      go_ret
      exact ⟨rfl, B9.out⟩
    · have tz : (y.er != 0) = true := by simp [hz]
      clear hz
      go_enter Tryz.func4, Tryz.ntmps4
      go_upto_region 1 with (fail)
      rw [← hW1]
      clear hW1
      go_upto_region 2 with (go_at_call 15; refine HB.out.mono ?_; rintro e7 w7 ⟨X, rfl, hm7⟩; have MM := Lib.hid hm7; clear hm7 HB c0 c1 c2)
      have k0 : w7.cell? ⟨w.heap.size + 1, 0, none⟩ = some (.int .i64 x.c.k) := blk_cell ((MM.out.bel.block _ (RecC.lt_of_some HX.out)).trans HX.out) rfl
      have k1 : w7.cell? ⟨w.heap.size + 1, 1, none⟩ = some (.int .i64 x.c.lb) := blk_cell ((MM.out.bel.block _ (RecC.lt_of_some HX.out)).trans HX.out) rfl
      have k2 : w7.cell? ⟨w.heap.size + 1, 2, none⟩ = some (.int .i64 x.c.ep) := blk_cell ((MM.out.bel.block _ (RecC.lt_of_some HX.out)).trans HX.out) rfl
      have k3 : w7.cell? ⟨w.heap.size + 1, 3, none⟩ = some (.int .i64 x.c.tm) := blk_cell ((MM.out.bel.block _ (RecC.lt_of_some HX.out)).trans HX.out) rfl
      have k4 : w7.cell? ⟨w.heap.size + 1, 4, none⟩ = some (.string ⟨x.c.da.toArray⟩) := blk_cell ((MM.out.bel.block _ (RecC.lt_of_some HX.out)).trans HX.out) rfl
      have k5 : w7.cell? ⟨w.heap.size + 1, 5, none⟩ = some (.string ⟨x.c.nm.toArray⟩) := blk_cell ((MM.out.bel.block _ (RecC.lt_of_some HX.out)).trans HX.out) rfl
      have k6 : w7.cell? ⟨w.heap.size + 1, 6, none⟩ = some (.slice x.p x.n x.cap) := blk_cell ((MM.out.bel.block _ (RecC.lt_of_some HX.out)).trans HX.out) rfl
      go_upto_region 4 with (go_at_call 8; refine (HF.out _ _ (heap_alloc_new w7 _)).mono ?_; rintro e8 w8 ⟨rfl, hb⟩; replace MM := Lib.hid ((MM.out.step A (below_new w7 _)).step A hb); clear hb HF)
      clear k0 k1 k2 k3 k4 k5 k6
      go_upto_region 5 with (go_at_call 16; refine (Mine.copy A B MM.out BB.out.size).mono ?_; rintro e10 w10 ⟨X', rfl, h⟩; have TT := Lib.hid h; clear h MM)
      go_upto_region 7 with (go_at_call 17; refine (TT.out.same A B).mono ?_; rintro eS w11 ⟨rfl, hS⟩; replace TT := Lib.hid hS; clear hS)
      have k0 : w11.cell? ⟨w.heap.size + 1, 0, none⟩ = some (.int .i64 x.c.k) := blk_cell ((TT.out.bel.block _ (RecC.lt_of_some HX.out)).trans HX.out) rfl
      have k1 : w11.cell? ⟨w.heap.size + 1, 1, none⟩ = some (.int .i64 x.c.lb) := blk_cell ((TT.out.bel.block _ (RecC.lt_of_some HX.out)).trans HX.out) rfl
      have k2 : w11.cell? ⟨w.heap.size + 1, 2, none⟩ = some (.int .i64 x.c.ep) := blk_cell ((TT.out.bel.block _ (RecC.lt_of_some HX.out)).trans HX.out) rfl
      have k3 : w11.cell? ⟨w.heap.size + 1, 3, none⟩ = some (.int .i64 x.c.tm) := blk_cell ((TT.out.bel.block _ (RecC.lt_of_some HX.out)).trans HX.out) rfl
      have k4 : w11.cell? ⟨w.heap.size + 1, 4, none⟩ = some (.string ⟨x.c.da.toArray⟩) := blk_cell ((TT.out.bel.block _ (RecC.lt_of_some HX.out)).trans HX.out) rfl
      have k5 : w11.cell? ⟨w.heap.size + 1, 5, none⟩ = some (.string ⟨x.c.nm.toArray⟩) := blk_cell ((TT.out.bel.block _ (RecC.lt_of_some HX.out)).trans HX.out) rfl
      have k6 : w11.cell? ⟨w.heap.size + 1, 6, none⟩ = some (.slice x.p x.n x.cap) := blk_cell ((TT.out.bel.block _ (RecC.lt_of_some HX.out)).trans HX.out) rfl
      go_upto_region 8 with (first
        | (go_at_call 12; refine (HD1.out _ _ _ _ _ TT.out).mono ?_; rintro e12 w12 ⟨rfl, hD⟩; replace TT := Lib.hid hD; clear hD HD1 k0 k1 k2 k3 k4 k5 k6)
        | (refine wpList_store_row rfl 39 _ _ rfl w12.heap.size _ rfl rfl 39 _ (heap_alloc_new w12 _) infoA rfl (one8A y) ?_))
      generalize hW : World.setRow _ _ _ = W8
      have b8 : Below w12.heap.size w12 W8 := by rw [← hW]; exact kept_new w12 _ _ _
      have h8 : W8.heap[w12.heap.size]? = some (.cells #[.int .i64 y.er, .string ⟨y.da.toArray⟩, .int .i64 y.st.ep, .int .i64 y.st.ck, .int .i64 y.st.fr, .int .i64 y.st.rc, .int .i64 y.st.pl, .int .i64 y.st.ho] 39 (0, 0)) := by rw [← hW]; exact has_new w12 _ _ _
      replace TT := Lib.hid (TT.out.more (K' := (fun k => k = w12.heap.size)) A b8 (fun k hk => .inr ⟨by omega, by have := RecC.lt_of_some h8; omega⟩))
      have H8 := Lib.hid h8
      clear hW b8
      have k0 : W8.cell? ⟨w.heap.size + 1, 0, none⟩ = some (.int .i64 x.c.k) := blk_cell ((TT.out.bel.block _ (RecC.lt_of_some HX.out)).trans HX.out) rfl
      have a0 : W8.cell? ⟨w12.heap.size, 0, none⟩ = some (.int .i64 y.er) := blk_cell h8 rfl
      clear h8
      go_upto_region 11 with (go_at_call 17; refine (TT.out.same A B).mono ?_; rintro eS wS ⟨rfl, hS⟩; replace TT := Lib.hid hS; clear hS)
      clear k0 a0
      have k0 : wS.cell? ⟨w.heap.size + 1, 0, none⟩ = some (.int .i64 x.c.k) := blk_cell ((TT.out.bel.block _ (RecC.lt_of_some HX.out)).trans HX.out) rfl
      have k1 : wS.cell? ⟨w.heap.size + 1, 1, none⟩ = some (.int .i64 x.c.lb) := blk_cell ((TT.out.bel.block _ (RecC.lt_of_some HX.out)).trans HX.out) rfl
      have k2 : wS.cell? ⟨w.heap.size + 1, 2, none⟩ = some (.int .i64 x.c.ep) := blk_cell ((TT.out.bel.block _ (RecC.lt_of_some HX.out)).trans HX.out) rfl
      have k3 : wS.cell? ⟨w.heap.size + 1, 3, none⟩ = some (.int .i64 x.c.tm) := blk_cell ((TT.out.bel.block _ (RecC.lt_of_some HX.out)).trans HX.out) rfl
      have k4 : wS.cell? ⟨w.heap.size + 1, 4, none⟩ = some (.string ⟨x.c.da.toArray⟩) := blk_cell ((TT.out.bel.block _ (RecC.lt_of_some HX.out)).trans HX.out) rfl
      have k5 : wS.cell? ⟨w.heap.size + 1, 5, none⟩ = some (.string ⟨x.c.nm.toArray⟩) := blk_cell ((TT.out.bel.block _ (RecC.lt_of_some HX.out)).trans HX.out) rfl
      have k6 : wS.cell? ⟨w.heap.size + 1, 6, none⟩ = some (.slice x.p x.n x.cap) := blk_cell ((TT.out.bel.block _ (RecC.lt_of_some HX.out)).trans HX.out) rfl
      go_upto_region 12 with (first
        | (go_at_call 12; refine (HD2.out _ _ _ _ _ TT.out).mono ?_; rintro e14 w14 ⟨rfl, hD⟩; replace TT := Lib.hid hD; clear hD HD2 k0 k1 k2 k3 k4 k5 k6)
        | (refine wpList_store_row rfl 39 _ _ rfl w14.heap.size _ rfl rfl 39 _ (heap_alloc_new w14 _) infoA rfl (one8A y) ?_))
      generalize hW : World.setRow _ _ _ = W9
      have b9 : Below w14.heap.size w14 W9 := by rw [← hW]; exact kept_new w14 _ _ _
      have h9 : W9.heap[w14.heap.size]? = some (.cells #[.int .i64 y.er, .string ⟨y.da.toArray⟩, .int .i64 y.st.ep, .int .i64 y.st.ck, .int .i64 y.st.fr, .int .i64 y.st.rc, .int .i64 y.st.pl, .int .i64 y.st.ho] 39 (0, 0)) := by rw [← hW]; exact has_new w14 _ _ _
      replace TT := Lib.hid (TT.out.step A b9)
      have h8 := TT.out.at_ rfl H8.out
      clear hW b9
      have a0 : W9.cell? ⟨w12.heap.size, 0, none⟩ = some (.int .i64 y.er) := blk_cell h8 rfl
      have a1 : W9.cell? ⟨w12.heap.size, 1, none⟩ = some (.string ⟨y.da.toArray⟩) := blk_cell h8 rfl
      have a2 : W9.cell? ⟨w12.heap.size, 2, none⟩ = some (.int .i64 y.st.ep) := blk_cell h8 rfl
      have a3 : W9.cell? ⟨w12.heap.size, 3, none⟩ = some (.int .i64 y.st.ck) := blk_cell h8 rfl
      have a4 : W9.cell? ⟨w12.heap.size, 4, none⟩ = some (.int .i64 y.st.fr) := blk_cell h8 rfl
      have a5 : W9.cell? ⟨w12.heap.size, 5, none⟩ = some (.int .i64 y.st.rc) := blk_cell h8 rfl
      have a6 : W9.cell? ⟨w12.heap.size, 6, none⟩ = some (.int .i64 y.st.pl) := blk_cell h8 rfl
      have a7 : W9.cell? ⟨w12.heap.size, 7, none⟩ = some (.int .i64 y.st.ho) := blk_cell h8 rfl
      have b0 : W9.cell? ⟨w14.heap.size, 0, none⟩ = some (.int .i64 y.er) := blk_cell h9 rfl
      have b1 : W9.cell? ⟨w14.heap.size, 1, none⟩ = some (.string ⟨y.da.toArray⟩) := blk_cell h9 rfl
      have b2 : W9.cell? ⟨w14.heap.size, 2, none⟩ = some (.int .i64 y.st.ep) := blk_cell h9 rfl
      have b3 : W9.cell? ⟨w14.heap.size, 3, none⟩ = some (.int .i64 y.st.ck) := blk_cell h9 rfl
      have b4 : W9.cell? ⟨w14.heap.size, 4, none⟩ = some (.int .i64 y.st.fr) := blk_cell h9 rfl
      have b5 : W9.cell? ⟨w14.heap.size, 5, none⟩ = some (.int .i64 y.st.rc) := blk_cell h9 rfl
      have b6 : W9.cell? ⟨w14.heap.size, 6, none⟩ = some (.int .i64 y.st.pl) := blk_cell h9 rfl
      have b7 : W9.cell? ⟨w14.heap.size, 7, none⟩ = some (.int .i64 y.st.ho) := blk_cell h9 rfl
      clear h8 h9
      have FL : Hid True := Lib.hid trivial
      go_wp2_with (first
          | (go_at_call 17; first | (clear FL; refine (TT.out.same A B).mono ?_; rintro eS w15 ⟨rfl, hS⟩; replace TT := Lib.hid hS; clear hS) | (refine (TT.out.swap.same A B).mono ?_; rintro eS w15 ⟨rfl, hS⟩; replace TT := Lib.hid hS.swap; clear hS))
          | (go_at_call 9; refine (HA.out _ (BB.out.trans (TT.out.bel.mono BB.out.size))).mono ?_; rintro e9 w9 ⟨rfl, hb⟩; have B9 := Lib.hid (BB.out.trans ((TT.out.bel.trans (hb.mono TT.out.bel.size)).mono BB.out.size)); clear hb HA))
      go_ret
      exact ⟨rfl, B9.out⟩
  · have t2 : (x.c.k == 2) = false := by simp [hk]
    have t3 : (x.c.k == 3) = false := by simp [hk]
    have t4 : (x.c.k == 4) = false := by simp [hk]
    have t10 : (x.c.k == 10) = true := by simp [hk]
    clear hk
    by_cases hz : y.er = 0
    · have tz : (y.er != 0) = false := by simp [hz]
      clear hz
      go_enter Tryz.func4, Tryz.ntmps4
      go_upto_region 1 with (fail)
      rw [← hW1]
      clear hW1
      go_upto_region 2 with (go_at_call 15; refine HB.out.mono ?_; rintro e7 w7 ⟨X, rfl, hm7⟩; have MM := Lib.hid hm7; clear hm7 HB c0 c1 c2)
      have k0 : w7.cell? ⟨w.heap.size + 1, 0, none⟩ = some (.int .i64 x.c.k) := blk_cell ((MM.out.bel.block _ (RecC.lt_of_some HX.out)).trans HX.out) rfl
      have k1 : w7.cell? ⟨w.heap.size + 1, 1, none⟩ = some (.int .i64 x.c.lb) := blk_cell ((MM.out.bel.block _ (RecC.lt_of_some HX.out)).trans HX.out) rfl
      have k2 : w7.cell? ⟨w.heap.size + 1, 2, none⟩ = some (.int .i64 x.c.ep) := blk_cell ((MM.out.bel.block _ (RecC.lt_of_some HX.out)).trans HX.out) rfl
      have k3 : w7.cell? ⟨w.heap.size + 1, 3, none⟩ = some (.int .i64 x.c.tm) := blk_cell ((MM.out.bel.block _ (RecC.lt_of_some HX.out)).trans HX.out) rfl
      have k4 : w7.cell? ⟨w.heap.size + 1, 4, none⟩ = some (.string ⟨x.c.da.toArray⟩) := blk_cell ((MM.out.bel.block _ (RecC.lt_of_some HX.out)).trans HX.out) rfl
      have k5 : w7.cell? ⟨w.heap.size + 1, 5, none⟩ = some (.string ⟨x.c.nm.toArray⟩) := blk_cell ((MM.out.bel.block _ (RecC.lt_of_some HX.out)).trans HX.out) rfl
      have k6 : w7.cell? ⟨w.heap.size + 1, 6, none⟩ = some (.slice x.p x.n x.cap) := blk_cell ((MM.out.bel.block _ (RecC.lt_of_some HX.out)).trans HX.out) rfl
      go_upto_region 4 with (go_at_call 8; refine (HF.out _ _ (heap_alloc_new w7 _)).mono ?_; rintro e8 w8 ⟨rfl, hb⟩; replace MM := Lib.hid ((MM.out.step A (below_new w7 _)).step A hb); clear hb HF)
      clear k0 k1 k2 k3 k4 k5 k6
      go_upto_region 5 with (go_at_call 16; refine (Mine.copy A B MM.out BB.out.size).mono ?_; rintro e10 w10 ⟨X', rfl, h⟩; have TT := Lib.hid h; clear h MM)
      go_upto_region 7 with (go_at_call 17; refine (TT.out.same A B).mono ?_; rintro eS w11 ⟨rfl, hS⟩; replace TT := Lib.hid hS; clear hS)
      have k0 : w11.cell? ⟨w.heap.size + 1, 0, none⟩ = some (.int .i64 x.c.k) := blk_cell ((TT.out.bel.block _ (RecC.lt_of_some HX.out)).trans HX.out) rfl
      have k1 : w11.cell? ⟨w.heap.size + 1, 1, none⟩ = some (.int .i64 x.c.lb) := blk_cell ((TT.out.bel.block _ (RecC.lt_of_some HX.out)).trans HX.out) rfl
      have k2 : w11.cell? ⟨w.heap.size + 1, 2, none⟩ = some (.int .i64 x.c.ep) := blk_cell ((TT.out.bel.block _ (RecC.lt_of_some HX.out)).trans HX.out) rfl
      have k3 : w11.cell? ⟨w.heap.size + 1, 3, none⟩ = some (.int .i64 x.c.tm) := blk_cell ((TT.out.bel.block _ (RecC.lt_of_some HX.out)).trans HX.out) rfl
      have k4 : w11.cell? ⟨w.heap.size + 1, 4, none⟩ = some (.string ⟨x.c.da.toArray⟩) := blk_cell ((TT.out.bel.block _ (RecC.lt_of_some HX.out)).trans HX.out) rfl
      have k5 : w11.cell? ⟨w.heap.size + 1, 5, none⟩ = some (.string ⟨x.c.nm.toArray⟩) := blk_cell ((TT.out.bel.block _ (RecC.lt_of_some HX.out)).trans HX.out) rfl
      have k6 : w11.cell? ⟨w.heap.size + 1, 6, none⟩ = some (.slice x.p x.n x.cap) := blk_cell ((TT.out.bel.block _ (RecC.lt_of_some HX.out)).trans HX.out) rfl
      go_upto_region 8 with (first
        | (go_at_call 12; refine (HD1.out _ _ _ _ _ TT.out).mono ?_; rintro e12 w12 ⟨rfl, hD⟩; replace TT := Lib.hid hD; clear hD HD1 k0 k1 k2 k3 k4 k5 k6)
        | (refine wpList_store_row rfl 39 _ _ rfl w12.heap.size _ rfl rfl 39 _ (heap_alloc_new w12 _) infoA rfl (one8A y) ?_))
      generalize hW : World.setRow _ _ _ = W8
      have b8 : Below w12.heap.size w12 W8 := by rw [← hW]; exact kept_new w12 _ _ _
      have h8 : W8.heap[w12.heap.size]? = some (.cells #[.int .i64 y.er, .string ⟨y.da.toArray⟩, .int .i64 y.st.ep, .int .i64 y.st.ck, .int .i64 y.st.fr, .int .i64 y.st.rc, .int .i64 y.st.pl, .int .i64 y.st.ho] 39 (0, 0)) := by rw [← hW]; exact has_new w12 _ _ _
      replace TT := Lib.hid (TT.out.more (K' := (fun k => k = w12.heap.size)) A b8 (fun k hk => .inr ⟨by omega, by have := RecC.lt_of_some h8; omega⟩))
      have H8 := Lib.hid h8
      clear hW b8
      have k0 : W8.cell? ⟨w.heap.size + 1, 0, none⟩ = some (.int .i64 x.c.k) := blk_cell ((TT.out.bel.block _ (RecC.lt_of_some HX.out)).trans HX.out) rfl
      have a0 : W8.cell? ⟨w12.heap.size, 0, none⟩ = some (.int .i64 y.er) := blk_cell h8 rfl
      clear h8
      go_upto_region 11 with (go_at_call 17; refine (TT.out.same A B).mono ?_; rintro eS wS ⟨rfl, hS⟩; replace TT := Lib.hid hS; clear hS)
      clear k0 a0
      have k0 : wS.cell? ⟨w.heap.size + 1, 0, none⟩ = some (.int .i64 x.c.k) := blk_cell ((TT.out.bel.block _ (RecC.lt_of_some HX.out)).trans HX.out) rfl
      have k1 : wS.cell? ⟨w.heap.size + 1, 1, none⟩ = some (.int .i64 x.c.lb) := blk_cell ((TT.out.bel.block _ (RecC.lt_of_some HX.out)).trans HX.out) rfl
      have k2 : wS.cell? ⟨w.heap.size + 1, 2, none⟩ = some (.int .i64 x.c.ep) := blk_cell ((TT.out.bel.block _ (RecC.lt_of_some HX.out)).trans HX.out) rfl
      have k3 : wS.cell? ⟨w.heap.size + 1, 3, none⟩ = some (.int .i64 x.c.tm) := blk_cell ((TT.out.bel.block _ (RecC.lt_of_some HX.out)).trans HX.out) rfl
      have k4 : wS.cell? ⟨w.heap.size + 1, 4, none⟩ = some (.string ⟨x.c.da.toArray⟩) := blk_cell ((TT.out.bel.block _ (RecC.lt_of_some HX.out)).trans HX.out) rfl
      have k5 : wS.cell? ⟨w.heap.size + 1, 5, none⟩ = some (.string ⟨x.c.nm.toArray⟩) := blk_cell ((TT.out.bel.block _ (RecC.lt_of_some HX.out)).trans HX.out) rfl
      have k6 : wS.cell? ⟨w.heap.size + 1, 6, none⟩ = some (.slice x.p x.n x.cap) := blk_cell ((TT.out.bel.block _ (RecC.lt_of_some HX.out)).trans HX.out) rfl
      go_upto_region 12 with (first
        | (go_at_call 12; refine (HD2.out _ _ _ _ _ TT.out).mono ?_; rintro e14 w14 ⟨rfl, hD⟩; replace TT := Lib.hid hD; clear hD HD2 k0 k1 k2 k3 k4 k5 k6)
        | (refine wpList_store_row rfl 39 _ _ rfl w14.heap.size _ rfl rfl 39 _ (heap_alloc_new w14 _) infoA rfl (one8A y) ?_))
      generalize hW : World.setRow _ _ _ = W9
      have b9 : Below w14.heap.size w14 W9 := by rw [← hW]; exact kept_new w14 _ _ _
      have h9 : W9.heap[w14.heap.size]? = some (.cells #[.int .i64 y.er, .string ⟨y.da.toArray⟩, .int .i64 y.st.ep, .int .i64 y.st.ck, .int .i64 y.st.fr, .int .i64 y.st.rc, .int .i64 y.st.pl, .int .i64 y.st.ho] 39 (0, 0)) := by rw [← hW]; exact has_new w14 _ _ _
      replace TT := Lib.hid (TT.out.step A b9)
      have h8 := TT.out.at_ rfl H8.out
      clear hW b9
      have a0 : W9.cell? ⟨w12.heap.size, 0, none⟩ = some (.int .i64 y.er) := blk_cell h8 rfl
      have a1 : W9.cell? ⟨w12.heap.size, 1, none⟩ = some (.string ⟨y.da.toArray⟩) := blk_cell h8 rfl
      have a2 : W9.cell? ⟨w12.heap.size, 2, none⟩ = some (.int .i64 y.st.ep) := blk_cell h8 rfl
      have a3 : W9.cell? ⟨w12.heap.size, 3, none⟩ = some (.int .i64 y.st.ck) := blk_cell h8 rfl
      have a4 : W9.cell? ⟨w12.heap.size, 4, none⟩ = some (.int .i64 y.st.fr) := blk_cell h8 rfl
      have a5 : W9.cell? ⟨w12.heap.size, 5, none⟩ = some (.int .i64 y.st.rc) := blk_cell h8 rfl
      have a6 : W9.cell? ⟨w12.heap.size, 6, none⟩ = some (.int .i64 y.st.pl) := blk_cell h8 rfl
      have a7 : W9.cell? ⟨w12.heap.size, 7, none⟩ = some (.int .i64 y.st.ho) := blk_cell h8 rfl
      have b0 : W9.cell? ⟨w14.heap.size, 0, none⟩ = some (.int .i64 y.er) := blk_cell h9 rfl
      have b1 : W9.cell? ⟨w14.heap.size, 1, none⟩ = some (.string ⟨y.da.toArray⟩) := blk_cell h9 rfl
      have b2 : W9.cell? ⟨w14.heap.size, 2, none⟩ = some (.int .i64 y.st.ep) := blk_cell h9 rfl
      have b3 : W9.cell? ⟨w14.heap.size, 3, none⟩ = some (.int .i64 y.st.ck) := blk_cell h9 rfl
      have b4 : W9.cell? ⟨w14.heap.size, 4, none⟩ = some (.int .i64 y.st.fr) := blk_cell h9 rfl
      have b5 : W9.cell? ⟨w14.heap.size, 5, none⟩ = some (.int .i64 y.st.rc) := blk_cell h9 rfl
      have b6 : W9.cell? ⟨w14.heap.size, 6, none⟩ = some (.int .i64 y.st.pl) := blk_cell h9 rfl
      have b7 : W9.cell? ⟨w14.heap.size, 7, none⟩ = some (.int .i64 y.st.ho) := blk_cell h9 rfl
      clear h8 h9
      have FL : Hid True := Lib.hid trivial
      go_wp2_with (first
          | (go_at_call 17; first | (clear FL; refine (TT.out.same A B).mono ?_; rintro eS w15 ⟨rfl, hS⟩; replace TT := Lib.hid hS; clear hS) | (refine (TT.out.swap.same A B).mono ?_; rintro eS w15 ⟨rfl, hS⟩; replace TT := Lib.hid hS.swap; clear hS))
          | (go_at_call 9; refine (HA.out _ (BB.out.trans (TT.out.bel.mono BB.out.size))).mono ?_; rintro e9 w9 ⟨rfl, hb⟩; have B9 := Lib.hid (BB.out.trans ((TT.out.bel.trans (hb.mono TT.out.bel.size)).mono BB.out.size)); clear hb HA))
      go_ret
      exact ⟨rfl, B9.out⟩
    · have tz : (y.er != 0) = true := by simp [hz]
      clear hz
      go_enter Tryz.func4, Tryz.ntmps4
      go_upto_region 1 with (fail)
      rw [← hW1]
      clear hW1
      go_upto_region 2 with (go_at_call 15; refine HB.out.mono ?_; rintro e7 w7 ⟨X, rfl, hm7⟩; have MM := Lib.hid hm7; clear hm7 HB c0 c1 c2)
      have k0 : w7.cell? ⟨w.heap.size + 1, 0, none⟩ = some (.int .i64 x.c.k) := blk_cell ((MM.out.bel.block _ (RecC.lt_of_some HX.out)).trans HX.out) rfl
      have k1 : w7.cell? ⟨w.heap.size + 1, 1, none⟩ = some (.int .i64 x.c.lb) := blk_cell ((MM.out.bel.block _ (RecC.lt_of_some HX.out)).trans HX.out) rfl
      have k2 : w7.cell? ⟨w.heap.size + 1, 2, none⟩ = some (.int .i64 x.c.ep) := blk_cell ((MM.out.bel.block _ (RecC.lt_of_some HX.out)).trans HX.out) rfl
      have k3 : w7.cell? ⟨w.heap.size + 1, 3, none⟩ = some (.int .i64 x.c.tm) := blk_cell ((MM.out.bel.block _ (RecC.lt_of_some HX.out)).trans HX.out) rfl
      have k4 : w7.cell? ⟨w.heap.size + 1, 4, none⟩ = some (.string ⟨x.c.da.toArray⟩) := blk_cell ((MM.out.bel.block _ (RecC.lt_of_some HX.out)).trans HX.out) rfl
      have k5 : w7.cell? ⟨w.heap.size + 1, 5, none⟩ = some (.string ⟨x.c.nm.toArray⟩) := blk_cell ((MM.out.bel.block _ (RecC.lt_of_some HX.out)).trans HX.out) rfl
      have k6 : w7.cell? ⟨w.heap.size + 1, 6, none⟩ = some (.slice x.p x.n x.cap) := blk_cell ((MM.out.bel.block _ (RecC.lt_of_some HX.out)).trans HX.out) rfl
      go_upto_region 4 with (go_at_call 8; refine (HF.out _ _ (heap_alloc_new w7 _)).mono ?_; rintro e8 w8 ⟨rfl, hb⟩; replace MM := Lib.hid ((MM.out.step A (below_new w7 _)).step A hb); clear hb HF)
      clear k0 k1 k2 k3 k4 k5 k6
      go_upto_region 5 with (go_at_call 16; refine (Mine.copy A B MM.out BB.out.size).mono ?_; rintro e10 w10 ⟨X', rfl, h⟩; have TT := Lib.hid h; clear h MM)
      go_upto_region 7 with (go_at_call 17; refine (TT.out.same A B).mono ?_; rintro eS w11 ⟨rfl, hS⟩; replace TT := Lib.hid hS; clear hS)
      have k0 : w11.cell? ⟨w.heap.size + 1, 0, none⟩ = some (.int .i64 x.c.k) := blk_cell ((TT.out.bel.block _ (RecC.lt_of_some HX.out)).trans HX.out) rfl
      have k1 : w11.cell? ⟨w.heap.size + 1, 1, none⟩ = some (.int .i64 x.c.lb) := blk_cell ((TT.out.bel.block _ (RecC.lt_of_some HX.out)).trans HX.out) rfl
      have k2 : w11.cell? ⟨w.heap.size + 1, 2, none⟩ = some (.int .i64 x.c.ep) := blk_cell ((TT.out.bel.block _ (RecC.lt_of_some HX.out)).trans HX.out) rfl
      have k3 : w11.cell? ⟨w.heap.size + 1, 3, none⟩ = some (.int .i64 x.c.tm) := blk_cell ((TT.out.bel.block _ (RecC.lt_of_some HX.out)).trans HX.out) rfl
      have k4 : w11.cell? ⟨w.heap.size + 1, 4, none⟩ = some (.string ⟨x.c.da.toArray⟩) := blk_cell ((TT.out.bel.block _ (RecC.lt_of_some HX.out)).trans HX.out) rfl
      have k5 : w11.cell? ⟨w.heap.size + 1, 5, none⟩ = some (.string ⟨x.c.nm.toArray⟩) := blk_cell ((TT.out.bel.block _ (RecC.lt_of_some HX.out)).trans HX.out) rfl
      have k6 : w11.cell? ⟨w.heap.size + 1, 6, none⟩ = some (.slice x.p x.n x.cap) := blk_cell ((TT.out.bel.block _ (RecC.lt_of_some HX.out)).trans HX.out) rfl
      go_upto_region 8 with (first
        | (go_at_call 12; refine (HD1.out _ _ _ _ _ TT.out).mono ?_; rintro e12 w12 ⟨rfl, hD⟩; replace TT := Lib.hid hD; clear hD HD1 k0 k1 k2 k3 k4 k5 k6)
        | (refine wpList_store_row rfl 39 _ _ rfl w12.heap.size _ rfl rfl 39 _ (heap_alloc_new w12 _) infoA rfl (one8A y) ?_))
      generalize hW : World.setRow _ _ _ = W8
      have b8 : Below w12.heap.size w12 W8 := by rw [← hW]; exact kept_new w12 _ _ _
      have h8 : W8.heap[w12.heap.size]? = some (.cells #[.int .i64 y.er, .string ⟨y.da.toArray⟩, .int .i64 y.st.ep, .int .i64 y.st.ck, .int .i64 y.st.fr, .int .i64 y.st.rc, .int .i64 y.st.pl, .int .i64 y.st.ho] 39 (0, 0)) := by rw [← hW]; exact has_new w12 _ _ _
      replace TT := Lib.hid (TT.out.more (K' := (fun k => k = w12.heap.size)) A b8 (fun k hk => .inr ⟨by omega, by have := RecC.lt_of_some h8; omega⟩))
      have H8 := Lib.hid h8
      clear hW b8
      have k0 : W8.cell? ⟨w.heap.size + 1, 0, none⟩ = some (.int .i64 x.c.k) := blk_cell ((TT.out.bel.block _ (RecC.lt_of_some HX.out)).trans HX.out) rfl
      have a0 : W8.cell? ⟨w12.heap.size, 0, none⟩ = some (.int .i64 y.er) := blk_cell h8 rfl
      clear h8
      go_upto_region 11 with (go_at_call 17; refine (TT.out.same A B).mono ?_; rintro eS wS ⟨rfl, hS⟩; replace TT := Lib.hid hS; clear hS)
      clear k0 a0
      have k0 : wS.cell? ⟨w.heap.size + 1, 0, none⟩ = some (.int .i64 x.c.k) := blk_cell ((TT.out.bel.block _ (RecC.lt_of_some HX.out)).trans HX.out) rfl
      have k1 : wS.cell? ⟨w.heap.size + 1, 1, none⟩ = some (.int .i64 x.c.lb) := blk_cell ((TT.out.bel.block _ (RecC.lt_of_some HX.out)).trans HX.out) rfl
      have k2 : wS.cell? ⟨w.heap.size + 1, 2, none⟩ = some (.int .i64 x.c.ep) := blk_cell ((TT.out.bel.block _ (RecC.lt_of_some HX.out)).trans HX.out) rfl
      have k3 : wS.cell? ⟨w.heap.size + 1, 3, none⟩ = some (.int .i64 x.c.tm) := blk_cell ((TT.out.bel.block _ (RecC.lt_of_some HX.out)).trans HX.out) rfl
      have k4 : wS.cell? ⟨w.heap.size + 1, 4, none⟩ = some (.string ⟨x.c.da.toArray⟩) := blk_cell ((TT.out.bel.block _ (RecC.lt_of_some HX.out)).trans HX.out) rfl
      have k5 : wS.cell? ⟨w.heap.size + 1, 5, none⟩ = some (.string ⟨x.c.nm.toArray⟩) := blk_cell ((TT.out.bel.block _ (RecC.lt_of_some HX.out)).trans HX.out) rfl
      have k6 : wS.cell? ⟨w.heap.size + 1, 6, none⟩ = some (.slice x.p x.n x.cap) := blk_cell ((TT.out.bel.block _ (RecC.lt_of_some HX.out)).trans HX.out) rfl
      go_upto_region 12 with (first
        | (go_at_call 12; refine (HD2.out _ _ _ _ _ TT.out).mono ?_; rintro e14 w14 ⟨rfl, hD⟩; replace TT := Lib.hid hD; clear hD HD2 k0 k1 k2 k3 k4 k5 k6)
        | (refine wpList_store_row rfl 39 _ _ rfl w14.heap.size _ rfl rfl 39 _ (heap_alloc_new w14 _) infoA rfl (one8A y) ?_))
      generalize hW : World.setRow _ _ _ = W9
      have b9 : Below w14.heap.size w14 W9 := by rw [← hW]; exact kept_new w14 _ _ _
      have h9 : W9.heap[w14.heap.size]? = some (.cells #[.int .i64 y.er, .string ⟨y.da.toArray⟩, .int .i64 y.st.ep, .int .i64 y.st.ck, .int .i64 y.st.fr, .int .i64 y.st.rc, .int .i64 y.st.pl, .int .i64 y.st.ho] 39 (0, 0)) := by rw [← hW]; exact has_new w14 _ _ _
      replace TT := Lib.hid (TT.out.step A b9)
      have h8 := TT.out.at_ rfl H8.out
      clear hW b9
      have a0 : W9.cell? ⟨w12.heap.size, 0, none⟩ = some (.int .i64 y.er) := blk_cell h8 rfl
      have a1 : W9.cell? ⟨w12.heap.size, 1, none⟩ = some (.string ⟨y.da.toArray⟩) := blk_cell h8 rfl
      have a2 : W9.cell? ⟨w12.heap.size, 2, none⟩ = some (.int .i64 y.st.ep) := blk_cell h8 rfl
      have a3 : W9.cell? ⟨w12.heap.size, 3, none⟩ = some (.int .i64 y.st.ck) := blk_cell h8 rfl
      have a4 : W9.cell? ⟨w12.heap.size, 4, none⟩ = some (.int .i64 y.st.fr) := blk_cell h8 rfl
      have a5 : W9.cell? ⟨w12.heap.size, 5, none⟩ = some (.int .i64 y.st.rc) := blk_cell h8 rfl
      have a6 : W9.cell? ⟨w12.heap.size, 6, none⟩ = some (.int .i64 y.st.pl) := blk_cell h8 rfl
      have a7 : W9.cell? ⟨w12.heap.size, 7, none⟩ = some (.int .i64 y.st.ho) := blk_cell h8 rfl
      have b0 : W9.cell? ⟨w14.heap.size, 0, none⟩ = some (.int .i64 y.er) := blk_cell h9 rfl
      have b1 : W9.cell? ⟨w14.heap.size, 1, none⟩ = some (.string ⟨y.da.toArray⟩) := blk_cell h9 rfl
      have b2 : W9.cell? ⟨w14.heap.size, 2, none⟩ = some (.int .i64 y.st.ep) := blk_cell h9 rfl
      have b3 : W9.cell? ⟨w14.heap.size, 3, none⟩ = some (.int .i64 y.st.ck) := blk_cell h9 rfl
      have b4 : W9.cell? ⟨w14.heap.size, 4, none⟩ = some (.int .i64 y.st.fr) := blk_cell h9 rfl
      have b5 : W9.cell? ⟨w14.heap.size, 5, none⟩ = some (.int .i64 y.st.rc) := blk_cell h9 rfl
      have b6 : W9.cell? ⟨w14.heap.size, 6, none⟩ = some (.int .i64 y.st.pl) := blk_cell h9 rfl
      have b7 : W9.cell? ⟨w14.heap.size, 7, none⟩ = some (.int .i64 y.st.ho) := blk_cell h9 rfl
      clear h8 h9
      have FL : Hid True := Lib.hid trivial
      go_wp2_with (first
          | (go_at_call 17; first | (clear FL; refine (TT.out.same A B).mono ?_; rintro eS w15 ⟨rfl, hS⟩; replace TT := Lib.hid hS; clear hS) | (refine (TT.out.swap.same A B).mono ?_; rintro eS w15 ⟨rfl, hS⟩; replace TT := Lib.hid hS.swap; clear hS))
          | (go_at_call 9; refine (HA.out _ (BB.out.trans (TT.out.bel.mono BB.out.size))).mono ?_; rintro e9 w9 ⟨rfl, hb⟩; have B9 := Lib.hid (BB.out.trans ((TT.out.bel.trans (hb.mono TT.out.bel.size)).mono BB.out.size)); clear hb HA))
      go_ret
      exact ⟨rfl, B9.out⟩
  · have t2 : (x.c.k == 2) = false := by simp [q2]
    have t3 : (x.c.k == 3) = false := by simp [q3]
    have t4 : (x.c.k == 4) = false := by simp [q4]
    have t10 : (x.c.k == 10) = false := by simp [q10]
    clear q2 q3 q4 q10
    have tz : (y.er != 0) = true := by simp [hz]
    clear hz
    go_enter Tryz.func4, Tryz.ntmps4
    go_upto_region 1 with (fail)
    rw [← hW1]
    clear hW1
    go_upto_region 2 with (go_at_call 15; refine HB.out.mono ?_; rintro e7 w7 ⟨X, rfl, hm7⟩; have MM := Lib.hid hm7; clear hm7 HB c0 c1 c2)
    have k0 : w7.cell? ⟨w.heap.size + 1, 0, none⟩ = some (.int .i64 x.c.k) := blk_cell ((MM.out.bel.block _ (RecC.lt_of_some HX.out)).trans HX.out) rfl
    have k1 : w7.cell? ⟨w.heap.size + 1, 1, none⟩ = some (.int .i64 x.c.lb) := blk_cell ((MM.out.bel.block _ (RecC.lt_of_some HX.out)).trans HX.out) rfl
    have k2 : w7.cell? ⟨w.heap.size + 1, 2, none⟩ = some (.int .i64 x.c.ep) := blk_cell ((MM.out.bel.block _ (RecC.lt_of_some HX.out)).trans HX.out) rfl
    have k3 : w7.cell? ⟨w.heap.size + 1, 3, none⟩ = some (.int .i64 x.c.tm) := blk_cell ((MM.out.bel.block _ (RecC.lt_of_some HX.out)).trans HX.out) rfl
    have k4 : w7.cell? ⟨w.heap.size + 1, 4, none⟩ = some (.string ⟨x.c.da.toArray⟩) := blk_cell ((MM.out.bel.block _ (RecC.lt_of_some HX.out)).trans HX.out) rfl
    have k5 : w7.cell? ⟨w.heap.size + 1, 5, none⟩ = some (.string ⟨x.c.nm.toArray⟩) := blk_cell ((MM.out.bel.block _ (RecC.lt_of_some HX.out)).trans HX.out) rfl
    have k6 : w7.cell? ⟨w.heap.size + 1, 6, none⟩ = some (.slice x.p x.n x.cap) := blk_cell ((MM.out.bel.block _ (RecC.lt_of_some HX.out)).trans HX.out) rfl
    go_upto_region 4 with (go_at_call 8; refine (HF.out _ _ (heap_alloc_new w7 _)).mono ?_; rintro e8 w8 ⟨rfl, hb⟩; replace MM := Lib.hid ((MM.out.step A (below_new w7 _)).step A hb); clear hb HF)
    clear k0 k1 k2 k3 k4 k5 k6
    go_upto_region 5 with (go_at_call 16; refine (Mine.copy A B MM.out BB.out.size).mono ?_; rintro e10 w10 ⟨X', rfl, h⟩; have TT := Lib.hid h; clear h MM)
    go_upto_region 7 with (go_at_call 17; refine (TT.out.same A B).mono ?_; rintro eS w11 ⟨rfl, hS⟩; replace TT := Lib.hid hS; clear hS)
    have k0 : w11.cell? ⟨w.heap.size + 1, 0, none⟩ = some (.int .i64 x.c.k) := blk_cell ((TT.out.bel.block _ (RecC.lt_of_some HX.out)).trans HX.out) rfl
    have k1 : w11.cell? ⟨w.heap.size + 1, 1, none⟩ = some (.int .i64 x.c.lb) := blk_cell ((TT.out.bel.block _ (RecC.lt_of_some HX.out)).trans HX.out) rfl
    have k2 : w11.cell? ⟨w.heap.size + 1, 2, none⟩ = some (.int .i64 x.c.ep) := blk_cell ((TT.out.bel.block _ (RecC.lt_of_some HX.out)).trans HX.out) rfl
    have k3 : w11.cell? ⟨w.heap.size + 1, 3, none⟩ = some (.int .i64 x.c.tm) := blk_cell ((TT.out.bel.block _ (RecC.lt_of_some HX.out)).trans HX.out) rfl
    have k4 : w11.cell? ⟨w.heap.size + 1, 4, none⟩ = some (.string ⟨x.c.da.toArray⟩) := blk_cell ((TT.out.bel.block _ (RecC.lt_of_some HX.out)).trans HX.out) rfl
    have k5 : w11.cell? ⟨w.heap.size + 1, 5, none⟩ = some (.string ⟨x.c.nm.toArray⟩) := blk_cell ((TT.out.bel.block _ (RecC.lt_of_some HX.out)).trans HX.out) rfl
    have k6 : w11.cell? ⟨w.heap.size + 1, 6, none⟩ = some (.slice x.p x.n x.cap) := blk_cell ((TT.out.bel.block _ (RecC.lt_of_some HX.out)).trans HX.out) rfl
    go_upto_region 8 with (first
      | (go_at_call 12; refine (HD1.out _ _ _ _ _ TT.out).mono ?_; rintro e12 w12 ⟨rfl, hD⟩; replace TT := Lib.hid hD; clear hD HD1 k0 k1 k2 k3 k4 k5 k6)
      | (refine wpList_store_row rfl 39 _ _ rfl w12.heap.size _ rfl rfl 39 _ (heap_alloc_new w12 _) infoA rfl (one8A y) ?_))
    generalize hW : World.setRow _ _ _ = W8
    have b8 : Below w12.heap.size w12 W8 := by rw [← hW]; exact kept_new w12 _ _ _
    have h8 : W8.heap[w12.heap.size]? = some (.cells #[.int .i64 y.er, .string ⟨y.da.toArray⟩, .int .i64 y.st.ep, .int .i64 y.st.ck, .int .i64 y.st.fr, .int .i64 y.st.rc, .int .i64 y.st.pl, .int .i64 y.st.ho] 39 (0, 0)) := by rw [← hW]; exact has_new w12 _ _ _
    replace TT := Lib.hid (TT.out.more (K' := (fun k => k = w12.heap.size)) A b8 (fun k hk => .inr ⟨by omega, by have := RecC.lt_of_some h8; omega⟩))
    have H8 := Lib.hid h8
    clear hW b8
    have k0 : W8.cell? ⟨w.heap.size + 1, 0, none⟩ = some (.int .i64 x.c.k) := blk_cell ((TT.out.bel.block _ (RecC.lt_of_some HX.out)).trans HX.out) rfl
    have a0 : W8.cell? ⟨w12.heap.size, 0, none⟩ = some (.int .i64 y.er) := blk_cell h8 rfl
    clear h8
    go_upto_region 11 with (go_at_call 17; refine (TT.out.same A B).mono ?_; rintro eS wS ⟨rfl, hS⟩; replace TT := Lib.hid hS; clear hS)
    clear k0 a0
    have k0 : wS.cell? ⟨w.heap.size + 1, 0, none⟩ = some (.int .i64 x.c.k) := blk_cell ((TT.out.bel.block _ (RecC.lt_of_some HX.out)).trans HX.out) rfl
    have k1 : wS.cell? ⟨w.heap.size + 1, 1, none⟩ = some (.int .i64 x.c.lb) := blk_cell ((TT.out.bel.block _ (RecC.lt_of_some HX.out)).trans HX.out) rfl
    have k2 : wS.cell? ⟨w.heap.size + 1, 2, none⟩ = some (.int .i64 x.c.ep) := blk_cell ((TT.out.bel.block _ (RecC.lt_of_some HX.out)).trans HX.out) rfl
    have k3 : wS.cell? ⟨w.heap.size + 1, 3, none⟩ = some (.int .i64 x.c.tm) := blk_cell ((TT.out.bel.block _ (RecC.lt_of_some HX.out)).trans HX.out) rfl
    have k4 : wS.cell? ⟨w.heap.size + 1, 4, none⟩ = some (.string ⟨x.c.da.toArray⟩) := blk_cell ((TT.out.bel.block _ (RecC.lt_of_some HX.out)).trans HX.out) rfl
    have k5 : wS.cell? ⟨w.heap.size + 1, 5, none⟩ = some (.string ⟨x.c.nm.toArray⟩) := blk_cell ((TT.out.bel.block _ (RecC.lt_of_some HX.out)).trans HX.out) rfl
    have k6 : wS.cell? ⟨w.heap.size + 1, 6, none⟩ = some (.slice x.p x.n x.cap) := blk_cell ((TT.out.bel.block _ (RecC.lt_of_some HX.out)).trans HX.out) rfl
    go_upto_region 12 with (first
      | (go_at_call 12; refine (HD2.out _ _ _ _ _ TT.out).mono ?_; rintro e14 w14 ⟨rfl, hD⟩; replace TT := Lib.hid hD; clear hD HD2 k0 k1 k2 k3 k4 k5 k6)
      | (refine wpList_store_row rfl 39 _ _ rfl w14.heap.size _ rfl rfl 39 _ (heap_alloc_new w14 _) infoA rfl (one8A y) ?_))
    generalize hW : World.setRow _ _ _ = W9
    have b9 : Below w14.heap.size w14 W9 := by rw [← hW]; exact kept_new w14 _ _ _
    have h9 : W9.heap[w14.heap.size]? = some (.cells #[.int .i64 y.er, .string ⟨y.da.toArray⟩, .int .i64 y.st.ep, .int .i64 y.st.ck, .int .i64 y.st.fr, .int .i64 y.st.rc, .int .i64 y.st.pl, .int .i64 y.st.ho] 39 (0, 0)) := by rw [← hW]; exact has_new w14 _ _ _
    replace TT := Lib.hid (TT.out.step A b9)
    have h8 := TT.out.at_ rfl H8.out
    clear hW b9
    have a0 : W9.cell? ⟨w12.heap.size, 0, none⟩ = some (.int .i64 y.er) := blk_cell h8 rfl
    have a1 : W9.cell? ⟨w12.heap.size, 1, none⟩ = some (.string ⟨y.da.toArray⟩) := blk_cell h8 rfl
    have a2 : W9.cell? ⟨w12.heap.size, 2, none⟩ = some (.int .i64 y.st.ep) := blk_cell h8 rfl
    have a3 : W9.cell? ⟨w12.heap.size, 3, none⟩ = some (.int .i64 y.st.ck) := blk_cell h8 rfl
    have a4 : W9.cell? ⟨w12.heap.size, 4, none⟩ = some (.int .i64 y.st.fr) := blk_cell h8 rfl
    have a5 : W9.cell? ⟨w12.heap.size, 5, none⟩ = some (.int .i64 y.st.rc) := blk_cell h8 rfl
    have a6 : W9.cell? ⟨w12.heap.size, 6, none⟩ = some (.int .i64 y.st.pl) := blk_cell h8 rfl
    have a7 : W9.cell? ⟨w12.heap.size, 7, none⟩ = some (.int .i64 y.st.ho) := blk_cell h8 rfl
    have b0 : W9.cell? ⟨w14.heap.size, 0, none⟩ = some (.int .i64 y.er) := blk_cell h9 rfl
    have b1 : W9.cell? ⟨w14.heap.size, 1, none⟩ = some (.string ⟨y.da.toArray⟩) := blk_cell h9 rfl
    have b2 : W9.cell? ⟨w14.heap.size, 2, none⟩ = some (.int .i64 y.st.ep) := blk_cell h9 rfl
    have b3 : W9.cell? ⟨w14.heap.size, 3, none⟩ = some (.int .i64 y.st.ck) := blk_cell h9 rfl
    have b4 : W9.cell? ⟨w14.heap.size, 4, none⟩ = some (.int .i64 y.st.fr) := blk_cell h9 rfl
    have b5 : W9.cell? ⟨w14.heap.size, 5, none⟩ = some (.int .i64 y.st.rc) := blk_cell h9 rfl
    have b6 : W9.cell? ⟨w14.heap.size, 6, none⟩ = some (.int .i64 y.st.pl) := blk_cell h9 rfl
    have b7 : W9.cell? ⟨w14.heap.size, 7, none⟩ = some (.int .i64 y.st.ho) := blk_cell h9 rfl
    clear h8 h9
    have FL : Hid True := Lib.hid trivial
    go_wp2_with (first
        | (go_at_call 17; first | (clear FL; refine (TT.out.same A B).mono ?_; rintro eS w15 ⟨rfl, hS⟩; replace TT := Lib.hid hS; clear hS) | (refine (TT.out.swap.same A B).mono ?_; rintro eS w15 ⟨rfl, hS⟩; replace TT := Lib.hid hS.swap; clear hS))
        | (go_at_call 9; refine (HA.out _ (BB.out.trans (TT.out.bel.mono BB.out.size))).mono ?_; rintro e9 w9 ⟨rfl, hb⟩; have B9 := Lib.hid (BB.out.trans ((TT.out.bel.trans (hb.mono TT.out.bel.size)).mono BB.out.size)); clear hb HA))
    go_ret
    exact ⟨rfl, B9.out⟩
  · have t2 : (x.c.k == 2) = false := by simp [q2]
    have t3 : (x.c.k == 3) = false := by simp [q3]
    have t4 : (x.c.k == 4) = false := by simp [q4]
    have t10 : (x.c.k == 10) = false := by simp [q10]
    clear q2 q3 q4 q10
    have tz : (y.er != 0) = false := by simp [hz]
    clear hz
    go_enter Tryz.func4, Tryz.ntmps4
    go_upto_region 1 with (fail)
    rw [← hW1]
    clear hW1
    go_upto_region 2 with (go_at_call 15; refine HB.out.mono ?_; rintro e7 w7 ⟨X, rfl, hm7⟩; have MM := Lib.hid hm7; clear hm7 HB c0 c1 c2)
    have k0 : w7.cell? ⟨w.heap.size + 1, 0, none⟩ = some (.int .i64 x.c.k) := blk_cell ((MM.out.bel.block _ (RecC.lt_of_some HX.out)).trans HX.out) rfl
    have k1 : w7.cell? ⟨w.heap.size + 1, 1, none⟩ = some (.int .i64 x.c.lb) := blk_cell ((MM.out.bel.block _ (RecC.lt_of_some HX.out)).trans HX.out) rfl
    have k2 : w7.cell? ⟨w.heap.size + 1, 2, none⟩ = some (.int .i64 x.c.ep) := blk_cell ((MM.out.bel.block _ (RecC.lt_of_some HX.out)).trans HX.out) rfl
    have k3 : w7.cell? ⟨w.heap.size + 1, 3, none⟩ = some (.int .i64 x.c.tm) := blk_cell ((MM.out.bel.block _ (RecC.lt_of_some HX.out)).trans HX.out) rfl
    have k4 : w7.cell? ⟨w.heap.size + 1, 4, none⟩ = some (.string ⟨x.c.da.toArray⟩) := blk_cell ((MM.out.bel.block _ (RecC.lt_of_some HX.out)).trans HX.out) rfl
    have k5 : w7.cell? ⟨w.heap.size + 1, 5, none⟩ = some (.string ⟨x.c.nm.toArray⟩) := blk_cell ((MM.out.bel.block _ (RecC.lt_of_some HX.out)).trans HX.out) rfl
    have k6 : w7.cell? ⟨w.heap.size + 1, 6, none⟩ = some (.slice x.p x.n x.cap) := blk_cell ((MM.out.bel.block _ (RecC.lt_of_some HX.out)).trans HX.out) rfl
    go_upto_region 4 with (go_at_call 8; refine (HF.out _ _ (heap_alloc_new w7 _)).mono ?_; rintro e8 w8 ⟨rfl, hb⟩; replace MM := Lib.hid ((MM.out.step A (below_new w7 _)).step A hb); clear hb HF)
    clear k0 k1 k2 k3 k4 k5 k6
    go_upto_region 5 with (go_at_call 16; refine (Mine.copy A B MM.out BB.out.size).mono ?_; rintro e10 w10 ⟨X', rfl, h⟩; have TT := Lib.hid h; clear h MM)
    go_upto_region 7 with (go_at_call 17; refine (TT.out.same A B).mono ?_; rintro eS w11 ⟨rfl, hS⟩; replace TT := Lib.hid hS; clear hS)
    have k0 : w11.cell? ⟨w.heap.size + 1, 0, none⟩ = some (.int .i64 x.c.k) := blk_cell ((TT.out.bel.block _ (RecC.lt_of_some HX.out)).trans HX.out) rfl
    have k1 : w11.cell? ⟨w.heap.size + 1, 1, none⟩ = some (.int .i64 x.c.lb) := blk_cell ((TT.out.bel.block _ (RecC.lt_of_some HX.out)).trans HX.out) rfl
    have k2 : w11.cell? ⟨w.heap.size + 1, 2, none⟩ = some (.int .i64 x.c.ep) := blk_cell ((TT.out.bel.block _ (RecC.lt_of_some HX.out)).trans HX.out) rfl
    have k3 : w11.cell? ⟨w.heap.size + 1, 3, none⟩ = some (.int .i64 x.c.tm) := blk_cell ((TT.out.bel.block _ (RecC.lt_of_some HX.out)).trans HX.out) rfl
    have k4 : w11.cell? ⟨w.heap.size + 1, 4, none⟩ = some (.string ⟨x.c.da.toArray⟩) := blk_cell ((TT.out.bel.block _ (RecC.lt_of_some HX.out)).trans HX.out) rfl
    have k5 : w11.cell? ⟨w.heap.size + 1, 5, none⟩ = some (.string ⟨x.c.nm.toArray⟩) := blk_cell ((TT.out.bel.block _ (RecC.lt_of_some HX.out)).trans HX.out) rfl
    have k6 : w11.cell? ⟨w.heap.size + 1, 6, none⟩ = some (.slice x.p x.n x.cap) := blk_cell ((TT.out.bel.block _ (RecC.lt_of_some HX.out)).trans HX.out) rfl
    go_upto_region 8 with (first
      | (go_at_call 12; refine (HD1.out _ _ _ _ _ TT.out).mono ?_; rintro e12 w12 ⟨rfl, hD⟩; replace TT := Lib.hid hD; clear hD HD1 k0 k1 k2 k3 k4 k5 k6)
      | (refine wpList_store_row rfl 39 _ _ rfl w12.heap.size _ rfl rfl 39 _ (heap_alloc_new w12 _) infoA rfl (one8A y) ?_))
    generalize hW : World.setRow _ _ _ = W8
    have b8 : Below w12.heap.size w12 W8 := by rw [← hW]; exact kept_new w12 _ _ _
    have h8 : W8.heap[w12.heap.size]? = some (.cells #[.int .i64 y.er, .string ⟨y.da.toArray⟩, .int .i64 y.st.ep, .int .i64 y.st.ck, .int .i64 y.st.fr, .int .i64 y.st.rc, .int .i64 y.st.pl, .int .i64 y.st.ho] 39 (0, 0)) := by rw [← hW]; exact has_new w12 _ _ _
    replace TT := Lib.hid (TT.out.more (K' := (fun k => k = w12.heap.size)) A b8 (fun k hk => .inr ⟨by omega, by have := RecC.lt_of_some h8; omega⟩))
    have H8 := Lib.hid h8
    clear hW b8
    have k0 : W8.cell? ⟨w.heap.size + 1, 0, none⟩ = some (.int .i64 x.c.k) := blk_cell ((TT.out.bel.block _ (RecC.lt_of_some HX.out)).trans HX.out) rfl
    have a0 : W8.cell? ⟨w12.heap.size, 0, none⟩ = some (.int .i64 y.er) := blk_cell h8 rfl
    clear h8
    go_upto_region 11 with (fail)
    clear k0 a0
    have k0 : W8.cell? ⟨w.heap.size + 1, 0, none⟩ = some (.int .i64 x.c.k) := blk_cell ((TT.out.bel.block _ (RecC.lt_of_some HX.out)).trans HX.out) rfl
    have k1 : W8.cell? ⟨w.heap.size + 1, 1, none⟩ = some (.int .i64 x.c.lb) := blk_cell ((TT.out.bel.block _ (RecC.lt_of_some HX.out)).trans HX.out) rfl
    have k2 : W8.cell? ⟨w.heap.size + 1, 2, none⟩ = some (.int .i64 x.c.ep) := blk_cell ((TT.out.bel.block _ (RecC.lt_of_some HX.out)).trans HX.out) rfl
    have k3 : W8.cell? ⟨w.heap.size + 1, 3, none⟩ = some (.int .i64 x.c.tm) := blk_cell ((TT.out.bel.block _ (RecC.lt_of_some HX.out)).trans HX.out) rfl
    have k4 : W8.cell? ⟨w.heap.size + 1, 4, none⟩ = some (.string ⟨x.c.da.toArray⟩) := blk_cell ((TT.out.bel.block _ (RecC.lt_of_some HX.out)).trans HX.out) rfl
    have k5 : W8.cell? ⟨w.heap.size + 1, 5, none⟩ = some (.string ⟨x.c.nm.toArray⟩) := blk_cell ((TT.out.bel.block _ (RecC.lt_of_some HX.out)).trans HX.out) rfl
    have k6 : W8.cell? ⟨w.heap.size + 1, 6, none⟩ = some (.slice x.p x.n x.cap) := blk_cell ((TT.out.bel.block _ (RecC.lt_of_some HX.out)).trans HX.out) rfl
    go_upto_region 12 with (first
      | (go_at_call 12; refine (HD2.out _ _ _ _ _ TT.out).mono ?_; rintro e14 w14 ⟨rfl, hD⟩; replace TT := Lib.hid hD; clear hD HD2 k0 k1 k2 k3 k4 k5 k6)
      | (refine wpList_store_row rfl 39 _ _ rfl w14.heap.size _ rfl rfl 39 _ (heap_alloc_new w14 _) infoA rfl (one8A y) ?_))
    generalize hW : World.setRow _ _ _ = W9
    have b9 : Below w14.heap.size w14 W9 := by rw [← hW]; exact kept_new w14 _ _ _
    have h9 : W9.heap[w14.heap.size]? = some (.cells #[.int .i64 y.er, .string ⟨y.da.toArray⟩, .int .i64 y.st.ep, .int .i64 y.st.ck, .int .i64 y.st.fr, .int .i64 y.st.rc, .int .i64 y.st.pl, .int .i64 y.st.ho] 39 (0, 0)) := by rw [← hW]; exact has_new w14 _ _ _
    replace TT := Lib.hid (TT.out.step A b9)
    have h8 := TT.out.at_ rfl H8.out
    clear hW b9
    have a0 : W9.cell? ⟨w12.heap.size, 0, none⟩ = some (.int .i64 y.er) := blk_cell h8 rfl
    have a1 : W9.cell? ⟨w12.heap.size, 1, none⟩ = some (.string ⟨y.da.toArray⟩) := blk_cell h8 rfl
    have a2 : W9.cell? ⟨w12.heap.size, 2, none⟩ = some (.int .i64 y.st.ep) := blk_cell h8 rfl
    have a3 : W9.cell? ⟨w12.heap.size, 3, none⟩ = some (.int .i64 y.st.ck) := blk_cell h8 rfl
    have a4 : W9.cell? ⟨w12.heap.size, 4, none⟩ = some (.int .i64 y.st.fr) := blk_cell h8 rfl
    have a5 : W9.cell? ⟨w12.heap.size, 5, none⟩ = some (.int .i64 y.st.rc) := blk_cell h8 rfl
    have a6 : W9.cell? ⟨w12.heap.size, 6, none⟩ = some (.int .i64 y.st.pl) := blk_cell h8 rfl
    have a7 : W9.cell? ⟨w12.heap.size, 7, none⟩ = some (.int .i64 y.st.ho) := blk_cell h8 rfl
    have b0 : W9.cell? ⟨w14.heap.size, 0, none⟩ = some (.int .i64 y.er) := blk_cell h9 rfl
    have b1 : W9.cell? ⟨w14.heap.size, 1, none⟩ = some (.string ⟨y.da.toArray⟩) := blk_cell h9 rfl
    have b2 : W9.cell? ⟨w14.heap.size, 2, none⟩ = some (.int .i64 y.st.ep) := blk_cell h9 rfl
    have b3 : W9.cell? ⟨w14.heap.size, 3, none⟩ = some (.int .i64 y.st.ck) := blk_cell h9 rfl
    have b4 : W9.cell? ⟨w14.heap.size, 4, none⟩ = some (.int .i64 y.st.fr) := blk_cell h9 rfl
    have b5 : W9.cell? ⟨w14.heap.size, 5, none⟩ = some (.int .i64 y.st.rc) := blk_cell h9 rfl
    have b6 : W9.cell? ⟨w14.heap.size, 6, none⟩ = some (.int .i64 y.st.pl) := blk_cell h9 rfl
    have b7 : W9.cell? ⟨w14.heap.size, 7, none⟩ = some (.int .i64 y.st.ho) := blk_cell h9 rfl
    clear h8 h9
    have FL : Hid True := Lib.hid trivial
    go_wp2_with (first
        | (go_at_call 17; first | (clear FL; refine (TT.out.same A B).mono ?_; rintro eS w15 ⟨rfl, hS⟩; replace TT := Lib.hid hS; clear hS) | (refine (TT.out.swap.same A B).mono ?_; rintro eS w15 ⟨rfl, hS⟩; replace TT := Lib.hid hS.swap; clear hS))
        | (go_at_call 9; refine (HA.out _ (BB.out.trans (TT.out.bel.mono BB.out.size))).mono ?_; rintro e9 w9 ⟨rfl, hb⟩; have B9 := Lib.hid (BB.out.trans ((TT.out.bel.trans (hb.mono TT.out.bel.size)).mono BB.out.size)); clear hb HA))
    go_ret
    exact ⟨rfl, B9.out⟩
end Go.Proofs.YtopnodkdpehdoaaGreatDoor.MdT
