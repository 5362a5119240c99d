/- What the program's model must meet (letters for its calls), whatever its memory is; the statements' begun over any that does. The conditions: those letters. -/
import Derived.Test.YtopnodkdpehdoaaGreatDoorLMdo
import Derived.Test.YtopnodkdpehdoaaGreatDoorCalF
import Derived.Test.YtopnodkdpehdoaaGreatDoorLCa
namespace Go.Proofs.YtopnodkdpehdoaaGreatDoor.MdP
set_option linter.unusedVariables false
open Go.RowKit
open RecN RecC RetR MdN MdO CalR AnsC
/-- A model in memory: where it is, which blocks are its own, what it is. (The first number: none of its blocks is below it.) -/
abbrev PT := Nat → Nat → (Nat → Prop) → Mo → World → Prop
/-- What a turn leaves as it was. -/
structure Frame (F : Nat → Prop) (w w' : World) : Prop where
  os : w'.os = w.os
  tape : w'.tape = w.tape
  output : w'.output = w.output
  size : w.heap.size ≤ w'.heap.size
  block : ∀ k, k < w.heap.size → ¬ F k → w'.heap[k]? = w.heap[k]?
theorem Frame.of {F : Nat → Prop} {w w' : World} (h : Below w.heap.size w w') : Frame F w w' := ⟨h.os, h.tape, h.output, h.size, fun k hk _ => h.block k hk⟩
/-- A turn of blocks that are new to a caller turns nothing of his. -/
theorem Frame.below {F : Nat → Prop} {w0 w w' : World} (h : Frame F w w') (hb : Below w0.heap.size w0 w) (hf : ∀ k, F k → w0.heap.size ≤ k) : Below w0.heap.size w0 w' :=
  ⟨h.os.trans hb.os, h.tape.trans hb.tape, h.output.trans hb.output, Nat.le_trans hb.size h.size, fun k hk => (h.block k (Nat.lt_of_lt_of_le hk hb.size) (fun q => by have := hf k q; omega)).trans (hb.block k hk)⟩
/-- The program's model: what its calls must meet. -/
structure Api (G : Nat → World → Prop) (P : PT) : Prop where
  gd : ∀ b (W W' : World), G b W → W.heap.size ≤ W'.heap.size → (∀ k, k < b → W'.heap[k]? = W.heap[k]?) → G b W'
  up : ∀ b b' W, G b W → b ≤ b' → G b' W
  sz : ∀ b X F m W, P b X F m W → b ≤ W.heap.size
  lt : ∀ b X F m W, P b X F m W → ∀ k, F k → b ≤ k ∧ k < W.heap.size
  step : ∀ b X F m W W', P b X F m W → W.heap.size ≤ W'.heap.size → (∀ k, F k → W'.heap[k]? = W.heap[k]?) → (∀ k, k < b → W'.heap[k]? = W.heap[k]?) → P b X F m W'
  ok : ∀ b X F m W, P b X F m W → Ok m ∧ m.s.ep ≤ 4294967295
  new_no : ∀ base b lb f w, base ≤ w.heap.size → G base w → ¬ GeoN.right b lb f → Calls Tryz.prog 10 #[.agg #[.int .i64 b, .int .i64 lb, .int .i64 f]] w fun x w' => x = .returned (.tuple #[.pointer none, .int .i64 2]) ∧ Below w.heap.size w w'
  new_yes : ∀ base b lb f w, base ≤ w.heap.size → G base w → GeoN.right b lb f → Calls Tryz.prog 10 #[.agg #[.int .i64 b, .int .i64 lb, .int .i64 f]] w fun x w' => (∃ X F, x = .returned (.tuple #[.pointer (some ⟨X, 0, none⟩), .int .i64 0]) ∧ P base X F (MdN.new b lb f) w' ∧ ∀ k, F k → w.heap.size ≤ k) ∧ Below w.heap.size w w'
  does : ∀ b X F m w (c : Cl) pk nk ck, P b X F m w → b ≤ w.heap.size → Calls Tryz.prog 12 #[.pointer (some ⟨X, 0, none⟩), .agg #[.int .i64 c.k, .int .i64 c.lb, .int .i64 c.ep, .int .i64 c.tm, .string ⟨c.da.toArray⟩, .string ⟨c.nm.toArray⟩, .slice pk nk ck]] w fun x w' => x = .returned (.agg (anA (doA m c))) ∧ (∃ F', P b X F' (doM m c) w' ∧ ∀ k, F' k → F k ∨ w.heap.size ≤ k) ∧ Frame F w w'
  epoch : ∀ b X F m w, P b X F m w → Calls Tryz.prog 18 #[.pointer (some ⟨X, 0, none⟩)] w fun x w' => x = .returned (.int .i64 m.s.ep) ∧ Below w.heap.size w w'
theorem Api.stepB {G : Nat → World → Prop} {P : PT} (A : Api G P) {b X : Nat} {F : Nat → Prop} {m : Mo} {W W' : World} (h : P b X F m W) (hb : Below W.heap.size W W') : P b X F m W' :=
  A.step _ _ _ _ _ _ h hb.size (fun k hk => hb.block k (A.lt _ _ _ _ _ h k hk).2) (fun k hk => hb.block k (Nat.lt_of_lt_of_le hk (A.sz _ _ _ _ _ h)))
theorem Api.gs {G : Nat → World → Prop} {P : PT} (A : Api G P) {w W : World} (h : G w.heap.size w) (hb : Below w.heap.size w W) : G W.heap.size W := A.up _ _ _ (A.gd _ _ _ h hb.size hb.block) hb.size
/-- A model that is the caller's, new to whom w0 was. -/
def Mine (P : PT) (base X : Nat) (m : Mo) (w0 w : World) : Prop := ∃ F, P base X F m w ∧ (∀ k, F k → w0.heap.size ≤ k) ∧ Below w0.heap.size w0 w
theorem Mine.step {G : Nat → World → Prop} {P : PT} (A : Api G P) {base X : Nat} {m : Mo} {w0 w w' : World} (h : Mine P base X m w0 w) (hb : Below w.heap.size w w') : Mine P base X m w0 w' := by
  obtain ⟨F, h1, h2, h3⟩ := h
  exact ⟨F, A.stepB h1 hb, h2, h3.trans (hb.mono h3.size)⟩
theorem Mine.does {G : Nat → World → Prop} {P : PT} (A : Api G P) {base X : Nat} {m : Mo} {w0 w : World} (h : Mine P base X m w0 w) (hb : base ≤ w0.heap.size) (c : Cl) (pk : Option Addr) (nk ck : Nat) :
    Calls Tryz.prog 12 #[.pointer (some ⟨X, 0, none⟩), .agg #[.int .i64 c.k, .int .i64 c.lb, .int .i64 c.ep, .int .i64 c.tm, .string ⟨c.da.toArray⟩, .string ⟨c.nm.toArray⟩, .slice pk nk ck]] w fun x w' => x = .returned (.agg (anA (doA m c))) ∧ Mine P base X (doM m c) w0 w' := by
  obtain ⟨F, h1, h2, h3⟩ := h
  refine (A.does _ _ _ _ _ c pk nk ck h1 (Nat.le_trans hb h3.size)).mono ?_
  rintro x w' ⟨rfl, ⟨F', q1, q2⟩, q3⟩
  refine ⟨rfl, F', q1, fun k hk => ?_, q3.below h3 h2⟩
  rcases q2 k hk with q | q
  · exact h2 k q
  · exact Nat.le_trans h3.size q
theorem Mine.bel {P : PT} {base X : Nat} {m : Mo} {w0 w : World} (h : Mine P base X m w0 w) : Below w0.heap.size w0 w := by obtain ⟨_, _, _, h⟩ := h; exact h
theorem Mine.ok {G : Nat → World → Prop} {P : PT} (A : Api G P) {base X : Nat} {m : Mo} {w0 w : World} (h : Mine P base X m w0 w) : Ok m ∧ m.s.ep ≤ 4294967295 := by obtain ⟨F, h, _⟩ := h; exact A.ok _ _ _ _ _ h
theorem Mine.epoch {G : Nat → World → Prop} {P : PT} (A : Api G P) {base X : Nat} {m : Mo} {w0 w : World} (h : Mine P base X m w0 w) : Calls Tryz.prog 18 #[.pointer (some ⟨X, 0, none⟩)] w fun x w' => x = .returned (.int .i64 m.s.ep) ∧ Mine P base X m w0 w' := by
  have hm := h
  obtain ⟨F, h1, h2, h3⟩ := h
  exact (A.epoch _ _ _ _ _ h1).mono (fun x w' ⟨e, hb⟩ => ⟨e, hm.step A hb⟩)
/-- The calls of a row, as the mathematics has them. -/
def cs (l : List Ca) : List Cl := l.map (·.c)
theorem cs_next (l : List Ca) {k : Nat} (h : k < l.length) (m : Mo) : doL m (cs (l.take (k + 1))) = doM (doL m (cs (l.take k))) l[k].c := by
  unfold cs
  rw [List.take_succ_eq_append_getElem h, List.map_append]
  exact doL_snoc _ _ _
set_option maxRecDepth 100000 in
set_option maxHeartbeats 4000000 in
/-- begun: no model. -/
theorem begun_no {G : Nat → World → Prop} {P : PT} (A : Api G P) {b lb f : Int} {a : Option Addr} {n c : Nat} {l : List Ca} {w : World} (hg : G w.heap.size w) (hl : Lies w a (cc l)) (hln : l.length = n) (hn : n ≤ maxLen) (hno : ¬ (GeoN.right b lb f ∧ CalF.fewB l = true ∧ lb ≤ 64)) :
    Calls Tryz.prog 15 #[.agg #[.int .i64 b, .int .i64 lb, .int .i64 f], .slice a n c] w fun x w' => x = .returned (.pointer none) ∧ Below w.heap.size w w' := by
  obtain ⟨W1, hW1⟩ : ∃ W1, W1 = w.alloc (.cells #[.int .i64 b, .int .i64 lb, .int .i64 f] 23) := ⟨_, rfl⟩
  have BB : Hid (Below w.heap.size w W1) := Lib.hid (by rw [hW1]; exact below_new w _)
  have hk : W1.heap[w.heap.size]? = some (.cells #[.int .i64 b, .int .i64 lb, .int .i64 f] 23 (0, 0)) := by rw [hW1]; exact heap_alloc_new w _
  have HK := Lib.hid hk
  have c0 : W1.cell? ⟨w.heap.size, 0, none⟩ = some (.int .i64 b) := blk_cell hk rfl
  have c1 : W1.cell? ⟨w.heap.size, 1, none⟩ = some (.int .i64 lb) := blk_cell hk rfl
  have c2 : W1.cell? ⟨w.heap.size, 2, none⟩ = some (.int .i64 f) := blk_cell hk rfl
  have HL := Lib.hid hl
  have HF := Lib.hid (fun W (h : Lies W a (cc l)) => CalF.Few a n c l W h hln hn)
  clear hk hl
  by_cases hr : GeoN.right b lb f
  · have HN := Lib.hid (fun W (hb : Below w.heap.size w W) => A.new_yes w.heap.size b lb f W hb.size (A.gd _ _ _ hg hb.size hb.block) hr)
    go_enter Tryz.func15, Tryz.ntmps15
    go_upto_region 1 with (fail)
    rw [← hW1]
    clear hW1
    go_upto_region 2 with (go_at_call 10; refine (HN.out _ BB.out).mono ?_; rintro e w2 ⟨⟨X, F, rfl, hP, hF⟩, hb⟩; replace BB := Lib.hid (BB.out.trans (hb.mono BB.out.size)); replace HK := Lib.hid ((hb.block _ (RecC.lt_of_some HK.out)).trans HK.out); clear hb HN hP hF)
    clear c0 c1 c2
    have c1 : w2.cell? ⟨w.heap.size, 1, none⟩ = some (.int .i64 lb) := blk_cell HK.out rfl
    cases hfew : CalF.fewB l with
    | false =>
      rw [hfew] at HF
      go_wp2_with (go_at_call 8; refine (HF.out _ (HL.out.step BB.out)).mono ?_; rintro e w3 ⟨rfl, hb⟩; replace BB := Lib.hid (BB.out.trans (hb.mono BB.out.size)); clear hb HF)
      go_ret
      exact ⟨rfl, BB.out⟩
    | true =>
      rw [hfew] at HF
      have h64 : 64 < lb := by
        have : ¬ lb ≤ 64 := fun h => hno ⟨hr, hfew, h⟩
        omega
      go_wp2_with (go_at_call 8; refine (HF.out _ (HL.out.step BB.out)).mono ?_; rintro e w3 ⟨rfl, hb⟩; replace BB := Lib.hid (BB.out.trans (hb.mono BB.out.size)); replace HK := Lib.hid ((hb.block _ (RecC.lt_of_some HK.out)).trans HK.out); have c1 := blk_cell (i := 1) (u := .int .i64 lb) HK.out rfl; clear hb HF)
      go_ret
      exact ⟨rfl, BB.out⟩
  · have HN := Lib.hid (fun W (hb : Below w.heap.size w W) => A.new_no w.heap.size b lb f W hb.size (A.gd _ _ _ hg hb.size hb.block) hr)
    clear hno
    go_enter Tryz.func15, Tryz.ntmps15
    go_upto_region 1 with (fail)
    rw [← hW1]
    clear hW1
    go_upto_region 2 with (go_at_call 10; refine (HN.out _ BB.out).mono ?_; rintro e w2 ⟨rfl, hb⟩; replace BB := Lib.hid (BB.out.trans (hb.mono BB.out.size)); clear hb HN)
    clear c0 c1 c2
    go_wp2_with (go_at_call 8; refine (HF.out _ (HL.out.step BB.out)).mono ?_; rintro e w3 ⟨rfl, hb⟩; replace BB := Lib.hid (BB.out.trans (hb.mono BB.out.size)); clear hb HF)
    all_goals
      go_ret
      exact ⟨rfl, BB.out⟩
set_option maxRecDepth 100000 in
set_option maxHeartbeats 8000000 in
/-- begun: a model behind calls. -/
theorem begun_yes {G : Nat → World → Prop} {P : PT} (A : Api G P) {base : Nat} {b lb f : Int} {a : Option Addr} {n c : Nat} {l : List Ca} {w : World} (hbase : base ≤ w.heap.size) (hg : G base w) (hl : Lies w a (cc l)) (hln : l.length = n) (hn : n ≤ maxLen) (hr : GeoN.right b lb f) (hfew : CalF.fewB l = true) (h64 : lb ≤ 64) :
    Calls Tryz.prog 15 #[.agg #[.int .i64 b, .int .i64 lb, .int .i64 f], .slice a n c] w fun x w' => ∃ X, x = .returned (.pointer (some ⟨X, 0, none⟩)) ∧ Mine P base X (doL (MdN.new b lb f) (cs l)) w w' := by
  obtain ⟨W1, hW1⟩ : ∃ W1, W1 = w.alloc (.cells #[.int .i64 b, .int .i64 lb, .int .i64 f] 23) := ⟨_, rfl⟩
  have BB : Hid (Below w.heap.size w W1) := Lib.hid (by rw [hW1]; exact below_new w _)
  have hk : W1.heap[w.heap.size]? = some (.cells #[.int .i64 b, .int .i64 lb, .int .i64 f] 23 (0, 0)) := by rw [hW1]; exact heap_alloc_new w _
  have HK := Lib.hid hk
  have c0 : W1.cell? ⟨w.heap.size, 0, none⟩ = some (.int .i64 b) := blk_cell hk rfl
  have c1 : W1.cell? ⟨w.heap.size, 1, none⟩ = some (.int .i64 lb) := blk_cell hk rfl
  have c2 : W1.cell? ⟨w.heap.size, 2, none⟩ = some (.int .i64 f) := blk_cell hk rfl
  have HL := Lib.hid hl
  have HB := Lib.hid hbase
  have HF := Lib.hid (fun W (h : Lies W a (cc l)) => CalF.Few a n c l W h hln hn)
  rw [hfew] at HF
  have HN := Lib.hid (fun W (hb : Below w.heap.size w W) => A.new_yes base b lb f W (Nat.le_trans hbase hb.size) (A.gd _ _ _ hg hb.size (fun k hk => hb.block k (Nat.lt_of_lt_of_le hk hbase))) hr)
  unfold maxLen at hn
  clear hk hl hfew hbase
  generalize MdN.new b lb f = m0 at *
  go_enter Tryz.func15, Tryz.ntmps15
  go_upto_region 1 with (fail)
  rw [← hW1]
  clear hW1
  go_upto_region 2 with (go_at_call 10; refine (HN.out _ BB.out).mono ?_; rintro e w2 ⟨⟨X, F, rfl, hP, hF⟩, hb⟩; replace HK := Lib.hid ((hb.block _ (RecC.lt_of_some HK.out)).trans HK.out); have MM : Hid (Mine P base X m0 w w2) := Lib.hid ⟨F, hP, fun k hk => Nat.le_trans BB.out.size (hF k hk), BB.out.trans (hb.mono BB.out.size)⟩; clear hb HN hP hF BB)
  clear c0 c1 c2
  have c1 : w2.cell? ⟨w.heap.size, 1, none⟩ = some (.int .i64 lb) := blk_cell HK.out rfl
  go_upto_region 4 with (go_at_call 8; refine (HF.out _ (HL.out.step MM.out.bel)).mono ?_; rintro e w3 ⟨rfl, hb⟩; replace HK := Lib.hid ((hb.block _ (RecC.lt_of_some HK.out)).trans HK.out); have c1 := blk_cell (i := 1) (u := .int .i64 lb) HK.out rfl; replace MM := Lib.hid (MM.out.step A hb); clear hb HF)
  clear c1 HK
  go_wp2_with fail
  go_loopw [28] (fun iv wr => ∃ k : Nat, k ≤ n ∧ iv = .int .i64 k ∧ Mine P base X (doL m0 (cs (l.take k))) w wr) (fun iv _ => n - (intOf iv).toNat)
  case atStart => exact ⟨0, Nat.zero_le _, rfl, MM.out⟩
  case round =>
    clear MM
    obtain ⟨k, hk, rfl, hm⟩ := hrel
    have MM := Lib.hid hm
    clear hm
    by_cases hlt : k < n
    · obtain ⟨g, o, rfl, hg, hc⟩ := at7 HL.out (by omega)
      obtain ⟨k0, k1, k2, k3, k4, k5, k6⟩ := (hc k (by omega)).step hg MM.out.bel
      have HX := Lib.hid (cs_next l (show k < l.length by omega) m0)
      generalize l[k] = x at *
      have q0 : (0 : Int) ≤ (k : Int) := by omega
      have q1 : (k : Int) < (n : Int) := by omega
      clear hc hg HL
      go_upto_region 7 with (refine wpList_store_row rfl 35 _ _ rfl wr.heap.size _ rfl rfl 35 _ (heap_alloc_new wr _) infoC rfl (one7 x) ?_)
      generalize hW : World.setRow _ _ _ = W4
      have b4 : Below wr.heap.size wr W4 := by rw [← hW]; exact kept_new wr _ _ _
      have h4 : W4.heap[wr.heap.size]? = some (.cells #[.int .i64 x.c.k, .int .i64 x.c.lb, .int .i64 x.c.ep, .int .i64 x.c.tm, .string ⟨x.c.da.toArray⟩, .string ⟨x.c.nm.toArray⟩, .slice x.p x.n x.cap] 35 (0, 0)) := by rw [← hW]; exact has_new wr _ _ _
      replace MM := Lib.hid (MM.out.step A b4)
      clear hW k0 k1 k2 k3 k4 k5 k6
      have k0 : W4.cell? ⟨wr.heap.size, 0, none⟩ = some (.int .i64 x.c.k) := blk_cell h4 rfl
      have k1 : W4.cell? ⟨wr.heap.size, 1, none⟩ = some (.int .i64 x.c.lb) := blk_cell h4 rfl
      have k2 : W4.cell? ⟨wr.heap.size, 2, none⟩ = some (.int .i64 x.c.ep) := blk_cell h4 rfl
      have k3 : W4.cell? ⟨wr.heap.size, 3, none⟩ = some (.int .i64 x.c.tm) := blk_cell h4 rfl
      have k4 : W4.cell? ⟨wr.heap.size, 4, none⟩ = some (.string ⟨x.c.da.toArray⟩) := blk_cell h4 rfl
      have k5 : W4.cell? ⟨wr.heap.size, 5, none⟩ = some (.string ⟨x.c.nm.toArray⟩) := blk_cell h4 rfl
      have k6 : W4.cell? ⟨wr.heap.size, 6, none⟩ = some (.slice x.p x.n x.cap) := blk_cell h4 rfl
      clear h4 b4
      go_wp2_with (go_at_call 12; refine (Mine.does A MM.out HB.out x.c x.p x.n x.cap).mono ?_; rintro e w5 ⟨rfl, hm⟩; have M5 := Lib.hid hm; clear hm k0 k1 k2 k3 k4 k5 k6)
      go_roundw
      case rel => exact ⟨k + 1, by omega, by go_num, by rw [HX.out]; exact M5.out⟩
      case measure => simp [intOf]; omega
    · obtain rfl : k = n := by omega
      have qk : ¬ (k : Int) < (k : Int) := by omega
      have ht : l.take k = l := List.take_of_length_le (by omega)
      rw [ht] at MM
      go_wp2_with fail
      go_ret
      exact ⟨X, rfl, MM.out⟩
end Go.Proofs.YtopnodkdpehdoaaGreatDoor.MdP
