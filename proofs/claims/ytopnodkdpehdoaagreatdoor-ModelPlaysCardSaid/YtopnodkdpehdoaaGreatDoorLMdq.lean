/- MdQ MdR: one behind the other. -/
import Derived.Test.YtopnodkdpehdoaaGreatDoorMdP
import Derived.Deep.RegionHeld3
import Derived.Deep.DeepCutAuto
/- The statements' example over any model that meets the letters. The conditions: those letters. -/
namespace Go.Proofs.YtopnodkdpehdoaaGreatDoor.MdQ
set_option linter.unusedVariables false
open Go.RowKit
open RecN RecC RetR MdN MdO CalR AnsC MdP
/-- The example's calls, and what each is answered. -/
def kd : Nat → Int := fun k => if k < 4 then 1 else 5
def wt : Nat → Int := fun k => if k = 3 then 5 else if k = 5 then 6 else 0
def ec (k : Nat) : Cl := ⟨kd k, 0, 0, 0, [], []⟩
def ex (k : Nat) : Mo := doL (MdN.new 8 2 0) ((List.range k).map ec)
theorem ex_next (k : Nat) : ex (k + 1) = doM (ex k) (ec k) := by
  unfold ex
  rw [List.range_succ, List.map_append]
  exact doL_snoc _ _ _
theorem room8 (u : Int) (h : 0 ≤ u ∧ u < 3) : GeoN.room 8 2 0 u = 3 - u := by
  rw [GeoN.room_yes (by decide) h.1 (by omega)]
  omega
theorem room8n (u : Int) (h : 3 ≤ u) : GeoN.room 8 2 0 u = 0 := GeoN.room_no (by omega)
theorem data8 : GeoN.data 8 2 0 = 4 := by decide
/-- The model behind each: its shape, and how much it used. -/
theorem ex_is (k : Nat) (h : k ≤ 6) : Ok (ex k) ∧ (ex k).b = 8 ∧ (ex k).lb = 2 ∧ (ex k).f = 0 ∧ (ex k).used = (if k ≤ 3 then (k : Int) else if k = 4 then 3 else 4) ∧ (ex k).s.ep ≤ 10 := by
  have w1 : ∀ m : Mo, m.b = 8 → m.lb = 2 → m.f = 0 → 0 ≤ m.used → m.used < 3 → doM m (ec 0) = wrM m (ec 0) := fun m h1 h2 h3 h4 h5 => by
    obtain ⟨e1, e2⟩ : wrE m (ec 0) = 0 ∧ True := ⟨by
      unfold wrE rm
      rw [h1, h2, h3, room8 _ ⟨h4, h5⟩]
      have q1 : (ec 0).lb = 0 := rfl
      have q2 : (ec 0).da.length = 0 := rfl
      rw [if_neg (by omega), if_neg (by omega), if_neg (by omega)], trivial⟩
    unfold doM
    rw [if_pos (show (ec 0).k = 1 from rfl), if_pos e1]
  have o0 : Ok (ex 0) := ok_new (by decide)
  have a0 : (ex 0).b = 8 ∧ (ex 0).lb = 2 ∧ (ex 0).f = 0 ∧ (ex 0).used = 0 ∧ (ex 0).s.ep = 0 := ⟨rfl, rfl, rfl, rfl, rfl⟩
  obtain ⟨x1, x2, x3, x4, x5⟩ := a0
  have e1 : ex 1 = wrM (ex 0) (ec 0) := (ex_next 0).trans (w1 _ x1 x2 x3 (by omega) (by omega))
  have o1 : Ok (ex 1) := by rw [ex_next]; exact ok_do o0 _
  have a1 : (ex 1).b = 8 ∧ (ex 1).lb = 2 ∧ (ex 1).f = 0 ∧ (ex 1).used = 1 ∧ (ex 1).s.ep = 0 := by rw [e1]; exact ⟨x1, x2, x3, by show (ex 0).used + 1 = 1; omega, x5⟩
  obtain ⟨x1, x2, x3, x4, x5⟩ := a1
  have e2 : ex 2 = wrM (ex 1) (ec 0) := (ex_next 1).trans (w1 _ x1 x2 x3 (by omega) (by omega))
  have o2 : Ok (ex 2) := by rw [ex_next]; exact ok_do o1 _
  have a2 : (ex 2).b = 8 ∧ (ex 2).lb = 2 ∧ (ex 2).f = 0 ∧ (ex 2).used = 2 ∧ (ex 2).s.ep = 0 := by rw [e2]; exact ⟨x1, x2, x3, by show (ex 1).used + 1 = 2; omega, x5⟩
  obtain ⟨x1, x2, x3, x4, x5⟩ := a2
  have e3 : ex 3 = wrM (ex 2) (ec 0) := (ex_next 2).trans (w1 _ x1 x2 x3 (by omega) (by omega))
  have o3 : Ok (ex 3) := by rw [ex_next]; exact ok_do o2 _
  have a3 : (ex 3).b = 8 ∧ (ex 3).lb = 2 ∧ (ex 3).f = 0 ∧ (ex 3).used = 3 ∧ (ex 3).s.ep = 0 := by rw [e3]; exact ⟨x1, x2, x3, by show (ex 2).used + 1 = 3; omega, x5⟩
  obtain ⟨y1, y2, y3, y4, y5⟩ := a3
  have f3 : wrE (ex 3) (ec 3) = 5 := by
    unfold wrE rm
    rw [y1, y2, y3, room8n _ (by omega)]
    have q1 : (ec 3).lb = 0 := rfl
    have q2 : (ec 3).da.length = 0 := rfl
    rw [if_neg (by omega), if_neg (by omega), if_pos (by decide)]
  have e4 : ex 4 = ex 3 := (ex_next 3).trans (refused (.inl (by
    have : doA (ex 3) (ec 3) = anE (wrE (ex 3) (ec 3)) := by unfold doA doE; rfl
    rw [this, f3]
    show (5 : Int) ≠ 0
    decide)))
  have o4 : Ok (ex 4) := by rw [e4]; exact o3
  have a4 : (ex 4).b = 8 ∧ (ex 4).lb = 2 ∧ (ex 4).f = 0 ∧ (ex 4).used = 3 ∧ (ex 4).s.ep = 0 := by rw [e4]; exact ⟨y1, y2, y3, y4, y5⟩
  obtain ⟨z1, z2, z3, z4, z5⟩ := a4
  have g4 : clE (ex 4) = 0 := by
    unfold clE
    rw [if_pos ⟨by omega, by rw [z1, z2, z3, data8]; omega⟩]
    exact close_may o4 (by omega)
  have e5 : ex 5 = rcM (ex 4) (clR (ex 4)) := by
    rw [ex_next]
    unfold doM
    rw [if_neg (by decide), if_pos (show (ec 4).k = 5 from rfl), if_pos g4]
  have o5 : Ok (ex 5) := by rw [ex_next]; exact ok_do o4 _
  have p5 : (ex 5).s.ep ≤ 10 := by
    rw [e5]
    show (RetN.take (ex 4).s (stamp (ex 4) (clR (ex 4)))).ep ≤ 10
    rcases take_ep (ex 4).s (stamp (ex 4) (clR (ex 4))) with q | ⟨_, q⟩ <;> omega
  have a5 : (ex 5).b = 8 ∧ (ex 5).lb = 2 ∧ (ex 5).f = 0 ∧ (ex 5).used = 4 := by rw [e5]; exact ⟨z1, z2, z3, by show (ex 4).used + 1 = 4; omega⟩
  obtain ⟨u1, u2, u3, u4⟩ := a5
  have g5 : clE (ex 5) = 6 := by
    unfold clE
    rw [if_neg (fun hh => by have := hh.2; rw [u1, u2, u3, data8] at this; omega)]
  have e6 : ex 6 = ex 5 := by
    rw [ex_next]
    unfold doM
    rw [if_neg (by decide), if_pos (show (ec 5).k = 5 from rfl), g5, if_neg (by decide)]
  match k, h with
  | 0, _ => exact ⟨o0, rfl, rfl, rfl, rfl, by decide⟩
  | 1, _ => rw [e1]; rw [e1] at o1; exact ⟨o1, rfl, rfl, rfl, rfl, by decide⟩
  | 2, _ => exact ⟨o2, x1, x2, x3, x4, by omega⟩
  | 3, _ => exact ⟨o3, y1, y2, y3, y4, by omega⟩
  | 4, _ => exact ⟨o4, z1, z2, z3, z4, by omega⟩
  | 5, _ => exact ⟨o5, u1, u2, u3, u4, p5⟩
  | 6, _ => rw [e6]; exact ⟨o5, u1, u2, u3, u4, p5⟩
/-- What each is answered. -/
theorem ex_er (k : Nat) (h : k < 6) : doA (ex k) (ec k) = anE (wt k) := by
  obtain ⟨o, x1, x2, x3, x4, x5⟩ := ex_is k (by omega)
  have q1 : (ec k).lb = 0 := rfl
  have q2 : (ec k).da.length = 0 := rfl
  by_cases h4 : k < 4
  · have hk : (ec k).k = 1 := if_pos h4
    have e : doA (ex k) (ec k) = anE (wrE (ex k) (ec k)) := by
      unfold doA doE
      rw [if_neg (by omega), if_neg (by omega), if_neg (by omega), if_pos hk]
    rw [e]
    congr 1
    unfold wrE rm
    rw [x1, x2, x3, x4, if_pos (show k ≤ 3 by omega), if_neg (by omega), if_neg (by omega)]
    by_cases h3 : k = 3
    · rw [room8n _ (by omega), if_pos (by decide)]; unfold wt; rw [if_pos h3]
    · rw [room8 _ (by omega), if_neg (by omega)]; unfold wt; rw [if_neg h3, if_neg (by omega)]
  · have hk : (ec k).k = 5 := if_neg h4
    have e : doA (ex k) (ec k) = anE (clE (ex k)) := by
      unfold doA doE
      rw [if_neg (by omega), if_neg (by omega), if_neg (by omega), if_neg (by omega), if_neg (by omega), if_pos hk]
    rw [e]
    congr 1
    unfold clE
    rw [x1, x2, x3, data8, x4, if_neg (show ¬ k ≤ 3 by omega)]
    by_cases h5 : k = 4
    · rw [if_pos h5, if_pos ⟨by omega, by decide⟩, close_may o (by omega)]
      unfold wt
      rw [if_neg (by omega), if_neg (by omega)]
    · rw [if_neg h5, if_neg (fun hh => by have := hh.2; omega)]
      unfold wt
      rw [if_neg (by omega), if_pos (by omega)]
/-- What stands in the example: a model, and two rows of numbers beside it. -/
structure Al (P : PT) (X : Nat) (m : Mo) (Y1 Y2 : Nat) (w0 W : World) : Prop where
  p : ∃ F, P w0.heap.size X F m W ∧ (∀ k, F k → w0.heap.size ≤ k) ∧ ¬ F Y1 ∧ ¬ F Y2
  bel : Below w0.heap.size w0 W
  y1 : W.heap[Y1]? = some (.cells #[.int .i64 0, .int .i64 0, .int .i64 0, .int .i64 5, .int .i64 0, .int .i64 6] 3 (0, 0))
  y2 : W.heap[Y2]? = some (.cells #[.int .i64 1, .int .i64 1, .int .i64 1, .int .i64 1, .int .i64 5, .int .i64 5] 3 (0, 0))
theorem Al.step {G : Nat → World → Prop} {P : PT} (A : Api G P) {X : Nat} {m : Mo} {Y1 Y2 : Nat} {w0 W W' : World} (h : Al P X m Y1 Y2 w0 W) (hb : Below W.heap.size W W') : Al P X m Y1 Y2 w0 W' := by
  obtain ⟨F, h1, h2, h3, h4⟩ := h.p
  exact ⟨⟨F, A.stepB h1 hb, h2, h3, h4⟩, h.bel.trans (hb.mono h.bel.size), (hb.block _ (RecC.lt_of_some h.y1)).trans h.y1, (hb.block _ (RecC.lt_of_some h.y2)).trans h.y2⟩
theorem Al.does {G : Nat → World → Prop} {P : PT} (A : Api G P) {X : Nat} {m : Mo} {Y1 Y2 : Nat} {w0 W : World} (h : Al P X m Y1 Y2 w0 W) (c : Cl) (pk : Option Addr) (nk ck : Nat) :
    Calls Tryz.prog 12 #[.pointer (some ⟨X, 0, none⟩), .agg #[.int .i64 c.k, .int .i64 c.lb, .int .i64 c.ep, .int .i64 c.tm, .string ⟨c.da.toArray⟩, .string ⟨c.nm.toArray⟩, .slice pk nk ck]] W fun x w' => x = .returned (.agg (anA (doA m c))) ∧ Al P X (doM m c) Y1 Y2 w0 w' := by
  obtain ⟨F, h1, h2, h3, h4⟩ := h.p
  refine (A.does _ _ _ _ _ c pk nk ck h1 h.bel.size).mono ?_
  rintro x w' ⟨rfl, ⟨F', q1, q2⟩, q3⟩
  have l1 := RecC.lt_of_some h.y1
  have l2 := RecC.lt_of_some h.y2
  refine ⟨rfl, ⟨F', q1, fun k hk => ?_, fun hk => ?_, fun hk => ?_⟩, q3.below h.bel h2, (q3.block _ l1 h3).trans h.y1, (q3.block _ l2 h4).trans h.y2⟩
  · rcases q2 k hk with q | q
    · exact h2 k q
    · exact Nat.le_trans h.bel.size q
  · rcases q2 _ hk with q | q
    · exact h3 q
    · omega
  · rcases q2 _ hk with q | q
    · exact h4 q
    · omega
set_option maxRecDepth 100000 in
set_option maxHeartbeats 16000000 in
theorem alive {G : Nat → World → Prop} {P : PT} (A : Api G P) (w : World) (hg : G w.heap.size w) : Calls Tryz.prog 9 #[] w fun x w' => x = .returned (.bool true) ∧ Below w.heap.size w w' := by
  have HN := Lib.hid (A.new_yes w.heap.size 8 2 0 w (Nat.le_refl _) hg (by decide))
  have e0 : MdN.new 8 2 0 = ex 0 := rfl
  rw [e0] at HN
  clear e0
  go_enter Tryz.func9, Tryz.ntmps9
  go_upto_region 2 with (go_at_call 10; refine HN.out.mono ?_; rintro e w2 ⟨⟨X, F, rfl, hP, hF⟩, hb⟩; have HP := Lib.hid hP; have HF := Lib.hid hF; have HB := Lib.hid hb; have HLt := Lib.hid (A.lt _ _ _ _ _ hP); clear hb HN hP hF)
  go_upto_region 4 with (fail)
  go_upto_region 6 with (fail)
  generalize hW : World.alloc (World.alloc w2 _) _ = W3
  have AA : Hid (Al P X (ex 0) w2.heap.size (w2.heap.size + 1) w W3) := Lib.hid (by
    have b3 : Below w2.heap.size w2 W3 := by rw [← hW]; exact (below_new w2 _).trans ((below_new _ _).mono (by simp))
    exact ⟨⟨F, A.stepB HP.out b3, HF.out, fun h => by have := (HLt.out _ h).2; omega, fun h => by have := (HLt.out _ h).2; omega⟩, HB.out.trans (b3.mono HB.out.size), by rw [← hW]; exact heap_alloc2_old w2 _ _, by rw [← hW]; exact heap_alloc2_new w2 _ _⟩)
  clear hW HP HF HB HLt
  go_loopw [16] (fun iv wr => ∃ k : Nat, k ≤ 6 ∧ iv = .int .i64 k ∧ Al P X (ex k) w2.heap.size (w2.heap.size + 1) w wr) (fun iv _ => 6 - (intOf iv).toNat)
  case atStart => exact ⟨0, Nat.zero_le _, rfl, AA.out⟩
  case round =>
    clear AA
    obtain ⟨k, hk, rfl, ha⟩ := hrel
    have AA := Lib.hid ha
    clear ha
    by_cases hlt : k < 6
    · have c5 : wr.cell? ⟨w2.heap.size + 1, k, none⟩ = some (.int .i64 (kd k)) := blk_cell AA.out.y2 (by
        match k, hlt with
        | 0, _ => rfl
        | 1, _ => rfl
        | 2, _ => rfl
        | 3, _ => rfl
        | 4, _ => rfl
        | 5, _ => rfl)
      have HY : Hid (∀ W m, Al P X m w2.heap.size (w2.heap.size + 1) w W → W.cell? ⟨w2.heap.size, k, none⟩ = some (.int .i64 (wt k))) := Lib.hid (fun W m h => blk_cell h.y1 (by
        match k, hlt with
        | 0, _ => rfl
        | 1, _ => rfl
        | 2, _ => rfl
        | 3, _ => rfl
        | 4, _ => rfl
        | 5, _ => rfl))
      have HC : Hid (∀ W, Al P X (ex k) w2.heap.size (w2.heap.size + 1) w W → Calls Tryz.prog 12 #[.pointer (some ⟨X, 0, none⟩), .agg #[.int .i64 (kd k), .int .i64 0, .int .i64 0, .int .i64 0, .string ⟨#[]⟩, .string ⟨#[]⟩, .slice none 0 0]] W fun x w' => x = .returned (.agg #[.int .i64 (wt k), .string ⟨#[]⟩, .int .i64 0, .int .i64 0, .int .i64 0, .int .i64 0, .int .i64 0, .int .i64 0]) ∧ Al P X (ex (k + 1)) w2.heap.size (w2.heap.size + 1) w w') := Lib.hid (fun W h => by
        have := h.does A (ec k) none 0 0
        rw [ex_er k hlt, ← ex_next] at this
        exact this)
      have q0 : (0 : Int) ≤ (k : Int) := by omega
      have q1 : (k : Int) < 6 := by omega
      generalize kd k = y5 at *
      generalize wt k = y4 at *
      have hfd : ∀ W, (Instr.field 39 (.agg #[.int .i64 y4, .string ⟨#[]⟩, .int .i64 0, .int .i64 0, .int .i64 0, .int .i64 0, .int .i64 0, .int .i64 0]) 0).run Tryz.prog W = .ok (.int .i64 y4) W := fun W => fld_err (anE y4) W
      go_upto_region 8 with (fail)
      replace AA := Lib.hid (AA.out.step A ((Below.refl _ _).drew))
      have hS := HY.out _ _ AA.out
      clear c5
      go_region_held3 (fun W => W.cell? ⟨w2.heap.size, k, none⟩ = some (.int .i64 y4))
        (exact hS) (first | (go_at_call 12; refine (HC.out _ AA.out).mono ?_; rintro e w5 ⟨rfl, ha⟩; have A5 := Lib.hid ha; have hS := HY.out _ _ A5.out; clear ha HC))
      go_wp2_with fail
      go_roundw
      case rel => exact ⟨k + 1, by omega, by go_num, A5.out⟩
      case measure => simp [intOf]; omega
    · obtain rfl : k = 6 := by omega
      have qk : ¬ ((6 : Nat) : Int) < 6 := by omega
      go_wp2_with fail
      go_ret
      exact ⟨rfl, AA.out.bel⟩
end Go.Proofs.YtopnodkdpehdoaaGreatDoor.MdQ
/- ModelCloses over any model that meets the letters. The conditions: those letters. -/
namespace Go.Proofs.YtopnodkdpehdoaaGreatDoor.MdR
set_option linter.unusedVariables false
open Go.RowKit
open RecN RecC RetR MdN MdO CalR AnsC MdP MdQ
/-- A call of a kind alone. -/
def kc (k : Int) : Cl := ⟨k, 0, 0, 0, [], []⟩
theorem ans10 (m : Mo) : doA m (kc 10) = ⟨0, [], sta m⟩ ∧ doM m (kc 10) = m := ⟨by unfold doA; rw [if_neg (by decide), if_neg (by decide), if_pos (show (kc 10).k = 10 from rfl)], refused (.inr (.inr (.inr (.inr rfl))))⟩
theorem ans5 (m : Mo) : doA m (kc 5) = anE (clE m) ∧ doM m (kc 5) = (if clE m = 0 then rcM m (clR m) else m) := ⟨by unfold doA doE; rw [if_neg (by decide), if_neg (by decide), if_neg (by decide), if_neg (by decide), if_neg (by decide), if_pos (show (kc 5).k = 5 from rfl)], by unfold doM; rw [if_neg (by decide), if_pos (show (kc 5).k = 5 from rfl)]⟩
set_option maxRecDepth 100000 in
set_option maxHeartbeats 8000000 in
theorem closes_walk {G : Nat → World → Prop} {P : PT} (A : Api G P) {b lb f : Int} {a : Option Addr} {n c : Nat} {l : List Ca} {w : World} (hg : G w.heap.size w) (hl : Lies w a (cc l)) (hln : l.length = n) (hn : n ≤ maxLen) :
    Calls Tryz.prog 6 #[.agg #[.int .i64 b, .int .i64 lb, .int .i64 f], .slice a n c] w fun x w' => x = .returned (.bool true) ∧ Below w.heap.size w w' := by
  obtain ⟨W1, hW1⟩ : ∃ W1, W1 = w.alloc (.cells #[.int .i64 b, .int .i64 lb, .int .i64 f] 23) := ⟨_, rfl⟩
  have BB : Hid (Below w.heap.size w W1) := Lib.hid (by rw [hW1]; exact below_new w _)
  have hk : W1.heap[w.heap.size]? = some (.cells #[.int .i64 b, .int .i64 lb, .int .i64 f] 23 (0, 0)) := by rw [hW1]; exact heap_alloc_new w _
  have c0 : W1.cell? ⟨w.heap.size, 0, none⟩ = some (.int .i64 b) := blk_cell hk rfl
  have c1 : W1.cell? ⟨w.heap.size, 1, none⟩ = some (.int .i64 lb) := blk_cell hk rfl
  have c2 : W1.cell? ⟨w.heap.size, 2, none⟩ = some (.int .i64 f) := blk_cell hk rfl
  have HL := Lib.hid (hl.step BB.out)
  have HA := Lib.hid (fun W (hb : Below w.heap.size w W) => alive A W (A.gs hg hb))
  clear hk hl
  by_cases hy : GeoN.right b lb f ∧ CalF.fewB l = true ∧ lb ≤ 64
  · obtain ⟨h1, h2, h3⟩ := hy
    have HB := Lib.hid (begun_yes A (base := w.heap.size) (w := W1) (c := c) BB.out.size (A.gd _ _ _ hg BB.out.size BB.out.block) HL.out hln hn h1 h2 h3)
    obtain ⟨m, hm⟩ : ∃ m, m = doL (MdN.new b lb f) (cs l) := ⟨_, rfl⟩
    rw [← hm] at HB
    have OO : Hid (Ok m ∧ m.s.ep ≤ 4294967295) := Lib.hid (by
      have hf : f ≤ 4294967295 := by unfold GeoN.right at h1; omega
      rw [hm]
      exact ⟨ok_doL (ok_new h1) _, (ep_doL (m := MdN.new b lb f) hf _).2⟩)
    clear h1 h2 h3 hm HL
    have H10 : Hid (∀ X W, Mine P w.heap.size X m W1 W → Calls Tryz.prog 12 #[.pointer (some ⟨X, 0, none⟩), .agg #[.int .i64 10, .int .i64 0, .int .i64 0, .int .i64 0, .string ⟨#[]⟩, .string ⟨#[]⟩, .slice none 0 0]] W fun x w' => x = .returned (.agg #[.int .i64 0, .string ⟨#[]⟩, .int .i64 (sta m).ep, .int .i64 (sta m).ck, .int .i64 (sta m).fr, .int .i64 (sta m).rc, .int .i64 (sta m).pl, .int .i64 (sta m).ho]) ∧ Mine P w.heap.size X m W1 w') := Lib.hid (fun X W h => by
      have := h.does A BB.out.size (kc 10) none 0 0
      rw [(ans10 m).1, (ans10 m).2] at this
      exact this)
    have H5 : Hid (∀ X W, Mine P w.heap.size X m W1 W → Calls Tryz.prog 12 #[.pointer (some ⟨X, 0, none⟩), .agg #[.int .i64 5, .int .i64 0, .int .i64 0, .int .i64 0, .string ⟨#[]⟩, .string ⟨#[]⟩, .slice none 0 0]] W fun x w' => x = .returned (.agg #[.int .i64 (clE m), .string ⟨#[]⟩, .int .i64 0, .int .i64 0, .int .i64 0, .int .i64 0, .int .i64 0, .int .i64 0]) ∧ Mine P w.heap.size X (if clE m = 0 then rcM m (clR m) else m) W1 w') := Lib.hid (fun X W h => by
      have := h.does A BB.out.size (kc 5) none 0 0
      rw [(ans5 m).1, (ans5 m).2] at this
      exact this)
    have HEp := Lib.hid (fun X m W (h : Mine P w.heap.size X m W1 W) => Mine.epoch A h)
    have hc := closes OO.out.1 OO.out.2
    have hfr : (sta m).fr = rm m := rfl
    have F2 : ∀ W, (Instr.field 39 (.agg #[.int .i64 0, .string ⟨#[]⟩, .int .i64 (sta m).ep, .int .i64 (sta m).ck, .int .i64 (sta m).fr, .int .i64 (sta m).rc, .int .i64 (sta m).pl, .int .i64 (sta m).ho]) 2).run Tryz.prog W = .ok (.agg #[.int .i64 (sta m).ep, .int .i64 (sta m).ck, .int .i64 (sta m).fr, .int .i64 (sta m).rc, .int .i64 (sta m).pl, .int .i64 (sta m).ho]) W := fun W => fld_sta ⟨0, [], sta m⟩ W
    have F3 : ∀ W, (Instr.field 37 (.agg #[.int .i64 (sta m).ep, .int .i64 (sta m).ck, .int .i64 (sta m).fr, .int .i64 (sta m).rc, .int .i64 (sta m).pl, .int .i64 (sta m).ho]) 2).run Tryz.prog W = .ok (.int .i64 (sta m).fr) W := fun W => fld_free ⟨0, [], sta m⟩ W
    have F0 : ∀ W, (Instr.field 39 (.agg #[.int .i64 (clE m), .string ⟨#[]⟩, .int .i64 0, .int .i64 0, .int .i64 0, .int .i64 0, .int .i64 0, .int .i64 0]) 0).run Tryz.prog W = .ok (.int .i64 (clE m)) W := fun W => fld_err (anE (clE m)) W
    rw [hfr] at F2 F3 H10
    generalize (sta m).ep = z1 at *
    generalize (sta m).ck = z2 at *
    generalize (sta m).rc = z4 at *
    generalize (sta m).pl = z5 at *
    generalize (sta m).ho = z6 at *
    clear hfr
    have hep : m.s.ep ≤ 4294967295 := OO.out.2
    have hep0 : 0 ≤ m.s.ep := by have h1 := OO.out.1.ep0; have h2 := OO.out.1.geo; unfold GeoN.right at h2; omega
    obtain ⟨m', hm'⟩ : ∃ m', m' = (if clE m = 0 then rcM m (clR m) else m) := ⟨_, rfl⟩
    rw [← hm'] at H5
    have hw : (clE m = 0 ∧ m'.s.ep = m.s.ep + 1) ∨ (clE m = 6 ∧ rm m = 0 ∧ m'.s.ep = m.s.ep) ∨ (clE m = 6 ∧ ¬ rm m = 0 ∧ m.s.ep = 4294967295) := by
      rcases hc with ⟨q1, q2⟩ | ⟨q1, q2⟩ | ⟨q1, q2⟩
      · exact .inl ⟨q1, by rw [hm', if_pos q1]; exact q2⟩
      · exact .inr (.inl ⟨q1, q2, by rw [hm', q1, if_neg (by decide)]⟩)
      · by_cases q3 : rm m = 0
        · exact .inr (.inl ⟨q1, q3, by rw [hm', q1, if_neg (by decide)]⟩)
        · exact .inr (.inr ⟨q1, q3, q2⟩)
    clear hc hm' OO
    have HE1 := Lib.hid (fun X W (h : Mine P w.heap.size X m W1 W) => HEp.out X m W h)
    have HE2 := Lib.hid (fun X W (h : Mine P w.heap.size X m' W1 W) => HEp.out X m' W h)
    clear HEp
    generalize clE m = e5 at *
    generalize rm m = fr at *
    generalize m.s.ep = ep at *
    generalize m'.s.ep = ep' at *
    rcases hw with ⟨rfl, hq⟩ | ⟨rfl, rfl, hq⟩ | ⟨rfl, hq, hq2⟩
    · have t1 : (ep' == ep + 1) = true := by simp [hq]
      have a1 : ep + 1 ≤ 4294967296 := by omega
      clear hq
      go_enter Tryz.func6, Tryz.ntmps6
      go_upto_region 1 with (fail)
      rw [← hW1]
      clear hW1
      go_upto_region 5 with (first
        | (go_at_call 15; refine HB.out.mono ?_; rintro e w2 ⟨X, rfl, hm⟩; have MM := Lib.hid hm; clear hm HB c0 c1 c2)
        | (go_at_call 18; refine (HE1.out _ _ MM.out).mono ?_; rintro e w3 ⟨rfl, hm⟩; replace MM := Lib.hid hm; clear hm HE1))
      go_upto_region 6 with (go_at_call 12; refine (H10.out _ _ MM.out).mono ?_; rintro e w4 ⟨rfl, hm⟩; replace MM := Lib.hid hm; clear hm H10)
      go_upto_region 7 with (go_at_call 12; refine (H5.out _ _ MM.out).mono ?_; rintro e w4 ⟨rfl, hm⟩; have M5 := Lib.hid hm; clear hm H5)
      go_wp2_with (first
        | (go_at_call 18; refine (HE2.out _ _ M5.out).mono ?_; rintro e w5 ⟨rfl, hm⟩; replace M5 := Lib.hid hm; clear hm HE2)
        | (go_at_call 9; refine (HA.out _ (BB.out.trans (M5.out.bel.mono BB.out.size))).mono ?_; rintro e w6 ⟨rfl, hb⟩; have B6 := Lib.hid (BB.out.trans ((M5.out.bel.trans (hb.mono M5.out.bel.size)).mono BB.out.size)); clear hb HA))
      go_ret
      exact ⟨rfl, B6.out⟩
    · have t1 : (ep' == ep) = true := by simp [hq]
      clear hq
      go_enter Tryz.func6, Tryz.ntmps6
      go_upto_region 1 with (fail)
      rw [← hW1]
      clear hW1
      go_upto_region 5 with (first
        | (go_at_call 15; refine HB.out.mono ?_; rintro e w2 ⟨X, rfl, hm⟩; have MM := Lib.hid hm; clear hm HB c0 c1 c2)
        | (go_at_call 18; refine (HE1.out _ _ MM.out).mono ?_; rintro e w3 ⟨rfl, hm⟩; replace MM := Lib.hid hm; clear hm HE1))
      go_upto_region 6 with (go_at_call 12; refine (H10.out _ _ MM.out).mono ?_; rintro e w4 ⟨rfl, hm⟩; replace MM := Lib.hid hm; clear hm H10)
      go_upto_region 7 with (go_at_call 12; refine (H5.out _ _ MM.out).mono ?_; rintro e w4 ⟨rfl, hm⟩; have M5 := Lib.hid hm; clear hm H5)
      go_wp2_with (first
        | (go_at_call 18; refine (HE2.out _ _ M5.out).mono ?_; rintro e w5 ⟨rfl, hm⟩; replace M5 := Lib.hid hm; clear hm HE2)
        | (go_at_call 9; refine (HA.out _ (BB.out.trans (M5.out.bel.mono BB.out.size))).mono ?_; rintro e w6 ⟨rfl, hb⟩; have B6 := Lib.hid (BB.out.trans ((M5.out.bel.trans (hb.mono M5.out.bel.size)).mono BB.out.size)); clear hb HA))
      go_ret
      exact ⟨rfl, B6.out⟩
    · have t1 : (ep == 4294967295) = true := by simp [hq2]
      have t2 : (fr == 0) = false := by simp [hq]
      clear hq hq2
      go_enter Tryz.func6, Tryz.ntmps6
      go_upto_region 1 with (fail)
      rw [← hW1]
      clear hW1
      go_upto_region 5 with (first
        | (go_at_call 15; refine HB.out.mono ?_; rintro e w2 ⟨X, rfl, hm⟩; have MM := Lib.hid hm; clear hm HB c0 c1 c2)
        | (go_at_call 18; refine (HE1.out _ _ MM.out).mono ?_; rintro e w3 ⟨rfl, hm⟩; replace MM := Lib.hid hm; clear hm HE1))
      go_upto_region 6 with (go_at_call 12; refine (H10.out _ _ MM.out).mono ?_; rintro e w4 ⟨rfl, hm⟩; replace MM := Lib.hid hm; clear hm H10)
      go_upto_region 7 with (go_at_call 12; refine (H5.out _ _ MM.out).mono ?_; rintro e w4 ⟨rfl, hm⟩; have M5 := Lib.hid hm; clear hm H5)
      go_wp2_with (first
        | (go_at_call 18; refine (HE2.out _ _ M5.out).mono ?_; rintro e w5 ⟨rfl, hm⟩; replace M5 := Lib.hid hm; clear hm HE2)
        | (go_at_call 9; refine (HA.out _ (BB.out.trans (M5.out.bel.mono BB.out.size))).mono ?_; rintro e w6 ⟨rfl, hb⟩; have B6 := Lib.hid (BB.out.trans ((M5.out.bel.trans (hb.mono M5.out.bel.size)).mono BB.out.size)); clear hb HA))
      go_ret
      exact ⟨rfl, B6.out⟩
  · have HB := Lib.hid (begun_no A (w := W1) (c := c) (A.gs hg BB.out) HL.out hln hn hy)
    clear hy HL
    go_enter Tryz.func6, Tryz.ntmps6
    go_upto_region 1 with (fail)
    rw [← hW1]
    clear hW1
    go_wp2_with (first
      | (go_at_call 15; refine HB.out.mono ?_; rintro e w2 ⟨rfl, hb⟩; replace BB := Lib.hid (BB.out.trans (hb.mono BB.out.size)); clear hb HB c0 c1 c2)
      | (go_at_call 9; refine (HA.out _ BB.out).mono ?_; rintro e w3 ⟨rfl, hb⟩; replace BB := Lib.hid (BB.out.trans (hb.mono BB.out.size)); clear hb HA))
    go_ret
    exact ⟨rfl, BB.out⟩
end Go.Proofs.YtopnodkdpehdoaaGreatDoor.MdR
