/- ModelOnce over any model that meets the letters. The conditions: those letters. -/
import Derived.Test.YtopnodkdpehdoaaGreatDoorLMdq
namespace Go.Proofs.YtopnodkdpehdoaaGreatDoor.MdS
set_option linter.unusedVariables false
open Go.RowKit
open RecN RecC RetR MdN MdO CalR AnsC MdP MdQ MdR
/-- A model that is the caller's, beside blocks of his own (K), as they stood (w1). -/
def Mk (P : PT) (base X : Nat) (m : Mo) (w0 : World) (K : Nat → Prop) (w1 w : World) : Prop :=
  ∃ F, P base X F m w ∧ (∀ k, F k → w0.heap.size ≤ k) ∧ (∀ k, K k → ¬ F k ∧ k < w.heap.size ∧ w.heap[k]? = w1.heap[k]?) ∧ Below w0.heap.size w0 w
section
variable {G : Nat → World → Prop} {P : PT} {base X : Nat} {m : Mo} {w0 w1 w W : World} {K K' : Nat → Prop}
theorem Mk.bel (h : Mk P base X m w0 K w1 w) : Below w0.heap.size w0 w := by obtain ⟨_, _, _, _, h⟩ := h; exact h
theorem Mk.at_ (h : Mk P base X m w0 K w1 w) {k : Nat} (hk : K k) {ob : Obj} (hw : w1.heap[k]? = some ob) : w.heap[k]? = some ob := by obtain ⟨_, _, _, h, _⟩ := h; exact (h k hk).2.2.trans hw
theorem Mk.step (A : Api G P) (h : Mk P base X m w0 K w1 w) (hb : Below w.heap.size w W) : Mk P base X m w0 K w1 W := by
  obtain ⟨F, h1, h2, h3, h4⟩ := h
  exact ⟨F, A.stepB h1 hb, h2, fun k hk => ⟨(h3 k hk).1, Nat.lt_of_lt_of_le (h3 k hk).2.1 hb.size, (hb.block k (h3 k hk).2.1).trans (h3 k hk).2.2⟩, h4.trans (hb.mono h4.size)⟩
/-- More blocks of the caller's own. -/
theorem Mk.more (A : Api G P) (h : Mk P base X m w0 K w1 w) (hb : Below w.heap.size w W) (hk : ∀ k, K' k → K k ∨ (w.heap.size ≤ k ∧ k < W.heap.size)) : Mk P base X m w0 K' W W := by
  obtain ⟨F, h1, h2, h3, h4⟩ := h
  refine ⟨F, A.stepB h1 hb, h2, fun k hk' => ?_, h4.trans (hb.mono h4.size)⟩
  rcases hk k hk' with q | ⟨q1, q2⟩
  · exact ⟨(h3 k q).1, Nat.lt_of_lt_of_le (h3 k q).2.1 hb.size, rfl⟩
  · exact ⟨fun hf => by have := (A.lt _ _ _ _ _ h1 k hf).2; omega, q2, rfl⟩
theorem Mine.mk (h : Mine P base X m w0 w) : Mk P base X m w0 (fun _ => False) w w := by
  obtain ⟨F, h1, h2, h3⟩ := h
  exact ⟨F, h1, h2, fun k hk => hk.elim, h3⟩
theorem Mk.epoch (A : Api G P) (h : Mk P base X m w0 K w1 w) : Calls Tryz.prog 18 #[.pointer (some ⟨X, 0, none⟩)] w fun x w' => x = .returned (.int .i64 m.s.ep) ∧ Mk P base X m w0 K w1 w' := by
  have hm := h
  obtain ⟨F, h1, h2, h3⟩ := h
  exact (A.epoch _ _ _ _ _ h1).mono (fun x w' ⟨e, hb⟩ => ⟨e, hm.step A hb⟩)
theorem Mk.does (A : Api G P) (h : Mk P base X m w0 K w1 w) (hb : base ≤ w0.heap.size) (c : Cl) (pk : Option Addr) (nk ck : Nat) :
    Calls Tryz.prog 12 #[.pointer (some ⟨X, 0, none⟩), .agg #[.int .i64 c.k, .int .i64 c.lb, .int .i64 c.ep, .int .i64 c.tm, .string ⟨c.da.toArray⟩, .string ⟨c.nm.toArray⟩, .slice pk nk ck]] w fun x w' => x = .returned (.agg (anA (doA m c))) ∧ Mk P base X (doM m c) w0 K w1 w' := by
  obtain ⟨F, h1, h2, h3, h4⟩ := h
  refine (A.does _ _ _ _ _ c pk nk ck h1 (Nat.le_trans hb h4.size)).mono ?_
  rintro x w' ⟨rfl, ⟨F', q1, q2⟩, q3⟩
  refine ⟨rfl, F', q1, fun k hk => ?_, fun k hk => ⟨fun hf => ?_, Nat.lt_of_lt_of_le (h3 k hk).2.1 q3.size, (q3.block k (h3 k hk).2.1 (h3 k hk).1).trans (h3 k hk).2.2⟩, q3.below h4 h2⟩
  · rcases q2 k hk with q | q
    · exact h2 k q
    · exact Nat.le_trans h4.size q
  · rcases q2 k hf with q | q
    · exact (h3 k hk).1 q
    · have := (h3 k hk).2.1; omega
end
/-- A call that reads. -/
def ask3 (lba e : Int) : Cl := ⟨3, lba, e, 0, [], []⟩
def ask2 (lba : Int) : Cl := ⟨2, lba, 0, 0, [], []⟩
theorem ans3 (m : Mo) (lba e : Int) : doA m (ask3 lba e) = rd m lba e ∧ doM m (ask3 lba e) = m := ⟨by unfold doA; rw [if_neg (show ¬ (ask3 lba e).k = 2 by show ¬ (3 : Int) = 2; decide), if_pos (show (ask3 lba e).k = 3 from rfl)]; rfl, refused (.inr (.inr (.inl rfl)))⟩
theorem ans2 (m : Mo) (lba : Int) : doA m (ask2 lba) = rd m lba m.s.ep ∧ doM m (ask2 lba) = m := ⟨by unfold doA; rw [if_pos (show (ask2 lba).k = 2 from rfl)]; rfl, refused (.inr (.inl rfl))⟩
set_option maxRecDepth 100000 in
set_option maxHeartbeats 8000000 in
theorem once_no {G : Nat → World → Prop} {P : PT} (A : Api G P) {b lb f lba e : Int} {a a2 : Option Addr} {n ca n2 ca2 : Nat} {l more : List Ca} {w : World} (hg : G w.heap.size w) (hl : Lies w a (cc l)) (hln : l.length = n) (hn : n ≤ maxLen) (hm : Lies w a2 (cc more)) (hmn : more.length = n2) (hn2 : n2 ≤ maxLen) (hno : ¬ (GeoN.right b lb f ∧ CalF.fewB l = true ∧ lb ≤ 64)) : Calls Tryz.prog 5 #[.agg #[.int .i64 b, .int .i64 lb, .int .i64 f], .slice a n ca, .slice a2 n2 ca2, .int .i64 lba, .int .i64 e] w fun x w' => x = .returned (.bool true) ∧ Below w.heap.size w w' := by
  obtain ⟨W1, hW1⟩ : ∃ W1, W1 = w.alloc (.cells #[.int .i64 b, .int .i64 lb, .int .i64 f] 23) := ⟨_, rfl⟩
  have BB : Hid (Below w.heap.size w W1) := Lib.hid (by rw [hW1]; exact below_new w _)
  have hk : W1.heap[w.heap.size]? = some (.cells #[.int .i64 b, .int .i64 lb, .int .i64 f] 23 (0, 0)) := by rw [hW1]; exact heap_alloc_new w _
  have c0 : W1.cell? ⟨w.heap.size, 0, none⟩ = some (.int .i64 b) := blk_cell hk rfl
  have c1 : W1.cell? ⟨w.heap.size, 1, none⟩ = some (.int .i64 lb) := blk_cell hk rfl
  have c2 : W1.cell? ⟨w.heap.size, 2, none⟩ = some (.int .i64 f) := blk_cell hk rfl
  have HL := Lib.hid (hl.step BB.out)
  have HM := Lib.hid (hm.step BB.out)
  have HA := Lib.hid (fun W (hb : Below w.heap.size w W) => alive A W (A.gs hg hb))
  have HF := Lib.hid (fun W (h : Lies W a2 (cc more)) => CalF.Few a2 n2 ca2 more W h hmn hn2)
  clear hk hl
  have HB := Lib.hid (begun_no A (w := W1) (c := ca) (A.gs hg BB.out) HL.out hln hn hno)
  clear hno HL
  go_enter Tryz.func5, Tryz.ntmps5
  go_upto_region 1 with (fail)
  rw [← hW1]
  clear hW1
  go_wp2_with (first
    | (go_at_call 15; refine HB.out.mono ?_; rintro e7 w7 ⟨rfl, hb⟩; replace BB := Lib.hid (BB.out.trans (hb.mono BB.out.size)); clear hb HB c0 c1 c2)
    | (go_at_call 9; refine (HA.out _ BB.out).mono ?_; rintro e9 w9 ⟨rfl, hb⟩; have B9 := Lib.hid (BB.out.trans (hb.mono BB.out.size)); clear hb HA))
  go_ret
  exact ⟨rfl, B9.out⟩
set_option maxRecDepth 100000 in
set_option maxHeartbeats 8000000 in
theorem once_late {G : Nat → World → Prop} {P : PT} (A : Api G P) {b lb f lba e : Int} {a a2 : Option Addr} {n ca n2 ca2 : Nat} {l more : List Ca} {w : World} (hg : G w.heap.size w) (hl : Lies w a (cc l)) (hln : l.length = n) (hn : n ≤ maxLen) (hm : Lies w a2 (cc more)) (hmn : more.length = n2) (hn2 : n2 ≤ maxLen) (h1 : GeoN.right b lb f) (h2 : CalF.fewB l = true) (h3 : lb ≤ 64) (hlate : CalF.fewB more = false ∨ (doL (MdN.new b lb f) (cs l)).s.ep ≤ e) : Calls Tryz.prog 5 #[.agg #[.int .i64 b, .int .i64 lb, .int .i64 f], .slice a n ca, .slice a2 n2 ca2, .int .i64 lba, .int .i64 e] w fun x w' => x = .returned (.bool true) ∧ Below w.heap.size w w' := by
  obtain ⟨W1, hW1⟩ : ∃ W1, W1 = w.alloc (.cells #[.int .i64 b, .int .i64 lb, .int .i64 f] 23) := ⟨_, rfl⟩
  have BB : Hid (Below w.heap.size w W1) := Lib.hid (by rw [hW1]; exact below_new w _)
  have hk : W1.heap[w.heap.size]? = some (.cells #[.int .i64 b, .int .i64 lb, .int .i64 f] 23 (0, 0)) := by rw [hW1]; exact heap_alloc_new w _
  have c0 : W1.cell? ⟨w.heap.size, 0, none⟩ = some (.int .i64 b) := blk_cell hk rfl
  have c1 : W1.cell? ⟨w.heap.size, 1, none⟩ = some (.int .i64 lb) := blk_cell hk rfl
  have c2 : W1.cell? ⟨w.heap.size, 2, none⟩ = some (.int .i64 f) := blk_cell hk rfl
  have HL := Lib.hid (hl.step BB.out)
  have HM := Lib.hid (hm.step BB.out)
  have HA := Lib.hid (fun W (hb : Below w.heap.size w W) => alive A W (A.gs hg hb))
  have HF := Lib.hid (fun W (h : Lies W a2 (cc more)) => CalF.Few a2 n2 ca2 more W h hmn hn2)
  clear hk hl
  have HB := Lib.hid (begun_yes A (base := w.heap.size) (w := W1) (c := ca) BB.out.size (A.gd _ _ _ hg BB.out.size BB.out.block) HL.out hln hn h1 h2 h3)
  obtain ⟨m, hm0⟩ : ∃ m, m = doL (MdN.new b lb f) (cs l) := ⟨_, rfl⟩
  rw [← hm0] at HB
  have OO : Hid (m.s.ep ≤ 4294967295) := Lib.hid (by
    have hf : f ≤ 4294967295 := by unfold GeoN.right at h1; omega
    rw [hm0]
    exact (ep_doL (m := MdN.new b lb f) hf _).2)
  have HE := Lib.hid (fun X K W1' W (h : Mk P w.heap.size X m W1 K W1' W) => Mk.epoch A h)
  rw [← hm0] at hlate
  clear h1 h2 h3 hm0 HL
  generalize m.s.ep = ep at *
  cases hfew : CalF.fewB more with
  | false =>
    rw [hfew] at HF
    clear hlate
    go_enter Tryz.func5, Tryz.ntmps5
    go_upto_region 1 with (fail)
    rw [← hW1]
    clear hW1
    go_wp2_with (first
    | (go_at_call 15; refine HB.out.mono ?_; rintro e7 w7 ⟨X, rfl, hm7⟩; have MM := Lib.hid (Mine.mk hm7); clear hm7 HB c0 c1 c2)
    | (go_at_call 8; refine (HF.out _ (HM.out.step MM.out.bel)).mono ?_; rintro e8 w8 ⟨rfl, hb⟩; replace MM := Lib.hid (MM.out.step A hb); clear hb HF)
    | (go_at_call 18; refine (HE.out _ _ _ _ MM.out).mono ?_; rintro e9 w9 ⟨rfl, hm9⟩; replace MM := Lib.hid hm9; clear hm9)
    | (go_at_call 9; refine (HA.out _ (BB.out.trans (MM.out.bel.mono BB.out.size))).mono ?_; rintro e9 w9 ⟨rfl, hb⟩; have B9 := Lib.hid (BB.out.trans ((MM.out.bel.trans (hb.mono MM.out.bel.size)).mono BB.out.size)); clear hb HA))
    go_ret
    exact ⟨rfl, B9.out⟩
  | true =>
    have hle : ep ≤ e := by
      rcases hlate with q | q
      · rw [hfew] at q; cases q
      · exact q
    rw [hfew] at HF
    clear hlate
    go_enter Tryz.func5, Tryz.ntmps5
    go_upto_region 1 with (fail)
    rw [← hW1]
    clear hW1
    go_wp2_with (first
    | (go_at_call 15; refine HB.out.mono ?_; rintro e7 w7 ⟨X, rfl, hm7⟩; have MM := Lib.hid (Mine.mk hm7); clear hm7 HB c0 c1 c2)
    | (go_at_call 8; refine (HF.out _ (HM.out.step MM.out.bel)).mono ?_; rintro e8 w8 ⟨rfl, hb⟩; replace MM := Lib.hid (MM.out.step A hb); clear hb HF)
    | (go_at_call 18; refine (HE.out _ _ _ _ MM.out).mono ?_; rintro e9 w9 ⟨rfl, hm9⟩; replace MM := Lib.hid hm9; clear hm9)
    | (go_at_call 9; refine (HA.out _ (BB.out.trans (MM.out.bel.mono BB.out.size))).mono ?_; rintro e9 w9 ⟨rfl, hb⟩; have B9 := Lib.hid (BB.out.trans ((MM.out.bel.trans (hb.mono MM.out.bel.size)).mono BB.out.size)); clear hb HA))
    go_ret
    exact ⟨rfl, B9.out⟩
set_option maxRecDepth 100000 in
set_option maxHeartbeats 16000000 in
theorem once_yes {G : Nat → World → Prop} {P : PT} (A : Api G P) {b lb f lba e : Int} {a a2 : Option Addr} {n ca n2 ca2 : Nat} {l more : List Ca} {w : World} (hg : G w.heap.size w) (hl : Lies w a (cc l)) (hln : l.length = n) (hn : n ≤ maxLen) (hm : Lies w a2 (cc more)) (hmn : more.length = n2) (hn2 : n2 ≤ maxLen) (h1 : GeoN.right b lb f) (h2 : CalF.fewB l = true) (h3 : lb ≤ 64) (hfew : CalF.fewB more = true) (he : e < (doL (MdN.new b lb f) (cs l)).s.ep) : Calls Tryz.prog 5 #[.agg #[.int .i64 b, .int .i64 lb, .int .i64 f], .slice a n ca, .slice a2 n2 ca2, .int .i64 lba, .int .i64 e] w fun x w' => x = .returned (.bool true) ∧ Below w.heap.size w w' := by
  obtain ⟨W1, hW1⟩ : ∃ W1, W1 = w.alloc (.cells #[.int .i64 b, .int .i64 lb, .int .i64 f] 23) := ⟨_, rfl⟩
  have BB : Hid (Below w.heap.size w W1) := Lib.hid (by rw [hW1]; exact below_new w _)
  have hk : W1.heap[w.heap.size]? = some (.cells #[.int .i64 b, .int .i64 lb, .int .i64 f] 23 (0, 0)) := by rw [hW1]; exact heap_alloc_new w _
  have c0 : W1.cell? ⟨w.heap.size, 0, none⟩ = some (.int .i64 b) := blk_cell hk rfl
  have c1 : W1.cell? ⟨w.heap.size, 1, none⟩ = some (.int .i64 lb) := blk_cell hk rfl
  have c2 : W1.cell? ⟨w.heap.size, 2, none⟩ = some (.int .i64 f) := blk_cell hk rfl
  have HL := Lib.hid (hl.step BB.out)
  have HM := Lib.hid (hm.step BB.out)
  have HA := Lib.hid (fun W (hb : Below w.heap.size w W) => alive A W (A.gs hg hb))
  have HF := Lib.hid (fun W (h : Lies W a2 (cc more)) => CalF.Few a2 n2 ca2 more W h hmn hn2)
  clear hk hl
  have HB := Lib.hid (begun_yes A (base := w.heap.size) (w := W1) (c := ca) BB.out.size (A.gd _ _ _ hg BB.out.size BB.out.block) HL.out hln hn h1 h2 h3)
  obtain ⟨m, hm0⟩ : ∃ m, m = doL (MdN.new b lb f) (cs l) := ⟨_, rfl⟩
  rw [← hm0] at HB
  have OO : Hid (m.s.ep ≤ 4294967295) := Lib.hid (by
    have hf : f ≤ 4294967295 := by unfold GeoN.right at h1; omega
    rw [hm0]
    exact (ep_doL (m := MdN.new b lb f) hf _).2)
  have HE := Lib.hid (fun X K W1' W (h : Mk P w.heap.size X m W1 K W1' W) => Mk.epoch A h)
  rw [← hm0] at he
  rw [hfew] at HF
  obtain ⟨m2, hm2⟩ : ∃ m2, m2 = doL m (cs more) := ⟨_, rfl⟩
  have hR := once OO.out (cs more) lba e he
  rw [← hm2] at hR
  have HE2 := Lib.hid (fun X K W1' W (h : Mk P w.heap.size X m2 W1 K W1' W) => Mk.epoch A h)
  have HC3 : Hid (∀ X K W1' W, Mk P w.heap.size X m W1 K W1' W → Calls Tryz.prog 12 #[.pointer (some ⟨X, 0, none⟩), .agg #[.int .i64 3, .int .i64 lba, .int .i64 e, .int .i64 0, .string ⟨#[]⟩, .string ⟨#[]⟩, .slice none 0 0]] W fun x w' => x = .returned (.agg #[.int .i64 (rd m lba e).er, .string ⟨(rd m lba e).da.toArray⟩, .int .i64 (rd m lba e).st.ep, .int .i64 (rd m lba e).st.ck, .int .i64 (rd m lba e).st.fr, .int .i64 (rd m lba e).st.rc, .int .i64 (rd m lba e).st.pl, .int .i64 (rd m lba e).st.ho]) ∧ Mk P w.heap.size X m W1 K W1' w') := Lib.hid (fun X K W1' W h => by
    have := h.does A BB.out.size (ask3 lba e) none 0 0
    rw [(ans3 m lba e).1, (ans3 m lba e).2] at this
    exact this)
  have HC4 : Hid (∀ X K W1' W, Mk P w.heap.size X m2 W1 K W1' W → Calls Tryz.prog 12 #[.pointer (some ⟨X, 0, none⟩), .agg #[.int .i64 3, .int .i64 lba, .int .i64 e, .int .i64 0, .string ⟨#[]⟩, .string ⟨#[]⟩, .slice none 0 0]] W fun x w' => x = .returned (.agg #[.int .i64 (rd m2 lba e).er, .string ⟨(rd m2 lba e).da.toArray⟩, .int .i64 (rd m2 lba e).st.ep, .int .i64 (rd m2 lba e).st.ck, .int .i64 (rd m2 lba e).st.fr, .int .i64 (rd m2 lba e).st.rc, .int .i64 (rd m2 lba e).st.pl, .int .i64 (rd m2 lba e).st.ho]) ∧ Mk P w.heap.size X m2 W1 K W1' w') := Lib.hid (fun X K W1' W h => by
    have := h.does A BB.out.size (ask3 lba e) none 0 0
    rw [(ans3 m2 lba e).1, (ans3 m2 lba e).2] at this
    exact this)
  have HQ3 : Hid (∀ X K W1' W, Mk P w.heap.size X m2 W1 K W1' W → Calls Tryz.prog 12 #[.pointer (some ⟨X, 0, none⟩), .agg #[.int .i64 3, .int .i64 lba, .int .i64 m2.s.ep, .int .i64 0, .string ⟨#[]⟩, .string ⟨#[]⟩, .slice none 0 0]] W fun x w' => x = .returned (.agg #[.int .i64 (rd m2 lba m2.s.ep).er, .string ⟨(rd m2 lba m2.s.ep).da.toArray⟩, .int .i64 (rd m2 lba m2.s.ep).st.ep, .int .i64 (rd m2 lba m2.s.ep).st.ck, .int .i64 (rd m2 lba m2.s.ep).st.fr, .int .i64 (rd m2 lba m2.s.ep).st.rc, .int .i64 (rd m2 lba m2.s.ep).st.pl, .int .i64 (rd m2 lba m2.s.ep).st.ho]) ∧ Mk P w.heap.size X m2 W1 K W1' w') := Lib.hid (fun X K W1' W h => by
    have := h.does A BB.out.size (ask3 lba m2.s.ep) none 0 0
    rw [(ans3 m2 lba m2.s.ep).1, (ans3 m2 lba m2.s.ep).2] at this
    exact this)
  have HQ2 : Hid (∀ X K W1' W, Mk P w.heap.size X m2 W1 K W1' W → Calls Tryz.prog 12 #[.pointer (some ⟨X, 0, none⟩), .agg #[.int .i64 2, .int .i64 lba, .int .i64 0, .int .i64 0, .string ⟨#[]⟩, .string ⟨#[]⟩, .slice none 0 0]] W fun x w' => x = .returned (.agg #[.int .i64 (rd m2 lba m2.s.ep).er, .string ⟨(rd m2 lba m2.s.ep).da.toArray⟩, .int .i64 (rd m2 lba m2.s.ep).st.ep, .int .i64 (rd m2 lba m2.s.ep).st.ck, .int .i64 (rd m2 lba m2.s.ep).st.fr, .int .i64 (rd m2 lba m2.s.ep).st.rc, .int .i64 (rd m2 lba m2.s.ep).st.pl, .int .i64 (rd m2 lba m2.s.ep).st.ho]) ∧ Mk P w.heap.size X m2 W1 K W1' w') := Lib.hid (fun X K W1' W h => by
    have := h.does A BB.out.size (ask2 lba) none 0 0
    rw [(ans2 m2 lba).1, (ans2 m2 lba).2] at this
    exact this)
  have HDo := Lib.hid (fun X m K W1' W c (h : Mk P w.heap.size X m W1 K W1' W) pk nk ck => h.does A BB.out.size c pk nk ck)
  have HN2 := Lib.hid (fun k (h : k < more.length) => cs_next more h m)
  have HT2 : Hid (doL m (cs more) = m2) := Lib.hid hm2.symm
  clear h1 h2 h3 hm0 HL hm2 OO hfew
  generalize rd m lba e = ra at *
  generalize rd m2 lba e = rb at *
  generalize rd m2 lba m2.s.ep = rc at *
  have hqe : ∀ W, (binOp .eql 39 (.agg #[.int .i64 rc.er, .string ⟨rc.da.toArray⟩, .int .i64 rc.st.ep, .int .i64 rc.st.ck, .int .i64 rc.st.fr, .int .i64 rc.st.rc, .int .i64 rc.st.pl, .int .i64 rc.st.ho]) (.agg #[.int .i64 rc.er, .string ⟨rc.da.toArray⟩, .int .i64 rc.st.ep, .int .i64 rc.st.ck, .int .i64 rc.st.fr, .int .i64 rc.st.rc, .int .i64 rc.st.pl, .int .i64 rc.st.ho])).run Tryz.prog W = .ok (.bool true) W := fun W => run_eql_ans rc rc true (by simp) W
  generalize m2.s.ep = ep2 at *
  have hge : ¬ m.s.ep ≤ e := by omega
  generalize m.s.ep = ep at *
  unfold maxLen at hn2
  go_enter Tryz.func5, Tryz.ntmps5
  go_upto_region 1 with (fail)
  rw [← hW1]
  clear hW1
  go_upto_region 4 with (first
    | (go_at_call 15; refine HB.out.mono ?_; rintro e7 w7 ⟨X, rfl, hm7⟩; have MM := Lib.hid (Mine.mk hm7); clear hm7 HB c0 c1 c2)
    | (go_at_call 8; refine (HF.out _ (HM.out.step MM.out.bel)).mono ?_; rintro e8 w8 ⟨rfl, hb⟩; replace MM := Lib.hid (MM.out.step A hb); clear hb HF)
    | (go_at_call 18; refine (HE.out _ _ _ _ MM.out).mono ?_; rintro e9 w9 ⟨rfl, hm9⟩; replace MM := Lib.hid hm9; clear hm9))
  go_upto_region 5 with (refine wpList_store_row rfl 35 _ _ rfl w9.heap.size _ rfl rfl 35 _ (heap_alloc_new w9 _) infoC rfl (one7 ⟨ask3 lba e, none, 0, 0⟩) ?_)
  generalize hW : World.setRow _ _ _ = W5
  have b5 : Below w9.heap.size w9 W5 := by rw [← hW]; exact kept_new w9 _ _ _
  have h5 : W5.heap[w9.heap.size]? = some (.cells #[.int .i64 3, .int .i64 lba, .int .i64 e, .int .i64 0, .string ⟨#[]⟩, .string ⟨#[]⟩, .slice none 0 0] 35 (0, 0)) := by rw [← hW]; exact has_new w9 _ _ _
  replace MM := Lib.hid (MM.out.more (K' := (fun k => k = w9.heap.size)) A b5 (fun k hk => .inr ⟨by omega, by have := RecC.lt_of_some h5; omega⟩))
  have H5 := Lib.hid h5
  clear hW b5
  have k0 : W5.cell? ⟨w9.heap.size, 0, none⟩ = some (.int .i64 3) := blk_cell h5 rfl
  have k1 : W5.cell? ⟨w9.heap.size, 1, none⟩ = some (.int .i64 lba) := blk_cell h5 rfl
  have k2 : W5.cell? ⟨w9.heap.size, 2, none⟩ = some (.int .i64 e) := blk_cell h5 rfl
  have k3 : W5.cell? ⟨w9.heap.size, 3, none⟩ = some (.int .i64 0) := blk_cell h5 rfl
  have k4 : W5.cell? ⟨w9.heap.size, 4, none⟩ = some (.string ⟨#[]⟩) := blk_cell h5 rfl
  have k5 : W5.cell? ⟨w9.heap.size, 5, none⟩ = some (.string ⟨#[]⟩) := blk_cell h5 rfl
  have k6 : W5.cell? ⟨w9.heap.size, 6, none⟩ = some (.slice none 0 0) := blk_cell h5 rfl
  clear h5
  go_upto_region 6 with (first
    | (go_at_call 12; refine (HC3.out _ _ _ _ MM.out).mono ?_; rintro e10 w10 ⟨rfl, hm10⟩; replace MM := Lib.hid hm10; clear hm10 HC3 k0 k1 k2 k3 k4 k5 k6)
    | (refine wpList_store_row rfl 39 _ _ rfl w10.heap.size _ rfl rfl 39 _ (heap_alloc_new w10 _) infoA rfl (one8A ra) ?_))
  generalize hW : World.setRow _ _ _ = W6
  have b6 : Below w10.heap.size w10 W6 := by rw [← hW]; exact kept_new w10 _ _ _
  have h6 : W6.heap[w10.heap.size]? = some (.cells #[.int .i64 ra.er, .string ⟨ra.da.toArray⟩, .int .i64 ra.st.ep, .int .i64 ra.st.ck, .int .i64 ra.st.fr, .int .i64 ra.st.rc, .int .i64 ra.st.pl, .int .i64 ra.st.ho] 39 (0, 0)) := by rw [← hW]; exact has_new w10 _ _ _
  have l9 : w9.heap.size < w10.heap.size := by obtain ⟨_, _, _, q, _⟩ := MM.out; exact (q w9.heap.size rfl).2.1
  have h5 : W6.heap[w9.heap.size]? = some (.cells #[.int .i64 3, .int .i64 lba, .int .i64 e, .int .i64 0, .string ⟨#[]⟩, .string ⟨#[]⟩, .slice none 0 0] 35 (0, 0)) := (b6.block _ l9).trans (MM.out.at_ rfl H5.out)
  replace MM := Lib.hid (MM.out.more (K' := (fun k => k = w9.heap.size ∨ k = w10.heap.size)) A b6 (fun k hk => hk.imp id (fun q => ⟨by omega, by have := RecC.lt_of_some h6; omega⟩)))
  replace H5 := Lib.hid h5
  have H6 := Lib.hid h6
  clear hW b6 h5 h6
  go_wp2_with fail
  go_loopw [42] (fun iv wr => ∃ k : Nat, k ≤ n2 ∧ iv = .int .i64 k ∧ Mk P w.heap.size X (doL m (cs (more.take k))) W1 (fun k => k = w9.heap.size ∨ k = w10.heap.size) W6 wr) (fun iv _ => n2 - (intOf iv).toNat)
  case atStart => exact ⟨0, Nat.zero_le _, rfl, MM.out⟩
  case round =>
    clear MM
    obtain ⟨k, hk, rfl, hm⟩ := hrel
    have MM := Lib.hid hm
    clear hm
    by_cases hlt : k < n2
    · obtain ⟨g, o, rfl, hg, hc⟩ := at7 HM.out (by omega)
      obtain ⟨k0, k1, k2, k3, k4, k5, k6⟩ := (hc k (by omega)).step hg MM.out.bel
      have HX := Lib.hid (HN2.out k (by omega))
      generalize more[k] = x at *
      have q0 : (0 : Int) ≤ (k : Int) := by omega
      have q1 : (k : Int) < (n2 : Int) := by omega
      clear hc hg HM
      go_upto_region 9 with (refine wpList_store_row rfl 35 _ _ rfl wr.heap.size _ rfl rfl 35 _ (heap_alloc_new wr _) infoC rfl (one7 x) ?_)
      generalize hW : World.setRow _ _ _ = W7
      have b7 : Below wr.heap.size wr W7 := by rw [← hW]; exact kept_new wr _ _ _
      have h7 : W7.heap[wr.heap.size]? = some (.cells #[.int .i64 x.c.k, .int .i64 x.c.lb, .int .i64 x.c.ep, .int .i64 x.c.tm, .string ⟨x.c.da.toArray⟩, .string ⟨x.c.nm.toArray⟩, .slice x.p x.n x.cap] 35 (0, 0)) := by rw [← hW]; exact has_new wr _ _ _
      replace MM := Lib.hid (MM.out.step A b7)
      clear hW k0 k1 k2 k3 k4 k5 k6
      have k0 : W7.cell? ⟨wr.heap.size, 0, none⟩ = some (.int .i64 x.c.k) := blk_cell h7 rfl
      have k1 : W7.cell? ⟨wr.heap.size, 1, none⟩ = some (.int .i64 x.c.lb) := blk_cell h7 rfl
      have k2 : W7.cell? ⟨wr.heap.size, 2, none⟩ = some (.int .i64 x.c.ep) := blk_cell h7 rfl
      have k3 : W7.cell? ⟨wr.heap.size, 3, none⟩ = some (.int .i64 x.c.tm) := blk_cell h7 rfl
      have k4 : W7.cell? ⟨wr.heap.size, 4, none⟩ = some (.string ⟨x.c.da.toArray⟩) := blk_cell h7 rfl
      have k5 : W7.cell? ⟨wr.heap.size, 5, none⟩ = some (.string ⟨x.c.nm.toArray⟩) := blk_cell h7 rfl
      have k6 : W7.cell? ⟨wr.heap.size, 6, none⟩ = some (.slice x.p x.n x.cap) := blk_cell h7 rfl
      clear h7 b7
      go_wp2_with (go_at_call 12; refine (HDo.out _ _ _ _ _ x.c MM.out x.p x.n x.cap).mono ?_; rintro e12 w12 ⟨rfl, hm⟩; have M5 := Lib.hid hm; clear hm k0 k1 k2 k3 k4 k5 k6)
      go_roundw
      case rel => exact ⟨k + 1, by omega, by go_num, by rw [HX.out]; exact M5.out⟩
      case measure => simp [intOf]; omega
    · obtain rfl : k = n2 := by omega
      have qk : ¬ (k : Int) < (k : Int) := by omega
      have ht : more.take k = more := List.take_of_length_le (by omega)
      rw [ht, HT2.out] at MM
      clear ht HN2 HT2 HDo HM
      have h5 := MM.out.at_ (.inl rfl) H5.out
      have k0 : wr.cell? ⟨w9.heap.size, 0, none⟩ = some (.int .i64 3) := blk_cell h5 rfl
      have k1 : wr.cell? ⟨w9.heap.size, 1, none⟩ = some (.int .i64 lba) := blk_cell h5 rfl
      have k2 : wr.cell? ⟨w9.heap.size, 2, none⟩ = some (.int .i64 e) := blk_cell h5 rfl
      have k3 : wr.cell? ⟨w9.heap.size, 3, none⟩ = some (.int .i64 0) := blk_cell h5 rfl
      have k4 : wr.cell? ⟨w9.heap.size, 4, none⟩ = some (.string ⟨#[]⟩) := blk_cell h5 rfl
      have k5 : wr.cell? ⟨w9.heap.size, 5, none⟩ = some (.string ⟨#[]⟩) := blk_cell h5 rfl
      have k6 : wr.cell? ⟨w9.heap.size, 6, none⟩ = some (.slice none 0 0) := blk_cell h5 rfl
      clear h5
      go_upto_region 12 with (first
        | (go_at_call 12; refine (HC4.out _ _ _ _ MM.out).mono ?_; rintro e13 w13 ⟨rfl, hm13⟩; replace MM := Lib.hid hm13; clear hm13 HC4 k0 k1 k2 k3 k4 k5 k6)
        | (refine wpList_store_row rfl 39 _ _ rfl w13.heap.size _ rfl rfl 39 _ (heap_alloc_new w13 _) infoA rfl (one8A rb) ?_))
      generalize hW : World.setRow _ _ _ = W8
      have b8 : Below w13.heap.size w13 W8 := by rw [← hW]; exact kept_new w13 _ _ _
      have h8 : W8.heap[w13.heap.size]? = some (.cells #[.int .i64 rb.er, .string ⟨rb.da.toArray⟩, .int .i64 rb.st.ep, .int .i64 rb.st.ck, .int .i64 rb.st.fr, .int .i64 rb.st.rc, .int .i64 rb.st.pl, .int .i64 rb.st.ho] 39 (0, 0)) := by rw [← hW]; exact has_new w13 _ _ _
      replace MM := Lib.hid (MM.out.step A b8)
      have h6 := MM.out.at_ (.inr rfl) H6.out
      clear hW b8
      have a0 : W8.cell? ⟨w10.heap.size, 0, none⟩ = some (.int .i64 ra.er) := blk_cell h6 rfl
      have a1 : W8.cell? ⟨w10.heap.size, 1, none⟩ = some (.string ⟨ra.da.toArray⟩) := blk_cell h6 rfl
      have a2 : W8.cell? ⟨w10.heap.size, 2, none⟩ = some (.int .i64 ra.st.ep) := blk_cell h6 rfl
      have a3 : W8.cell? ⟨w10.heap.size, 3, none⟩ = some (.int .i64 ra.st.ck) := blk_cell h6 rfl
      have a4 : W8.cell? ⟨w10.heap.size, 4, none⟩ = some (.int .i64 ra.st.fr) := blk_cell h6 rfl
      have a5 : W8.cell? ⟨w10.heap.size, 5, none⟩ = some (.int .i64 ra.st.rc) := blk_cell h6 rfl
      have a6 : W8.cell? ⟨w10.heap.size, 6, none⟩ = some (.int .i64 ra.st.pl) := blk_cell h6 rfl
      have a7 : W8.cell? ⟨w10.heap.size, 7, none⟩ = some (.int .i64 ra.st.ho) := blk_cell h6 rfl
      have b0 : W8.cell? ⟨w13.heap.size, 0, none⟩ = some (.int .i64 rb.er) := blk_cell h8 rfl
      have b1 : W8.cell? ⟨w13.heap.size, 1, none⟩ = some (.string ⟨rb.da.toArray⟩) := blk_cell h8 rfl
      have b2 : W8.cell? ⟨w13.heap.size, 2, none⟩ = some (.int .i64 rb.st.ep) := blk_cell h8 rfl
      have b3 : W8.cell? ⟨w13.heap.size, 3, none⟩ = some (.int .i64 rb.st.ck) := blk_cell h8 rfl
      have b4 : W8.cell? ⟨w13.heap.size, 4, none⟩ = some (.int .i64 rb.st.fr) := blk_cell h8 rfl
      have b5 : W8.cell? ⟨w13.heap.size, 5, none⟩ = some (.int .i64 rb.st.rc) := blk_cell h8 rfl
      have b6 : W8.cell? ⟨w13.heap.size, 6, none⟩ = some (.int .i64 rb.st.pl) := blk_cell h8 rfl
      have b7 : W8.cell? ⟨w13.heap.size, 7, none⟩ = some (.int .i64 rb.st.ho) := blk_cell h8 rfl
      clear h8 h6
      rcases hR with rfl | ⟨hra, hrb⟩
      · have hqn : ∀ W, (binOp .neq 39 (.agg #[.int .i64 ra.er, .string ⟨ra.da.toArray⟩, .int .i64 ra.st.ep, .int .i64 ra.st.ck, .int .i64 ra.st.fr, .int .i64 ra.st.rc, .int .i64 ra.st.pl, .int .i64 ra.st.ho]) (.agg #[.int .i64 ra.er, .string ⟨ra.da.toArray⟩, .int .i64 ra.st.ep, .int .i64 ra.st.ck, .int .i64 ra.st.fr, .int .i64 ra.st.rc, .int .i64 ra.st.pl, .int .i64 ra.st.ho])).run Tryz.prog W = .ok (.bool false) W := fun W => run_neq_ans ra ra true (by simp) W
        go_wp2_with (first
            | (go_at_call 18; refine (HE2.out _ _ _ _ MM.out).mono ?_; rintro e20 w20 ⟨rfl, hm20⟩; replace MM := Lib.hid hm20; clear hm20 HE2)
            | (go_at_call 12; first | (refine (HQ2.out _ _ _ _ MM.out).mono ?_; rintro e21 w21 ⟨rfl, hm21⟩; replace MM := Lib.hid hm21; clear hm21 HQ2) | (refine (HQ3.out _ _ _ _ MM.out).mono ?_; rintro e22 w22 ⟨rfl, hm22⟩; replace MM := Lib.hid hm22; clear hm22 HQ3))
            | (go_at_call 9; refine (HA.out _ (BB.out.trans (MM.out.bel.mono BB.out.size))).mono ?_; rintro e23 w23 ⟨rfl, hb⟩; have B9 := Lib.hid (BB.out.trans ((MM.out.bel.trans (hb.mono MM.out.bel.size)).mono BB.out.size)); clear hb HA))
        go_ret
        exact ⟨rfl, B9.out⟩
      · have hne : ¬ ra = rb := fun hh => by rw [hh] at hra; omega
        have hqn : ∀ W, (binOp .neq 39 (.agg #[.int .i64 ra.er, .string ⟨ra.da.toArray⟩, .int .i64 ra.st.ep, .int .i64 ra.st.ck, .int .i64 ra.st.fr, .int .i64 ra.st.rc, .int .i64 ra.st.pl, .int .i64 ra.st.ho]) (.agg #[.int .i64 rb.er, .string ⟨rb.da.toArray⟩, .int .i64 rb.st.ep, .int .i64 rb.st.ck, .int .i64 rb.st.fr, .int .i64 rb.st.rc, .int .i64 rb.st.pl, .int .i64 rb.st.ho])).run Tryz.prog W = .ok (.bool true) W := fun W => run_neq_ans ra rb false (by simp [hne]) W
        have t1 : (ra.er != 0) = false := by simp [hra]
        have t2 : (rb.er != 13) = false := by simp [hrb]
        clear hra hrb hne
        go_wp2_with (first
            | (go_at_call 18; refine (HE2.out _ _ _ _ MM.out).mono ?_; rintro e20 w20 ⟨rfl, hm20⟩; replace MM := Lib.hid hm20; clear hm20 HE2)
            | (go_at_call 12; first | (refine (HQ2.out _ _ _ _ MM.out).mono ?_; rintro e21 w21 ⟨rfl, hm21⟩; replace MM := Lib.hid hm21; clear hm21 HQ2) | (refine (HQ3.out _ _ _ _ MM.out).mono ?_; rintro e22 w22 ⟨rfl, hm22⟩; replace MM := Lib.hid hm22; clear hm22 HQ3))
            | (go_at_call 9; refine (HA.out _ (BB.out.trans (MM.out.bel.mono BB.out.size))).mono ?_; rintro e23 w23 ⟨rfl, hb⟩; have B9 := Lib.hid (BB.out.trans ((MM.out.bel.trans (hb.mono MM.out.bel.size)).mono BB.out.size)); clear hb HA))
        go_ret
        exact ⟨rfl, B9.out⟩
end Go.Proofs.YtopnodkdpehdoaaGreatDoor.MdS
