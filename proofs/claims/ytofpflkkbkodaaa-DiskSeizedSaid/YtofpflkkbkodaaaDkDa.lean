/- keepsakelaw08.does: a write, a block written over: the walks of its text. No conditions but those that each lemma names. -/
import Derived.Test.YtofpflkkbkodaaaDkD
import Derived.Deep.RegionHeld3
import Derived.Test.YtofpflkkbkodaaaDkRC
namespace Go.Proofs.Ytofpflkkbkodaaa.DkDa
open Go.RowKit
open DkN DkM DkU DkD
set_option maxRecDepth 100000 in
set_option maxHeartbeats 4000000 in
theorem does_1 {w : World} {b rb : Nat} {bv cv rv ru : Value} {D R : Dk} (a : RawAct) (ha : a.kind = 1) (N : Now w b bv cv rb rv ru w cv ru D R) :
    Calls Try.prog 12 #[.pointer (some ⟨b, 0, none⟩), .pointer (some ⟨rb, 0, none⟩), .agg a.cells] w (DoesPost w b bv cv rb rv ru D R (D.wr a.at_ a.txt).2 (R.wr a.at_ a.txt).2) := by
  have HT := Lib.hid (fun W => DkU.text a W)
  have NN := Lib.hid ((N.step ((Below.refl _ _).alloc (Nat.le_refl _) (.cells a.cells 33))).drew)
  have KK : Hid ((w.alloc (.cells a.cells 33)).drew.heap[w.heap.size]? = some (.cells a.cells 33 (0, 0))) := Lib.hid (heap_alloc_new w _)
  clear N
  obtain ⟨kind, at_, n, s, raw, ka, kn, kc⟩ := a
  simp only at ha
  subst ha
  simp only [RawAct.cells] at *
  generalize RawAct.txt ⟨1, at_, n, s, raw, ka, kn, kc⟩ = t at *
  have HL : Hid (Like D R → (((D.wr at_ t).1 : Int) == ((R.wr at_ t).1 : Int)) = true) := Lib.hid fun h => same_code (h.wr at_ t).1
  obtain ⟨a0, a1, a2, a3, a4, a5⟩ := six_of KK.out
  go_enter Try.func12, Try.ntmps12
  go_wp2_with fail
  go_region_held3 (fun w' => w'.cell? ⟨w.heap.size, 0, none⟩ = some (.int .i64 1) ∧ w'.cell? ⟨w.heap.size, 1, none⟩ = some (.int .i64 at_) ∧ w'.cell? ⟨w.heap.size, 2, none⟩ = some (.int .i64 n) ∧ w'.cell? ⟨w.heap.size, 3, none⟩ = some (.string s) ∧ w'.cell? ⟨w.heap.size, 4, none⟩ = some (.bool raw) ∧ w'.cell? ⟨w.heap.size, 5, none⟩ = some (.slice ka kn kc))
    (first | exact hS | exact ⟨a0, a1, a2, a3, a4, a5⟩)
    (first
      | (go_at_call 22; refine (HT.out _).mono ?_; rintro e W3 ⟨rfl, hb3⟩; replace KK := Lib.hid (below_block hb3 KK.out); replace NN := Lib.hid (NN.out.step hb3); have hS := six_of KK.out; clear hb3)
      | (go_at_call 21; refine (DkW.Write NN.out.d _ _).mono ?_; rintro e W4 ⟨rfl, hd⟩; obtain ⟨cv4, n4⟩ := NN.out.onD hd; replace KK := Lib.hid (did_block NN.out.d hd KK.out); replace NN := Lib.hid n4; have hS := six_of KK.out; clear hd n4)
      | (go_at_call 34; refine (DkRW.Write NN.out.r _ _).mono ?_; rintro e W5 ⟨rfl, hd⟩; obtain ⟨ru5, n5⟩ := NN.out.onR hd; replace KK := Lib.hid (did_block NN.out.r hd KK.out); replace NN := Lib.hid n5; have hS := six_of KK.out; clear hd n5))
  clear hS a0 a1 a2 a3 a4 a5
  go_wp2
  go_ret
  exact ⟨_, rfl, HL.out, _, _, NN.out⟩
set_option maxRecDepth 100000 in
set_option maxHeartbeats 4000000 in
theorem does_7 {w : World} {b rb : Nat} {bv cv rv ru : Value} {D R : Dk} (a : RawAct) (ha : a.kind = 7) (N : Now w b bv cv rb rv ru w cv ru D R) :
    Calls Try.prog 12 #[.pointer (some ⟨b, 0, none⟩), .pointer (some ⟨rb, 0, none⟩), .agg a.cells] w (DoesPost w b bv cv rb rv ru D R (D.over a.at_ a.txt).2 (R.over a.at_ a.txt).2) := by
  have HT := Lib.hid (fun W => DkU.text a W)
  have NN := Lib.hid ((N.step ((Below.refl _ _).alloc (Nat.le_refl _) (.cells a.cells 33))).drew)
  have KK : Hid ((w.alloc (.cells a.cells 33)).drew.heap[w.heap.size]? = some (.cells a.cells 33 (0, 0))) := Lib.hid (heap_alloc_new w _)
  clear N
  obtain ⟨kind, at_, n, s, raw, ka, kn, kc⟩ := a
  simp only at ha
  subst ha
  simp only [RawAct.cells] at *
  generalize RawAct.txt ⟨7, at_, n, s, raw, ka, kn, kc⟩ = t at *
  have HL : Hid (Like D R → (((D.over at_ t).1 : Int) == ((R.over at_ t).1 : Int)) = true) := Lib.hid fun h => same_code (h.over at_ t).1
  obtain ⟨a0, a1, a2, a3, a4, a5⟩ := six_of KK.out
  go_enter Try.func12, Try.ntmps12
  go_wp2_with fail
  go_region_held3 (fun w' => w'.cell? ⟨w.heap.size, 0, none⟩ = some (.int .i64 7) ∧ w'.cell? ⟨w.heap.size, 1, none⟩ = some (.int .i64 at_) ∧ w'.cell? ⟨w.heap.size, 2, none⟩ = some (.int .i64 n) ∧ w'.cell? ⟨w.heap.size, 3, none⟩ = some (.string s) ∧ w'.cell? ⟨w.heap.size, 4, none⟩ = some (.bool raw) ∧ w'.cell? ⟨w.heap.size, 5, none⟩ = some (.slice ka kn kc))
    (first | exact hS | exact ⟨a0, a1, a2, a3, a4, a5⟩)
    (first
      | (go_at_call 22; refine (HT.out _).mono ?_; rintro e W3 ⟨rfl, hb3⟩; replace KK := Lib.hid (below_block hb3 KK.out); replace NN := Lib.hid (NN.out.step hb3); have hS := six_of KK.out; clear hb3)
      | (go_at_call 27; refine (DkB.Over NN.out.d _ _).mono ?_; rintro e W4 ⟨rfl, hd⟩; obtain ⟨cv4, n4⟩ := NN.out.onD hd; replace KK := Lib.hid (did_block NN.out.d hd KK.out); replace NN := Lib.hid n4; have hS := six_of KK.out; clear hd n4)
      | (go_at_call 40; refine (DkRW.Over NN.out.r _ _).mono ?_; rintro e W5 ⟨rfl, hd⟩; obtain ⟨ru5, n5⟩ := NN.out.onR hd; replace KK := Lib.hid (did_block NN.out.r hd KK.out); replace NN := Lib.hid n5; have hS := six_of KK.out; clear hd n5))
  clear hS a0 a1 a2 a3 a4 a5
  go_wp2
  go_ret
  exact ⟨_, rfl, HL.out, _, _, NN.out⟩
set_option maxRecDepth 100000 in
set_option maxHeartbeats 4000000 in
theorem does_4 {w : World} {b rb : Nat} {bv cv rv ru : Value} {D R : Dk} (a : RawAct) (ha : a.kind = 4) (hn : a.n ≤ 9223372036854775807) (N : Now w b bv cv rb rv ru w cv ru D R) :
    Calls Try.prog 12 #[.pointer (some ⟨b, 0, none⟩), .pointer (some ⟨rb, 0, none⟩), .agg a.cells] w (DoesPost w b bv cv rb rv ru D R (D.arm_ a.n).2 (R.arm_ a.n).2) := by
  have NN := Lib.hid ((N.step ((Below.refl _ _).alloc (Nat.le_refl _) (.cells a.cells 33))).drew)
  have KK : Hid ((w.alloc (.cells a.cells 33)).drew.heap[w.heap.size]? = some (.cells a.cells 33 (0, 0))) := Lib.hid (heap_alloc_new w _)
  clear N
  obtain ⟨kind, at_, n, s, raw, ka, kn, kc⟩ := a
  simp only at ha
  subst ha
  simp only [RawAct.cells] at *
  have HNn := Lib.hid hn
  have HL : Hid (Like D R → (((D.arm_ n).1 : Int) == ((R.arm_ n).1 : Int)) = true) := Lib.hid fun h => same_code (h.arm n).1
  obtain ⟨a0, a1, a2, a3, a4, a5⟩ := six_of KK.out
  go_enter Try.func12, Try.ntmps12
  go_wp2_with fail
  go_region_held3 (fun w' => w'.cell? ⟨w.heap.size, 0, none⟩ = some (.int .i64 4) ∧ w'.cell? ⟨w.heap.size, 1, none⟩ = some (.int .i64 at_) ∧ w'.cell? ⟨w.heap.size, 2, none⟩ = some (.int .i64 n) ∧ w'.cell? ⟨w.heap.size, 3, none⟩ = some (.string s) ∧ w'.cell? ⟨w.heap.size, 4, none⟩ = some (.bool raw) ∧ w'.cell? ⟨w.heap.size, 5, none⟩ = some (.slice ka kn kc))
    (first | exact hS | exact ⟨a0, a1, a2, a3, a4, a5⟩)
    (first
      | (go_at_call 26; refine (DkB.Arm NN.out.d _ HNn.out).mono ?_; rintro e W4 ⟨rfl, hd⟩; obtain ⟨cv4, n4⟩ := NN.out.onD hd; replace KK := Lib.hid (did_block NN.out.d hd KK.out); replace NN := Lib.hid n4; have hS := six_of KK.out; clear hd n4)
      | (go_at_call 37; refine (DkRA.Arm NN.out.r _ HNn.out).mono ?_; rintro e W5 ⟨rfl, hd⟩; obtain ⟨ru5, n5⟩ := NN.out.onR hd; replace KK := Lib.hid (did_block NN.out.r hd KK.out); replace NN := Lib.hid n5; have hS := six_of KK.out; clear hd n5))
  clear hS a0 a1 a2 a3 a4 a5
  go_wp2
  go_ret
  exact ⟨_, rfl, HL.out, _, _, NN.out⟩
set_option maxRecDepth 100000 in
set_option maxHeartbeats 2000000 in
theorem does_3 {w : World} {b rb : Nat} {bv cv rv ru : Value} {D R : Dk} (a : RawAct) (ha : a.kind = 3) (N : Now w b bv cv rb rv ru w cv ru D R) :
    Calls Try.prog 12 #[.pointer (some ⟨b, 0, none⟩), .pointer (some ⟨rb, 0, none⟩), .agg a.cells] w (DoesPost w b bv cv rb rv ru D R D.flush.2 R.flush.2) := by
  have NN := Lib.hid (N.step ((Below.refl _ _).alloc (Nat.le_refl _) (.cells a.cells 33)))
  clear N
  obtain ⟨kind, at_, n, s, raw, ka, kn, kc⟩ := a
  simp only at ha
  subst ha
  simp only [RawAct.cells] at *
  have HL : Hid (Like D R → ((D.flush.1 : Int) == (R.flush.1 : Int)) = true) := Lib.hid fun h => same_code h.flush.1
  go_enter Try.func12, Try.ntmps12
  go_wp2_with fail
  refine (DkF.Flush NN.out.d).mono ?_
  rintro e W4 ⟨rfl, hd⟩
  obtain ⟨cv4, n4⟩ := NN.out.onD hd
  replace NN := Lib.hid n4
  clear hd n4
  go_wp2_with fail
  refine (DkRS.Flush NN.out.r).mono ?_
  rintro e W5 ⟨rfl, hd⟩
  obtain ⟨ru5, n5⟩ := NN.out.onR hd
  replace NN := Lib.hid n5
  clear hd n5
  go_wp2
  go_ret
  exact ⟨_, rfl, HL.out, _, _, NN.out⟩
set_option maxRecDepth 100000 in
set_option maxHeartbeats 2000000 in
theorem does_6 {w : World} {b rb : Nat} {bv cv rv ru : Value} {D R : Dk} (a : RawAct) (ha : a.kind = 6) (N : Now w b bv cv rb rv ru w cv ru D R) :
    Calls Try.prog 12 #[.pointer (some ⟨b, 0, none⟩), .pointer (some ⟨rb, 0, none⟩), .agg a.cells] w (DoesPost w b bv cv rb rv ru D R D.boot R.boot) := by
  have NN := Lib.hid (N.step ((Below.refl _ _).alloc (Nat.le_refl _) (.cells a.cells 33)))
  clear N
  obtain ⟨kind, at_, n, s, raw, ka, kn, kc⟩ := a
  simp only at ha
  subst ha
  simp only [RawAct.cells] at *
  go_enter Try.func12, Try.ntmps12
  go_wp2_with fail
  refine (DkRA.Boot NN.out.r).mono ?_
  rintro e W5 ⟨rfl, hd⟩
  obtain ⟨ru5, n5⟩ := NN.out.onR hd
  replace NN := Lib.hid n5
  clear hd n5
  go_wp2_with fail
  refine (DkB.Boot NN.out.d).mono ?_
  rintro e W4 ⟨rfl, hd⟩
  obtain ⟨cv4, n4⟩ := NN.out.onD hd
  replace NN := Lib.hid n4
  clear hd n4
  go_wp2
  go_ret
  exact ⟨_, rfl, fun _ => rfl, _, _, NN.out⟩
set_option maxRecDepth 100000 in
set_option maxHeartbeats 2000000 in
theorem does_5 {w : World} {b rb : Nat} {bv cv rv ru : Value} {D R : Dk} (a : RawAct) (ha : a.kind = 5) (N : Now w b bv cv rb rv ru w cv ru D R) (B : Nat) (hB : B ≤ w.heap.size) (hFd : ∀ k, Foot b bv cv k → B ≤ k) (hFr : ∀ k, Foot rb rv ru k → B ≤ k) (keep : List Int) (hr : Row w B a.ka a.kn keep) (hi : ∀ x ∈ keep, IsInt x) (hn : a.kn ≤ maxLen) :
    Calls Try.prog 12 #[.pointer (some ⟨b, 0, none⟩), .pointer (some ⟨rb, 0, none⟩), .agg a.cells] w (DoesPost w b bv cv rb rv ru D R (D.crash keep) (R.crashR keep)) := by
  have hbA : Below w.heap.size w (w.alloc (.cells a.cells 33)) := (Below.refl _ _).alloc (Nat.le_refl _) _
  have NN := Lib.hid (N.step hbA)
  have KK : Hid ((w.alloc (.cells a.cells 33)).heap[w.heap.size]? = some (.cells a.cells 33 (0, 0))) := Lib.hid (heap_alloc_new w _)
  have HFr := Lib.hid hFr
  have HB1 : Hid (B ≤ (w.alloc (.cells a.cells 33)).heap.size) := Lib.hid (Nat.le_trans hB hbA.size)
  have HR1 : Hid (Row (w.alloc (.cells a.cells 33)) B a.ka a.kn keep) := Lib.hid (hr.keep (hbA.mono hB).block)
  have HRow : Hid (∀ (W : World) (c r : Value) (D' R' : Dk), Now w b bv cv rb rv ru W c r D' R' → Row W W.heap.size a.ka a.kn keep) := Lib.hid fun W c r D' R' n => by
    have hbl : Below B w W := n.kept.below (fun k hk => hk.elim (hFd k) (hFr k)) hB
    exact (hr.keep hbl.block).more (Nat.le_trans hB hbl.size)
  have HI := Lib.hid hi
  have HN := Lib.hid hn
  clear N hFd hFr hB hr hi hn hbA
  obtain ⟨kind, at_, n, s, raw, ka, kn, kc⟩ := a
  simp only at ha
  subst ha
  simp only [RawAct.cells] at *
  obtain ⟨a0, a1, a2, a3, a4, a5⟩ := six_of KK.out
  go_enter Try.func12, Try.ntmps12
  go_wp2_with fail
  refine (DkRC.Crash NN.out.r B HB1.out HFr.out _ _ _ keep HR1.out HN.out).mono ?_
  rintro e W5 ⟨rfl, hd⟩
  obtain ⟨ru5, n5⟩ := NN.out.onR hd
  replace KK := Lib.hid (did_block NN.out.r hd KK.out)
  replace NN := Lib.hid n5
  clear hd n5 a0 a1 a2 a3 a4 a5 HR1 HB1
  obtain ⟨a0, a1, a2, a3, a4, a5⟩ := six_of KK.out
  go_wp2_with fail
  refine (DkF.Crash NN.out.d _ _ _ keep (HRow.out _ _ _ _ _ NN.out) HI.out HN.out).mono ?_
  rintro e W4 ⟨rfl, hd⟩
  obtain ⟨cv4, n4⟩ := NN.out.onD hd
  replace NN := Lib.hid n4
  clear hd n4 a0 a1 a2 a3 a4 a5
  go_wp2
  go_ret
  exact ⟨_, rfl, fun _ => rfl, _, _, NN.out⟩
set_option maxRecDepth 100000 in
set_option maxHeartbeats 2000000 in
theorem does_2 {w : World} {b rb : Nat} {bv cv rv ru : Value} {D R : Dk} (a : RawAct) (ha : a.kind = 2) (N : Now w b bv cv rb rv ru w cv ru D R) :
    Calls Try.prog 12 #[.pointer (some ⟨b, 0, none⟩), .pointer (some ⟨rb, 0, none⟩), .agg a.cells] w (DoesPost w b bv cv rb rv ru D R D R) := by
  have NN := Lib.hid (N.step ((Below.refl _ _).alloc (Nat.le_refl _) (.cells a.cells 33)))
  have KK : Hid ((w.alloc (.cells a.cells 33)).heap[w.heap.size]? = some (.cells a.cells 33 (0, 0))) := Lib.hid (heap_alloc_new w _)
  clear N
  obtain ⟨kind, at_, n, s, raw, ka, kn, kc⟩ := a
  simp only at ha
  subst ha
  simp only [RawAct.cells] at *
  have hl : Like D R → (D.rd at_).1 = (R.rd at_).1 ∧ (((D.rd at_).2 : Int) == ((R.rd at_).2 : Int)) = true := fun h => by rw [h.rd at_]; exact ⟨rfl, by simp⟩
  have HL := Lib.hid hl
  clear hl
  obtain ⟨a0, a1, a2, a3, a4, a5⟩ := six_of KK.out
  by_cases hst : (D.rd at_).1 = (R.rd at_).1
  all_goals
    first
      | have he : ((D.rd at_).1.toList == (R.rd at_).1.toList) = true := by rw [DkE.str_beq]; exact decide_eq_true hst
      | have he : ((D.rd at_).1.toList == (R.rd at_).1.toList) = false := by rw [DkE.str_beq]; exact decide_eq_false hst
    have HSt := Lib.hid hst
    clear hst
    go_enter Try.func12, Try.ntmps12
    go_wp2_with fail
    refine (DkI.Read NN.out.d _).mono ?_
    rintro e W3 ⟨rfl, hb3⟩
    replace KK := Lib.hid (below_block hb3 KK.out)
    replace NN := Lib.hid (NN.out.step hb3)
    clear hb3 a0 a1 a2 a3 a4 a5
    obtain ⟨a0, a1, a2, a3, a4, a5⟩ := six_of KK.out
    go_wp2_with fail
    refine (DkRS.Read NN.out.r _).mono ?_
    rintro e _ ⟨rfl, rfl⟩
    go_wp2
    go_ret
    first
      | exact ⟨_, rfl, fun h => (HL.out h).2, _, _, NN.out⟩
      | exact ⟨_, rfl, fun h => absurd (HL.out h).1 HSt.out, _, _, NN.out⟩
end Go.Proofs.Ytofpflkkbkodaaa.DkDa
