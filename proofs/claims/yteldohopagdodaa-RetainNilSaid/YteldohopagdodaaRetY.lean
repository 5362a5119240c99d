/- Replay: the walk of its text, at any row of records. The condition: that the epochs that the records mean are numbers of their type. -/
import Derived.Test.YteldohopagdodaaRetW
namespace Go.Proofs.Yteldohopagdodaa.RetY
set_option linter.unusedVariables false
open Go.RowKit Go.Maps
open RecN RecC RetN RetC RetH RetP RetB RetR RetW
/-- What stands while a statement runs: what was stays, a book of the call's own. -/
structure Run (w : World) (A : Pl) (s : St) (W : World) : Prop where
  bel : Below w.heap.size w W
  b : Book A s W
  own : A.from_ w.heap.size
theorem Run.step {w W W' : World} {A : Pl} {s : St} (h : Run w A s W) (hb : Below W.heap.size W W') : Run w A s W' := ⟨h.bel.trans (hb.mono h.bel.size), h.b.step hb, h.own⟩
theorem Run.turn {w W W' : World} {A : Pl} {s s' : St} (h : Run w A s W) (hb : Book A s' W') (ht : Tu A W W') : Run w A s' W' := ⟨h.bel.trans (ht.below h.own h.bel.size), hb, h.own⟩
theorem Run.drew {w W : World} {A : Pl} {s : St} (h : Run w A s W) : Run w A s W.drew := h.step ((Below.refl _ _).drew)
theorem run_made {w W : World} {A : Pl} {s : St} (h : Made w s A W) : Run w A s W := ⟨h.2.2, h.2.1, h.1⟩
/-- Records, taken one by one. -/
def st (s : St) (l : List Rec) : St := l.foldl take s
theorem st_next (s : St) (l : List Rec) {k : Nat} (hk : k < l.length) : st s (l.take (k + 1)) = take (st s (l.take k)) l[k] := by
  unfold st
  rw [List.take_succ_eq_append_getElem hk, List.foldl_append]
  rfl
/-- The first j are taken. -/
def Good (s : St) (l : List Rec) (j : Nat) : Prop := ∀ i (hi : i < l.length), i < j → may (st s (l.take i)) l[i] = 0
theorem Good.zero (s : St) (l : List Rec) : Good s l 0 := fun i hi h => absurd h (Nat.not_lt_zero _)
theorem Good.next {s : St} {l : List Rec} {k : Nat} (h : Good s l k) (hk : k < l.length) (hm : may (st s (l.take k)) l[k] = 0) : Good s l (k + 1) := fun i hi hj => by
  rcases Nat.lt_or_ge i k with h1 | h1
  · exact h i hi h1
  · obtain rfl : i = k := by omega
    exact hm
/-- The answer: how many were taken, and why the next one was not. -/
def Ans (s : St) (l : List Rec) (j : Nat) (x : Int) : Prop := Good s l j ∧ ((j = l.length ∧ x = 0) ∨ ∃ hj : j < l.length, x = may (st s (l.take j)) l[j] ∧ x ≠ 0)
set_option maxRecDepth 100000 in
theorem Replay_no (f : Int) (a : Option Addr) (n c : Nat) (w : World) (h : f < 0 ∨ 4294967295 < f) : Calls Try.prog 18 #[.int .i64 f, .slice a n c] w fun e w' => e = .returned (.tuple #[.pointer none, .int .i64 0, .int .i64 2]) ∧ w = w' := by
  have HN := Lib.hid (New_no f w h)
  clear h
  go_enter Try.func18, Try.ntmps18
  go_wp2_with (go_at_call 5; refine HN.out.mono ?_; rintro e _ ⟨rfl, rfl⟩)
  go_ret3
  exact ⟨rfl, rfl⟩
set_option maxRecDepth 100000 in
set_option maxHeartbeats 4000000 in
theorem Replay_yes (f : Int) (a : Option Addr) (n c : Nat) (l : List Rec) (w : World) (h0 : 0 ≤ f) (h1 : f ≤ 4294967295) (hL : Lies w a (rr l)) (hl : l.length = n) (hn : n ≤ maxLen) (hw : ∀ x ∈ l, Wf x.tg) :
    Calls Try.prog 18 #[.int .i64 f, .slice a n c] w fun e w' => ∃ A j x, e = .returned (.tuple #[.pointer (some ⟨A.b, 0, none⟩), .int .i64 (j : Nat), .int .i64 x]) ∧ Made w (st (new f) (l.take j)) A w' ∧ Ans (new f) l j x := by
  have HN := Lib.hid (New_yes f w h0 h1)
  have HL := Lib.hid hL
  have HW := Lib.hid hw
  unfold maxLen at hn
  generalize new f = s0 at *
  clear h0 h1 hL hw
  go_enter Try.func18, Try.ntmps18
  go_upto_region 4 with (go_at_call 5; refine HN.out.mono ?_; rintro e w1 ⟨A, rfl, hm⟩; have R := Lib.hid (run_made hm); clear hm HN)
  go_wp2_with fail
  go_loopw [22] (fun iv wr => ∃ k : Nat, k ≤ n ∧ iv = .int .i64 k ∧ Good s0 l k ∧ Run w A (st s0 (l.take k)) wr) (fun iv _ => n - (intOf iv).toNat)
  case atStart => exact ⟨0, Nat.zero_le _, rfl, Good.zero _ _, R.out⟩
  case round =>
    obtain ⟨k, hk, rfl, hg, hr⟩ := hrel
    replace R := Lib.hid hr
    have HG := Lib.hid hg
    clear hr hg
    by_cases hlt : k < n
    · obtain ⟨g, o, rfl, hg, hc⟩ := HL.out.at8 (by omega)
      have hkl : k < l.length := by omega
      have hk8 := (hc k hkl).step hg R.out.bel
      have HS := Lib.hid (st_next s0 l hkl)
      have hwf : Wf l[k].tg := HW.out _ (List.getElem_mem hkl)
      have HGN := Lib.hid (HG.out.next hkl)
      have HAN : Hid (∀ x, x = may (st s0 (l.take k)) l[k] → x ≠ 0 → Ans s0 l k x) := Lib.hid (fun x e1 e2 => ⟨HG.out, .inr ⟨hkl, e1, e2⟩⟩)
      generalize l[k] = r at *
      obtain ⟨q0, q1, q2, q3, q4, q5, q6, q7⟩ := hk8
      have p0 : (0 : Int) ≤ (k : Int) := by omega
      have p1 : (k : Int) < (n : Int) := by omega
      clear hc
      go_upto_region 7 with (refine wpList_store_row rfl 30 _ _ rfl wr.heap.size _ rfl rfl 30 _ (heap_alloc_new wr _) infoR rfl (one8 r) ?_)
      generalize hW : World.setRow _ _ _ = W4
      have b4 : Below wr.heap.size wr W4 := by rw [← hW]; exact kept_new wr _ _ _
      have g4 : Bk W4 wr.heap.size r := by rw [← hW]; exact has_new wr _ _ _
      clear hW q0 q1 q2 q3 q4 q5 q6 q7
      replace R := Lib.hid (R.out.step b4)
      obtain ⟨k0, k1, k2, k3, k4, k5, k6, k7⟩ := g4.cells
      clear b4 g4
      have HA := Lib.hid (Apply R.out.b r hwf)
      generalize hs : st s0 (l.take k) = s at *
      by_cases hm : may s r = 0
      · rw [hm] at HA
        have HG2 := Lib.hid (HGN.out hm)
        have he : apply s r = take s r := by unfold apply; rw [if_pos hm]
        rw [he, ← HS.out] at HA
        clear hm he HS hs HGN HAN HG
        go_wp2_with (go_at_call 11; refine HA.out.mono ?_; rintro e w5 ⟨rfl, hb, ht⟩; replace R := Lib.hid (R.out.turn hb ht); clear hb ht HA)
        go_roundw
        case rel => exact ⟨k + 1, by omega, by go_num, HG2.out, R.out⟩
        case measure => simp [intOf]; omega
      · have he : apply s r = s := by unfold apply; rw [if_neg hm]
        rw [he] at HA
        have HA2 := Lib.hid (HAN.out _ rfl hm)
        clear HAN HGN he
        generalize may s r = q at *
        have hq : (q != 0) = true := by simpa using hm
        clear hm HG
        go_wp2_with (go_at_call 11; refine HA.out.mono ?_; rintro e w5 ⟨rfl, hb, ht⟩; replace R := Lib.hid (R.out.turn hb ht); clear hb ht HA)
        go_ret3
        exact ⟨A, k, q, rfl, ⟨R.out.own, by rw [hs]; exact R.out.b, R.out.bel⟩, HA2.out⟩
    · obtain rfl : k = n := by omega
      have HA2 : Hid (Ans s0 l k 0) := Lib.hid ⟨HG.out, .inl ⟨hl.symm, rfl⟩⟩
      have pk : ¬ (k : Int) < (k : Int) := by omega
      clear HG
      go_wp2_with fail
      go_ret3
      exact ⟨A, k, 0, rfl, ⟨R.out.own, R.out.b, R.out.bel⟩, HA2.out⟩
end Go.Proofs.Yteldohopagdodaa.RetY
