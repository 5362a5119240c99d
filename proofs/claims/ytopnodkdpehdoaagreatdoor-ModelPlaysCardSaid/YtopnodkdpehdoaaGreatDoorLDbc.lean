/- DbC DbD DbE DbF: one behind the other. -/
import Derived.Test.YtopnodkdpehdoaaGreatDoorLRn
import Derived.Test.YtopnodkdpehdoaaGreatDoorRetR
import Derived.BigQuiet
import Derived.OwnWalk
import Derived.Maps.AppendAt
import Derived.Laws.AppendOwn
import Derived.Sort.EncStr
import Derived.Maps.RangeWalk
/- The document's book in memory, and what it tells: the walks of the texts that only go through the records. The conditions: at most 100,000 records, a first epoch within what may be. -/
namespace Go.Proofs.YtopnodkdpehdoaaGreatDoor.DbC
set_option linter.unusedVariables false
open Go.RowKit
open RecN RecC RetN DbN RetR
/-- A book that lies in block B from cell o on: its first epoch, and its records. -/
structure Db (W : World) (B o : Nat) (f : Int) (a : Option Addr) (n c : Nat) (l : List Rec) : Prop where
  head : ∃ cs t, W.heap[B]? = some (.cells cs t (0, 0)) ∧ cs[o]? = some (.int .i64 f) ∧ cs[o + 1]? = some (.slice a n c)
  len : l.length = n
  few : n ≤ 100000
  rows : Lies W a (rr l)
theorem Db.lt {W : World} {B o : Nat} {f : Int} {a : Option Addr} {n c : Nat} {l : List Rec} (h : Db W B o f a n c l) : B < W.heap.size := by
  obtain ⟨cs, t, h, _⟩ := h.head
  exact (Array.getElem?_eq_some_iff.1 h).1
theorem Db.step {W W' : World} {B o : Nat} {f : Int} {a : Option Addr} {n c : Nat} {l : List Rec} (h : Db W B o f a n c l) (hb : Below W.heap.size W W') : Db W' B o f a n c l := by
  have hl := h.lt
  obtain ⟨⟨cs, t, h, k⟩, h1, h2, h3⟩ := h
  exact ⟨⟨cs, t, (hb.block _ hl).trans h, k⟩, h1, h2, h3.step hb⟩
theorem Db.cells {W : World} {B o : Nat} {f : Int} {a : Option Addr} {n c : Nat} {l : List Rec} (h : Db W B o f a n c l) : W.cell? ⟨B, o, none⟩ = some (.int .i64 f) ∧ W.cell? ⟨B, o + 1, none⟩ = some (.slice a n c) := by
  obtain ⟨cs, t, h, h0, h1⟩ := h.head
  exact ⟨blk_cell h h0, blk_cell h h1⟩
theorem Db.drew {W : World} {B o : Nat} {f : Int} {a : Option Addr} {n c : Nat} {l : List Rec} (h : Db W B o f a n c l) : Db W.drew B o f a n c l := h.step ((Below.refl _ _).drew)
theorem take_next {α : Type} (l : List α) {k : Nat} (h : k < l.length) : l.take (k + 1) = l.take k ++ [l[k]] := List.take_succ_eq_append_getElem h
theorem dEp_le (f : Int) (l : List Rec) : f ≤ dEp f l ∧ dEp f l ≤ f + l.length := by
  induction l using rev_ind with
  | h0 => simp [dEp]
  | h1 p x ih =>
    rw [dEp_snoc, List.length_append]
    simp only [List.length_cons, List.length_nil]
    split <;> omega
theorem str_beq (s t : ByteArray) : (s.toList == t.toList) = decide (s = t) := by
  rw [Bool.eq_iff_iff, beq_iff_eq, decide_eq_true_eq, ByteArray.toList_eq, ByteArray.toList_eq]
  refine ⟨fun h => ?_, fun h => by rw [h]⟩
  obtain ⟨x⟩ := s
  obtain ⟨y⟩ := t
  have : x = y := Array.toList_inj.1 h
  rw [this]
set_option maxRecDepth 100000 in
set_option maxHeartbeats 2000000 in
theorem Epoch {B o : Nat} {f : Int} {a : Option Addr} {n c : Nat} {l : List Rec} {w : World} (h : Db w B o f a n c l) (h0 : 0 ≤ f) (h1 : f ≤ 4294967295) : Calls Tryz.prog 30 #[.pointer (some ⟨B, o, none⟩)] w fun x w' => x = .returned (.int .i64 (dEp f l)) ∧ w = w' := by
  obtain ⟨c0, c1⟩ := h.cells
  have HL := Lib.hid h.rows
  have hln := h.len
  have hfew := h.few
  clear h
  go_enter Tryz.func30, Tryz.ntmps30
  go_wp2_with fail
  go_loopw [3, 4] (fun nv iv wr => wr = w ∧ ∃ k : Nat, k ≤ n ∧ iv = .int .i64 k ∧ nv = .int .i64 (dEp f (l.take k))) (fun _ iv _ => n - (intOf iv).toNat)
  case atStart => exact ⟨rfl, 0, Nat.zero_le _, rfl, rfl⟩
  case round =>
    obtain ⟨rfl, k, hk, rfl, rfl⟩ := hrel
    by_cases hlt : k < n
    · have hkl : k < l.length := by omega
      obtain ⟨g, off, rfl, hg, hc⟩ := HL.out.at8 (by omega)
      have hk8 := hc k hkl
      have HS := Lib.hid (take_next l hkl)
      generalize l[k] = r at *
      obtain ⟨q0, q1, q2, q3, q4, q5, q6, q7⟩ := hk8
      have p0 : (0 : Int) ≤ (k : Int) := by omega
      have p1 : (k : Int) < (n : Int) := by omega
      clear hc hg hkl
      have hb := dEp_le f (l.take k)
      have hbl : (l.take k).length ≤ 100000 := by rw [List.length_take]; omega
      have HE := Lib.hid (dEp_snoc f (l.take k) r)
      rw [← HS.out] at HE
      generalize dEp f (l.take k) = m at *
      by_cases hk1 : r.k = 1
      · have t1 : (r.k == 1) = true := by simp [hk1]
        have HE2 := HE.out
        rw [if_pos hk1] at HE2
        have HE3 := Lib.hid HE2
        clear HE2 HE hk1
        go_wp2_with fail
        go_roundw
        case rel => exact ⟨trivial, k + 1, by omega, by go_num, by rw [HE3.out]⟩
        case measure => simp [intOf]; omega
      · have t1 : (r.k == 1) = false := by simp [hk1]
        have HE2 := HE.out
        rw [if_neg hk1] at HE2
        have HE3 := Lib.hid HE2
        clear HE2 HE hk1
        go_wp2_with fail
        go_roundw
        case rel => exact ⟨trivial, k + 1, by omega, by go_num, by rw [HE3.out]⟩
        case measure => simp [intOf]; omega
    · obtain rfl : k = n := by omega
      have pk : ¬ (k : Int) < (k : Int) := by omega
      have HE : Hid (dEp f (l.take k) = dEp f l) := Lib.hid (by rw [← hln, List.take_length])
      go_wp2_with fail
      go_ret
      rw [HE.out]
      exact ⟨rfl, rfl⟩
set_option maxRecDepth 100000 in
set_option maxHeartbeats 2000000 in
theorem Until {B o : Nat} {f : Int} {a : Option Addr} {n c : Nat} {l : List Rec} {w : World} (h : Db w B o f a n c l) (e : Int) : Calls Tryz.prog 56 #[.pointer (some ⟨B, o, none⟩), .int .i64 e] w fun x w' => x = .returned (.int .i64 (dUn l e)) ∧ w = w' := by
  obtain ⟨c0, c1⟩ := h.cells
  have HL := Lib.hid h.rows
  have hln := h.len
  have hfew := h.few
  clear h
  go_enter Tryz.func56, Tryz.ntmps56
  go_wp2_with fail
  go_loopw [5, 6] (fun nv iv wr => wr = w ∧ ∃ k : Nat, k ≤ n ∧ iv = .int .i64 k ∧ nv = .int .i64 (dUn (l.take k) e)) (fun _ iv _ => n - (intOf iv).toNat)
  case atStart => exact ⟨rfl, 0, Nat.zero_le _, rfl, rfl⟩
  case round =>
    obtain ⟨rfl, k, hk, rfl, rfl⟩ := hrel
    by_cases hlt : k < n
    · have hkl : k < l.length := by omega
      obtain ⟨g, off, rfl, hg, hc⟩ := HL.out.at8 (by omega)
      have hk8 := hc k hkl
      have HS := Lib.hid (take_next l hkl)
      generalize l[k] = r at *
      obtain ⟨q0, q1, q2, q3, q4, q5, q6, q7⟩ := hk8
      have p0 : (0 : Int) ≤ (k : Int) := by omega
      have p1 : (k : Int) < (n : Int) := by omega
      clear hc hg hkl
      have HE := Lib.hid (dUn_snoc (l.take k) r e)
      rw [← HS.out] at HE
      generalize dUn (l.take k) e = m at *
      by_cases hk1 : r.k = 2
      · have t1 : (r.k == 2) = true := by simp [hk1]
        by_cases hk2 : r.tg = e
        · have t2 : (r.tg == e) = true := by simp [hk2]
          have HE2 := HE.out
          rw [if_pos (⟨hk1, hk2⟩)] at HE2
          have HE3 := Lib.hid HE2
          clear HE2 HE
          go_wp2_with fail
          go_roundw
          case rel => exact ⟨trivial, k + 1, by omega, by go_num, by rw [HE3.out]⟩
          case measure => simp [intOf]; omega
        · have t2 : (r.tg == e) = false := by simp [hk2]
          have HE2 := HE.out
          rw [if_neg (fun h => hk2 h.2)] at HE2
          have HE3 := Lib.hid HE2
          clear HE2 HE
          go_wp2_with fail
          go_roundw
          case rel => exact ⟨trivial, k + 1, by omega, by go_num, by rw [HE3.out]⟩
          case measure => simp [intOf]; omega
      · have t1 : (r.k == 2) = false := by simp [hk1]
        have HE2 := HE.out
        rw [if_neg (fun h => hk1 h.1)] at HE2
        have HE3 := Lib.hid HE2
        clear HE2 HE
        go_wp2_with fail
        go_roundw
        case rel => exact ⟨trivial, k + 1, by omega, by go_num, by rw [HE3.out]⟩
        case measure => simp [intOf]; omega
    · obtain rfl : k = n := by omega
      have pk : ¬ (k : Int) < (k : Int) := by omega
      have HE : Hid (dUn (l.take k) e = dUn l e) := Lib.hid (by rw [← hln, List.take_length])
      go_wp2_with fail
      go_ret
      rw [HE.out]
      exact ⟨rfl, rfl⟩
set_option maxRecDepth 100000 in
set_option maxHeartbeats 2000000 in
theorem Gone {B o : Nat} {f : Int} {a : Option Addr} {n c : Nat} {l : List Rec} {w : World} (h : Db w B o f a n c l) (e : Int) : Calls Tryz.prog 39 #[.pointer (some ⟨B, o, none⟩), .int .i64 e] w fun x w' => x = .returned (.bool (dGone l e)) ∧ w = w' := by
  obtain ⟨c0, c1⟩ := h.cells
  have HL := Lib.hid h.rows
  have hln := h.len
  have hfew := h.few
  clear h
  go_enter Tryz.func39, Tryz.ntmps39
  go_wp2_with fail
  go_loopw [5] (fun iv wr => wr = w ∧ ∃ k : Nat, k ≤ n ∧ iv = .int .i64 k ∧ dGone (l.take k) e = false) (fun iv _ => n - (intOf iv).toNat)
  case atStart => exact ⟨rfl, 0, Nat.zero_le _, rfl, rfl⟩
  case round =>
    obtain ⟨rfl, k, hk, rfl, hg0⟩ := hrel
    by_cases hlt : k < n
    · have hkl : k < l.length := by omega
      obtain ⟨g, off, rfl, hg, hc⟩ := HL.out.at8 (by omega)
      have hk8 := hc k hkl
      have HS := Lib.hid (take_next l hkl)
      generalize l[k] = r at *
      obtain ⟨q0, q1, q2, q3, q4, q5, q6, q7⟩ := hk8
      have p0 : (0 : Int) ≤ (k : Int) := by omega
      have p1 : (k : Int) < (n : Int) := by omega
      clear hc hg hkl
      have HE := Lib.hid (dGone_snoc (l.take k) r e)
      rw [← HS.out] at HE
      have HG := Lib.hid hg0
      have HM : Hid (r ∈ l) := Lib.hid (List.mem_of_mem_take (i := k + 1) (by rw [HS.out]; simp))
      clear hg0
      by_cases hk1 : r.k = 5
      · have t1 : (r.k == 5) = true := by simp [hk1]
        by_cases hk2 : r.tg = e
        · have t2 : (r.tg == e) = true := by simp [hk2]
          have HA : Hid (dGone l e = true) := Lib.hid (by unfold dGone; rw [List.any_eq_true]; exact ⟨r, HM.out, decide_eq_true ⟨hk1, hk2⟩⟩)
          clear HE HG
          go_wp2_with fail
          go_ret
          rw [HA.out]
          exact ⟨rfl, rfl⟩
        · have t2 : (r.tg == e) = false := by simp [hk2]
          have HE3 : Hid (dGone (l.take (k + 1)) e = false) := Lib.hid (by rw [HE.out, HG.out, decide_eq_false (fun h => hk2 h.2)]; rfl)
          clear HE HG
          go_wp2_with fail
          go_roundw
          case rel => exact ⟨trivial, k + 1, by omega, by go_num, HE3.out⟩
          case measure => simp [intOf]; omega
      · have t1 : (r.k == 5) = false := by simp [hk1]
        have HE3 : Hid (dGone (l.take (k + 1)) e = false) := Lib.hid (by rw [HE.out, HG.out, decide_eq_false (fun h => hk1 h.1)]; rfl)
        clear HE HG
        go_wp2_with fail
        go_roundw
        case rel => exact ⟨trivial, k + 1, by omega, by go_num, HE3.out⟩
        case measure => simp [intOf]; omega
    · obtain rfl : k = n := by omega
      have pk : ¬ (k : Int) < (k : Int) := by omega
      have HE : Hid (dGone l e = false) := Lib.hid (by rw [← hln, List.take_length] at hg0; exact hg0)
      clear hg0
      go_wp2_with fail
      go_ret
      rw [HE.out]
      exact ⟨rfl, rfl⟩
set_option maxRecDepth 100000 in
set_option maxHeartbeats 2000000 in
theorem Hold {B o : Nat} {f : Int} {a : Option Addr} {n c : Nat} {l : List Rec} {w : World} (h : Db w B o f a n c l) (s : L) : Calls Tryz.prog 80 #[.pointer (some ⟨B, o, none⟩), .string ⟨s.toArray⟩] w fun x w' => x = .returned (.int .i64 (dHold l s)) ∧ w = w' := by
  obtain ⟨c0, c1⟩ := h.cells
  have HL := Lib.hid h.rows
  have hln := h.len
  have hfew := h.few
  clear h
  go_enter Tryz.func80, Tryz.ntmps80
  go_wp2_with fail
  go_loopw [5, 6] (fun nv iv wr => wr = w ∧ ∃ k : Nat, k ≤ n ∧ iv = .int .i64 k ∧ nv = .int .i64 (dHold (l.take k) s)) (fun _ iv _ => n - (intOf iv).toNat)
  case atStart => exact ⟨rfl, 0, Nat.zero_le _, rfl, rfl⟩
  case round =>
    obtain ⟨rfl, k, hk, rfl, rfl⟩ := hrel
    by_cases hlt : k < n
    · have hkl : k < l.length := by omega
      obtain ⟨g, off, rfl, hg, hc⟩ := HL.out.at8 (by omega)
      have hk8 := hc k hkl
      have HS := Lib.hid (take_next l hkl)
      generalize l[k] = r at *
      obtain ⟨q0, q1, q2, q3, q4, q5, q6, q7⟩ := hk8
      have p0 : (0 : Int) ≤ (k : Int) := by omega
      have p1 : (k : Int) < (n : Int) := by omega
      clear hc hg hkl
      have HE := Lib.hid (dHold_snoc (l.take k) r s)
      rw [← HS.out] at HE
      have he := str_beq ⟨r.nm.toArray⟩ ⟨s.toArray⟩
      generalize dHold (l.take k) s = m at *
      by_cases hn : r.nm = s
      · have t0 : (r.nm == s) = true := by simp [hn]
        rw [hn, decide_eq_true rfl] at he
        by_cases h3 : r.k = 3
        · have t3 : (r.k == 3) = true := by simp [h3]
          have t4 : (r.k == 4) = false := by simp [h3]
          have HE3 : Hid (dHold (l.take (k + 1)) s = r.tg) := Lib.hid (by rw [HE.out]; unfold hold1; rw [if_neg (fun h => by omega), if_pos ⟨h3, hn⟩])
          clear HE
          go_wp2_with fail
          go_roundw
          case rel => exact ⟨trivial, k + 1, by omega, by go_num, by rw [HE3.out]⟩
          case measure => simp [intOf]; omega
        · have t3 : (r.k == 3) = false := by simp [h3]
          by_cases h4 : r.k = 4
          · have t4 : (r.k == 4) = true := by simp [h4]
            have HE3 : Hid (dHold (l.take (k + 1)) s = -1) := Lib.hid (by rw [HE.out]; unfold hold1; rw [if_pos ⟨h4, hn⟩])
            clear HE
            go_wp2_with fail
            go_roundw
            case rel => exact ⟨trivial, k + 1, by omega, by go_num, by rw [HE3.out]⟩
            case measure => simp [intOf]; omega
          · have t4 : (r.k == 4) = false := by simp [h4]
            have HE3 : Hid (dHold (l.take (k + 1)) s = m) := Lib.hid (by rw [HE.out]; unfold hold1; rw [if_neg (fun h => h4 h.1), if_neg (fun h => h3 h.1)])
            clear HE
            go_wp2_with fail
            go_roundw
            case rel => exact ⟨trivial, k + 1, by omega, by go_num, by rw [HE3.out]⟩
            case measure => simp [intOf]; omega
      · have t0 : (r.nm == s) = false := by simp [hn]
        rw [decide_eq_false (fun e => hn (by injection e with e; injection e with e))] at he
        by_cases h3 : r.k = 3
        · have t3 : (r.k == 3) = true := by simp [h3]
          have t4 : (r.k == 4) = false := by simp [h3]
          have HE3 : Hid (dHold (l.take (k + 1)) s = m) := Lib.hid (by rw [HE.out]; unfold hold1; rw [if_neg (fun h => hn h.2), if_neg (fun h => hn h.2)])
          clear HE
          go_wp2_with fail
          go_roundw
          case rel => exact ⟨trivial, k + 1, by omega, by go_num, by rw [HE3.out]⟩
          case measure => simp [intOf]; omega
        · have t3 : (r.k == 3) = false := by simp [h3]
          by_cases h4 : r.k = 4
          · have t4 : (r.k == 4) = true := by simp [h4]
            have HE3 : Hid (dHold (l.take (k + 1)) s = m) := Lib.hid (by rw [HE.out]; unfold hold1; rw [if_neg (fun h => hn h.2), if_neg (fun h => hn h.2)])
            clear HE
            go_wp2_with fail
            go_roundw
            case rel => exact ⟨trivial, k + 1, by omega, by go_num, by rw [HE3.out]⟩
            case measure => simp [intOf]; omega
          · have t4 : (r.k == 4) = false := by simp [h4]
            have HE3 : Hid (dHold (l.take (k + 1)) s = m) := Lib.hid (by rw [HE.out]; unfold hold1; rw [if_neg (fun h => hn h.2), if_neg (fun h => hn h.2)])
            clear HE
            go_wp2_with fail
            go_roundw
            case rel => exact ⟨trivial, k + 1, by omega, by go_num, by rw [HE3.out]⟩
            case measure => simp [intOf]; omega
    · obtain rfl : k = n := by omega
      have pk : ¬ (k : Int) < (k : Int) := by omega
      have HE : Hid (dHold (l.take k) s = dHold l s) := Lib.hid (by rw [← hln, List.take_length])
      go_wp2_with fail
      go_ret
      rw [HE.out]
      exact ⟨rfl, rfl⟩
theorem dNow_last (l : List Rec) (h : 0 < l.length) : dNow l = (l[l.length - 1]'(by omega)).tm := by
  unfold dNow
  rw [List.getLastD_eq_getLast?, List.getLast?_map, List.getLast?_eq_getElem?, List.getElem?_eq_getElem (by omega)]
  rfl
set_option maxRecDepth 100000 in
set_option maxHeartbeats 2000000 in
theorem Now {B o : Nat} {f : Int} {a : Option Addr} {n c : Nat} {l : List Rec} {w : World} (h : Db w B o f a n c l) : Calls Tryz.prog 79 #[.pointer (some ⟨B, o, none⟩)] w fun x w' => x = .returned (.int .i64 (dNow l)) ∧ Below w.heap.size w w' := by
  obtain ⟨c0, c1⟩ := h.cells
  have HL := Lib.hid h.rows
  have hln := h.len
  have hfew := h.few
  clear h
  by_cases h0 : n = 0
  · obtain rfl : l = [] := List.eq_nil_of_length_eq_zero (by omega)
    subst h0
    go_enter Tryz.func79, Tryz.ntmps79
    go_wp2_with fail
    go_ret
    exact ⟨rfl, Below.refl _ _⟩
  · obtain ⟨k, rfl⟩ : ∃ k, n = k + 1 := ⟨n - 1, by omega⟩
    obtain ⟨g, off, rfl, hg, hc⟩ := HL.out.at8 (by omega)
    have hk8 := hc k (by omega)
    have hd : dNow l = (l[k]'(by omega)).tm := by
      have := dNow_last l (by omega)
      simpa [show l.length - 1 = k by omega] using this
    rw [hd]
    clear hd h0
    generalize l[k] = r at *
    obtain ⟨q0, q1, q2, q3, q4, q5, q6, q7⟩ := hk8
    clear hc hg
    have p0 : (0 : Int) ≤ (k : Int) := by omega
    have p1 : (k : Int) < ((k + 1 : Nat) : Int) := by omega
    have p2 : ((k + 1 : Nat) : Int) - 1 = (k : Int) := by omega
    have p3 : (((k + 1 : Nat) : Int) == 0) = false := by simp; omega
    go_enter Tryz.func79, Tryz.ntmps79
    go_wp2_with fail
    go_quiet (fail)
    go_wp2
    go_ret
    exact ⟨rfl, below_drewN _ _⟩
end Go.Proofs.YtopnodkdpehdoaaGreatDoor.DbC
/- The document's book: the names that hold something, and those that hold an epoch: the walks of their texts. The conditions: at most 100,000 records, each of whose names is a Go program's. -/
namespace Go.Proofs.YtopnodkdpehdoaaGreatDoor.DbD
set_option linter.unusedVariables false
open Go.RowKit
open RecN RecC RetN DbN RetR DbC
theorem info_str : (Tryz.prog.info? 9).map (fun i => (i.zero, i.size, i.bytes)) = some (some (.string ⟨#[]⟩), 1, 16) := by kernel_rfl
/-- A row of texts as cells. -/
def sl (l : List L) : List Value := l.map encStr
theorem sl_len (l : List L) : (sl l).length = l.length := by simp [sl]
theorem sl_snoc (l : List L) (s : L) : sl (l ++ [s]) = sl l ++ [encStr s] := by simp [sl]
theorem sl_at {l : List L} {k : Nat} (h : k < l.length) : (sl l)[k]? = some (encStr l[k]) := by simp [sl, h]
theorem sl_cell {W : World} {a : Option Addr} {l : List L} (h : Lies W a (sl l)) (h0 : 0 < l.length) : ∃ g o, a = some ⟨g, o, none⟩ ∧ g < W.heap.size ∧ ∀ k (hk : k < l.length), W.cell? ⟨g, o + k, none⟩ = some (.string ⟨l[k].toArray⟩) := by
  obtain ⟨g, o, e, hg, hc⟩ := h (by rw [sl_len]; exact h0)
  exact ⟨g, o, e, hg, fun k hk => hc k _ (sl_at hk)⟩
theorem own_slice {w : World} {base : Nat} {e : TypeId} {size : Nat} {v : Value} {n : Nat} {xs : List Value} (h : w.ownsRow base e size v n xs) : ∃ a c, v = .slice a n c := by
  rcases h.2 with ⟨rfl, h0⟩ | ⟨g, cap, cur, rfl, _⟩
  · subst h0; exact ⟨_, _, rfl⟩
  · exact ⟨_, _, rfl⟩
/-- A text appended to a row of the call's own. -/
theorem append_str {ops : Array Oper} {rest : List Oper} {o : Oper} {a : Act} {Q : Exit → Act → World → Prop} (W : World) (hgd : o.guard = none) (s x : Operand)
    (ho : o.op = .call { callee := .builtin .append, args := #[s, x], argTypes := #[115, 115] }) (base c n : Nat) (p : Option Addr) (l : List L) (t : L) (hln : l.length = n) (hs : a.eval s = .slice p n c) (hn : n ≤ 1000000) (hb : base ≤ W.heap.size)
    (hx : a.eval x = .slice (some ⟨W.heap.size, 0, none⟩) 1 1) (hown : W.ownsRow base 9 1 (.slice p n c) n (sl l))
    (h : ∀ p' c' w', w'.ownsRow base 9 1 (.slice p' (n + 1) c') (n + 1) (sl (l ++ [t])) → Below base W w' → (∀ k, (Value.slice p n c).ownBlock ≠ some k → k < W.heap.size → w'.heap[k]? = W.heap[k]?) → wpList Tryz.prog ops Q rest (a.put o.dst (.slice p' (n + 1) c')) w') :
    wpList Tryz.prog ops Q (o :: rest) a (W.alloc (.cells #[.string ⟨t.toArray⟩] 9)) := by
  obtain ⟨i0, hi, hz0, hz1, hz2⟩ := info_parts info_str
  have hz : (W.alloc (.cells #[.string ⟨t.toArray⟩] 9)).heap.size = W.heap.size + 1 := by simp
  refine wpList_append_own _ hgd s x 115 ho base 9 i0 (.string ⟨#[]⟩) 1 16 Tryz.underlying115 hi hz0 hz1 hz2 rfl (by decide) _ _ _ hs (hown.alloc _) ⟨W.heap.size, 0, none⟩ 1 1 [encStr t] hx rfl (cell_one_new _ _ _) (by simp [Value.oneCell', encStr]) (by unfold maxLen; omega) (by omega) (by omega) ?_
  intro v' w1 h1 hgrow _
  obtain ⟨p', c', rfl⟩ := own_slice h1
  refine h p' c' w1 (by rw [sl_snoc]; exact h1) ?_ (fun k hk hlt => (hgrow.block k (by omega) (fun e => hk e.symm)).trans (heap_alloc_old W _ hlt))
  exact Below.grown (((Below.refl _ W).mono hb).alloc hb _) hgrow (by omega) (fun k hk => (hown.lt k hk).1)
set_option maxRecDepth 100000 in
set_option maxHeartbeats 2000000 in
/-- Is a text in a row? -/
theorem in_ (a : Option Addr) (n c : Nat) (l : List L) (s : L) (w : World) (h : Lies w a (sl l)) (hln : l.length = n) (hn : n ≤ 1000000) : Calls Tryz.prog 82 #[.slice a n c, .string ⟨s.toArray⟩] w fun x w' => x = .returned (.bool (decide (s ∈ l))) ∧ w = w' := by
  have HL := Lib.hid h
  clear h
  go_enter Tryz.func82, Tryz.ntmps82
  go_wp2_with fail
  go_loopw [5] (fun iv wr => wr = w ∧ ∃ k : Nat, k ≤ n ∧ iv = .int .i64 k ∧ s ∉ l.take k) (fun iv _ => n - (intOf iv).toNat)
  case atStart => exact ⟨rfl, 0, Nat.zero_le _, rfl, by simp⟩
  case round =>
    obtain ⟨rfl, k, hk, rfl, hns⟩ := hrel
    by_cases hlt : k < n
    · have hkl : k < l.length := by omega
      obtain ⟨g, off, rfl, hg, hc⟩ := sl_cell HL.out (by omega)
      have q0 := hc k hkl
      have HS := Lib.hid (take_next l hkl)
      have HM : Hid (l[k] ∈ l) := Lib.hid (List.getElem_mem hkl)
      generalize l[k] = t at *
      have he := str_beq ⟨t.toArray⟩ ⟨s.toArray⟩
      have p0 : (0 : Int) ≤ (k : Int) := by omega
      have p1 : (k : Int) < (n : Int) := by omega
      clear hc hg hkl
      by_cases ht : t = s
      · rw [ht, decide_eq_true rfl] at he
        have t0 : (t == s) = true := by simp [ht]
        have HA : Hid (decide (s ∈ l) = true) := Lib.hid (decide_eq_true (by rw [← ht]; exact HM.out))
        clear hns HM
        subst ht
        go_wp2_with fail
        go_ret
        rw [HA.out]
        exact ⟨rfl, rfl⟩
      · rw [decide_eq_false (fun e => ht (by injection e with e; injection e with e))] at he
        have t0 : (t == s) = false := by simp [ht]
        have HA : Hid (s ∉ l.take (k + 1)) := Lib.hid (by rw [HS.out, List.mem_append]; exact fun e => e.elim hns (fun e => ht (by rw [List.mem_singleton] at e; exact e.symm)))
        clear hns HM ht
        go_wp2_with fail
        go_roundw
        case rel => exact ⟨trivial, k + 1, by omega, by go_num, HA.out⟩
        case measure => simp [intOf]; omega
    · obtain rfl : k = n := by omega
      have pk : ¬ (k : Int) < (k : Int) := by omega
      have HA : Hid (decide (s ∈ l) = false) := Lib.hid (decide_eq_false (by rw [← hln, List.take_length] at hns; exact hns))
      clear hns
      go_wp2_with fail
      go_ret
      rw [HA.out]
      exact ⟨rfl, rfl⟩
theorem bytes_less : ∀ (x y : L), Op.bytesLess x y = decide (x < y)
  | [], [] => by simp [Op.bytesLess]
  | _ :: _, [] => by simp [Op.bytesLess]
  | [], _ :: _ => by simp [Op.bytesLess]
  | a :: x, b :: y => by
    rw [Op.bytesLess, bytes_less x y]
    simp only [List.cons_lt_cons_iff]
    by_cases h1 : a < b <;> by_cases h2 : a = b <;> by_cases h3 : x < y <;> simp [h1, h2, h3]
/-- One text greater than another one. -/
theorem run_gtr (x y : L) (W : World) : (binOp .gtr 9 (.string ⟨x.toArray⟩) (.string ⟨y.toArray⟩)).run Tryz.prog W = .ok (.bool (decide (y < x))) W := by
  have e : (!(Op.bytesLess (⟨x.toArray⟩ : ByteArray).toList (⟨y.toArray⟩ : ByteArray).toList || (⟨x.toArray⟩ : ByteArray).toList == (⟨y.toArray⟩ : ByteArray).toList)) = decide (y < x) := by
    rw [ByteArray.toList_mk, ByteArray.toList_mk, bytes_less]
    by_cases h1 : x < y
    · have h2 : ¬ y < x := fun h => List.lt_irrefl _ (List.lt_trans h1 h)
      simp [h1, h2]
    · by_cases h2 : x = y
      · subst h2
        have h3 : ¬ x < x := List.lt_irrefl x
        simp [h3]
      · have h3 : y < x := lt_of h1 (Ne.symm h2)
        simp [h1, h2, h3]
  simp [binOp, Op.stringOp, ← e]
/-- Does a row have a greater one? -/
def gt (n : L) (l : List L) : Bool := l.any fun m => decide (n < m)
theorem gt_snoc (n : L) (l : List L) (x : L) : gt n (l ++ [x]) = (gt n l || decide (n < x)) := by unfold gt; rw [List.any_append]; simp
theorem ins_none {n : L} {l : List L} (h : gt n l = false) : ins n l = l ++ [n] := by
  induction l with
  | nil => rfl
  | cons m l ih =>
    unfold gt at h
    rw [List.any_cons, Bool.or_eq_false_iff] at h
    unfold ins
    rw [if_neg (of_decide_eq_false h.1), ih h.2]
    rfl
theorem ins_some {n : L} {l : List L} (h : gt n l = true) (x : L) : ins n (l ++ [x]) = ins n l ++ [x] := by
  induction l with
  | nil => simp [gt] at h
  | cons m l ih =>
    rw [List.cons_append]
    unfold ins
    by_cases hm : n < m
    · rw [if_pos hm, if_pos hm]; rfl
    · rw [if_neg hm, if_neg hm]
      unfold gt at h
      rw [List.any_cons, decide_eq_false hm, Bool.false_or] at h
      rw [ih h]
      rfl
theorem ins_here {n x : L} {l : List L} (h : gt n l = false) (hx : n < x) : ins n (l ++ [x]) = l ++ [n, x] := by
  induction l with
  | nil => show ins n [x] = _; unfold ins; rw [if_pos hx]; rfl
  | cons m l ih =>
    unfold gt at h
    rw [List.any_cons, Bool.or_eq_false_iff] at h
    rw [List.cons_append]
    unfold ins
    rw [if_neg (of_decide_eq_false h.1), ih h.2]
    rfl
/-- What the inner loop has laid of the first ones. -/
def lts (n : L) (l : List L) : List L := if gt n l = true then ins n l else l
theorem lts_len (n : L) (l : List L) : (lts n l).length ≤ l.length + 1 := by
  have : ∀ m : List L, (ins n m).length = m.length + 1 := fun m => by
    induction m with
    | nil => rfl
    | cons x m ih =>
      unfold ins
      split
      · simp
      · simp [ih]
  unfold lts
  split
  · rw [this]; exact Nat.le_refl _
  · omega
theorem lts_put {n : L} {l : List L} (h : gt n l = true) (x : L) : lts n (l ++ [x]) = lts n l ++ [x] ∧ gt n (l ++ [x]) = true := by
  have hg : gt n (l ++ [x]) = true := by rw [gt_snoc, h]; rfl
  refine ⟨?_, hg⟩
  unfold lts
  rw [if_pos hg, if_pos h]
  exact ins_some h x
theorem lts_here {n x : L} {l : List L} (h : gt n l = false) (hx : n < x) : lts n (l ++ [x]) = (lts n l ++ [n]) ++ [x] ∧ gt n (l ++ [x]) = true := by
  have hg : gt n (l ++ [x]) = true := by rw [gt_snoc, decide_eq_true hx, Bool.or_true]
  refine ⟨?_, hg⟩
  unfold lts
  rw [if_pos hg, if_neg (by rw [h]; simp), ins_here h hx]
  simp
theorem lts_not {n x : L} {l : List L} (h : gt n l = false) (hx : ¬ n < x) : lts n (l ++ [x]) = lts n l ++ [x] ∧ gt n (l ++ [x]) = false := by
  have hg : gt n (l ++ [x]) = false := by rw [gt_snoc, h, decide_eq_false hx]; rfl
  refine ⟨?_, hg⟩
  unfold lts
  rw [if_neg (by rw [hg]; simp), if_neg (by rw [h]; simp)]
theorem namesTo_le (l p : List Rec) : (namesTo l p).length ≤ p.length := by
  have hi : ∀ (n : L) (m : List L), (ins n m).length = m.length + 1 := fun n m => by
    induction m with
    | nil => rfl
    | cons x m ih =>
      unfold ins
      split
      · simp
      · simp [ih]
  induction p using rev_ind with
  | h0 => simp [namesTo]
  | h1 p x ih =>
    rw [namesTo_snoc, List.length_append]
    unfold names1
    split
    · simp; omega
    · rw [hi]; simp; omega
end Go.Proofs.YtopnodkdpehdoaaGreatDoor.DbD
/- The document's book: Names, Held: the walks of their texts. The conditions: at most 100,000 records. -/
namespace Go.Proofs.YtopnodkdpehdoaaGreatDoor.DbE
set_option linter.unusedVariables false
open Go.RowKit
open RecN RecC RetN DbN RetR DbC DbD
/-- A row of texts of the call's own. -/
def Own (base : Nat) (out : List L) (v : Value) (W : World) : Prop := ∃ p c, v = .slice p out.length c ∧ W.ownsRow base 9 1 (.slice p out.length c) out.length (sl out)
theorem own_mono {W : World} {b b' n : Nat} {t : TypeId} {size : Nat} {v : Value} {xs : List Value} (h : W.ownsRow b t size v n xs) (hb : b' ≤ b) : W.ownsRow b' t size v n xs := by
  refine ⟨h.1, ?_⟩
  rcases h.2 with hn | ⟨g, cap, cur, e, hg, r⟩
  · exact .inl hn
  · exact .inr ⟨g, cap, cur, e, Nat.le_trans hb hg, r⟩
theorem own_step {w w' : World} {base : Nat} {e : TypeId} {size : Nat} {v : Value} {n : Nat} {xs : List Value} (h : w.ownsRow base e size v n xs) (hb : Below w.heap.size w w') : w'.ownsRow base e size v n xs := by
  refine ⟨h.1, ?_⟩
  rcases h.2 with hn | ⟨g, cap, cur, rfl, hg, hh, r⟩
  · exact .inl hn
  · exact .inr ⟨g, cap, cur, rfl, hg, (hb.block g (Array.getElem?_eq_some_iff.1 hh).1).trans hh, r⟩
theorem Own.step {base : Nat} {out : List L} {v : Value} {W W' : World} (h : Own base out v W) (hb : Below W.heap.size W W') : Own base out v W' := by
  obtain ⟨p, c, e, k⟩ := h
  exact ⟨p, c, e, own_step k hb⟩
theorem own_nil (base : Nat) (W : World) : Own base [] (.slice none 0 0) W := ⟨none, 0, rfl, rfl, .inl ⟨rfl, rfl⟩⟩
set_option maxRecDepth 100000 in
set_option maxHeartbeats 4000000 in
theorem Names {B o : Nat} {f : Int} {a : Option Addr} {n c : Nat} {l : List Rec} {w : World} (h : Db w B o f a n c l) : Calls Tryz.prog 57 #[.pointer (some ⟨B, o, none⟩)] w fun x w' => (∃ v, x = .returned v ∧ Own w.heap.size (dNames l) v w') ∧ Below w.heap.size w w' := by
  have HD := Lib.hid h
  have hln := h.len
  have hfew := h.few
  clear h
  go_enter Tryz.func57, Tryz.ntmps57
  go_wp2_with fail
  go_loopw [3, 4] (fun v iv wr => ∃ k : Nat, k ≤ n ∧ iv = .int .i64 k ∧ Own w.heap.size (namesTo l (l.take k)) v wr ∧ Below w.heap.size w wr) (fun _ iv _ => n - (intOf iv).toNat)
  case atStart => exact ⟨0, Nat.zero_le _, rfl, own_nil _ _, Below.refl _ _⟩
  case round =>
    obtain ⟨k, hk, rfl, ⟨po, co, rfl, hown⟩, hb⟩ := hrel
    have B0 := Lib.hid hb
    have HW := Lib.hid (HD.out.step hb)
    clear hb
    obtain ⟨c0, c1⟩ := HW.out.cells
    have hlo := namesTo_le l (l.take k)
    have hlk : (l.take k).length ≤ 100000 := by rw [List.length_take]; omega
    by_cases hlt : k < n
    · have hkl : k < l.length := by omega
      obtain ⟨g, off, rfl, hg, hc⟩ := HW.out.rows.at8 (by omega)
      have hk8 := hc k hkl
      have HS := Lib.hid (namesTo_snoc l (l.take k) l[k])
      rw [← take_next l hkl] at HS
      have HH := Lib.hid (fun W (h : Db W B o f (some ⟨g, off, none⟩) n c l) => Hold h l[k].nm)
      generalize l[k] = r at *
      obtain ⟨q0, q1, q2, q3, q4, q5, q6, q7⟩ := hk8
      have p0 : (0 : Int) ≤ (k : Int) := by omega
      have p1 : (k : Int) < (n : Int) := by omega
      clear hc hg hkl
      generalize namesTo l (l.take k) = out at *
      have hm : out.length ≤ 100000 := by omega
      have OW := Lib.hid hown
      have HI := Lib.hid (in_ po out.length co out r.nm wr (own_lies hown) rfl (by omega))
      clear hown hlo hlk
      have SKIP : names1 l out r = out → Hid (namesTo l (l.take (k + 1)) = out) := fun e => Lib.hid (by rw [HS.out, e])
      by_cases h3 : r.k = 3
      · have t3 : (r.k != 3) = false := by simp [h3]
        by_cases hd : dHold l r.nm < 0
        · have HE := SKIP (by unfold names1; rw [if_pos (.inr (.inl hd))])
          clear SKIP HS h3
          go_wp2_with (go_at_call 80; refine (HH.out _ HW.out).mono ?_; rintro e _ ⟨rfl, rfl⟩; clear HH)
          go_roundw
          case rel => exact ⟨k + 1, by omega, by go_num, by rw [HE.out]; exact ⟨_, _, rfl, OW.out⟩, B0.out⟩
          case measure => simp [intOf]; omega
        · by_cases hi : r.nm ∈ out
          · have HE := SKIP (by unfold names1; rw [if_pos (.inr (.inr hi))])
            rw [decide_eq_true hi] at HI
            clear SKIP HS h3 hi
            go_wp2_with (first
              | (go_at_call 80; refine (HH.out _ HW.out).mono ?_; rintro e _ ⟨rfl, rfl⟩; clear HH)
              | (go_at_call 82; refine HI.out.mono ?_; rintro e _ ⟨rfl, rfl⟩; clear HI))
            go_roundw
            case rel => exact ⟨k + 1, by omega, by go_num, by rw [HE.out]; exact ⟨_, _, rfl, OW.out⟩, B0.out⟩
            case measure => simp [intOf]; omega
          · have HE : Hid (namesTo l (l.take (k + 1)) = ins r.nm out) := Lib.hid (by rw [HS.out]; unfold names1; rw [if_neg (fun e => by rcases e with e | e | e; exact e h3; exact hd e; exact hi e)])
            rw [decide_eq_false hi] at HI
            clear SKIP HS h3 hi
            generalize r.nm = nm at *
            go_wp2_with (first
              | (go_at_call 80; refine (HH.out _ HW.out).mono ?_; rintro e _ ⟨rfl, rfl⟩; clear HH)
              | (go_at_call 82; refine HI.out.mono ?_; rintro e _ ⟨rfl, rfl⟩; clear HI))
            generalize wr = W0 at *
            have HL := Lib.hid (own_lies OW.out)
            go_loopw [6, 7, 8] (fun mv pv jv w2 => ∃ j : Nat, j ≤ out.length ∧ jv = .int .i64 j ∧ pv = .bool (gt nm (out.take j)) ∧ Own W0.heap.size (lts nm (out.take j)) mv w2 ∧ Below W0.heap.size W0 w2) (fun _ _ jv _ => out.length - (intOf jv).toNat)
            case atStart => exact ⟨0, Nat.zero_le _, rfl, rfl, own_nil _ _, Below.refl _ _⟩
            case round =>
              obtain ⟨j, hj, rfl, rfl, ⟨pm, cm, rfl, hown⟩, hb⟩ := hrel
              have OM := Lib.hid hown
              have B1 := Lib.hid hb
              clear hown hb
              have hpl := lts_len nm (out.take j)
              have hpj : (out.take j).length = j := by rw [List.length_take]; omega
              by_cases hjl : j < out.length
              · obtain ⟨g2, o2, e2, hg20, hc2⟩ := sl_cell HL.out (by omega)
                have hg2 : g2 < wr.heap.size := Nat.lt_of_lt_of_le hg20 B1.out.size
                have s0 : wr.cell? ⟨g2, o2 + j, none⟩ = some (.string ⟨out[j].toArray⟩) := (B1.out.cell (p := ⟨g2, o2 + j, none⟩) hg20).trans (hc2 j hjl)
                subst e2
                have HT := Lib.hid (take_next out hjl)
                generalize out[j] = t at *
                have p2 : (0 : Int) ≤ (j : Int) := by omega
                have p3 : (j : Int) < (out.length : Int) := by omega
                clear hc2 c0 c1 q0 q1 q2 q3 q4 q5 q6 q7
                have hLL : (lts nm (out.take j)).length ≤ 100002 := by omega
                have g1 := run_gtr t nm wr
                have hW0 := B1.out.size
                cases hgt : gt nm (out.take j) with
                | true =>
                  have HP := Lib.hid (lts_put hgt t)
                  rw [← HT.out] at HP
                  generalize lts nm (out.take j) = m at *
                  clear hgt
                  go_wp2_with (at_builtin; refine append_str wr rfl _ _ rfl W0.heap.size cm m.length pm m t rfl rfl (by omega) hW0 rfl OM.out ?_; intro p5 c5 w5 ho5 hb5 _; go_frame)
                  have O5 := Lib.hid ho5
                  have B5 := Lib.hid (B1.out.trans hb5)
                  clear ho5 hb5
                  go_roundw
                  case rel => exact ⟨j + 1, by omega, by go_num, by rw [HP.out.2], by rw [HP.out.1]; exact ⟨p5, c5, by simp, by simpa using O5.out⟩, B5.out⟩
                  case measure => simp [intOf]; omega
                | false =>
                  by_cases hlt2 : nm < t
                  · have HP := Lib.hid (lts_here hgt hlt2)
                    rw [← HT.out] at HP
                    rw [decide_eq_true hlt2] at g1
                    generalize lts nm (out.take j) = m at *
                    clear hgt
                    go_upto_region 15 with (at_builtin; refine append_str wr rfl _ _ rfl W0.heap.size cm m.length pm m nm rfl rfl (by omega) hW0 rfl OM.out ?_; intro p5 c5 w5 ho5 hb5 _; go_frame)
                    have O5 := Lib.hid ho5
                    have B5 := Lib.hid (B1.out.trans hb5)
                    have hW5 := B5.out.size
                    have s5 : w5.cell? ⟨g2, o2 + j, none⟩ = some (.string ⟨t.toArray⟩) := (hb5.cell (p := ⟨g2, o2 + j, none⟩) hg20).trans s0
                    clear ho5 hb5 s0
                    go_wp2_with (at_builtin; refine append_str w5 rfl _ _ rfl W0.heap.size c5 (m.length + 1) p5 (m ++ [nm]) t (by simp) rfl (by omega) hW5 rfl O5.out ?_; intro p6 c6 w6 ho6 hb6 _; go_frame)
                    have O6 := Lib.hid ho6
                    have B6 := Lib.hid (B5.out.trans hb6)
                    clear ho6 hb6
                    go_roundw
                    case rel => exact ⟨j + 1, by omega, by go_num, by rw [HP.out.2], by rw [HP.out.1]; exact ⟨p6, c6, by simp, by simpa using O6.out⟩, B6.out⟩
                    case measure => simp [intOf]; omega
                  · have HP := Lib.hid (lts_not hgt hlt2)
                    rw [← HT.out] at HP
                    rw [decide_eq_false hlt2] at g1
                    generalize lts nm (out.take j) = m at *
                    clear hgt
                    go_wp2_with (at_builtin; refine append_str wr rfl _ _ rfl W0.heap.size cm m.length pm m t rfl rfl (by omega) hW0 rfl OM.out ?_; intro p5 c5 w5 ho5 hb5 _; go_frame)
                    have O5 := Lib.hid ho5
                    have B5 := Lib.hid (B1.out.trans hb5)
                    clear ho5 hb5
                    go_roundw
                    case rel => exact ⟨j + 1, by omega, by go_num, by rw [HP.out.2], by rw [HP.out.1]; exact ⟨p5, c5, by simp, by simpa using O5.out⟩, B5.out⟩
                    case measure => simp [intOf]; omega
              · obtain rfl : j = out.length := by omega
                rw [List.take_length] at *
                have p4 : ¬ (out.length : Int) < (out.length : Int) := by omega
                have hW0 := B1.out.size
                have hs0 := B0.out.size
                have hLL : (lts nm out).length ≤ 100002 := by omega
                clear c0 c1 q0 q1 q2 q3 q4 q5 q6 q7
                cases hgt : gt nm out with
                | true =>
                  have HE2 : Hid (namesTo l (l.take (k + 1)) = lts nm out) := Lib.hid (by rw [HE.out]; unfold lts; rw [if_pos hgt])
                  generalize lts nm out = m at *
                  clear hgt
                  go_wp2_with fail
                  go_roundw
                  case rel => exact ⟨k + 1, by omega, by go_num, by rw [HE2.out]; exact ⟨pm, cm, rfl, own_mono OM.out hs0⟩, B0.out.trans (B1.out.mono hs0)⟩
                  case measure => simp [intOf]; omega
                | false =>
                  have HE2 : Hid (namesTo l (l.take (k + 1)) = lts nm out ++ [nm]) := Lib.hid (by rw [HE.out, ins_none hgt]; unfold lts; rw [if_neg (by rw [hgt]; simp)])
                  generalize lts nm out = m at *
                  clear hgt
                  go_wp2_with (at_builtin; refine append_str wr rfl _ _ rfl W0.heap.size cm m.length pm m nm rfl rfl (by omega) hW0 rfl OM.out ?_; intro p5 c5 w5 ho5 hb5 _; go_frame)
                  have O5 := Lib.hid ho5
                  have B5 := Lib.hid (B1.out.trans hb5)
                  clear ho5 hb5
                  go_roundw
                  case rel => exact ⟨k + 1, by omega, by go_num, by rw [HE2.out]; exact ⟨p5, c5, by simp, own_mono (by simpa using O5.out) hs0⟩, B0.out.trans (B5.out.mono hs0)⟩
                  case measure => simp [intOf]; omega
      · have t3 : (r.k != 3) = true := by simp [h3]
        have HE := SKIP (by unfold names1; rw [if_pos (.inl h3)])
        clear SKIP HS h3
        go_wp2_with fail
        go_roundw
        case rel => exact ⟨k + 1, by omega, by go_num, by rw [HE.out]; exact ⟨_, _, rfl, OW.out⟩, B0.out⟩
        case measure => simp [intOf]; omega
    · obtain rfl : k = n := by omega
      have pk : ¬ (k : Int) < (k : Int) := by omega
      have HE : Hid (namesTo l (l.take k) = dNames l) := Lib.hid (by rw [← hln, List.take_length]; rfl)
      have OW := Lib.hid hown
      clear hown
      generalize namesTo l (l.take k) = out at *
      go_wp2_with fail
      go_ret
      rw [← HE.out]
      exact ⟨⟨_, rfl, po, co, rfl, OW.out⟩, B0.out⟩
end Go.Proofs.YtopnodkdpehdoaaGreatDoor.DbE
/- The document's book: Held: the walk of its text. The condition: at most 100,000 records. -/
namespace Go.Proofs.YtopnodkdpehdoaaGreatDoor.DbF
set_option linter.unusedVariables false
open Go.RowKit
open RecN RecC RetN DbN RetR DbC DbD DbE
theorem filter_next {α : Type} (p : α → Bool) (l : List α) {k : Nat} (h : k < l.length) : (l.take (k + 1)).filter p = (l.take k).filter p ++ (if p l[k] = true then [l[k]] else []) := by
  rw [take_next l h, List.filter_append]
  congr 1
  cases hp : p l[k] <;> simp [hp]
theorem names_le (l : List Rec) : (dNames l).length ≤ l.length := namesTo_le l l
set_option maxRecDepth 100000 in
set_option maxHeartbeats 4000000 in
theorem Held {B o : Nat} {f : Int} {a : Option Addr} {n c : Nat} {l : List Rec} {w : World} (h : Db w B o f a n c l) (t : Int) : Calls Tryz.prog 81 #[.pointer (some ⟨B, o, none⟩), .int .i64 t] w fun x w' => (∃ v, x = .returned v ∧ Own w.heap.size (dHeld l t) v w') ∧ Below w.heap.size w w' := by
  have HD := Lib.hid h
  have HN := Lib.hid (Names h)
  have hln := h.len
  have hfew := h.few
  have hle := names_le l
  have HQ : Hid (dHeld l t = (dNames l).filter fun n => decide (dHold l n = t)) := Lib.hid rfl
  clear h
  generalize dNames l = nn at *
  go_enter Tryz.func81, Tryz.ntmps81
  go_wp2_with (go_at_call 57; refine HN.out.mono ?_; rintro e w1 ⟨⟨v, rfl, pn, cn, rfl, ho⟩, hb⟩; have ON := Lib.hid ho; have B1 := Lib.hid hb; clear ho hb HN)
  have HL := Lib.hid (own_lies ON.out)
  go_loopw [6, 7] (fun v iv wr => ∃ k : Nat, k ≤ nn.length ∧ iv = .int .i64 k ∧ Own w1.heap.size ((nn.take k).filter fun n => decide (dHold l n = t)) v wr ∧ Below w1.heap.size w1 wr) (fun _ iv _ => nn.length - (intOf iv).toNat)
  case atStart => exact ⟨0, Nat.zero_le _, rfl, own_nil _ _, Below.refl _ _⟩
  case round =>
    obtain ⟨k, hk, rfl, ⟨po, co, rfl, hown⟩, hb⟩ := hrel
    have OW := Lib.hid hown
    have B2 := Lib.hid hb
    have HW := Lib.hid ((HD.out.step B1.out).step hb)
    clear hown hb
    by_cases hlt : k < nn.length
    · obtain ⟨g2, o2, rfl, hg, hc⟩ := sl_cell HL.out (by omega)
      have s0 := (B2.out.cell (p := ⟨g2, o2 + k, none⟩) hg).trans (hc k hlt)
      have HS := Lib.hid (filter_next (fun n => decide (dHold l n = t)) nn hlt)
      have HH := Lib.hid (Hold HW.out nn[k])
      have hfl : ((nn.take k).filter fun n => decide (dHold l n = t)).length ≤ 100000 := Nat.le_trans (List.length_filter_le _ _) (by rw [List.length_take]; omega)
      generalize nn[k] = x at *
      generalize ((nn.take k).filter fun n => decide (dHold l n = t)) = m at *
      have p0 : (0 : Int) ≤ (k : Int) := by omega
      have p1 : (k : Int) < (nn.length : Int) := by omega
      have hW2 := B2.out.size
      clear hc
      by_cases hx : dHold l x = t
      · have t1 : (dHold l x == t) = true := by simp [hx]
        have HE : Hid (((nn.take (k + 1)).filter fun n => decide (dHold l n = t)) = m ++ [x]) := Lib.hid (by rw [HS.out, if_pos (decide_eq_true hx)])
        clear HS hx
        go_wp2_with (first
          | (go_at_call 80; refine HH.out.mono ?_; rintro e _ ⟨rfl, rfl⟩; clear HH)
          | (at_builtin; refine append_str wr rfl _ _ rfl w1.heap.size co m.length po m x rfl rfl (by omega) hW2 rfl OW.out ?_; intro p5 c5 w5 ho5 hb5 _; go_frame))
        have O5 := Lib.hid ho5
        have B5 := Lib.hid (B2.out.trans hb5)
        clear ho5 hb5
        go_roundw
        case rel => exact ⟨k + 1, by omega, by go_num, by rw [HE.out]; exact ⟨p5, c5, by simp, by simpa using O5.out⟩, B5.out⟩
        case measure => simp [intOf]; omega
      · have t1 : (dHold l x == t) = false := by simp [hx]
        have HE : Hid (((nn.take (k + 1)).filter fun n => decide (dHold l n = t)) = m) := Lib.hid (by rw [HS.out, if_neg (fun e => hx (of_decide_eq_true e)), List.append_nil])
        clear HS hx
        go_wp2_with (go_at_call 80; refine HH.out.mono ?_; rintro e _ ⟨rfl, rfl⟩; clear HH)
        go_roundw
        case rel => exact ⟨k + 1, by omega, by go_num, by rw [HE.out]; exact ⟨po, co, rfl, OW.out⟩, B2.out⟩
        case measure => simp [intOf]; omega
    · obtain rfl : k = nn.length := by omega
      have pk : ¬ (nn.length : Int) < (nn.length : Int) := by omega
      have HE : Hid (((nn.take nn.length).filter fun n => decide (dHold l n = t)) = dHeld l t) := Lib.hid (by rw [List.take_length, HQ.out])
      generalize ((nn.take nn.length).filter fun n => decide (dHold l n = t)) = m at *
      go_wp2_with fail
      go_ret
      rw [← HE.out]
      exact ⟨⟨_, rfl, po, co, rfl, own_mono OW.out B1.out.size⟩, B1.out.trans (B2.out.mono B1.out.size)⟩
end Go.Proofs.YtopnodkdpehdoaaGreatDoor.DbF
