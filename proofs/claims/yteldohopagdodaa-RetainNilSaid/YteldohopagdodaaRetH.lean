/- The names that hold an epoch: the walk of held's text, through whatever order the map is gone through in, and the library's sort. No conditions. -/
import Derived.Test.YteldohopagdodaaRetC
import Derived.Test.YteldohopagdodaaShelf
import Derived.Sort.OwnSorted
import Derived.OwnWalk
import Derived.Maps.AppendAt
namespace Go.Proofs.Yteldohopagdodaa.RetH
set_option linter.unusedVariables false
open Go.RowKit Go.Maps Go.Sort
open RecN RetN RetC
theorem info_str : (Try.prog.info? 9).map (fun i => (i.zero, i.size, i.bytes)) = some (some (.string ⟨#[]⟩), 1, 16) := by kernel_rfl
theorem own_nil (w : World) (base : Nat) (t : TypeId) : w.ownsRow base t 1 (.slice none 0 0) 0 [] := ⟨rfl, .inl ⟨rfl, rfl⟩⟩
theorem inK : ∀ key kl, keyOf Try.prog 9 key = some kl → ∃ x : L, key = encStr x := fun key kl hk => by obtain ⟨x, hx, _⟩ := Maps.keyOf_str Try.underlying9 hk; exact ⟨x, hx⟩
theorem inV : ∀ (v : Value) (y : DU × List MemPlace), plainElem Try.prog 3 v = some y → ∃ c : Int, v = Value.int .i64 c := fun v y hv => by obtain ⟨c, rfl, _⟩ := plainElem_int_inv Try.underlying3 hv; exact ⟨c, rfl⟩
/-- What holds an epoch, as a slice of the call's own. -/
def Names (base : Nat) (l : List L) (e : Ending) (w' : World) : Prop := ∃ a c, e = .returned (.slice a l.length c) ∧ w'.ownsRow base 9 1 (.slice a l.length c) l.length (l.map encStr)
set_option maxRecDepth 100000 in
set_option maxHeartbeats 2000000 in
theorem held (A : Pl) (s : St) (e : Int) (w : World) (h : In A s w) : Calls Try.prog 22 #[.pointer (some ⟨A.c, 0, none⟩), .int .i64 e] w fun x w' => Names w.heap.size (heldL s.hs e) x w' ∧ Below w.heap.size w w' := by
  obtain ⟨i0, hi, hz0, hz1, hz2⟩ := info_parts info_str
  obtain ⟨ho, hle, D, hown, hsz, hat⟩ := h.h
  obtain ⟨_, _, _, _, k4, _⟩ := h.cells
  have hbl := hown.lt
  have HAT := Lib.hid hat
  have HO := Lib.hid ho
  generalize s.hs = hs at *
  clear h hat ho
  go_enter Try.func22, Try.ntmps22
  go_wp2_with (first
    | (at_range; refine wpList_range_own _ rfl _ 47 rfl 9 3 lawS Try.underlying47 _ A.h 64 D rfl hown ?_; intro w0 hrg0 hg0 hs0)
    | go_in)
  go_frame
  go_loopw [5] (fun v wr => ∃ (left : Lit → Bool) (cnt : Nat) (ss : List L), wr.ranges Try.prog 9 (plainElem Try.prog 3) A.h w.heap.size 64 D left cnt ∧ ss.length + cnt ≤ 64 ∧
      wr.ownsRow w.heap.size 9 1 v ss.length (ss.map encStr) ∧ Got hs e left ss ∧ Below w.heap.size w wr)
    (fun _ wr => wr.rangeLeft A.h w.heap.size)
  case atStart =>
    exact ⟨_, _, [], hrg0, by simp; omega, own_nil _ _ _, Got.start fun x => (HAT.out x).1, (Below.refl _ _).grown hg0 (Nat.le_refl _) (fun j hj => by cases hj)⟩
  case round =>
    obtain ⟨left, cnt, ss, hrg, hcs, hrow, hC, hnx⟩ := hrel
    have HC := Lib.hid hC
    clear hC
    go_wp2_with (first
      | (at_next; refine wpList_next_ranges _ rfl _ rfl 9 lawS (plainElem Try.prog 3) encStr (Value.int .i64) inK inV A.h w.heap.size 64 _ _ _ rfl hrg ?_ ?_)
      | go_in)
    · intro hc0 hl0
      have HE := Lib.hid (HC.out.perm HO.out hl0)
      rcases hrow.2 with ⟨rfl, h0⟩ | ⟨g, cap, cur, rfl, hbase, hb, h1, h2, h3, h4⟩
      · obtain rfl : ss = [] := List.eq_nil_of_length_eq_zero h0
        have HS := Lib.hid (Try.slices_Sort_string_none none 0 wr)
        go_wp2_with (go_at_call 28; refine HS.out.mono ?_; rintro e1 w' ⟨rfl, rfl⟩)
        go_ret
        have el : heldL hs e = [] := by rw [← HE.out]; simp
        rw [el]
        exact ⟨⟨none, 0, rfl, own_nil _ _ _⟩, hnx⟩
      · have hH : Holds encStr wr g 0 ss.toArray := holds_of_block hb (by simpa using h4)
        have hgl : g < wr.heap.size := (Array.getElem?_eq_some_iff.1 hb).1
        have HS := Lib.hid (Try.slices_Sort_string g 0 cap ss wr hH hgl (by omega))
        go_wp2_with (go_at_call 28; refine HS.out.mono ?_; rintro e1 w' ⟨rfl, nn, os, rfl⟩)
        go_ret
        have el : (heldL hs e).length = ss.length := by rw [← HE.out]; simp
        refine ⟨⟨some ⟨g, 0, none⟩, cap, by rw [el]; rfl, ?_⟩, hnx.grown (grownBy_sorted _) hnx.size (fun j hj => by cases hj; exact hbase)⟩
        rw [el, ← HE.out]
        exact ownsRow_sorted (by simp) hbase hb h1 h2 h3
    · intro x c kl yd yp w2 cnt2 hkey hlk hv hax hrg2 hlt hg2 hs2 hen
      obtain ⟨x', ex, rfl, _⟩ := Maps.keyOf_str Try.underlying9 hkey
      obtain rfl : x = x' := encStr_inj ex
      have hx : lk hs x = some c := by
        obtain ⟨c', hc1, hc2, _⟩ := plainElem_int_inv Try.underlying3 hv
        injection hc1 with _ hc1
        subst hc1
        have hyd : yd = dn c := (Prod.mk.inj hc2).1
        have h1 := (HAT.out x).1
        rw [has_true_of_atKey hax] at h1
        cases hd : lk hs x with
        | none => rw [hd] at h1; cases h1
        | some d =>
          have h2 := (HAT.out x).2 d hd (dn 0)
          rw [hax, hyd] at h2
          injection h2 with h2
          injection h2 with _ h2
          rw [h2]
      have hrow2 := hrow.kept hg2 (Or.inr (row_ne_iter hrow hrg).symm)
      clear hs2 hkey hv hax ex
      by_cases hce : c = e
      · have hq : (c == e) = true := by simp [hce]
        have HG := Lib.hid (HC.out.yes hlk (hx.trans (congrArg some hce)))
        clear hce hlk hx
        go_wp2_with (first
          | (at_builtin; refine wpList_append_own _ rfl _ _ 33 rfl w.heap.size 9 i0 (.string ⟨#[]⟩) 1 16 Try.underlying33 hi hz0 hz1 hz2 rfl (by decide) _ _ _ rfl (hrow2.alloc _) ⟨w2.heap.size, 0, none⟩ 1 1 [encStr x] rfl rfl (cell_one_new _ _ _) (by simp [Value.oneCell', encStr]) (by unfold maxLen at *; omega) (by omega) (by have := hnx.size; have := hg2.size; simp; omega) ?_; intro v' w3 hown' hg3 hnil3; go_frame)
          | go_in)
        have hrg3 := (hrg2.alloc _).kept hg3 (row_ne_low hrow2 hbl) (row_ne_iter hrow2 hrg2)
        go_roundw
        case rel =>
          refine ⟨_, cnt2, ss ++ [x], hrg3, by simp; omega, by simpa using hown', HG.out, ?_⟩
          exact ((hnx.grown hg2 hnx.size (fun j hj => by cases hj; exact Nat.le_refl _)).alloc (by have := hnx.size; have := hg2.size; omega) _).grown hg3 (by have := hnx.size; have := hg2.size; simp; omega) (fun j hj => (hrow2.lt j hj).1)
        case measure => rw [hrg3.left_eq, hrg.left_eq]; exact hlt
      · have hq : (c == e) = false := by simp [hce]
        have HG := Lib.hid (HC.out.no (x := x) (fun e1 => hce (Option.some.inj (hx.symm.trans e1))))
        clear hce hlk hx
        go_wp2_with go_in
        go_roundw
        case rel =>
          exact ⟨_, cnt2, ss, hrg2, by omega, hrow2, HG.out, hnx.grown hg2 hnx.size (fun j hj => by cases hj; exact Nat.le_refl _)⟩
        case measure => rw [hrg2.left_eq, hrg.left_eq]; exact hlt
end Go.Proofs.Yteldohopagdodaa.RetH
