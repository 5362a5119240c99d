/- A clock in memory, at any place of a block (a struct that has one in itself, too); a pointer to none; what stays where a call turns one block; isMade, set, and answer over any closure: the walks of their texts. No conditions but those that each lemma names. -/
import Derived.Test.YteldohopagdodaaMem
import Derived.Test.YteldohopagdodaaRows
import Derived.Outline
import Derived.Laws.Cover1
namespace Go.Proofs.Yteldohopagdodaa.CloC
open Go.RowKit
/-- A clock that lies in block B from cell o on: whether it was made, and what it shows. -/
def Ck (W : World) (B o : Nat) (m : Bool) (n : Int) : Prop := ∃ cs t, W.heap[B]? = some (.cells cs t (0, 0)) ∧ cs[o]? = some (.bool m) ∧ cs[o + 1]? = some (.int .i64 n)
theorem Ck.lt {W : World} {B o : Nat} {m : Bool} {n : Int} (h : Ck W B o m n) : B < W.heap.size := by
  obtain ⟨cs, t, h, _⟩ := h
  exact (Array.getElem?_eq_some_iff.1 h).1
theorem Ck.step {W W' : World} {B o : Nat} {m : Bool} {n : Int} (h : Ck W B o m n) (hb : Below W.heap.size W W') : Ck W' B o m n := by
  have hl := h.lt
  obtain ⟨cs, t, h, k⟩ := h
  exact ⟨cs, t, (hb.block _ hl).trans h, k⟩
theorem Ck.cells {W : World} {B o : Nat} {m : Bool} {n : Int} (h : Ck W B o m n) : W.cell? ⟨B, o, none⟩ = some (.bool m) ∧ W.cell? ⟨B, o + 1, none⟩ = some (.int .i64 n) := by
  obtain ⟨cs, t, h, h0, h1⟩ := h
  exact ⟨blk_cell h h0, blk_cell h h1⟩
theorem Ck.free {W : World} {B o : Nat} {m : Bool} {n : Int} (h : Ck W B o m n) (i : Nat) : W.frozen? ⟨B, i, none⟩ = false := by
  obtain ⟨cs, t, h, _⟩ := h
  exact blk_free h
/-- What a clock shows, stored to. -/
theorem Ck.set_ {W : World} {B o : Nat} {m : Bool} {n : Int} (h : Ck W B o m n) (v : Int) : Ck (W.setCell ⟨B, o + 1, none⟩ (.int .i64 v)) B o m v := by
  obtain ⟨cs, t, h, h0, h1⟩ := h
  have hlt : o + 1 < cs.size := (Array.getElem?_eq_some_iff.1 h1).1
  refine ⟨_, t, blk_set h, ?_, ?_⟩
  · rw [Array.getElem?_setIfInBounds_ne (by omega)]
    exact h0
  · rw [Array.getElem?_setIfInBounds_self_of_lt hlt]
theorem ck_new (w : World) (m : Bool) (n : Int) : Ck (w.alloc (.cells #[.bool m, .int .i64 n] 57)) w.heap.size 0 m n := ⟨_, _, heap_alloc_new w _, rfl, rfl⟩
/-- A pointer to no clock: none, or to one that no call made. -/
def Non (W : World) (s : Option Addr) : Prop := s = none ∨ ∃ B o n, s = some ⟨B, o, none⟩ ∧ Ck W B o false n
theorem Non.step {W W' : World} {s : Option Addr} (h : Non W s) (hb : Below W.heap.size W W') : Non W' s := by
  rcases h with h | ⟨B, o, n, h, k⟩
  · exact .inl h
  · exact .inr ⟨B, o, n, h, k.step hb⟩
/-- All but one block is as it was. -/
structure But (B : Nat) (w w' : World) : Prop where
  os : w'.os = w.os
  tape : w'.tape = w.tape
  output : w'.output = w.output
  size : w.heap.size ≤ w'.heap.size
  block : ∀ k, k < w.heap.size → k ≠ B → w'.heap[k]? = w.heap[k]?
theorem But.of_below {B : Nat} {w w' : World} (h : Below w.heap.size w w') : But B w w' := ⟨h.os, h.tape, h.output, h.size, fun k hk _ => h.block k hk⟩
theorem But.trans {B : Nat} {u v w : World} (h : But B u v) (k : But B v w) : But B u w :=
  ⟨k.os.trans h.os, k.tape.trans h.tape, k.output.trans h.output, Nat.le_trans h.size k.size, fun i hi hb => (k.block i (Nat.lt_of_lt_of_le hi h.size) hb).trans (h.block i hi hb)⟩
theorem But.set_ {B : Nat} {u w : World} (h : But B u w) (i : Nat) (v : Value) : But B u (w.setCell ⟨B, i, none⟩ v) :=
  h.trans ⟨rfl, rfl, rfl, by simp [World.setCell], fun k _ hk => Below.heap_setCell _ _ _ _ hk⟩
theorem But.below {B C : Nat} {w w' : World} (h : But B w w') (hb : C ≤ B) (hC : C ≤ w.heap.size) : Below C w w' := ⟨h.os, h.tape, h.output, h.size, fun k hk => h.block k (by omega) (by omega)⟩
/-- What a clock that was told a time leaves: memory of the call's own, and one cell of the clock stored to. -/
def Set (w : World) (B o : Nat) (v : Int) (w' : World) : Prop := ∃ W, Below w.heap.size w W ∧ w' = W.setCell ⟨B, o + 1, none⟩ (.int .i64 v)
theorem Set.ck {w w' : World} {B o : Nat} {m : Bool} {n v : Int} (h : Set w B o v w') (k : Ck w B o m n) : Ck w' B o m v := by
  obtain ⟨W, hb, rfl⟩ := h
  exact (k.step hb).set_ v
theorem Set.but {w w' : World} {B o : Nat} {v : Int} (h : Set w B o v w') : But B w w' := by
  obtain ⟨W, hb, rfl⟩ := h
  exact (But.of_below hb).set_ _ _
theorem Set.from {w w1 w' : World} {B o : Nat} {v : Int} (h : Set w1 B o v w') (hb : Below w.heap.size w w1) : Set w B o v w' := by
  obtain ⟨W, k, rfl⟩ := h
  exact ⟨W, hb.trans (k.mono hb.size), rfl⟩
/-- What a clock that shows n answers where it is told t. -/
def told (n t : Int) : Int := if t < 0 ∨ 1099511627776 < t then 2 else if t < n then 11 else 0
theorem isMade_none (s : Option Addr) (w : World) (h : Non w s) :
    Calls Try.prog 37 #[.pointer s] w fun e w' => e = .returned (.bool false) ∧ w = w' := by
  rcases h with rfl | ⟨B, o, n, rfl, h⟩
  · go_enter Try.func37, Try.ntmps37
    go_wp2
    go_ret
    exact ⟨rfl, rfl⟩
  · obtain ⟨k0, _⟩ := h.cells
    clear h
    go_enter Try.func37, Try.ntmps37
    go_wp2
    go_ret
    exact ⟨rfl, rfl⟩
theorem isMade_some (B o : Nat) (n : Int) (w : World) (h : Ck w B o true n) :
    Calls Try.prog 37 #[.pointer (some ⟨B, o, none⟩)] w fun e w' => e = .returned (.bool true) ∧ w = w' := by
  obtain ⟨k0, _⟩ := h.cells
  clear h
  go_enter Try.func37, Try.ntmps37
  go_wp2
  go_ret
  exact ⟨rfl, rfl⟩
theorem set_arg (s : Option Addr) (t : Int) (w : World) (ht : t < 0 ∨ 1099511627776 < t) :
    Calls Try.prog 27 #[.pointer s, .int .i64 t] w fun e w' => e = .returned (.int .i64 2) ∧ w = w' := by
  by_cases h0 : t < 0
  · clear ht
    go_enter Try.func27, Try.ntmps27
    go_wp2
    go_ret
    exact ⟨rfl, rfl⟩
  · have h1 : 1099511627776 < t := by omega
    clear ht
    go_enter Try.func27, Try.ntmps27
    go_wp2
    go_ret
    exact ⟨rfl, rfl⟩
theorem set_back (B o : Nat) (n t : Int) (w : World) (h : Ck w B o true n) (h0 : 0 ≤ t) (h1 : t ≤ 1099511627776) (h2 : t < n) :
    Calls Try.prog 27 #[.pointer (some ⟨B, o, none⟩), .int .i64 t] w fun e w' => e = .returned (.int .i64 11) ∧ w = w' := by
  obtain ⟨_, k1⟩ := h.cells
  clear h
  go_enter Try.func27, Try.ntmps27
  go_wp2
  go_ret
  exact ⟨rfl, rfl⟩
theorem set_ok (B o : Nat) (n t : Int) (w : World) (h : Ck w B o true n) (h0 : 0 ≤ t) (h1 : t ≤ 1099511627776) (h2 : n ≤ t) :
    Calls Try.prog 27 #[.pointer (some ⟨B, o, none⟩), .int .i64 t] w fun e w' => e = .returned (.int .i64 0) ∧ Set w B o t w' := by
  obtain ⟨_, k1⟩ := h.cells
  have f1 := h.free (o + 1)
  clear h
  go_enter Try.func27, Try.ntmps27
  go_wp2
  go_ret
  exact ⟨rfl, w, Below.refl _ _, rfl⟩
theorem makes (fn : Fn) (first cap : Array Value) (w : World) : (Instr.makeFunc fn first cap).run Try.prog w = .ok (.func fn first cap) w := rfl
end Go.Proofs.Yteldohopagdodaa.CloC
