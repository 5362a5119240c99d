/- CloC CloM: one behind the other. -/
import Derived.Test.YtopnodkdpehdoaaGreatDoorMem
import Derived.Test.YtopnodkdpehdoaaGreatDoorRows
import Derived.Outline
import Derived.Laws.Cover1
import Derived.BigQuiet
import Derived.Deep.QuietTactic
import Derived.Deep.RegionHeld3
import Derived.Deep.DeepCutAuto
/- A clock in memory, at any place of a block (a struct that has one in itself, too); a pointer to none; what stays where a call turns one block; isMade, set, and answer over any closure: the walks of their texts. No conditions but those that each lemma names. -/
namespace Go.Proofs.YtopnodkdpehdoaaGreatDoor.CloC
open Go.RowKit
/-- A clock that lies in block B from cell o on: whether it was made, and what it shows. -/
def Ck (W : World) (B o : Nat) (m : Bool) (n : Int) : Prop := ∃ cs t, W.heap[B]? = some (.cells cs t (0, 0)) ∧ cs[o]? = some (.bool m) ∧ cs[o + 1]? = some (.int .i64 n)
theorem Ck.lt {W : World} {B o : Nat} {m : Bool} {n : Int} (h : Ck W B o m n) : B < W.heap.size := by
  obtain ⟨cs, t, h, _⟩ := h
  exact (Array.getElem?_eq_some_iff.1 h).1
theorem Ck.step {W W' : World} {B o : Nat} {m : Bool} {n : Int} (h : Ck W B o m n) (hb : Below W.heap.size W W') : Ck W' B o m n := by
  have hl := h.lt
  obtain ⟨cs, t, h, k⟩ := h
  exact ⟨cs, t, (hb.block _ hl).trans h, k⟩
theorem Ck.cells {W : World} {B o : Nat} {m : Bool} {n : Int} (h : Ck W B o m n) : W.cell? ⟨B, o, none⟩ = some (.bool m) ∧ W.cell? ⟨B, o + 1, none⟩ = some (.int .i64 n) := by
  obtain ⟨cs, t, h, h0, h1⟩ := h
  exact ⟨blk_cell h h0, blk_cell h h1⟩
theorem Ck.free {W : World} {B o : Nat} {m : Bool} {n : Int} (h : Ck W B o m n) (i : Nat) : W.frozen? ⟨B, i, none⟩ = false := by
  obtain ⟨cs, t, h, _⟩ := h
  exact blk_free h
/-- What a clock shows, stored to. -/
theorem Ck.set_ {W : World} {B o : Nat} {m : Bool} {n : Int} (h : Ck W B o m n) (v : Int) : Ck (W.setCell ⟨B, o + 1, none⟩ (.int .i64 v)) B o m v := by
  obtain ⟨cs, t, h, h0, h1⟩ := h
  have hlt : o + 1 < cs.size := (Array.getElem?_eq_some_iff.1 h1).1
  refine ⟨_, t, blk_set h, ?_, ?_⟩
  · rw [Array.getElem?_setIfInBounds_ne (by omega)]
    exact h0
  · rw [Array.getElem?_setIfInBounds_self_of_lt hlt]
theorem ck_new (w : World) (m : Bool) (n : Int) : Ck (w.alloc (.cells #[.bool m, .int .i64 n] 97)) w.heap.size 0 m n := ⟨_, _, heap_alloc_new w _, rfl, rfl⟩
/-- A pointer to no clock: none, or to one that no call made. -/
def Non (W : World) (s : Option Addr) : Prop := s = none ∨ ∃ B o n, s = some ⟨B, o, none⟩ ∧ Ck W B o false n
theorem Non.step {W W' : World} {s : Option Addr} (h : Non W s) (hb : Below W.heap.size W W') : Non W' s := by
  rcases h with h | ⟨B, o, n, h, k⟩
  · exact .inl h
  · exact .inr ⟨B, o, n, h, k.step hb⟩
/-- All but one block is as it was. -/
structure But (B : Nat) (w w' : World) : Prop where
  os : w'.os = w.os
  tape : w'.tape = w.tape
  output : w'.output = w.output
  size : w.heap.size ≤ w'.heap.size
  block : ∀ k, k < w.heap.size → k ≠ B → w'.heap[k]? = w.heap[k]?
theorem But.of_below {B : Nat} {w w' : World} (h : Below w.heap.size w w') : But B w w' := ⟨h.os, h.tape, h.output, h.size, fun k hk _ => h.block k hk⟩
theorem But.trans {B : Nat} {u v w : World} (h : But B u v) (k : But B v w) : But B u w :=
  ⟨k.os.trans h.os, k.tape.trans h.tape, k.output.trans h.output, Nat.le_trans h.size k.size, fun i hi hb => (k.block i (Nat.lt_of_lt_of_le hi h.size) hb).trans (h.block i hi hb)⟩
theorem But.set_ {B : Nat} {u w : World} (h : But B u w) (i : Nat) (v : Value) : But B u (w.setCell ⟨B, i, none⟩ v) :=
  h.trans ⟨rfl, rfl, rfl, by simp [World.setCell], fun k _ hk => Below.heap_setCell _ _ _ _ hk⟩
theorem But.below {B C : Nat} {w w' : World} (h : But B w w') (hb : C ≤ B) (hC : C ≤ w.heap.size) : Below C w w' := ⟨h.os, h.tape, h.output, h.size, fun k hk => h.block k (by omega) (by omega)⟩
/-- What a clock that was told a time leaves: memory of the call's own, and one cell of the clock stored to. -/
def Set (w : World) (B o : Nat) (v : Int) (w' : World) : Prop := ∃ W, Below w.heap.size w W ∧ w' = W.setCell ⟨B, o + 1, none⟩ (.int .i64 v)
theorem Set.ck {w w' : World} {B o : Nat} {m : Bool} {n v : Int} (h : Set w B o v w') (k : Ck w B o m n) : Ck w' B o m v := by
  obtain ⟨W, hb, rfl⟩ := h
  exact (k.step hb).set_ v
theorem Set.but {w w' : World} {B o : Nat} {v : Int} (h : Set w B o v w') : But B w w' := by
  obtain ⟨W, hb, rfl⟩ := h
  exact (But.of_below hb).set_ _ _
theorem Set.from {w w1 w' : World} {B o : Nat} {v : Int} (h : Set w1 B o v w') (hb : Below w.heap.size w w1) : Set w B o v w' := by
  obtain ⟨W, k, rfl⟩ := h
  exact ⟨W, hb.trans (k.mono hb.size), rfl⟩
/-- What a clock that shows n answers where it is told t. -/
def told (n t : Int) : Int := if t < 0 ∨ 1099511627776 < t then 2 else if t < n then 11 else 0
theorem isMade_none (s : Option Addr) (w : World) (h : Non w s) :
    Calls Tryz.prog 85 #[.pointer s] w fun e w' => e = .returned (.bool false) ∧ w = w' := by
  rcases h with rfl | ⟨B, o, n, rfl, h⟩
  · go_enter Tryz.func85, Tryz.ntmps85
    go_wp2
    go_ret
    exact ⟨rfl, rfl⟩
  · obtain ⟨k0, _⟩ := h.cells
    clear h
    go_enter Tryz.func85, Tryz.ntmps85
    go_wp2
    go_ret
    exact ⟨rfl, rfl⟩
theorem isMade_some (B o : Nat) (n : Int) (w : World) (h : Ck w B o true n) :
    Calls Tryz.prog 85 #[.pointer (some ⟨B, o, none⟩)] w fun e w' => e = .returned (.bool true) ∧ w = w' := by
  obtain ⟨k0, _⟩ := h.cells
  clear h
  go_enter Tryz.func85, Tryz.ntmps85
  go_wp2
  go_ret
  exact ⟨rfl, rfl⟩
theorem set_arg (s : Option Addr) (t : Int) (w : World) (ht : t < 0 ∨ 1099511627776 < t) :
    Calls Tryz.prog 47 #[.pointer s, .int .i64 t] w fun e w' => e = .returned (.int .i64 2) ∧ w = w' := by
  by_cases h0 : t < 0
  · clear ht
    go_enter Tryz.func47, Tryz.ntmps47
    go_wp2
    go_ret
    exact ⟨rfl, rfl⟩
  · have h1 : 1099511627776 < t := by omega
    clear ht
    go_enter Tryz.func47, Tryz.ntmps47
    go_wp2
    go_ret
    exact ⟨rfl, rfl⟩
theorem set_back (B o : Nat) (n t : Int) (w : World) (h : Ck w B o true n) (h0 : 0 ≤ t) (h1 : t ≤ 1099511627776) (h2 : t < n) :
    Calls Tryz.prog 47 #[.pointer (some ⟨B, o, none⟩), .int .i64 t] w fun e w' => e = .returned (.int .i64 11) ∧ w = w' := by
  obtain ⟨_, k1⟩ := h.cells
  clear h
  go_enter Tryz.func47, Tryz.ntmps47
  go_wp2
  go_ret
  exact ⟨rfl, rfl⟩
theorem set_ok (B o : Nat) (n t : Int) (w : World) (h : Ck w B o true n) (h0 : 0 ≤ t) (h1 : t ≤ 1099511627776) (h2 : n ≤ t) :
    Calls Tryz.prog 47 #[.pointer (some ⟨B, o, none⟩), .int .i64 t] w fun e w' => e = .returned (.int .i64 0) ∧ Set w B o t w' := by
  obtain ⟨_, k1⟩ := h.cells
  have f1 := h.free (o + 1)
  clear h
  go_enter Tryz.func47, Tryz.ntmps47
  go_wp2
  go_ret
  exact ⟨rfl, w, Below.refl _ _, rfl⟩
theorem makes (fn : Fn) (first cap : Array Value) (w : World) : (Instr.makeFunc fn first cap).run Tryz.prog w = .ok (.func fn first cap) w := rfl
end Go.Proofs.YtopnodkdpehdoaaGreatDoor.CloC
/- answer over any closure, the closures, Tick, Now, Past, New and Clamp: the walks of their texts. No conditions but those that each lemma names. -/
namespace Go.Proofs.YtopnodkdpehdoaaGreatDoor.CloM
open Go.RowKit
open CloC
/-- answer, where there is no clock: what it was handed for none. -/
theorem answerE_none (s : Option Addr) (v : Value) (x : Int) (w : World) (h : Non w s) :
    Calls Tryz.prog 97 #[.func (.func 85) #[.pointer s] #[], v, .int .i64 x] w fun e w' => e = .returned (.int .i64 x) ∧ w = w' := by
  have HN := Lib.hid (isMade_none s w h)
  clear h
  go_enter Tryz.func97, Tryz.ntmps97
  go_wp2_with (go_at_call 85; refine HN.out.mono ?_; rintro e _ ⟨rfl, rfl⟩)
  go_ret
  exact ⟨rfl, rfl⟩
theorem answerI_none (s : Option Addr) (v : Value) (x : Int) (w : World) (h : Non w s) :
    Calls Tryz.prog 84 #[.func (.func 85) #[.pointer s] #[], v, .int .i64 x] w fun e w' => e = .returned (.int .i64 x) ∧ w = w' := by
  have HN := Lib.hid (isMade_none s w h)
  clear h
  go_enter Tryz.func84, Tryz.ntmps84
  go_wp2_with (go_at_call 85; refine HN.out.mono ?_; rintro e _ ⟨rfl, rfl⟩)
  go_ret
  exact ⟨rfl, rfl⟩
/-- answer, where there is a clock: what the closure that it was handed does. -/
theorem answerE_some (B o : Nat) (n : Int) (K : Nat) (first cap : Array Value) (x r : Int) (R : World → Prop) (w : World) (h : Ck w B o true n)
    (hK : ∀ (args : Array Value) (W : World), (callFunc K args).run Tryz.prog W = .ok (.enter K args) W)
    (hc : Calls Tryz.prog K (first ++ cap) w fun e w' => e = .returned (.int .i64 r) ∧ R w') :
    Calls Tryz.prog 97 #[.func (.func 85) #[.pointer (some ⟨B, o, none⟩)] #[], .func (.func K) first cap, .int .i64 x] w fun e w' => e = .returned (.int .i64 r) ∧ R w' := by
  have HN := Lib.hid (isMade_some B o n w h)
  have HC := Lib.hid hc
  clear h hc
  go_enter Tryz.func97, Tryz.ntmps97
  go_wp2_with (go_at_call 85; refine HN.out.mono ?_; rintro e _ ⟨rfl, rfl⟩)
  refine HC.out.mono ?_
  rintro e w1 ⟨rfl, k⟩
  have KK := Lib.hid k
  clear k HC
  go_wp2
  go_ret
  exact ⟨rfl, KK.out⟩
theorem answerI_some (B o : Nat) (n : Int) (K : Nat) (first cap : Array Value) (x r : Int) (R : World → Prop) (w : World) (h : Ck w B o true n)
    (hK : ∀ (args : Array Value) (W : World), (callFunc K args).run Tryz.prog W = .ok (.enter K args) W)
    (hc : Calls Tryz.prog K (first ++ cap) w fun e w' => e = .returned (.int .i64 r) ∧ R w') :
    Calls Tryz.prog 84 #[.func (.func 85) #[.pointer (some ⟨B, o, none⟩)] #[], .func (.func K) first cap, .int .i64 x] w fun e w' => e = .returned (.int .i64 r) ∧ R w' := by
  have HN := Lib.hid (isMade_some B o n w h)
  have HC := Lib.hid hc
  clear h hc
  go_enter Tryz.func84, Tryz.ntmps84
  go_wp2_with (go_at_call 85; refine HN.out.mono ?_; rintro e _ ⟨rfl, rfl⟩)
  refine HC.out.mono ?_
  rintro e w1 ⟨rfl, k⟩
  have KK := Lib.hid k
  clear k HC
  go_wp2
  go_ret
  exact ⟨rfl, KK.out⟩
/-- The three closures. -/
theorem tick (E X : Nat) (s : Option Addr) (t r : Int) (R : World → Prop) (w : World) (hE : w.cell? ⟨E, 0, none⟩ = some (.pointer s)) (hX : w.cell? ⟨X, 0, none⟩ = some (.int .i64 t))
    (hs : Calls Tryz.prog 47 #[.pointer s, .int .i64 t] w fun e w' => e = .returned (.int .i64 r) ∧ R w') :
    Calls Tryz.prog 96 #[.pointer (some ⟨E, 0, none⟩), .pointer (some ⟨X, 0, none⟩)] w fun e w' => e = .returned (.int .i64 r) ∧ R w' := by
  have HS := Lib.hid hs
  clear hs
  go_enter Tryz.func96, Tryz.ntmps96
  go_wp2_with (go_at_call 47; refine HS.out.mono ?_; rintro e w1 ⟨rfl, k⟩; have KK := Lib.hid k; clear k HS)
  go_ret
  exact ⟨rfl, KK.out⟩
theorem now_ (E B o : Nat) (m : Bool) (n : Int) (w : World) (hE : w.cell? ⟨E, 0, none⟩ = some (.pointer (some ⟨B, o, none⟩))) (h : Ck w B o m n) :
    Calls Tryz.prog 83 #[.pointer (some ⟨E, 0, none⟩)] w fun e w' => e = .returned (.int .i64 n) ∧ Below w.heap.size w w' := by
  obtain ⟨_, k1⟩ := h.cells
  clear h
  go_enter Tryz.func83, Tryz.ntmps83
  go_wp2
  go_ret
  exact ⟨rfl, Below.refl _ _⟩
/-- The boxes that a call has its arguments in. -/
structure Bx (w : World) (s : Option Addr) (n : Int) (W : World) : Prop where
  bel : Below w.heap.size w W
  s : W.heap[w.heap.size]? = some (.cells #[.pointer s] 60 (0, 0))
  n : W.heap[w.heap.size + 1]? = some (.cells #[.int .i64 n] 3 (0, 0))
theorem box_new (w : World) (o : Obj) : Below w.heap.size w (w.alloc o) := (Below.refl _ _).alloc (Nat.le_refl _) _
theorem bx_new (w : World) (s : Option Addr) (n : Int) : Bx w s n ((w.alloc (.cells #[.pointer s] 60)).alloc (.cells #[.int .i64 n] 3)) :=
  ⟨(box_new w _).trans ((box_new _ _).mono (by simp)), heap_alloc2_old w _ _, heap_alloc2_new w _ _⟩
theorem Bx.cells {w W : World} {s : Option Addr} {n : Int} (h : Bx w s n W) : W.cell? ⟨w.heap.size, 0, none⟩ = some (.pointer s) ∧ W.cell? ⟨w.heap.size + 1, 0, none⟩ = some (.int .i64 n) := ⟨blk_cell h.s rfl, blk_cell h.n rfl⟩
set_option maxRecDepth 100000 in
theorem Tick_none (s : Option Addr) (t : Int) (w : World) (h : Non w s) :
    Calls Tryz.prog 76 #[.pointer s, .int .i64 t] w fun e w' => e = .returned (.int .i64 1) ∧ Below w.heap.size w w' := by
  have HA := Lib.hid (fun v W h => answerE_none s v 1 W h)
  have hmf := makes
  obtain ⟨W2, hW2⟩ : ∃ W2, W2 = (w.alloc (.cells #[.pointer s] 60)).alloc (.cells #[.int .i64 t] 3) := ⟨_, rfl⟩
  have XX := Lib.hid (show Bx w s t W2 by rw [hW2]; exact bx_new w s t)
  have HS := Lib.hid (h.step XX.out.bel)
  obtain ⟨k0, k1⟩ := XX.out.cells
  clear h
  go_enter Tryz.func76, Tryz.ntmps76
  go_upto_region 1 with (fail)
  rw [← hW2]
  clear hW2
  go_wp2_with (go_at_call 97; refine (HA.out _ _ HS.out).mono ?_; rintro e _ ⟨rfl, rfl⟩)
  go_ret
  exact ⟨rfl, XX.out.bel⟩
set_option maxRecDepth 100000 in
/-- Tick of a clock: what set does, behind memory of the call's own. -/
theorem Tick_some (B o : Nat) (n t r : Int) (R : World → Prop) (w : World) (h : Ck w B o true n)
    (hs : ∀ W : World, Below w.heap.size w W → Calls Tryz.prog 47 #[.pointer (some ⟨B, o, none⟩), .int .i64 t] W fun e w' => e = .returned (.int .i64 r) ∧ R w') :
    Calls Tryz.prog 76 #[.pointer (some ⟨B, o, none⟩), .int .i64 t] w fun e w' => e = .returned (.int .i64 r) ∧ R w' := by
  have hmf := makes
  obtain ⟨W2, hW2⟩ : ∃ W2, W2 = (w.alloc (.cells #[.pointer (some ⟨B, o, none⟩)] 60)).alloc (.cells #[.int .i64 t] 3) := ⟨_, rfl⟩
  have XX := Lib.hid (show Bx w (some ⟨B, o, none⟩) t W2 by rw [hW2]; exact bx_new w _ t)
  obtain ⟨k0, k1⟩ := XX.out.cells
  have HA := Lib.hid (answerE_some B o n 96 #[] #[.pointer (some ⟨w.heap.size, 0, none⟩), .pointer (some ⟨w.heap.size + 1, 0, none⟩)] 1 r R W2 (h.step XX.out.bel) (fun _ _ => rfl) (by
    have := tick _ _ _ t r R W2 k0 k1 (hs W2 XX.out.bel)
    exact this))
  clear h hs
  go_enter Tryz.func76, Tryz.ntmps76
  go_upto_region 1 with (fail)
  rw [← hW2]
  clear hW2
  go_wp2_with (go_at_call 97; refine HA.out.mono ?_; rintro e w3 ⟨rfl, k⟩; have KK := Lib.hid k; clear k HA k0 k1)
  go_ret
  exact ⟨rfl, KK.out⟩
theorem Tick_arg (B o : Nat) (n t : Int) (w : World) (h : Ck w B o true n) (ht : t < 0 ∨ 1099511627776 < t) :
    Calls Tryz.prog 76 #[.pointer (some ⟨B, o, none⟩), .int .i64 t] w fun e w' => e = .returned (.int .i64 2) ∧ Below w.heap.size w w' :=
  Tick_some B o n t 2 _ w h fun W hb => (set_arg _ t W ht).mono fun _ _ ⟨he, hw⟩ => ⟨he, hw ▸ hb⟩
theorem Tick_back (B o : Nat) (n t : Int) (w : World) (h : Ck w B o true n) (h0 : 0 ≤ t) (h1 : t ≤ 1099511627776) (h2 : t < n) :
    Calls Tryz.prog 76 #[.pointer (some ⟨B, o, none⟩), .int .i64 t] w fun e w' => e = .returned (.int .i64 11) ∧ Below w.heap.size w w' :=
  Tick_some B o n t 11 _ w h fun W hb => (set_back B o n t W (h.step hb) h0 h1 h2).mono fun _ _ ⟨he, hw⟩ => ⟨he, hw ▸ hb⟩
theorem Tick_ok (B o : Nat) (n t : Int) (w : World) (h : Ck w B o true n) (h0 : 0 ≤ t) (h1 : t ≤ 1099511627776) (h2 : n ≤ t) :
    Calls Tryz.prog 76 #[.pointer (some ⟨B, o, none⟩), .int .i64 t] w fun e w' => e = .returned (.int .i64 0) ∧ Set w B o t w' :=
  Tick_some B o n t 0 _ w h fun W hb => (set_ok B o n t W (h.step hb) h0 h1 h2).mono fun _ _ ⟨he, hw⟩ => ⟨he, hw.from hb⟩
set_option maxRecDepth 100000 in
theorem Now_none (s : Option Addr) (w : World) (h : Non w s) :
    Calls Tryz.prog 58 #[.pointer s] w fun e w' => e = .returned (.int .i64 0) ∧ Below w.heap.size w w' := by
  have HA := Lib.hid (fun v W h => answerI_none s v 0 W h)
  have hmf := makes
  obtain ⟨W1, hW1⟩ : ∃ W1, W1 = w.alloc (.cells #[.pointer s] 60) := ⟨_, rfl⟩
  have B1 := Lib.hid (show Below w.heap.size w W1 by rw [hW1]; exact box_new w _)
  have k0 : W1.cell? ⟨w.heap.size, 0, none⟩ = some (.pointer s) := blk_cell (by rw [hW1]; exact heap_alloc_new w _) rfl
  have HS := Lib.hid (h.step B1.out)
  clear h
  go_enter Tryz.func58, Tryz.ntmps58
  go_upto_region 1 with (fail)
  rw [← hW1]
  clear hW1
  go_wp2_with (go_at_call 84; refine (HA.out _ _ HS.out).mono ?_; rintro e _ ⟨rfl, rfl⟩)
  go_ret
  exact ⟨rfl, B1.out⟩
set_option maxRecDepth 100000 in
theorem Now (B o : Nat) (n : Int) (w : World) (h : Ck w B o true n) :
    Calls Tryz.prog 58 #[.pointer (some ⟨B, o, none⟩)] w fun e w' => e = .returned (.int .i64 n) ∧ Below w.heap.size w w' := by
  have hmf := makes
  obtain ⟨W1, hW1⟩ : ∃ W1, W1 = w.alloc (.cells #[.pointer (some ⟨B, o, none⟩)] 60) := ⟨_, rfl⟩
  have B1 := Lib.hid (show Below w.heap.size w W1 by rw [hW1]; exact box_new w _)
  have k0 : W1.cell? ⟨w.heap.size, 0, none⟩ = some (.pointer (some ⟨B, o, none⟩)) := blk_cell (by rw [hW1]; exact heap_alloc_new w _) rfl
  have HA := Lib.hid (answerI_some B o n 83 #[] #[.pointer (some ⟨w.heap.size, 0, none⟩)] 0 n (Below W1.heap.size W1) W1 (h.step B1.out) (fun _ _ => rfl) (by
    have := now_ _ B o true n W1 k0 (h.step B1.out)
    exact this))
  clear h
  go_enter Tryz.func58, Tryz.ntmps58
  go_upto_region 1 with (fail)
  rw [← hW1]
  clear hW1
  go_wp2_with (go_at_call 84; refine HA.out.mono ?_; rintro e w3 ⟨rfl, k⟩; have B3 := Lib.hid (B1.out.trans (k.mono B1.out.size)); clear k HA k0)
  go_ret
  exact ⟨rfl, B3.out⟩
/-- A clock of the call's own. -/
def Made (w : World) (n : Int) (e : Ending) (w' : World) : Prop := ∃ B, w.heap.size ≤ B ∧ e = .returned (.tuple #[.pointer (some ⟨B, 0, none⟩), .int .i64 0]) ∧ Ck w' B 0 true n ∧ Below w.heap.size w w'
set_option maxRecDepth 100000 in
theorem New_no (n : Int) (w : World) (h : n < 0 ∨ 1099511627776 < n) :
    Calls Tryz.prog 23 #[.int .i64 n] w fun e w' => e = .returned (.tuple #[.pointer none, .int .i64 2]) ∧ Below w.heap.size w w' := by
  obtain ⟨W1, hW1⟩ : ∃ W1, W1 = w.alloc (.cells #[.bool true, .int .i64 0] 97) := ⟨_, rfl⟩
  have B1 := Lib.hid (show Below w.heap.size w W1 by rw [hW1]; exact box_new w _)
  have HS := Lib.hid (set_arg (some ⟨w.heap.size, 0, none⟩) n W1 h)
  clear h
  go_enter Tryz.func23, Tryz.ntmps23
  go_upto_region 2 with (fail)
  rw [← hW1]
  clear hW1
  go_wp2_with (go_at_call 47; refine HS.out.mono ?_; rintro e _ ⟨rfl, rfl⟩)
  go_ret2
  exact ⟨rfl, B1.out⟩
set_option maxRecDepth 100000 in
theorem New_yes (n : Int) (w : World) (h0 : 0 ≤ n) (h1 : n ≤ 1099511627776) : Calls Tryz.prog 23 #[.int .i64 n] w (Made w n) := by
  obtain ⟨W1, hW1⟩ : ∃ W1, W1 = w.alloc (.cells #[.bool true, .int .i64 0] 97) := ⟨_, rfl⟩
  have B1 := Lib.hid (show Below w.heap.size w W1 by rw [hW1]; exact box_new w _)
  have C1 := Lib.hid (show Ck W1 w.heap.size 0 true 0 by rw [hW1]; exact ck_new w true 0)
  have HS := Lib.hid (set_ok w.heap.size 0 0 n W1 C1.out h0 h1 h0)
  clear h0 h1
  go_enter Tryz.func23, Tryz.ntmps23
  go_upto_region 2 with (fail)
  rw [← hW1]
  clear hW1
  go_wp2_with (go_at_call 47; refine HS.out.mono ?_; rintro e w2 ⟨rfl, k⟩; have KK := Lib.hid k; clear k)
  go_ret2
  exact ⟨_, Nat.le_refl _, rfl, KK.out.ck C1.out, B1.out.trans (KK.out.but.below (Nat.le_refl _) B1.out.size)⟩
/-- The later one of two times, within what may be. -/
def clamp (n t : Int) : Int := min (max (max n t) 0) 1099511627776
/-- What stands while a statement runs: what was stays, the clock in its block. -/
structure Run (w : World) (B : Nat) (n : Int) (W : World) : Prop where
  bel : Below w.heap.size w W
  c : Ck W B 0 true n
  own : w.heap.size ≤ B
theorem Run.step {w W W' : World} {B : Nat} {n : Int} (h : Run w B n W) (hb : Below W.heap.size W W') : Run w B n W' := ⟨h.bel.trans (hb.mono h.bel.size), h.c.step hb, h.own⟩
theorem Run.turn {w W W' : World} {B : Nat} {n v : Int} (h : Run w B n W) (k : Set W B 0 v W') : Run w B v W' := ⟨h.bel.trans (k.but.below h.own h.bel.size), k.ck h.c, h.own⟩
end Go.Proofs.YtopnodkdpehdoaaGreatDoor.CloM
