/- SloS SloT: one behind the other. -/
import Derived.Test.YtoilcieineejiaaGreatDoorLSlc
import Derived.Test.YtoilcieineejiaaGreatDoorLRef
import Derived.Test.YtoilcieineejiaaGreatDoorLMem
import Derived.Deep.DeepCutAuto
import Derived.Test.YtoilcieineejiaaGreatDoorLSlv
import Derived.LoopN
/- keepsakeref11.Stale: the walk of its text. No conditions. -/
namespace Go.Proofs.YtoilcieineejiaaGreatDoor.SloS
open Go.RowKit
open SloN SloC
theorem infoI : (Tryz.prog.info? 3).map (fun i => (i.zero, i.size, i.bytes)) = some (some (.int .i64 0), 1, 8) := by kernel_rfl
theorem own_len {w : World} {base n n' c : Nat} {a : Option Addr} {e : TypeId} {size : Nat} {xs : List Value} (h : w.ownsRow base e size (.slice a n' c) n xs) : n' = n := by
  rcases h.2 with ⟨hv, h0⟩ | ⟨g, c2, cur, hv, _⟩
  · injection hv with _ h2 _
    omega
  · injection hv with _ h2 _
/-- One number that was just laid, behind nothing. -/
theorem append_one {ops : Array Oper} {rest : List Oper} {o : Oper} {a : Act} {Q : Exit → Act → World → Prop} (w : World) (hgd : o.guard = none) (s x : Operand)
    (ho : o.op = .call { callee := .builtin .append, args := #[s, x], argTypes := #[23, 23] }) (v : Int) (hs : a.eval s = .slice none 0 0) (hx : a.eval x = .slice (some ⟨w.heap.size, 0, none⟩) 1 1)
    (h : ∀ ad c w', Row w' w'.heap.size ad 1 [v] → Below w.heap.size w w' → wpList Tryz.prog ops Q rest (a.put o.dst (.slice ad 1 c)) w') :
    wpList Tryz.prog ops Q (o :: rest) a (w.alloc (.cells #[.int .i64 v] 3)) := by
  obtain ⟨i0, hi0, hz0, hz1, hz2⟩ := info_parts infoI
  have hb : Below w.heap.size w (w.alloc (.cells #[.int .i64 v] 3)) := (Below.refl _ _).alloc (Nat.le_refl _) _
  have C6 : ∀ q u, ([.int .i64 v] : List Value)[q]? = some u → (w.alloc (.cells #[.int .i64 v] 3)).cell? ((⟨w.heap.size, 0, none⟩ : Addr).add q) = some u := by
    intro q u hu
    rw [Go.WideShapes.add_plain, Nat.zero_add]
    exact blk_cell (heap_alloc_new w _) (by show ([.int .i64 v] : List Value).toArray[q]? = _; rw [List.getElem?_toArray]; exact hu)
  refine wpList_append_own _ hgd s x 23 ho w.heap.size 3 i0 (.int .i64 0) 1 8 Tryz.underlying23 hi0 hz0 hz1 hz2 rfl (by omega) (.slice none 0 0) 0 [] hs ⟨rfl, .inl ⟨rfl, rfl⟩⟩ ⟨w.heap.size, 0, none⟩ 1 1 [.int .i64 v] hx rfl C6 (by simp [Value.oneCell']) (by unfold maxLen; omega) (by omega) hb.size ?_
  intro v7 w7 hown7 hg7 _
  obtain ⟨a7, n7, c7, rfl⟩ := own_slice hown7
  have hn := own_len hown7
  obtain rfl : n7 = 1 := by omega
  have hb7 : Below w.heap.size (w.alloc (.cells #[.int .i64 v] 3)) w7 := (Below.refl _ _).grown hg7 hb.size (fun q hq => by cases hq)
  exact h a7 c7 w7 (row_own (l := [v]) hown7) (hb.trans hb7)
/-- A slice that reads as these numbers. -/
def Gives (l : List Int) (r : Ending) (w : World) : Prop := ∃ ad n c, r = .returned (.slice ad n c) ∧ Row w w.heap.size ad n l
/-- A slice that reads as what is stale. -/
def Says (a b : List UInt8) (e : Int) (r : Ending) (w : World) : Prop := Gives (stale a b e) r w
theorem beq_no {s t : List UInt8} (h : ¬ s = t) : (s == t) = false := beq_eq_false_iff_ne.2 h
end Go.Proofs.YtoilcieineejiaaGreatDoor.SloS
/- slots.Stale and its closure: the walks of their texts. No conditions. -/
namespace Go.Proofs.YtoilcieineejiaaGreatDoor.SloT
open Go.RowKit
open SloN SloC SloV SloS
/-- What Stale's closure keeps: the epoch's box and both blocks. -/
structure Cl (W : World) (E X : Nat) (e : Int) (a b : List UInt8) : Prop where
  ep : W.heap[E]? = some (.cells #[.int .i64 e] 3 (0, 0))
  bk : Bk W X 167 a b
theorem Cl.step {W W' : World} {E X : Nat} {e : Int} {a b : List UInt8} (h : Cl W E X e a b) (hb : Below W.heap.size W W') : Cl W' E X e a b :=
  ⟨(hb.block _ (Array.getElem?_eq_some_iff.1 h.ep).1).trans h.ep, h.bk.step hb⟩
theorem told_same (i e : Int) (E X : Nat) (a b : List UInt8) (w : World) (h : Cl w E X e a b) (h0 : 0 ≤ e) (hi : i = e % 2) :
    Calls Tryz.prog 147 #[.int .i64 i, .pointer (some ⟨E, 0, none⟩), .pointer (some ⟨X, 0, none⟩)] w fun r w' => r = .returned (.bool false) ∧ Below w.heap.size w w' := by
  have HL := Lib.hid (fun W => place e W h0)
  rw [← hi] at HL
  have k0 : w.cell? ⟨E, 0, none⟩ = some (.int .i64 e) := blk_cell h.ep rfl
  clear h hi
  go_enter Tryz.func147, Tryz.ntmps147
  go_wp2_with (go_at_call 124; refine (HL.out _).mono ?_; rintro r _ ⟨rfl, rfl⟩)
  go_ret
  exact ⟨rfl, Below.refl _ _⟩
theorem told_other (i e p : Int) (E X : Nat) (a b s : List UInt8) (r : Bool) (w : World) (h : Cl w E X e a b) (h0 : 0 ≤ e) (hp : e % 2 = p) (hi : (i = 0 ∧ p = 1 ∧ a = s) ∨ (i = 1 ∧ p = 0 ∧ b = s)) (hr : decide (s = empty) = r) :
    Calls Tryz.prog 147 #[.int .i64 i, .pointer (some ⟨E, 0, none⟩), .pointer (some ⟨X, 0, none⟩)] w fun q w' => q = .returned (.bool (!r)) ∧ Below w.heap.size w w' := by
  have HL := Lib.hid (fun W => place e W h0)
  rw [hp] at HL
  have HI := Lib.hid (fun W => isEmpty s W)
  rw [hr] at HI
  have k0 : w.cell? ⟨E, 0, none⟩ = some (.int .i64 e) := blk_cell h.ep rfl
  obtain ⟨x0, x1⟩ := h.bk.cells
  clear h hp hr
  go_enter Tryz.func147, Tryz.ntmps147
  rcases hi with ⟨rfl, rfl, hs⟩ | ⟨rfl, rfl, hs⟩ <;> subst hs
  all_goals
    go_wp2_with (first
      | (go_at_call 124; refine (HL.out _).mono ?_; rintro r _ ⟨rfl, rfl⟩)
      | (go_at_call 144; refine (HI.out _).mono ?_; rintro q w9 ⟨rfl, hb9⟩; have B9 := Lib.hid hb9; clear hb9))
    go_ret
    exact ⟨rfl, B9.out⟩
theorem makes (fn : Fn) (first cap : Array Value) (w : World) : (Instr.makeFunc fn first cap).run Tryz.prog w = .ok (.func fn first cap) w := rfl
theorem cl_new (e : Int) (a b : List UInt8) (w : World) :
    Below w.heap.size w ((w.alloc (.cells #[.int .i64 e] 3)).alloc (.cells #[.string ⟨a.toArray⟩, .string ⟨b.toArray⟩] 167)) ∧
    Cl ((w.alloc (.cells #[.int .i64 e] 3)).alloc (.cells #[.string ⟨a.toArray⟩, .string ⟨b.toArray⟩] 167)) w.heap.size (w.heap.size + 1) e a b := by
  have hs : (w.alloc (.cells #[.int .i64 e] 3)).heap.size = w.heap.size + 1 := by simp
  have h1 : Below (w.heap.size + 1) (w.alloc (.cells #[.int .i64 e] 3)) ((w.alloc (.cells #[.int .i64 e] 3)).alloc (.cells #[.string ⟨a.toArray⟩, .string ⟨b.toArray⟩] 167)) := (Below.refl _ _).alloc (by omega) _
  have h2 := heap_alloc_new (w.alloc (.cells #[.int .i64 e] 3)) (.cells #[.string ⟨a.toArray⟩, .string ⟨b.toArray⟩] 167)
  rw [hs] at h2
  have h0 : Below w.heap.size w (w.alloc (.cells #[.int .i64 e] 3)) := (Below.refl _ _).alloc (Nat.le_refl _) _
  exact ⟨h0.trans (h1.mono (by omega)), (h1.block _ (by omega)).trans (heap_alloc_new w _), h2⟩
theorem Stale_no (a b : List UInt8) (e : Int) (w : World) (h : ¬ may e) :
    Calls Tryz.prog 126 #[.string ⟨a.toArray⟩, .string ⟨b.toArray⟩, .int .i64 e] w fun r w' => r = .returned (.slice none 0 0) ∧ Below w.heap.size w w' := by
  have HR := Lib.hid (fun W => isEpoch e W)
  rw [df h] at HR
  clear h
  go_enter Tryz.func126, Tryz.ntmps126
  go_wp2_with (go_at_call 74; refine (HR.out _).mono ?_; rintro r _ ⟨rfl, rfl⟩)
  go_ret
  exact ⟨rfl, (Below.refl _ _).alloc (Nat.le_refl _) _⟩
theorem other_of {a b s : List UInt8} {p o : Int} (h : (p = 1 ∧ o = 0 ∧ a = s) ∨ (p = 0 ∧ o = 1 ∧ b = s)) : (o = 0 ∧ p = 1 ∧ a = s) ∨ (o = 1 ∧ p = 0 ∧ b = s) := by
  rcases h with ⟨rfl, rfl, h⟩ | ⟨rfl, rfl, h⟩
  · exact .inl ⟨rfl, rfl, h⟩
  · exact .inr ⟨rfl, rfl, h⟩
set_option maxRecDepth 100000 in
set_option maxHeartbeats 1000000 in
theorem Stale_may (a b s : List UInt8) (e p o : Int) (q : Bool) (w : World) (h : may e) (hp : e % 2 = p) (hi : (p = 1 ∧ o = 0 ∧ a = s) ∨ (p = 0 ∧ o = 1 ∧ b = s)) (hq : decide (s = empty) = q) :
    Calls Tryz.prog 126 #[.string ⟨a.toArray⟩, .string ⟨b.toArray⟩, .int .i64 e] w fun r w' => Gives (if q then [] else [o]) r w' ∧ Below w.heap.size w w' := by
  have HR := Lib.hid (fun W => isEpoch e W)
  rw [dt h] at HR
  obtain ⟨W3, hW3⟩ : ∃ W3, W3 = (w.alloc (.cells #[.int .i64 e] 3)).alloc (.cells #[.string ⟨a.toArray⟩, .string ⟨b.toArray⟩] 167) := ⟨_, rfl⟩
  obtain ⟨hb, hc⟩ := cl_new e a b w
  rw [← hW3] at hb hc
  have BB := Lib.hid hb
  have CC := Lib.hid hc
  have HS := Lib.hid (fun W (hc : Cl W w.heap.size (w.heap.size + 1) e a b) => told_same p e w.heap.size (w.heap.size + 1) a b W hc h.1 hp.symm)
  have HO := Lib.hid (fun W (hc : Cl W w.heap.size (w.heap.size + 1) e a b) => told_other o e p w.heap.size (w.heap.size + 1) a b s q W hc h.1 hp (other_of hi) hq)
  have hmf := makes
  clear h hp hq hb hc
  go_enter Tryz.func126, Tryz.ntmps126
  go_upto_region 4 with (go_at_call 74; refine (HR.out _).mono ?_; rintro r _ ⟨rfl, rfl⟩)
  rw [← hW3]
  clear hW3 HR
  generalize w.heap.size + 1 = X at *
  have hp : (p = 1 ∧ o = 0) ∨ (p = 0 ∧ o = 1) := hi.imp (fun h => ⟨h.1, h.2.1⟩) (fun h => ⟨h.1, h.2.1⟩)
  clear hi
  rcases hp with ⟨rfl, rfl⟩ | ⟨rfl, rfl⟩
  · go_wp2_with fail
    refine wp_loop_rounds 3 ?_
    rw [rounds_succ]
    cases q
    · go_wp2_with (first
        | (go_at_call 147; refine (HO.out _ CC.out).mono ?_; rintro r w4 ⟨rfl, hb4⟩; have C4 := Lib.hid (CC.out.step hb4); have B4 := Lib.hid (BB.out.trans (hb4.mono BB.out.size)); clear hb4)
        | (at_builtin; refine append_one w4 rfl _ _ rfl _ rfl rfl ?_; intro ad c w5 hR5 hb5; have R5 := Lib.hid hR5; have C5 := Lib.hid (C4.out.step hb5); have B5 := Lib.hid (B4.out.trans (hb5.mono B4.out.size)); clear hR5 hb5))
      rw [rounds_succ]
      go_wp2_with (first
        | (go_at_call 147; refine (HS.out _ C5.out).mono ?_; rintro r w6 ⟨rfl, hb6⟩; have R6 := Lib.hid ((R5.out.below hb6).more hb6.size); have B6 := Lib.hid (B5.out.trans (hb6.mono B5.out.size)); clear hb6))
      rw [rounds_succ]
      go_wp2_with fail
      go_ret
      exact ⟨⟨_, _, _, rfl, R6.out⟩, B6.out⟩
    · go_wp2_with (first
        | (go_at_call 147; refine (HO.out _ CC.out).mono ?_; rintro r w4 ⟨rfl, hb4⟩; have C4 := Lib.hid (CC.out.step hb4); have B4 := Lib.hid (BB.out.trans (hb4.mono BB.out.size)); clear hb4))
      rw [rounds_succ]
      go_wp2_with (first
        | (go_at_call 147; refine (HS.out _ C4.out).mono ?_; rintro r w6 ⟨rfl, hb6⟩; have B6 := Lib.hid (B4.out.trans (hb6.mono B4.out.size)); clear hb6))
      rw [rounds_succ]
      go_wp2_with fail
      go_ret
      exact ⟨⟨_, _, _, rfl, rfl, fun h => absurd h (by omega)⟩, B6.out⟩
  · go_wp2_with fail
    refine wp_loop_rounds 3 ?_
    rw [rounds_succ]
    go_wp2_with (first
      | (go_at_call 147; refine (HS.out _ CC.out).mono ?_; rintro r w4 ⟨rfl, hb4⟩; have C4 := Lib.hid (CC.out.step hb4); have B4 := Lib.hid (BB.out.trans (hb4.mono BB.out.size)); clear hb4))
    rw [rounds_succ]
    cases q
    · go_wp2_with (first
        | (go_at_call 147; refine (HO.out _ C4.out).mono ?_; rintro r w5 ⟨rfl, hb5⟩; have B5 := Lib.hid (B4.out.trans (hb5.mono B4.out.size)); clear hb5)
        | (at_builtin; refine append_one w5 rfl _ _ rfl _ rfl rfl ?_; intro ad c w6 hR6 hb6; have R6 := Lib.hid hR6; have B6 := Lib.hid (B5.out.trans (hb6.mono B5.out.size)); clear hR6 hb6))
      rw [rounds_succ]
      go_wp2_with fail
      go_ret
      exact ⟨⟨_, _, _, rfl, R6.out⟩, B6.out⟩
    · go_wp2_with (first
        | (go_at_call 147; refine (HO.out _ C4.out).mono ?_; rintro r w5 ⟨rfl, hb5⟩; have B5 := Lib.hid (B4.out.trans (hb5.mono B4.out.size)); clear hb5))
      rw [rounds_succ]
      go_wp2_with fail
      go_ret
      exact ⟨⟨_, _, _, rfl, rfl, fun h => absurd h (by omega)⟩, B5.out⟩
/-- What slots.Stale answers. -/
theorem Stale (a b : List UInt8) (e : Int) (w : World) :
    Calls Tryz.prog 126 #[.string ⟨a.toArray⟩, .string ⟨b.toArray⟩, .int .i64 e] w fun r w' => Says a b e r w' ∧ Below w.heap.size w w' := by
  by_cases h : may e
  · by_cases ho : e % 2 = 1
    · have hs := stale_odd (a := a) (b := b) h ho
      refine (Stale_may a b a e 1 0 _ w h ho (.inl ⟨rfl, rfl, rfl⟩) rfl).mono fun r w' ⟨⟨ad, n, c, hr, hrow⟩, hb⟩ => ⟨⟨ad, n, c, hr, ?_⟩, hb⟩
      rw [hs]
      by_cases he : a = empty
      · simpa [he] using hrow
      · simpa [he] using hrow
    · have hs := stale_even (a := a) (b := b) h ho
      refine (Stale_may a b b e 0 1 _ w h (by omega) (.inr ⟨rfl, rfl, rfl⟩) rfl).mono fun r w' ⟨⟨ad, n, c, hr, hrow⟩, hb⟩ => ⟨⟨ad, n, c, hr, ?_⟩, hb⟩
      rw [hs]
      by_cases he : b = empty
      · simpa [he] using hrow
      · simpa [he] using hrow
  · refine (Stale_no a b e w h).mono fun r w' ⟨hr, hb⟩ => ⟨⟨_, _, _, hr, ?_⟩, hb⟩
    rw [stale_no h]
    exact ⟨rfl, fun hh => absurd hh (by omega)⟩
end Go.Proofs.YtoilcieineejiaaGreatDoor.SloT
