/- keepsakeref11.Stale: the walk of its text. No conditions. -/
import Derived.Test.YteinbhhocnjjoaaDoorSloC
import Derived.Test.YteinbhhocnjjoaaDoorRNou
import Derived.Test.YteinbhhocnjjoaaDoorSlice
import Derived.Deep.DeepCutAuto
namespace Go.Proofs.YteinbhhocnjjoaaDoor.SloS
open Go.RowKit
open SloN SloC
theorem infoI : (Tryd.prog.info? 3).map (fun i => (i.zero, i.size, i.bytes)) = some (some (.int .i64 0), 1, 8) := by kernel_rfl
theorem own_len {w : World} {base n n' c : Nat} {a : Option Addr} {e : TypeId} {size : Nat} {xs : List Value} (h : w.ownsRow base e size (.slice a n' c) n xs) : n' = n := by
  rcases h.2 with ⟨hv, h0⟩ | ⟨g, c2, cur, hv, _⟩
  · injection hv with _ h2 _
    omega
  · injection hv with _ h2 _
/-- One number that was just laid, behind nothing. -/
theorem append_one {ops : Array Oper} {rest : List Oper} {o : Oper} {a : Act} {Q : Exit → Act → World → Prop} (w : World) (hgd : o.guard = none) (s x : Operand)
    (ho : o.op = .call { callee := .builtin .append, args := #[s, x], argTypes := #[39, 39] }) (v : Int) (hs : a.eval s = .slice none 0 0) (hx : a.eval x = .slice (some ⟨w.heap.size, 0, none⟩) 1 1)
    (h : ∀ ad c w', Row w' w'.heap.size ad 1 [v] → Below w.heap.size w w' → wpList Tryd.prog ops Q rest (a.put o.dst (.slice ad 1 c)) w') :
    wpList Tryd.prog ops Q (o :: rest) a (w.alloc (.cells #[.int .i64 v] 3)) := by
  obtain ⟨i0, hi0, hz0, hz1, hz2⟩ := info_parts infoI
  have hb : Below w.heap.size w (w.alloc (.cells #[.int .i64 v] 3)) := (Below.refl _ _).alloc (Nat.le_refl _) _
  have C6 : ∀ q u, ([.int .i64 v] : List Value)[q]? = some u → (w.alloc (.cells #[.int .i64 v] 3)).cell? ((⟨w.heap.size, 0, none⟩ : Addr).add q) = some u := by
    intro q u hu
    rw [Go.WideShapes.add_plain, Nat.zero_add]
    exact blk_cell (heap_alloc_new w _) (by show ([.int .i64 v] : List Value).toArray[q]? = _; rw [List.getElem?_toArray]; exact hu)
  refine wpList_append_own _ hgd s x 39 ho w.heap.size 3 i0 (.int .i64 0) 1 8 Tryd.underlying39 hi0 hz0 hz1 hz2 rfl (by omega) (.slice none 0 0) 0 [] hs ⟨rfl, .inl ⟨rfl, rfl⟩⟩ ⟨w.heap.size, 0, none⟩ 1 1 [.int .i64 v] hx rfl C6 (by simp [Value.oneCell']) (by unfold maxLen; omega) (by omega) hb.size ?_
  intro v7 w7 hown7 hg7 _
  obtain ⟨a7, n7, c7, rfl⟩ := own_slice hown7
  have hn := own_len hown7
  obtain rfl : n7 = 1 := by omega
  have hb7 : Below w.heap.size (w.alloc (.cells #[.int .i64 v] 3)) w7 := (Below.refl _ _).grown hg7 hb.size (fun q hq => by cases hq)
  exact h a7 c7 w7 (row_own (l := [v]) hown7) (hb.trans hb7)
theorem Stale_none (a b : List UInt8) (e : Int) (w : World) (h : ¬ may e ∨ (may e ∧ e % 2 = 1 ∧ a = empty) ∨ (may e ∧ e % 2 = 0 ∧ b = empty)) :
    Calls Tryd.prog 18 #[.string ⟨a.toArray⟩, .string ⟨b.toArray⟩, .int .i64 e] w fun r w' => r = .returned (.slice none 0 0) ∧ Below w.heap.size w w' := by
  have HR := Lib.hid (fun W => Right e W)
  have HN : Hid (∀ W, Calls Tryd.prog 13 #[.int .i64 4096] W fun r w' => r = .returned (.string ⟨empty.toArray⟩) ∧ Below W.heap.size W w') := Lib.hid (fun W => RNou.noughts 4096 W (by omega))
  go_enter Tryd.func18, Tryd.ntmps18
  rcases h with h | ⟨h, ho, he⟩ | ⟨h, ho, he⟩
  · rw [df h] at HR
    go_wp2_with (first
      | (go_at_call 25; refine (HR.out _).mono ?_; rintro r _ ⟨rfl, rfl⟩))
    go_ret
    exact ⟨rfl, Below.refl _ _⟩
  · rw [dt h] at HR
    have ht : e.tmod 2 = 1 := by rw [Int.tmod_eq_emod_of_nonneg h.1]; exact ho
    rw [← he] at HN
    clear h he
    go_wp2_with (first
      | (go_at_call 25; refine (HR.out _).mono ?_; rintro r _ ⟨rfl, rfl⟩)
      | (go_at_call 13; refine (HN.out _).mono ?_; rintro r w9 ⟨rfl, hb9⟩; have B9 := Lib.hid hb9; clear hb9))
    go_ret
    exact ⟨rfl, B9.out⟩
  · rw [dt h] at HR
    have ht : e.tmod 2 = 0 := by rw [Int.tmod_eq_emod_of_nonneg h.1]; exact ho
    rw [← he] at HN
    clear h he
    go_wp2_with (first
      | (go_at_call 25; refine (HR.out _).mono ?_; rintro r _ ⟨rfl, rfl⟩)
      | (go_at_call 13; refine (HN.out _).mono ?_; rintro r w9 ⟨rfl, hb9⟩; have B9 := Lib.hid hb9; clear hb9))
    go_ret
    exact ⟨rfl, B9.out⟩
theorem Stale_one (a b : List UInt8) (e v : Int) (w : World) (hm : may e) (h : (e % 2 = 1 ∧ (a == empty) = false ∧ v = 0) ∨ (e % 2 = 0 ∧ (b == empty) = false ∧ v = 1)) :
    Calls Tryd.prog 18 #[.string ⟨a.toArray⟩, .string ⟨b.toArray⟩, .int .i64 e] w fun r w' => (∃ ad c, r = .returned (.slice ad 1 c) ∧ Row w' w'.heap.size ad 1 [v]) ∧ Below w.heap.size w w' := by
  have HR := Lib.hid (fun W => Right e W)
  rw [dt hm] at HR
  have HN : Hid (∀ W, Calls Tryd.prog 13 #[.int .i64 4096] W fun r w' => r = .returned (.string ⟨empty.toArray⟩) ∧ Below W.heap.size W w') := Lib.hid (fun W => RNou.noughts 4096 W (by omega))
  generalize empty = z at *
  have ht : e.tmod 2 = e % 2 := Int.tmod_eq_emod_of_nonneg hm.1
  clear hm
  go_enter Tryd.func18, Tryd.ntmps18
  rcases h with ⟨ho, hn, rfl⟩ | ⟨ho, hn, rfl⟩
  all_goals
    rw [ho] at ht
    go_wp2_with (first
      | (go_at_call 25; refine (HR.out _).mono ?_; rintro r _ ⟨rfl, rfl⟩)
      | (go_at_call 13; refine (HN.out _).mono ?_; rintro r w9 ⟨rfl, hb9⟩; have B9 := Lib.hid hb9; clear hb9)
      | (at_builtin; refine append_one w9 rfl _ _ rfl _ rfl rfl ?_; intro ad c w10 hR10 hb10; have R10 := Lib.hid hR10; have B10 := Lib.hid (B9.out.trans (hb10.mono B9.out.size)); clear hR10 hb10))
    go_ret
    exact ⟨⟨_, _, rfl, R10.out⟩, B10.out⟩
/-- A slice that reads as these numbers. -/
def Gives (l : List Int) (r : Ending) (w : World) : Prop := ∃ ad n c, r = .returned (.slice ad n c) ∧ Row w w.heap.size ad n l
/-- A slice that reads as what is stale. -/
def Says (a b : List UInt8) (e : Int) (r : Ending) (w : World) : Prop := Gives (stale a b e) r w
theorem beq_no {s t : List UInt8} (h : ¬ s = t) : (s == t) = false := beq_eq_false_iff_ne.2 h
/-- What the document's Stale answers. -/
theorem Stale (a b : List UInt8) (e : Int) (w : World) :
    Calls Tryd.prog 18 #[.string ⟨a.toArray⟩, .string ⟨b.toArray⟩, .int .i64 e] w fun r w' => Says a b e r w' ∧ Below w.heap.size w w' := by
  have no : ∀ {r : Ending} {w' : World}, stale a b e = [] → (r = .returned (.slice none 0 0) ∧ Below w.heap.size w w') → Says a b e r w' ∧ Below w.heap.size w w' := by
    rintro r w' hs ⟨rfl, hb⟩
    exact ⟨⟨_, _, _, rfl, by rw [hs]; exact ⟨rfl, fun h => absurd h (by omega)⟩⟩, hb⟩
  have yes : ∀ {r : Ending} {w' : World} {v : Int}, stale a b e = [v] → ((∃ ad c, r = .returned (.slice ad 1 c) ∧ Row w' w'.heap.size ad 1 [v]) ∧ Below w.heap.size w w') → Says a b e r w' ∧ Below w.heap.size w w' := by
    rintro r w' v hs ⟨⟨ad, c, rfl, hr⟩, hb⟩
    exact ⟨⟨_, _, _, rfl, by rw [hs]; exact hr⟩, hb⟩
  by_cases h : may e
  · by_cases ho : e % 2 = 1
    · have hs := stale_odd (a := a) (b := b) h ho
      by_cases he : a = empty
      · rw [if_pos he] at hs
        exact (Stale_none a b e w (.inr (.inl ⟨h, ho, he⟩))).mono fun _ _ => no hs
      · rw [if_neg he] at hs
        exact (Stale_one a b e 0 w h (.inl ⟨ho, beq_no he, rfl⟩)).mono fun _ _ => yes hs
    · have hs := stale_even (a := a) (b := b) h ho
      have h2 : e % 2 = 0 := by omega
      by_cases he : b = empty
      · rw [if_pos he] at hs
        exact (Stale_none a b e w (.inr (.inr ⟨h, h2, he⟩))).mono fun _ _ => no hs
      · rw [if_neg he] at hs
        exact (Stale_one a b e 1 w h (.inr ⟨h2, beq_no he, rfl⟩)).mono fun _ _ => yes hs
  · exact (Stale_none a b e w (.inl h)).mono fun _ _ => no (stale_no h)
end Go.Proofs.YteinbhhocnjjoaaDoor.SloS
