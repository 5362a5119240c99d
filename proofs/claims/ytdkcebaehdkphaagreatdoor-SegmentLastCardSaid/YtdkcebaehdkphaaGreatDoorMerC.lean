/- The program's package merkle: other, isOf, isHash, areHashes, Leaf, Node, the makers of iterators: the walks of their texts; rows of texts in blocks that stay. No conditions but those that each lemma names. -/
import Derived.Test.YtdkcebaehdkphaaGreatDoorLMerG
import Derived.Test.YtdkcebaehdkphaaGreatDoorMerQ
import Derived.Test.YtdkcebaehdkphaaGreatDoorLHash
import Derived.Test.YtdkcebaehdkphaaGreatDoorLSum
import Derived.Test.YtdkcebaehdkphaaGreatDoorLRsum
import Derived.Deep.QuietTactic
import Derived.BigQuiet
namespace Go.Proofs.YtdkcebaehdkphaaGreatDoor.MerC
open Go.RowKit STurn SSum MerG MerQ MerN MerM
theorem getD_at (ls : List L) (j : Nat) (h : j < ls.length) : ls.getD j [] = ls[j] := by simp [List.getD, h]
/-- A text. -/
abbrev str (l : L) : Value := .string ⟨l.toArray⟩
/-- The function that the program sums by. -/
abbrev sv : Value := .func (.func 34) #[] #[]
/-- A row of texts, in a block of K. -/
def RowK (K : Nat → Prop) (w : World) (a : Option Addr) (n : Nat) (ls : List L) : Prop :=
  ls.length = n ∧ (0 < n → ∃ b off, a = some ⟨b, off, none⟩ ∧ K b ∧ ∀ i, i < n → w.cell? ⟨b, off + i, none⟩ = some (str (ls.getD i [])))
theorem RowK.kept {K K' : Nat → Prop} {w w' : World} {a : Option Addr} {n : Nat} {ls : List L} (h : RowK K w a n ls) (hk : Kept K' w w') (hK : ∀ b, K b → K' b) : RowK K w' a n ls :=
  ⟨h.1, fun hn => by
    obtain ⟨b, off, e, hb, hc⟩ := h.2 hn
    exact ⟨b, off, e, hb, fun i hi => hk.cell (p := ⟨b, off + i, none⟩) (hc i hi) (hK b hb)⟩⟩
theorem RowK.mono {K K' : Nat → Prop} {w : World} {a : Option Addr} {n : Nat} {ls : List L} (h : RowK K w a n ls) (hK : ∀ b, K b → K' b) : RowK K' w a n ls :=
  ⟨h.1, fun hn => by
    obtain ⟨b, off, e, hb, hc⟩ := h.2 hn
    exact ⟨b, off, e, hK b hb, hc⟩⟩
theorem RowK.strs {K : Nat → Prop} {w : World} {a : Option Addr} {n : Nat} {ls : List L} (h : RowK K w a n ls) : Strs w w.heap.size a n ls :=
  ⟨h.1, fun hn => by
    obtain ⟨b, off, e, _, hc⟩ := h.2 hn
    exact ⟨b, off, e, World.block_lt_of_cell? w _ (hc 0 hn), hc⟩⟩
theorem RowK.of {K : Nat → Prop} {B : Nat} {w : World} {a : Option Addr} {n : Nat} {ls : List L} (h : Strs w B a n ls) (hK : ∀ b, b < B → K b) : RowK K w a n ls :=
  ⟨h.1, fun hn => by
    obtain ⟨b, off, e, hb, hc⟩ := h.2 hn
    exact ⟨b, off, e, hK b hb, hc⟩⟩
theorem RowK.below {K : Nat → Prop} {w w' : World} {a : Option Addr} {n : Nat} {ls : List L} (h : RowK K w a n ls) (hb : Below w.heap.size w w') : RowK K w' a n ls :=
  ⟨h.1, fun hn => by
    obtain ⟨b, off, e, hk, hc⟩ := h.2 hn
    exact ⟨b, off, e, hk, fun i hi => (hb.cell (p := ⟨b, off + i, none⟩) (World.block_lt_of_cell? w _ (hc i hi))).trans (hc i hi)⟩⟩
theorem RowK.putObj {K : Nat → Prop} {w : World} {a : Option Addr} {n l : Nat} {ls : List L} {o : Obj} (h : RowK K w a n ls) (hl : w.heap[l]? = some o) (ho : o.isCells = false) (o' : Obj) : RowK K (w.putObj l o') a n ls :=
  ⟨h.1, fun hn => by
    obtain ⟨b, off, e, hk, hc⟩ := h.2 hn
    exact ⟨b, off, e, hk, fun i hi => cell_kept (hc i hi) (grownBy_putObj' w l o') (fun r e => by cases e; exact ⟨o, hl, ho⟩)⟩⟩
theorem rds_kept {K : Nat → Prop} {w w' : World} (h : Rds w) (hk : Kept K w w') (hK : K 0) : Rds w' := fun i hi => hk.cell (p := ⟨_, i, none⟩) (h i hi) hK
/-- Where what stands beside stands. -/
def oth (i : Nat) : Nat := if i % 2 = 1 then i - 1 else i + 1
theorem oth_xor (i : Nat) : i ^^^ 1 = oth i := by
  unfold oth
  apply Nat.eq_of_testBit_eq
  intro j
  have hd : i % 2 = 1 ∨ i % 2 = 0 := by omega
  rcases hd with h | h
  · rw [if_pos h]
    obtain ⟨k, rfl⟩ : ∃ k, i = 2 * k + 1 := ⟨i / 2, by omega⟩
    rw [Nat.add_sub_cancel, Nat.testBit_xor]
    cases j with
    | zero => simp
    | succ j => simp [Nat.testBit_succ, show (2 * k + 1) / 2 = k by omega]
  · rw [if_neg (by omega)]
    obtain ⟨k, rfl⟩ : ∃ k, i = 2 * k := ⟨i / 2, by omega⟩
    rw [Nat.testBit_xor]
    cases j with
    | zero => simp
    | succ j => simp [Nat.testBit_succ, show (2 * k + 1) / 2 = k by omega]
theorem other (i : Nat) (hi : i ≤ 4611686018427387904) (w : World) : Calls Tryz.prog 116 #[.int .i64 (i : Int)] w fun e w' => e = .returned (.int .i64 (oth i : Nat)) ∧ w = w' := by
  have ho := oth_xor i
  have hl : oth i ≤ i + 1 := by unfold oth; split <;> omega
  generalize oth i = o at *
  go_enter Tryz.func116, Tryz.ntmps116
  go_wp2
  go_ret
  have hx := RRot.i64_xor i 1 (by omega) (by omega)
  rw [ho] at hx
  exact ⟨by rw [← hx]; rfl, rfl⟩
theorem isOf (n i : Int) (w : World) : Calls Tryz.prog 92 #[.int .i64 n, .int .i64 i] w fun e w' => e = .returned (.bool (decide (0 ≤ i ∧ i < n))) ∧ w = w' := by
  obtain ⟨b, hb⟩ : ∃ b : Bool, decide (0 ≤ i ∧ i < n) = b := ⟨_, rfl⟩
  rw [hb]
  by_cases h0 : 0 ≤ i
  · by_cases h1 : i < n
    · obtain rfl : b = true := by rw [← hb]; exact decide_eq_true ⟨h0, h1⟩
      clear hb
      go_enter Tryz.func92, Tryz.ntmps92
      go_wp2
      go_ret
      exact ⟨rfl, rfl⟩
    · obtain rfl : b = false := by rw [← hb]; exact decide_eq_false (fun h => h1 h.2)
      clear hb
      have h2 : n ≤ i := by omega
      go_enter Tryz.func92, Tryz.ntmps92
      go_wp2
      go_ret
      exact ⟨rfl, rfl⟩
  · obtain rfl : b = false := by rw [← hb]; exact decide_eq_false (fun h => h0 h.1)
    clear hb
    have h2 : i < 0 := by omega
    go_enter Tryz.func92, Tryz.ntmps92
    go_wp2
    go_ret
    exact ⟨rfl, rfl⟩
theorem isHash (l : L) (_ : l.length ≤ 9223372036854775807) (w : World) : Calls Tryz.prog 112 #[str l] w fun e w' => e = .returned (.bool (decide (l.length = 32))) ∧ w = w' := by
  obtain ⟨b, hb⟩ : ∃ b : Bool, decide (l.length = 32) = b := ⟨_, rfl⟩
  rw [hb]
  have he : ((l.length : Int) == 32) = b := by
    rw [← hb]
    by_cases h : l.length = 32
    · rw [decide_eq_true h]; simp [h]
    · rw [decide_eq_false h]; simp; omega
  clear hb
  go_enter Tryz.func112, Tryz.ntmps112
  go_wp2
  go_ret
  exact ⟨rfl, rfl⟩
theorem unlike (l : L) (hl : l.length ≤ 9223372036854775807) (w : World) : Calls Tryz.prog 111 #[str l] w fun e w' => e = .returned (.bool (!decide (l.length = 32))) ∧ w = w' := by
  have H := Lib.hid (isHash l hl w)
  generalize decide (l.length = 32) = b at *
  go_enter Tryz.func111, Tryz.ntmps111
  go_wp2_with (go_at_call 112; refine H.out.mono ?_; rintro e w' ⟨rfl, rfl⟩)
  go_ret
  exact ⟨rfl, rfl⟩
/-- Are all hashes? -/
def all32 (ls : List L) : Bool := ls.all fun l => decide (l.length = 32)
/-- The first that is none. -/
theorem index (a : Option Addr) (n c : Nat) (ls : List L) (w : World) (h : Strs w w.heap.size a n ls) (hn : n ≤ 1000000) (hl : ∀ l ∈ ls, l.length ≤ 9223372036854775807) :
    Calls Tryz.prog 127 #[.slice a n c, .func (.func 111) #[] #[]] w fun e w' => (∃ k : Int, e = .returned (.int .i64 k) ∧ decide (0 ≤ k) = !all32 ls) ∧ w = w' := by
  have HH := Lib.hid h
  have HL := Lib.hid hl
  clear h hl
  go_enter Tryz.func127, Tryz.ntmps127
  go_wp2
  go_loopw [8] (fun i wr => ∃ j : Nat, j ≤ n ∧ i = .int .i64 j ∧ all32 (ls.take j) = true ∧ wr = w) (fun i _ => n - (intOf i).toNat)
  case atStart => exact ⟨0, Nat.zero_le _, rfl, rfl, rfl⟩
  case round =>
    obtain ⟨j, hj, rfl, ht, rfl⟩ := hrel
    have HT := Lib.hid ht
    clear ht
    by_cases hlt : j < n
    · obtain ⟨q, off, rfl, hq, hc⟩ := HH.out.2 (by omega)
      have hcj := hc j hlt
      have hjl : j < ls.length := by rw [HH.out.1]; exact hlt
      have HU := Lib.hid (unlike (ls.getD j []) (HL.out _ (by rw [getD_at _ _ hjl]; exact List.getElem_mem hjl)) wr)
      have HN : Hid (all32 (ls.take (j + 1)) = (all32 (ls.take j) && decide ((ls.getD j []).length = 32))) := Lib.hid (by
        rw [List.take_succ_eq_append_getElem hjl, getD_at _ _ hjl]; unfold all32; rw [List.all_append]; simp only [List.all_cons, List.all_nil, Bool.and_true])
      have HA : Hid (decide ((ls.getD j []).length = 32) = false → all32 ls = false) := Lib.hid (fun h => by
        rw [getD_at _ _ hjl] at h
        unfold all32
        rw [List.all_eq_false]
        exact ⟨_, List.getElem_mem hjl, by rw [h]; simp⟩)
      clear hc
      generalize ls.getD j [] = x at *
      generalize decide (x.length = 32) = b at *
      have q0 : (0 : Int) ≤ (j : Int) := by omega
      have q1 : (j : Int) < (n : Int) := by omega
      cases b
      · go_wp2_with (go_at_call 111; refine HU.out.mono ?_; rintro e w' ⟨rfl, rfl⟩)
        go_ret
        exact ⟨⟨_, rfl, by rw [HA.out (by trivial)]; simp⟩, rfl⟩
      · go_wp2_with (go_at_call 111; refine HU.out.mono ?_; rintro e w' ⟨rfl, rfl⟩)
        go_roundw
        case rel => exact ⟨j + 1, by omega, by go_num, by rw [HN.out, HT.out]; rfl, by trivial⟩
        case measure => simp [intOf]; omega
    · obtain rfl : j = n := by omega
      have ha : all32 ls = true := by rw [← HT.out, List.take_of_length_le (by rw [HH.out.1]; exact Nat.le_refl _)]
      have HA := Lib.hid ha
      clear ha
      go_wp2
      go_ret
      exact ⟨⟨-1, rfl, by rw [HA.out]; rfl⟩, rfl⟩
theorem contains (a : Option Addr) (n c : Nat) (ls : List L) (w : World) (h : Strs w w.heap.size a n ls) (hn : n ≤ 1000000) (hl : ∀ l ∈ ls, l.length ≤ 9223372036854775807) :
    Calls Tryz.prog 110 #[.slice a n c, .func (.func 111) #[] #[]] w fun e w' => e = .returned (.bool (!all32 ls)) ∧ w = w' := by
  have HI := Lib.hid (index a n c ls w h hn hl)
  clear h hl
  generalize (!all32 ls) = b at *
  go_enter Tryz.func110, Tryz.ntmps110
  go_wp2_with (go_at_call 127; refine HI.out.mono ?_; rintro e w' ⟨⟨k, rfl, hk⟩, rfl⟩; have HK := Lib.hid hk; clear hk)
  go_ret
  exact ⟨by rw [← HK.out]; rfl, rfl⟩
theorem areHashes (a : Option Addr) (n c : Nat) (ls : List L) (w : World) (h : Strs w w.heap.size a n ls) (hn : n ≤ 1000000) (hl : ∀ l ∈ ls, l.length ≤ 9223372036854775807) :
    Calls Tryz.prog 90 #[.slice a n c] w fun e w' => e = .returned (.bool (all32 ls)) ∧ w = w' := by
  have HI := Lib.hid (contains a n c ls w h hn hl)
  clear h hl
  generalize all32 ls = b at *
  go_enter Tryz.func90, Tryz.ntmps90
  go_wp2_with (go_at_call 110; refine HI.out.mono ?_; rintro e w' ⟨rfl, rfl⟩)
  go_ret
  exact ⟨by simp, rfl⟩
/-- What Sum answers of a row that has just been laid. -/
theorem summed (ls : List L) (n : Nat) (hn : ls.length = n) (h9 : n ≤ 9) (hl : ls.flatten.length ≤ 576460752303423488) (cs : Array Value) (hcs : cs = (ls.map str).toArray) (w : World) (hr : Rds w) :
    Calls Tryz.prog 34 #[.slice (some ⟨w.heap.size, 0, none⟩) n n] (w.alloc (.cells cs 9)) fun r w' => r = .returned (str (sum ls.flatten)) ∧ Below w.heap.size w w' := by
  have hb : Below w.heap.size w (w.alloc (.cells cs 9)) := (Below.refl _ _).alloc (Nat.le_refl _) _
  have hs : SSum.Strs (w.alloc (.cells cs 9)) (w.alloc (.cells cs 9)).heap.size (some ⟨w.heap.size, 0, none⟩) n ls :=
    ⟨hn, fun _ => ⟨_, _, rfl, by simp, fun i hi => by
      rw [hcs]
      refine blk_cell (heap_alloc_new w _) ?_
      have hi' : i < ls.length := by omega
      simp [List.getD, hi']⟩⟩
  have := SSum.sums _ n n ls _ hs (hr.step hb) hl (by omega)
  exact this.mono fun r w' ⟨h1, h2⟩ => ⟨h1, hb.trans (h2.mono hb.size)⟩
theorem summed_one (s : L) (hs : s.length ≤ 1000000) (w : World) (hr : Rds w) :
    Calls Tryz.prog 34 #[.slice (some ⟨w.heap.size, 0, none⟩) 1 1] (w.alloc (.cells #[str s] 9)) fun r w' => r = .returned (str (sum s)) ∧ Below w.heap.size w w' := by
  have := summed [s] 1 rfl (by omega) (by simp; omega) _ rfl w hr
  rwa [show [s].flatten = s by simp] at this
theorem summed_leaf (s : L) (hs : s.length ≤ 1000000) (w : World) (hr : Rds w) :
    Calls Tryz.prog 34 #[.slice (some ⟨w.heap.size, 0, none⟩) 2 2] (w.alloc (.cells #[.string { data := #[0] }, str s] 9)) fun r w' => r = .returned (str (sum (0 :: s))) ∧ Below w.heap.size w w' := by
  have := summed [[0], s] 2 rfl (by omega) (by simp; omega) _ rfl w hr
  rwa [show [[0], s].flatten = 0 :: s by simp] at this
theorem summed_node (s t : L) (hs : s.length ≤ 1000000) (ht : t.length ≤ 1000000) (w : World) (hr : Rds w) :
    Calls Tryz.prog 34 #[.slice (some ⟨w.heap.size, 0, none⟩) 3 3] (w.alloc (.cells #[.string { data := #[1] }, str s, str t] 9)) fun r w' => r = .returned (str (nd s t)) ∧ Below w.heap.size w w' := by
  have := summed [[1], s, t] 3 rfl (by omega) (by simp; omega) _ rfl w hr
  rwa [show [[1], s, t].flatten = 1 :: (s ++ t) by simp] at this
theorem summed_none (w : World) (hr : Rds w) :
    Calls Tryz.prog 34 #[.slice none 0 0] w fun r w' => r = .returned (str (sum [])) ∧ Below w.heap.size w w' :=
  SSum.sums none 0 0 [] w ⟨rfl, fun h => absurd h (by omega)⟩ hr (by simp) (by omega)
theorem Leaf (s : L) (hs : s.length ≤ 1000000) (w : World) (hr : Rds w) :
    Calls Tryz.prog 51 #[str s] w fun r w' => r = .returned (str (sum (0 :: s))) ∧ Below w.heap.size w w' := by
  have HS := Lib.hid (summed_leaf s hs w hr)
  clear hs hr
  go_enter Tryz.func51, Tryz.ntmps51
  go_wp2_with (go_at_call 34; refine HS.out.mono ?_; rintro r w' ⟨rfl, hb⟩; have HB := Lib.hid hb; clear hb)
  go_ret
  exact ⟨rfl, HB.out⟩
end Go.Proofs.YtdkcebaehdkphaaGreatDoor.MerC
