/- The program's disk: New: the walk of its text; strings.Repeat by the library's own contract. No conditions but those that each lemma names. -/
import Derived.Test.YtofpflkkbkodaaaDkR
namespace Go.Proofs.Ytofpflkkbkodaaa.DkNew
open Go.RowKit
open DkN DkM DkR
theorem repeated (k : Nat) (w : World) (h : k ≤ 65536) :
    Calls Try.prog 31 #[.string ⟨#[0]⟩, .int .i64 k] w fun e w' => e = .returned (.string (nou k)) ∧ Below w.heap.size w w' := by
  have := Try.strings_Repeat ⟨#[0]⟩ k w (by omega) (by show 1 * k ≤ _; omega)
  have e : Lib.repeatL ((⟨#[0]⟩ : ByteArray).data.toList) k = List.replicate k 0 := by
    have := Lib.repeatL_replicate 0 1 k
    rw [Nat.mul_one] at this
    exact this
  rw [e] at this
  exact this
theorem isSize_no (n : Int) (w : World) (h : n < 8 ∨ 1024 < n) : Calls Try.prog 30 #[.int .i64 n] w fun e w' => e = .returned (.bool false) ∧ w = w' := by
  by_cases h8 : 8 ≤ n
  · have h9 : ¬ n ≤ 1024 := by omega
    clear h
    go_enter Try.func30, Try.ntmps30
    go_wp2
    go_ret
    exact ⟨rfl, rfl⟩
  · clear h
    go_enter Try.func30, Try.ntmps30
    go_wp2
    go_ret
    exact ⟨rfl, rfl⟩
theorem isSize_yes (n : Int) (w : World) (h1 : 8 ≤ n) (h2 : n ≤ 1024) : Calls Try.prog 30 #[.int .i64 n] w fun e w' => e = .returned (.bool true) ∧ w = w' := by
  go_enter Try.func30, Try.ntmps30
  go_wp2
  go_ret
  exact ⟨rfl, rfl⟩
theorem New_no (n : Int) (w : World) (h : n < 8 ∨ 1024 < n) : Calls Try.prog 10 #[.int .i64 n] w fun e w' => e = .returned (.tuple #[.pointer none, .int .i64 2]) ∧ w = w' := by
  have H := Lib.hid (isSize_no n w h)
  clear h
  go_enter Try.func10, Try.ntmps10
  go_wp2_with (go_at_call 30; refine (H.out).mono ?_; rintro e w' ⟨rfl, rfl⟩)
  go_ret2
  exact ⟨rfl, rfl⟩
/-- A new disk, all of it new. -/
def Fresh (r : Bool) (D : Dk) (w : World) (b : Nat) (bv cv : Value) (w' : World) : Prop := Has r w' b bv cv D ∧ Below w.heap.size w w' ∧ ∀ k, Foot b bv cv k → w.heap.size ≤ k
/-- What New leaves. -/
def Made (n : Nat) (w : World) (e : Ending) (w' : World) : Prop := ∃ b bv cv, e = .returned (.tuple #[.pointer (some ⟨b, 0, none⟩), .int .i64 0]) ∧ Fresh false (made n) w b bv cv w'
theorem fresh_of {w w1 : World} {n : Nat} (h1 : 8 ≤ n) (h2 : n ≤ 1024) {g : Nat} (hg : w1.heap[g]? = some (.cells (row (nou 4096) n n).toArray 9 (0, 0))) (hw : w.heap.size ≤ g) (hb : Below w.heap.size w w1) :
    Fresh false (made n) w w1.heap.size (.slice (some ⟨g, 0, none⟩) n n) (.slice none 0 0) (w1.alloc (.cells #[.slice (some ⟨g, 0, none⟩) n n, .slice none 0 0, .int .i64 0, .bool false] 58)) := by
  have hlt : g < w1.heap.size := (Array.getElem?_eq_some_iff.1 hg).1
  refine ⟨⟨made_ok n h1 h2, ?_, ?_, own_nil _⟩, hb.alloc hb.size _, ?_⟩
  · exact heap_alloc_new w1 _
  · have hl : (made n).bl.length = n := List.length_replicate
    rw [hl]
    refine ⟨by rw [List.length_map, hl, Nat.mul_one], .inr ⟨g, n, (row (nou 4096) n n).toArray, rfl, Nat.zero_le _, (heap_alloc_old _ _ hlt).trans hg, Nat.le_refl _, by unfold maxLen; omega, by rw [List.size_toArray, row_length _ _ _ (Nat.le_refl _), Nat.mul_one], ?_⟩⟩
    show (row (nou 4096) n n).take (n * 1) = (List.replicate n (nou 4096)).map Value.string
    rw [Nat.mul_one, List.take_of_length_le (by rw [row_length _ _ _ (Nat.le_refl _)]; exact Nat.le_refl _), row, Nat.sub_self, List.replicate_zero, List.append_nil, List.map_replicate]
  · intro k hk
    rcases hk with rfl | hk | hk
    · exact hb.size
    · simp [Value.ownBlock] at hk; omega
    · simp [Value.ownBlock] at hk
theorem New_yes (n : Nat) (w : World) (h1 : 8 ≤ n) (h2 : n ≤ 1024) : Calls Try.prog 10 #[.int .i64 n] w (Made n w) := by
  have H := Lib.hid (isSize_yes n w (by omega) (by omega))
  have HZ := Lib.hid (repeated 4096 w (by omega))
  have HF := Lib.hid (fun w1 g => @fresh_of w w1 n h1 h2 g)
  generalize nou 4096 = z at *
  have HR := Lib.hid (fun b W hc => some_ z b n W (by omega) h2 hc)
  go_enter Try.func10, Try.ntmps10
  go_wp2_with (first
    | (go_at_call 30; refine (H.out).mono ?_; rintro e w' ⟨rfl, rfl⟩)
    | (go_at_call 31; refine (HZ.out).mono ?_; rintro e w1 ⟨rfl, hb1⟩; have HB := Lib.hid hb1; clear hb1)
    | (go_at_call 32; refine (HR.out _ _ (blk_cell (heap_alloc_new _ _) rfl)).mono ?_; rintro e w2 ⟨rfl, hg2, hb2⟩; have HG := Lib.hid hg2; have HB2 := Lib.hid hb2; clear hg2 hb2))
  go_ret2
  have hb := HB.out
  have hb2 : Below w.heap.size w w2 := (hb.alloc hb.size _).trans (HB2.out.mono (by simp; have := hb.size; omega))
  have hg := HG.out
  rw [World.size_alloc] at hg
  exact ⟨_, _, _, rfl, HF.out _ _ hg (by have := hb.size; omega) hb2⟩
end Go.Proofs.Ytofpflkkbkodaaa.DkNew
