/- What ctr.Count answers, and the chapter's example: the walks of their texts. -/
import Derived.Test.YtjlepjnfacmieaaCtrN
import Derived.Test.YtjlepjnfacmieaaOPack
namespace Go.Proofs.Ytjlepjnfacmieaa.CCount
open Go.RowKit
open CtrN
theorem five_row {W : World} {g : Nat} {a b c d e : Int} (h : W.heap[g]? = some (.cells #[.int .i64 a, .int .i64 b, .int .i64 c, .int .i64 d, .int .i64 e] 3 (0, 0))) : Row W W.heap.size (some ⟨g, 0, none⟩) 5 [a, b, c, d, e] := by
  refine ⟨rfl, fun _ => ⟨g, 0, rfl, (Array.getElem?_eq_some_iff.1 h).1, fun i hi => ?_⟩⟩
  have : i = 0 ∨ i = 1 ∨ i = 2 ∨ i = 3 ∨ i = 4 := by omega
  rcases this with rfl | rfl | rfl | rfl | rfl <;> exact blk_cell h rfl
theorem any (e s i : Int) (w : World) :
    Calls Try.prog 8 #[.int .i64 e, .int .i64 s, .int .i64 i] w fun x w' => x = .returned (.tuple #[.string ⟨(cnt e s i).1.toArray⟩, .int .i64 (cnt e s i).2]) ∧ Below w.heap.size w w' := by
  have HP := Lib.hid (fun g h W h1 h2 => OPack.any (some ⟨g, 0, none⟩) (some ⟨h, 0, none⟩) 5 5 5 5 [1, 3, 4, 4, 4] [117, 0, e, s, i] W h1 h2 (by omega))
  rw [cnt_pack] at HP
  generalize cnt e s i = r at *
  obtain ⟨r1, r2⟩ := r
  go_enter Try.func8, Try.ntmps8
  go_wp2_with fail
  refine (HP.out _ _ _ (five_row (heap_alloc2_old w _ _)) (five_row (heap_alloc2_new w _ _))).mono ?_
  rintro x w1 ⟨rfl, hb1⟩
  have HB : Hid (Below w.heap.size w w1) := Lib.hid ((((Below.refl _ _).alloc (Nat.le_refl _) _).alloc (by simp) _).trans (hb1.mono (by simp; omega)))
  clear hb1
  go_wp2
  go_ret2
  exact ⟨rfl, HB.out⟩
theorem example_ : cnt 1 2 3 = ([117, 0, 0, 0, 0, 0, 0, 1, 0, 0, 0, 2, 0, 0, 0, 3], 0) := by decide +kernel
theorem alive (w : World) : Calls Try.prog 7 #[] w fun e w' => e = .returned (.bool true) ∧ Below w.heap.size w w' := by
  have HC := Lib.hid (fun W => any 1 2 3 W)
  rw [example_] at HC
  go_enter Try.func7, Try.ntmps7
  go_wp2_with (go_at_call 8; refine (HC.out _).mono ?_; rintro e w1 ⟨rfl, hb1⟩)
  go_ret
  exact ⟨rfl, hb1⟩
end Go.Proofs.Ytjlepjnfacmieaa.CCount
