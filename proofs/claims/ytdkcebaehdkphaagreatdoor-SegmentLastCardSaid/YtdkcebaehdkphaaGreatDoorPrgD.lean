/- The program's hash of data: the walk of its text. The condition: the rounds' numbers lie in the program's variable. -/
import Derived.Test.YtdkcebaehdkphaaGreatDoorLPrfD
import Derived.Test.YtdkcebaehdkphaaGreatDoorLOpk
import Derived.Test.YtdkcebaehdkphaaGreatDoorMerC
namespace Go.Proofs.YtdkcebaehdkphaaGreatDoor.PrgD
set_option linter.unusedVariables false
open Go.RowKit STurn SSum
open PrfL PrfM PrfB PrfD MerQ MerC
/-- Two ints in a block as a row. -/
theorem row2 {w : World} {g : Nat} {t : TypeId} {f : Nat × Nat} {a b : Int} (h : w.heap[g]? = some (.cells #[.int .i64 a, .int .i64 b] t f)) : Row w w.heap.size (some ⟨g, 0, none⟩) 2 [a, b] :=
  ⟨rfl, fun _ => ⟨g, 0, rfl, (Array.getElem?_eq_some_iff.1 h).1, fun i hi => by
    rw [Nat.zero_add]
    match i, hi with
    | 0, _ => exact blk_cell h rfl
    | 1, _ => exact blk_cell h rfl⟩⟩
theorem pack_yes {a b : Int} (h1 : 0 ≤ a ∧ a ≤ 4294967295) (h2 : 0 ≤ b ∧ b ≤ 4294967295) : pack [4, 4] [a, b] = (be 4 a.toNat ++ be 4 b.toNat, 0) := by
  have p0 := put_in h1
  have p1 := put_in h2
  unfold pack
  rw [if_pos ⟨rfl, fun j hj => by
    match j, hj with
    | 0, _ => simpa using congrArg Prod.snd p0
    | 1, _ => simpa using congrArg Prod.snd p1⟩]
  simp [packTo, p0, p1]
theorem pack_no {a b : Int} (h : ¬ ((0 ≤ a ∧ a ≤ 4294967295) ∧ 0 ≤ b ∧ b ≤ 4294967295)) : pack [4, 4] [a, b] = ([], 2) := by
  unfold pack
  rw [if_neg]
  rintro ⟨_, h3⟩
  apply h
  constructor
  · have := h3 0 (by simp)
    by_cases c : 0 ≤ a ∧ a ≤ 4294967295
    · exact c
    · rw [show (([a, b] : List Int).getD 0 0) = a from rfl, show (([4, 4] : List Int).getD 0 0) = 4 from rfl, put_out c] at this
      simp at this
  · have := h3 1 (by simp)
    by_cases c : 0 ≤ b ∧ b ≤ 4294967295
    · exact c
    · rw [show (([a, b] : List Int).getD 1 0) = b from rfl, show (([4, 4] : List Int).getD 1 0) = 4 from rfl, put_out c] at this
      simp at this
set_option maxRecDepth 100000 in
theorem Data (ep sl : Int) (s : L) (w : World) (hs : s.length ≤ 1000000) (hr : Rds w) :
    Calls Tryz.prog 21 #[.int .i64 ep, .int .i64 sl, st s] w fun e w' => e = .returned (.tuple #[st (dataR ep sl s).1, .int .i64 (if (dataR ep sl s).2 = true then 0 else 2)]) ∧ Below w.heap.size w w' := by
  have HP := Lib.hid (OPack.any (some ⟨w.heap.size, 0, none⟩) (some ⟨w.heap.size + 1, 0, none⟩) 2 2 2 2 [4, 4] [ep, sl] ((w.alloc (.cells #[.int .i64 4, .int .i64 4] 3)).alloc (.cells #[.int .i64 ep, .int .i64 sl] 3)) (row2 (heap_alloc2_old w _ _)) (row2 (heap_alloc2_new w _ _)) (by omega))
  have hb0 : Below w.heap.size w ((w.alloc (.cells #[.int .i64 4, .int .i64 4] 3)).alloc (.cells #[.int .i64 ep, .int .i64 sl] 3)) := ((Below.refl _ _).alloc (Nat.le_refl _) _).alloc (by simp) _
  have HB0 := Lib.hid hb0
  have HS := Lib.hid (fun W (hb : Below w.heap.size w W) (t : L) (ht : t.length ≤ 8) => summed [t, s] 2 rfl (by omega) (by simp; omega) _ rfl W (hr.step hb))
  clear hb0 hr
  by_cases h : (0 ≤ ep ∧ ep ≤ 4294967295) ∧ 0 ≤ sl ∧ sl ≤ 4294967295
  · have HD : Hid (dataR ep sl s = (sum (be 4 ep.toNat ++ be 4 sl.toNat ++ s), true)) := Lib.hid (if_pos h)
    have hl : (be 4 ep.toNat ++ be 4 sl.toNat).length = 8 := by rw [List.length_append, be_length, be_length]
    rw [pack_yes h.1 h.2] at HP
    generalize be 4 ep.toNat ++ be 4 sl.toNat = t at *
    have HS1 := Lib.hid (fun W hb => HS.out W hb t (by omega))
    rw [show ([t, s] : List L).flatten = t ++ s by simp] at HS1
    rw [HD.out]
    clear HS HD h hl hs
    go_enter Tryz.func21, Tryz.ntmps21
    go_wp2_with (first
      | (go_at_call 33; refine HP.out.mono ?_; rintro e w1 ⟨rfl, hb⟩; have B1 := Lib.hid (HB0.out.trans (hb.mono HB0.out.size)); clear hb)
      | (go_at_call 34; refine (HS1.out _ B1.out).mono ?_; rintro e w2 ⟨rfl, hb⟩; have B2 := Lib.hid (B1.out.trans (hb.mono B1.out.size)); clear hb))
    go_ret2
    exact ⟨rfl, B2.out⟩
  · have HD : Hid (dataR ep sl s = ([], false)) := Lib.hid (if_neg h)
    rw [pack_no h] at HP
    rw [HD.out]
    clear HS HD h hs
    go_enter Tryz.func21, Tryz.ntmps21
    go_wp2_with (first
      | (go_at_call 33; refine HP.out.mono ?_; rintro e w1 ⟨rfl, hb⟩; have B1 := Lib.hid (HB0.out.trans (hb.mono HB0.out.size)); clear hb))
    go_ret2
    exact ⟨rfl, B1.out⟩
end Go.Proofs.YtdkcebaehdkphaaGreatDoor.PrgD
