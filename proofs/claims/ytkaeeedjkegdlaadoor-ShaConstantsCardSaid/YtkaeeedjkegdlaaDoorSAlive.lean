/- The chapter's example, as the statements ask for it: true in every world where the rounds' numbers lie in the program's variable. -/
import Derived.Test.YtkaeeedjkegdlaaDoorSSum
namespace Go.Proofs.YtkaeeedjkegdlaaDoor.SAlive
open Go.RowKit
open STurn SSum
theorem one (w : World) (hr : Rds w) : Calls Tryd.prog 9 #[.slice (some ⟨w.heap.size, 0, none⟩) 1 1] (w.alloc (.cells #[.string ⟨#[97, 98, 99]⟩] 9)) fun e w' => e = .returned (.string ⟨#[0xba, 0x78, 0x16, 0xbf, 0x8f, 0x01, 0xcf, 0xea, 0x41, 0x41, 0x40, 0xde, 0x5d, 0xae, 0x22, 0x23, 0xb0, 0x03, 0x61, 0xa3, 0x96, 0x17, 0x7a, 0x9c, 0xb4, 0x10, 0xff, 0x61, 0xf2, 0x00, 0x15, 0xad]⟩) ∧ Below (w.alloc (.cells #[.string ⟨#[97, 98, 99]⟩] 9)).heap.size (w.alloc (.cells #[.string ⟨#[97, 98, 99]⟩] 9)) w' := by
  have h := sums (some ⟨w.heap.size, 0, none⟩) 1 1 [[97, 98, 99]] (w.alloc (.cells #[.string ⟨#[97, 98, 99]⟩] 9))
    ⟨rfl, fun _ => ⟨_, _, rfl, by simp, fun i hi => by
      obtain rfl : i = 0 := by omega
      exact blk_cell (heap_alloc_new w _) rfl⟩⟩ (hr.step ((Below.refl _ _).alloc (Nat.le_refl _) _)) (by show 3 ≤ _; omega) (by omega)
  rw [show ([[97, 98, 99]] : List (List UInt8)).flatten = [97, 98, 99] from rfl, sum_abc] at h
  exact h
theorem three_ (w : World) (hr : Rds w) : Calls Tryd.prog 9 #[.slice (some ⟨w.heap.size, 0, none⟩) 3 3] (w.alloc (.cells #[.string ⟨#[97]⟩, .string ⟨#[]⟩, .string ⟨#[98, 99]⟩] 9)) fun e w' => e = .returned (.string ⟨#[0xba, 0x78, 0x16, 0xbf, 0x8f, 0x01, 0xcf, 0xea, 0x41, 0x41, 0x40, 0xde, 0x5d, 0xae, 0x22, 0x23, 0xb0, 0x03, 0x61, 0xa3, 0x96, 0x17, 0x7a, 0x9c, 0xb4, 0x10, 0xff, 0x61, 0xf2, 0x00, 0x15, 0xad]⟩) ∧ Below (w.alloc (.cells #[.string ⟨#[97]⟩, .string ⟨#[]⟩, .string ⟨#[98, 99]⟩] 9)).heap.size (w.alloc (.cells #[.string ⟨#[97]⟩, .string ⟨#[]⟩, .string ⟨#[98, 99]⟩] 9)) w' := by
  have h := sums (some ⟨w.heap.size, 0, none⟩) 3 3 [[97], [], [98, 99]] (w.alloc (.cells #[.string ⟨#[97]⟩, .string ⟨#[]⟩, .string ⟨#[98, 99]⟩] 9))
    ⟨rfl, fun _ => ⟨_, _, rfl, by simp, fun i hi => by
      match i, hi with
      | 0, _ => exact blk_cell (heap_alloc_new w _) rfl
      | 1, _ => exact blk_cell (heap_alloc_new w _) rfl
      | 2, _ => exact blk_cell (heap_alloc_new w _) rfl⟩⟩ (hr.step ((Below.refl _ _).alloc (Nat.le_refl _) _)) (by show 3 ≤ _; omega) (by omega)
  rw [show ([[97], [], [98, 99]] : List (List UInt8)).flatten = [97, 98, 99] from rfl, sum_abc] at h
  exact h
theorem any (w : World) (hr : Rds w) : Calls Tryd.prog 11 #[] w fun e w' => e = .returned (.bool true) ∧ Below w.heap.size w w' := by
  have HR := Lib.hid hr
  clear hr
  go_enter Tryd.func11, Tryd.ntmps11
  go_wp2_with fail
  refine (one w HR.out).mono ?_
  rintro e w1 ⟨rfl, hb1⟩
  have HB1 := Lib.hid (((Below.refl w.heap.size w).alloc (Nat.le_refl _) _).trans (hb1.mono (by simp)))
  clear hb1
  go_wp2_with fail
  refine (three_ w1 (HR.out.step HB1.out)).mono ?_
  rintro e w2 ⟨rfl, hb2⟩
  have HB2 := Lib.hid (HB1.out.trans ((((Below.refl w1.heap.size w1).alloc (Nat.le_refl _) _).trans (hb2.mono (by simp))).mono HB1.out.size))
  clear hb2
  go_wp2
  go_ret
  exact ⟨rfl, HB2.out⟩
end Go.Proofs.YtkaeeedjkegdlaaDoor.SAlive
