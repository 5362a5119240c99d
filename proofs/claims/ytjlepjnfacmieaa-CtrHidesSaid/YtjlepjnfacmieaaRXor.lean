/- What keepsakeref06.Xor answers, for texts of at most 1,000 bytes: the walk of its text. -/
import Derived.Test.YtjlepjnfacmieaaRStr
import Derived.Deep.RegionHeld3
namespace Go.Proofs.Ytjlepjnfacmieaa.RXor
open Go.RowKit
open CtrN
/-- Whether there is such a text. -/
def can (k : List UInt8) (e s : Int) (x : List UInt8) : Bool := (hide k e s x).2 == 0
theorem x64 (a b : UInt8) : bits .xor .i64 (a.toNat : Int) (b.toNat : Int) = ((a ^^^ b).toNat : Int) := by
  have h := ARef.x64 a.toNat b.toNat (by have := a.toNat_lt; omega) (by have := b.toNat_lt; omega)
  rw [h, UInt8.toNat_xor]
theorem at_list (l : List UInt8) (i : Nat) (h : i < (⟨l.toArray⟩ : ByteArray).size) : (⟨l.toArray⟩ : ByteArray)[i]'h = l.getD i 0 := by
  have h2 : i < l.length := h
  simp only [List.getD, List.getElem?_eq_getElem h2, Option.getD_some]
  rfl
theorem stream_hide (k : List UInt8) (e s : Int) (x : List UInt8) : stream k e s 0 x.length = ((stream k e s 0 x.length).1, (hide k e s x).2) ∧ ((hide k e s x).2 = 0 → (stream k e s 0 x.length).1.length = x.length ∧ hide k e s x = (xorL x (stream k e s 0 x.length).1, 0)) ∧ (¬ (hide k e s x).2 = 0 → hide k e s x = ([], 2) ∧ (stream k e s 0 x.length).2 = 2) := by
  by_cases hh : k.length = 16 ∧ x.length ≤ 65536 ∧ (0 ≤ e ∧ e < 4294967296) ∧ (0 ≤ s ∧ s < 4294967296)
  · have h1 : hide k e s x = (xorL x (strm k e.toNat s.toNat 0 x.length), 0) := if_pos hh
    have h2 : stream k e s 0 x.length = (strm k e.toNat s.toNat 0 x.length, 0) := if_pos ⟨hh.1, by omega, by omega, by omega, hh.2.2.1, hh.2.2.2⟩
    rw [h1, h2]
    exact ⟨rfl, fun _ => ⟨strm_length _ _ _ _ _, rfl⟩, fun h => absurd rfl h⟩
  · have h1 : hide k e s x = ([], 2) := if_neg hh
    have h2 : stream k e s 0 x.length = ([], 2) := if_neg (fun g => hh ⟨g.1, by have := g.2.2.2.1; omega, g.2.2.2.2.1, g.2.2.2.2.2⟩)
    rw [h1, h2]
    exact ⟨rfl, fun h => absurd h (by simp), fun _ => ⟨rfl, rfl⟩⟩
theorem lacks (k : List UInt8) (e s : Int) (x : List UInt8) (w : World) (he : IsInt e) (hs : IsInt s) (hx : x.length ≤ 1000) (h : RStr.has k e s 0 x.length = false) :
    Calls Try.prog 13 #[.string ⟨k.toArray⟩, .int .i64 e, .int .i64 s, .string ⟨x.toArray⟩] w fun r w' => r = .returned (.tuple #[.string ⟨#[]⟩, .bool false]) ∧ Below w.heap.size w w' := by
  have HS := Lib.hid (fun W => RStr.any k e s 0 x.length W he hs)
  rw [h] at HS
  have hmin : min (x.length : Int) 65537 = (x.length : Int) := by omega
  clear h he hs
  go_enter Try.func13, Try.ntmps13
  go_wp2_with fail
  refine (HS.out _).mono ?_
  rintro r w1 ⟨rfl, hb1⟩
  have HB1 := Lib.hid hb1
  clear hb1
  go_wp2
  go_ret2
  exact ⟨rfl, HB1.out⟩
theorem xor_next (x t : List UInt8) (j : Nat) (h : j < x.length) : (xorL x t).take (j + 1) = (xorL x t).take j ++ [x.getD j 0 ^^^ t.getD j 0] := by
  rw [List.take_succ_eq_append_getElem (by rw [xorL_length]; exact h), ← xorL_getD x t j h]
  simp [List.getD, show j < (xorL x t).length from by rw [xorL_length]; exact h]
set_option maxRecDepth 100000 in
theorem good (k : List UInt8) (e s : Int) (x t : List UInt8) (w : World) (he : IsInt e) (hs : IsInt s) (hx : x.length ≤ 1000) (h : stream k e s 0 x.length = (t, 0)) (ht : t.length = x.length) :
    Calls Try.prog 13 #[.string ⟨k.toArray⟩, .int .i64 e, .int .i64 s, .string ⟨x.toArray⟩] w fun r w' => r = .returned (.tuple #[.string ⟨(xorL x t).toArray⟩, .bool true]) ∧ Below w.heap.size w w' := by
  have HS := Lib.hid (fun W => RStr.any k e s 0 x.length W he hs)
  unfold RStr.has at HS
  rw [h] at HS
  have hmin : min (x.length : Int) 65537 = (x.length : Int) := by omega
  clear h he hs
  go_enter Try.func13, Try.ntmps13
  go_wp2_with fail
  refine (HS.out _).mono ?_
  rintro r w1 ⟨rfl, hb1⟩
  have HB1 := Lib.hid hb1
  clear hb1 hmin
  go_wp2_with fail
  go_loopw [12, 13] (fun o i wr => ∃ j : Nat, j ≤ x.length ∧ i = .int .i64 j ∧ o = .string ⟨((xorL x t).take j).toArray⟩ ∧ Below w.heap.size w wr) (fun _ i _ => x.length - (intOf i).toNat)
  case atStart => exact ⟨0, Nat.zero_le _, rfl, by simp, HB1.out⟩
  case round =>
    obtain ⟨j, hj, rfl, rfl, hbe⟩ := hrel
    have HBw := Lib.hid hbe
    clear hbe
    have hol : ((xorL x t).take j).length ≤ 1000 := by rw [List.length_take, xorL_length]; omega
    by_cases hlt : j < x.length
    · have hs : (⟨((xorL x t).take j).toArray⟩ ++ ⟨[x.getD j 0 ^^^ t.getD j 0].toArray⟩ : ByteArray) = ⟨((xorL x t).take (j + 1)).toArray⟩ := by
        rw [ByteArray.mk_append_mk, ← xor_next x t j hlt]
      have HS2 := Lib.hid hs
      have g1 : (j : Int) < (x.length : Int) := by omega
      have g2 : (j : Int) < (t.length : Int) := by omega
      have hh1 : j < (⟨x.toArray⟩ : ByteArray).size := hlt
      have hh2 : j < (⟨t.toArray⟩ : ByteArray).size := by show j < t.length; omega
      have hv : bits .xor .i64 (wrap64 (((⟨x.toArray⟩ : ByteArray)[j]'hh1).toNat : Int)) (wrap64 (((⟨t.toArray⟩ : ByteArray)[j]'hh2).toNat : Int)) % 256 = ((x.getD j 0 ^^^ t.getD j 0).toNat : Int) := by
        rw [at_list, at_list, IntWalk.wrap64_in _ (by have := (x.getD j 0).toNat_lt; omega), IntWalk.wrap64_in _ (by have := (t.getD j 0).toNat_lt; omega), x64]
        have := (x.getD j 0 ^^^ t.getD j 0).toNat_lt
        omega
      have hcv : (convert 42 9 (.slice (some ⟨wr.heap.size, 0, none⟩) 1 1)).run Try.prog (wr.alloc (.cells #[.int .u8 (bits .xor .i64 (wrap64 (((⟨x.toArray⟩ : ByteArray)[j]'hh1).toNat : Int)) (wrap64 (((⟨t.toArray⟩ : ByteArray)[j]'hh2).toNat : Int)) % 256)] 5)).drew =
          .ok (.string ⟨[x.getD j 0 ^^^ t.getD j 0].toArray⟩) (wr.alloc (.cells #[.int .u8 (bits .xor .i64 (wrap64 (((⟨x.toArray⟩ : ByteArray)[j]'hh1).toNat : Int)) (wrap64 (((⟨t.toArray⟩ : ByteArray)[j]'hh2).toNat : Int)) % 256)] 5)).drew := by
        have h0 : (wr.alloc (.cells #[.int .u8 (bits .xor .i64 (wrap64 (((⟨x.toArray⟩ : ByteArray)[j]'hh1).toNat : Int)) (wrap64 (((⟨t.toArray⟩ : ByteArray)[j]'hh2).toNat : Int)) % 256)] 5)).drew.heap[wr.heap.size]? = _ := heap_alloc_new wr _
        exact conv_row (l := [x.getD j 0 ^^^ t.getD j 0]) (m := []) Try.underlying42 Try.underlying5 Try.underlying9 (by rw [h0, hv]; rfl) rfl
      clear hs hv
      generalize x.getD j 0 ^^^ t.getD j 0 = y at *
      go_upto_region 8 with fail
      go_region
      go_wp2
      go_roundw
      case rel => exact ⟨j + 1, by omega, by go_num, by rw [HS2.out], ((HBw.out.alloc HBw.out.size _).drew)⟩
      case measure => simp [intOf]; omega
    · obtain rfl : j = x.length := by omega
      have hall : (xorL x t).take x.length = xorL x t := List.take_of_length_le (by rw [xorL_length]; omega)
      rw [hall] at hol ⊢
      go_wp2
      go_ret2
      exact ⟨rfl, HBw.out⟩
/-- THE CONTRACT of keepsakeref06.Xor. -/
theorem any (k : List UInt8) (e s : Int) (x : List UInt8) (w : World) (he : IsInt e) (hs : IsInt s) (hx : x.length ≤ 1000) :
    Calls Try.prog 13 #[.string ⟨k.toArray⟩, .int .i64 e, .int .i64 s, .string ⟨x.toArray⟩] w fun r w' => r = .returned (.tuple #[.string ⟨(hide k e s x).1.toArray⟩, .bool (can k e s x)]) ∧ Below w.heap.size w w' := by
  obtain ⟨h1, h2, h3⟩ := stream_hide k e s x
  unfold can
  by_cases h : (hide k e s x).2 = 0
  · obtain ⟨h4, h5⟩ := h2 h
    rw [h] at h1
    rw [h5]
    exact good k e s x _ w he hs hx h1 h4
  · obtain ⟨h4, h5⟩ := h3 h
    rw [h4]
    exact lacks k e s x w he hs hx (by unfold RStr.has; rw [h5]; rfl)
end Go.Proofs.Ytjlepjnfacmieaa.RXor
