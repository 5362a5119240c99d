/- What keepsakeref04.Long answers: the walks of its text. -/
import Derived.Test.YtfnocihmpmfkfaaDoorDRSaid
import Derived.Test.YtfnocihmpmfkfaaDoorRMacs
namespace Go.Proofs.YtfnocihmpmfkfaaDoor.DRLong
open Go.RowKit
theorem wrong (k l : List UInt8) (n : Int) (w : World) (h : n < 0 ∨ 8160 < n) :
    Calls Tryd.prog 13 #[.string ⟨k.toArray⟩, .string ⟨l.toArray⟩, .int .i64 n] w fun e w' => e = .returned (.tuple #[.string ⟨#[]⟩, .int .i64 2]) ∧ w = w' := by
  by_cases h0 : n < 0
  · clear h
    go_enter Tryd.func13, Tryd.ntmps13
    go_wp2_with fail
    go_ret2
    exact ⟨rfl, rfl⟩
  · have h1 : 8160 < n := by omega
    clear h
    go_enter Tryd.func13, Tryd.ntmps13
    go_wp2_with fail
    go_ret2
    exact ⟨rfl, rfl⟩
theorem nolabel (k l : List UInt8) (n : Int) (w : World) (h0 : ¬ n < 0) (h1 : ¬ 8160 < n) (h : ¬ saidOk l []) :
    Calls Tryd.prog 13 #[.string ⟨k.toArray⟩, .string ⟨l.toArray⟩, .int .i64 n] w fun e w' => e = .returned (.tuple #[.string ⟨#[]⟩, .int .i64 2]) ∧ Below w.heap.size w w' := by
  have HS := Lib.hid (DRSaid.any l none 0 0 [] w ⟨rfl, fun h => absurd h (by omega)⟩ (by simp))
  rw [said_bad h] at HS
  clear h
  go_enter Tryd.func13, Tryd.ntmps13
  go_wp2_with fail
  refine HS.out.mono ?_
  rintro e w1 ⟨rfl, hb1⟩
  have HB1 := Lib.hid hb1
  clear hb1
  go_wp2_with fail
  go_ret2
  exact ⟨rfl, HB1.out⟩
set_option maxRecDepth 100000 in
set_option maxHeartbeats 2000000 in
theorem good (k l : List UInt8) (n : Nat) (w : World) (hk : k.length ≤ 500) (hn : n ≤ 8160) (hok : saidOk l []) :
    Calls Tryd.prog 13 #[.string ⟨k.toArray⟩, .string ⟨l.toArray⟩, .int .i64 n] w fun e w' => e = .returned (.tuple #[.string ⟨(longOf k (saidOf l []) n).toArray⟩, .int .i64 0]) ∧ Below w.heap.size w w' := by
  have HS := Lib.hid (DRSaid.any l none 0 0 [] w ⟨rfl, fun h => absurd h (by omega)⟩ (by simp))
  rw [said_good hok] at HS
  have hsl := said_le l [] hok
  have HM := Lib.hid (fun j W => RMacs.Mac k (dpiece k (saidOf l []) j ++ (saidOf l [] ++ [UInt8.ofNat (j + 1)])) W hk (by
    have := dpiece_le k (saidOf l []) j
    simp; omega))
  have h0 : ¬ (n : Int) < 0 := by omega
  have h1 : ¬ 8160 < (n : Int) := by omega
  have HTK := Lib.hid (take_dpieces k (saidOf l []) n)
  clear hk hok
  generalize longOf k (saidOf l []) n = out at *
  generalize saidOf l [] = s at *
  go_enter Tryd.func13, Tryd.ntmps13
  go_wp2_with fail
  refine HS.out.mono ?_
  rintro e w1 ⟨rfl, hb1⟩
  have HB1 := Lib.hid hb1
  clear hb1 HS
  go_wp2_with fail
  go_loopw [10, 11, 12] (fun o p i wr => ∃ j : Nat, 32 * j ≤ n + 31 ∧ i = .int .i64 ((j : Int) + 1) ∧ o = .string ⟨(dpieces k s j).toArray⟩ ∧ p = .string ⟨(dpiece k s j).toArray⟩ ∧ Below w.heap.size w wr) (fun _ _ i _ => n + 64 - 32 * (intOf i).toNat)
  case atStart => exact ⟨0, by omega, rfl, rfl, rfl, HB1.out⟩
  case round =>
    obtain ⟨j, hj, rfl, rfl, rfl, hbe⟩ := hrel
    have HBe := Lib.hid hbe
    have hl1 := dpieces_length k s j
    have hl2 := dpiece_le k s j
    have hl3 := dpiece_length k s j
    by_cases hlt : 32 * j < n
    · have hmac := HM.out j
      have hpp : dpieces k s (j + 1) = dpieces k s j ++ dpiece k s (j + 1) := rfl
      rw [show macOf k (dpiece k s j ++ (s ++ [UInt8.ofNat (j + 1)])) = dpiece k s (j + 1) from rfl] at hmac
      have hap : (⟨(dpiece k s j).toArray⟩ ++ ⟨s.toArray⟩ ++ ⟨[UInt8.ofNat (j + 1)].toArray⟩ : ByteArray) = ⟨(dpiece k s j ++ (s ++ [UInt8.ofNat (j + 1)])).toArray⟩ := by
        rw [ByteArray.mk_append_mk, ByteArray.mk_append_mk, List.append_assoc]
      have hcv : (convert 43 9 (.slice (some ⟨wr.heap.size, 0, none⟩) 1 1)).run Tryd.prog (wr.alloc (.cells #[.int .u8 (((j + 1 : Nat) : Int) % 256)] 5)) = .ok (.string ⟨[UInt8.ofNat (j + 1)].toArray⟩) (wr.alloc (.cells #[.int .u8 (((j + 1 : Nat) : Int) % 256)] 5)) :=
        conv_row Tryd.underlying43 Tryd.underlying5 Tryd.underlying9 (by rw [heap_alloc_new, one_byte]) rfl
      rw [show (((j + 1 : Nat) : Int) % 256) = (j : Int) + 1 from by omega] at hcv
      have hlo : (dpieces k s j).length < n := by omega
      have hlb : (dpieces k s j).length ≤ 8160 := by omega
      have hl4 : (dpiece k s (j + 1)).length ≤ 32 := by omega
      have HMac := Lib.hid hmac
      have HPP := Lib.hid hpp
      have HAP := Lib.hid hap
      have hj2 : j ≤ 254 := by omega
      clear hbe HB1 HM HTK hl1 hl3 hmac hpp hap
      generalize UInt8.ofNat (j + 1) = d at *
      generalize ho2 : dpieces k s (j + 1) = o2 at *
      have HO2 := Lib.hid ho2
      clear ho2
      generalize dpieces k s j = o at *
      generalize hp2 : dpiece k s (j + 1) = p2 at *
      generalize hp1 : dpiece k s j = p at *
      have HP2 := Lib.hid hp2
      clear hp1 hp2
      go_wp2_with fail
      rw [HAP.out]
      refine (HMac.out _).mono ?_
      rintro e w2 ⟨rfl, hb2⟩
      have HBe2 := Lib.hid ((HBe.out.alloc HBe.out.size (.cells #[.int .u8 ((j : Int) + 1)] 5)).trans (hb2.mono (by have := HBe.out.size; simp; omega)))
      clear hb2 hcv HMac HAP
      go_wp2_with fail
      go_roundw
      case rel => exact ⟨j + 1, by omega, by go_num, by rw [HO2.out, HPP.out, ByteArray.mk_append_mk], by rw [HP2.out], HBe2.out⟩
      case measure => simp [intOf]; omega
    · have hlo : ¬ (dpieces k s j).length < n := by omega
      have hlb : (dpieces k s j).length ≤ 9000 := by omega
      have hle : n ≤ (dpieces k s j).length := by omega
      have HX : Hid ((⟨(dpieces k s j).toArray⟩ : ByteArray).extract 0 n = ⟨out.toArray⟩) := by
        show _ = _
        rw [ByteArray.extract_mk, List.drop_zero, Nat.sub_zero, HTK.out j (by omega)]
      clear hbe HB1 HM HTK hl1 hl3
      generalize dpieces k s j = o at *
      go_wp2_with fail
      rw [HX.out]
      go_ret2
      exact ⟨rfl, HBe.out⟩
/-- THE CONTRACT of keepsakeref04.Long. -/
theorem any (k l : List UInt8) (n : Int) (w : World) (hk : k.length ≤ 500) :
    Calls Tryd.prog 13 #[.string ⟨k.toArray⟩, .string ⟨l.toArray⟩, .int .i64 n] w fun e w' => e = .returned (.tuple #[.string ⟨(longFor k l n).1.toArray⟩, .int .i64 (longFor k l n).2]) ∧ Below w.heap.size w w' := by
  by_cases h : n < 0 ∨ 8160 < n
  · rw [long_bad (fun hh => by omega)]
    exact (wrong k l n w h).mono fun e w' ⟨h1, h2⟩ => ⟨h1, h2 ▸ Below.refl _ _⟩
  · by_cases hl : saidOk l []
    · obtain ⟨n, rfl⟩ := Int.eq_ofNat_of_zero_le (show 0 ≤ n by omega)
      rw [long_good (by omega) hl]
      exact good k l n w hk (by omega) hl
    · rw [long_bad (fun hh => hl hh.2.2)]
      exact nolabel k l n w (by omega) (by omega) hl
end Go.Proofs.YtfnocihmpmfkfaaDoor.DRLong
