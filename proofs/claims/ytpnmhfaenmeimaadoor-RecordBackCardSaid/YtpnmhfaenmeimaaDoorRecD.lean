/- The document's Digits, Show: the walks of their texts. No conditions but those that each lemma names. -/
import Derived.Test.YtpnmhfaenmeimaaDoorRecZ
import Derived.Test.YtpnmhfaenmeimaaDoorRecM
import Derived.Deep.RegionHeld3
namespace Go.Proofs.YtpnmhfaenmeimaaDoor.RecD
open Go.RowKit
open RecN RecC RecM
theorem add_l (a b c : List UInt8) (h : a ++ b = c) (ha : a.length ≤ 1000000) (hb : b.length ≤ 1000000) (W : World) : (Op.stringOp .add ⟨a.toArray⟩ ⟨b.toArray⟩).run Tryd.prog W = .ok (.string ⟨c.toArray⟩) W := by
  rw [run_string_add_sum (P := Tryd.prog) (w := W) (⟨a.toArray⟩ : ByteArray) (⟨b.toArray⟩ : ByteArray) (by rw [size_mk, size_mk]; omega), mk_append, h]
theorem dec_small {x : Int} (h0 : 0 ≤ x) (h : x < 10) : dec x = [UInt8.ofNat (48 + x.toNat)] := by
  unfold dec
  exact Lib.decDigits_one (by omega)
theorem dec_big {x : Int} (h : ¬ x < 10) : dec x = dec (x / 10) ++ dec (x % 10) := by
  unfold dec
  rw [Lib.decDigits, dif_neg (by omega), show (x / 10).toNat = x.toNat / 10 by omega, Lib.decDigits_one (i := (x % 10).toNat) (by omega), show (x % 10).toNat = x.toNat % 10 by omega]
theorem dec_len19 {x : Int} (h1 : x ≤ 9223372036854775807) : (dec x).length ≤ 19 := by
  rcases digits_len 19 x.toNat (by omega) with h | h
  · exact h
  · omega
theorem conv1 (n : Nat) (hn : n < 256) (W : World) : (convert 57 9 (.slice (some ⟨W.heap.size, 0, none⟩) 1 1)).run Tryd.prog (W.alloc (.cells #[.int .u8 ((n : Nat) : Int)] 5)) = .ok (.string ⟨[UInt8.ofNat n].toArray⟩) (W.alloc (.cells #[.int .u8 ((n : Nat) : Int)] 5)) :=
  conv_row Tryd.underlying57 Tryd.underlying5 Tryd.underlying9 (l := [UInt8.ofNat n]) (m := []) (t := 5) (f := (0, 0)) (by
    rw [heap_alloc_new]
    have e : (UInt8.ofNat n).toNat = n := UInt8.toNat_ofNat_of_lt' (by simpa using hn)
    simp only [bytesRow, List.append_nil, List.map_cons, List.map_nil, e]) rfl
set_option maxRecDepth 100000 in
theorem small (x : Int) (h0 : 0 ≤ x) (h : x < 10) (w : World) :
    Calls Tryd.prog 29 #[.int .i64 x] w fun e w' => e = .returned (.string ⟨(dec x).toArray⟩) ∧ Below w.heap.size w w' := by
  obtain ⟨n, rfl⟩ : ∃ n : Nat, x = n := ⟨x.toNat, by omega⟩
  have hcv := conv1 (48 + n) (by omega) w
  rw [show ((48 + n : Nat) : Int) = 48 + (n : Int) by omega] at hcv
  have HE : Hid (dec (n : Int) = [UInt8.ofNat (48 + n)]) := Lib.hid (dec_small h0 h)
  have HB := Lib.hid (below_new w (.cells #[.int .u8 (48 + (n : Int))] 5))
  generalize UInt8.ofNat (48 + n) = b at *
  go_enter Tryd.func29, Tryd.ntmps29
  go_wp2_with fail
  go_ret
  rw [HE.out]
  exact ⟨rfl, HB.out⟩
theorem Digits_any : ∀ (k : Nat) (x : Int), 0 ≤ x → x ≤ 9223372036854775807 → x < 10 ^ (k + 1) → ∀ w,
    Calls Tryd.prog 29 #[.int .i64 x] w fun e w' => e = .returned (.string ⟨(dec x).toArray⟩) ∧ Below w.heap.size w w'
  | 0, x, h0, _, hk, w => small x h0 (by simpa using hk) w
  | k + 1, x, h0, h1, hk, w => by
    by_cases h : x < 10
    · exact small x h0 h w
    · have ih1 := Lib.hid (fun W => Digits_any k (x / 10) (by omega) (by omega) (by rw [Int.pow_succ] at hk; generalize (10 : Int) ^ (k + 1) = p at *; omega) W)
      have ih2 := Lib.hid (fun W => small (x % 10) (by omega) (by omega) W)
      have HE := Lib.hid (dec_big h)
      have ha := dec_len19 (x := x / 10) (by omega)
      have hb := dec_len19 (x := x % 10) (by omega)
      clear hk
      have hadd := fun c (hc : dec (x / 10) ++ dec (x % 10) = c) W => add_l (dec (x / 10)) (dec (x % 10)) c hc (by omega) (by omega) W
      generalize dec (x / 10) = a at *
      generalize dec (x % 10) = b at *
      have had := hadd _ rfl
      clear hadd ha hb
      go_enter Tryd.func29, Tryd.ntmps29
      go_wp2_with (first
        | (go_at_call 29; refine (ih1.out _).mono ?_; rintro e w2 ⟨rfl, hb2⟩; have B2 := Lib.hid hb2; clear hb2 ih1)
        | (go_at_call 29; refine (ih2.out _).mono ?_; rintro e w3 ⟨rfl, hb3⟩; have B3 := Lib.hid (B2.out.trans (hb3.mono B2.out.size)); clear hb3 ih2))
      go_ret
      rw [HE.out]
      exact ⟨rfl, B3.out⟩
/-- What the document's Digits answers of a number from 0 on. -/
theorem Digits (x : Int) (h0 : 0 ≤ x) (h1 : x ≤ 1099511627776) (w : World) :
    Calls Tryd.prog 29 #[.int .i64 x] w fun e w' => e = .returned (.string ⟨(dec x).toArray⟩) ∧ Below w.heap.size w w' := Digits_any 12 x h0 (by omega) (by simp only [Nat.reduceAdd, Int.reducePow]; omega) w
end Go.Proofs.YtpnmhfaenmeimaaDoor.RecD
