/- What keepsakeref03's functions answer: the walks of their texts. -/
import Derived.Test.YtcndlmkcnhhckaaDoorHmac
import Derived.Test.YtcndlmkcnhhckaaDoorLRsum
namespace Go.Proofs.YtcndlmkcnhhckaaDoor.RMac
open Go.RowKit
theorem noughts (h : List UInt8) (hh : h.length ≤ 64) (n : Int) (hn : n = 64 - (h.length : Int)) (w : World) :
    Calls Tryd.prog 64 #[.int .i64 n] w fun e w' => e = .returned (.string ⟨(List.replicate (64 - h.length) 0).toArray⟩) ∧ Below w.heap.size w w' := by
  subst hn
  rw [show (64 - (h.length : Int)) = ((64 - h.length : Nat) : Int) from by omega]
  exact RNou.noughts (64 - h.length) w (by omega)
theorem Key (k : List UInt8) (w : World) (hl : k.length ≤ 1000) :
    Calls Tryd.prog 67 #[.string ⟨k.toArray⟩] w fun e w' => e = .returned (.string ⟨(keyBlock k).toArray⟩) ∧ Below w.heap.size w w' := by
  have HE : Hid ((⟨(keyHead k).toArray⟩ ++ ⟨(List.replicate (64 - (keyHead k).length) 0).toArray⟩ : ByteArray) = ⟨(keyBlock k).toArray⟩) := by
    show _ = _
    rw [ByteArray.mk_append_mk]; rfl
  have HN := Lib.hid (fun n hn W => noughts (keyHead k) (keyHead_le k) n hn W)
  have hzl : (List.replicate (64 - (keyHead k).length) (0 : UInt8)).length ≤ 64 := by rw [List.length_replicate]; omega
  generalize List.replicate (64 - (keyHead k).length) (0 : UInt8) = z at *
  by_cases h : (64 : Int) < (k.length : Int)
  · have e : keyHead k = sum k := if_pos (by omega)
    have H1 := Lib.hid (fun W => RSum.Sum k W (by omega))
    rw [e] at HE HN
    have hs := sum_length k
    generalize sum k = s at *
    generalize keyBlock k = b at *
    clear e
    go_enter Tryd.func67, Tryd.ntmps67
    go_wp2_with (go_at_call 34; refine (H1.out _).mono ?_; rintro e w1 ⟨rfl, hb1⟩; have HB1 := Lib.hid hb1; clear hb1)
    refine (HN.out _ (by omega) _).mono ?_
    rintro e w2 ⟨rfl, hb2⟩
    have HB2 := Lib.hid (HB1.out.trans (hb2.mono HB1.out.size))
    clear hb2
    go_wp2
    rw [HE.out]
    go_ret
    exact ⟨rfl, HB2.out⟩
  · have e : keyHead k = k := if_neg (by omega)
    rw [e] at HE HN
    generalize keyBlock k = b at *
    clear e
    go_enter Tryd.func67, Tryd.ntmps67
    go_wp2_with fail
    refine (HN.out _ rfl _).mono ?_
    rintro e w2 ⟨rfl, hb2⟩
    have HB2 := Lib.hid hb2
    clear hb2
    go_wp2
    rw [HE.out]
    go_ret
    exact ⟨rfl, HB2.out⟩
theorem i64_xor8 (a n : UInt8) : bits .xor .i64 (a.toNat : Int) (n.toNat : Int) = ((a ^^^ n).toNat : Int) := by
  have ha := a.toNat_lt
  have hn := n.toNat_lt
  rw [RRot.i64_xor _ _ (by omega) (by omega), UInt8.toNat_xor]
theorem one_cell (x : UInt8) : #[Value.int .u8 (x.toNat : Int)] = bytesRow ([x] ++ []) := by simp [bytesRow]
theorem take_next (b : List UInt8) (n : UInt8) (j : Nat) (h : j < b.length) : (heldBy b n).take (j + 1) = (heldBy b n).take j ++ [b.getD j 0 ^^^ n] := by
  rw [List.take_succ_eq_append_getElem (by rw [heldBy_length]; exact h)]
  simp [heldBy, List.getD, h]
set_option maxRecDepth 100000 in
theorem held (k : List UInt8) (n : UInt8) (w : World) (hl : k.length ≤ 1000) :
    Calls Tryd.prog 52 #[.string ⟨k.toArray⟩, .int .i64 n.toNat] w fun e w' => e = .returned (.string ⟨(heldBy (keyBlock k) n).toArray⟩) ∧ Below w.heap.size w w' := by
  have H := Lib.hid (fun W => Key k W hl)
  have hb := keyBlock_length k
  generalize keyBlock k = b at *
  go_enter Tryd.func52, Tryd.ntmps52
  go_wp2_with (go_at_call 67; refine (H.out _).mono ?_; rintro e w1 ⟨rfl, hb1⟩; have HB1 := Lib.hid hb1; clear hb1)
  go_loopw [6, 7] (fun s i wr => ∃ j : Nat, j ≤ 64 ∧ i = .int .i64 j ∧ s = .string ⟨((heldBy b n).take j).toArray⟩ ∧ Below w.heap.size w wr) (fun _ i _ => 64 - (intOf i).toNat)
  case atStart => exact ⟨0, Nat.zero_le _, rfl, rfl, HB1.out⟩
  case round =>
    obtain ⟨j, hj, rfl, rfl, hbel⟩ := hrel
    by_cases hlt : j < 64
    · have hh : j < (⟨b.toArray⟩ : ByteArray).size := by show j < b.length; omega
      have hv : bits .xor .i64 (wrap64 (((⟨b.toArray⟩ : ByteArray)[j]'hh).toNat : Int)) (n.toNat : Int) % 256 = ((b.getD j 0 ^^^ n).toNat : Int) := by
        rw [show (⟨b.toArray⟩ : ByteArray)[j]'hh = b.getD j 0 from by
          have hj2 : j < b.length := by omega
          simp only [List.getD, List.getElem?_eq_getElem hj2, Option.getD_some]
          rfl]
        have h1 := (b.getD j 0).toNat_lt
        have h2 := (b.getD j 0 ^^^ n).toNat_lt
        rw [IntWalk.wrap64_in _ (by omega), i64_xor8]
        omega
      have hcv : (convert 47 9 (.slice (some ⟨wr.heap.size, 0, none⟩) 1 1)).run Tryd.prog (wr.alloc (.cells #[.int .u8 (bits .xor .i64 (wrap64 (((⟨b.toArray⟩ : ByteArray)[j]'hh).toNat : Int)) (n.toNat : Int) % 256)] 5)) =
          .ok (.string ⟨[b.getD j 0 ^^^ n].toArray⟩) (wr.alloc (.cells #[.int .u8 (bits .xor .i64 (wrap64 (((⟨b.toArray⟩ : ByteArray)[j]'hh).toNat : Int)) (n.toNat : Int) % 256)] 5)) :=
        conv_row Tryd.underlying47 Tryd.underlying5 Tryd.underlying9 (by rw [heap_alloc_new, hv, one_cell]) rfl
      have hs : (⟨((heldBy b n).take j).toArray⟩ ++ ⟨[b.getD j 0 ^^^ n].toArray⟩ : ByteArray) = ⟨((heldBy b n).take (j + 1)).toArray⟩ := by
        rw [ByteArray.mk_append_mk, take_next b n j (by omega)]
      have Hs := Lib.hid hs
      have Hl : ((heldBy b n).take j).length ≤ 64 := by rw [List.length_take]; omega
      clear hs hv
      generalize b.getD j 0 ^^^ n = x at *
      generalize (heldBy b n).take j = y at *
      go_wp2
      go_roundw
      case rel => exact ⟨j + 1, by omega, by go_num, by rw [Hs.out], hbel.alloc hbel.size _⟩
      case measure => simp [intOf]; omega
    · have hk : j = 64 := by omega
      subst hk
      rw [List.take_of_length_le (by rw [heldBy_length]; omega)]
      go_wp2
      go_ret
      exact ⟨rfl, hbel⟩
end Go.Proofs.YtcndlmkcnhhckaaDoor.RMac
