/- What hmac's 'Inner' and 'Outer' answer: the walks of their texts. The condition: the rounds' numbers lie in the program's variable. -/
import Derived.Test.YtcndlmkcnhhckaaDoorHTurn
namespace Go.Proofs.YtcndlmkcnhhckaaDoor.HInn
open Go.RowKit
open STurn SSum
/-- The closure over a key's block. -/
theorem by_ (k : List UInt8) (n : UInt8) (c : Nat) (w : World) (hc : w.cell? ⟨c, 0, none⟩ = some (.string ⟨(keyBlock k).toArray⟩)) :
    Calls Tryd.prog 68 #[.int .u8 n.toNat, .pointer (some ⟨c, 0, none⟩)] w fun e w' => e = .returned (.string ⟨(heldBy (keyBlock k) n).toArray⟩) ∧ Below w.heap.size w w' :=
  HXor.turned (keyBlock k) n c w (keyBlock_length k) hc
theorem one (k : List UInt8) (c : Nat) (w : World) (hc : w.cell? ⟨c, 0, none⟩ = some (.string ⟨(keyBlock k).toArray⟩)) :
    Calls Tryd.prog 68 #[.int .u8 54, .pointer (some ⟨c, 0, none⟩)] w fun e w' => e = .returned (.string ⟨(heldBy (keyBlock k) 54).toArray⟩) ∧ Below w.heap.size w w' := by_ k 54 c w hc
theorem two (k : List UInt8) (c : Nat) (w : World) (hc : w.cell? ⟨c, 0, none⟩ = some (.string ⟨(keyBlock k).toArray⟩)) :
    Calls Tryd.prog 68 #[.int .u8 92, .pointer (some ⟨c, 0, none⟩)] w fun e w' => e = .returned (.string ⟨(heldBy (keyBlock k) 92).toArray⟩) ∧ Below w.heap.size w w' := by_ k 92 c w hc
/-- The sum of two texts, as the program calls it. -/
theorem pair (x y : List UInt8) (w : World) (hr : Rds w) (hl : x.length + y.length ≤ 576460752303423488) :
    Calls Tryd.prog 39 #[.slice (some ⟨w.heap.size, 0, none⟩) 2 2] (w.alloc (.cells #[.string ⟨x.toArray⟩, .string ⟨y.toArray⟩] 9)) fun e w' => e = .returned (.string ⟨(sum (x ++ y)).toArray⟩) ∧ Below w.heap.size w w' := by
  have h := sums (some ⟨w.heap.size, 0, none⟩) 2 2 [x, y] (w.alloc (.cells #[.string ⟨x.toArray⟩, .string ⟨y.toArray⟩] 9))
    ⟨rfl, fun _ => ⟨_, _, rfl, by simp, fun i hi => by
      match i, hi with
      | 0, _ => exact blk_cell (heap_alloc_new w _) rfl
      | 1, _ => exact blk_cell (heap_alloc_new w _) rfl⟩⟩ (hr.step ((Below.refl _ _).alloc (Nat.le_refl _) _)) (by simpa using hl) (by omega)
  rw [show ([x, y] : List (List UInt8)).flatten = x ++ y from by simp] at h
  exact h.mono fun e w' ⟨h1, h2⟩ => ⟨h1, ((Below.refl w.heap.size w).alloc (Nat.le_refl _) _).trans (h2.mono (by simp))⟩
theorem Inner (k m : List UInt8) (w : World) (hr : Rds w) (hk : k.length ≤ 576460752303423488) (hm : m.length ≤ 576460752303423488) :
    Calls Tryd.prog 38 #[.string ⟨k.toArray⟩, .string ⟨m.toArray⟩] w fun e w' => e = .returned (.string ⟨(innerOf k m).toArray⟩) ∧ Below w.heap.size w w' := by
  have HT := Lib.hid (HTurn.turner k w hr hk)
  have HX := Lib.hid (fun c W hc => one k c W hc)
  have HE : Hid ((⟨(heldBy (keyBlock k) 54).toArray⟩ ++ ⟨m.toArray⟩ : ByteArray) = ⟨(innerOf k m).toArray⟩) := by
    show _ = _
    rw [ByteArray.mk_append_mk]; rfl
  have hxl : (heldBy (keyBlock k) 54).length = 64 := by rw [heldBy_length, keyBlock_length]
  generalize heldBy (keyBlock k) 54 = x at *
  generalize innerOf k m = y at *
  clear hr hk
  go_enter Tryd.func38, Tryd.ntmps38
  go_wp2_with fail
  refine HT.out.mono ?_
  rintro e w1 ⟨c, hwc, hcl, rfl, hc, hb1⟩
  have HC := Lib.hid hc
  have HB1 := Lib.hid hb1
  clear hc hb1
  go_wp2_with fail
  refine (HX.out c _ HC.out).mono ?_
  rintro e w2 ⟨rfl, hb2⟩
  have HB2 := Lib.hid (HB1.out.trans (hb2.mono HB1.out.size))
  clear hb2
  go_wp2
  rw [HE.out]
  go_ret
  exact ⟨rfl, HB2.out⟩
theorem Outer (k m : List UInt8) (w : World) (hr : Rds w) (hk : k.length ≤ 576460752303423488) (hm : m.length ≤ 576460752303423400) :
    Calls Tryd.prog 36 #[.string ⟨k.toArray⟩, .string ⟨m.toArray⟩] w fun e w' => e = .returned (.string ⟨(outerOf k m).toArray⟩) ∧ Below w.heap.size w w' := by
  have HT := Lib.hid (HTurn.turner k w hr hk)
  have HX := Lib.hid (fun c W hc => one k c W hc)
  have HY := Lib.hid (fun c W hc => two k c W hc)
  have hxl : (heldBy (keyBlock k) 54).length = 64 := by rw [heldBy_length, keyBlock_length]
  have hyl : (heldBy (keyBlock k) 92).length = 64 := by rw [heldBy_length, keyBlock_length]
  have hsl := sum_length (heldBy (keyBlock k) 54 ++ m)
  have HS := Lib.hid (fun W hr => pair (heldBy (keyBlock k) 54) m W hr (by omega))
  have HE : Hid ((⟨(heldBy (keyBlock k) 92).toArray⟩ ++ ⟨(sum (heldBy (keyBlock k) 54 ++ m)).toArray⟩ : ByteArray) = ⟨(outerOf k m).toArray⟩) := by
    show _ = _
    rw [ByteArray.mk_append_mk]; rfl
  generalize sum (heldBy (keyBlock k) 54 ++ m) = z at *
  generalize heldBy (keyBlock k) 54 = x at *
  generalize heldBy (keyBlock k) 92 = y at *
  generalize outerOf k m = o at *
  have HR := Lib.hid hr
  clear hr hk hm
  go_enter Tryd.func36, Tryd.ntmps36
  go_wp2_with fail
  refine HT.out.mono ?_
  rintro e w1 ⟨c, hwc, hcl, rfl, hc, hb1⟩
  have HC := Lib.hid hc
  have HB1 := Lib.hid hb1
  clear hc hb1
  go_wp2_with fail
  refine (HY.out c _ HC.out).mono ?_
  rintro e w2 ⟨rfl, hb2⟩
  have HC2 := Lib.hid ((hb2.cell (p := ⟨c, 0, none⟩) hcl).trans HC.out)
  have HB2 := Lib.hid (HB1.out.trans (hb2.mono HB1.out.size))
  clear hb2
  go_wp2_with fail
  refine (HX.out c _ HC2.out).mono ?_
  rintro e w3 ⟨rfl, hb3⟩
  have HB3 := Lib.hid (HB2.out.trans (hb3.mono HB2.out.size))
  clear hb3
  go_wp2_with fail
  refine (HS.out _ (HR.out.step HB3.out)).mono ?_
  rintro e w4 ⟨rfl, hb4⟩
  have HB4 := Lib.hid (HB3.out.trans (hb4.mono HB3.out.size))
  clear hb4
  go_wp2
  rw [HE.out]
  go_ret
  exact ⟨rfl, HB4.out⟩
end Go.Proofs.YtcndlmkcnhhckaaDoor.HInn
