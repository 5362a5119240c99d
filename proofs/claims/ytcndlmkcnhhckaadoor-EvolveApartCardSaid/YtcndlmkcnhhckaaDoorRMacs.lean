/- What keepsakeref03's 'Inner', 'Outer' and 'Mac' answer: the walks of their texts. -/
import Derived.Test.YtcndlmkcnhhckaaDoorRMac
namespace Go.Proofs.YtcndlmkcnhhckaaDoor.RMacs
open Go.RowKit
theorem Inner (k m : List UInt8) (w : World) (hk : k.length ≤ 500) (hm : m.length ≤ 500) :
    Calls Tryd.prog 53 #[.string ⟨k.toArray⟩, .string ⟨m.toArray⟩] w fun e w' => e = .returned (.string ⟨(innerOf k m).toArray⟩) ∧ Below w.heap.size w w' := by
  have HX : Hid (∀ W, Calls Tryd.prog 52 #[.string ⟨k.toArray⟩, .int .i64 54] W fun e w' => e = .returned (.string ⟨(heldBy (keyBlock k) 54).toArray⟩) ∧ Below W.heap.size W w') :=
    Lib.hid (fun W => RMac.held k 54 W (by omega))
  have HE : Hid ((⟨(heldBy (keyBlock k) 54).toArray⟩ ++ ⟨m.toArray⟩ : ByteArray) = ⟨(innerOf k m).toArray⟩) := by
    show _ = _
    rw [ByteArray.mk_append_mk]; rfl
  have hxl : (heldBy (keyBlock k) 54).length = 64 := by rw [heldBy_length, keyBlock_length]
  generalize heldBy (keyBlock k) 54 = x at *
  generalize innerOf k m = y at *
  go_enter Tryd.func53, Tryd.ntmps53
  go_wp2_with fail
  refine (HX.out _).mono ?_
  rintro e w1 ⟨rfl, hb1⟩
  have HB1 := Lib.hid hb1
  clear hb1
  go_wp2
  rw [HE.out]
  go_ret
  exact ⟨rfl, HB1.out⟩
theorem Outer (k m : List UInt8) (w : World) (hk : k.length ≤ 500) (hm : m.length ≤ 500) :
    Calls Tryd.prog 35 #[.string ⟨k.toArray⟩, .string ⟨m.toArray⟩] w fun e w' => e = .returned (.string ⟨(outerOf k m).toArray⟩) ∧ Below w.heap.size w w' := by
  have HX : Hid (∀ W, Calls Tryd.prog 52 #[.string ⟨k.toArray⟩, .int .i64 92] W fun e w' => e = .returned (.string ⟨(heldBy (keyBlock k) 92).toArray⟩) ∧ Below W.heap.size W w') :=
    Lib.hid (fun W => RMac.held k 92 W (by omega))
  have HI := Lib.hid (fun W => Inner k m W hk hm)
  have hil := inner_length k m
  have HS := Lib.hid (fun W => RSum.Sum (innerOf k m) W (by omega))
  have HE : Hid ((⟨(heldBy (keyBlock k) 92).toArray⟩ ++ ⟨(sum (innerOf k m)).toArray⟩ : ByteArray) = ⟨(outerOf k m).toArray⟩) := by
    show _ = _
    rw [ByteArray.mk_append_mk]; rfl
  have hxl : (heldBy (keyBlock k) 92).length = 64 := by rw [heldBy_length, keyBlock_length]
  have hsl := sum_length (innerOf k m)
  generalize heldBy (keyBlock k) 92 = x at *
  generalize sum (innerOf k m) = z at *
  generalize innerOf k m = y at *
  generalize outerOf k m = o at *
  go_enter Tryd.func35, Tryd.ntmps35
  go_wp2_with fail
  refine (HX.out _).mono ?_
  rintro e w1 ⟨rfl, hb1⟩
  have HB1 := Lib.hid hb1
  clear hb1
  go_wp2_with fail
  refine (HI.out _).mono ?_
  rintro e w2 ⟨rfl, hb2⟩
  have HB2 := Lib.hid (HB1.out.trans (hb2.mono HB1.out.size))
  clear hb2
  go_wp2_with fail
  refine (HS.out _).mono ?_
  rintro e w3 ⟨rfl, hb3⟩
  have HB3 := Lib.hid (HB2.out.trans (hb3.mono HB2.out.size))
  clear hb3
  go_wp2
  rw [HE.out]
  go_ret
  exact ⟨rfl, HB3.out⟩
theorem Mac (k m : List UInt8) (w : World) (hk : k.length ≤ 500) (hm : m.length ≤ 500) :
    Calls Tryd.prog 24 #[.string ⟨k.toArray⟩, .string ⟨m.toArray⟩] w fun e w' => e = .returned (.string ⟨(macOf k m).toArray⟩) ∧ Below w.heap.size w w' := by
  have HI := Lib.hid (fun W => Outer k m W hk hm)
  have hol := outer_length k m
  have HS : Hid (∀ W, Calls Tryd.prog 34 #[.string ⟨(outerOf k m).toArray⟩] W fun e w' => e = .returned (.string ⟨(macOf k m).toArray⟩) ∧ Below W.heap.size W w') :=
    Lib.hid (fun W => RSum.Sum (outerOf k m) W (by omega))
  generalize macOf k m = z at *
  generalize outerOf k m = o at *
  go_enter Tryd.func24, Tryd.ntmps24
  go_wp2_with fail
  refine (HI.out _).mono ?_
  rintro e w1 ⟨rfl, hb1⟩
  have HB1 := Lib.hid hb1
  clear hb1
  go_wp2_with fail
  refine (HS.out _).mono ?_
  rintro e w2 ⟨rfl, hb2⟩
  have HB2 := Lib.hid (HB1.out.trans (hb2.mono HB1.out.size))
  clear hb2
  go_wp2
  go_ret
  exact ⟨rfl, HB2.out⟩
end Go.Proofs.YtcndlmkcnhhckaaDoor.RMacs
