/- What hmac's 'sideOf' and 'Clash' answer: the walks of their texts. The condition: the rounds' numbers lie in the program's variable. -/
import Derived.Test.YtcndlmkcnhhckaaDoorHInn
import Derived.Test.YtcndlmkcnhhckaaDoorHCla
namespace Go.Proofs.YtcndlmkcnhhckaaDoor.HClash
open Go.RowKit
open STurn SSum
theorem info47 : (Tryd.prog.info? 51).map (·.size) = some 5 := by kernel_rfl
theorem side_one (a b c d e : ByteArray) : (#[Value.string a, Value.string b, Value.string c, Value.string d, Value.string e]).all (·.oneCell') = true := by simp [Value.oneCell']
set_option maxHeartbeats 1000000 in
theorem sideOf (k m : List UInt8) (w : World) (hr : Rds w) (hk : k.length ≤ 576460752303423400) (hm : m.length ≤ 576460752303423400) :
    Calls Tryd.prog 28 #[.string ⟨k.toArray⟩, .string ⟨m.toArray⟩] w fun e w' => e = .returned (.agg #[.string ⟨(keyBlock k).toArray⟩, .string ⟨m.toArray⟩, .string ⟨(innerOf k m).toArray⟩, .string ⟨(outerOf k m).toArray⟩, .string ⟨(macOf k m).toArray⟩]) ∧ Below w.heap.size w w' := by
  have HO := Lib.hid (fun W hr => HInn.Outer k m W hr (by omega) hm)
  have HK := Lib.hid (fun W hr => HKey.Key k W hr (by omega))
  have HI := Lib.hid (fun W hr => HInn.Inner k m W hr (by omega) (by omega))
  have hol := outer_length k m
  have HS : Hid (∀ W, Rds W → Calls Tryd.prog 39 #[.slice (some ⟨W.heap.size, 0, none⟩) 1 1] (W.alloc (.cells #[.string ⟨(outerOf k m).toArray⟩] 9)) fun e w' => e = .returned (.string ⟨(macOf k m).toArray⟩) ∧ Below W.heap.size W w') :=
    Lib.hid (fun W hr => SFold.one (outerOf k m) W hr (by omega))
  generalize macOf k m = z at *
  generalize outerOf k m = o at *
  generalize innerOf k m = y at *
  generalize keyBlock k = b at *
  have HR := Lib.hid hr
  clear hr hk hm hol
  obtain ⟨wA, hA⟩ : ∃ wA, wA = w.alloc (.cells #[.string ⟨#[]⟩, .string ⟨#[]⟩, .string ⟨#[]⟩, .string ⟨#[]⟩, .string ⟨#[]⟩] 51) := ⟨_, rfl⟩
  have HBA : Hid (Below w.heap.size w wA) := by rw [hA]; exact (Below.refl _ _).alloc (Nat.le_refl _) _
  have HZA : Hid (wA.heap[w.heap.size]? = some (.cells #[.string ⟨#[]⟩, .string ⟨#[]⟩, .string ⟨#[]⟩, .string ⟨#[]⟩, .string ⟨#[]⟩] 51 (0, 0))) := by rw [hA]; exact heap_alloc_new w _
  have hsA : w.heap.size < wA.heap.size := (Array.getElem?_eq_some_iff.1 HZA.out).1
  go_enter Tryd.func28, Tryd.ntmps28
  go_wp2_with fail
  rw [← hA]
  clear hA
  refine (HO.out _ (HR.out.step HBA.out)).mono ?_
  rintro e w1 ⟨rfl, hb1⟩
  have HB1 := Lib.hid (HBA.out.trans (hb1.mono HBA.out.size))
  have HZ1 := Lib.hid ((hb1.block _ hsA).trans HZA.out)
  have hs1 : w.heap.size < w1.heap.size := Nat.lt_of_lt_of_le hsA hb1.size
  clear hb1 hsA HZA HBA
  go_wp2_with fail
  refine (HK.out _ (HR.out.step HB1.out)).mono ?_
  rintro e w2 ⟨rfl, hb2⟩
  have HB2 := Lib.hid (HB1.out.trans (hb2.mono HB1.out.size))
  have HZ2 := Lib.hid ((hb2.block _ hs1).trans HZ1.out)
  have hs2 : w.heap.size < w2.heap.size := Nat.lt_of_lt_of_le hs1 hb2.size
  clear hb2 hs1 HZ1 HB1
  go_wp2_with fail
  refine (HI.out _ (HR.out.step HB2.out)).mono ?_
  rintro e w3 ⟨rfl, hb3⟩
  have HB3 := Lib.hid (HB2.out.trans (hb3.mono HB2.out.size))
  have HZ3 := Lib.hid ((hb3.block _ hs2).trans HZ2.out)
  have hs3 : w.heap.size < w3.heap.size := Nat.lt_of_lt_of_le hs2 hb3.size
  clear hb3 hs2 HZ2 HB2
  go_wp2_with fail
  refine (HS.out _ (HR.out.step HB3.out)).mono ?_
  rintro e w4 ⟨rfl, hb4⟩
  have HB4 := Lib.hid (HB3.out.trans (hb4.mono HB3.out.size))
  have HZ4 := Lib.hid ((hb4.block _ hs3).trans HZ3.out)
  clear hb4 hs3 HZ3 HB3
  go_wp2_with (refine wpList_store_row rfl 51 _ _ rfl w.heap.size #[.string ⟨b.toArray⟩, .string ⟨m.toArray⟩, .string ⟨y.toArray⟩, .string ⟨o.toArray⟩, .string ⟨z.toArray⟩] rfl rfl 51 _ HZ4.out info47 rfl (side_one _ _ _ _ _) ?_)
  refine bodyPost_ret (v := .agg #[.string ⟨b.toArray⟩, .string ⟨m.toArray⟩, .string ⟨y.toArray⟩, .string ⟨o.toArray⟩, .string ⟨z.toArray⟩])
    (results_cell_row Tryd.results28 _ _ w.heap.size 51 #[.string ⟨b.toArray⟩, .string ⟨m.toArray⟩, .string ⟨y.toArray⟩, .string ⟨o.toArray⟩, .string ⟨z.toArray⟩] (0, 0) _ rfl (setRow_same HZ4.out) Tryd.underlying51 rfl (by exact info47)) rfl ⟨rfl, below_setRow HB4.out (Nat.le_refl _) _⟩
/-- What Clash answers. -/
def clashOf (k m l n : List UInt8) : List UInt8 × List UInt8 × Bool := HCla.found (keyBlock k) m (innerOf k m) (outerOf k m) (macOf k m) (keyBlock l) n (innerOf l n) (outerOf l n) (macOf l n)
theorem Clash (k m l n : List UInt8) (w : World) (hr : Rds w) (hk : k.length ≤ 576460752303423400) (hm : m.length ≤ 576460752303423400) (hl : l.length ≤ 576460752303423400) (hn : n.length ≤ 576460752303423400) :
    Calls Tryd.prog 19 #[.string ⟨k.toArray⟩, .string ⟨m.toArray⟩, .string ⟨l.toArray⟩, .string ⟨n.toArray⟩] w fun e w' => e = .returned (.tuple #[.string ⟨(clashOf k m l n).1.toArray⟩, .string ⟨(clashOf k m l n).2.1.toArray⟩, .bool (clashOf k m l n).2.2]) ∧ Below w.heap.size w w' := by
  have HA := Lib.hid (fun W hr => sideOf k m W hr hk hm)
  have HB := Lib.hid (fun W hr => sideOf l n W hr hl hn)
  have HC := Lib.hid (fun W => HCla.any (keyBlock k) m (innerOf k m) (outerOf k m) (macOf k m) (keyBlock l) n (innerOf l n) (outerOf l n) (macOf l n) W)
  rw [show HCla.found (keyBlock k) m (innerOf k m) (outerOf k m) (macOf k m) (keyBlock l) n (innerOf l n) (outerOf l n) (macOf l n) = clashOf k m l n from rfl] at HC
  generalize clashOf k m l n = r at *
  generalize macOf k m = z1 at *
  generalize outerOf k m = o1 at *
  generalize innerOf k m = y1 at *
  generalize keyBlock k = b1 at *
  generalize macOf l n = z2 at *
  generalize outerOf l n = o2 at *
  generalize innerOf l n = y2 at *
  generalize keyBlock l = b2 at *
  have HR := Lib.hid hr
  clear hr hk hm hl hn
  obtain ⟨r1, r2, r3⟩ := r
  go_enter Tryd.func19, Tryd.ntmps19
  go_wp2_with fail
  refine (HA.out _ HR.out).mono ?_
  rintro e w1 ⟨rfl, hb1⟩
  have HB1 := Lib.hid hb1
  clear hb1
  go_wp2_with fail
  refine (HB.out _ (HR.out.step HB1.out)).mono ?_
  rintro e w2 ⟨rfl, hb2⟩
  have HB2 := Lib.hid (HB1.out.trans (hb2.mono HB1.out.size))
  clear hb2
  go_wp2_with fail
  refine (HC.out _).mono ?_
  rintro e w3 ⟨rfl, hb3⟩
  have HB3 := Lib.hid (HB2.out.trans (hb3.mono HB2.out.size))
  clear hb3
  go_wp2
  go_ret3
  exact ⟨rfl, HB3.out⟩
end Go.Proofs.YtcndlmkcnhhckaaDoor.HClash
