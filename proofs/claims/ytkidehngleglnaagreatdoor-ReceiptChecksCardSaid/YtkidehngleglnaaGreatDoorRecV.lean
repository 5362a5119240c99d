/- The document's Put: the walk of its text. No conditions but those that each lemma names. -/
import Derived.Test.YtkidehngleglnaaGreatDoorLRez
import Derived.Test.YtkidehngleglnaaGreatDoorRecQ
import Derived.Test.YtkidehngleglnaaGreatDoorRPack
import Derived.Test.YtkidehngleglnaaGreatDoorRText
import Derived.Deep.RegionHeld3
namespace Go.Proofs.YtkidehngleglnaaGreatDoor.RecV
open Go.RowKit
open RecN RecC RecM RecP RecQ
/-- What the document's Text answers. -/
theorem texted (s : List UInt8) (h : s.length < 4294967296) (w : World) :
    Calls Tryz.prog 46 #[.string ⟨s.toArray⟩] w fun r w' => r = .returned (.string ⟨(txt s).toArray⟩) ∧ Below w.heap.size w w' := by
  have := RText.any ⟨s.toArray⟩ w (by rw [size_mk]; exact h)
  rw [text_mk] at this
  exact this
theorem nums_is {r : Rec} (h : right r) : ∀ x ∈ [r.k, r.ep, r.tm, r.ct, r.tg, r.un], IsInt x := by
  obtain ⟨h1, h2, h3, h4, h5, h6, _⟩ := bounds h
  intro x hx
  simp only [List.mem_cons, List.not_mem_nil, or_false] at hx
  unfold IsInt
  rcases hx with rfl | rfl | rfl | rfl | rfl | rfl <;> omega
set_option maxRecDepth 100000 in
set_option maxHeartbeats 4000000 in
theorem Put_yes (r : Rec) (w : World) (h : right r) :
    Calls Tryz.prog 24 #[.agg #[.int .i64 r.k, .int .i64 r.ep, .int .i64 r.tm, .int .i64 r.ct, .int .i64 r.tg, .int .i64 r.un, .string ⟨r.rt.toArray⟩, .string ⟨r.nm.toArray⟩]] w fun e w' => e = .returned (.tuple #[.string ⟨(RecN.bytes r).toArray⟩, .bool true]) ∧ Below w.heap.size w w' := by
  obtain ⟨W1, hW1⟩ : ∃ W1, W1 = w.alloc (.cells #[.int .i64 r.k, .int .i64 r.ep, .int .i64 r.tm, .int .i64 r.ct, .int .i64 r.tg, .int .i64 r.un, .string ⟨r.rt.toArray⟩, .string ⟨r.nm.toArray⟩] 23) := ⟨_, rfl⟩
  have SS : Hid (Ws w r W1) := Lib.hid (by rw [hW1]; exact ws_new w r)
  obtain ⟨k0, k1, k2, k3, k4, k5, k6, k7⟩ := SS.out.k.cells
  have HC := Lib.hid (fun W => RecZ.Right r W)
  rw [dt h] at HC
  have HL : Hid (pack [1, 4, 8, 4, 4, 8] [r.k, r.ep, r.tm, r.ct, r.tg, r.un] = (head r, 0)) := Lib.hid (pack_head h)
  have HI := Lib.hid (nums_is h)
  have hb := bounds h
  have HT1 := Lib.hid (fun W => texted r.rt (by omega) W)
  have HT2 := Lib.hid (fun W => texted r.nm (by omega) W)
  have HB : Hid (RecN.bytes r = head r ++ (txt r.rt ++ txt r.nm)) := Lib.hid (by rw [RecN.bytes, List.append_assoc])
  have n1 := head_len h
  have n2 := txt_len r.rt
  have n3 := txt_len r.nm
  have a1 := add_l (head r) (txt r.rt) (by omega)
  have a2 := add_l (head r ++ txt r.rt) (txt r.nm) (by rw [List.length_append]; omega)
  clear n1 n2 n3 h hb
  generalize head r = hd at *
  generalize txt r.rt = ta at *
  generalize txt r.nm = tb at *
  generalize RecN.bytes r = bs at *
  go_enter Tryz.func24, Tryz.ntmps24
  go_upto_region 1 with (fail)
  rw [← hW1]
  clear hW1
  go_upto_region 3 with (go_at_call 37; refine (HC.out _).mono ?_; rintro e w2 ⟨rfl, hb⟩; replace SS := Lib.hid (SS.out.step hb); clear hb k0 k1 k2 k3 k4 k5 k6 k7)
  obtain ⟨Wa, hWa⟩ : ∃ Wa, Wa = w2.alloc (.cells #[.int .i64 1, .int .i64 4, .int .i64 8, .int .i64 4, .int .i64 4, .int .i64 8] 3) := ⟨_, rfl⟩
  have hsa : Wa.heap.size = w2.heap.size + 1 := by rw [hWa]; simp
  obtain ⟨Wb, hWb⟩ : ∃ Wb, Wb = Wa.alloc (.cells #[.int .i64 r.k, .int .i64 r.ep, .int .i64 r.tm, .int .i64 r.ct, .int .i64 r.tg, .int .i64 r.un] 3) := ⟨_, rfl⟩
  have SA := SS.out.step (below_new w2 (.cells #[.int .i64 1, .int .i64 4, .int .i64 8, .int .i64 4, .int .i64 4, .int .i64 8] 3))
  rw [← hWa] at SA
  have SB := SA.step (below_new Wa (.cells #[.int .i64 r.k, .int .i64 r.ep, .int .i64 r.tm, .int .i64 r.ct, .int .i64 r.tg, .int .i64 r.un] 3))
  rw [← hWb] at SB
  have ha0 : Wa.heap[w2.heap.size]? = some (.cells #[.int .i64 1, .int .i64 4, .int .i64 8, .int .i64 4, .int .i64 4, .int .i64 8] 3 (0, 0)) := by rw [hWa]; exact heap_alloc_new w2 _
  have ha : Wb.heap[w2.heap.size]? = some (.cells #[.int .i64 1, .int .i64 4, .int .i64 8, .int .i64 4, .int .i64 4, .int .i64 8] 3 (0, 0)) := by
    rw [hWb]
    exact ((below_new Wa _).block _ (lt_of_some ha0)).trans ha0
  have hbb : Wb.heap[w2.heap.size + 1]? = some (.cells #[.int .i64 r.k, .int .i64 r.ep, .int .i64 r.tm, .int .i64 r.ct, .int .i64 r.tg, .int .i64 r.un] 3 (0, 0)) := by
    rw [hWb, ← hsa]
    exact heap_alloc_new Wa _
  have R1 := Lib.hid (row6 ha)
  have N1 := Lib.hid (row6 hbb)
  clear ha0 ha hbb hsa
  replace SS := Lib.hid SB
  obtain ⟨j0, j1, j2, j3, j4, j5, j6, j7⟩ := SA.k.cells
  clear SA SB
  rw [hWa] at j0 j1 j2 j3 j4 j5 j6 j7
  go_wp2_with (first
    | (go_at_call 45; rw [← hWa, ← hWb]; refine (RPack.any _ _ _ _ _ _ _ _ _ R1.out N1.out (by omega) HI.out).mono ?_; rw [HL.out]; rintro e w6 ⟨rfl, hb6⟩; replace SS := Lib.hid (SS.out.step hb6); clear hb6))
  clear j0 j1 j2 j3 j4 j5 j6 j7 hWa hWb R1 N1 HC HL HI
  go_upto_region 4 with (fail)
  replace SS := Lib.hid SS.out.drew
  have hS := SS.out.k.cells
  go_region_held3 (fun W' => W'.cell? ⟨w.heap.size, 0, none⟩ = some (.int .i64 r.k) ∧ W'.cell? ⟨w.heap.size, 1, none⟩ = some (.int .i64 r.ep) ∧ W'.cell? ⟨w.heap.size, 2, none⟩ = some (.int .i64 r.tm) ∧ W'.cell? ⟨w.heap.size, 3, none⟩ = some (.int .i64 r.ct) ∧ W'.cell? ⟨w.heap.size, 4, none⟩ = some (.int .i64 r.tg) ∧ W'.cell? ⟨w.heap.size, 5, none⟩ = some (.int .i64 r.un) ∧ W'.cell? ⟨w.heap.size, 6, none⟩ = some (.string ⟨r.rt.toArray⟩) ∧ W'.cell? ⟨w.heap.size, 7, none⟩ = some (.string ⟨r.nm.toArray⟩))
    (exact hS)
    (first
      | (go_at_call 46; refine (HT1.out _).mono ?_; rintro e w8 ⟨rfl, hb⟩; replace SS := Lib.hid (SS.out.step hb); replace hS := SS.out.k.cells; clear hb HT1)
      | (go_at_call 46; refine (HT2.out _).mono ?_; rintro e w9 ⟨rfl, hb⟩; replace SS := Lib.hid (SS.out.step hb); replace hS := SS.out.k.cells; clear hb))
  go_wp2
  go_ret2
  rw [HB.out]
  exact ⟨rfl, SS.out.bel⟩
theorem Put_no (r : Rec) (w : World) (h : ¬ right r) :
    Calls Tryz.prog 24 #[.agg #[.int .i64 r.k, .int .i64 r.ep, .int .i64 r.tm, .int .i64 r.ct, .int .i64 r.tg, .int .i64 r.un, .string ⟨r.rt.toArray⟩, .string ⟨r.nm.toArray⟩]] w fun e w' => e = .returned (.tuple #[.string ⟨#[]⟩, .bool false]) ∧ Below w.heap.size w w' := by
  obtain ⟨W1, hW1⟩ : ∃ W1, W1 = w.alloc (.cells #[.int .i64 r.k, .int .i64 r.ep, .int .i64 r.tm, .int .i64 r.ct, .int .i64 r.tg, .int .i64 r.un, .string ⟨r.rt.toArray⟩, .string ⟨r.nm.toArray⟩] 23) := ⟨_, rfl⟩
  have SS : Hid (Ws w r W1) := Lib.hid (by rw [hW1]; exact ws_new w r)
  obtain ⟨k0, k1, k2, k3, k4, k5, k6, k7⟩ := SS.out.k.cells
  have HC := Lib.hid (fun W => RecZ.Right r W)
  rw [df h] at HC
  clear h
  go_enter Tryz.func24, Tryz.ntmps24
  go_upto_region 1 with (fail)
  rw [← hW1]
  clear hW1
  go_wp2_with (go_at_call 37; refine (HC.out _).mono ?_; rintro e w2 ⟨rfl, hb⟩; replace SS := Lib.hid (SS.out.step hb); clear hb)
  go_ret2
  exact ⟨rfl, SS.out.bel⟩
/-- What the document's Put answers. -/
theorem Put (r : Rec) (w : World) :
    Calls Tryz.prog 24 #[.agg #[.int .i64 r.k, .int .i64 r.ep, .int .i64 r.tm, .int .i64 r.ct, .int .i64 r.tg, .int .i64 r.un, .string ⟨r.rt.toArray⟩, .string ⟨r.nm.toArray⟩]] w fun e w' => e = .returned (.tuple #[.string ⟨(put_ r).1.toArray⟩, .bool (decide (right r))]) ∧ Below w.heap.size w w' := by
  by_cases h : right r
  · rw [RecQ.put_yes h, dt h]
    exact Put_yes r w h
  · rw [RecQ.put_no h, df h]
    exact Put_no r w h
end Go.Proofs.YtkidehngleglnaaGreatDoor.RecV
