/- record.Put: the walk of its text; what serves read and Take. No conditions but those that each lemma names. -/
import Derived.Test.YtkidehngleglnaaGreatDoorLRec
import Derived.Test.YtkidehngleglnaaGreatDoorLOpk
import Derived.Test.YtkidehngleglnaaGreatDoorOText
namespace Go.Proofs.YtkidehngleglnaaGreatDoor.RecQ
open Go.RowKit
open RecN RecC RecM RecP RecK
theorem add_l (a b : List UInt8) (h : a.length + b.length ≤ 9223372036854775807) (W : World) : (Op.stringOp .add ⟨a.toArray⟩ ⟨b.toArray⟩).run Tryz.prog W = .ok (.string ⟨(a ++ b).toArray⟩) W := by
  rw [run_string_add_sum (P := Tryz.prog) (w := W) (⟨a.toArray⟩ : ByteArray) (⟨b.toArray⟩ : ByteArray) (by rw [size_mk, size_mk]; exact h), mk_append]
/-- Six ints in a block as a row. -/
theorem row6 {w : World} {g : Nat} {t : TypeId} {f : Nat × Nat} {a b c d e h : Int} (hh : w.heap[g]? = some (.cells #[.int .i64 a, .int .i64 b, .int .i64 c, .int .i64 d, .int .i64 e, .int .i64 h] t f)) : Row w w.heap.size (some ⟨g, 0, none⟩) 6 [a, b, c, d, e, h] :=
  ⟨rfl, fun _ => ⟨g, 0, rfl, (Array.getElem?_eq_some_iff.1 hh).1, fun i hi => by
    rw [Nat.zero_add]
    match i, hi with
    | 0, _ => exact blk_cell hh rfl
    | 1, _ => exact blk_cell hh rfl
    | 2, _ => exact blk_cell hh rfl
    | 3, _ => exact blk_cell hh rfl
    | 4, _ => exact blk_cell hh rfl
    | 5, _ => exact blk_cell hh rfl⟩⟩
/-- What Text answers. -/
theorem texted (s : List UInt8) (h : s.length ≤ 281474976710656) (w : World) :
    Calls Tryz.prog 44 #[.string ⟨s.toArray⟩] w fun r w' => r = .returned (.string ⟨(txt s).toArray⟩) ∧ Below w.heap.size w w' := by
  have := OText.any ⟨s.toArray⟩ w (by rw [size_mk]; exact h)
  rw [text_mk] at this
  exact this
def put_ (r : Rec) : List UInt8 × Int := if right r then (RecN.bytes r, 0) else ([], 2)
theorem put_yes {r : Rec} (h : right r) : put_ r = (RecN.bytes r, 0) := if_pos h
theorem put_no {r : Rec} (h : ¬ right r) : put_ r = ([], 2) := if_neg h
set_option maxRecDepth 100000 in
set_option maxHeartbeats 4000000 in
theorem Put_yes (r : Rec) (w : World) (h : right r) :
    Calls Tryz.prog 22 #[.agg #[.int .i64 r.k, .int .i64 r.ep, .int .i64 r.tm, .int .i64 r.ct, .int .i64 r.tg, .int .i64 r.un, .string ⟨r.rt.toArray⟩, .string ⟨r.nm.toArray⟩]] w fun e w' => e = .returned (.tuple #[.string ⟨(RecN.bytes r).toArray⟩, .int .i64 0]) ∧ Below w.heap.size w w' := by
  obtain ⟨W1, hW1⟩ : ∃ W1, W1 = w.alloc (.cells #[.int .i64 r.k, .int .i64 r.ep, .int .i64 r.tm, .int .i64 r.ct, .int .i64 r.tg, .int .i64 r.un, .string ⟨r.rt.toArray⟩, .string ⟨r.nm.toArray⟩] 23) := ⟨_, rfl⟩
  have SS : Hid (Ws w r W1) := Lib.hid (by rw [hW1]; exact ws_new w r)
  obtain ⟨k0, k1, k2, k3, k4, k5, k6, k7⟩ := SS.out.k.cells
  have HC := Lib.hid (fun W => Check r W)
  rw [check_yes h] at HC
  have HL : Hid (pack [1, 4, 8, 4, 4, 8] [r.k, r.ep, r.tm, r.ct, r.tg, r.un] = (head r, 0)) := Lib.hid (pack_head h)
  have hb := bounds h
  have HT1 := Lib.hid (fun W => texted r.rt (by omega) W)
  have HT2 := Lib.hid (fun W => texted r.nm (by omega) W)
  have HB : Hid (RecN.bytes r = head r ++ (txt r.rt ++ txt r.nm)) := Lib.hid (by rw [RecN.bytes, List.append_assoc])
  have n1 := head_len h
  have n2 := txt_len r.rt
  have n3 := txt_len r.nm
  have a1 := add_l (head r) (txt r.rt) (by omega)
  have a2 := add_l (head r ++ txt r.rt) (txt r.nm) (by rw [List.length_append]; omega)
  clear n1 n2 n3
  clear h hb
  generalize head r = hd at *
  generalize txt r.rt = ta at *
  generalize txt r.nm = tb at *
  generalize RecN.bytes r = bs at *
  go_enter Tryz.func22, Tryz.ntmps22
  go_upto_region 1 with (fail)
  rw [← hW1]
  clear hW1
  go_upto_region 4 with (go_at_call 30; refine (HC.out _).mono ?_; rintro e w2 ⟨rfl, hb⟩; replace SS := Lib.hid (SS.out.step hb); clear hb k0 k1 k2 k3 k4 k5 k6 k7)
  replace SS := Lib.hid SS.out.drew
  have hS := SS.out.k.cells
  have S0 : Hid (Ws w r (w2.drew.alloc (.cells #[.int .i64 r.k, .int .i64 r.ep, .int .i64 r.tm, .int .i64 r.ct, .int .i64 r.tg, .int .i64 r.un] 3))) := Lib.hid (SS.out.step (below_new _ _))
  have N0 : Hid ((w2.drew.alloc (.cells #[.int .i64 r.k, .int .i64 r.ep, .int .i64 r.tm, .int .i64 r.ct, .int .i64 r.tg, .int .i64 r.un] 3)).heap[w2.heap.size]? = some (.cells #[.int .i64 r.k, .int .i64 r.ep, .int .i64 r.tm, .int .i64 r.ct, .int .i64 r.tg, .int .i64 r.un] 3 (0, 0))) := Lib.hid (heap_alloc_new w2.drew _)
  have Z0 : Hid ((w2.drew.alloc (.cells #[.int .i64 r.k, .int .i64 r.ep, .int .i64 r.tm, .int .i64 r.ct, .int .i64 r.tg, .int .i64 r.un] 3)).heap.size = w2.heap.size + 1) := Lib.hid (by simp)
  have hS0 := S0.out.k.cells
  go_region_held3 (fun W' => W'.cell? ⟨w.heap.size, 0, none⟩ = some (.int .i64 r.k) ∧ W'.cell? ⟨w.heap.size, 1, none⟩ = some (.int .i64 r.ep) ∧ W'.cell? ⟨w.heap.size, 2, none⟩ = some (.int .i64 r.tm) ∧ W'.cell? ⟨w.heap.size, 3, none⟩ = some (.int .i64 r.ct) ∧ W'.cell? ⟨w.heap.size, 4, none⟩ = some (.int .i64 r.tg) ∧ W'.cell? ⟨w.heap.size, 5, none⟩ = some (.int .i64 r.un) ∧ W'.cell? ⟨w.heap.size, 6, none⟩ = some (.string ⟨r.rt.toArray⟩) ∧ W'.cell? ⟨w.heap.size, 7, none⟩ = some (.string ⟨r.nm.toArray⟩))
    (first | exact hS | exact hS1 | exact hS0)
    (first
      | (go_at_call 43; refine (widths _).mono ?_; rintro e w5 ⟨rfl, hk5, hb5⟩; have S5 := Lib.hid (SS.out.step hb5); have hS := S5.out.k.cells; have S1 : Hid (Ws w r (w5.alloc (.cells #[.int .i64 r.k, .int .i64 r.ep, .int .i64 r.tm, .int .i64 r.ct, .int .i64 r.tg, .int .i64 r.un] 3))) := Lib.hid (S5.out.step (below_new _ _)); have N1 : Hid (Row (w5.alloc (.cells #[.int .i64 r.k, .int .i64 r.ep, .int .i64 r.tm, .int .i64 r.ct, .int .i64 r.tg, .int .i64 r.un] 3)) (w5.alloc (.cells #[.int .i64 r.k, .int .i64 r.ep, .int .i64 r.tm, .int .i64 r.ct, .int .i64 r.tg, .int .i64 r.un] 3)).heap.size (some ⟨w5.heap.size, 0, none⟩) 6 [r.k, r.ep, r.tm, r.ct, r.tg, r.un]) := Lib.hid (row6 (heap_alloc_new w5 _)); have R1 : Hid (Row (w5.alloc (.cells #[.int .i64 r.k, .int .i64 r.ep, .int .i64 r.tm, .int .i64 r.ct, .int .i64 r.tg, .int .i64 r.un] 3)) (w5.alloc (.cells #[.int .i64 r.k, .int .i64 r.ep, .int .i64 r.tm, .int .i64 r.ct, .int .i64 r.tg, .int .i64 r.un] 3)).heap.size (some ⟨w2.heap.size, 0, none⟩) 6 [1, 4, 8, 4, 4, 8]) := Lib.hid (row6 ((Below.heap_alloc _ _ _ (lt_of_some hk5)).trans hk5)); have hS1 := S1.out.k.cells; clear hb5 hk5)
      | (go_at_call 43; refine (widths _).mono ?_; rintro e w5 ⟨rfl, hk5, hb5⟩; have S1 : Hid (Ws w r w5) := Lib.hid (S0.out.step hb5); have R1 : Hid (Row w5 w5.heap.size (some ⟨w2.heap.size + 1, 0, none⟩) 6 [1, 4, 8, 4, 4, 8]) := Lib.hid (row6 (Z0.out ▸ hk5)); have N1 : Hid (Row w5 w5.heap.size (some ⟨w2.heap.size, 0, none⟩) 6 [r.k, r.ep, r.tm, r.ct, r.tg, r.un]) := Lib.hid (row6 ((hb5.block _ (lt_of_some N0.out)).trans N0.out)); have hS := S1.out.k.cells; clear hb5 hk5)
      | (go_at_call 42; refine (OPack.any _ _ _ _ _ _ _ _ _ R1.out N1.out (by omega)).mono ?_; rw [HL.out]; rintro e w6 ⟨rfl, hb6⟩; have S6 := Lib.hid (S1.out.step hb6); have hS := S6.out.k.cells; clear hb6))
  all_goals
    clear S0 N0 Z0 hS0 SS HC HL
    have SS := S6
    clear S6
    replace SS := Lib.hid SS.out.drew
    have hS := SS.out.k.cells
    go_upto_region 5 with (fail)
    go_region_held3 (fun W' => W'.cell? ⟨w.heap.size, 0, none⟩ = some (.int .i64 r.k) ∧ W'.cell? ⟨w.heap.size, 1, none⟩ = some (.int .i64 r.ep) ∧ W'.cell? ⟨w.heap.size, 2, none⟩ = some (.int .i64 r.tm) ∧ W'.cell? ⟨w.heap.size, 3, none⟩ = some (.int .i64 r.ct) ∧ W'.cell? ⟨w.heap.size, 4, none⟩ = some (.int .i64 r.tg) ∧ W'.cell? ⟨w.heap.size, 5, none⟩ = some (.int .i64 r.un) ∧ W'.cell? ⟨w.heap.size, 6, none⟩ = some (.string ⟨r.rt.toArray⟩) ∧ W'.cell? ⟨w.heap.size, 7, none⟩ = some (.string ⟨r.nm.toArray⟩))
      (exact hS)
      (first
        | (go_at_call 44; refine (HT1.out _).mono ?_; rintro e w8 ⟨rfl, hb⟩; replace SS := Lib.hid (SS.out.step hb); replace hS := SS.out.k.cells; clear hb HT1)
        | (go_at_call 44; refine (HT2.out _).mono ?_; rintro e w9 ⟨rfl, hb⟩; replace SS := Lib.hid (SS.out.step hb); replace hS := SS.out.k.cells; clear hb))
    go_wp2
    go_ret2
    rw [HB.out]
    exact ⟨rfl, SS.out.bel⟩
theorem Put_no (r : Rec) (w : World) (h : ¬ right r) :
    Calls Tryz.prog 22 #[.agg #[.int .i64 r.k, .int .i64 r.ep, .int .i64 r.tm, .int .i64 r.ct, .int .i64 r.tg, .int .i64 r.un, .string ⟨r.rt.toArray⟩, .string ⟨r.nm.toArray⟩]] w fun e w' => e = .returned (.tuple #[.string ⟨#[]⟩, .int .i64 2]) ∧ Below w.heap.size w w' := by
  obtain ⟨W1, hW1⟩ : ∃ W1, W1 = w.alloc (.cells #[.int .i64 r.k, .int .i64 r.ep, .int .i64 r.tm, .int .i64 r.ct, .int .i64 r.tg, .int .i64 r.un, .string ⟨r.rt.toArray⟩, .string ⟨r.nm.toArray⟩] 23) := ⟨_, rfl⟩
  have SS : Hid (Ws w r W1) := Lib.hid (by rw [hW1]; exact ws_new w r)
  obtain ⟨k0, k1, k2, k3, k4, k5, k6, k7⟩ := SS.out.k.cells
  have HC := Lib.hid (fun W => Check r W)
  rw [check_no h] at HC
  clear h
  go_enter Tryz.func22, Tryz.ntmps22
  go_upto_region 1 with (fail)
  rw [← hW1]
  clear hW1
  go_wp2_with (go_at_call 30; refine (HC.out _).mono ?_; rintro e w2 ⟨rfl, hb⟩; replace SS := Lib.hid (SS.out.step hb); clear hb)
  go_ret2
  exact ⟨rfl, SS.out.bel⟩
/-- What record.Put answers. -/
theorem Put (r : Rec) (w : World) :
    Calls Tryz.prog 22 #[.agg #[.int .i64 r.k, .int .i64 r.ep, .int .i64 r.tm, .int .i64 r.ct, .int .i64 r.tg, .int .i64 r.un, .string ⟨r.rt.toArray⟩, .string ⟨r.nm.toArray⟩]] w fun e w' => e = .returned (.tuple #[.string ⟨(put_ r).1.toArray⟩, .int .i64 (put_ r).2]) ∧ Below w.heap.size w w' := by
  by_cases h : right r
  · rw [RecQ.put_yes h]
    exact Put_yes r w h
  · rw [RecQ.put_no h]
    exact Put_no r w h
end Go.Proofs.YtkidehngleglnaaGreatDoor.RecQ
