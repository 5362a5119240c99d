/- The chapter's example: the walk of its text. And a cell that comes in: its five things. No conditions. -/
import Derived.Test.YteobimhibhfokaaCelP
import Derived.Test.YteobimhibhfokaaRNou
import Derived.Deep.RegionHeld3
import Derived.WalkKit
import Derived.ProofKit
import Derived.OpenShut
import Derived.ShutString
import Derived.ChangeOld
namespace Go.Proofs.Yteobimhibhfokaa.CelY
open Go.ChangeShapes Go.WideShapes Go.ChangeAt Go.RowKit
open CelN CelC CelP
theorem parts19 (s : List UInt8) (h : s.length = 4096) : (∀ W, (Instr.slice 9 (.string ⟨s.toArray⟩) none (some (.int .i64 19)) none).run Try.prog W = .ok (.string ⟨(s.take 19).toArray⟩) W) ∧
    (∀ W, (Instr.slice 9 (.string ⟨s.toArray⟩) (some (.int .i64 19)) none none).run Try.prog W = .ok (.string ⟨(s.drop 19).toArray⟩) W) := by
  have s0 := fun W => run_slice_string_h (P := Try.prog) (w := W) 9 ⟨s.toArray⟩ Try.underlying9 .i64 19 (by omega) (show (19 : Int) ≤ ((s.length : Nat) : Int) by omega)
  rw [show (⟨s.toArray⟩ : ByteArray).extract 0 (19 : Int).toNat = ⟨(s.take 19).toArray⟩ from ext_at s 0 19] at s0
  have s1 := fun W => run_slice_string_l (P := Try.prog) (w := W) 9 ⟨s.toArray⟩ Try.underlying9 .i64 19 (by omega) (show (19 : Int) ≤ ((s.length : Nat) : Int) by omega)
  rw [show (⟨s.toArray⟩ : ByteArray).extract (19 : Int).toNat (⟨s.toArray⟩ : ByteArray).size = ⟨(s.drop 19).toArray⟩ from by
    rw [ext_at, size_mk, show (19 : Int).toNat = 19 from rfl, List.take_of_length_le (by simp)]] at s1
  exact ⟨s0, s1⟩
set_option maxRecDepth 100000 in
theorem alive (w : World) :
    Calls Try.prog 7 #[] w fun r w' => r = .returned (.bool true) ∧ Below w.heap.size w w' := by
  have HP := Lib.hid (fun W => CelP.Put 1 2 3 false [97, 98] W)
  rw [show put_ ⟨1, 2, 3, false, [97, 98]⟩ = (blk one, 0) from put_yes one_may] at HP
  have hl : (blk one).length = 4096 := blk_len (by show 2 ≤ 4000; omega)
  have hz := size_mk (blk one)
  obtain ⟨s0, s1⟩ := parts19 (blk one) hl
  rw [one_take] at s0
  rw [one_drop] at s1
  have HN := Lib.hid (fun W => RNou.noughts 4077 W (by omega))
  generalize List.replicate 4077 (0 : UInt8) = z at *
  generalize blk one = bk at *
  go_enter Try.func7, Try.ntmps7
  go_upto_region 2 with (go_at_call 8; refine (HP.out _).mono ?_; rintro r w2 ⟨rfl, hb⟩; have B2 := Lib.hid hb; clear hb)
  have hS : True := trivial
  go_region_held3 (fun _ => True)
    (exact trivial)
    (first | (go_at_call 20; refine (HN.out _).mono ?_; rintro r w3 ⟨rfl, hb⟩; have B3 := Lib.hid (B2.out.drew.trans (hb.mono B2.out.size)); clear hb))
  go_wp2
  go_ret
  exact ⟨rfl, B3.out⟩
theorem cInt : Try.prog.cellsOf 3 = 1 := by kernel_rfl
theorem cBool : Try.prog.cellsOf 4 = 1 := by kernel_rfl
theorem cStr : Try.prog.cellsOf 9 = 1 := by kernel_rfl
theorem cCell : Try.prog.cellsOf 23 = 5 := by kernel_rfl
set_option maxRecDepth 100000 in
/-- A cell by value. -/
theorem open_cell {H : Type} {enc : TypeId × Value → H} {W : World} {r : Reach} {b0 : Nat} {v : Value} {d : DataW H} {p : List MemPlace} (hval : Value.okWide Try.prog W r b0 23 v)
    (h : DataW.Trod enc Try.prog W 0 (fun _ => true) true 23 v d p) :
    ∃ (ep sl lb : Int) (gn : Bool) (ci : List UInt8), v = .agg #[.int .i64 ep, .int .i64 sl, .int .i64 lb, .bool gn, .string ⟨ci.toArray⟩] := by
  obtain ⟨cs, rfl, _⟩ := okWide_struct Try.underlying23 hval
  obtain ⟨fuel, hf⟩ := h
  obtain ⟨xs, n, _, _, hl, hxl, hel⟩ := DataW.trod_struct Try.underlying23 hf
  rw [cCell] at hl
  have e0 : DataW.trod enc Try.prog W 0 (fun _ => true) true n 3 (((Value.agg cs).cells.toList.drop 0).take (Try.prog.cellsOf 3)) = xs[0]? := hel 0 _ rfl
  have e1 : DataW.trod enc Try.prog W 0 (fun _ => true) true n 3 (((Value.agg cs).cells.toList.drop 1).take (Try.prog.cellsOf 3)) = xs[1]? := hel 1 _ rfl
  have e2 : DataW.trod enc Try.prog W 0 (fun _ => true) true n 3 (((Value.agg cs).cells.toList.drop 2).take (Try.prog.cellsOf 3)) = xs[2]? := hel 2 _ rfl
  have e3 : DataW.trod enc Try.prog W 0 (fun _ => true) true n 4 (((Value.agg cs).cells.toList.drop 3).take (Try.prog.cellsOf 4)) = xs[3]? := hel 3 _ rfl
  have e4 : DataW.trod enc Try.prog W 0 (fun _ => true) true n 9 (((Value.agg cs).cells.toList.drop 4).take (Try.prog.cellsOf 9)) = xs[4]? := hel 4 _ rfl
  rw [cInt] at e0 e1 e2
  rw [cBool] at e3
  rw [cStr] at e4
  simp only [Value.cells] at hl e0 e1 e2 e3 e4
  obtain ⟨l, rfl⟩ : ∃ l : List Value, cs = l.toArray := ⟨cs.toList, by simp⟩
  match xs, hxl with
  | [y0, y1, y2, y3, y4], _ =>
    match l, hl with
    | [v0, v1, v2, v3, v4], _ =>
      obtain ⟨ep, h0, _, _⟩ := DataW.trod_int Try.underlying3 e0
      obtain ⟨sl, h1, _, _⟩ := DataW.trod_int Try.underlying3 e1
      obtain ⟨lb, h2, _, _⟩ := DataW.trod_int Try.underlying3 e2
      obtain ⟨gn, h3, _⟩ := DataW.trod_bool Try.underlying4 e3
      obtain ⟨⟨⟨ci⟩⟩, h4, _, _⟩ := DataW.trod_string Try.underlying9 e4
      simp at h0 h1 h2 h3 h4
      subst h0 h1 h2 h3 h4
      exact ⟨ep, sl, lb, gn, ci, rfl⟩
end Go.Proofs.Yteobimhibhfokaa.CelY
