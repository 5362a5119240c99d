/- CellApart: at any cell and any text of at most 2^47 bytes, the text is not a cell's and a held text's bytes; what is left of the cell, if it may be, has its numbers, and no byte of its data. No conditions. -/
import Derived.Test.YteobimhibhfokaaCelV
import Derived.Test.YteobimhibhfokaaCelY
import Derived.Test.YteobimhibhfokaaRows
import Derived.WalkKit
import Derived.ProofKit
import Derived.OpenShut
import Derived.ShutString
import Derived.ChangeOld
import Derived.Below
namespace Go.Proofs.Yteobimhibhfokaa.cellApart
open Go.ChangeShapes Go.WideShapes Go.ChangeAt Go.RowKit
open Go.ChangeMaps (open_string shut_string)
set_option linter.unusedVariables false
open CelN CelC
set_option maxRecDepth 100000 in
theorem long (ep sl lb : Int) (gn : Bool) (ci : List UInt8) (s : List UInt8) (w : World) (h : 10000 < ci.length ∨ (¬ 10000 < ci.length ∧ 10000 < s.length)) :
    Calls Try.prog 6 #[.agg #[.int .i64 ep, .int .i64 sl, .int .i64 lb, .bool gn, .string ⟨ci.toArray⟩], .string ⟨s.toArray⟩] w fun r w' => r = .returned (.bool true) ∧ Below w.heap.size w w' := by
  obtain ⟨W1, hW1⟩ : ∃ W1, W1 = w.alloc (.cells #[.int .i64 ep, .int .i64 sl, .int .i64 lb, .bool gn, .string ⟨ci.toArray⟩] 23) := ⟨_, rfl⟩
  have SS : Hid (Ws w ep sl lb gn ci W1) := Lib.hid (by rw [hW1]; exact ws_new w ep sl lb gn ci)
  have hz := size_mk ci
  have hy := size_mk s
  obtain ⟨k0, k1, k2, k3, k4⟩ := SS.out.k.cells
  go_enter Try.func6, Try.ntmps6
  go_upto_region 1 with (fail)
  rw [← hW1]
  clear hW1
  rcases h with h | ⟨h1, h⟩
  all_goals
    go_wp2_with (go_at_call 7; refine (CelY.alive _).mono ?_; rintro r w7 ⟨rfl, hb⟩; have HE := Lib.hid (SS.out.step hb); clear hb)
    go_ret
    exact ⟨rfl, HE.out.bel⟩
/-- What stands while the statement runs: what was stays, the cell and what is left of it in their blocks. -/
structure Tw (w : World) (Y : Nat) (ep sl lb : Int) (gn : Bool) (ci : List UInt8) (W : World) : Prop where
  bel : Below w.heap.size w W
  x : Bk W w.heap.size ep sl lb gn ci
  y : Bk W Y ep sl lb true []
theorem Tw.step {w W W' : World} {Y : Nat} {ep sl lb : Int} {gn : Bool} {ci : List UInt8} (h : Tw w Y ep sl lb gn ci W) (hb : Below W.heap.size W W') : Tw w Y ep sl lb gn ci W' := ⟨h.bel.trans (hb.mono h.bel.size), h.x.step hb, h.y.step hb⟩
theorem Tw.drew {w W : World} {Y : Nat} {ep sl lb : Int} {gn : Bool} {ci : List UInt8} (h : Tw w Y ep sl lb gn ci W) : Tw w Y ep sl lb gn ci W.drew := ⟨h.bel.drew, h.x, h.y⟩
theorem Tw.cells {w W : World} {Y : Nat} {ep sl lb : Int} {gn : Bool} {ci : List UInt8} (h : Tw w Y ep sl lb gn ci W) :
    W.cell? ⟨w.heap.size, 0, none⟩ = some (.int .i64 ep) ∧ W.cell? ⟨w.heap.size, 1, none⟩ = some (.int .i64 sl) ∧ W.cell? ⟨w.heap.size, 2, none⟩ = some (.int .i64 lb) ∧ W.cell? ⟨w.heap.size, 3, none⟩ = some (.bool gn) ∧ W.cell? ⟨w.heap.size, 4, none⟩ = some (.string ⟨ci.toArray⟩) ∧
    W.cell? ⟨Y, 0, none⟩ = some (.int .i64 ep) ∧ W.cell? ⟨Y, 1, none⟩ = some (.int .i64 sl) ∧ W.cell? ⟨Y, 2, none⟩ = some (.int .i64 lb) ∧ W.cell? ⟨Y, 3, none⟩ = some (.bool true) ∧ W.cell? ⟨Y, 4, none⟩ = some (.string ⟨([] : List UInt8).toArray⟩) := by
  obtain ⟨x0, x1, x2, x3, x4⟩ := h.x.cells
  obtain ⟨y0, y1, y2, y3, y4⟩ := h.y.cells
  exact ⟨x0, x1, x2, x3, x4, y0, y1, y2, y3, y4⟩
theorem tail17 (s : List UInt8) (h : s.length = 4096) : ∀ W, (Instr.slice 9 (.string ⟨s.toArray⟩) (some (.int .i64 17)) none none).run Try.prog W = .ok (.string ⟨(s.drop 17).toArray⟩) W := by
  have s1 := fun W => run_slice_string_l (P := Try.prog) (w := W) 9 ⟨s.toArray⟩ Try.underlying9 .i64 17 (by omega) (show (17 : Int) ≤ ((s.length : Nat) : Int) by omega)
  rw [show (⟨s.toArray⟩ : ByteArray).extract (17 : Int).toNat (⟨s.toArray⟩ : ByteArray).size = ⟨(s.drop 17).toArray⟩ from by
    rw [ext_at, size_mk, show (17 : Int).toNat = 17 from rfl, List.take_of_length_le (by simp)]] at s1
  exact s1
set_option maxRecDepth 100000 in
set_option maxHeartbeats 4000000 in
theorem short (ep sl lb : Int) (gn : Bool) (ci : List UInt8) (s : List UInt8) (ep2 sl2 lb2 : Int) (gn2 : Bool) (ci2 : List UInt8) (f : Int) (t : List UInt8) (g : Int) (w : World) (h : ¬ 10000 < ci.length) (h' : ¬ 10000 < s.length)
    (ht : take s = (⟨ep2, sl2, lb2, gn2, ci2⟩, f)) (hh : held s = (t, g)) (h1 : (f = 0 ∧ g = 3) ∨ (f = 3 ∧ g = 0) ∨ (f = 3 ∧ g = 3)) :
    Calls Try.prog 6 #[.agg #[.int .i64 ep, .int .i64 sl, .int .i64 lb, .bool gn, .string ⟨ci.toArray⟩], .string ⟨s.toArray⟩] w fun r w' => r = .returned (.bool true) ∧ Below w.heap.size w w' := by
  obtain ⟨W1, hW1⟩ : ∃ W1, W1 = w.alloc (.cells #[.int .i64 ep, .int .i64 sl, .int .i64 lb, .bool gn, .string ⟨ci.toArray⟩] 23) := ⟨_, rfl⟩
  have SS : Hid (Ws w ep sl lb gn ci W1) := Lib.hid (by rw [hW1]; exact ws_new w ep sl lb gn ci)
  have hz := size_mk ci
  have hy := size_mk s
  have HT := Lib.hid (fun W => CelT.Take s W)
  rw [ht] at HT
  have HH := Lib.hid (fun W => CelV.Held s W)
  rw [hh] at HH
  have HC := Lib.hid (fun W => CelD.Check ep sl lb gn ci W)
  clear ht hh
  obtain ⟨k0, k1, k2, k3, k4⟩ := SS.out.k.cells
  go_enter Try.func6, Try.ntmps6
  go_upto_region 1 with (fail)
  rw [← hW1]
  clear hW1
  go_upto_region 3 with (fail)
  clear k0 k1 k2 k3 k4
  go_upto_region 4 with (first
    | (go_at_call 14; refine (HT.out _).mono ?_; rintro r w2 ⟨rfl, hb⟩; replace SS := Lib.hid (SS.out.step hb); clear hb)
    | (refine wpList_store_row rfl 23 _ _ rfl w2.heap.size _ rfl rfl 23 _ (heap_alloc_new w2 _) infoC rfl (one5 ep2 sl2 lb2 gn2 ci2) ?_))
  generalize hW3 : World.setRow (World.alloc w2 _) _ _ = W3
  replace SS : Hid (Ws w ep sl lb gn ci W3) := Lib.hid (by rw [← hW3]; exact SS.out.step (kept_new _ _ _ _))
  clear hW3 HT
  generalize w2.heap.size = Z at *
  go_upto_region 5 with (go_at_call 16; refine (HH.out _).mono ?_; rintro r w4 ⟨rfl, hb⟩; replace SS := Lib.hid (SS.out.step hb); clear hb)
  obtain ⟨k0, k1, k2, k3, k4⟩ := SS.out.k.cells
  by_cases hm : may ⟨ep, sl, lb, gn, ci⟩
  · rw [check_yes hm] at HC
    have HL := Lib.hid (fun W => CelP.Left ep sl lb gn ci W)
    have hlm := left_may hm
    have HP := Lib.hid (fun W => CelP.Put ep sl lb true [] W)
    rw [show put_ ⟨ep, sl, lb, true, []⟩ = (blk (left ⟨ep, sl, lb, gn, ci⟩), 0) from CelN.put_yes hlm] at HP
    have HB := Lib.hid (fun W => CelT.Take (blk (left ⟨ep, sl, lb, gn, ci⟩)) W)
    rw [take_blk hlm] at HB
    have HK := Lib.hid (fun W => CelV.Kind (blk (left ⟨ep, sl, lb, gn, ci⟩)) W)
    rw [left_kind hm] at HK
    have s1 := tail17 (blk (left ⟨ep, sl, lb, gn, ci⟩)) (blk_len hlm.2.2.2.1)
    rw [left_tail] at s1
    have HN := Lib.hid (fun W => RNou.noughts 4079 W (by omega))
    clear hm hlm
    generalize blk (left ⟨ep, sl, lb, gn, ci⟩) = bl at *
    dsimp only [left] at HB
    generalize List.replicate 4079 (0 : UInt8) = z at *
    rcases h1 with ⟨rfl, rfl⟩ | ⟨rfl, rfl⟩ | ⟨rfl, rfl⟩
    all_goals
      go_upto_region 10 with (first
        | (go_at_call 12; refine (HC.out _).mono ?_; rintro r w5 ⟨rfl, hb⟩; replace SS := Lib.hid (SS.out.step hb); clear hb k0 k1 k2 k3 k4; obtain ⟨k0, k1, k2, k3, k4⟩ := SS.out.k.cells)
        | (go_at_call 13; refine (HL.out _).mono ?_; rintro r w6 ⟨rfl, hb⟩; replace SS := Lib.hid (SS.out.step hb); clear hb k0 k1 k2 k3 k4)
        | (go_at_call 8; refine (HP.out _).mono ?_; rintro r w7 ⟨rfl, hb⟩; replace SS := Lib.hid (SS.out.step hb); clear hb))
      go_upto_region 11 with (first
        | (go_at_call 14; refine (HB.out _).mono ?_; rintro r w8 ⟨rfl, hb⟩; replace SS := Lib.hid (SS.out.step hb); clear hb)
        | (refine wpList_store_row rfl 23 _ _ rfl w8.heap.size _ rfl rfl 23 _ (heap_alloc_new w8 _) infoC rfl (one5 ep sl lb true []) ?_))
      generalize hW9 : World.setRow (World.alloc w8 _) _ _ = W9
      have TL : Hid (Tw w w8.heap.size ep sl lb gn ci W9) := Lib.hid (by rw [← hW9]; exact ⟨SS.out.bel.trans ((kept_new _ _ _ _).mono SS.out.bel.size), SS.out.k.step (kept_new _ _ _ _), has_new _ _ _ _⟩)
      clear hW9 SS HC HL HP HB
      generalize w8.heap.size = Y at *
      replace TL := Lib.hid TL.out.drew
      have hS := TL.out.cells
      go_region_held3 (fun W => W.cell? ⟨w.heap.size, 0, none⟩ = some (.int .i64 ep) ∧ W.cell? ⟨w.heap.size, 1, none⟩ = some (.int .i64 sl) ∧ W.cell? ⟨w.heap.size, 2, none⟩ = some (.int .i64 lb) ∧ W.cell? ⟨w.heap.size, 3, none⟩ = some (.bool gn) ∧ W.cell? ⟨w.heap.size, 4, none⟩ = some (.string ⟨ci.toArray⟩) ∧
          W.cell? ⟨Y, 0, none⟩ = some (.int .i64 ep) ∧ W.cell? ⟨Y, 1, none⟩ = some (.int .i64 sl) ∧ W.cell? ⟨Y, 2, none⟩ = some (.int .i64 lb) ∧ W.cell? ⟨Y, 3, none⟩ = some (.bool true) ∧ W.cell? ⟨Y, 4, none⟩ = some (.string ⟨([] : List UInt8).toArray⟩))
        (exact hS)
        (first
          | (go_at_call 20; refine (HN.out _).mono ?_; rintro r wA ⟨rfl, hb⟩; replace TL := Lib.hid (TL.out.step hb); replace hS := TL.out.cells; clear hb)
          | (go_at_call 18; refine (HK.out _).mono ?_; rintro r wB ⟨rfl, hb⟩; replace TL := Lib.hid (TL.out.step hb); replace hS := TL.out.cells; clear hb)
          | (go_at_call 7; refine (CelY.alive _).mono ?_; rintro r wC ⟨rfl, hb⟩; replace TL := Lib.hid (TL.out.step hb); replace hS := TL.out.cells; clear hb))
      go_wp2
      go_ret
      exact ⟨rfl, TL.out.bel⟩
  · rw [check_no hm] at HC
    clear hm
    rcases h1 with ⟨rfl, rfl⟩ | ⟨rfl, rfl⟩ | ⟨rfl, rfl⟩
    all_goals
      go_wp2_with (first
        | (go_at_call 12; refine (HC.out _).mono ?_; rintro r w5 ⟨rfl, hb⟩; replace SS := Lib.hid (SS.out.step hb); clear hb k0 k1 k2 k3 k4)
        | (go_at_call 7; refine (CelY.alive _).mono ?_; rintro r w6 ⟨rfl, hb⟩; replace SS := Lib.hid (SS.out.step hb); clear hb))
      go_ret
      exact ⟨rfl, SS.out.bel⟩
theorem both_of (s : List UInt8) : ∃ (ep sl lb : Int) (gn : Bool) (ci : List UInt8) (f : Int) (t : List UInt8) (g : Int), take s = (⟨ep, sl, lb, gn, ci⟩, f) ∧ held s = (t, g) ∧ ((f = 0 ∧ g = 3) ∨ (f = 3 ∧ g = 0) ∨ (f = 3 ∧ g = 3)) := by
  by_cases h : good s
  · exact ⟨_, _, _, _, _, _, _, _, take_yes h, held_no (apart h), .inl ⟨rfl, rfl⟩⟩
  · by_cases hh : hgood s
    · exact ⟨_, _, _, _, _, _, _, _, take_no h, held_yes hh, .inr (.inl ⟨rfl, rfl⟩)⟩
    · exact ⟨_, _, _, _, _, _, _, _, take_no h, held_no hh, .inr (.inr ⟨rfl, rfl⟩)⟩
theorem walk (ep sl lb : Int) (gn : Bool) (ci : List UInt8) (t0 : ByteArray) (w : World) (_ : t0.size ≤ maxLen) :
    Calls Try.prog 6 #[.agg #[.int .i64 ep, .int .i64 sl, .int .i64 lb, .bool gn, .string ⟨ci.toArray⟩], .string t0] w fun r w' => r = .returned (.bool true) ∧ Below w.heap.size w w' := by
  obtain ⟨⟨s⟩⟩ := t0
  by_cases h : 10000 < ci.length
  · exact long ep sl lb gn ci s w (.inl h)
  · by_cases h' : 10000 < s.length
    · exact long ep sl lb gn ci s w (.inr ⟨h, h'⟩)
    · obtain ⟨e2, s2, l2, g2, c2, f, t, g, h1, h2, h3⟩ := both_of s
      exact short ep sl lb gn ci s e2 s2 l2 g2 c2 f t g w h h' h1 h2 h3
theorem own : ownKnob Try.prog.godebug = none := by kernel_rfl
theorem laidOut : laidOutB Try.prog = true := by kernel_rfl
set_option maxRecDepth 100000 in
theorem lifted (os : Os) (started : os.Started) (H : Type) (enc : TypeId × Value → H) :
    ReturnsInHanded {} Try.checked os 6 .any (Rows.cellApartSpec.pre6 enc Try.prog Try.f6 Rows.cellApartRow.domain false) (Rows.cellApartSpec.post enc Try.prog Try.f6 false true false false) := by
  refine returnsInHanded_of_change (C := Try.checked) own started (by kernel_rfl) Try.func6
    (ChangeSpec.witness6 (enc := enc) (C := Try.checked) false ⟨#[], #[.agg #[.int .i64 0, .int .i64 0, .int .i64 0, .bool false, .string ByteArray.empty], .string ByteArray.empty], []⟩ 8 (by kernel_rfl) (by kernel_rfl) (by kernel_rfl) (by kernel_rfl)) ?_
  intro W base args ds gs before hval0 hW hcnd _
  have hval : ∀ (j : Nat) t v, Try.f6.params[j]? = some t → args[j]? = some v → Value.okWide Try.prog W .any base t v := hval0
  have hW' := hW
  obtain ⟨p, q, hA0, hV, rfl, hfz, hnd⟩ := hW
  have hA : DataW.TrodAll enc Try.prog W 0 (fun _ => true) true Try.f6.params.toList args.toList ds p := hA0
  rw [Try.params6] at hA hval
  obtain ⟨v0, vs0, d0, ds0, p0, q0, hargs, rfl, rfl, h0, r0⟩ := trodAll_cons hA
  obtain ⟨v1, vs1, d1, ds1, p1, q1, rfl, rfl, rfl, h1, r1⟩ := trodAll_cons r0
  obtain ⟨rfl, rfl, rfl⟩ := trodAll_nil r1
  obtain rfl : args = #[v0, v1] := by cases args; simp_all
  obtain ⟨rfl, rfl⟩ := trodVars_none hV
  have k0 := h0
  have lt0 : ∀ x ∈ p0, x.block < W.heap.size := by obtain ⟨m, hm⟩ := k0; exact DataW.trod_lt m _ _ _ hm
  obtain ⟨ep0, sl0, lb0, gn0, ci0, rfl⟩ := CelY.open_cell (hval 0 23 v0 rfl rfl) h0
  obtain ⟨a1, rfl, rfl, rfl, w1⟩ := open_string Try.underlying9 (hval 1 9 v1 rfl rfl) h1
  clear hA0 hval0
  refine (walk ep0 sl0 lb0 gn0 ci0 a1 W w1).mono fun e W' ⟨he, bel⟩ => ?_
  subst he
  exact ⟨_, rfl, _, _, _, [], _, [], hW', trodAll_mk1 (shut_bool Try.underlying4 _), (trodAll_cons_mk (Below.trod laidOut (by kernel_rfl) (of_decide_eq_true (by kernel_rfl)) k0 bel lt0) (trodAll_cons_mk (shut_string Try.underlying9 w1) trodAll_mk0)), rfl, bel.frame _, fun h => by cases h⟩
theorem over : Rows.cellApartRow.holds Try.pinned (OpenSpec.ofChange Rows.cellApartSpec) :=
  OpenClaim.holds_of_wide 6 Try.f6 rfl rfl rfl rfl rfl rfl rfl ⟨rfl, rfl, rfl, rfl, rfl⟩ rfl rfl rfl rfl rfl (by kernel_rfl) Try.func6 (by kernel_rfl)
    (of_decide_eq_true (by kernel_rfl)) (by unfold Func.isWrapper; first | (rw [if_pos (by decide +kernel)]; kernel_rfl) | (rw [if_neg (by decide +kernel)]; exact ⟨rfl, rfl⟩))
    (fun os started H enc _ => lifted os started H enc)
/-- THE STATEMENT, proved. -/
theorem proved : Rows.CellApartSaid := over
#print axioms proved
end Go.Proofs.Yteobimhibhfokaa.cellApart
