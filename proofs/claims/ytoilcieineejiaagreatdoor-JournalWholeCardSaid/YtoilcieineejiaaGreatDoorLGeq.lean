/- GeoP GeoQ: one behind the other. -/
import Derived.Test.YtoilcieineejiaaGreatDoorLGeo
import Derived.Test.YtoilcieineejiaaGreatDoorLGeo
import Derived.Test.YtoilcieineejiaaGreatDoorLPut
import Derived.Test.YtoilcieineejiaaGreatDoorLOun
import Derived.Laws.CopyRow
import Derived.Laws.ResultCell
/- geom.widths, Put, Take: the walks of their texts. The condition: that the least and the most numbers lie in the program's two variables. -/
namespace Go.Proofs.YtoilcieineejiaaGreatDoor.GeoP
open Go.RowKit
open GeoN GeoC GeoU
/-- 'copy(d, s)' where its run is known by an equation. -/
theorem wpList_copy_eq {P : Program} (w : World) {ops : Array Oper} {rest : List Oper} {o : Oper} {a : Act} {Q : Exit → Act → World → Prop} (hgd : o.guard = none) (d s : Operand) (t t' : TypeId)
    (ho : o.op = .call { callee := .builtin .copy, args := #[d, s], argTypes := #[t, t'] }) (v u : Value) (hd : a.eval d = v) (hs : a.eval s = u) {v' : Value} {w' : World}
    (hr : (Builtin.copy_ #[t, t'] o.type #[v, u]).run P w = .ok v' w') (h : wpList P ops Q rest (a.put o.dst v') w') : wpList P ops Q (o :: rest) a w :=
  wpList_plain hgd fun _ hK => by
    unfold Oper.wp execOp
    simp only [ho, resolve, invoke, builtin, Sem.run_bind, Sem.run_pure, Result.andThen_ok, List.map_toArray, List.map_cons, List.map_nil, hd, hs, hr]
    exact hK _ _ h
/-- Results of which the first is a struct in a cell. -/
theorem results_cell_tmp_row {P : Program} {fn : Func} {p u : Tmp} {ty : TypeId} (h : fn.results = #[.cell p ty, .tmp u]) (tmps : Array Value) (w : World) (g : Nat) (t : TypeId) (cs : Array Value) (fr : Nat × Nat) (d : TypeDesc)
    (hp : tmps.getD p undef = .pointer (some ⟨g, 0, none⟩)) (hg : w.heap[g]? = some (.cells cs t fr))
    (hu : P.underlying ty = some d) (hd : (match d with | .struct _ | .array _ _ => true | _ => false) = true) (hi : (P.info? ty).map (·.size) = some cs.size) :
    (results fn tmps).run P w = .ok (.tuple #[.agg cs, tmps.getD u undef]) w := by
  rw [results_cell_tmp h, hp]
  simp [asAddr, run_loadVar_row w g t ty cs fr d hg hu hd hi]
/-- Three ints in a block as a row. -/
theorem row3 {w : World} {g : Nat} {t : TypeId} {f : Nat × Nat} {a b c : Int} (h : w.heap[g]? = some (.cells #[.int .i64 a, .int .i64 b, .int .i64 c] t f)) : Row w w.heap.size (some ⟨g, 0, none⟩) 3 [a, b, c] :=
  ⟨rfl, fun _ => ⟨g, 0, rfl, (Array.getElem?_eq_some_iff.1 h).1, fun i hi => by
    rw [Nat.zero_add]
    match i, hi with
    | 0, _ => exact blk_cell h rfl
    | 1, _ => exact blk_cell h rfl
    | 2, _ => exact blk_cell h rfl⟩⟩
/-- What geom.widths answers: a row of its own. -/
theorem widths (w : World) :
    Calls Tryz.prog 142 #[] w fun e w' => e = .returned (.slice (some ⟨w.heap.size, 0, none⟩) 3 3) ∧ w'.heap[w.heap.size]? = some (.cells #[.int .i64 4, .int .i64 4, .int .i64 4] 3 (0, 0)) ∧ Below w.heap.size w w' := by
  go_enter Tryz.func142, Tryz.ntmps142
  go_wp2_with fail
  go_ret
  refine ⟨rfl, ?_, ?_⟩
  · exact heap_alloc_new w _
  · exact (Below.refl _ _).alloc (Nat.le_refl _) _
/-- What Put answers. -/
def put_ (b l f : Int) : List UInt8 × Int := if right b l f then (bytes3 b l f, 0) else ([], 2)
theorem put_yes {b l f : Int} (h : right b l f) : put_ b l f = (bytes3 b l f, 0) := if_pos h
theorem put_no {b l f : Int} (h : ¬ right b l f) : put_ b l f = ([], 2) := if_neg h
set_option maxRecDepth 100000 in
/-- What geom.Put answers. -/
theorem Put (a b c : Int) (w : World) (hb : Bnd w) :
    Calls Tryz.prog 121 #[.agg #[.int .i64 a, .int .i64 b, .int .i64 c]] w fun e w' => e = .returned (.tuple #[.string ⟨(put_ a b c).1.toArray⟩, .int .i64 (put_ a b c).2]) ∧ Below w.heap.size w w' := by
  obtain ⟨W1, hW1⟩ : ∃ W1, W1 = w.alloc (.cells #[.int .i64 a, .int .i64 b, .int .i64 c] 32) := ⟨_, rfl⟩
  have hb1 : Below w.heap.size w W1 := by rw [hW1]; exact (Below.refl _ _).alloc (Nat.le_refl _) _
  have hk1 : W1.heap[w.heap.size]? = some (.cells #[.int .i64 a, .int .i64 b, .int .i64 c] 32 (0, 0)) := by rw [hW1]; exact heap_alloc_new w _
  have HN := Lib.hid (fun W h => GeoD.Check a b c W h)
  have HR := Lib.hid (hb.step hb1)
  have k0 : W1.cell? ⟨w.heap.size, 0, none⟩ = some (.int .i64 a) := blk_cell hk1 rfl
  have k1 : W1.cell? ⟨w.heap.size, 1, none⟩ = some (.int .i64 b) := blk_cell hk1 rfl
  have k2 : W1.cell? ⟨w.heap.size, 2, none⟩ = some (.int .i64 c) := blk_cell hk1 rfl
  have HK := Lib.hid hk1
  have HB := Lib.hid hb1
  have HS := Lib.hid (show w.heap.size < W1.heap.size by rw [hW1]; simp)
  go_enter Tryz.func121, Tryz.ntmps121
  go_upto_region 1 with (fail)
  rw [← hW1]
  clear hW1 hb1 hk1 hb
  by_cases hr : right a b c
  · have HP := Lib.hid (put_yes hr)
    have HL := Lib.hid (pack_right hr)
    rw [GeoN.check_yes hr] at HN
    clear hr
    go_upto_region 5 with (first
      | (go_at_call 34; refine (HN.out _ HR.out).mono ?_; rintro e w2 ⟨rfl, hb2⟩; have HB2 := Lib.hid hb2; have HK2 := Lib.hid ((hb2.block _ HS.out).trans HK.out); have c0 : w2.cell? ⟨w.heap.size, 0, none⟩ = some (.int .i64 a) := blk_cell HK2.out rfl; have c1 : w2.cell? ⟨w.heap.size, 1, none⟩ = some (.int .i64 b) := blk_cell HK2.out rfl; have c2 : w2.cell? ⟨w.heap.size, 2, none⟩ = some (.int .i64 c) := blk_cell HK2.out rfl; clear hb2 k0 k1 k2)
      | (go_at_call 109; refine (numbersOf a b c _).mono ?_; rintro e w3 ⟨rfl, hb3⟩; have HB3 := Lib.hid hb3; clear hb3)
      | (refine wpList_store_row rfl 154 _ _ rfl w3.heap.size _ rfl rfl 154 _ (heap_alloc_new w3 _) infoN rfl (one3 a b c) ?_))
    generalize hW4 : World.setRow (World.alloc w3 _) _ _ = W4
    have HBb : Hid (Below w.heap.size w w3) := Lib.hid ((HB.out.trans (HB2.out.mono HB.out.size)).trans (HB3.out.mono (Nat.le_trans HB.out.size HB2.out.size)))
    have HK4 : Hid (W4.heap[w3.heap.size]? = some (.cells #[.int .i64 a, .int .i64 b, .int .i64 c] 154 (0, 0))) := by
      show _ = _
      rw [← hW4]; exact setRow_same (heap_alloc_new w3 _)
    have HB4 : Hid (Below w.heap.size w W4) := by
      show Below _ _ _
      rw [← hW4]; exact below_setRow (HBb.out.alloc HBb.out.size _) HBb.out.size _
    clear hW4 HBb HB3 HB2 HK2 c0 c1 c2 HK HB HS HR HN
    generalize w3.heap.size = B at *
    have hS : True := trivial
    go_region_held3 (fun _ => True)
      (exact trivial)
      (first
        | (go_at_call 142; refine (widths _).mono ?_; rintro e w5 ⟨rfl, hk5, hb5⟩; have HB5 := Lib.hid hb5; have HK5 := Lib.hid hk5; clear hb5 hk5)
        | (go_at_call 119; refine (OPack.any _ _ _ _ _ _ _ _ _ (row3 HK5.out) (row3 ((HB5.out.block _ (Array.getElem?_eq_some_iff.1 HK4.out).1).trans HK4.out)) (by omega)).mono ?_; rw [HL.out]; rintro e w6 ⟨rfl, hb6⟩; have HB6 := Lib.hid hb6; clear hb6))
    go_wp2
    go_ret2
    exact ⟨by rw [HP.out] <;> rfl, (HB4.out.drew.trans (HB5.out.mono HB4.out.size)).trans (HB6.out.mono (Nat.le_trans HB4.out.size HB5.out.size))⟩
  · have HP := Lib.hid (put_no hr)
    rw [GeoN.check_no hr] at HN
    clear hr
    go_wp2_with (first
      | (go_at_call 34; refine (HN.out _ HR.out).mono ?_; rintro e w2 ⟨rfl, hb2⟩; have HB2 := Lib.hid hb2; clear hb2))
    go_ret2
    exact ⟨by rw [HP.out] <;> rfl, HB.out.trans (HB2.out.mono HB.out.size)⟩
theorem size3 : (Tryz.prog.info? 3).map (·.size) = some 1 := by kernel_rfl
theorem lt_of_some {w : World} {g : Nat} {o : Obj} (h : w.heap[g]? = some o) : g < w.heap.size := (Array.getElem?_eq_some_iff.1 h).1
/-- Three cells of a row. -/
theorem row_cells {w : World} {B b o : Nat} {x y z : Int} (h : Row w B (some ⟨b, o, none⟩) 3 [x, y, z]) : ∀ j v, ([.int .i64 x, .int .i64 y, .int .i64 z] : List Value)[j]? = some v → w.cell? ((⟨b, o, none⟩ : Addr).add j) = some v := by
  obtain ⟨b', o', e, _, hc⟩ := h.2 (by omega)
  injection e with e
  injection e with e1 e2
  subst e1 e2
  intro j v hv
  have ha : (⟨b, o, none⟩ : Addr).add j = ⟨b, o + j, none⟩ := by unfold Addr.add; split <;> simp_all
  rw [ha]
  match j, hv with
  | 0, hv => simp at hv; rw [← hv]; exact hc 0 (by omega)
  | 1, hv => simp at hv; rw [← hv]; exact hc 1 (by omega)
  | 2, hv => simp at hv; rw [← hv]; exact hc 2 (by omega)
theorem own3 {w : World} {base : Nat} {v : Value} {xs : List Value} (h : w.ownsRow base 3 1 v 3 xs) : ∃ g c, v = .slice (some ⟨g, 0, none⟩) 3 c := by
  rcases h.2 with ⟨_, h0⟩ | ⟨g, cap, cur, hv, _⟩
  · omega
  · exact ⟨g, cap, hv⟩
theorem splice3 (a b c x y z : Int) : ((#[.int .i64 a, .int .i64 b, .int .i64 c] : Array Value).toList.take 0 ++ ([.int .i64 x, .int .i64 y, .int .i64 z] : List Value) ++ (#[.int .i64 a, .int .i64 b, .int .i64 c] : Array Value).toList.drop (0 + 3)).toArray = #[.int .i64 x, .int .i64 y, .int .i64 z] := rfl
set_option maxRecDepth 100000 in
/-- What geom.Take answers. -/
theorem Take (s : List UInt8) (w : World) (hb : Bnd w) (hl : s.length ≤ maxLen) :
    Calls Tryz.prog 154 #[.string ⟨s.toArray⟩] w fun e w' => e = .returned (.tuple #[.agg #[.int .i64 (take s).1.1, .int .i64 (take s).1.2.1, .int .i64 (take s).1.2.2], .int .i64 (take s).2]) ∧ Below w.heap.size w w' := by
  obtain ⟨W1, hW1⟩ : ∃ W1, W1 = w.alloc (.cells #[.int .i64 0, .int .i64 0, .int .i64 0] 32) := ⟨_, rfl⟩
  have hb1 : Below w.heap.size w W1 := by rw [hW1]; exact (Below.refl _ _).alloc (Nat.le_refl _) _
  have hk1 : W1.heap[w.heap.size]? = some (.cells #[.int .i64 0, .int .i64 0, .int .i64 0] 32 (0, 0)) := by rw [hW1]; exact heap_alloc_new w _
  have HR := Lib.hid (hb.step hb1)
  have HK := Lib.hid hk1
  have HB := Lib.hid hb1
  have HU := Lib.hid (fun W (h : W.heap[W1.heap.size]? = some (.cells #[.int .i64 4, .int .i64 4, .int .i64 4] 3 (0, 0))) => OUnp.any (some ⟨W1.heap.size, 0, none⟩) 3 3 [4, 4, 4] s W (row3 h) (by omega) hl)
  go_enter Tryz.func154, Tryz.ntmps154
  go_upto_region 1 with (fail)
  rw [← hW1]
  clear hW1 hb1 hk1 hb hl
  by_cases h12 : s.length = 12
  · rw [unpack_twelve s h12] at HU
    have HT : Hid (take s = if right (nb s) (nl s) (nf s) then ((nb s, nl s, nf s), 0) else ((0, 0, 0), 3)) := by
      show _ = _
      by_cases hr : right (nb s) (nl s) (nf s)
      · rw [if_pos hr]; exact take_yes ⟨h12, hr⟩
      · rw [if_neg hr]; exact take_no (fun h => hr h.2)
    clear h12
    generalize nb s = x at *
    generalize nl s = y at *
    generalize nf s = z at *
    go_upto_region 4 with (first
      | (go_at_call 142; refine (widths _).mono ?_; rintro e w2 ⟨rfl, hk2, hb2⟩; have HB2 := Lib.hid hb2; have HK2 := Lib.hid hk2; clear hb2 hk2)
      | (go_at_call 153; refine (HU.out _ HK2.out).mono ?_; rintro e w3 ⟨v, rfl, hown, hb3⟩; obtain ⟨va, vc, rfl⟩ := own3 hown; have HB3 := Lib.hid hb3; have HO := Lib.hid hown; clear hb3 hown))
    have hrow := row_own (l := [x, y, z]) HO.out
    have hb3 := (HB.out.trans (HB2.out.mono HB.out.size)).trans (HB3.out.mono (Nat.le_trans HB.out.size HB2.out.size))
    have hk3 := ((HB2.out.trans (HB3.out.mono HB2.out.size)).block _ (lt_of_some HK.out)).trans HK.out
    have hr3 := HR.out.step (HB2.out.trans (HB3.out.mono HB2.out.size))
    obtain ⟨W4, hW4⟩ : ∃ W4, W4 = w3.alloc (.cells #[.int .i64 0, .int .i64 0, .int .i64 0] 154) := ⟨_, rfl⟩
    have hb34 : Below w3.heap.size w3 W4 := by rw [hW4]; exact (Below.refl _ _).alloc (Nat.le_refl _) _
    have hk4 : W4.heap[w3.heap.size]? = some (.cells #[.int .i64 0, .int .i64 0, .int .i64 0] 154 (0, 0)) := by rw [hW4]; exact heap_alloc_new w3 _
    have hcells := row_cells ((hrow.below hb34).more hb34.size)
    have hcp := run_copy_row (P := Tryz.prog) W4 23 23 3 3 w3.heap.size 0 3 3 ⟨va, 0, none⟩ 3 vc _ _ [.int .i64 x, .int .i64 y, .int .i64 z] Tryz.underlying23 size3 hk4 rfl hcells (by simp) (by simp [Value.oneCell'])
    rw [show ([.int .i64 x, .int .i64 y, .int .i64 z] : List Value).length = 3 from rfl, splice3] at hcp
    have HC := Lib.hid hcp
    have hb5 : Below w.heap.size w (W4.setRow w3.heap.size #[.int .i64 x, .int .i64 y, .int .i64 z]) := below_setRow (hb3.trans (hb34.mono hb3.size)) hb3.size _
    have hr5 : Bnd (W4.setRow w3.heap.size #[.int .i64 x, .int .i64 y, .int .i64 z]) := hr3.step (below_setRow hb34 (Nat.le_refl _) _)
    have hk5 : (W4.setRow w3.heap.size #[.int .i64 x, .int .i64 y, .int .i64 z]).heap[w3.heap.size]? = some (.cells #[.int .i64 x, .int .i64 y, .int .i64 z] 154 (0, 0)) := setRow_same hk4
    have hg5 : (W4.setRow w3.heap.size #[.int .i64 x, .int .i64 y, .int .i64 z]).heap[w.heap.size]? = some (.cells #[.int .i64 0, .int .i64 0, .int .i64 0] 32 (0, 0)) :=
      ((below_setRow hb34 (Nat.le_refl _) _).block _ (lt_of_some hk3)).trans hk3
    obtain ⟨W5, hW5⟩ : ∃ W5, W5 = W4.setRow w3.heap.size #[.int .i64 x, .int .i64 y, .int .i64 z] := ⟨_, rfl⟩
    rw [← hW5] at HC hb5 hr5 hk5 hg5
    have HB5 := Lib.hid hb5
    have HR5 := Lib.hid hr5
    have HG5 := Lib.hid hg5
    have k0 : W5.cell? ⟨w3.heap.size, 0, none⟩ = some (.int .i64 x) := blk_cell hk5 rfl
    have k1 : W5.cell? ⟨w3.heap.size, 1, none⟩ = some (.int .i64 y) := blk_cell hk5 rfl
    have k2 : W5.cell? ⟨w3.heap.size, 2, none⟩ = some (.int .i64 z) := blk_cell hk5 rfl
    clear hrow hb3 hk3 hr3 hb34 hk4 hcells hcp hb5 hr5 hk5 hg5 hW5 HB3 HB2 HK2 HO HU HB HK HR
    have HN := Lib.hid (fun W h => GeoD.Check x y z W h)
    go_upto_region 7 with (first
      | (refine wpList_copy_eq _ rfl _ _ 23 23 rfl _ _ rfl rfl (by rw [← hW4]; exact HC.out) ?_)
      | (go_at_call 110; refine (GeoC.shape x y z _).mono ?_; rintro e w6 ⟨rfl, hb6⟩; have HB6 := Lib.hid hb6; clear hb6)
      | (refine wpList_store_row rfl 32 _ _ rfl w6.heap.size _ rfl rfl 32 _ (heap_alloc_new w6 _) infoG rfl (one3 x y z) ?_))
    generalize hW7 : World.setRow (World.alloc w6 _) _ _ = W7
    have hs6 := HB6.out.size
    have hb6 := HB5.out.trans (HB6.out.mono HB5.out.size)
    have hb7 : Below w.heap.size w W7 := by rw [← hW7]; exact below_setRow (hb6.alloc hb6.size _) hb6.size _
    have hb57 : Below W5.heap.size W5 W7 := by rw [← hW7]; exact below_setRow (HB6.out.alloc hs6 _) hs6 _
    have hg7 := (hb57.block _ (lt_of_some HG5.out)).trans HG5.out
    have hk7 : W7.heap[w6.heap.size]? = some (.cells #[.int .i64 x, .int .i64 y, .int .i64 z] 32 (0, 0)) := by rw [← hW7]; exact setRow_same (heap_alloc_new w6 _)
    have hr7 := HR5.out.step hb57
    have c0 : W7.cell? ⟨w6.heap.size, 0, none⟩ = some (.int .i64 x) := blk_cell hk7 rfl
    have c1 : W7.cell? ⟨w6.heap.size, 1, none⟩ = some (.int .i64 y) := blk_cell hk7 rfl
    have c2 : W7.cell? ⟨w6.heap.size, 2, none⟩ = some (.int .i64 z) := blk_cell hk7 rfl
    have HB7 := Lib.hid hb7
    have HR7 := Lib.hid hr7
    have HG7 := Lib.hid hg7
    have HK7 := Lib.hid hk7
    clear hW7 hs6 hb6 hb7 hb57 hg7 hk7 hr7 HB6 HB5 HR5 HG5 k0 k1 k2 HC hW4
    generalize w6.heap.size = B at *
    by_cases hr : right x y z
    · rw [if_pos hr] at HT
      rw [GeoN.check_yes hr] at HN
      clear hr
      go_wp2_with (first
        | (go_at_call 34; refine (HN.out _ HR7.out).mono ?_; rintro e w8 ⟨rfl, hb8⟩; have HB8 := Lib.hid hb8; have HK8 := Lib.hid ((hb8.block _ (lt_of_some HK7.out)).trans HK7.out); have HG8 := Lib.hid ((hb8.block _ (lt_of_some HG7.out)).trans HG7.out); have d0 : w8.cell? ⟨B, 0, none⟩ = some (.int .i64 x) := blk_cell HK8.out rfl; have d1 : w8.cell? ⟨B, 1, none⟩ = some (.int .i64 y) := blk_cell HK8.out rfl; have d2 : w8.cell? ⟨B, 2, none⟩ = some (.int .i64 z) := blk_cell HK8.out rfl; clear hb8)
        | (refine wpList_store_row rfl 32 _ _ rfl w.heap.size _ rfl rfl 32 _ HG8.out infoG rfl (one3 x y z) ?_))
      refine bodyPost_ret (v := .tuple #[.agg #[.int .i64 x, .int .i64 y, .int .i64 z], .int .i64 0])
        (results_cell_tmp_row Tryz.results154 _ _ w.heap.size 32 _ (0, 0) _ rfl (setRow_same HG8.out) Tryz.underlying32 rfl infoG) rfl
        ⟨by rw [HT.out] <;> rfl, below_setRow (HB7.out.trans (HB8.out.mono HB7.out.size)) (Nat.le_refl _) _⟩
    · rw [if_neg hr] at HT
      rw [GeoN.check_no hr] at HN
      clear hr
      go_wp2_with (first
        | (go_at_call 34; refine (HN.out _ HR7.out).mono ?_; rintro e w8 ⟨rfl, hb8⟩; have HB8 := Lib.hid hb8; have HG8 := Lib.hid ((hb8.block _ (lt_of_some HG7.out)).trans HG7.out); clear hb8)
        | (refine wpList_store_row rfl 32 _ _ rfl w.heap.size _ rfl rfl 32 _ HG8.out infoG rfl (one3 0 0 0) ?_))
      refine bodyPost_ret (v := .tuple #[.agg #[.int .i64 0, .int .i64 0, .int .i64 0], .int .i64 3])
        (results_cell_tmp_row Tryz.results154 _ _ w.heap.size 32 _ (0, 0) _ rfl (setRow_same HG8.out) Tryz.underlying32 rfl infoG) rfl
        ⟨by rw [HT.out] <;> rfl, below_setRow (HB7.out.trans (HB8.out.mono HB7.out.size)) (Nat.le_refl _) _⟩
  · have HT := Lib.hid (take_no (s := s) (fun h => h12 h.1))
    rw [unpack_other s h12] at HU
    clear h12
    go_wp2_with (first
      | (go_at_call 142; refine (widths _).mono ?_; rintro e w2 ⟨rfl, hk2, hb2⟩; have HB2 := Lib.hid hb2; have HK2 := Lib.hid hk2; clear hb2 hk2)
      | (go_at_call 153; refine (HU.out _ HK2.out).mono ?_; rintro e w3 ⟨v, rfl, hown, hb3⟩; obtain ⟨va, vn, vc, rfl⟩ := own_slice hown; have HB3 := Lib.hid hb3; have HG3 := Lib.hid (((HB2.out.trans (HB3.out.mono HB2.out.size)).block _ (lt_of_some HK.out)).trans HK.out); clear hb3 hown)
      | (refine wpList_store_row rfl 32 _ _ rfl w.heap.size _ rfl rfl 32 _ HG3.out infoG rfl (one3 0 0 0) ?_))
    refine bodyPost_ret (v := .tuple #[.agg #[.int .i64 0, .int .i64 0, .int .i64 0], .int .i64 3])
      (results_cell_tmp_row Tryz.results154 _ _ w.heap.size 32 _ (0, 0) _ rfl (setRow_same HG3.out) Tryz.underlying32 rfl infoG) rfl
      ⟨by rw [HT.out] <;> rfl, below_setRow ((HB.out.trans (HB2.out.mono HB.out.size)).trans (HB3.out.mono (Nat.le_trans HB.out.size HB2.out.size))) (Nat.le_refl _) _⟩
end Go.Proofs.YtoilcieineejiaaGreatDoor.GeoP
/- keepsakeref09.Put, Take: the walks of their texts. No conditions but those that each lemma names. -/
namespace Go.Proofs.YtoilcieineejiaaGreatDoor.GeoQ
open Go.RowKit
open GeoN GeoC GeoU GeoR GeoP
theorem mk_append (l m : List UInt8) : (⟨l.toArray⟩ : ByteArray) ++ ⟨m.toArray⟩ = ⟨(l ++ m).toArray⟩ := by
  apply ByteArray.ext
  simp [ByteArray.data_append]
theorem size_mk (s : List UInt8) : (⟨s.toArray⟩ : ByteArray).size = s.length := by simp [ByteArray.size]
end Go.Proofs.YtoilcieineejiaaGreatDoor.GeoQ
