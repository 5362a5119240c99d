/- Epoch: the walk of its text. The condition: that the row stands in its order. -/
import Derived.Test.YtnebbbloipdnbaaIdxW
namespace Go.Proofs.Ytnebbbloipdnbaa.IdxE
open Go.RowKit
open IdxN IdxM IdxC IdxD IdxF IdxH IdxI IdxK IdxJ IdxV IdxW
theorem cell_row_new (w : World) (v : V) (t : TypeId) : ∀ j u, (vc v)[j]? = some u → (w.alloc (.cells #[.int .i64 v.1, .int .i64 v.2.1, .int .i64 v.2.2] t)).cell? ((⟨w.heap.size, 0, none⟩ : Addr).add j) = some u := fun j u hj => by
  rw [add_off, Nat.zero_add]
  exact blk_cell (heap_alloc_new w _) (by rw [← Array.getElem?_toList]; exact hj)
theorem vc_one (v : V) : ∀ u ∈ vc v, u.oneCell' = true := IdxK.vc_one v
/-- A version appended to a row of the call's own. -/
theorem append_ver {ops : Array Oper} {rest : List Oper} {o : Oper} {a : Act} {Q : Exit → Act → World → Prop} (w : World) (hgd : o.guard = none) (s x : Operand)
    (ho : o.op = .call { callee := .builtin .append, args := #[s, x], argTypes := #[22, 22] }) (base c : Nat) (p : Option Addr) (l : List V) (v : V) (hs : a.eval s = .slice p l.length c) (hn : l.length ≤ 100000) (hb : base ≤ w.heap.size)
    (hx : a.eval x = .slice (some ⟨w.heap.size, 0, none⟩) 1 1) (hown : w.ownsRow base 27 3 (.slice p l.length c) l.length (rc l))
    (h : ∀ p' c' w', w'.ownsRow base 27 3 (.slice p' (l ++ [v]).length c') (l ++ [v]).length (rc (l ++ [v])) → Below base w w' → wpList Try.prog ops Q rest (a.put o.dst (.slice p' (l.length + 1) c')) w') :
    wpList Try.prog ops Q (o :: rest) a (w.alloc (.cells #[.int .i64 v.1, .int .i64 v.2.1, .int .i64 v.2.2] 27)) := by
  obtain ⟨i0, hi, hz0, hz1, hz2⟩ := info_parts info_ver
  refine wpList_append_own _ hgd s x 22 ho base 27 i0 (.agg #[.int .i64 0, .int .i64 0, .int .i64 0]) 3 24 Try.underlying22 hi hz0 hz1 hz2 rfl (by decide) _ _ _ hs (hown.alloc _) ⟨w.heap.size, 0, none⟩ 1 1 (vc v) hx rfl (cell_row_new w v _) (vc_one v) (by unfold maxLen; omega) (by omega) (by simp; omega) ?_
  intro v' w1 h1 hgrow _
  obtain ⟨p', c', rfl⟩ := own_slice_len h1
  refine h p' c' w1 (by rw [rc_append, List.length_append]; exact h1) ?_
  exact Below.grown ((below_new w _).mono hb) hgrow (by simp; omega) (fun k hk => (hown.lt k hk).1)
def fx (r : List V) (ep : Int) : Int → Option V := pick fun x => IdxM.of r x ep
theorem take_pick (f : Int → Option V) (l : List Int) (j : Nat) (h : j < l.length) : (l.take (j + 1)).filterMap f = (l.take j).filterMap f ++ (f (l.getD j 0)).toList := by
  rw [List.take_succ_eq_append_getElem h, List.filterMap_append]
  have e : l.getD j 0 = l[j] := by simp [List.getD, h]
  rw [e]
  cases hf : f l[j] <;> simp [hf]
set_option maxRecDepth 100000 in
set_option maxHeartbeats 2000000 in
theorem Epoch (s : Option Addr) (r : List V) (ep : Int) (w : World) (h : Rd s r w) (hl : r.length ≤ 100000) (hs : Sorted r) :
    Calls Try.prog 15 #[.pointer s, .int .i64 ep] w (Cloned (eps r ep) w) := by
  have HR := Lib.hid (row s r w h)
  have HC := Lib.hid (fun a c W (hc : r.length ≤ c) (hh : Lies W a r) => cplaces c a r W hl hc hs hh)
  have HO := Lib.hid (fun a c lba W (hh : Lies W a r) => cof c a r lba ep W (by omega) hs hh)
  have HE : Hid (eps r ep = (plc r).filterMap (fx r ep)) := Lib.hid rfl
  have hpl := plc_length r
  clear h hs
  go_enter Try.func15, Try.ntmps15
  go_wp2_with (first
    | (go_at_call 31; refine HR.out.mono ?_; rintro e _ ⟨a, c, rfl, hc, hlies, rfl⟩; have HL := Lib.hid hlies; have HQ := Lib.hid hc; clear hlies hc)
    | (go_at_call 35; refine (HC.out _ _ _ HQ.out HL.out).mono ?_; rintro e w1 ⟨v, rfl, hown, hb⟩; obtain ⟨va, vc', rfl⟩ := own_slice_len hown; have HB := Lib.hid hb; have HP := Lib.hid (row_own hown); clear hown hb HC))
  have hpn : (plc r).length ≤ 100000 := by omega
  generalize plc r = pl at *
  go_loopw [6, 16] (fun lv i wr => ∃ (j : Nat) (p : Option Addr) (c : Nat), j ≤ pl.length ∧ i = .int .i64 j ∧ lv = .slice p ((pl.take j).filterMap (fx r ep)).length c ∧ wr.ownsRow w1.heap.size 27 3 (.slice p ((pl.take j).filterMap (fx r ep)).length c) ((pl.take j).filterMap (fx r ep)).length (rc ((pl.take j).filterMap (fx r ep))) ∧ Below w1.heap.size w1 wr) (fun _ i _ => pl.length - (intOf i).toNat)
  case atStart => exact ⟨0, none, 0, Nat.zero_le _, rfl, rfl, World.ownsRow_nil _ _ _ _, Below.refl _ _⟩
  case round =>
    obtain ⟨j, p, cp, hj, rfl, rfl, hown, hbel⟩ := hrel
    have OW := Lib.hid hown
    have BW := Lib.hid hbel
    clear hown hbel
    by_cases hlt : j < pl.length
    · obtain ⟨pg, po, rfl, hpg, hpc⟩ := HP.out.2 (by omega)
      have q0 : wr.cell? ⟨pg, po + j, none⟩ = some (.int .i64 (pl.getD j 0)) := (BW.out.cell (p := ⟨pg, po + j, none⟩) hpg).trans (hpc j hlt)
      have hjl : (j : Int) < (pl.length : Int) := by omega
      have HT := Lib.hid (take_pick (fx r ep) pl j hlt)
      have HO' := Lib.hid (HO.out a c (pl.getD j 0) wr ((HL.out.step HB.out).step (BW.out)))
      have HFX := Lib.hid (show fx r ep (pl.getD j 0) = if (IdxM.of r (pl.getD j 0) ep).2 then some (IdxM.of r (pl.getD j 0) ep).1 else none from rfl)
      have hfew : ((pl.take j).filterMap (fx r ep)).length ≤ 100000 := by
        have := List.length_filterMap_le (fx r ep) (pl.take j)
        rw [List.length_take] at this
        omega
      generalize IdxM.of r (pl.getD j 0) ep = x at *
      generalize pl.getD j 0 = lba at *
      generalize (pl.take j).filterMap (fx r ep) = out at *
      obtain ⟨⟨x0, x1, x2⟩, xb⟩ := x
      clear hpc
      go_upto_region 7 with (first
        | (go_at_call 34; refine HO'.out.mono ?_; rintro e w2 ⟨rfl, hb⟩; have O2 := Lib.hid (own_step OW.out hb); have B2 := Lib.hid (BW.out.trans (hb.mono BW.out.size)); clear hb HO' OW BW q0)
        | (refine wpList_store_row rfl 27 _ _ rfl w2.heap.size _ rfl rfl 27 _ (heap_alloc_new w2 _) infoV rfl (one3 (x0, x1, x2)) ?_))
      generalize hW : World.setRow _ _ _ = W3
      have b3 : Below w2.heap.size w2 W3 := by rw [← hW]; exact kept_new w2 _ _ _
      have G3 := Lib.hid (show W3.heap[w2.heap.size]? = some (.cells #[.int .i64 x0, .int .i64 x1, .int .i64 x2] 27 (0, 0)) by rw [← hW]; exact has_new w2 _ _ _)
      clear hW
      have O3 := Lib.hid (own_step O2.out b3)
      have B3 := Lib.hid (B2.out.trans (b3.mono B2.out.size))
      have k0 : W3.cell? ⟨w2.heap.size, 0, none⟩ = some (.int .i64 x0) := blk_cell G3.out rfl
      have k1 : W3.cell? ⟨w2.heap.size, 1, none⟩ = some (.int .i64 x1) := blk_cell G3.out rfl
      have k2 : W3.cell? ⟨w2.heap.size, 2, none⟩ = some (.int .i64 x2) := blk_cell G3.out rfl
      clear b3 O2 B2 G3
      cases xb
      · have hE : (pl.take (j + 1)).filterMap (fx r ep) = out := by rw [HT.out, HFX.out]; simp
        have HEE := Lib.hid hE
        clear hE
        go_wp2_with fail
        go_roundw
        case rel => exact ⟨j + 1, p, cp, by omega, by go_num, by rw [HEE.out], by rw [HEE.out]; exact O3.out, B3.out⟩
        case measure => simp [intOf]; omega
      · have hE : (pl.take (j + 1)).filterMap (fx r ep) = out ++ [(x0, x1, x2)] := by rw [HT.out, HFX.out]; simp
        have HEE := Lib.hid hE
        clear hE
        go_wp2_with (at_builtin; refine append_ver W3 rfl _ _ rfl w1.heap.size cp p out (x0, x1, x2) rfl hfew B3.out.size rfl O3.out ?_; intro p' c' w4 ho4 hb4; have O4 := Lib.hid ho4; have B4 := Lib.hid (B3.out.trans hb4); clear ho4 hb4)
        go_roundw
        case rel => exact ⟨j + 1, p', c', by omega, by go_num, by rw [HEE.out, List.length_append]; rfl, by rw [HEE.out]; exact O4.out, B4.out⟩
        case measure => simp [intOf]; omega
    · obtain rfl : j = pl.length := by omega
      have hE : (pl.take pl.length).filterMap (fx r ep) = eps r ep := by rw [List.take_length, HE.out]
      rw [hE] at OW
      have HEE := Lib.hid hE
      clear hE
      rw [HEE.out]
      go_wp2_with fail
      go_ret
      exact ⟨_, rfl, own_base OW.out HB.out.size, HB.out.trans (BW.out.mono HB.out.size)⟩
end Go.Proofs.Ytnebbbloipdnbaa.IdxE
