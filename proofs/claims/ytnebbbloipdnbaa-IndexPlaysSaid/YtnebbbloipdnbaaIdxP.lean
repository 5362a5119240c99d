/- The document's Add, whole, Epoch and Places: the walks of their texts. No conditions but those that each lemma names. -/
import Derived.Test.YtnebbbloipdnbaaIdxZ
import Derived.Test.YtnebbbloipdnbaaIdxR
namespace Go.Proofs.Ytnebbbloipdnbaa.IdxP
open Go.RowKit
open IdxN IdxM IdxC IdxD IdxH IdxI IdxK IdxJ IdxW IdxQ IdxE IdxZ IdxR
theorem addR_may {l : List V} {x : V} (h : may x = false) : addR l x = l ∧ why l x = 2 := by unfold addR why; simp [h]
theorem addR_in {l : List V} {x : V} (h : may x = true) (k : x ∈ l) : addR l x = l ∧ why l x = 19 := by unfold addR why; simp [h, k]
theorem addR_new {l : List V} {x : V} (h : may x = true) (k : ¬ x ∈ l) : addR l x = l ++ [x] ∧ why l x = 0 := by unfold addR why; simp [h, k]
/-- THE CONTRACT of the document's Add. -/
theorem RAdd (a : Option Addr) (c : Nat) (l : List V) (x : V) (w : World) (h : Lies w a l) (hl : l.length ≤ 100000) :
    Calls Try.prog 9 #[.slice a l.length c, .agg #[.int .i64 x.1, .int .i64 x.2.1, .int .i64 x.2.2]] w (Put a (addR l x) (why l x) w) := by
  cases hm : may x with
  | false => rw [(addR_may hm).1, (addR_may hm).2]; exact Add_no a c l x w h hm
  | true =>
    by_cases hx : x ∈ l
    · rw [(addR_in hm hx).1, (addR_in hm hx).2]; exact Add_twice a c l x w h hl hm hx
    · rw [(addR_new hm hx).1, (addR_new hm hx).2]; exact Add_yes a c l x w h hl hm hx
def fR (l : List V) (ep : Int) : Int → Option V := pick fun x => newestR l x ep ep
theorem ups_length : ups.length = 4096 := by simp [ups]
theorem ups_at (j : Nat) (h : j < 4096) : ups.getD j 0 = (j : Int) := by simp [ups, List.getD, h]
set_option maxRecDepth 100000 in
set_option maxHeartbeats 2000000 in
theorem REpoch (a : Option Addr) (c : Nat) (l : List V) (ep : Int) (w : World) (h : Lies w a l) (hl : l.length ≤ 100000) :
    Calls Try.prog 16 #[.slice a l.length c, .int .i64 ep] w (Cloned (epsR l ep) w) := by
  have HL := Lib.hid h
  have HO := Lib.hid (fun lba W (hh : Lies W a l) => Newest a c l lba ep ep W hh hl)
  have HE : Hid (epsR l ep = ups.filterMap (fR l ep)) := Lib.hid rfl
  clear h
  go_enter Try.func16, Try.ntmps16
  go_wp2_with fail
  go_loopw [5, 6] (fun lv i wr => ∃ (j : Nat) (p : Option Addr) (c : Nat), j ≤ 4096 ∧ i = .int .i64 j ∧ lv = .slice p ((ups.take j).filterMap (fR l ep)).length c ∧ wr.ownsRow w.heap.size 27 3 (.slice p ((ups.take j).filterMap (fR l ep)).length c) ((ups.take j).filterMap (fR l ep)).length (rc ((ups.take j).filterMap (fR l ep))) ∧ Below w.heap.size w wr) (fun _ i _ => 4096 - (intOf i).toNat)
  case atStart => exact ⟨0, none, 0, Nat.zero_le _, rfl, rfl, World.ownsRow_nil _ _ _ _, Below.refl _ _⟩
  case round =>
    obtain ⟨j, p, cp, hj, rfl, rfl, hown, hbel⟩ := hrel
    have OW := Lib.hid hown
    have BW := Lib.hid hbel
    clear hown hbel
    by_cases hlt : j < 4096
    · have hjl : (j : Int) < 4096 := by omega
      have hT := take_pick (fR l ep) ups j (by rw [ups_length]; exact hlt)
      rw [ups_at j hlt] at hT
      have HT := Lib.hid hT
      have HO' := Lib.hid (HO.out (j : Int) wr (HL.out.step BW.out))
      have HFX := Lib.hid (show fR l ep (j : Int) = if (newestR l (j : Int) ep ep).2 then some (newestR l (j : Int) ep ep).1 else none from rfl)
      have hfew : ((ups.take j).filterMap (fR l ep)).length ≤ 100000 := by
        have := List.length_filterMap_le (fR l ep) (ups.take j)
        rw [List.length_take] at this
        omega
      clear hT
      generalize newestR l (j : Int) ep ep = x at *
      generalize (ups.take j).filterMap (fR l ep) = out at *
      obtain ⟨⟨x0, x1, x2⟩, xb⟩ := x
      go_upto_region 6 with (first
        | (go_at_call 12; refine HO'.out.mono ?_; rintro e w2 ⟨rfl, hb⟩; have O2 := Lib.hid (own_step OW.out hb); have B2 := Lib.hid (BW.out.trans (hb.mono BW.out.size)); clear hb HO' OW BW)
        | (refine wpList_store_row rfl 27 _ _ rfl w2.heap.size _ rfl rfl 27 _ (heap_alloc_new w2 _) infoV rfl (one3 (x0, x1, x2)) ?_))
      generalize hW : World.setRow _ _ _ = W3
      have b3 : Below w2.heap.size w2 W3 := by rw [← hW]; exact kept_new w2 _ _ _
      have G3 := Lib.hid (show W3.heap[w2.heap.size]? = some (.cells #[.int .i64 x0, .int .i64 x1, .int .i64 x2] 27 (0, 0)) by rw [← hW]; exact has_new w2 _ _ _)
      clear hW
      have O3 := Lib.hid (own_step O2.out b3)
      have B3 := Lib.hid (B2.out.trans (b3.mono B2.out.size))
      have k0 : W3.cell? ⟨w2.heap.size, 0, none⟩ = some (.int .i64 x0) := blk_cell G3.out rfl
      have k1 : W3.cell? ⟨w2.heap.size, 1, none⟩ = some (.int .i64 x1) := blk_cell G3.out rfl
      have k2 : W3.cell? ⟨w2.heap.size, 2, none⟩ = some (.int .i64 x2) := blk_cell G3.out rfl
      clear b3 O2 B2 G3
      cases xb
      · have hE : (ups.take (j + 1)).filterMap (fR l ep) = out := by rw [HT.out, HFX.out]; simp
        have HEE := Lib.hid hE
        clear hE
        go_wp2_with fail
        go_roundw
        case rel => exact ⟨j + 1, p, cp, by omega, by go_num, by rw [HEE.out], by rw [HEE.out]; exact O3.out, B3.out⟩
        case measure => simp [intOf]; omega
      · have hE : (ups.take (j + 1)).filterMap (fR l ep) = out ++ [(x0, x1, x2)] := by rw [HT.out, HFX.out]; simp
        have HEE := Lib.hid hE
        clear hE
        go_wp2_with (at_builtin; refine append_ver W3 rfl _ _ rfl w.heap.size cp p out (x0, x1, x2) rfl hfew B3.out.size rfl O3.out ?_; intro p' c' w4 ho4 hb4; have O4 := Lib.hid ho4; have B4 := Lib.hid (B3.out.trans hb4); clear ho4 hb4)
        go_roundw
        case rel => exact ⟨j + 1, p', c', by omega, by go_num, by rw [HEE.out, List.length_append]; rfl, by rw [HEE.out]; exact O4.out, B4.out⟩
        case measure => simp [intOf]; omega
    · obtain rfl : j = 4096 := by omega
      have hE : (ups.take 4096).filterMap (fR l ep) = epsR l ep := by rw [List.take_of_length_le (by rw [ups_length]; exact Nat.le_refl _), HE.out]
      rw [hE] at OW
      have HEE := Lib.hid hE
      clear hE
      rw [HEE.out]
      go_wp2_with fail
      go_ret
      exact ⟨_, rfl, OW.out, BW.out⟩
end Go.Proofs.Ytnebbbloipdnbaa.IdxP
