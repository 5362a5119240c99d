/- What keepsakeref01.Unpack answers, for at most 10,000 widths: the walk of its text. -/
import Derived.Test.YtkidehngleglnaaGreatDoorLOb
import Derived.Test.YtkidehngleglnaaGreatDoorSlice
import Derived.Test.YtkidehngleglnaaGreatDoorLRef
namespace Go.Proofs.YtkidehngleglnaaGreatDoor.RUnp
open Go.RowKit
theorem info3 : (Tryz.prog.info? 3).map (fun i => (i.zero, i.size, i.bytes)) = some (some (.int .i64 0), 1, 8) := by kernel_rfl
/-- What Unpack leaves: a slice of its own with the numbers, or nil. -/
def Post (r : List Int × Int) (w : World) (e : Ending) (w' : World) : Prop :=
  ∃ v, e = .returned (.tuple #[v, .int .i64 r.2]) ∧ w'.ownsRow w.heap.size 3 1 v r.1.length (r.1.map (Value.int .i64)) ∧ Below w.heap.size w w'
theorem post_err (c : Int) (w w' : World) (h : Below w.heap.size w w') : Post ([], c) w (.returned (.tuple #[.slice none 0 0, .int .i64 c])) w' := ⟨_, rfl, World.ownsRow_nil _ _ _ _, h⟩
theorem ext_piece (l : List UInt8) (m k : Nat) : (⟨l.toArray⟩ : ByteArray).extract m (m + k) = ⟨((l.drop m).take k).toArray⟩ := by
  rw [ByteArray.extract_mk, Nat.add_sub_cancel_left]
theorem news_one (w : World) (x : Int) : ∀ j u, ([.int .i64 x] : List Value)[j]? = some u → (w.alloc (.cells #[.int .i64 x] 3)).cell? ((⟨w.heap.size, 0, none⟩ : Addr).add j) = some u := by
  intro j u hu
  rcases j with _ | j
  · simp only [List.getElem?_cons_zero, Option.some.injEq] at hu
    subst hu
    simp [Addr.add]
  · simp at hu
theorem below_own {w1 w2 : World} {o : Obj} {B n : Nat} {v : Value} {xs : List Value} (hB : B ≤ w1.heap.size) (h : (w1.alloc o).ownsRow B 3 1 v n xs) (hg : (w1.alloc o).grownBy w2 v.ownBlock) : Below B w1 w2 :=
  ((Below.refl B w1).alloc hB o).grown hg (by simp; omega) (fun k hk => (h.lt k hk).1)
theorem cell_own {w1 w2 : World} {B b i : Nat} {v : Value} (h : Below B w1 w2) (hb : b < B) (hc : w1.cell? ⟨b, i, none⟩ = some v) : w2.cell? ⟨b, i, none⟩ = some v := (h.cell (p := ⟨b, i, none⟩) hb).trans hc
set_option maxRecDepth 100000 in
theorem any (aw : Option Addr) (n cw : Nat) (ws : List Int) (l : List UInt8) (w : World) (hw : Row w w.heap.size aw n ws) (hn : n ≤ 10000) (hl : l.length ≤ maxLen) :
    Calls Tryz.prog 48 #[.slice aw n cw, .string ⟨l.toArray⟩] w (Post (unpack ws l) w) := by
  obtain ⟨i0, hi0, hz0, hz1, hz2⟩ := info_parts info3
  have HW := Lib.hid hw
  have HL : l.length ≤ 9223372036854775807 := by unfold maxLen at hl; omega
  clear hw hl
  go_enter Tryz.func48, Tryz.ntmps48
  go_wp2_with fail
  go_loop [6, 7] (fun a i => ∃ j : Nat, j ≤ n ∧ i = .int .i64 j ∧ a = .int .i64 (sumTo ws j) ∧ Hid (widthsTo ws j)) (fun _ i => n - (intOf i).toNat)
  case atStart => exact ⟨0, Nat.zero_le _, rfl, rfl, fun j hj => absurd hj (by omega)⟩
  case round =>
    obtain ⟨j, hj, rfl, rfl, hok⟩ := hrel
    have hln : ws.length = n := HW.out.1
    by_cases hlt : j < n
    · obtain ⟨b1, o1, rfl, hb1, hc1⟩ := HW.out.2 (by omega)
      have hy := hc1 j hlt
      have hsl := sumTo_le ws j hok.out
      clear hc1 hln
      by_cases hgood : 1 ≤ ws.getD j 0 ∧ ws.getD j 0 ≤ 8
      · have hnx := Lib.hid (widthsTo_next hok.out hgood)
        have hsum : sumTo ws (j + 1) = sumTo ws j + (ws.getD j 0).toNat := rfl
        obtain ⟨k, hk⟩ : ∃ k : Nat, ws.getD j 0 = k := ⟨(ws.getD j 0).toNat, by omega⟩
        rw [hk] at hy hgood hsum
        rw [Int.toNat_natCast] at hsum
        have HS := Lib.hid hsum
        obtain ⟨g1, g2⟩ := hgood
        clear hk hsum
        go_wp2_with fail
        go_round
        case rel => exact ⟨j + 1, by omega, by go_num, by rw [HS.out]; go_num, hnx⟩
        case measure => simp [intOf]; omega
      · have hp : unpack ws l = ([], 2) := unpack_width ws l (fun h => hgood (h j (by rw [HW.out.1]; exact hlt)))
        have HP := Lib.hid hp
        have HB := Lib.hid (post_err 2 w w (Below.refl _ _))
        clear hp
        by_cases h1 : ws.getD j 0 < 1
        · generalize ws.getD j 0 = y at *
          clear hgood
          go_wp2_with fail
          go_ret2
          rw [HP.out]
          exact HB.out
        · have h2 : 8 < ws.getD j 0 := by omega
          generalize ws.getD j 0 = y at *
          clear hgood
          go_wp2_with fail
          go_ret2
          rw [HP.out]
          exact HB.out
    · obtain rfl : n = j := by omega
      by_cases hlen : l.length = sumTo ws n
      · have hbne : ((sumTo ws n : Int) != (l.length : Int)) = false := by rw [hlen]; simp
        have Hlen := Lib.hid hlen
        have Hln := Lib.hid hln
        have Hhsl := Lib.hid (sumTo_le ws n hok.out)
        clear hlen hln
        go_wp2_with fail
        go_loopw [8, 9, 10] (fun o a i wr => ∃ (j : Nat) (va : Option Addr) (vn vc : Nat), j ≤ n ∧ i = .int .i64 j ∧ a = .int .i64 (sumTo ws j) ∧ o = .slice va vn vc ∧ Hid (gotTo ws l j) ∧
          Hid (wr.ownsRow w.heap.size 3 1 (.slice va vn vc) j ((numsTo ws l j).map (Value.int .i64))) ∧ Below w.heap.size w wr) (fun _ _ i _ => n - (intOf i).toNat)
        case atStart => exact ⟨0, none, 0, 0, Nat.zero_le _, rfl, rfl, rfl, fun j hj => absurd hj (by omega), World.ownsRow_nil _ _ _ _, Below.refl _ _⟩
        case round =>
          obtain ⟨j, va, vn, vc, hj, rfl, rfl, rfl, hgot, hown, hbel⟩ := hrel
          by_cases hlt : j < n
          · obtain ⟨b1, o1, rfl, hb1, hc1⟩ := (HW.out.below hbel).2 (by omega)
            have hy := hc1 j hlt
            have hyk := hok.out j hlt
            have hmono := sumTo_mono ws (j + 1) n (by omega)
            have hpc : (l.drop (sumTo ws j)).take (ws.getD j 0).toNat = piece ws l j := rfl
            have hsum : sumTo ws (j + 1) = sumTo ws j + (ws.getD j 0).toNat := rfl
            have hnums : numsTo ws l (j + 1) = numsTo ws l j ++ [(get (piece ws l j)).1] := rfl
            obtain ⟨k, hk⟩ : ∃ k : Nat, ws.getD j 0 = k := ⟨(ws.getD j 0).toNat, by omega⟩
            rw [hk] at hy hpc hsum
            rw [Int.toNat_natCast] at hpc hsum
            have hnx := Lib.hid (fun hz => gotTo_next (ws := ws) (l := l) (i := j) hgot.out hz)
            have hno := Lib.hid (get_no (piece ws l j))
            have hget : ∀ W, Calls Tryz.prog 27 #[.string ((⟨l.toArray⟩ : ByteArray).extract (sumTo ws j) (sumTo ws j + k))] W fun e w' => e = .returned (.tuple #[.int .i64 (get (piece ws l j)).1, .int .i64 (get (piece ws l j)).2]) ∧ W = w' := by
              intro W
              rw [ext_piece, hpc]
              exact RGet.any ⟨(piece ws l j).toArray⟩ W
            have hle : sumTo ws j + k ≤ l.length := by rw [Hlen.out]; omega
            have hslice : ∀ W, (Instr.slice 9 (.string ⟨l.toArray⟩) (some (.int .i64 (sumTo ws j : Int))) (some (.int .i64 ((sumTo ws j : Int) + (k : Int)))) none).run Tryz.prog W = .ok (.string ((⟨l.toArray⟩ : ByteArray).extract (sumTo ws j) (sumTo ws j + k))) W := by
              intro W
              have := run_slice_string (P := Tryz.prog) (w := W) 9 ⟨l.toArray⟩ .i64 .i64 (sumTo ws j) ((sumTo ws j : Int) + (k : Int)) Tryz.underlying9 (by omega) (by omega) (show (sumTo ws j : Int) + (k : Int) ≤ ((l.length : Nat) : Int) by omega)
              rw [Int.toNat_natCast, show ((sumTo ws j : Int) + (k : Int)).toNat = sumTo ws j + k from by omega] at this
              exact this
            have HS := Lib.hid hsum
            have HN := Lib.hid hnums
            clear hc1 hyk hpc hsum hnums hk hmono
            have hfin : Hid (∀ (w2 : World) (v : Value), w2.ownsRow w.heap.size 3 1 v (j + 1) ((numsTo ws l j).map (Value.int .i64) ++ [.int .i64 (get (piece ws l j)).1]) → w2.ownsRow w.heap.size 3 1 v (j + 1) ((numsTo ws l (j + 1)).map (Value.int .i64))) := by
              intro w2 v h
              rw [HN.out, List.map_append]
              exact h
            have HB := Lib.hid hbel
            have hrsz : w.heap.size ≤ wr.heap.size := hbel.size
            clear hbel
            by_cases hz : (get (piece ws l j)).2 = 0
            · have HX := Lib.hid (hnx.out hz)
              rw [hz] at hget
              have Hget := Lib.hid hget
              clear hz hget hno hnx
              generalize (get (piece ws l j)).1 = x at *
              generalize sumTo ws j = m at *
              have hown1 := hown.out.alloc (.cells #[.int .i64 x] 3)
              have HO1 := Lib.hid hown1
              have Hnew := Lib.hid (news_one wr x)
              have hy1 := hy
              clear hown1
              go_wp2_with
                (first
                  | (go_at_call 27; refine (Hget.out _).mono ?_; rintro e w' ⟨rfl, rfl⟩)
                  | (at_builtin
                     refine wpList_append_own _ rfl _ _ _ rfl w.heap.size 3 i0 (.int .i64 0) 1 8 Tryz.underlying73 hi0 hz0 hz1 hz2 rfl (by decide) (.slice va vn vc) j _ rfl HO1.out ⟨wr.heap.size, 0, none⟩ 1 1 [.int .i64 x] rfl rfl Hnew.out (by simp [Value.oneCell']) (by unfold maxLen; omega) (by omega) (by simp; omega) ?_
                     intro v' w2 hown2 hg2 hnil2
                     obtain ⟨a', n', c', rfl⟩ := own_slice hown2
                     have hb2 := below_own hrsz HO1.out hg2
                     have hy2 := cell_own hb2 hb1 hy
                     have HB2 := Lib.hid (HB.out.trans hb2)
                     have HO2 := Lib.hid hown2
                     clear hown2 hg2 hnil2 hb2))
              go_roundw
              case rel => exact ⟨j + 1, a', n', c', by omega, by go_num, by rw [HS.out]; go_num, rfl, HX.out, hfin.out _ _ HO2.out, HB2.out⟩
              case measure => simp [intOf]; omega
            · have hp : unpack ws l = ([], 3) := unpack_bad ws l (by rw [Hln.out]; exact hok.out) (by rw [Hln.out]; exact Hlen.out) (fun h => hz (h j (by rw [Hln.out]; exact hlt)))
              have hc3 : (get (piece ws l j)).2 = 3 := by rw [hno.out hz]
              rw [hc3] at hget
              have Hget := Lib.hid hget
              have HP := Lib.hid hp
              have HE := Lib.hid (post_err 3 w wr HB.out)
              clear hz hget hno hnx hp hc3 hfin
              generalize (get (piece ws l j)).1 = x at *
              generalize sumTo ws j = m at *
              go_wp2_with (go_at_call 27; refine (Hget.out _).mono ?_; rintro e w' ⟨rfl, rfl⟩)
              go_ret2
              rw [HP.out]
              exact HE.out
          · obtain rfl : n = j := by omega
            have hp : unpack ws l = (numsTo ws l n, 0) := by
              have := unpack_good ws l (by rw [Hln.out]; exact hok.out) (by rw [Hln.out]; exact Hlen.out) (by rw [Hln.out]; exact hgot.out)
              rw [Hln.out] at this
              exact this
            have HP := Lib.hid hp
            have HE : Hid (wr.ownsRow w.heap.size 3 1 (.slice va vn vc) (numsTo ws l n).length ((numsTo ws l n).map (Value.int .i64)) ∧ Below w.heap.size w wr) := by
              refine ⟨?_, hbel⟩
              rw [numsTo_length]
              exact hown.out
            clear hp hbel
            go_wp2_with fail
            go_ret2
            rw [HP.out]
            exact ⟨_, rfl, HE.out.1, HE.out.2⟩
      · have hbne : ((sumTo ws n : Int) != (l.length : Int)) = true := by rw [bne_iff_ne]; omega
        have hp : unpack ws l = ([], 3) := unpack_sum ws l (by rw [hln]; exact hok.out) (by rw [hln]; exact hlen)
        have HP := Lib.hid hp
        have HB := Lib.hid (post_err 3 w w (Below.refl _ _))
        clear hp hln hlen
        go_wp2_with fail
        go_ret2
        rw [HP.out]
        exact HB.out
end Go.Proofs.YtkidehngleglnaaGreatDoor.RUnp
