/- What keepsakeref05.Encrypt answers, of a key and a block of 16 bytes: the walk of its text. -/
import Derived.Test.YtjlepjnfacmieaaARExp
namespace Go.Proofs.Ytjlepjnfacmieaa.AREnc
open Go.RowKit
open AesM ADbl ARef ARBox ARAdd ARExp
/-- Four new cells. -/
theorem news_four (w : World) (x y z u : Value) : ∀ j v, ([x, y, z, u] : List Value)[j]? = some v → (w.alloc (.cells #[x, y, z, u] 3)).cell? ((⟨w.heap.size, 0, none⟩ : Addr).add j) = some v := by
  intro j v hv
  rw [show (⟨w.heap.size, 0, none⟩ : Addr).add j = ⟨w.heap.size, j, none⟩ from by unfold Addr.add; split <;> simp_all]
  refine blk_cell (heap_alloc_new w _) ?_
  simpa using hv
theorem own_more {W : World} {B n : Nat} {v : Value} {l m : List UInt8} (hn : n = l.length + m.length) (h : W.ownsRow B 3 1 v n ((ints l).map (Value.int .i64) ++ (ints m).map (Value.int .i64))) : Own W B v (l ++ m) := by
  unfold Own
  rw [ints_append, List.map_append, List.length_append, ← hn]
  exact h
theorem place : ∀ i, i < 16 → 4 * ((i / 4 + i % 4) % 4) + i % 4 = (i + 4 * (i % 4) * 1) % 16 := by decide
theorem byte_lt (b : UInt8) : (b.toNat : Int) < 256 := by have := b.toNat_lt; omega
theorem byte_ge (b : UInt8) : (0 : Int) ≤ (b.toNat : Int) := by omega
theorem place2 : ∀ i, i < 16 → (i + 4 * (i % 4) * 1) % 16 = 4 * ((i / 4 + i) % 4) + i % 4 := by decide
theorem mul2 (x y : UInt8) (h : y = dbl x) (W : World) : Calls Try.prog 31 #[.int .i64 2, .int .i64 x.toNat] W fun e w' => e = .returned (.int .i64 y.toNat) ∧ W = w' := by
  rw [h, ← mul_2]
  exact MulB 2 x W
theorem mul3 (x y : UInt8) (h : y = dbl x ^^^ x) (W : World) : Calls Try.prog 31 #[.int .i64 3, .int .i64 x.toNat] W fun e w' => e = .returned (.int .i64 y.toNat) ∧ W = w' := by
  rw [h, ← mul_3]
  exact MulB 3 x W
theorem col_ref (a b c d : UInt8) : col a b c d = [dbl a ^^^ (dbl b ^^^ b) ^^^ c ^^^ d, a ^^^ dbl b ^^^ (dbl c ^^^ c) ^^^ d, a ^^^ b ^^^ dbl c ^^^ (dbl d ^^^ d), (dbl a ^^^ a) ^^^ b ^^^ c ^^^ dbl d] := by
  have h : ∀ x z : UInt8, x ^^^ (x ^^^ z) = z := fun x z => by rw [← UInt8.xor_assoc, UInt8.xor_self, UInt8.zero_xor]
  unfold col
  simp only [dbl_xor]
  generalize dbl a = A
  generalize dbl b = B
  generalize dbl c = C
  generalize dbl d = D
  rw [show a ^^^ b ^^^ c ^^^ d ^^^ (A ^^^ B) = a ^^^ (A ^^^ (B ^^^ b) ^^^ c ^^^ d) from by ac_rfl, h]
  rw [show a ^^^ b ^^^ c ^^^ d ^^^ (B ^^^ C) = b ^^^ (a ^^^ B ^^^ (C ^^^ c) ^^^ d) from by ac_rfl, h]
  rw [show a ^^^ b ^^^ c ^^^ d ^^^ (C ^^^ D) = c ^^^ (a ^^^ b ^^^ C ^^^ (D ^^^ d)) from by ac_rfl, h]
  rw [show a ^^^ b ^^^ c ^^^ d ^^^ (D ^^^ A) = d ^^^ ((A ^^^ a) ^^^ b ^^^ c ^^^ D) from by ac_rfl, h]
theorem flat_len (l : List UInt8) (q : Nat) : ((List.range q).flatMap (colAt l)).length = 4 * q := by
  induction q with
  | zero => rfl
  | succ k ih => rw [List.range_succ, List.flatMap_append, List.length_append, ih]; simp [colAt, col]; omega
theorem flat_all (l : List UInt8) (h : l.length = 16) : (List.range 4).flatMap (colAt l) = mixL l := by
  rw [mixL, mixTo, List.drop_of_length_le (by omega), List.append_nil]
theorem flat_next (l : List UInt8) (q : Nat) : (List.range (q + 1)).flatMap (colAt l) = (List.range q).flatMap (colAt l) ++ colAt l q := by
  rw [List.range_succ, List.flatMap_append]; simp
/-- The row that is turned, of the stand-ins. -/
def tf (l : List UInt8) (i : Nat) : UInt8 := boxL.getD (l.getD ((i + 4 * (i % 4) * 1) % 16) 0).toNat 0
theorem tf_all (l : List UInt8) : turnL 1 (subL boxL l) = fillL (tf l) := by
  unfold turnL
  refine fillL_ext fun i _ => ?_
  rw [subL, fillL_getD _ _ (Nat.mod_lt _ (by omega))]
  rfl
set_option maxRecDepth 100000 in
set_option linter.unusedSimpArgs false in
set_option maxHeartbeats 4000000 in
theorem Encrypt (k s : List UInt8) (w : World) (hk : k.length = 16) (hs : s.length = 16) :
    Calls Try.prog 18 #[.string ⟨k.toArray⟩, .string ⟨s.toArray⟩] w fun e w' => e = .returned (.string ⟨(encL k s).toArray⟩) ∧ Below w.heap.size w w' := by
  obtain ⟨i0, hi0, hz0, hz1, hz2⟩ := info_parts info3
  have HL := Lib.hid hs
  have HX := Lib.hid (fun (g : Nat) (W : World) (h : W.heap[g]? = some (.cells (iRow boxL) 3 (0, 0))) => ARExp.Expand k g W hk h)
  have HXL := Lib.hid (expL_length boxL k hk)
  have HE : Hid (encL k s = forthTo (expL boxL k) boxL s 10) := rfl
  have HE0 : Hid (addL s (expL boxL k) 0 = forthTo (expL boxL k) boxL s 0) := rfl
  clear hk hs
  generalize expL boxL k = ws at *
  go_enter Try.func18, Try.ntmps18
  go_upto_region 2 with (go_at_call 28; refine (Boxes _).mono ?_; rintro e w1 ⟨rfl, rfl⟩)
  generalize hW : World.alloc w _ = W1
  have HBox : Hid (W1.heap[w.heap.size]? = some (.cells (iRow boxL) 3 (0, 0))) := by show _ = _; rw [← hW]; exact heap_alloc_new w _
  have HB1 : Hid (Below w.heap.size w W1) := by show Below _ _ _; rw [← hW]; exact (Below.refl _ _).alloc (Nat.le_refl _) _
  clear hW
  go_upto_region 3 with (go_at_call 29; refine (HX.out _ _ HBox.out).mono ?_; rintro e W2 ⟨al, cl, rfl, hrow, hown, hb2⟩; have HRow := Lib.hid hrow; have HB2 := Lib.hid hb2; clear hrow hown hb2)
  rw [HXL.out]
  rw [HXL.out] at HRow
  have HBL : Hid (Below w.heap.size w W2) := HB1.out.trans (HB2.out.mono HB1.out.size)
  have HBX : Hid (W2.heap[w.heap.size]? = some (.cells (iRow boxL) 3 (0, 0))) := (HB2.out.block _ (Array.getElem?_eq_some_iff.1 HBox.out).1).trans HBox.out
  clear HBox HB1 HB2 HX
  have HGB : Hid (w.heap.size ≤ W2.heap.size) := HBL.out.size
  obtain ⟨gb, hgb⟩ : ∃ g, g = w.heap.size := ⟨_, rfl⟩
  rw [← hgb] at HBX ⊢
  clear hgb
  go_wp2_with fail
  obtain ⟨B, hBB⟩ : ∃ B, B = W2.heap.size := ⟨_, rfl⟩
  have HBB := Lib.hid hBB
  have HAdd := Lib.hid (fun (a : Option Addr) (c r : Nat) (l : List UInt8) (W : World) (h : Row W W.heap.size a 16 (ints l)) (hb : Below W2.heap.size W2 W) (hr : r ≤ 10) => ARAdd.add a al c cl r l ws W h ((HRow.out.below hb).more hb.size) hr)
  have HBox : Hid (∀ W, Below W2.heap.size W2 W → ∀ i, i < 256 → W.cell? ⟨gb, i, none⟩ = some (.int .i64 (boxL.getD i 0).toNat)) := fun W h i hi =>
    (h.cell (p := ⟨gb, i, none⟩) (Array.getElem?_eq_some_iff.1 HBX.out).1).trans (blk_cell HBX.out (iRow_at boxL i (by rw [boxL_len]; exact hi)))
  clear hBB HRow HBX HXL
  go_loopw [7, 8] (fun o i wr => ∃ (j : Nat) (va : Option Addr) (vn vc : Nat), j ≤ 16 ∧ i = .int .i64 j ∧ o = .slice va vn vc ∧ Hid (Own wr W2.heap.size (.slice va vn vc) (s.take j)) ∧ Below W2.heap.size W2 wr) (fun _ i _ => 16 - (intOf i).toNat)
  case atStart => exact ⟨0, none, 0, 0, Nat.zero_le _, rfl, rfl, own_nil _ _, Below.refl _ _⟩
  case round =>
    obtain ⟨j, va, vn, vc, hj, rfl, rfl, hown, hbel⟩ := hrel
    by_cases hlt : j < 16
    · have htk : s.take (j + 1) = s.take j ++ [s.getD j 0] := by
        rw [List.take_succ_eq_append_getElem (by rw [HL.out]; exact hlt)]
        simp [List.getD, show j < s.length from by rw [HL.out]; exact hlt]
      have HX : ∀ h, ((⟨s.toArray⟩ : ByteArray)[j]'h) = s.getD j 0 := fun h => by
        have hj2 : j < s.length := by rw [HL.out]; exact hlt
        simp only [List.getD, List.getElem?_eq_getElem hj2, Option.getD_some]
        rfl
      have hjk : (j : Int) < (s.length : Int) := by rw [HL.out]; omega
      have hzj : (0 : Int) ≤ (j : Int) := by omega
      have HTL : Hid ((s.take j).length = j) := by show _ = _; rw [List.length_take, HL.out]; omega
      generalize s.getD j 0 = x at *
      have hwx : wrap64 (x.toNat : Int) = (x.toNat : Int) := IntWalk.wrap64_in _ (by have := x.toNat_lt; omega)
      have HN := Lib.hid htk
      have HB := Lib.hid hbel
      have hown1 := World.ownsRow.alloc hown.out (.cells #[.int .i64 x.toNat] 3)
      rw [HTL.out] at hown1
      have HO1 := Lib.hid hown1
      have Hnew := Lib.hid (news_one wr x.toNat)
      have HZ := Lib.hid hbel.size
      have HOne : Hid (∀ u ∈ ([.int .i64 x.toNat] : List Value), u.oneCell' = true) := by show ∀ _, _; simp [Value.oneCell']
      have HMax : Hid (j + 1 ≤ maxLen) := by show _ ≤ _; unfold maxLen; omega
      have HByt : Hid ((j + 1) * 8 ≤ 140737488355328) := by show _ ≤ _; omega
      have HBas : Hid (W2.heap.size ≤ (wr.alloc (.cells #[.int .i64 x.toNat] 3)).heap.size) := by show _ ≤ _; have := hbel.size; simp; omega
      clear htk hbel hown1 hown
      go_wp2_with (first
    | (at_builtin
       refine wpList_append_own _ rfl _ _ _ rfl W2.heap.size 3 i0 (.int .i64 0) 1 8 Try.underlying39 hi0 hz0 hz1 hz2 rfl Nat.one_pos (.slice va vn vc) j _ rfl HO1.out ⟨wr.heap.size, 0, none⟩ 1 1 [.int .i64 x.toNat] rfl rfl Hnew.out HOne.out HMax.out HByt.out HBas.out ?_
       intro v' w2 hown2 hg2 hnil2
       obtain ⟨a', n', c', rfl⟩ := own_slice hown2
       have HB2 := Lib.hid (HB.out.trans (below_own0 HZ.out HO1.out hg2))
       have HO2 := Lib.hid hown2
       clear hown2 hg2 hnil2))
      go_roundw
      case rel => exact ⟨j + 1, a', n', c', by omega, by go_num, rfl, by show Own _ _ _ _; rw [HN.out]; exact own_next (by rw [HTL.out]; exact HO2.out), HB2.out⟩
      case measure => simp [intOf]; omega
    · have hk : j = 16 := by omega
      subst hk
      rw [show ((16 : Nat) : Int) = 16 from rfl]
      have ho : Own wr W2.heap.size (.slice va vn vc) s := by
        have h := hown.out
        rw [List.take_of_length_le (by rw [HL.out]; exact Nat.le_refl _)] at h
        exact h
      obtain ⟨hvn, hrow⟩ := own_row ho
      rw [HL.out] at hvn
      subst hvn
      have HP0 := Lib.hid (fun W (hW : W = wr) => (show Calls Try.prog 30 #[.slice va 16 vc, .slice al 176 cl, .int .i64 0] W _ from HAdd.out va vc 0 s W (by rw [hW]; exact hrow) (by rw [hW]; exact hbel) (by omega)))
      have HB := Lib.hid hbel
      clear ho hown hrow hbel
      rw [HE0.out] at HP0
      go_upto_region 9 with (go_at_call 30; refine (HP0.out _ rfl).mono ?_; rintro e w3 ⟨a3, c3, rfl, hrow3, _, hb3⟩; have HR3 := Lib.hid hrow3; have HB3 := Lib.hid (HB.out.trans (hb3.mono HB.out.size)); clear hrow3 hb3)
      have hl0 := forthTo_length ws boxL s 0
      rw [hl0] at HR3 ⊢
      clear hl0 HP0 HB
      go_wp2_with fail
      go_loopw [7, 9] (fun o i wr => ∃ (j : Nat) (a : Option Addr) (c : Nat), j ≤ 10 ∧ i = .int .i64 ((j : Int) + 1) ∧ o = .slice a 16 c ∧ Hid (Row wr wr.heap.size a 16 (ints (forthTo ws boxL s j))) ∧ Below W2.heap.size W2 wr) (fun _ i _ => 11 - (intOf i).toNat)
      case atStart => exact ⟨0, a3, c3, Nat.zero_le _, rfl, rfl, HR3.out, HB3.out⟩
      case round =>
        clear HR3 HB3
        obtain ⟨j, a, c, hj, rfl, rfl, hrow, hbel⟩ := hrel
        by_cases hlt : j < 10
        · have hlen := forthTo_length ws boxL s j
          have HNX : Hid (forthTo ws boxL s (j + 1) = addL (if j < 9 then mixL (turnL 1 (subL boxL (forthTo ws boxL s j))) else turnL 1 (subL boxL (forthTo ws boxL s j))) ws (j + 1)) := rfl
          rw [tf_all] at HNX
          generalize forthTo ws boxL s j = l0 at *
          obtain ⟨W3, hW3⟩ : ∃ W, W = wr := ⟨_, rfl⟩
          rw [← hW3] at hrow hbel ⊢
          have HR3 := hrow
          have HB3 := Lib.hid hbel
          have HJ : Hid (j < 10) := hlt
          have hji : (j : Int) + 1 ≤ 10 := by omega
          clear hW3 hrow hbel hlt hj
          go_wp2_with fail
          go_loopw [10, 11] (fun o i wr => ∃ (q : Nat) (va : Option Addr) (vn vc : Nat), q ≤ 16 ∧ i = .int .i64 q ∧ o = .slice va vn vc ∧ Hid (Own wr W3.heap.size (.slice va vn vc) ((fillL (tf l0)).take q)) ∧ Below W3.heap.size W3 wr) (fun _ i _ => 16 - (intOf i).toNat)
          case atStart => exact ⟨0, none, 0, 0, Nat.zero_le _, rfl, rfl, own_nil _ _, Below.refl _ _⟩
          case round =>
            obtain ⟨q, va, vn, vc, hq, rfl, rfl, hown, hbel⟩ := hrel
            by_cases hlt : q < 16
            · obtain ⟨bs, os, rfl, hbs, hcs⟩ := (HR3.out.below hbel).2 (by omega)
              obtain ⟨m, hm⟩ : ∃ m, m = (q + 4 * (q % 4) * 1) % 16 := ⟨_, rfl⟩
              have hm16 : m < 16 := by rw [hm]; exact Nat.mod_lt _ (by decide)
              have hm2 := (hm.trans (place2 q hlt)).symm
              have hx := hcs m hm16
              rw [ints_getD] at hx
              have hy := HBox.out wr (HB3.out.trans (hbel.mono HB3.out.size)) (l0.getD m 0).toNat (l0.getD m 0).toNat_lt
              have HTF : Hid (tf l0 q = boxL.getD (l0.getD m 0).toNat 0) := by show _ = _; rw [tf, ← hm]
              have g5 : ((l0.getD m 0).toNat : Int) < 256 := byte_lt _
              have z5 : (0 : Int) ≤ ((l0.getD m 0).toNat : Int) := byte_ge _
              have HN := Lib.hid (take_fill (tf l0) q hlt)
              have HTL := Lib.hid (take_len (tf l0) q hq)
              generalize boxL.getD (l0.getD m 0).toNat 0 = y at *
              generalize l0.getD m 0 = x at *
              have hiy : wrap64 (y.toNat : Int) = (y.toNat : Int) := IntWalk.wrap64_in _ (by clear hm hm2; have := y.toNat_lt; omega)
              rw [HTF.out] at HN
              have HB := Lib.hid hbel
              have hown1 := World.ownsRow.alloc hown.out (.cells #[.int .i64 y.toNat] 3)
              rw [HTL.out] at hown1
              have HO1 := Lib.hid hown1
              have Hnew := Lib.hid (news_one wr y.toNat)
              have HZ := Lib.hid hbel.size
              have HOne : Hid (∀ u ∈ ([.int .i64 y.toNat] : List Value), u.oneCell' = true) := by show ∀ _, _; simp [Value.oneCell']
              have HMax : Hid (q + 1 ≤ maxLen) := by show _ ≤ _; clear hm hm2; unfold maxLen; omega
              have HByt : Hid ((q + 1) * 8 ≤ 140737488355328) := by show _ ≤ _; clear hm hm2; omega
              have HBas : Hid (W3.heap.size ≤ (wr.alloc (.cells #[.int .i64 y.toNat] 3)).heap.size) := by show _ ≤ _; clear hm hm2; have := hbel.size; simp; omega
              have HLTQ : Hid (q < 16) := hlt
              rw [← hm2] at hx
              clear hbel hown1 hown hcs hm hm2 hm16 hbs hq HTF
              go_wp2_with (first
                | (at_builtin
                   refine wpList_append_own _ rfl _ _ _ rfl W3.heap.size 3 i0 (.int .i64 0) 1 8 Try.underlying39 hi0 hz0 hz1 hz2 rfl Nat.one_pos (.slice va vn vc) q _ rfl HO1.out ⟨wr.heap.size, 0, none⟩ 1 1 [.int .i64 y.toNat] rfl rfl Hnew.out HOne.out HMax.out HByt.out HBas.out ?_
                   intro v' w2 hown2 hg2 hnil2
                   obtain ⟨a', n', c', rfl⟩ := own_slice hown2
                   have HB2 := Lib.hid (HB.out.trans (below_own0 HZ.out HO1.out hg2))
                   have HO2 := Lib.hid hown2
                   clear hown2 hg2 hnil2))
              go_roundw
              case rel => exact ⟨q + 1, a', n', c', by have h := HLTQ.out; omega, by go_num, rfl, by show Own _ _ _ _; rw [HN.out]; exact own_next (by rw [HTL.out]; exact HO2.out), HB2.out⟩
              case measure => have h := HLTQ.out; simp [intOf]; omega
            · have hk : q = 16 := by omega
              subst hk
              rw [show ((16 : Nat) : Int) = 16 from rfl]
              have ho : Own wr W3.heap.size (.slice va vn vc) (fillL (tf l0)) := by
                have h := hown.out
                rw [List.take_of_length_le (by rw [fillL_length]; exact Nat.le_refl _)] at h
                exact h
              obtain ⟨hvn, hrow⟩ := own_row ho
              rw [fillL_length] at hvn
              subst hvn
              have hl2 : (fillL (tf l0)).length = 16 := fillL_length _
              have HB4 := Lib.hid (HB3.out.trans (hbel.mono HB3.out.size))
              clear ho hown hbel hq hlt HB3 HR3
              generalize fillL (tf l0) = l2 at *
              obtain ⟨W4, hW4⟩ : ∃ W, W = wr := ⟨_, rfl⟩
              rw [← hW4] at hrow HB4 ⊢
              have HR4 := Lib.hid hrow
              have HL2 := Lib.hid hl2
              clear hW4 hrow hl2
              go_wp2_with fail
              go_loopw [14, 15] (fun o i wr => ∃ (q : Nat) (ua : Option Addr) (un uc : Nat), q ≤ 4 ∧ i = .int .i64 q ∧ o = .slice ua un uc ∧ Hid (Own wr W4.heap.size (.slice ua un uc) ((List.range q).flatMap (colAt l2))) ∧ Below W4.heap.size W4 wr) (fun _ i _ => 4 - (intOf i).toNat)
              case atStart => exact ⟨0, none, 0, 0, Nat.zero_le _, rfl, rfl, own_nil _ _, Below.refl _ _⟩
              case round =>
                obtain ⟨q, ua, un, uc, hq, rfl, rfl, hown, hbel⟩ := hrel
                by_cases hlt : q < 4
                · obtain ⟨bt, ot, rfl, hbt, hct⟩ := (HR4.out.below hbel).2 (by omega)
                  obtain ⟨p, hp⟩ : ∃ x, x = 4 * q := ⟨_, rfl⟩
                  obtain ⟨p1, hp1⟩ : ∃ x, x = p + 1 := ⟨_, rfl⟩
                  obtain ⟨p2, hp2⟩ : ∃ x, x = p + 2 := ⟨_, rfl⟩
                  obtain ⟨p3, hp3⟩ : ∃ x, x = p + 3 := ⟨_, rfl⟩
                  have c0 := hct p (by omega)
                  have c1 := hct p1 (by omega)
                  have c2 := hct p2 (by omega)
                  have c3 := hct p3 (by omega)
                  rw [ints_getD] at c0 c1 c2 c3
                  have e0 : IntKind.i64.wrap (4 * (q : Int)) = (p : Int) := by rw [IntWalk.i64_in _ (by omega)]; omega
                  have e0' : 4 * (q : Int) = (p : Int) := by omega
                  have e1 : IntKind.i64.wrap ((p : Int) + 1) = (p1 : Int) := by rw [IntWalk.i64_in _ (by omega)]; omega
                  have e2 : IntKind.i64.wrap ((p : Int) + 2) = (p2 : Int) := by rw [IntWalk.i64_in _ (by omega)]; omega
                  have e3 : IntKind.i64.wrap ((p : Int) + 3) = (p3 : Int) := by rw [IntWalk.i64_in _ (by omega)]; omega
                  have i4 : IntKind.i64.wrap (p : Int) = (p : Int) := by rw [IntWalk.i64_in _ (by omega)]
                  have g0 : (p : Int) < 16 := by omega
                  have g1 : (p1 : Int) < 16 := by omega
                  have g2 : (p2 : Int) < 16 := by omega
                  have g3 : (p3 : Int) < 16 := by omega
                  have z0 : (0 : Int) ≤ (p : Int) := by omega
                  have z1 : (0 : Int) ≤ (p1 : Int) := by omega
                  have z2 : (0 : Int) ≤ (p2 : Int) := by omega
                  have z3 : (0 : Int) ≤ (p3 : Int) := by omega
                  have HCol : Hid (colAt l2 q = col (l2.getD p 0) (l2.getD p1 0) (l2.getD p2 0) (l2.getD p3 0)) := by show _ = _; rw [hp3, hp2, hp1, hp]; rfl
                  generalize l2.getD p 0 = a0 at *
                  generalize l2.getD p1 0 = b0 at *
                  generalize l2.getD p2 0 = d0 at *
                  generalize l2.getD p3 0 = f0 at *
                  have HB := Lib.hid hbel
                  have HO := Lib.hid hown.out
                  have HLTQ : Hid (q < 4) := hlt
                  clear hp hp1 hp2 hp3 hct hbt hbel hown hq
                  go_upto_region 22 with (fail)
                  clear hlt
                  go_quiet (fail)
                  go_upto_region 23 with (fail)
                  generalize hW5 : wr.drewN nq = W5
                  have HB5 : Hid (Below W4.heap.size W4 W5) := by show Below _ _ _; rw [← hW5]; exact HB.out.trans (below_drewN wr nq)
                  have HO5 : Hid (Own W5 W4.heap.size (.slice ua un uc) ((List.range q).flatMap (colAt l2))) := by show Own _ _ _ _; rw [← hW5]; exact HO.out
                  clear hW5 c0 c1 c2 c3 HB HO e0 e0' e1 e2 e3 i4 g0 g1 g2 g3 z0 z1 z2 z3
                  obtain ⟨a2, ha2⟩ : ∃ x, x = dbl a0 := ⟨_, rfl⟩
                  obtain ⟨av3, hav3⟩ : ∃ x, x = dbl a0 ^^^ a0 := ⟨_, rfl⟩
                  have M2a := Lib.hid (mul2 a0 a2 ha2)
                  have M3a := Lib.hid (mul3 a0 av3 hav3)
                  obtain ⟨b2, hb2⟩ : ∃ x, x = dbl b0 := ⟨_, rfl⟩
                  obtain ⟨b3, hb3⟩ : ∃ x, x = dbl b0 ^^^ b0 := ⟨_, rfl⟩
                  have M2b := Lib.hid (mul2 b0 b2 hb2)
                  have M3b := Lib.hid (mul3 b0 b3 hb3)
                  obtain ⟨d2, hd2⟩ : ∃ x, x = dbl d0 := ⟨_, rfl⟩
                  obtain ⟨d3, hd3⟩ : ∃ x, x = dbl d0 ^^^ d0 := ⟨_, rfl⟩
                  have M2d := Lib.hid (mul2 d0 d2 hd2)
                  have M3d := Lib.hid (mul3 d0 d3 hd3)
                  obtain ⟨f2, hf2⟩ : ∃ x, x = dbl f0 := ⟨_, rfl⟩
                  obtain ⟨f3, hf3⟩ : ∃ x, x = dbl f0 ^^^ f0 := ⟨_, rfl⟩
                  have M2f := Lib.hid (mul2 f0 f2 hf2)
                  have M3f := Lib.hid (mul3 f0 f3 hf3)
                  obtain ⟨r11, hr11⟩ : ∃ x, x = a2 ^^^ b3 := ⟨_, rfl⟩
                  have Xr11 := xi a2 b3
                  rw [← hr11] at Xr11
                  obtain ⟨r12, hr12⟩ : ∃ x, x = r11 ^^^ d0 := ⟨_, rfl⟩
                  have Xr12 := xi r11 d0
                  rw [← hr12] at Xr12
                  obtain ⟨r13, hr13⟩ : ∃ x, x = r12 ^^^ f0 := ⟨_, rfl⟩
                  have Xr13 := xi r12 f0
                  rw [← hr13] at Xr13
                  obtain ⟨r21, hr21⟩ : ∃ x, x = a0 ^^^ b2 := ⟨_, rfl⟩
                  have Xr21 := xi a0 b2
                  rw [← hr21] at Xr21
                  obtain ⟨r22, hr22⟩ : ∃ x, x = r21 ^^^ d3 := ⟨_, rfl⟩
                  have Xr22 := xi r21 d3
                  rw [← hr22] at Xr22
                  obtain ⟨r23, hr23⟩ : ∃ x, x = r22 ^^^ f0 := ⟨_, rfl⟩
                  have Xr23 := xi r22 f0
                  rw [← hr23] at Xr23
                  obtain ⟨r31, hr31⟩ : ∃ x, x = a0 ^^^ b0 := ⟨_, rfl⟩
                  have Xr31 := xi a0 b0
                  rw [← hr31] at Xr31
                  obtain ⟨r32, hr32⟩ : ∃ x, x = r31 ^^^ d2 := ⟨_, rfl⟩
                  have Xr32 := xi r31 d2
                  rw [← hr32] at Xr32
                  obtain ⟨r33, hr33⟩ : ∃ x, x = r32 ^^^ f3 := ⟨_, rfl⟩
                  have Xr33 := xi r32 f3
                  rw [← hr33] at Xr33
                  obtain ⟨r41, hr41⟩ : ∃ x, x = av3 ^^^ b0 := ⟨_, rfl⟩
                  have Xr41 := xi av3 b0
                  rw [← hr41] at Xr41
                  obtain ⟨r42, hr42⟩ : ∃ x, x = r41 ^^^ d0 := ⟨_, rfl⟩
                  have Xr42 := xi r41 d0
                  rw [← hr42] at Xr42
                  obtain ⟨r43, hr43⟩ : ∃ x, x = r42 ^^^ f2 := ⟨_, rfl⟩
                  have Xr43 := xi r42 f2
                  rw [← hr43] at Xr43
                  have HCR : Hid (colAt l2 q = [r13, r23, r33, r43]) := by show _ = _; rw [HCol.out, col_ref, hr13, hr23, hr33, hr43, hr12, hr22, hr32, hr42, hr11, hr21, hr31, hr41, ha2, hav3, hb2, hb3, hd2, hd3, hf2, hf3]
                  clear HCol hr11 hr12 hr13 hr21 hr22 hr23 hr31 hr32 hr33 hr41 hr42 hr43 ha2 hav3 hb2 hb3 hd2 hd3 hf2 hf3
                  have hfl : ((List.range q).flatMap (colAt l2)).length = 4 * q := flat_len l2 q
                  obtain ⟨nn, hnn⟩ : ∃ n, n = ((List.range q).flatMap (colAt l2)).length := ⟨_, rfl⟩
                  have HO1 : Hid ((W5.alloc (.cells #[.int .i64 r13.toNat, .int .i64 r23.toNat, .int .i64 r33.toNat, .int .i64 r43.toNat] 3)).ownsRow W4.heap.size 3 1 (.slice ua un uc) nn ((ints ((List.range q).flatMap (colAt l2))).map (Value.int .i64))) := by show World.ownsRow _ _ _ _ _ _ _; rw [hnn]; exact World.ownsRow.alloc HO5.out _
                  have Hnew := Lib.hid (news_four W5 (.int .i64 r13.toNat) (.int .i64 r23.toNat) (.int .i64 r33.toNat) (.int .i64 r43.toNat))
                  have HOne : Hid (∀ u ∈ ([.int .i64 r13.toNat, .int .i64 r23.toNat, .int .i64 r33.toNat, .int .i64 r43.toNat] : List Value), u.oneCell' = true) := by show ∀ _, _; simp [Value.oneCell']
                  have hq4' := HLTQ.out
                  have HMax : Hid (nn + 4 ≤ maxLen) := by show _ ≤ _; unfold maxLen; omega
                  have HByt : Hid ((nn + 4) * 8 ≤ 140737488355328) := by show _ ≤ _; omega
                  have HBas : Hid (W4.heap.size ≤ (W5.alloc (.cells #[.int .i64 r13.toNat, .int .i64 r23.toNat, .int .i64 r33.toNat, .int .i64 r43.toNat] 3)).heap.size) := by show _ ≤ _; have := HB5.out.size; simp; omega
                  have HZ := Lib.hid HB5.out.size
                  have HNN := Lib.hid hnn
                  clear hnn hfl hq4'
                  go_wp2_with (first
                    | (go_at_call 31; with_reducible refine (M2a.out _).mono ?_; rintro e w' ⟨rfl, rfl⟩)
                    | (go_at_call 31; with_reducible refine (M3b.out _).mono ?_; rintro e w' ⟨rfl, rfl⟩)
                    | (go_at_call 31; with_reducible refine (M2b.out _).mono ?_; rintro e w' ⟨rfl, rfl⟩)
                    | (go_at_call 31; with_reducible refine (M3d.out _).mono ?_; rintro e w' ⟨rfl, rfl⟩)
                    | (go_at_call 31; with_reducible refine (M2d.out _).mono ?_; rintro e w' ⟨rfl, rfl⟩)
                    | (go_at_call 31; with_reducible refine (M3f.out _).mono ?_; rintro e w' ⟨rfl, rfl⟩)
                    | (go_at_call 31; with_reducible refine (M3a.out _).mono ?_; rintro e w' ⟨rfl, rfl⟩)
                    | (go_at_call 31; with_reducible refine (M2f.out _).mono ?_; rintro e w' ⟨rfl, rfl⟩)
                    | (at_builtin
                       refine wpList_append_own _ rfl _ _ _ rfl W4.heap.size 3 i0 (.int .i64 0) 1 8 Try.underlying39 hi0 hz0 hz1 hz2 rfl Nat.one_pos (.slice ua un uc) nn _ rfl HO1.out ⟨W5.heap.size, 0, none⟩ 4 4 [.int .i64 r13.toNat, .int .i64 r23.toNat, .int .i64 r33.toNat, .int .i64 r43.toNat] rfl rfl Hnew.out HOne.out HMax.out HByt.out HBas.out ?_
                       intro v' w2 hown2 hg2 hnil2
                       obtain ⟨a', n', c', rfl⟩ := own_slice hown2
                       have HB6 := Lib.hid (HB5.out.trans (below_own0 HZ.out HO1.out hg2))
                       have HO6 := Lib.hid hown2
                       clear hown2 hg2 hnil2))
                  go_roundw
                  case rel => exact ⟨q + 1, a', n', c', by have h := HLTQ.out; omega, by go_num, rfl, by show Own _ _ _ _; rw [flat_next, HCR.out]; exact own_more (by rw [← HNN.out]; rfl) HO6.out, HB6.out⟩
                  case measure => have h := HLTQ.out; simp [intOf]; omega
                · have hk : q = 4 := by omega
                  subst hk
                  rw [show ((4 : Nat) : Int) = 4 from rfl]
                  have ho : Own wr W4.heap.size (.slice ua un uc) (mixL l2) := by
                    have h := hown.out
                    rw [flat_all l2 HL2.out] at h
                    exact h
                  obtain ⟨hun, hrowu⟩ := own_row ho
                  rw [mixL_length l2 HL2.out] at hun
                  subst hun
                  have hrowt := (HR4.out.below hbel).more hbel.size
                  have hbw := HB4.out.trans (hbel.mono HB4.out.size)
                  have e1 : ((j + 1 : Nat) : Int) = (j : Int) + 1 := by omega
                  have hj10 := HJ.out
                  have PT := Lib.hid (fun W (hW : W = wr) => HAdd.out va vc (j + 1) l2 W (by rw [hW]; exact hrowt) (by rw [hW]; exact hbw) (by omega))
                  have PU := Lib.hid (fun W (hW : W = wr) => HAdd.out ua uc (j + 1) (mixL l2) W (by rw [hW]; exact hrowu) (by rw [hW]; exact hbw) (by omega))
                  rw [e1] at PT PU
                  have HBW := Lib.hid hbw
                  clear ho hown hbel hq hlt hrowu hrowt hbw e1 HR4 HB4
                  by_cases h9 : j < 9
                  · have ht : ((j : Int) + 1 == 10) = false := by rw [beq_eq_false_iff_ne]; omega
                    rw [if_pos h9] at HNX
                    rw [← HNX.out] at PU
                    clear h9 PT hj10 HNX
                    have hl6 := forthTo_length ws boxL s (j + 1)
                    go_upto_region 11 with (go_at_call 30; refine (PU.out _ rfl).mono ?_; rintro e w6 ⟨a6, c6, rfl, hrow6, _, hb6⟩; have HR6 := Lib.hid hrow6; have HB6 := Lib.hid (HBW.out.trans (hb6.mono HBW.out.size)); clear hrow6 hb6)
                    rw [hl6] at HR6
                    clear hl6
                    go_wp2_with fail
                    go_roundw
                    case rel => exact ⟨j + 1, a6, c6, by have h := HJ.out; omega, by go_num, rfl, HR6.out, HB6.out⟩
                    case measure => have h := HJ.out; simp [intOf]; omega
                  · have ht : ((j : Int) + 1 == 10) = true := by rw [beq_iff_eq]; omega
                    rw [if_neg h9] at HNX
                    rw [← HNX.out] at PT
                    clear h9 PU hj10 HNX
                    have hl6 := forthTo_length ws boxL s (j + 1)
                    go_upto_region 11 with (go_at_call 30; refine (PT.out _ rfl).mono ?_; rintro e w6 ⟨a6, c6, rfl, hrow6, _, hb6⟩; have HR6 := Lib.hid hrow6; have HB6 := Lib.hid (HBW.out.trans (hb6.mono HBW.out.size)); clear hrow6 hb6)
                    rw [hl6] at HR6
                    clear hl6
                    go_wp2_with fail
                    go_roundw
                    case rel => exact ⟨j + 1, a6, c6, by have h := HJ.out; omega, by go_num, rfl, HR6.out, HB6.out⟩
                    case measure => have h := HJ.out; simp [intOf]; omega
        · have hk : j = 10 := by omega
          have HT := Lib.hid (ARBox.Text a 16 c (forthTo ws boxL s j) wr hrow.out (by omega))
          have HBW := Lib.hid hbel
          have HEQ : Hid (forthTo ws boxL s j = encL k s) := by show _ = _; rw [hk, HE.out]
          rw [HEQ.out] at HT
          clear hrow hbel hlt hj
          have hj10 : (j : Int) = 10 := by omega
          clear hk
          go_wp2_with (go_at_call 32; refine HT.out.mono ?_; rintro e w6 ⟨rfl, hb6⟩; have HB6 := Lib.hid (HBW.out.trans (hb6.mono HBW.out.size)); clear hb6)
          go_ret
          exact ⟨rfl, HBL.out.trans (HB6.out.mono HGB.out)⟩
end Go.Proofs.Ytjlepjnfacmieaa.AREnc
