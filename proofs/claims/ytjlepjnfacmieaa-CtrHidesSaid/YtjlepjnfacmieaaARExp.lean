/- What keepsakeref05.Expand answers, of a key of 16 bytes and all stand-ins: the walk of its text. -/
import Derived.Test.YtjlepjnfacmieaaARAdd
import Derived.StillTailTactics
import Derived.Deep.RegionLaw
namespace Go.Proofs.Ytjlepjnfacmieaa.ARExp
open Go.RowKit
open AesM ADbl ARef ARBox ARAdd
theorem below_own0 {w1 w2 : World} {o : Obj} {B n : Nat} {v : Value} {xs : List Value} (hB : B ≤ w1.heap.size) (h : (w1.alloc o).ownsRow B 3 1 v n xs) (hg : (w1.alloc o).grownBy w2 v.ownBlock) : Below B w1 w2 :=
  ((Below.refl B w1).alloc hB o).grown hg (by simp; omega) (fun k hk => (h.lt k hk).1)
theorem hold_no (k : List UInt8) (j : Nat) (h : k.length = 16) (hj : ¬ j % 4 = 0) (a b c d : UInt8) (ha : (expTo boxL k j).getD (12 + 4 * j) 0 = a) (hb : (expTo boxL k j).getD (12 + 4 * j + 1) 0 = b) (hc : (expTo boxL k j).getD (12 + 4 * j + 2) 0 = c) (hd : (expTo boxL k j).getD (12 + 4 * j + 3) 0 = d) :
    hold boxL (expTo boxL k j) (powTo j) = [a, b, c, d] := by
  have hl := expTo_length boxL k j h
  rw [hold, if_neg (by rw [hl]; omega), hl, show 16 + 4 * j - 4 = 12 + 4 * j from by omega, show 16 + 4 * j - 3 = 12 + 4 * j + 1 from by omega, show 16 + 4 * j - 2 = 12 + 4 * j + 2 from by omega, show 16 + 4 * j - 1 = 12 + 4 * j + 3 from by omega, ha, hb, hc, hd]
theorem hold_yes (k : List UInt8) (j : Nat) (h : k.length = 16) (hj : j % 4 = 0) (a b c d : UInt8) (ha : (expTo boxL k j).getD (12 + 4 * j) 0 = a) (hb : (expTo boxL k j).getD (12 + 4 * j + 1) 0 = b) (hc : (expTo boxL k j).getD (12 + 4 * j + 2) 0 = c) (hd : (expTo boxL k j).getD (12 + 4 * j + 3) 0 = d) :
    hold boxL (expTo boxL k j) (powTo j) = [boxL.getD b.toNat 0 ^^^ powTo j, boxL.getD c.toNat 0, boxL.getD d.toNat 0, boxL.getD a.toNat 0] := by
  have hl := expTo_length boxL k j h
  rw [hold, if_pos (by rw [hl]; omega), hl, show 16 + 4 * j - 4 = 12 + 4 * j from by omega, show 16 + 4 * j - 3 = 12 + 4 * j + 1 from by omega, show 16 + 4 * j - 2 = 12 + 4 * j + 2 from by omega, show 16 + 4 * j - 1 = 12 + 4 * j + 3 from by omega, ha, hb, hc, hd]
/-- The words, and the next one's first 'q' bytes. -/
def part (k : List UInt8) (j q : Nat) : List UInt8 := expTo boxL k j ++ (word boxL (expTo boxL k j) (powTo j)).take q
theorem part_zero (k : List UInt8) (j : Nat) : part k j 0 = expTo boxL k j := by simp [part]
theorem part_four (k : List UInt8) (j : Nat) : part k j 4 = expTo boxL k (j + 1) := by
  rw [part, List.take_of_length_le (by rw [word_length]; exact Nat.le_refl _), expTo]
theorem part_len (k : List UInt8) (j q : Nat) (h : k.length = 16) (hq : q ≤ 4) : (part k j q).length = 16 + 4 * j + q := by
  rw [part, List.length_append, expTo_length boxL k j h, List.length_take, word_length]; omega
theorem part_next (k : List UInt8) (j q : Nat) (h : k.length = 16) (hq : q < 4) :
    part k j q ++ [(expTo boxL k j).getD (4 * j + q) 0 ^^^ (hold boxL (expTo boxL k j) (powTo j)).getD q 0] = part k j (q + 1) := by
  have hl := expTo_length boxL k j h
  have hw := word_length boxL (expTo boxL k j) (powTo j)
  have e : (expTo boxL k j).getD (4 * j + q) 0 ^^^ (hold boxL (expTo boxL k j) (powTo j)).getD q 0 = (word boxL (expTo boxL k j) (powTo j)).getD q 0 := by
    simp [word, List.getD, hl, hq, show 16 + 4 * j - 16 = 4 * j from by omega]
  rw [e]
  clear e
  unfold part
  generalize word boxL (expTo boxL k j) (powTo j) = wd at *
  have e2 : wd.getD q 0 = wd[q]'(by omega) := by simp [List.getD, show q < wd.length from by omega]
  rw [List.append_assoc, e2, ← List.take_succ_eq_append_getElem (by omega)]
theorem part_at (k : List UInt8) (j q i : Nat) (h : k.length = 16) (hi : i < 16 + 4 * j) : (part k j q).getD i 0 = (expTo boxL k j).getD i 0 := by
  rw [part, List.getD, List.getElem?_append_left (by rw [expTo_length boxL k j h]; exact hi), List.getD]
/-- A block of four cells is not the own one of 16 or more. -/
theorem not_own {W : World} {B G : Nat} {v : Value} {l : List UInt8} {cs : Array Value} {t : TypeId} {f : Nat × Nat} (h : Own W B v l) (hl : 16 ≤ l.length) (hg : W.heap[G]? = some (.cells cs t f)) (hc : cs.size = 4) : some G ≠ v.ownBlock := by
  intro e
  rcases h.2 with ⟨hv, h0⟩ | ⟨g, cap, cur, hv, _, hcur, hn, _, hs, _⟩
  · omega
  · subst hv
    have e2 : G = g := by simpa [Value.ownBlock] using e
    subst e2
    rw [hg] at hcur
    injection hcur with hcur
    injection hcur with h1 h2 h3
    subst h1
    omega
theorem made_of {W w : World} {va : Option Addr} {vn vc : Nat} {r : List UInt8} (h : Own W w.heap.size (.slice va vn vc) r) (hb : Below w.heap.size w W) : Made r w (.returned (.slice va vn vc)) W := by
  obtain ⟨h1, h2⟩ := own_row h
  subst h1
  exact ⟨va, vc, rfl, h2, h, hb⟩
set_option maxRecDepth 100000 in
set_option linter.unusedSimpArgs false in
set_option maxHeartbeats 4000000 in
theorem Expand (k : List UInt8) (gb : Nat) (w : World) (hl : k.length = 16) (hb : w.heap[gb]? = some (.cells (iRow boxL) 3 (0, 0))) :
    Calls Try.prog 29 #[.string ⟨k.toArray⟩, .slice (some ⟨gb, 0, none⟩) 256 256] w (Made (expL boxL k) w) := by
  obtain ⟨i0, hi0, hz0, hz1, hz2⟩ := info_parts info3
  have HL := Lib.hid hl
  have HBx : Hid (∀ W, Below w.heap.size w W → ∀ i, i < 256 → W.cell? ⟨gb, i, none⟩ = some (.int .i64 (boxL.getD i 0).toNat)) := fun W h i hi =>
    (h.cell (p := ⟨gb, i, none⟩) (Array.getElem?_eq_some_iff.1 hb).1).trans (blk_cell hb (iRow_at boxL i (by rw [boxL_len]; exact hi)))
  clear hl hb
  go_enter Try.func29, Try.ntmps29
  go_wp2_with fail
  go_loopw [5, 6] (fun o i wr => ∃ (j : Nat) (va : Option Addr) (vn vc : Nat), j ≤ 16 ∧ i = .int .i64 j ∧ o = .slice va vn vc ∧ Hid (Own wr w.heap.size (.slice va vn vc) (k.take j)) ∧ Below w.heap.size w wr) (fun _ i _ => 16 - (intOf i).toNat)
  case atStart => exact ⟨0, none, 0, 0, Nat.zero_le _, rfl, rfl, own_nil _ _, Below.refl _ _⟩
  case round =>
    obtain ⟨j, va, vn, vc, hj, rfl, rfl, hown, hbel⟩ := hrel
    by_cases hlt : j < 16
    · have htk : k.take (j + 1) = k.take j ++ [k.getD j 0] := by
        rw [List.take_succ_eq_append_getElem (by rw [HL.out]; exact hlt)]
        simp [List.getD, show j < k.length from by rw [HL.out]; exact hlt]
      have HX : ∀ h, ((⟨k.toArray⟩ : ByteArray)[j]'h) = k.getD j 0 := fun h => by
        have hj2 : j < k.length := by rw [HL.out]; exact hlt
        simp only [List.getD, List.getElem?_eq_getElem hj2, Option.getD_some]
        rfl
      have hjk : (j : Int) < (k.length : Int) := by rw [HL.out]; omega
      have hzj : (0 : Int) ≤ (j : Int) := by omega
      have HTL : Hid ((k.take j).length = j) := by show _ = _; rw [List.length_take, HL.out]; omega
      generalize k.getD j 0 = x at *
      have hwx : wrap64 (x.toNat : Int) = (x.toNat : Int) := IntWalk.wrap64_in _ (by have := x.toNat_lt; omega)
      have HN := Lib.hid htk
      have HB := Lib.hid hbel
      have hown1 := World.ownsRow.alloc hown.out (.cells #[.int .i64 x.toNat] 3)
      rw [HTL.out] at hown1
      have HO1 := Lib.hid hown1
      have Hnew := Lib.hid (news_one wr x.toNat)
      have HZ := Lib.hid hbel.size
      have HOne : Hid (∀ u ∈ ([.int .i64 x.toNat] : List Value), u.oneCell' = true) := by show ∀ _, _; simp [Value.oneCell']
      have HMax : Hid (j + 1 ≤ maxLen) := by show _ ≤ _; unfold maxLen; omega
      have HByt : Hid ((j + 1) * 8 ≤ 140737488355328) := by show _ ≤ _; omega
      have HBas : Hid (w.heap.size ≤ (wr.alloc (.cells #[.int .i64 x.toNat] 3)).heap.size) := by show _ ≤ _; have := hbel.size; simp; omega
      clear htk hbel hown1 hown
      go_wp2_with (first
        | (at_builtin
           refine wpList_append_own _ rfl _ _ _ rfl w.heap.size 3 i0 (.int .i64 0) 1 8 Try.underlying39 hi0 hz0 hz1 hz2 rfl Nat.one_pos (.slice va vn vc) j _ rfl HO1.out ⟨wr.heap.size, 0, none⟩ 1 1 [.int .i64 x.toNat] rfl rfl Hnew.out HOne.out HMax.out HByt.out HBas.out ?_
           intro v' w2 hown2 hg2 hnil2
           obtain ⟨a', n', c', rfl⟩ := own_slice hown2
           have HB2 := Lib.hid (HB.out.trans (below_own0 HZ.out HO1.out hg2))
           have HO2 := Lib.hid hown2
           clear hown2 hg2 hnil2))
      go_roundw
      case rel => exact ⟨j + 1, a', n', c', by omega, by go_num, rfl, by show Own _ _ _ _; rw [HN.out]; exact own_next (by rw [HTL.out]; exact HO2.out), HB2.out⟩
      case measure => simp [intOf]; omega
    · have hk : j = 16 := by omega
      subst hk
      rw [show ((16 : Nat) : Int) = 16 from rfl]
      have ho : Own wr w.heap.size (.slice va vn vc) (expTo boxL k 0) := by
        have h := hown.out
        rw [List.take_of_length_le (by rw [HL.out]; exact Nat.le_refl _)] at h
        exact h
      have HO := Lib.hid ho
      have HB := Lib.hid hbel
      clear ho hown hbel
      go_wp2_with fail
      go_loopw [5, 7, 8] (fun o x i wr => ∃ (j m : Nat) (va : Option Addr) (vn vc : Nat), j ≤ 40 ∧ Hid (m = 4 + j) ∧ i = .int .i64 m ∧ x = .int .i64 (powTo j).toNat ∧ o = .slice va vn vc ∧ Hid (Own wr w.heap.size (.slice va vn vc) (expTo boxL k j)) ∧ Below w.heap.size w wr) (fun _ _ i _ => 44 - (intOf i).toNat)
      case atStart => exact ⟨0, 4, va, vn, vc, Nat.zero_le _, rfl, rfl, rfl, rfl, HO.out, HB.out⟩
      case round =>
        clear HO HB
        obtain ⟨j, m, va, vn, vc, hj, hm, rfl, rfl, rfl, hown, hbel⟩ := hrel
        have hell := expTo_length boxL k j HL.out
        obtain ⟨hvn, hrow⟩ := own_row hown.out
        by_cases hlt : j < 40
        · obtain ⟨b0, o0, rfl, hb0, hc0⟩ := hrow.2 (by omega)
          obtain ⟨p, hp⟩ : ∃ p, p = 12 + 4 * j := ⟨_, rfl⟩
          obtain ⟨p1, hp1⟩ : ∃ x, x = p + 1 := ⟨_, rfl⟩
          obtain ⟨p2, hp2⟩ : ∃ x, x = p + 2 := ⟨_, rfl⟩
          obtain ⟨p3, hp3⟩ : ∃ x, x = p + 3 := ⟨_, rfl⟩
          have hm4 := hm.out
          have d0 := hc0 p (by omega)
          have d1 := hc0 p1 (by omega)
          have d2 := hc0 p2 (by omega)
          have d3 := hc0 p3 (by omega)
          rw [ints_getD] at d0 d1 d2 d3
          have e0 : IntKind.i64.wrap (4 * (m : Int)) = 4 * (m : Int) := by rw [IntWalk.i64_in _ (by omega)]
          have e1 : IntKind.i64.wrap (4 * (m : Int) - 4) = (p : Int) := by rw [IntWalk.i64_in _ (by omega)]; omega
          have e2 : IntKind.i64.wrap (4 * (m : Int) - 3) = (p1 : Int) := by rw [IntWalk.i64_in _ (by omega)]; omega
          have e3 : IntKind.i64.wrap (4 * (m : Int) - 2) = (p2 : Int) := by rw [IntWalk.i64_in _ (by omega)]; omega
          have e4 : IntKind.i64.wrap (4 * (m : Int) - 1) = (p3 : Int) := by rw [IntWalk.i64_in _ (by omega)]; omega
          have g0 : (p : Int) < (vn : Int) := by omega
          have g1 : (p1 : Int) < (vn : Int) := by omega
          have g2 : (p2 : Int) < (vn : Int) := by omega
          have g3 : (p3 : Int) < (vn : Int) := by omega
          have z0 : (0 : Int) ≤ (p : Int) := by omega
          have z1 : (0 : Int) ≤ (p1 : Int) := by omega
          have z2 : (0 : Int) ≤ (p2 : Int) := by omega
          have z3 : (0 : Int) ≤ (p3 : Int) := by omega
          have gm : (m : Int) < 44 := by omega
          have HABCD : Hid (∀ a b c d, (expTo boxL k j).getD p 0 = a → (expTo boxL k j).getD p1 0 = b → (expTo boxL k j).getD p2 0 = c → (expTo boxL k j).getD p3 0 = d → (expTo boxL k j).getD (12 + 4 * j) 0 = a ∧ (expTo boxL k j).getD (12 + 4 * j + 1) 0 = b ∧ (expTo boxL k j).getD (12 + 4 * j + 2) 0 = c ∧ (expTo boxL k j).getD (12 + 4 * j + 3) 0 = d) := fun a b c d h1 h2 h3 h4 => by
            rw [← hp, ← hp1, ← hp2, ← hp3]; exact ⟨h1, h2, h3, h4⟩
          generalize ha : (expTo boxL k j).getD p 0 = a at *
          generalize hb' : (expTo boxL k j).getD p1 0 = b at *
          generalize hc : (expTo boxL k j).getD p2 0 = c at *
          generalize hd : (expTo boxL k j).getD p3 0 = d at *
          have HAB := Lib.hid (HABCD.out a b c d rfl rfl rfl rfl)
          have HQ : Hid (m = 4 + j ∧ j < 40) := ⟨hm4, hlt⟩
          have HVN := Lib.hid hvn
          have HELL := Lib.hid hell
          have HB := Lib.hid hbel
          have hnG : some wr.heap.size ≠ some b0 := fun e => by injection e; omega
          have HNG := Lib.hid hnG
          clear ha hb' hc hd HABCD hp hp1 hp2 hp3 hm4 hm hc0 hrow hvn hell hbel hlt hj hnG
          go_upto_region 10 with (fail)
          refine wp_region_still_tail 24 (by kernel_rfl) (by kernel_rfl) ?_
          simp only [List.take_succ_cons, List.take_zero, List.drop_succ_cons, List.drop_zero]
          change wpStill _ _ wr.drew _ _ _
          iterate 24 still_step
          refine wpStill_nil ?_
          change wpList _ _ _ _ _ wr.drew
          go_upto_region 11 with (fail)
          generalize hW : World.drew _ = W2
          have HG : Hid (W2.heap[wr.heap.size]? = some (.cells (iRow [a, b, c, d]) 3 (0, 0))) := by show _ = _; rw [← hW]; exact heap_alloc_new wr _
          have HO : Hid (Own W2 w.heap.size (.slice (some ⟨b0, o0, none⟩) vn vc) (expTo boxL k j)) := by show Own _ _ _ _; rw [← hW]; exact World.ownsRow.alloc hown.out _
          have HBL : Hid (Below w.heap.size w W2) := by show Below _ _ _; rw [← hW]; exact (HB.out.alloc HB.out.size _).trans (below_drewN _ 1)
          clear hW hown d0 d1 d2 d3 e0 e1 e2 e3 e4 g0 g1 g2 g3 z0 z1 z2 z3 HNG
          generalize wr.heap.size = G at *
          obtain ⟨ea, eb, ec, ed⟩ := HAB.out
          by_cases hj4 : j % 4 = 0
          · have HH := Lib.hid (hold_yes k j HL.out hj4 a b c d ea eb ec ed)
            have ht4 : ((m : Int) % 4 == 0) = true := by have h := HQ.out; rw [beq_iff_eq]; omega
            have HPW : Hid (powTo (j + 1) = dbl (powTo j)) := by show _ = _; rw [powTo, if_pos hj4]
            have HM := Lib.hid (fun W => (show Calls Try.prog 31 #[.int .i64 (powTo j).toNat, .int .i64 2] W _ from MulB (powTo j) 2 W))
            rw [mul_of_2, ← HPW.out] at HM
            clear ea eb ec ed hj4 HPW HAB
            have HX := Lib.hid (xi (boxL.getD b.toNat 0) (powTo j))
            have ha8 := a.toNat_lt
            have hb8 := b.toNat_lt
            have hc8 := c.toNat_lt
            have hd8 := d.toNat_lt
            have t0 := HBx.out W2 HBL.out a.toNat ha8
            have t1 := HBx.out W2 HBL.out b.toNat hb8
            have t2 := HBx.out W2 HBL.out c.toNat hc8
            have t3 := HBx.out W2 HBL.out d.toNat hd8
            have i0' : (a.toNat : Int) < 256 := by omega
            have i1 : (b.toNat : Int) < 256 := by omega
            have i2 : (c.toNat : Int) < 256 := by omega
            have i3 : (d.toNat : Int) < 256 := by omega
            have j0 : (0 : Int) ≤ (a.toNat : Int) := by omega
            have j1 : (0 : Int) ≤ (b.toNat : Int) := by omega
            have j2 : (0 : Int) ≤ (c.toNat : Int) := by omega
            have j3 : (0 : Int) ≤ (d.toNat : Int) := by omega
            have c0 : W2.cell? ⟨G, 0, none⟩ = some (.int .i64 a.toNat) := blk_cell HG.out rfl
            have c1 : W2.cell? ⟨G, 1, none⟩ = some (.int .i64 b.toNat) := blk_cell HG.out rfl
            have c2 : W2.cell? ⟨G, 2, none⟩ = some (.int .i64 c.toNat) := blk_cell HG.out rfl
            have c3 : W2.cell? ⟨G, 3, none⟩ = some (.int .i64 d.toNat) := blk_cell HG.out rfl
            clear ha8 hb8 hc8 hd8
            generalize boxL.getD a.toNat 0 = y0 at *
            generalize boxL.getD b.toNat 0 = y1 at *
            generalize boxL.getD c.toNat 0 = y2 at *
            generalize boxL.getD d.toNat 0 = y3 at *
            obtain ⟨pw, hpw⟩ : ∃ x, x = powTo j := ⟨_, rfl⟩
            rw [← hpw] at HM HX ⊢
            have HPJ := Lib.hid hpw
            clear hpw
            go_upto_region 12 with (fail)
            refine wp_region_still_tail 26 (by kernel_rfl) (by kernel_rfl) ?_
            simp only [List.take_succ_cons, List.take_zero, List.drop_succ_cons, List.drop_zero]
            change wpStill _ _ W2.drew _ _ _
            iterate 26 still_step
            refine wpStill_nil ?_
            change wpList _ _ _ _ _ W2.drew
            go_upto_region 13 with (fail)
            generalize hW : World.drew _ = W3
            replace HG : Hid (W3.heap[W2.heap.size]? = some (.cells (iRow [y1 ^^^ pw, y2, y3, y0]) 3 (0, 0))) := by
              show _ = _
              rw [← hW]
              refine (heap_alloc_new W2 _).trans ?_
              rw [HX.out]
              rfl
            rw [HPJ.out] at HG
            replace HO : Hid (Own W3 w.heap.size (.slice (some ⟨b0, o0, none⟩) vn vc) (expTo boxL k j)) := by show Own _ _ _ _; rw [← hW]; exact World.ownsRow.alloc HO.out _
            replace HBL : Hid (Below w.heap.size w W3) := by show Below _ _ _; rw [← hW]; exact (HBL.out.alloc HBL.out.size _).trans (below_drewN _ 1)
            clear hW t0 t1 t2 t3 c0 c1 c2 c3 i0' i1 i2 i3 j0 j1 j2 j3 HX ht4
            generalize W2.heap.size = G at *
            go_upto_region 14 with (go_at_call 31; refine (HM.out _).mono ?_; rintro e w' ⟨rfl, rfl⟩)
            clear HM
            obtain ⟨hl4, hh4⟩ : ∃ l, l = hold boxL (expTo boxL k j) (powTo j) := ⟨_, rfl⟩
            rw [← HH.out, ← hh4] at HG
            have h4 : hl4.length = 4 := by rw [hh4, HH.out]; rfl
            have HH4 := Lib.hid hh4
            clear hh4 HH
            rw [← part_zero k j] at HO
            go_wp2_with fail
            go_loopw [5, 10] (fun o i wr => ∃ (q : Nat) (va : Option Addr) (vn vc : Nat), q ≤ 4 ∧ i = .int .i64 q ∧ o = .slice va vn vc ∧ Hid (Own wr w.heap.size (.slice va vn vc) (part k j q)) ∧ Hid (wr.heap[G]? = some (.cells (iRow hl4) 3 (0, 0))) ∧ Below w.heap.size w wr) (fun _ i _ => 4 - (intOf i).toNat)
            case atStart => exact ⟨0, _, _, _, Nat.zero_le _, rfl, rfl, HO.out, HG.out, HBL.out⟩
            case round =>
              clear HO HG HBL
              obtain ⟨q, va, vn, vc, hq, rfl, rfl, hown, hg, hbel⟩ := hrel
              have hpl := part_len k j q HL.out hq
              by_cases hq4 : q < 4
              · obtain ⟨hvn, hrow⟩ := own_row hown.out
                obtain ⟨bo, oo, rfl, hbo, hco⟩ := hrow.2 (by omega)
                have hm16 := HQ.out.1
                have hj40 := HQ.out.2
                obtain ⟨ms, hms⟩ : ∃ x, x = 4 * j + q := ⟨_, rfl⟩
                have f0 : IntKind.i64.wrap (4 * (m : Int)) = 4 * (m : Int) := by rw [IntWalk.i64_in _ (by omega)]
                have f1 : IntKind.i64.wrap (4 * (m : Int) - 16) = 4 * (m : Int) - 16 := by rw [IntWalk.i64_in _ (by omega)]
                have f2 : IntKind.i64.wrap (4 * (m : Int) - 16 + (q : Int)) = (ms : Int) := by rw [IntWalk.i64_in _ (by omega)]; omega
                have g1 : (ms : Int) < (vn : Int) := by omega
                have g2 : (q : Int) < 4 := by omega
                have z1 : (0 : Int) ≤ (ms : Int) := by omega
                have z2 : (0 : Int) ≤ (q : Int) := by omega
                have gm : (m : Int) < 44 := by omega
                have c1 := hco ms (by omega)
                have c2 := blk_cell hg.out (iRow_at hl4 q (by omega))
                rw [ints_getD, part_at k j q ms HL.out (by omega)] at c1
                have HNX := Lib.hid (part_next k j q HL.out hq4)
                rw [← HH4.out, ← hms] at HNX
                have HX := Lib.hid (xi ((expTo boxL k j).getD ms 0) (hl4.getD q 0))
                generalize (expTo boxL k j).getD ms 0 = y at *
                generalize hl4.getD q 0 = z at *
                have hglt : G < wr.heap.size := (Array.getElem?_eq_some_iff.1 hg.out).1
                have hnow : some G ≠ (Value.slice (some ⟨bo, oo, none⟩) vn vc).ownBlock := not_own hown.out (by omega) hg.out (by simp [iRow, ints_length, h4])
                obtain ⟨nn, hnn⟩ : ∃ n, n = (part k j q).length := ⟨_, rfl⟩
                have hown1 : ((wr.alloc (.cells #[.int .i64 (bits .xor .i64 (y.toNat : Int) (z.toNat : Int))] 3)).drew.ownsRow w.heap.size 3 1 (.slice (some ⟨bo, oo, none⟩) vn vc) nn ((ints (part k j q)).map (Value.int .i64))) := by
                  rw [hnn]
                  exact World.ownsRow.alloc hown.out (.cells #[.int .i64 (bits .xor .i64 (y.toNat : Int) (z.toNat : Int))] 3)
                have HO1 := Lib.hid hown1
                have Hnew : Hid (∀ k u, ([.int .i64 (bits .xor .i64 (y.toNat : Int) (z.toNat : Int))] : List Value)[k]? = some u → (wr.alloc (.cells #[.int .i64 (bits .xor .i64 (y.toNat : Int) (z.toNat : Int))] 3)).drew.cell? ((⟨wr.heap.size, 0, none⟩ : Addr).add k) = some u) := news_one wr _
                have HBas : Hid (w.heap.size ≤ (wr.alloc (.cells #[.int .i64 (bits .xor .i64 (y.toNat : Int) (z.toNat : Int))] 3)).drew.heap.size) := by show _ ≤ (wr.alloc _).heap.size; have := hbel.size; simp; omega
                have HOne : Hid (∀ u ∈ ([.int .i64 (bits .xor .i64 (y.toNat : Int) (z.toNat : Int))] : List Value), u.oneCell' = true) := by show ∀ _, _; simp [Value.oneCell']
                have HMax : Hid (nn + 1 ≤ maxLen) := by show _ ≤ _; unfold maxLen; omega
                have HByt : Hid ((nn + 1) * 8 ≤ 140737488355328) := by show _ ≤ _; omega
                have HGA : Hid ((wr.alloc (.cells #[.int .i64 (bits .xor .i64 (y.toNat : Int) (z.toNat : Int))] 3)).drew.heap[G]? = some (.cells (iRow hl4) 3 (0, 0))) := (heap_alloc_old wr _ hglt).trans hg.out
                have HGL : Hid (G < (wr.alloc (.cells #[.int .i64 (bits .xor .i64 (y.toNat : Int) (z.toNat : Int))] 3)).drew.heap.size) := by show _ < (wr.alloc _).heap.size; simp; omega
                have HNO := Lib.hid hnow
                have HNN := Lib.hid hnn
                have HB := Lib.hid hbel
                have HZ0 := Lib.hid hbel.size
                have HQ4 := Lib.hid hq4
                clear hown hown1 hnow hnn hbel hq hq4 hms hm16 hj40 hrow hco hbo hvn hpl hg hglt h4
                go_upto_region 17 with (fail)
                go_region_law (first
                  | (rw [if_pos (by rfl)]
                     refine wp_append_own _ _ _ _ rfl w.heap.size 3 i0 (.int .i64 0) 1 8 Try.underlying39 hi0 hz0 hz1 hz2 ?_ ?_ (.slice (some ⟨bo, oo, none⟩) vn vc) nn _ ?_ HO1.out ⟨wr.heap.size, 0, none⟩ 1 1 [.int .i64 (bits .xor .i64 (y.toNat : Int) (z.toNat : Int))] ?_ ?_ Hnew.out HOne.out HMax.out HByt.out HBas.out ?_
                     · rfl
                     · exact Nat.one_pos
                     · rfl
                     · rfl
                     · rfl
                     intro v' w2 hown2 hg2 hnil2
                     obtain ⟨a', n', c', rfl⟩ := own_slice hown2
                     have HB2 := Lib.hid (HB.out.trans (below_own HZ0.out HO1.out hg2))
                     have HO2 := Lib.hid hown2
                     have HG2 := Lib.hid ((hg2.block G HGL.out HNO.out).trans HGA.out)
                     clear hown2 hg2 hnil2))
                all_goals
                  (go_simp
                   go_wp2_with fail
                   go_roundw
                   case rel =>
                     refine ⟨q + 1, a', n', c', by have h := HQ4.out; omega, by go_num, rfl, ?_, HG2.out, HB2.out⟩
                     show Own _ _ _ _
                     rw [← HNX.out]
                     refine own_next ?_
                     rw [← HNN.out, ← HX.out]
                     exact HO2.out
                   case measure => have h := HQ4.out; simp [intOf]; omega)
              · have hk4 : q = 4 := by omega
                subst hk4
                have HO : Hid (Own wr w.heap.size (.slice va vn vc) (expTo boxL k (j + 1))) := by
                  have h := hown.out
                  rw [part_four] at h
                  exact h
                have HB := Lib.hid hbel
                clear hown hg hbel hq hq4 hpl h4
                go_wp2_with fail
                go_roundw
                case rel => exact ⟨j + 1, m + 1, va, vn, vc, by have h := HQ.out; omega, by have h := HQ.out; show _ = _; omega, by go_num, rfl, rfl, HO.out, HB.out⟩
                case measure => have h := HQ.out; simp [intOf]; omega
          · have HH := Lib.hid (hold_no k j HL.out hj4 a b c d ea eb ec ed)
            have ht4 : ((m : Int) % 4 == 0) = false := by have h := HQ.out; rw [beq_eq_false_iff_ne]; omega
            have HPW : Hid (powTo (j + 1) = powTo j) := by show _ = _; rw [powTo, if_neg hj4]
            rw [← HPW.out]
            clear ea eb ec ed hj4 HAB
            go_upto_region 14 with (fail)
            clear ht4 HPW
            obtain ⟨hl4, hh4⟩ : ∃ l, l = hold boxL (expTo boxL k j) (powTo j) := ⟨_, rfl⟩
            rw [← HH.out, ← hh4] at HG
            have h4 : hl4.length = 4 := by rw [hh4, HH.out]; rfl
            have HH4 := Lib.hid hh4
            clear hh4 HH
            rw [← part_zero k j] at HO
            go_wp2_with fail
            go_loopw [5, 10] (fun o i wr => ∃ (q : Nat) (va : Option Addr) (vn vc : Nat), q ≤ 4 ∧ i = .int .i64 q ∧ o = .slice va vn vc ∧ Hid (Own wr w.heap.size (.slice va vn vc) (part k j q)) ∧ Hid (wr.heap[G]? = some (.cells (iRow hl4) 3 (0, 0))) ∧ Below w.heap.size w wr) (fun _ i _ => 4 - (intOf i).toNat)
            case atStart => exact ⟨0, _, _, _, Nat.zero_le _, rfl, rfl, HO.out, HG.out, HBL.out⟩
            case round =>
              clear HO HG HBL
              obtain ⟨q, va, vn, vc, hq, rfl, rfl, hown, hg, hbel⟩ := hrel
              have hpl := part_len k j q HL.out hq
              by_cases hq4 : q < 4
              · obtain ⟨hvn, hrow⟩ := own_row hown.out
                obtain ⟨bo, oo, rfl, hbo, hco⟩ := hrow.2 (by omega)
                have hm16 := HQ.out.1
                have hj40 := HQ.out.2
                obtain ⟨ms, hms⟩ : ∃ x, x = 4 * j + q := ⟨_, rfl⟩
                have f0 : IntKind.i64.wrap (4 * (m : Int)) = 4 * (m : Int) := by rw [IntWalk.i64_in _ (by omega)]
                have f1 : IntKind.i64.wrap (4 * (m : Int) - 16) = 4 * (m : Int) - 16 := by rw [IntWalk.i64_in _ (by omega)]
                have f2 : IntKind.i64.wrap (4 * (m : Int) - 16 + (q : Int)) = (ms : Int) := by rw [IntWalk.i64_in _ (by omega)]; omega
                have g1 : (ms : Int) < (vn : Int) := by omega
                have g2 : (q : Int) < 4 := by omega
                have z1 : (0 : Int) ≤ (ms : Int) := by omega
                have z2 : (0 : Int) ≤ (q : Int) := by omega
                have gm : (m : Int) < 44 := by omega
                have c1 := hco ms (by omega)
                have c2 := blk_cell hg.out (iRow_at hl4 q (by omega))
                rw [ints_getD, part_at k j q ms HL.out (by omega)] at c1
                have HNX := Lib.hid (part_next k j q HL.out hq4)
                rw [← HH4.out, ← hms] at HNX
                have HX := Lib.hid (xi ((expTo boxL k j).getD ms 0) (hl4.getD q 0))
                generalize (expTo boxL k j).getD ms 0 = y at *
                generalize hl4.getD q 0 = z at *
                have hglt : G < wr.heap.size := (Array.getElem?_eq_some_iff.1 hg.out).1
                have hnow : some G ≠ (Value.slice (some ⟨bo, oo, none⟩) vn vc).ownBlock := not_own hown.out (by omega) hg.out (by simp [iRow, ints_length, h4])
                obtain ⟨nn, hnn⟩ : ∃ n, n = (part k j q).length := ⟨_, rfl⟩
                have hown1 : ((wr.alloc (.cells #[.int .i64 (bits .xor .i64 (y.toNat : Int) (z.toNat : Int))] 3)).drew.ownsRow w.heap.size 3 1 (.slice (some ⟨bo, oo, none⟩) vn vc) nn ((ints (part k j q)).map (Value.int .i64))) := by
                  rw [hnn]
                  exact World.ownsRow.alloc hown.out (.cells #[.int .i64 (bits .xor .i64 (y.toNat : Int) (z.toNat : Int))] 3)
                have HO1 := Lib.hid hown1
                have Hnew : Hid (∀ k u, ([.int .i64 (bits .xor .i64 (y.toNat : Int) (z.toNat : Int))] : List Value)[k]? = some u → (wr.alloc (.cells #[.int .i64 (bits .xor .i64 (y.toNat : Int) (z.toNat : Int))] 3)).drew.cell? ((⟨wr.heap.size, 0, none⟩ : Addr).add k) = some u) := news_one wr _
                have HBas : Hid (w.heap.size ≤ (wr.alloc (.cells #[.int .i64 (bits .xor .i64 (y.toNat : Int) (z.toNat : Int))] 3)).drew.heap.size) := by show _ ≤ (wr.alloc _).heap.size; have := hbel.size; simp; omega
                have HOne : Hid (∀ u ∈ ([.int .i64 (bits .xor .i64 (y.toNat : Int) (z.toNat : Int))] : List Value), u.oneCell' = true) := by show ∀ _, _; simp [Value.oneCell']
                have HMax : Hid (nn + 1 ≤ maxLen) := by show _ ≤ _; unfold maxLen; omega
                have HByt : Hid ((nn + 1) * 8 ≤ 140737488355328) := by show _ ≤ _; omega
                have HGA : Hid ((wr.alloc (.cells #[.int .i64 (bits .xor .i64 (y.toNat : Int) (z.toNat : Int))] 3)).drew.heap[G]? = some (.cells (iRow hl4) 3 (0, 0))) := (heap_alloc_old wr _ hglt).trans hg.out
                have HGL : Hid (G < (wr.alloc (.cells #[.int .i64 (bits .xor .i64 (y.toNat : Int) (z.toNat : Int))] 3)).drew.heap.size) := by show _ < (wr.alloc _).heap.size; simp; omega
                have HNO := Lib.hid hnow
                have HNN := Lib.hid hnn
                have HB := Lib.hid hbel
                have HZ0 := Lib.hid hbel.size
                have HQ4 := Lib.hid hq4
                clear hown hown1 hnow hnn hbel hq hq4 hms hm16 hj40 hrow hco hbo hvn hpl hg hglt h4
                go_upto_region 17 with (fail)
                go_region_law (first
                  | (rw [if_pos (by rfl)]
                     refine wp_append_own _ _ _ _ rfl w.heap.size 3 i0 (.int .i64 0) 1 8 Try.underlying39 hi0 hz0 hz1 hz2 ?_ ?_ (.slice (some ⟨bo, oo, none⟩) vn vc) nn _ ?_ HO1.out ⟨wr.heap.size, 0, none⟩ 1 1 [.int .i64 (bits .xor .i64 (y.toNat : Int) (z.toNat : Int))] ?_ ?_ Hnew.out HOne.out HMax.out HByt.out HBas.out ?_
                     · rfl
                     · exact Nat.one_pos
                     · rfl
                     · rfl
                     · rfl
                     intro v' w2 hown2 hg2 hnil2
                     obtain ⟨a', n', c', rfl⟩ := own_slice hown2
                     have HB2 := Lib.hid (HB.out.trans (below_own HZ0.out HO1.out hg2))
                     have HO2 := Lib.hid hown2
                     have HG2 := Lib.hid ((hg2.block G HGL.out HNO.out).trans HGA.out)
                     clear hown2 hg2 hnil2))
                all_goals
                  (go_simp
                   go_wp2_with fail
                   go_roundw
                   case rel =>
                     refine ⟨q + 1, a', n', c', by have h := HQ4.out; omega, by go_num, rfl, ?_, HG2.out, HB2.out⟩
                     show Own _ _ _ _
                     rw [← HNX.out]
                     refine own_next ?_
                     rw [← HNN.out, ← HX.out]
                     exact HO2.out
                   case measure => have h := HQ4.out; simp [intOf]; omega)
              · have hk4 : q = 4 := by omega
                subst hk4
                have HO : Hid (Own wr w.heap.size (.slice va vn vc) (expTo boxL k (j + 1))) := by
                  have h := hown.out
                  rw [part_four] at h
                  exact h
                have HB := Lib.hid hbel
                clear hown hg hbel hq hq4 hpl h4
                go_wp2_with fail
                go_roundw
                case rel => exact ⟨j + 1, m + 1, va, vn, vc, by have h := HQ.out; omega, by have h := HQ.out; show _ = _; omega, by go_num, rfl, rfl, HO.out, HB.out⟩
                case measure => have h := HQ.out; simp [intOf]; omega
        · have hk : j = 40 := by omega
          have hm44 : m = 44 := by have h := hm.out; omega
          have ho : Own wr w.heap.size (.slice va vn vc) (expL boxL k) := by
            have h := hown.out
            rw [hk] at h
            unfold expL
            exact h
          have HE := Lib.hid (made_of ho hbel)
          clear hown ho hbel hm hell hvn hrow hk hj hlt
          generalize powTo j = pw at *
          subst hm44
          go_wp2_with fail
          go_ret
          exact HE.out
end Go.Proofs.Ytjlepjnfacmieaa.ARExp
