/- What the document's answer for layer 2 finds behind a root's point: the walks of keepsakeref02.above, behind, Round, Roots and Right. -/
import Derived.Test.YtkaeeedjkegdlaaDoorRTim
import Derived.Deep.QuietTactic
import Derived.BigQuiet
import Derived.Deep.RegionHeld3
namespace Go.Proofs.YtkaeeedjkegdlaaDoor.RBeh
open Go.RowKit
open RootN RPri RTim
theorem own_len {w : World} {base : Nat} {e : TypeId} {size : Nat} {a : Option Addr} {l c n : Nat} {xs : List Value} (h : w.ownsRow base e size (.slice a l c) n xs) : l = n := by
  rcases h.2 with ⟨hv, h0⟩ | ⟨g, cap, cur, hv, _⟩
  · injection hv with _ h1; omega
  · injection hv
theorem times_row (aw : Option Addr) (n cw : Nat) (l : List Nat) (k : Nat) (w : World) (hw : Row w w.heap.size aw n (zs l)) (hd : ∀ d ∈ l, d < 65536) (hn : n ≤ 1000) (hk : k ≤ 137438953472) :
    Calls Tryd.prog 63 #[.slice aw n cw, .int .i64 k] w fun e w' => ∃ a c, e = .returned (.slice a (times l k 0).length c) ∧ Row w' w'.heap.size a (times l k 0).length (zs (times l k 0)) ∧ Below w.heap.size w w' := by
  refine (RTim.any aw n cw l k w hw hd hn hk).mono ?_
  rintro e w' ⟨a, m, c, rfl, ho, hb⟩
  obtain rfl := own_len ho
  exact ⟨a, c, rfl, row_own ho, hb⟩
theorem rows_lt (k : Nat) (l : List Nat) (n : Nat) (h : ∀ d ∈ l, d < 65536) : ∀ d ∈ rows k l n, d < 65536 := by
  cases k with
  | zero => exact h
  | succ k => exact times_lt _ _ _
theorem rows_len (k : Nat) (l : List Nat) (n : Nat) : (rows k l n).length ≤ l.length + 4 * k := by
  induction k with
  | zero => simp [rows]
  | succ k ih =>
    have := times_len (rows k l n) n 0
    rw [rows]
    omega
theorem one_row (w : World) (o : Obj) (x : Nat) (b : Nat) (h : (w.alloc o).heap[b]? = some (.cells #[.int .i64 x] 3)) : Row (w.alloc o) (w.alloc o).heap.size (some ⟨b, 0, none⟩) 1 (zs [x]) := by
  refine ⟨rfl, fun _ => ⟨b, 0, rfl, (Array.getElem?_eq_some_iff.1 h).1, fun i hi => ?_⟩⟩
  obtain rfl : i = 0 := by omega
  exact blk_cell h rfl
theorem two_rows (w : World) (x y : Nat) :
    Row ((w.alloc (.cells #[.int .i64 x] 3)).alloc (.cells #[.int .i64 y] 3)) ((w.alloc (.cells #[.int .i64 x] 3)).alloc (.cells #[.int .i64 y] 3)).heap.size (some ⟨w.heap.size, 0, none⟩) 1 (zs [x]) ∧
    Row ((w.alloc (.cells #[.int .i64 x] 3)).alloc (.cells #[.int .i64 y] 3)) ((w.alloc (.cells #[.int .i64 x] 3)).alloc (.cells #[.int .i64 y] 3)).heap.size (some ⟨w.heap.size + 1, 0, none⟩) 1 (zs [y]) ∧
    Below w.heap.size w ((w.alloc (.cells #[.int .i64 x] 3)).alloc (.cells #[.int .i64 y] 3)) := by
  generalize hA : Obj.cells #[Value.int .i64 (x : Int)] 3 = A
  generalize hB : Obj.cells #[Value.int .i64 (y : Int)] 3 = B
  have hs : (w.alloc A).heap.size = w.heap.size + 1 := by simp
  refine ⟨?_, ?_, ?_⟩
  · exact ((one_row w A x w.heap.size (by rw [heap_alloc_new, hA])).below ((Below.refl _ _).alloc (Nat.le_refl _) B)).more (by simp)
  · rw [← hs]
    exact one_row (w.alloc A) B y (w.alloc A).heap.size (by rw [heap_alloc_new, hB])
  · exact ((Below.refl _ _).alloc (Nat.le_refl _) A).alloc (by omega) B
set_option maxRecDepth 100000 in
set_option maxHeartbeats 1000000 in
theorem above (r p k : Nat) (w : World) (hr : r ≤ 137438953472) (hp : p < 65536) (hk : k ≤ 3) :
    Calls Tryd.prog 54 #[.int .i64 r, .int .i64 p, .int .i64 k] w fun e w' => e = .returned (.bool (RootN.above r p k)) ∧ Below w.heap.size w w' := by
  go_enter Tryd.func54, Tryd.ntmps54
  go_wp2_with fail
  have hq : Hid (∀ i, i ≤ 3 → (rows i [1] r).length ≤ 13 ∧ (rows i [p] 4294967296).length ≤ 13) := fun i hi => by
    have h1 := rows_len i [1] r
    have h2 := rows_len i [p] 4294967296
    simp only [List.length_cons, List.length_nil] at h1 h2
    exact ⟨by omega, by omega⟩
  have hd : Hid (∀ i, (∀ d ∈ rows i [1] r, d < 65536) ∧ (∀ d ∈ rows i [p] 4294967296, d < 65536)) := fun i => ⟨rows_lt _ _ _ (by simp), rows_lt _ _ _ (by simpa using hp)⟩
  go_loopw [7, 8, 9] (fun s t i wr => ∃ (j : Nat) (a b : Option Addr) (c d : Nat), j ≤ k ∧ i = .int .i64 j ∧ s = .slice a (rows j [1] r).length c ∧ t = .slice b (rows j [p] 4294967296).length d ∧
    Hid (Row wr wr.heap.size a (rows j [1] r).length (zs (rows j [1] r))) ∧ Hid (Row wr wr.heap.size b (rows j [p] 4294967296).length (zs (rows j [p] 4294967296))) ∧ Below w.heap.size w wr) (fun _ _ i _ => k - (intOf i).toNat)
  case atStart =>
    refine ⟨0, some ⟨w.heap.size, 0, none⟩, some ⟨w.heap.size + 1, 0, none⟩, 1, 1, Nat.zero_le _, rfl, rfl, rfl, ?_, ?_, ?_⟩
    · exact (two_rows w 1 p).1
    · exact (two_rows w 1 p).2.1
    · exact (two_rows w 1 p).2.2
  case round =>
    obtain ⟨j, a, b, c, d, hj, rfl, rfl, rfl, hR, hS, hbel⟩ := hrel
    by_cases hlt : j < k
    · have hl := hq.out j (by omega)
      obtain ⟨hl1, hl2⟩ := hl
      have HB := Lib.hid hbel
      have hc1 := times_row a (rows j [1] r).length c (rows j [1] r) r wr hR.out (hd.out j).1 (by omega) hr
      have hc2 : Hid (∀ W, Below wr.heap.size wr W → Calls Tryd.prog 63 #[.slice b (rows j [p] 4294967296).length d, .int .i64 4294967296] W fun e w' => ∃ a c, e = .returned (.slice a (rows (j + 1) [p] 4294967296).length c) ∧ Row w' w'.heap.size a (rows (j + 1) [p] 4294967296).length (zs (rows (j + 1) [p] 4294967296)) ∧ Below W.heap.size W w') :=
        fun W hW => times_row b (rows j [p] 4294967296).length d (rows j [p] 4294967296) 4294967296 W ((hS.out.below hW).more hW.size) (hd.out j).2 (by omega) (by omega)
      rw [show times (rows j [1] r) r 0 = rows (j + 1) [1] r from rfl] at hc1
      have HC1 := Lib.hid hc1
      clear hc1 hl1 hl2 hbel
      generalize hx1 : (rows j [1] r).length = m1 at *
      generalize hx2 : (rows j [p] 4294967296).length = m2 at *
      generalize hx3 : (rows (j + 1) [1] r).length = m3 at *
      generalize hx4 : (rows (j + 1) [p] 4294967296).length = m4 at *
      have HX := Lib.hid (And.intro hx3 hx4)
      clear hx1 hx2 hx3 hx4
      go_wp2_with
        (first
          | (go_at_call 63
             refine HC1.out.mono ?_
             rintro e w1 ⟨a1, c1, rfl, hr1, hb1⟩
             have HR1 := Lib.hid hr1
             have HB1 := Lib.hid hb1
             clear hr1 hb1
             clear HC1)
          | (go_at_call 63
             refine (hc2.out _ HB1.out).mono ?_
             rintro e w2 ⟨a2, c2, rfl, hr2, hb2⟩
             have HR2 := Lib.hid hr2
             have HB2 := Lib.hid hb2
             clear hr2 hb2))
      go_roundw
      case rel =>
        obtain ⟨rfl, rfl⟩ := HX.out
        exact ⟨j + 1, a1, a2, c1, c2, by omega, by go_num, rfl, rfl, (HR1.out.below HB2.out).more HB2.out.size, HR2, HB.out.trans ((HB1.out.trans (HB2.out.mono HB1.out.size)).mono HB.out.size)⟩
      case measure => simp [intOf]; omega
    · obtain rfl : j = k := by omega
      obtain ⟨hl1, hl2⟩ := hq.out j hk
      have hmax : RootN.above r p j = cmp (max (rows j [1] r).length (rows j [p] 4294967296).length) (rows j [1] r) (rows j [p] 4294967296) := rfl
      have HM := Lib.hid hmax
      clear hq hd hlt
      generalize rows j [1] r = s at *
      generalize rows j [p] 4294967296 = t at *
      clear hmax
      generalize hm1 : s.length = m1 at *
      generalize hm2 : t.length = m2 at *
      have HB := Lib.hid hbel
      have HHM := Lib.hid (And.intro hm1 hm2)
      clear hm1 hm2 hbel hr hp
      go_wp2_with fail
      all_goals
        go_loop [10] (fun i => ∃ (z : Int) (q : Nat), z = (q : Int) - 1 ∧ q ≤ max m1 m2 ∧ i = .int .i64 z ∧ Hid (RootN.above r p j = cmp q s t)) (fun i => (intOf i + 1).toNat)
        case atStart => exact ⟨(max m1 m2 : Nat) - 1, max m1 m2, rfl, Nat.le_refl _, by congr 1; omega, HM⟩
        case round =>
          obtain ⟨z, q, hz, hqm, rfl, hcm⟩ := hrel
          cases q with
          | zero =>
            obtain rfl : z = -1 := by omega
            clear hz hqm
            go_wp2_with fail
            go_ret
            rw [hcm.out]
            exact ⟨rfl, HB.out⟩
          | succ q =>
            obtain rfl : z = (q : Int) := by omega
            have HQ := Lib.hid hqm
            have hq13 : q ≤ 13 := by omega
            clear hz
            have hd1 := digit a m1 c q s wr hR.out (by omega) (by omega)
            have hd2 := digit b m2 d q t wr hS.out (by omega) (by omega)
            have hc : RootN.above r p j = if s.getD q 0 = t.getD q 0 then cmp q s t else decide (t.getD q 0 < s.getD q 0) := hcm.out
            generalize s.getD q 0 = x at *
            generalize t.getD q 0 = y at *
            have HD1 := Lib.hid hd1
            have HD2 := Lib.hid hd2
            clear hd1 hd2 hcm hqm
            by_cases hxy : x = y
            · subst hxy
              rw [if_pos rfl] at hc
              have HC := Lib.hid hc
              clear hc
              go_wp2_with (first
                | (go_at_call 64; refine HD1.out.mono ?_; rintro e w' ⟨rfl, rfl⟩; clear HD1)
                | (go_at_call 64; refine HD2.out.mono ?_; rintro e w' ⟨rfl, rfl⟩))
              go_round
              case rel => exact ⟨(q : Int) - 1, q, rfl, by have := HQ.out; omega, by go_num, HC⟩
              case measure => simp [intOf]
            · rw [if_neg hxy] at hc
              have HC := Lib.hid hc
              clear hc
              have hne : ((x : Int) != (y : Int)) = true := by rw [bne_iff_ne]; omega
              go_wp2_with (first
                | (go_at_call 64; refine HD1.out.mono ?_; rintro e w' ⟨rfl, rfl⟩; clear HD1)
                | (go_at_call 64; refine HD2.out.mono ?_; rintro e w' ⟨rfl, rfl⟩))
              go_ret
              rw [HC.out]
              exact ⟨by simp, HB.out⟩
set_option maxRecDepth 100000 in
theorem behind (p k : Nat) (w : World) (hp : p < 65536) (hk : k ≤ 3) :
    Calls Tryd.prog 39 #[.int .i64 p, .int .i64 k] w fun e w' => e = .returned (.int .i64 ((RootN.behind p k : Nat) : Int)) ∧ Below w.heap.size w w' := by
  have hX : RootN.behind p k = RootN.look p k 36 0 % 4294967296 := rfl
  have HX := Lib.hid hX
  clear hX
  go_enter Tryd.func39, Tryd.ntmps39
  go_wp2_with fail
  go_loopw [5, 6] (fun r i wr => ∃ (z : Int) (q y : Nat), z = (q : Int) - 1 ∧ q ≤ 36 ∧ i = .int .i64 z ∧ r = .int .i64 y ∧ Hid (RootN.look p k q y = RootN.look p k 36 0) ∧ Hid (y + 2 ^ q ≤ 68719476736) ∧ Below w.heap.size w wr) (fun _ i _ => (intOf i + 1).toNat)
  case atStart => exact ⟨35, 36, 0, rfl, Nat.le_refl _, rfl, rfl, rfl, by show 0 + 2 ^ 36 ≤ 68719476736; decide, Below.refl _ _⟩
  case round =>
    obtain ⟨z, q, y, hz, hq, rfl, rfl, hlk, hle, hbel⟩ := hrel
    have HB := Lib.hid hbel
    clear hbel
    cases q with
    | zero =>
      obtain rfl : z = -1 := by omega
      have hy : y ≤ 68719476736 := by have := hle.out; omega
      have hlk' : y = RootN.look p k 36 0 := hlk.out
      have HY := Lib.hid hlk'
      clear hz hq hlk'
      go_wp2_with fail
      go_ret
      rw [HX.out, ← HY.out]
      exact ⟨by simp, HB.out⟩
    | succ q =>
      obtain rfl : z = (q : Int) := by omega
      have hpw : y + 2 ^ q ≤ 68719476736 ∧ y + 2 ^ q + 2 ^ q ≤ 68719476736 := by
        have := hle.out
        rw [Nat.pow_succ] at this
        omega
      have hlk' : RootN.look p k (q + 1) y = RootN.look p k q (if RootN.above (y + 2 ^ q) p k then y else y + 2 ^ q) := rfl
      rw [hlk.out] at hlk'
      have hpow := fun W => pow q W (by omega)
      have hab := fun W => above (y + 2 ^ q) p k W (by omega) hp hk
      have HQ := Lib.hid hq
      have hq35 : q ≤ 35 := by omega
      clear hz hq hlk hle
      generalize hue : 2 ^ q = u at *
      have HE := Lib.hid hue
      clear hue
      have HP := Lib.hid hpow
      have HU := Lib.hid hpw.2
      have hu := hpw.1
      clear hpow hpw
      cases hc : RootN.above (y + u) p k with
      | true =>
        rw [hc] at hab hlk'
        have HA := Lib.hid hab
        have HL := Lib.hid hlk'.symm
        clear hab hlk' hc
        go_wp2_with (first
          | (go_at_call 53; refine (HP.out _).mono ?_; rintro e w' ⟨rfl, rfl⟩)
          | (go_at_call 54; refine (HA.out _).mono ?_; rintro e w2 ⟨rfl, hb2⟩; have HB2 := Lib.hid (HB.out.trans (hb2.mono HB.out.size)); clear hb2))
        go_roundw
        case rel => exact ⟨(q : Int) - 1, q, y, rfl, by have := HQ.out; omega, by go_num, rfl, HL, by show y + 2 ^ q ≤ _; rw [HE.out]; exact hu, HB2.out⟩
        case measure => simp [intOf]
      | false =>
        rw [hc] at hab hlk'
        have HA := Lib.hid hab
        have HL := Lib.hid hlk'.symm
        clear hab hlk' hc
        go_wp2_with (first
          | (go_at_call 53; refine (HP.out _).mono ?_; rintro e w' ⟨rfl, rfl⟩)
          | (go_at_call 54; refine (HA.out _).mono ?_; rintro e w2 ⟨rfl, hb2⟩; have HB2 := Lib.hid (HB.out.trans (hb2.mono HB.out.size)); clear hb2))
        go_roundw
        case rel => exact ⟨(q : Int) - 1, q, y + u, rfl, by have := HQ.out; omega, by go_num, by go_num, HL, by show y + u + 2 ^ q ≤ _; rw [HE.out]; exact HU.out, HB2.out⟩
        case measure => simp [intOf]
theorem Round (i : Nat) (w : World) (hi : i < 64) :
    Calls Tryd.prog 38 #[.int .i64 i] w fun e w' => e = .returned (.int .i64 ((kList.getD i 0 : Nat) : Int)) ∧ Below w.heap.size w w' := by
  have hp := fun W => prime i W hi
  have h311 := (ps_good i hi).2.2.1
  have hb := fun W => behind (ps.getD (i + 1) 0) 3 W (by omega) (Nat.le_refl _)
  rw [cube i hi] at hb
  have HP := Lib.hid hp
  have HB := Lib.hid hb
  clear hp hb
  generalize kList.getD i 0 = x at *
  generalize ps.getD (i + 1) 0 = y at *
  go_enter Tryd.func38, Tryd.ntmps38
  go_wp2_with (first
    | (go_at_call 40; refine (HP.out _).mono ?_; rintro e w' ⟨rfl, rfl⟩)
    | (go_at_call 39; refine (HB.out _).mono ?_; rintro e w2 ⟨rfl, hb2⟩))
  go_ret
  exact ⟨rfl, hb2⟩
theorem kept1 {w w1 : World} {p : Addr} {x : Value} (hb : Below w.heap.size w w1) (hx : w.cell? p = some x) : w1.cell? p = some x := (hb.cell (World.block_lt_of_cell? w p hx)).trans hx
set_option maxRecDepth 100000 in
theorem Right (w : World) : Calls Tryd.prog 20 #[] w fun e w' => e = .returned (.bool true) ∧ Below w.heap.size w w' := by
  go_enter Tryd.func20, Tryd.ntmps20
  have HIk := Lib.hid (show (Tryd.prog.info? 55).map (·.size) = some (RRot.iRow kList).size by rw [RRot.iRow_size]; exact RRot.info55)
  have HOk := Lib.hid (RRot.iRow_one kList)
  have HZk := Lib.hid (show (RRot.iRow kList).size = 64 from rfl)
  have HG := Lib.hid (fun W => RRot.Rounds W)
  go_upto_region 2 with (first
    | (go_at_call 28; refine (HG.out _).mono ?_; rintro e w1 ⟨rfl, hb1⟩; have HB1 := Lib.hid hb1; clear hb1)
    | (refine wpList_store_row rfl 55 _ _ rfl w1.heap.size _ rfl rfl 55 _ (heap_alloc_new w1 _) HIk.out (by rw [HZk.out]; rfl) HOk.out ?_))
  generalize hW : World.setRow _ _ (RRot.iRow kList) = W
  have KK : Hid (W.heap[w1.heap.size]? = some (.cells (RRot.iRow kList) 55 (0, 0))) := by
    show _ = _
    rw [← hW]
    exact setRow_same (heap_alloc_new w1 _)
  have KB : Hid (Below w.heap.size w W) := by
    rw [← hW]
    have hs := HB1.out.size
    exact below_setRow (HB1.out.alloc hs _) hs _
  have hgw := HB1.out.size
  clear hW HB1
  generalize w1.heap.size = g at *
  go_wp2_with fail
  go_loopw [2] (fun i wr => ∃ j : Nat, j ≤ 64 ∧ i = .int .i64 j ∧ wr.heap[g]? = some (.cells (RRot.iRow kList) 55 (0, 0)) ∧ g < wr.heap.size ∧ Below w.heap.size w wr) (fun i _ => 64 - (intOf i).toNat)
  case atStart => exact ⟨0, Nat.zero_le _, rfl, KK.out, (Array.getElem?_eq_some_iff.1 KK.out).1, KB.out⟩
  case round =>
    obtain ⟨j, hj, rfl, hbk, hgl, hbel⟩ := hrel
    have HBK := Lib.hid hbk
    have HBE := Lib.hid hbel
    clear hbk hbel
    by_cases hlt : j < 64
    · have HRd := Lib.hid (fun W => Round j W hlt)
      have hcell := blk_cell HBK.out (RRot.iRow_at kList j (by show j < 64; exact hlt))
      generalize kList.getD j 0 = x at *
      go_wp2_with fail
      go_region_held3 (fun w' => w'.cell? ⟨g, j, none⟩ = some (.int .i64 x))
        (first | exact hcell | exact hS1)
        (first | (go_at_call 38; refine (HRd.out _).mono ?_; rintro e w2 ⟨rfl, hb1⟩; have hS1 := kept1 hb1 hcell))
      rename_i hHeld
      have hb0 : Below wr.heap.size wr w2 := ⟨hb1.os, hb1.tape, hb1.output, hb1.size, hb1.block⟩
      have HB := Lib.hid (HBE.out.trans (hb0.mono HBE.out.size))
      have HK2 := Lib.hid ((hb0.block g hgl).trans HBK.out)
      have HG2 := Lib.hid (Nat.lt_of_lt_of_le hgl hb0.size)
      clear hHeld hS1 hb1 hb0 hcell
      have hne : ((x : Int) != (x : Int)) = false := by simp
      go_wp2_with fail
      go_roundw
      case rel => exact ⟨j + 1, by omega, by go_num, HK2.out, HG2.out, HB.out⟩
      case measure => simp [intOf]; omega
    · obtain rfl : j = 64 := by omega
      go_wp2_with fail
      go_ret
      exact ⟨rfl, HBE.out⟩
end Go.Proofs.YtkaeeedjkegdlaaDoor.RBeh
