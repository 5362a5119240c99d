/- The document's Newest: the walk of its text. No conditions but those that each lemma names. -/
import Derived.Test.YtnebbbloipdnbaaIdxQ
import Derived.Deep.RegionHeld3
namespace Go.Proofs.Ytnebbbloipdnbaa.IdxR
open Go.RowKit
open IdxN IdxM IdxC IdxD IdxH IdxI IdxQ
theorem newestR_succ (l : List V) (lba a b : Int) (j : Nat) (h : j < l.length) : newestR (l.take (j + 1)) lba a b = next lba a b (newestR (l.take j) lba a b) l[j] := by
  rw [List.take_succ_eq_append_getElem h, newestR_snoc]
theorem next_no {lba a b : Int} {x : V × Bool} {u : V} (h : fits lba a b x u = false) : next lba a b x u = x := by unfold next; rw [h]; rfl
theorem next_yes {lba a b : Int} {x : V × Bool} {u : V} (h : fits lba a b x u = true) : next lba a b x u = (u, true) := by unfold next; rw [h]; rfl
theorem fits_no {lba a b : Int} {x : V × Bool} {u : V} (h : ¬ (u.1 = lba ∧ a ≤ u.2.1 ∧ u.2.1 ≤ b)) : fits lba a b x u = false := by unfold fits; rw [decide_eq_false h]; rfl
theorem fits_eq {lba a b : Int} {x : V × Bool} {u : V} (h : u.1 = lba ∧ a ≤ u.2.1 ∧ u.2.1 ≤ b) : fits lba a b x u = (!x.2 || lt x.1 u) := by unfold fits; rw [decide_eq_true h]; simp
/-- What stands while Newest runs. -/
structure Nr (w : World) (a : Option Addr) (l : List V) (x : V) (W : World) : Prop where
  bel : Below w.heap.size w W
  k0 : W.heap[w.heap.size]? = some (.cells #[.int .i64 0, .int .i64 0, .int .i64 0] 27 (0, 0))
  k1 : W.heap[w.heap.size + 1]? = some (.cells #[.int .i64 x.1, .int .i64 x.2.1, .int .i64 x.2.2] 27 (0, 0))
  lies : Lies W a l
variable {w W W' : World} {a : Option Addr} {l : List V} {x : V}
theorem Nr.step (h : Nr w a l x W) (hb : Below W.heap.size W W') : Nr w a l x W' :=
  ⟨h.bel.trans (hb.mono h.bel.size), (hb.block _ (lt_of h.k0)).trans h.k0, (hb.block _ (lt_of h.k1)).trans h.k1, h.lies.step hb⟩
theorem Nr.turn (h : Nr w a l x W) (hw : Lies w a l) (u : V) : Nr w a l u (W.setRow (w.heap.size + 1) #[.int .i64 u.1, .int .i64 u.2.1, .int .i64 u.2.2]) :=
  have hb := below_setRow h.bel (show w.heap.size ≤ w.heap.size + 1 by omega) #[.int .i64 u.1, .int .i64 u.2.1, .int .i64 u.2.2]
  ⟨hb, (setRow_far (by omega)).trans h.k0, setRow_same h.k1, hw.step hb⟩
theorem Nr.cells (h : Nr w a l x W) : W.cell? ⟨w.heap.size + 1, 0, none⟩ = some (.int .i64 x.1) ∧ W.cell? ⟨w.heap.size + 1, 1, none⟩ = some (.int .i64 x.2.1) ∧ W.cell? ⟨w.heap.size + 1, 2, none⟩ = some (.int .i64 x.2.2) :=
  ⟨blk_cell h.k1 rfl, blk_cell h.k1 rfl, blk_cell h.k1 rfl⟩
set_option maxRecDepth 100000 in
set_option maxHeartbeats 4000000 in
theorem Newest (a : Option Addr) (c : Nat) (l : List V) (lba fr tt : Int) (w : World) (h : Lies w a l) (hl : l.length ≤ 100000) :
    Calls Try.prog 12 #[.slice a l.length c, .int .i64 lba, .int .i64 fr, .int .i64 tt] w (Tvb (newestR l lba fr tt) w) := by
  have HL := Lib.hid h
  have HLess := Lib.hid less
  clear h
  go_enter Try.func12, Try.ntmps12
  go_upto_region 2 with (fail)
  generalize hW : World.alloc (World.alloc w _) _ = W2
  have NN := Lib.hid (show Nr w a l z0 W2 from by
    rw [← hW]
    exact ⟨((Below.refl _ _).alloc (Nat.le_refl _) _).alloc (by simp) _, heap_alloc2_old w _ _, heap_alloc2_new w _ _, HL.out.step (((Below.refl _ _).alloc (Nat.le_refl _) _).alloc (by simp) _)⟩)
  clear hW
  go_wp2_with fail
  go_loopw [11, 12] (fun is i wr => ∃ j : Nat, j ≤ l.length ∧ i = .int .i64 j ∧ is = .bool (newestR (l.take j) lba fr tt).2 ∧ Nr w a l (newestR (l.take j) lba fr tt).1 wr) (fun _ i _ => l.length - (intOf i).toNat)
  case atStart => exact ⟨0, Nat.zero_le _, rfl, rfl, NN.out⟩
  case round =>
    clear NN
    obtain ⟨j, hj, rfl, rfl, hN⟩ := hrel
    have NN := Lib.hid hN
    clear hN
    by_cases hlt : j < l.length
    · obtain ⟨g, o, rfl, hg, hat⟩ := NN.out.lies.at_ (by omega)
      obtain ⟨m0, m1, m2⟩ := hat j hlt
      have hjl : (j : Int) < (l.length : Int) := by omega
      have HX := Lib.hid (newestR_succ l lba fr tt j hlt)
      clear hat
      generalize newestR (l.take j) lba fr tt = x at *
      generalize l[j] = u at *
      obtain ⟨k0, k1, k2⟩ := NN.out.cells
      have N5 := Lib.hid (fun n => NN.out.step (below_drewN wr n))
      obtain ⟨u0, u1, u2⟩ := u
      obtain ⟨⟨b0, b1, b2⟩, xb⟩ := x
      dsimp only at m0 m1 m2 k0 k1 k2
      by_cases h0 : u0 = lba
      · have e0 : (u0 == lba) = true := by rw [beq_iff_eq]; exact h0
        by_cases h1 : fr ≤ u1
        · have e1 : decide (fr ≤ u1) = true := decide_eq_true h1
          by_cases h2 : u1 ≤ tt
          · have e2 : decide (u1 ≤ tt) = true := decide_eq_true h2
            have HFE := Lib.hid (fits_eq (x := ((b0, b1, b2), xb)) (u := (u0, u1, u2)) (a := fr) (b := tt) (lba := lba) ⟨h0, h1, h2⟩)
            cases xb
            · have HV := Lib.hid (HX.out.trans (next_yes (by rw [HFE.out]; rfl)))
              clear h0 h1 h2 HFE
              clear HX
              go_wp2_with fail
              go_quiet (fail)
              go_wp2_with (refine wpList_store_row rfl 27 _ _ rfl (w.heap.size + 1) _ rfl rfl 27 _ (N5.out _).k1 infoV rfl (one3 (u0, u1, u2)) ?_)
              go_roundw
              case rel => exact ⟨j + 1, by omega, by go_num, by rw [HV.out], by rw [HV.out]; exact (N5.out _).turn HL.out (u0, u1, u2)⟩
              case measure => simp [intOf]; omega
            · have HQ := Lib.hid (HLess.out (b0, b1, b2) (u0, u1, u2))
              dsimp only at HQ HFE
              have hS0 : wr.cell? ⟨g, o + j * 3, none⟩ = some (.int .i64 u0) ∧ wr.cell? ⟨g, o + j * 3 + 1, none⟩ = some (.int .i64 u1) ∧ wr.cell? ⟨g, o + j * 3 + 2, none⟩ = some (.int .i64 u2) ∧ wr.cell? ⟨w.heap.size + 1, 0, none⟩ = some (.int .i64 b0) ∧ wr.cell? ⟨w.heap.size + 1, 1, none⟩ = some (.int .i64 b1) ∧ wr.cell? ⟨w.heap.size + 1, 2, none⟩ = some (.int .i64 b2) := ⟨m0, m1, m2, k0, k1, k2⟩
              have HS : Hid (∀ W, Below wr.heap.size wr W → W.cell? ⟨g, o + j * 3, none⟩ = some (.int .i64 u0) ∧ W.cell? ⟨g, o + j * 3 + 1, none⟩ = some (.int .i64 u1) ∧ W.cell? ⟨g, o + j * 3 + 2, none⟩ = some (.int .i64 u2) ∧ W.cell? ⟨w.heap.size + 1, 0, none⟩ = some (.int .i64 b0) ∧ W.cell? ⟨w.heap.size + 1, 1, none⟩ = some (.int .i64 b1) ∧ W.cell? ⟨w.heap.size + 1, 2, none⟩ = some (.int .i64 b2)) := Lib.hid fun W hb => ⟨(hb.cell (p := ⟨g, o + j * 3, none⟩) hg).trans m0, (hb.cell (p := ⟨g, o + j * 3 + 1, none⟩) hg).trans m1, (hb.cell (p := ⟨g, o + j * 3 + 2, none⟩) hg).trans m2, (NN.out.step hb).cells⟩
              have N6 := Lib.hid (fun W (hb : Below wr.heap.size wr W) => NN.out.step hb)
              cases hq : lt (b0, b1, b2) (u0, u1, u2) <;> rw [hq] at HQ HFE
              · have HV := Lib.hid (HX.out.trans (next_no (by rw [HFE.out]; rfl)))
                clear HX HFE h0 h1 h2 hq
                go_wp2_with fail
                go_region_held3 (fun w' => w'.cell? ⟨g, o + j * 3, none⟩ = some (.int .i64 u0) ∧ w'.cell? ⟨g, o + j * 3 + 1, none⟩ = some (.int .i64 u1) ∧ w'.cell? ⟨g, o + j * 3 + 2, none⟩ = some (.int .i64 u2) ∧ w'.cell? ⟨w.heap.size + 1, 0, none⟩ = some (.int .i64 b0) ∧ w'.cell? ⟨w.heap.size + 1, 1, none⟩ = some (.int .i64 b1) ∧ w'.cell? ⟨w.heap.size + 1, 2, none⟩ = some (.int .i64 b2))
                  (first | exact hS | exact hS0)
                  (first
                    | (go_at_call 33; refine (HQ.out _).mono ?_; rintro e w1 ⟨rfl, hb⟩; have hS := HS.out _ ((Below.refl _ _).drew.trans hb); have N7 := Lib.hid (N6.out _ ((Below.refl _ _).drew.trans hb)); clear hb))
                clear m0 m1 m2 k0 k1 k2
                obtain ⟨m0, m1, m2, k0, k1, k2⟩ := hS
                go_wp2
                go_roundw
                case rel => exact ⟨j + 1, by omega, by go_num, by rw [HV.out], by rw [HV.out]; exact N7.out⟩
                case measure => simp [intOf]; omega
              · have HV := Lib.hid (HX.out.trans (next_yes (by rw [HFE.out]; rfl)))
                clear HFE h0 h1 h2 hq
                clear HX
                go_wp2_with fail
                go_region_held3 (fun w' => w'.cell? ⟨g, o + j * 3, none⟩ = some (.int .i64 u0) ∧ w'.cell? ⟨g, o + j * 3 + 1, none⟩ = some (.int .i64 u1) ∧ w'.cell? ⟨g, o + j * 3 + 2, none⟩ = some (.int .i64 u2) ∧ w'.cell? ⟨w.heap.size + 1, 0, none⟩ = some (.int .i64 b0) ∧ w'.cell? ⟨w.heap.size + 1, 1, none⟩ = some (.int .i64 b1) ∧ w'.cell? ⟨w.heap.size + 1, 2, none⟩ = some (.int .i64 b2))
                  (first | exact hS | exact hS0)
                  (first
                    | (go_at_call 33; refine (HQ.out _).mono ?_; rintro e w1 ⟨rfl, hb⟩; have hS := HS.out _ ((Below.refl _ _).drew.trans hb); have N7 := Lib.hid (N6.out _ ((Below.refl _ _).drew.trans hb)); clear hb))
                clear m0 m1 m2 k0 k1 k2
                obtain ⟨m0, m1, m2, k0, k1, k2⟩ := hS
                go_wp2_with (refine wpList_store_row rfl 27 _ _ rfl (w.heap.size + 1) _ rfl rfl 27 _ N7.out.k1 infoV rfl (one3 (u0, u1, u2)) ?_)
                go_roundw
                case rel => exact ⟨j + 1, by omega, by go_num, by rw [HV.out], by rw [HV.out]; exact N7.out.turn HL.out (u0, u1, u2)⟩
                case measure => simp [intOf]; omega
          · have HV := Lib.hid (HX.out.trans (next_no (fits_no (fun h => h2 h.2.2))))
            have e2 : decide (u1 ≤ tt) = false := decide_eq_false h2
            clear h0 h1 h2
            clear HX
            go_wp2_with fail
            go_quiet (fail)
            go_wp2
            go_roundw
            case rel => exact ⟨j + 1, by omega, by go_num, by rw [HV.out], by rw [HV.out]; exact N5.out _⟩
            case measure => simp [intOf]; omega
        · have HV := Lib.hid (HX.out.trans (next_no (fits_no (fun h => h1 h.2.1))))
          have e1 : decide (fr ≤ u1) = false := decide_eq_false h1
          clear h0 h1
          clear HX
          go_wp2_with fail
          go_quiet (fail)
          go_wp2
          go_roundw
          case rel => exact ⟨j + 1, by omega, by go_num, by rw [HV.out], by rw [HV.out]; exact N5.out _⟩
          case measure => simp [intOf]; omega
      · have HV := Lib.hid (HX.out.trans (next_no (fits_no (fun h => h0 h.1))))
        have e0 : (u0 == lba) = false := by rw [beq_eq_false_iff_ne]; exact h0
        clear h0
        clear HX
        go_wp2_with fail
        go_quiet (fail)
        go_wp2
        go_roundw
        case rel => exact ⟨j + 1, by omega, by go_num, by rw [HV.out], by rw [HV.out]; exact N5.out _⟩
        case measure => simp [intOf]; omega
    · obtain rfl : j = l.length := by omega
      rw [List.take_length] at NN ⊢
      obtain ⟨k0, k1, k2⟩ := NN.out.cells
      generalize newestR l lba fr tt = x at *
      obtain ⟨⟨b0, b1, b2⟩, xb⟩ := x
      dsimp only at k0 k1 k2
      go_wp2_with (refine wpList_store_row rfl 27 _ _ rfl w.heap.size _ rfl rfl 27 _ NN.out.k0 infoV rfl (one3 (b0, b1, b2)) ?_)
      refine bodyPost_ret (v := .tuple #[.agg #[.int .i64 b0, .int .i64 b1, .int .i64 b2], .bool xb])
        (results_cell_tmp_row Try.results12 _ _ w.heap.size 27 _ (0, 0) _ rfl (setRow_same NN.out.k0) Try.underlying27 rfl infoV) rfl
        ⟨rfl, below_setRow NN.out.bel (Nat.le_refl _) _⟩
end Go.Proofs.Ytnebbbloipdnbaa.IdxR
