/- MdE MdF: one behind the other. -/
import Derived.Test.YtopnodkdpehdoaaGreatDoorLMdc
import Derived.BigQuiet
import Derived.Laws.ResultCell
import Derived.Test.YtopnodkdpehdoaaGreatDoorLCa
/- The document's model: Newest, Places: the walks of their texts. No conditions but those that each lemma names. -/
namespace Go.Proofs.YtopnodkdpehdoaaGreatDoor.MdE
set_option linter.unusedVariables false
open Go.RowKit
open RecN RecC RetN DbN RetR DbC DbA MdN MdC MdD
/-- The best one of the first ones. -/
def B_ (vs : List V) (lba fr tl : Int) (k : Nat) : Option V := bst (vs.take k) lba fr tl
theorem b_next (vs : List V) (lba fr tl : Int) {k : Nat} (h : k < vs.length) : B_ vs lba fr tl (k + 1) = bst1 lba fr tl (B_ vs lba fr tl k) vs[k] := by
  unfold B_
  rw [take_next vs h, bst_snoc]
/-- What stands in Newest: the block of the result, and that of the best one. -/
structure Ns (w : World) (b : Option V) (W : World) : Prop where
  bel : Below w.heap.size w W
  r : Bv W w.heap.size v0
  y : Bv W (w.heap.size + 1) (b.getD v0)
section
variable {w W : World} {b : Option V}
theorem Ns.drewN (h : Ns w b W) (n : Nat) : Ns w b (W.drewN n) := ⟨h.bel.trans (below_drewN _ _), h.r.step (below_drewN _ _), h.y.step (below_drewN _ _)⟩
theorem Ns.put (h : Ns w b W) (v : V) : Ns w (some v) (W.setRow (w.heap.size + 1) #[.int .i64 v.lb, .int .i64 v.ep, .string ⟨v.da.toArray⟩]) :=
  ⟨below_setRow h.bel (Nat.le_succ _) _, (setRow_far (by omega)).trans h.r, setRow_same h.y⟩
end
set_option maxRecDepth 100000 in
set_option maxHeartbeats 8000000 in
theorem Newest {base X : Nat} {m : Mo} {ar : Option Addr} {cr : Nat} {av : Option Addr} {cv : Nat} {w : World} (h : Dm base X m ar cr av cv w) (lba fr tl : Int) :
    Calls Tryz.prog 38 #[.pointer (some ⟨X, 0, none⟩), .int .i64 lba, .int .i64 fr, .int .i64 tl] w fun x w' => x = .returned (.tuple #[.agg #[.int .i64 ((bst m.vs lba fr tl).getD v0).lb, .int .i64 ((bst m.vs lba fr tl).getD v0).ep, .string ⟨((bst m.vs lba fr tl).getD v0).da.toArray⟩], .bool (bst m.vs lba fr tl).isSome]) ∧ Below w.heap.size w w' := by
  have HD := Lib.hid h
  have hvl := h.ok.lens.2
  have HV := Lib.hid (own_lies h.vrow)
  clear h
  go_enter Tryz.func38, Tryz.ntmps38
  go_upto_region 2 with (fail)
  generalize hW : World.alloc (World.alloc w _) _ = W1
  have N1 : Hid (Ns w none W1) := Lib.hid ⟨by rw [← hW]; exact (below_new w _).trans ((below_new _ _).mono (by simp)), by rw [← hW]; exact heap_alloc2_old w _ _, by rw [← hW]; exact heap_alloc2_new w _ _⟩
  clear hW
  go_wp2_with fail
  go_loopw [11, 12] (fun isv iv wr => ∃ k : Nat, k ≤ m.vs.length ∧ iv = .int .i64 k ∧ isv = .bool (B_ m.vs lba fr tl k).isSome ∧ Ns w (B_ m.vs lba fr tl k) wr) (fun _ iv _ => m.vs.length - (intOf iv).toNat)
  case atStart => exact ⟨0, Nat.zero_le _, rfl, rfl, N1.out⟩
  case round =>
    clear N1
    obtain ⟨k, hk, rfl, rfl, hn⟩ := hrel
    have NN := Lib.hid hn
    clear hn
    have DD := Lib.hid (HD.out.step NN.out.bel)
    obtain ⟨_, _, _, _, _, _, _, c7⟩ := DD.out.cells
    by_cases hlt : k < m.vs.length
    · obtain ⟨g, off, rfl, hg, hc⟩ := at3 HV.out (by omega)
      have hk3 := (hc k hlt).step hg NN.out.bel
      have HS := Lib.hid (b_next m.vs lba fr tl hlt)
      generalize m.vs[k] = v at *
      obtain ⟨q0, q1, q2⟩ := hk3
      have p0 : (0 : Int) ≤ (k : Int) := by omega
      have p1 : (k : Int) < (m.vs.length : Int) := by omega
      clear hc DD
      generalize B_ m.vs lba fr tl k = b at *
      by_cases h1 : v.lb = lba
      · have t1 : (v.lb == lba) = true := by simp [h1]
        by_cases h2 : fr ≤ v.ep
        · by_cases h3 : v.ep ≤ tl
          · cases b with
            | none =>
              have HE : Hid (B_ m.vs lba fr tl (k + 1) = some v) := Lib.hid (by rw [HS.out]; unfold bst1; rw [if_pos (⟨⟨h1, h2, h3⟩, rfl⟩)])
              clear HS h1
              go_upto_region 5 with (fail)
              go_quiet (fail)
              go_wp2_with (refine wpList_store_row rfl 85 _ _ rfl (w.heap.size + 1) _ rfl rfl 85 _ (NN.out.drewN _).y infoV rfl (one3 v) ?_)
              go_roundw
              case rel => exact ⟨k + 1, by omega, by go_num, by rw [HE.out]; rfl, by rw [HE.out]; exact (NN.out.drewN _).put v⟩
              case measure => simp [intOf]; omega
            | some x =>
              obtain ⟨_, y1, _⟩ := NN.out.y.cells
              have y2 : wr.cell? ⟨w.heap.size + 1, 1, none⟩ = some (.int .i64 x.ep) := y1
              clear y1
              by_cases h4 : x.ep ≤ v.ep
              · have HE : Hid (B_ m.vs lba fr tl (k + 1) = some v) := Lib.hid (by rw [HS.out]; unfold bst1; rw [if_pos (⟨⟨h1, h2, h3⟩, decide_eq_true h4⟩)])
                clear HS h1
                go_upto_region 5 with (fail)
                go_quiet (fail)
                go_wp2_with (refine wpList_store_row rfl 85 _ _ rfl (w.heap.size + 1) _ rfl rfl 85 _ (NN.out.drewN _).y infoV rfl (one3 v) ?_)
                go_roundw
                case rel => exact ⟨k + 1, by omega, by go_num, by rw [HE.out]; rfl, by rw [HE.out]; exact (NN.out.drewN _).put v⟩
                case measure => simp [intOf]; omega
              · have HE : Hid (B_ m.vs lba fr tl (k + 1) = some x) := Lib.hid (by rw [HS.out]; unfold bst1; rw [if_neg (fun hh => h4 (of_decide_eq_true hh.2))])
                clear HS h1
                go_upto_region 5 with (fail)
                go_quiet (fail)
                go_wp2
                go_roundw
                case rel => exact ⟨k + 1, by omega, by go_num, by rw [HE.out], by rw [HE.out]; exact NN.out.drewN _⟩
                case measure => simp [intOf]; omega
          · have HE : Hid (B_ m.vs lba fr tl (k + 1) = b) := Lib.hid (by rw [HS.out]; unfold bst1; rw [if_neg (fun hh => h3 hh.1.2.2)])
            clear HS h1
            go_upto_region 5 with (fail)
            go_quiet (fail)
            go_wp2
            go_roundw
            case rel => exact ⟨k + 1, by omega, by go_num, by rw [HE.out], by rw [HE.out]; exact NN.out.drewN _⟩
            case measure => simp [intOf]; omega
        · have HE : Hid (B_ m.vs lba fr tl (k + 1) = b) := Lib.hid (by rw [HS.out]; unfold bst1; rw [if_neg (fun hh => h2 hh.1.2.1)])
          clear HS h1
          go_upto_region 5 with (fail)
          go_quiet (fail)
          go_wp2
          go_roundw
          case rel => exact ⟨k + 1, by omega, by go_num, by rw [HE.out], by rw [HE.out]; exact NN.out.drewN _⟩
          case measure => simp [intOf]; omega
      · have t1 : (v.lb == lba) = false := by simp [h1]
        have HE : Hid (B_ m.vs lba fr tl (k + 1) = b) := Lib.hid (by rw [HS.out]; unfold bst1; rw [if_neg (fun hh => h1 hh.1.1)])
        clear HS h1
        go_upto_region 5 with (fail)
        go_quiet (fail)
        go_wp2
        go_roundw
        case rel => exact ⟨k + 1, by omega, by go_num, by rw [HE.out], by rw [HE.out]; exact NN.out.drewN _⟩
        case measure => simp [intOf]; omega
    · obtain rfl : k = m.vs.length := by omega
      have pk : ¬ (m.vs.length : Int) < (m.vs.length : Int) := by omega
      have HE : Hid (B_ m.vs lba fr tl m.vs.length = bst m.vs lba fr tl) := Lib.hid (by unfold B_; rw [List.take_length])
      rw [HE.out] at NN ⊢
      obtain ⟨b, hb⟩ : ∃ b, bst m.vs lba fr tl = b := ⟨_, rfl⟩
      have HB := Lib.hid hb
      rw [hb] at NN ⊢
      obtain ⟨z0, z1, z2⟩ := NN.out.y.cells
      obtain ⟨v, hv⟩ : ∃ v, b.getD v0 = v := ⟨_, rfl⟩
      have HVV := Lib.hid hv
      rw [hv] at z0 z1 z2
      obtain ⟨q, hq⟩ : ∃ q, b.isSome = q := ⟨_, rfl⟩
      have HQ := Lib.hid hq
      rw [hq]
      have y0 : wr.cell? ⟨w.heap.size + 1, 0, none⟩ = some (.int .i64 v.lb) := z0
      have y1 : wr.cell? ⟨w.heap.size + 1, 1, none⟩ = some (.int .i64 v.ep) := z1
      have y2 : wr.cell? ⟨w.heap.size + 1, 2, none⟩ = some (.string ⟨v.da.toArray⟩) := z2
      clear hq HE z0 z1 z2 DD hb hv
      go_wp2_with (refine wpList_store_row rfl 85 _ _ rfl w.heap.size _ rfl rfl 85 _ NN.out.r infoV rfl (one3 v) ?_)
      exact bodyPost_ret (v := .tuple #[.agg #[.int .i64 v.lb, .int .i64 v.ep, .string ⟨v.da.toArray⟩], .bool q])
        (results_cell_tmp_row Tryz.results38 _ _ w.heap.size 85 _ (0, 0) _ rfl (setRow_same NN.out.r) Tryz.underlying85 rfl infoV) rfl
        ⟨by rw [HB.out, HVV.out, HQ.out], below_setRow NN.out.bel (Nat.le_refl _) _⟩
end Go.Proofs.YtopnodkdpehdoaaGreatDoor.MdE
/- The document's model: Places, read: the walks of their texts. No conditions but those that each lemma names. -/
namespace Go.Proofs.YtopnodkdpehdoaaGreatDoor.MdF
set_option linter.unusedVariables false
open Go.RowKit
open RecN RecC RetN DbN RetR DbC DbA MdN MdC MdD MdE AnsC
theorem one8B (er : Int) (da : L) : (#[.int .i64 er, .string ⟨da.toArray⟩, .int .i64 0, .int .i64 0, .int .i64 0, .int .i64 0, .int .i64 0, .int .i64 0] : Array Value).all (·.oneCell') = true := by simp [Value.oneCell']
/-- An answer in a block. -/
def Ban (W : World) (Y : Nat) : Prop := ∃ cs, W.heap[Y]? = some (.cells cs 39 (0, 0))
theorem Ban.lt {W : World} {Y : Nat} (h : Ban W Y) : Y < W.heap.size := by obtain ⟨cs, h⟩ := h; exact (Array.getElem?_eq_some_iff.1 h).1
theorem Ban.step {W W' : World} {Y : Nat} (h : Ban W Y) (hb : Below W.heap.size W W') : Ban W' Y := by
  have hl := h.lt
  obtain ⟨cs, h⟩ := h
  exact ⟨cs, (hb.block _ hl).trans h⟩
theorem plc_next (vs : List V) (fr : Int) (k : Nat) : plc vs fr (k + 1) = plc vs fr k + if (bst vs (k : Int) fr 4294967295).isSome = true then 1 else 0 := rfl
set_option maxRecDepth 100000 in
set_option maxHeartbeats 4000000 in
theorem Places {base X : Nat} {m : Mo} {ar : Option Addr} {cr : Nat} {av : Option Addr} {cv : Nat} {w : World} (h : Dm base X m ar cr av cv w) (fr : Int) :
    Calls Tryz.prog 33 #[.pointer (some ⟨X, 0, none⟩), .int .i64 fr] w fun x w' => x = .returned (.int .i64 (plc m.vs fr m.lb.toNat : Nat)) ∧ Below w.heap.size w w' := by
  have HD := Lib.hid h
  have hlb : 1 ≤ m.lb ∧ m.lb ≤ 4096 := by have := h.ok.geo; unfold GeoN.right at this; omega
  obtain ⟨n, hn⟩ : ∃ n : Nat, m.lb = (n : Int) := ⟨m.lb.toNat, by omega⟩
  have hnn : m.lb.toNat = n := by omega
  rw [hnn]
  clear h hnn
  go_enter Tryz.func33, Tryz.ntmps33
  go_wp2_with fail
  go_loopw [5, 6] (fun nv iv wr => ∃ k : Nat, k ≤ n ∧ iv = .int .i64 k ∧ nv = .int .i64 (plc m.vs fr k : Nat) ∧ Below w.heap.size w wr) (fun _ iv _ => n - (intOf iv).toNat)
  case atStart => exact ⟨0, Nat.zero_le _, rfl, rfl, Below.refl _ _⟩
  case round =>
    obtain ⟨k, hk, rfl, rfl, hb⟩ := hrel
    have BB := Lib.hid hb
    have DD := Lib.hid (HD.out.step hb)
    clear hb
    obtain ⟨_, c1, _⟩ := DD.out.cells
    rw [hn] at c1
    by_cases hlt : k < n
    · have HN := Lib.hid (Newest DD.out (k : Int) fr 4294967295)
      have HS := Lib.hid (plc_next m.vs fr k)
      have hp := plc_le m.vs fr k
      generalize bst m.vs (k : Int) fr 4294967295 = b at *
      generalize plc m.vs fr k = c at *
      have p0 : (k : Int) < (n : Int) := by omega
      cases b with
      | none =>
        have HE : Hid (plc m.vs fr (k + 1) = c) := Lib.hid HS.out
        clear HS
        go_wp2_with (first
          | (go_at_call 38; refine HN.out.mono ?_; rintro e w2 ⟨rfl, hb⟩; replace BB := Lib.hid (BB.out.trans (hb.mono BB.out.size)); clear hb HN)
          | (refine wpList_store_row rfl 85 _ _ rfl w2.heap.size _ rfl rfl 85 _ (heap_alloc_new w2 _) infoV rfl (one3 v0) ?_))
        go_roundw
        case rel => exact ⟨k + 1, by omega, by go_num, by rw [HE.out], BB.out.trans ((kept_new w2 _ _ _).mono BB.out.size)⟩
        case measure => simp [intOf]; omega
      | some v =>
        have HE : Hid (plc m.vs fr (k + 1) = c + 1) := Lib.hid HS.out
        clear HS
        go_wp2_with (first
          | (go_at_call 38; refine HN.out.mono ?_; rintro e w2 ⟨rfl, hb⟩; replace BB := Lib.hid (BB.out.trans (hb.mono BB.out.size)); clear hb HN)
          | (refine wpList_store_row rfl 85 _ _ rfl w2.heap.size _ rfl rfl 85 _ (heap_alloc_new w2 _) infoV rfl (one3 v) ?_))
        go_roundw
        case rel => exact ⟨k + 1, by omega, by go_num, by rw [HE.out]; exact congrArg (Value.int .i64) (by omega), BB.out.trans ((kept_new w2 _ _ _).mono BB.out.size)⟩
        case measure => simp [intOf]; omega
    · obtain rfl : k = n := by omega
      have pk : ¬ (k : Int) < (k : Int) := by omega
      go_wp2_with fail
      go_ret
      exact ⟨rfl, BB.out⟩
set_option maxRecDepth 100000 in
set_option maxHeartbeats 4000000 in
theorem read {base X : Nat} {m : Mo} {ar : Option Addr} {cr : Nat} {av : Option Addr} {cv : Nat} {w : World} (h : Dm base X m ar cr av cv w) (lba e : Int) :
    Calls Tryz.prog 29 #[.pointer (some ⟨X, 0, none⟩), .int .i64 lba, .int .i64 e] w fun x w' => x = .returned (.agg (anA (rd m lba e))) ∧ Below w.heap.size w w' := by
  obtain ⟨W1, hW1⟩ : ∃ W1, W1 = w.alloc (.cells #[.int .i64 0, .string ⟨#[]⟩, .int .i64 0, .int .i64 0, .int .i64 0, .int .i64 0, .int .i64 0, .int .i64 0] 39) := ⟨_, rfl⟩
  have BR : Hid (Below w.heap.size w W1 ∧ W1.heap[w.heap.size]? = some (.cells #[.int .i64 0, .string ⟨#[]⟩, .int .i64 0, .int .i64 0, .int .i64 0, .int .i64 0, .int .i64 0, .int .i64 0] 39 (0, 0))) := Lib.hid (by rw [hW1]; exact ⟨below_new w _, heap_alloc_new w _⟩)
  have DD := Lib.hid (h.step BR.out.1)
  have HT := Lib.hid (fun W (h : Dm base X m ar cr av cv W) => there_ h e false)
  have HN := Lib.hid (fun W (h : Dm base X m ar cr av cv W) => Newest h lba m.f e)
  have HG := Lib.hid (fun W (h : Dm base X m ar cr av cv W) t => Gone h t)
  obtain ⟨_, c1, c2, _⟩ := DD.out.cells
  unfold rd
  clear h
  by_cases h1 : lba < 0
  · rw [if_pos (.inl h1)]
    go_enter Tryz.func29, Tryz.ntmps29
    go_upto_region 1 with (fail)
    rw [← hW1]
    clear hW1
    go_wp2_with (refine wpList_store_row rfl 39 _ _ rfl w.heap.size _ rfl rfl 39 _ BR.out.2 infoA rfl (one8B 4 []) ?_)
    exact bodyPost_ret (v := .agg #[.int .i64 4, .string ⟨#[]⟩, .int .i64 0, .int .i64 0, .int .i64 0, .int .i64 0, .int .i64 0, .int .i64 0])
      (results_cell_row Tryz.results29 _ _ w.heap.size 39 _ (0, 0) _ rfl (setRow_same BR.out.2) Tryz.underlying39 rfl infoA) rfl ⟨rfl, below_setRow BR.out.1 (Nat.le_refl _) _⟩
  by_cases h2 : m.lb ≤ lba
  · rw [if_pos (.inr h2)]
    go_enter Tryz.func29, Tryz.ntmps29
    go_upto_region 1 with (fail)
    rw [← hW1]
    clear hW1
    go_wp2_with (refine wpList_store_row rfl 39 _ _ rfl w.heap.size _ rfl rfl 39 _ BR.out.2 infoA rfl (one8B 4 []) ?_)
    exact bodyPost_ret (v := .agg #[.int .i64 4, .string ⟨#[]⟩, .int .i64 0, .int .i64 0, .int .i64 0, .int .i64 0, .int .i64 0, .int .i64 0])
      (results_cell_row Tryz.results29 _ _ w.heap.size 39 _ (0, 0) _ rfl (setRow_same BR.out.2) Tryz.underlying39 rfl infoA) rfl ⟨rfl, below_setRow BR.out.1 (Nat.le_refl _) _⟩
  rw [if_neg (show ¬ (lba < 0 ∨ m.lb ≤ lba) by omega)]
  generalize there m e false = t at *
  by_cases h3 : t ≠ 0
  · rw [if_pos h3]
    have t3 : (t != 0) = true := by simpa using h3
    go_enter Tryz.func29, Tryz.ntmps29
    go_upto_region 1 with (fail)
    rw [← hW1]
    clear hW1
    go_wp2_with (first
      | (go_at_call 52; refine (HT.out _ DD.out).mono ?_; rintro e _ ⟨rfl, rfl⟩; clear HT)
      | (refine wpList_store_row rfl 39 _ _ rfl w.heap.size _ rfl rfl 39 _ BR.out.2 infoA rfl (one8B 7 []) ?_))
    exact bodyPost_ret (v := .agg #[.int .i64 7, .string ⟨#[]⟩, .int .i64 0, .int .i64 0, .int .i64 0, .int .i64 0, .int .i64 0, .int .i64 0])
      (results_cell_row Tryz.results29 _ _ w.heap.size 39 _ (0, 0) _ rfl (setRow_same BR.out.2) Tryz.underlying39 rfl infoA) rfl ⟨rfl, below_setRow BR.out.1 (Nat.le_refl _) _⟩
  rw [if_neg h3]
  have t3 : (t != 0) = false := by simpa using h3
  have HBm := Lib.hid (fun v (e2 : bst m.vs lba m.f e = some v) => bst_mem e2)
  clear h3
  generalize bst m.vs lba m.f e = b at *
  cases b with
  | none =>
    go_enter Tryz.func29, Tryz.ntmps29
    go_upto_region 1 with (fail)
    rw [← hW1]
    clear hW1
    go_upto_region 6 with (first
      | (go_at_call 52; refine (HT.out _ DD.out).mono ?_; rintro e _ ⟨rfl, rfl⟩; clear HT)
      | (go_at_call 38; refine (HN.out _ DD.out).mono ?_; rintro e w2 ⟨rfl, hb⟩; replace BR := Lib.hid (And.intro (BR.out.1.trans (hb.mono BR.out.1.size)) ((hb.block _ (RecC.lt_of_some BR.out.2)).trans BR.out.2)); clear hb HN c1 c2)
      | (refine wpList_store_row rfl 85 _ _ rfl w2.heap.size _ rfl rfl 85 _ (heap_alloc_new w2 _) infoV rfl (one3 v0) ?_))
    generalize hW : World.setRow _ _ _ = W5
    have b5 : Below w2.heap.size w2 W5 := by rw [← hW]; exact kept_new w2 _ _ _
    replace BR := Lib.hid (And.intro (BR.out.1.trans (b5.mono BR.out.1.size)) ((b5.block _ (RecC.lt_of_some BR.out.2)).trans BR.out.2))
    clear hW b5
    go_wp2_with (refine wpList_store_row rfl 39 _ _ rfl w.heap.size _ rfl rfl 39 _ BR.out.2 infoA rfl (one8B 7 []) ?_)
    exact bodyPost_ret (v := .agg #[.int .i64 7, .string ⟨#[]⟩, .int .i64 0, .int .i64 0, .int .i64 0, .int .i64 0, .int .i64 0, .int .i64 0])
      (results_cell_row Tryz.results29 _ _ w.heap.size 39 _ (0, 0) _ rfl (setRow_same BR.out.2) Tryz.underlying39 rfl infoA) rfl ⟨rfl, below_setRow BR.out.1 (Nat.le_refl _) _⟩
  | some v =>
    show Calls _ _ _ _ fun x w' => x = .returned (.agg (anA (if m.s.gone v.ep = true then anE 13 else anD v.da))) ∧ _
    cases hg : m.s.gone v.ep
    all_goals
      first | rw [if_neg (by decide)] | rw [if_pos rfl]
      have HGv := Lib.hid (fun W h => HG.out W h v.ep)
      rw [hg] at HGv
      clear HG
      go_enter Tryz.func29, Tryz.ntmps29
      go_upto_region 1 with (fail)
      rw [← hW1]
      clear hW1
      go_upto_region 6 with (first
        | (go_at_call 52; refine (HT.out _ DD.out).mono ?_; rintro e _ ⟨rfl, rfl⟩; clear HT)
        | (go_at_call 38; refine (HN.out _ DD.out).mono ?_; rintro e w2 ⟨rfl, hb⟩; replace BR := Lib.hid (And.intro (BR.out.1.trans (hb.mono BR.out.1.size)) ((hb.block _ (RecC.lt_of_some BR.out.2)).trans BR.out.2)); replace DD := Lib.hid (DD.out.step hb); clear hb HN c1 c2)
        | (refine wpList_store_row rfl 85 _ _ rfl w2.heap.size _ rfl rfl 85 _ (heap_alloc_new w2 _) infoV rfl (one3 v) ?_))
      generalize hW : World.setRow _ _ _ = W5
      have b5 : Below w2.heap.size w2 W5 := by rw [← hW]; exact kept_new w2 _ _ _
      have y5 : Bv W5 w2.heap.size v := by rw [← hW]; exact has_new w2 _ _ _
      replace BR := Lib.hid (And.intro (BR.out.1.trans (b5.mono BR.out.1.size)) ((b5.block _ (RecC.lt_of_some BR.out.2)).trans BR.out.2))
      replace DD := Lib.hid (DD.out.step b5)
      clear hW b5
      go_upto_region 8 with (fail)
      have bd : Below W5.heap.size W5 W5.drew := (Below.refl _ _).drew
      replace BR := Lib.hid (And.intro (BR.out.1.trans (bd.mono BR.out.1.size)) ((bd.block _ (RecC.lt_of_some BR.out.2)).trans BR.out.2))
      replace DD := Lib.hid (DD.out.step bd)
      have yd : Bv W5.drew w2.heap.size v := y5.step bd
      have yc : W5.drew.cell? ⟨w2.heap.size, 1, none⟩ = some (.int .i64 v.ep) ∧ W5.drew.cell? ⟨w2.heap.size, 2, none⟩ = some (.string ⟨v.da.toArray⟩) := ⟨blk_cell yd rfl, blk_cell yd rfl⟩
      clear bd y5 yd
      go_region_held3 (fun W => W.cell? ⟨w2.heap.size, 1, none⟩ = some (.int .i64 v.ep) ∧ W.cell? ⟨w2.heap.size, 2, none⟩ = some (.string ⟨v.da.toArray⟩))
        (exact yc) (first | (go_at_call 39; refine (HGv.out _ DD.out).mono ?_; rintro e _ ⟨rfl, rfl⟩; clear HGv))
      obtain ⟨yc1, yc2⟩ := yc
    · go_wp2_with (refine wpList_store_row rfl 39 _ _ rfl w.heap.size _ rfl rfl 39 _ BR.out.2 infoA rfl (one8B 0 v.da) ?_)
      exact bodyPost_ret (v := .agg #[.int .i64 0, .string ⟨v.da.toArray⟩, .int .i64 0, .int .i64 0, .int .i64 0, .int .i64 0, .int .i64 0, .int .i64 0])
        (results_cell_row Tryz.results29 _ _ w.heap.size 39 _ (0, 0) _ rfl (setRow_same BR.out.2) Tryz.underlying39 rfl infoA) rfl ⟨rfl, below_setRow BR.out.1 (Nat.le_refl _) _⟩
    · go_wp2_with (refine wpList_store_row rfl 39 _ _ rfl w.heap.size _ rfl rfl 39 _ BR.out.2 infoA rfl (one8B 13 []) ?_)
      exact bodyPost_ret (v := .agg #[.int .i64 13, .string ⟨#[]⟩, .int .i64 0, .int .i64 0, .int .i64 0, .int .i64 0, .int .i64 0, .int .i64 0])
        (results_cell_row Tryz.results29 _ _ w.heap.size 39 _ (0, 0) _ rfl (setRow_same BR.out.2) Tryz.underlying39 rfl infoA) rfl ⟨rfl, below_setRow BR.out.1 (Nat.le_refl _) _⟩
end Go.Proofs.YtopnodkdpehdoaaGreatDoor.MdF
