/- An index of any row of versions; the chapter's example: the walks of their texts. No conditions but those that each lemma names. -/
import Derived.Test.YtnebbbloipdnbaaIdxB
namespace Go.Proofs.Ytnebbbloipdnbaa.IdxO
open Go.RowKit
open IdxN IdxM IdxC IdxD IdxF IdxH IdxI IdxK IdxJ IdxV IdxW IdxA IdxB
theorem ofL_succ (l : List V) (j : Nat) (h : j < l.length) : ofL (l.take (j + 1)) = add (ofL (l.take j)) l[j] := by rw [List.take_succ_eq_append_getElem h, ofL_snoc]
theorem Added.below {B X H : Nat} {v : Value} {r r' : List V} {W W' : World} (h : Ix B X H v r W) (k : Added B X H v r' W W') (hB : B ≤ W.heap.size) : Below B W W' := by
  obtain ⟨_, _, _, hk⟩ := k
  exact hk.below (fun i hi => (h.foot i hi).1) hB
set_option maxRecDepth 100000 in
set_option maxHeartbeats 1000000 in
theorem of (a : Option Addr) (c : Nat) (l : List V) (w : World) (h : Lies w a l) (hl : l.length ≤ 1000) : Calls Try.prog 22 #[.slice a l.length c] w (Made (ofL l) w) := by
  have HL := Lib.hid h
  have HN := Lib.hid (New w)
  clear h
  go_enter Try.func22, Try.ntmps22
  go_upto_region 3 with (go_at_call 8; refine HN.out.mono ?_; rintro e w1 ⟨X, H, v, rfl, hix, hb⟩)
  have IX := Lib.hid hix
  have B1 := Lib.hid hb
  clear hix hb HN
  go_loopw [9] (fun i wr => ∃ (j : Nat) (v : Value), j ≤ l.length ∧ i = .int .i64 j ∧ Ix w.heap.size X H v (ofL (l.take j)) wr ∧ Below w.heap.size w wr) (fun i _ => l.length - (intOf i).toNat)
  case atStart => exact ⟨0, v, Nat.zero_le _, rfl, IX.out, B1.out⟩
  case round =>
    clear IX B1
    obtain ⟨j, v, hj, rfl, hix, hb⟩ := hrel
    have IX := Lib.hid hix
    have BW := Lib.hid hb
    clear hix hb
    by_cases hlt : j < l.length
    · obtain ⟨g, o, rfl, hg, hat⟩ := (HL.out.step BW.out).at_ (by omega)
      obtain ⟨m0, m1, m2⟩ := hat j hlt
      have hjl : (j : Int) < (l.length : Int) := by omega
      have HS := Lib.hid (ofL_succ l j hlt)
      have hso := ofL_sorted (l.take j)
      have hle := ofL_length (l.take j)
      rw [List.length_take] at hle
      clear hat
      generalize ofL (l.take j) = r at *
      generalize l[j] = u at *
      have HA := Lib.hid (fun W (h : Ix w.heap.size X H v r W) => Add (B := w.heap.size) (X := X) (H := H) (v := v) (r := r) u W h hso (by omega))
      clear hso hle
      obtain ⟨u0, u1, u2⟩ := u
      dsimp only at m0 m1 m2 HA
      go_upto_region 5 with (refine wpList_store_row rfl 27 _ _ rfl wr.heap.size _ rfl rfl 27 _ (heap_alloc_new wr _) infoV rfl (one3 (u0, u1, u2)) ?_)
      generalize hW : World.setRow _ _ _ = W3
      have b3 : Below wr.heap.size wr W3 := by rw [← hW]; exact kept_new wr _ _ _
      have g3 : W3.heap[wr.heap.size]? = some (.cells #[.int .i64 u0, .int .i64 u1, .int .i64 u2] 27 (0, 0)) := by rw [← hW]; exact has_new wr _ _ _
      clear hW
      have k0 : W3.cell? ⟨wr.heap.size, 0, none⟩ = some (.int .i64 u0) := blk_cell g3 rfl
      have k1 : W3.cell? ⟨wr.heap.size, 1, none⟩ = some (.int .i64 u1) := blk_cell g3 rfl
      have k2 : W3.cell? ⟨wr.heap.size, 2, none⟩ = some (.int .i64 u2) := blk_cell g3 rfl
      have I3 := Lib.hid (IX.out.step b3)
      have B3 := Lib.hid (BW.out.trans (b3.mono BW.out.size))
      clear b3 g3 m0 m1 m2
      go_wp2_with (go_at_call 10; refine (HA.out _ I3.out).mono ?_; rintro e w4 ⟨rfl, hadd⟩; have D4 := Lib.hid hadd; clear hadd HA)
      go_roundw
      case rel =>
        obtain ⟨v', h1, h2, h3⟩ := D4.out
        exact ⟨j + 1, v', by omega, by go_num, by rw [HS.out]; exact h1, B3.out.trans (Added.below I3.out ⟨v', h1, h2, h3⟩ B3.out.size)⟩
      case measure => simp [intOf]; omega
    · obtain rfl : j = l.length := by omega
      rw [List.take_length] at IX
      go_wp2_with fail
      go_ret
      exact ⟨X, H, v, rfl, IX.out, BW.out⟩
def ex : List V := [(1, 0, 5), (1, 2, 9), (1, 0, 7)]
theorem ex_newest : newest (ofL ex) 1 1 = ((1, 0, 7), true) := by decide +kernel
set_option maxRecDepth 100000 in
set_option maxHeartbeats 1000000 in
/-- The chapter's example. -/
theorem alive (w : World) : Calls Try.prog 7 #[] w fun e w' => e = .returned (.bool true) ∧ Below w.heap.size w w' := by
  have HO := Lib.hid (fun a c W (h : Lies W a ex) => of a c ex W h (by decide))
  have hex : ex.length = 3 := rfl
  rw [hex] at HO
  have HN := Lib.hid (fun X W (h : Rd (some ⟨X, 0, none⟩) (ofL ex) W) => Newest (some ⟨X, 0, none⟩) (ofL ex) 1 1 W h (by have := ofL_length ex; rw [hex] at this; omega) (ofL_sorted ex))
  rw [ex_newest] at HN
  have hE := fun W => run_eql_ver W (1, 0, 7) (1, 0, 7)
  have hd : decide (((1, 0, 7) : V) = (1, 0, 7)) = true := decide_eq_true rfl
  rw [hd] at hE
  dsimp only at hE
  have HL := Lib.hid (show Lies (w.alloc (.cells (rc ex).toArray 27)) (some ⟨w.heap.size, 0, none⟩) ex from fun _ => ⟨_, _, rfl, by simp, fun j u hj => by
    rw [Nat.zero_add]
    exact blk_cell (heap_alloc_new w _) (by rw [← Array.getElem?_toList]; exact hj)⟩)
  obtain ⟨W1, hW1⟩ : ∃ W1, W1 = w.alloc (.cells (rc ex).toArray 27) := ⟨_, rfl⟩
  have B1 := Lib.hid (show Below w.heap.size w W1 by rw [hW1]; exact below_new w _)
  rw [← hW1] at HL
  have hrc : (rc ex).toArray = #[.int .i64 1, .int .i64 0, .int .i64 5, .int .i64 1, .int .i64 2, .int .i64 9, .int .i64 1, .int .i64 0, .int .i64 7] := rfl
  rw [hrc] at hW1
  clear hd hex hrc
  go_enter Try.func7, Try.ntmps7
  go_upto_region 2 with (first
    | (go_at_call 22; rw [← hW1]; refine (HO.out _ _ _ HL.out).mono ?_; rintro e w2 ⟨X, H, v, rfl, hix, hb⟩; have R2 := Lib.hid (Ix.rd hix); have B2 := Lib.hid (B1.out.trans (hb.mono B1.out.size)); clear hix hb)
    | (go_at_call 11; refine (HN.out _ _ R2.out).mono ?_; rintro e w3 ⟨rfl, hb⟩; have B3 := Lib.hid (B2.out.trans (hb.mono B2.out.size)); clear hb)
    | (refine wpList_store_row rfl 27 _ _ rfl w3.heap.size _ rfl rfl 27 _ (heap_alloc_new w3 _) infoV rfl (one3 (1, 0, 7)) ?_))
  generalize hW : World.setRow _ _ _ = W4
  have b4 : Below w3.heap.size w3 W4 := by rw [← hW]; exact kept_new w3 _ _ _
  have g4 : W4.heap[w3.heap.size]? = some (.cells #[.int .i64 1, .int .i64 0, .int .i64 7] 27 (0, 0)) := by rw [← hW]; exact has_new w3 _ _ _
  have k0 : W4.cell? ⟨w3.heap.size, 0, none⟩ = some (.int .i64 1) := blk_cell g4 rfl
  have k1 : W4.cell? ⟨w3.heap.size, 1, none⟩ = some (.int .i64 0) := blk_cell g4 rfl
  have k2 : W4.cell? ⟨w3.heap.size, 2, none⟩ = some (.int .i64 7) := blk_cell g4 rfl
  have B4 := Lib.hid (B3.out.trans (b4.mono B3.out.size))
  clear hW b4 g4 hW1
  go_wp2
  go_ret
  exact ⟨rfl, B4.out⟩
end Go.Proofs.Ytnebbbloipdnbaa.IdxO
