/- receipt.Take and the document's Take: the walks of their texts. The condition: a text that a Go program may have. -/
import Derived.Test.YtkidehngleglnaaGreatDoorRcpT
import Derived.Test.YtkidehngleglnaaGreatDoorLRcp
import Derived.Test.YtkidehngleglnaaGreatDoorRcpD
import Derived.Test.YtkidehngleglnaaGreatDoorRecX
import Derived.Test.YtkidehngleglnaaGreatDoorLRef
import Derived.Deep.RegionHeld3
namespace Go.Proofs.YtkidehngleglnaaGreatDoor.RcpU
set_option linter.unusedVariables false
open Go.RowKit
open RecN RecC RecT RecU ChnN ChnM ChnC RcpN RcpC RcpT
open RcpM (Tz tz_new)
theorem bk_set {W : World} {X g : Nat} {r : Rec} {cs : Array Value} (h : Bk W X r) (hne : X ≠ g) : Bk (W.setRow g cs) X r := (setRow_other W g X cs hne).trans h
set_option maxRecDepth 100000 in
theorem Take_short (s : List UInt8) (w : World) (h : ¬ 68 ≤ s.length) :
    Calls Tryz.prog 10 #[.string ⟨s.toArray⟩] w fun e w' => e = .returned (.tuple #[.agg #[.int .i64 0, .int .i64 0, .int .i64 0, .int .i64 0, .int .i64 0, .int .i64 0, .int .i64 0, .string ⟨#[]⟩, .string ⟨#[]⟩, .string ⟨#[]⟩, .string ⟨#[]⟩], .string ⟨#[]⟩, .int .i64 3]) ∧ Below w.heap.size w w' := by
  obtain ⟨W1, hW1⟩ : ∃ W1, W1 = w.alloc (.cells #[.int .i64 0, .int .i64 0, .int .i64 0, .int .i64 0, .int .i64 0, .int .i64 0, .int .i64 0, .string ⟨#[]⟩, .string ⟨#[]⟩, .string ⟨#[]⟩, .string ⟨#[]⟩] 25) := ⟨_, rfl⟩
  have TT : Hid (Tz w W1) := Lib.hid (by rw [hW1]; exact tz_new w)
  have hz := size_mk s
  have p68 : (s.length : Int) < 68 := by omega
  clear h
  go_enter Tryz.func10, Tryz.ntmps10
  go_upto_region 1 with (fail)
  rw [← hW1]
  clear hW1
  go_wp2_with (refine wpList_store_row rfl 25 _ _ rfl w.heap.size _ rfl rfl 25 _ TT.out.k infoP rfl one11_0 ?_)
  refine bodyPost_ret (v := .tuple #[.agg #[.int .i64 0, .int .i64 0, .int .i64 0, .int .i64 0, .int .i64 0, .int .i64 0, .int .i64 0, .string ⟨#[]⟩, .string ⟨#[]⟩, .string ⟨#[]⟩, .string ⟨#[]⟩], .string ⟨#[]⟩, .int .i64 3])
    (results_cell_two Tryz.results10 _ _ w.heap.size 25 _ (0, 0) _ rfl (setRow_same TT.out.k) Tryz.underlying25 rfl infoP) rfl
    ⟨rfl, below_setRow TT.out.bel (Nat.le_refl _) _⟩
set_option maxRecDepth 100000 in
set_option maxHeartbeats 4000000 in
theorem Take_bad (s : List UInt8) (r : Rec) (rest : List UInt8) (z : Int) (w : World) (h : 68 ≤ s.length) (hm : s.length ≤ maxLen) (hr : (take_ (s.drop 68)).1 = r) (hrest : (take_ (s.drop 68)).2.1 = rest) (hcode : tc (s.drop 68) = z) (hb : (z != 0) = true ∨ ((z != 0) = false ∧ (r.k != 1) = true)) :
    Calls Tryz.prog 10 #[.string ⟨s.toArray⟩] w fun e w' => e = .returned (.tuple #[.agg #[.int .i64 0, .int .i64 0, .int .i64 0, .int .i64 0, .int .i64 0, .int .i64 0, .int .i64 0, .string ⟨#[]⟩, .string ⟨#[]⟩, .string ⟨#[]⟩, .string ⟨#[]⟩], .string ⟨#[]⟩, .int .i64 3]) ∧ Below w.heap.size w w' := by
  obtain ⟨W1, hW1⟩ : ∃ W1, W1 = w.alloc (.cells #[.int .i64 0, .int .i64 0, .int .i64 0, .int .i64 0, .int .i64 0, .int .i64 0, .int .i64 0, .string ⟨#[]⟩, .string ⟨#[]⟩, .string ⟨#[]⟩, .string ⟨#[]⟩] 25) := ⟨_, rfl⟩
  have TT : Hid (Tz w W1) := Lib.hid (by rw [hW1]; exact tz_new w)
  have hz := size_mk s
  have p68 : ¬ (s.length : Int) < 68 := by omega
  obtain ⟨s0, s1, s2, s3⟩ := slices s h
  have HG : Hid (∀ W, Calls Tryz.prog 25 #[.string ⟨(s.take 4).toArray⟩] W fun e w' => e = .returned (.tuple #[.int .i64 (num (s.take 4) : Nat), .int .i64 0]) ∧ W = w') := Lib.hid (fun W => by
    have := OGet.any ⟨(s.take 4).toArray⟩ W
    rw [show (⟨(s.take 4).toArray⟩ : ByteArray).data.toList = s.take 4 from rfl, (get_four s (by omega)).1] at this
    exact this)
  have HT := Lib.hid (fun W => RecU.Take (s.drop 68) W (by rw [List.length_drop]; omega))
  rw [hr, hrest, hcode] at HT
  generalize num (s.take 4) = q at *
  generalize s.take 4 = a4 at *
  generalize s.drop 68 = a68 at *
  generalize (s.drop 4).take 32 = b1 at *
  generalize (s.drop 36).take 32 = b2 at *
  clear hr hrest hcode
  clear h hm
  go_enter Tryz.func10, Tryz.ntmps10
  go_upto_region 1 with (fail)
  rw [← hW1]
  clear hW1
  go_upto_region 5 with (first
    | (go_at_call 25; refine (HG.out _).mono ?_; rintro e w4 ⟨rfl, rfl⟩; clear HG)
    | (go_at_call 26; refine (HT.out _).mono ?_; rintro e w5 ⟨rfl, hb⟩; replace TT := Lib.hid (TT.out.step hb); clear hb HT)
    | (refine wpList_store_row rfl 23 _ _ rfl w5.heap.size _ rfl rfl 23 _ (heap_alloc_new w5 _) infoR rfl (one8 r) ?_))
  have T6 := Lib.hid (TT.out.step (kept_new w5 #[.int .i64 0, .int .i64 0, .int .i64 0, .int .i64 0, .int .i64 0, .int .i64 0, .string ⟨#[]⟩, .string ⟨#[]⟩] #[.int .i64 r.k, .int .i64 r.ep, .int .i64 r.tm, .int .i64 r.ct, .int .i64 r.tg, .int .i64 r.un, .string ⟨r.rt.toArray⟩, .string ⟨r.nm.toArray⟩] 23))
  have K6 : Hid (Bk ((w5.alloc (.cells #[.int .i64 0, .int .i64 0, .int .i64 0, .int .i64 0, .int .i64 0, .int .i64 0, .string ⟨#[]⟩, .string ⟨#[]⟩] 23)).setRow w5.heap.size #[.int .i64 r.k, .int .i64 r.ep, .int .i64 r.tm, .int .i64 r.ct, .int .i64 r.tg, .int .i64 r.un, .string ⟨r.rt.toArray⟩, .string ⟨r.nm.toArray⟩]) w5.heap.size r) := Lib.hid (has_new w5 _ _ _)
  have hne : w5.heap.size ≠ w.heap.size := by have := lt_of_some TT.out.k; omega
  clear TT
  revert T6 K6 hne
  generalize World.setRow _ _ _ = W6
  generalize w5.heap.size = X7
  intro TT K6 hne
  obtain ⟨k0, k1, k2, k3, k4, k5, k6, k7⟩ := K6.out.cells
  rcases hb with h1 | ⟨h1, h2⟩
  all_goals
    go_wp2_with (refine wpList_store_row rfl 25 _ _ rfl w.heap.size _ rfl rfl 25 _ TT.out.k infoP rfl one11_0 ?_)
    refine bodyPost_ret (v := .tuple #[.agg #[.int .i64 0, .int .i64 0, .int .i64 0, .int .i64 0, .int .i64 0, .int .i64 0, .int .i64 0, .string ⟨#[]⟩, .string ⟨#[]⟩, .string ⟨#[]⟩, .string ⟨#[]⟩], .string ⟨#[]⟩, .int .i64 3])
      (results_cell_two Tryz.results10 _ _ w.heap.size 25 _ (0, 0) _ rfl (setRow_same TT.out.k) Tryz.underlying25 rfl infoP) rfl
      ⟨rfl, below_setRow TT.out.bel (Nat.le_refl _) _⟩
set_option maxRecDepth 100000 in
set_option maxHeartbeats 4000000 in
theorem Take_good (s : List UInt8) (r : Rec) (rest : List UInt8) (w : World) (h : 68 ≤ s.length) (hm : s.length ≤ maxLen) (hr : (take_ (s.drop 68)).1 = r) (hrest : (take_ (s.drop 68)).2.1 = rest) (hcode : tc (s.drop 68) = 0) (hk : r.k = 1) :
    Calls Tryz.prog 10 #[.string ⟨s.toArray⟩] w fun e w' => e = .returned (.tuple #[.agg #[.int .i64 (gotR s).q, .int .i64 (gotR s).r.k, .int .i64 (gotR s).r.ep, .int .i64 (gotR s).r.tm, .int .i64 (gotR s).r.ct, .int .i64 (gotR s).r.tg, .int .i64 (gotR s).r.un, .string ⟨(gotR s).r.rt.toArray⟩, .string ⟨(gotR s).r.nm.toArray⟩, .string ⟨(gotR s).was.toArray⟩, .string ⟨(gotR s).tag.toArray⟩], .string ⟨rest.toArray⟩, .int .i64 0]) ∧ Below w.heap.size w w' := by
  have HY : Hid (gotR s = ⟨(num (s.take 4) : Int), r, (s.drop 4).take 32, (s.drop 36).take 32⟩) := Lib.hid (by rw [gotR, hr])
  obtain ⟨W1, hW1⟩ : ∃ W1, W1 = w.alloc (.cells #[.int .i64 0, .int .i64 0, .int .i64 0, .int .i64 0, .int .i64 0, .int .i64 0, .int .i64 0, .string ⟨#[]⟩, .string ⟨#[]⟩, .string ⟨#[]⟩, .string ⟨#[]⟩] 25) := ⟨_, rfl⟩
  have TT : Hid (Tz w W1) := Lib.hid (by rw [hW1]; exact tz_new w)
  have hz := size_mk s
  have p68 : ¬ (s.length : Int) < 68 := by omega
  obtain ⟨s0, s1, s2, s3⟩ := slices s h
  have HG : Hid (∀ W, Calls Tryz.prog 25 #[.string ⟨(s.take 4).toArray⟩] W fun e w' => e = .returned (.tuple #[.int .i64 (num (s.take 4) : Nat), .int .i64 0]) ∧ W = w') := Lib.hid (fun W => by
    have := OGet.any ⟨(s.take 4).toArray⟩ W
    rw [show (⟨(s.take 4).toArray⟩ : ByteArray).data.toList = s.take 4 from rfl, (get_four s (by omega)).1] at this
    exact this)
  have HT := Lib.hid (fun W => RecU.Take (s.drop 68) W (by rw [List.length_drop]; omega))
  rw [hr, hrest, hcode] at HT
  generalize num (s.take 4) = q at *
  generalize s.take 4 = a4 at *
  generalize s.drop 68 = a68 at *
  generalize (s.drop 4).take 32 = b1 at *
  generalize (s.drop 36).take 32 = b2 at *
  clear hr hrest hcode
  have h2 : (r.k != 1) = false := by rw [hk]; rfl
  rw [HY.out]
  clear h hm HY hk
  go_enter Tryz.func10, Tryz.ntmps10
  go_upto_region 1 with (fail)
  rw [← hW1]
  clear hW1
  go_upto_region 5 with (first
    | (go_at_call 25; refine (HG.out _).mono ?_; rintro e w4 ⟨rfl, rfl⟩; clear HG)
    | (go_at_call 26; refine (HT.out _).mono ?_; rintro e w5 ⟨rfl, hb⟩; replace TT := Lib.hid (TT.out.step hb); clear hb HT)
    | (refine wpList_store_row rfl 23 _ _ rfl w5.heap.size _ rfl rfl 23 _ (heap_alloc_new w5 _) infoR rfl (one8 r) ?_))
  have T6 := Lib.hid (TT.out.step (kept_new w5 #[.int .i64 0, .int .i64 0, .int .i64 0, .int .i64 0, .int .i64 0, .int .i64 0, .string ⟨#[]⟩, .string ⟨#[]⟩] #[.int .i64 r.k, .int .i64 r.ep, .int .i64 r.tm, .int .i64 r.ct, .int .i64 r.tg, .int .i64 r.un, .string ⟨r.rt.toArray⟩, .string ⟨r.nm.toArray⟩] 23))
  have K6 : Hid (Bk ((w5.alloc (.cells #[.int .i64 0, .int .i64 0, .int .i64 0, .int .i64 0, .int .i64 0, .int .i64 0, .string ⟨#[]⟩, .string ⟨#[]⟩] 23)).setRow w5.heap.size #[.int .i64 r.k, .int .i64 r.ep, .int .i64 r.tm, .int .i64 r.ct, .int .i64 r.tg, .int .i64 r.un, .string ⟨r.rt.toArray⟩, .string ⟨r.nm.toArray⟩]) w5.heap.size r) := Lib.hid (has_new w5 _ _ _)
  have hne : w5.heap.size ≠ w.heap.size := by have := lt_of_some TT.out.k; omega
  clear TT
  revert T6 K6 hne
  generalize World.setRow _ _ _ = W6
  generalize w5.heap.size = X7
  intro TT K6 hne
  obtain ⟨k0, k1, k2, k3, k4, k5, k6, k7⟩ := K6.out.cells
  go_upto_region 7 with (fail)
  have T7 := Lib.hid (TT.out.step (Below.refl _ _).drew)
  have hS := (K6.out.drew).cells
  have hS3 := (bk_set (cs := #[.int .i64 (q : Int), .int .i64 r.k, .int .i64 r.ep, .int .i64 r.tm, .int .i64 r.ct, .int .i64 r.tg, .int .i64 r.un, .string ⟨r.rt.toArray⟩, .string ⟨r.nm.toArray⟩, .string ⟨b1.toArray⟩, .string ⟨b2.toArray⟩]) K6.out.drew hne).cells
  have N5 := Lib.hid T7.out.k
  clear k0 k1 k2 k3 k4 k5 k6 k7
  refine wp_region_held_drew (S := fun W' => W'.cell? ⟨X7, 0, none⟩ = some (.int .i64 r.k) ∧ W'.cell? ⟨X7, 1, none⟩ = some (.int .i64 r.ep) ∧ W'.cell? ⟨X7, 2, none⟩ = some (.int .i64 r.tm) ∧ W'.cell? ⟨X7, 3, none⟩ = some (.int .i64 r.ct) ∧ W'.cell? ⟨X7, 4, none⟩ = some (.int .i64 r.tg) ∧ W'.cell? ⟨X7, 5, none⟩ = some (.int .i64 r.un) ∧ W'.cell? ⟨X7, 6, none⟩ = some (.string ⟨r.rt.toArray⟩) ∧ W'.cell? ⟨X7, 7, none⟩ = some (.string ⟨r.nm.toArray⟩)) (by kernel_rfl) hS (fun _ => ?_)
  change wpAnyH _ _ _ _ _ _ #[false, false, false, false, false, false, false, false, false, false, false] _ _
  refine wpAnyH_take (i := 0) (v := ?v1) (by rw [List.getElem?_toArray]; rfl) (by kernel_rfl) (by kernel_rfl) (by kernel_rfl) (by intro _ _ _ h; exact h) (Or.inl ⟨by rfl, ?hy1⟩) (by assumption) ?rest1
  case hy1 => (intro W hSW; (try dsimp only at hSW); go_simp; try with_reducible rfl)
  try simp only [Act.put, List.setIfInBounds_toArray, List.set_cons_zero, List.set_cons_succ]
  refine wpAnyH_take (i := 1) (v := ?v2) (by rw [List.getElem?_toArray]; rfl) (by kernel_rfl) (by kernel_rfl) (by kernel_rfl) (by intro _ _ _ h; exact h) (Or.inl ⟨by rfl, ?hy2⟩) (by assumption) ?rest2
  case hy2 => (intro W hSW; (try dsimp only at hSW); go_simp; try with_reducible rfl)
  try simp only [Act.put, List.setIfInBounds_toArray, List.set_cons_zero, List.set_cons_succ]
  refine wpAnyH_take (i := 2) (v := ?v3) (by rw [List.getElem?_toArray]; rfl) (by kernel_rfl) (by kernel_rfl) (by kernel_rfl) (by intro _ _ _ h; exact h) (Or.inl ⟨by rfl, ?hy3⟩) (by assumption) ?rest3
  case hy3 => (intro W hSW; (try dsimp only at hSW); go_simp; try with_reducible rfl)
  try simp only [Act.put, List.setIfInBounds_toArray, List.set_cons_zero, List.set_cons_succ]
  refine wpAnyH_take (i := 3) (v := ?v4) (by rw [List.getElem?_toArray]; rfl) (by kernel_rfl) (by kernel_rfl) (by kernel_rfl) (by intro _ _ _ h; exact h) (Or.inl ⟨by rfl, ?hy4⟩) (by assumption) ?rest4
  case hy4 => (intro W hSW; (try dsimp only at hSW); go_simp; try with_reducible rfl)
  try simp only [Act.put, List.setIfInBounds_toArray, List.set_cons_zero, List.set_cons_succ]
  refine wpAnyH_take (i := 4) (v := ?v5) (by rw [List.getElem?_toArray]; rfl) (by kernel_rfl) (by kernel_rfl) (by kernel_rfl) (by intro _ _ _ h; exact h) (Or.inl ⟨by rfl, ?hy5⟩) (by assumption) ?rest5
  case hy5 => (intro W hSW; (try dsimp only at hSW); go_simp; try with_reducible rfl)
  try simp only [Act.put, List.setIfInBounds_toArray, List.set_cons_zero, List.set_cons_succ]
  refine wpAnyH_take (i := 5) (v := ?v6) (by rw [List.getElem?_toArray]; rfl) (by kernel_rfl) (by kernel_rfl) (by kernel_rfl) (by intro _ _ _ h; exact h) (Or.inl ⟨by rfl, ?hy6⟩) (by assumption) ?rest6
  case hy6 => (intro W hSW; (try dsimp only at hSW); go_simp; try with_reducible rfl)
  try simp only [Act.put, List.setIfInBounds_toArray, List.set_cons_zero, List.set_cons_succ]
  refine wpAnyH_take (i := 6) (v := ?v7) (by rw [List.getElem?_toArray]; rfl) (by kernel_rfl) (by kernel_rfl) (by kernel_rfl) (by intro _ _ _ h; exact h) (Or.inl ⟨by rfl, ?hy7⟩) (by assumption) ?rest7
  case hy7 => (intro W hSW; (try dsimp only at hSW); go_simp; try with_reducible rfl)
  try simp only [Act.put, List.setIfInBounds_toArray, List.set_cons_zero, List.set_cons_succ]
  refine wpAnyH_take (i := 7) (v := ?v8) (by rw [List.getElem?_toArray]; rfl) (by kernel_rfl) (by kernel_rfl) (by kernel_rfl) (by intro _ _ _ h; exact h) (Or.inl ⟨by rfl, ?hy8⟩) (by assumption) ?rest8
  case hy8 => (intro W hSW; (try dsimp only at hSW); go_simp; try with_reducible rfl)
  try simp only [Act.put, List.setIfInBounds_toArray, List.set_cons_zero, List.set_cons_succ]
  refine wpAnyH_ready (rs := [8]) (by kernel_rfl) (by simp) (AllReadyH.cons (by rw [List.getElem?_toArray]; rfl) (fun K hK => ?_) AllReadyH.nil)
  rw [if_pos (by rfl)]
  refine wp_store_row 25 _ _ rfl w.heap.size #[.int .i64 (q : Int), .int .i64 r.k, .int .i64 r.ep, .int .i64 r.tm, .int .i64 r.ct, .int .i64 r.tg, .int .i64 r.un, .string ⟨r.rt.toArray⟩, .string ⟨r.nm.toArray⟩, .string ⟨b1.toArray⟩, .string ⟨b2.toArray⟩] rfl rfl 25 #[.int .i64 0, .int .i64 0, .int .i64 0, .int .i64 0, .int .i64 0, .int .i64 0, .int .i64 0, .string ⟨#[]⟩, .string ⟨#[]⟩, .string ⟨#[]⟩, .string ⟨#[]⟩] N5.out infoP rfl (one11 ⟨(q : Int), r, b1, b2⟩) ?_
  refine hK.out _ _ hS3 (fun _ => ?_)
  clear hK K
  try simp only [Act.put, List.setIfInBounds_toArray, List.set_cons_zero, List.set_cons_succ]
  refine wpAnyH_take (i := 9) (v := ?v9) (by rw [List.getElem?_toArray]; rfl) (by kernel_rfl) (by kernel_rfl) (by kernel_rfl) (by intro _ _ _ h; exact h) (Or.inl ⟨by rfl, ?hy9⟩) (by assumption) ?rest9
  case hy9 => (intro W hSW; (try dsimp only at hSW); go_simp; try with_reducible rfl)
  try simp only [Act.put, List.setIfInBounds_toArray, List.set_cons_zero, List.set_cons_succ]
  refine wpAnyH_take (i := 10) (v := ?v10) (by rw [List.getElem?_toArray]; rfl) (by kernel_rfl) (by kernel_rfl) (by kernel_rfl) (by intro _ _ _ h; exact h) (Or.inl ⟨by rfl, ?hy10⟩) (by assumption) ?rest10
  case hy10 => (intro W hSW; (try dsimp only at hSW); go_simp; try with_reducible rfl)
  try simp only [Act.put, List.setIfInBounds_toArray, List.set_cons_zero, List.set_cons_succ]
  refine wpAnyH_done (by kernel_rfl) ?_ _
  go_wp2
  refine bodyPost_ret (v := .tuple #[.agg #[.int .i64 (q : Int), .int .i64 r.k, .int .i64 r.ep, .int .i64 r.tm, .int .i64 r.ct, .int .i64 r.tg, .int .i64 r.un, .string ⟨r.rt.toArray⟩, .string ⟨r.nm.toArray⟩, .string ⟨b1.toArray⟩, .string ⟨b2.toArray⟩], .string ⟨rest.toArray⟩, .int .i64 0])
    (results_cell_two Tryz.results10 _ _ w.heap.size 25 _ (0, 0) _ rfl (setRow_same N5.out) Tryz.underlying25 rfl infoP) rfl
    ⟨rfl, below_setRow T7.out.bel (Nat.le_refl _) _⟩
def tcode (s : List UInt8) : Int := if tookR s then 0 else 3
theorem tcode_yes {s : List UInt8} (h : tookR s) : tcode s = 0 := if_pos h
theorem tcode_no {s : List UInt8} (h : ¬ tookR s) : tcode s = 3 := if_neg h
/-- THE CONTRACT of Take. -/
theorem Take (s : List UInt8) (w : World) (hm : s.length ≤ maxLen) :
    Calls Tryz.prog 10 #[.string ⟨s.toArray⟩] w fun e w' => e = .returned (.tuple #[.agg #[.int .i64 (takeR s).1.q, .int .i64 (takeR s).1.r.k, .int .i64 (takeR s).1.r.ep, .int .i64 (takeR s).1.r.tm, .int .i64 (takeR s).1.r.ct, .int .i64 (takeR s).1.r.tg, .int .i64 (takeR s).1.r.un, .string ⟨(takeR s).1.r.rt.toArray⟩, .string ⟨(takeR s).1.r.nm.toArray⟩, .string ⟨(takeR s).1.was.toArray⟩, .string ⟨(takeR s).1.tag.toArray⟩], .string ⟨(takeR s).2.1.toArray⟩, .int .i64 (tcode s)]) ∧ Below w.heap.size w w' := by
  rcases take_ways s with ⟨h, hn⟩ | ⟨h, h2, hn⟩ | ⟨h, h2, h3, hn⟩ | ⟨h, h2, h3, hn⟩
  · rw [takeR_no hn, tcode_no hn]
    exact Take_short s w h
  · rw [takeR_no hn, tcode_no hn]
    exact Take_bad s _ _ _ w h hm rfl rfl rfl (.inl (by rw [tc_no h2]; rfl))
  · rw [takeR_no hn, tcode_no hn]
    exact Take_bad s _ _ _ w h hm rfl rfl rfl (.inr ⟨by rw [tc_yes h2]; rfl, by simpa using h3⟩)
  · rw [takeR_yes hn, tcode_yes hn]
    exact Take_good s _ _ w h hm rfl rfl (tc_yes h2) h3
set_option maxRecDepth 100000 in
theorem TakeR_short (s : List UInt8) (w : World) (h : ¬ 68 ≤ s.length) :
    Calls Tryz.prog 11 #[.string ⟨s.toArray⟩] w fun e w' => e = .returned (.tuple #[.agg #[.int .i64 0, .int .i64 0, .int .i64 0, .int .i64 0, .int .i64 0, .int .i64 0, .int .i64 0, .string ⟨#[]⟩, .string ⟨#[]⟩, .string ⟨#[]⟩, .string ⟨#[]⟩], .string ⟨#[]⟩, .bool false]) ∧ Below w.heap.size w w' := by
  obtain ⟨W1, hW1⟩ : ∃ W1, W1 = w.alloc (.cells #[.int .i64 0, .int .i64 0, .int .i64 0, .int .i64 0, .int .i64 0, .int .i64 0, .int .i64 0, .string ⟨#[]⟩, .string ⟨#[]⟩, .string ⟨#[]⟩, .string ⟨#[]⟩] 25) := ⟨_, rfl⟩
  have TT : Hid (Tz w W1) := Lib.hid (by rw [hW1]; exact tz_new w)
  have hz := size_mk s
  have p68 : (s.length : Int) < 68 := by omega
  clear h
  go_enter Tryz.func11, Tryz.ntmps11
  go_upto_region 1 with (fail)
  rw [← hW1]
  clear hW1
  go_wp2_with (refine wpList_store_row rfl 25 _ _ rfl w.heap.size _ rfl rfl 25 _ TT.out.k infoP rfl one11_0 ?_)
  refine bodyPost_ret (v := .tuple #[.agg #[.int .i64 0, .int .i64 0, .int .i64 0, .int .i64 0, .int .i64 0, .int .i64 0, .int .i64 0, .string ⟨#[]⟩, .string ⟨#[]⟩, .string ⟨#[]⟩, .string ⟨#[]⟩], .string ⟨#[]⟩, .bool false])
    (results_cell_two Tryz.results11 _ _ w.heap.size 25 _ (0, 0) _ rfl (setRow_same TT.out.k) Tryz.underlying25 rfl infoP) rfl
    ⟨rfl, below_setRow TT.out.bel (Nat.le_refl _) _⟩
set_option maxRecDepth 100000 in
set_option maxHeartbeats 4000000 in
theorem TakeR_any (s : List UInt8) (r : Rec) (rest : List UInt8) (z : Bool) (w : World) (h : 68 ≤ s.length) (hm : s.length ≤ maxLen) (hr : (take_ (s.drop 68)).1 = r) (hrest : (take_ (s.drop 68)).2.1 = rest) (hcode : decide (took (s.drop 68)) = z) (out : Array Value)
    (ho : (z = false ∧ out = #[.agg #[.int .i64 0, .int .i64 0, .int .i64 0, .int .i64 0, .int .i64 0, .int .i64 0, .int .i64 0, .string ⟨#[]⟩, .string ⟨#[]⟩, .string ⟨#[]⟩, .string ⟨#[]⟩], .string ⟨#[]⟩, .bool false]) ∨ (z = true ∧ decide (rok (gotR s)) = false ∧ out = #[.agg #[.int .i64 0, .int .i64 0, .int .i64 0, .int .i64 0, .int .i64 0, .int .i64 0, .int .i64 0, .string ⟨#[]⟩, .string ⟨#[]⟩, .string ⟨#[]⟩, .string ⟨#[]⟩], .string ⟨#[]⟩, .bool false]) ∨ (z = true ∧ decide (rok (gotR s)) = true ∧ out = #[.agg #[.int .i64 (gotR s).q, .int .i64 (gotR s).r.k, .int .i64 (gotR s).r.ep, .int .i64 (gotR s).r.tm, .int .i64 (gotR s).r.ct, .int .i64 (gotR s).r.tg, .int .i64 (gotR s).r.un, .string ⟨(gotR s).r.rt.toArray⟩, .string ⟨(gotR s).r.nm.toArray⟩, .string ⟨(gotR s).was.toArray⟩, .string ⟨(gotR s).tag.toArray⟩], .string ⟨rest.toArray⟩, .bool true])) :
    Calls Tryz.prog 11 #[.string ⟨s.toArray⟩] w fun e w' => e = .returned (.tuple out) ∧ Below w.heap.size w w' := by
  have HY : Hid (gotR s = ⟨(num (s.take 4) : Int), r, (s.drop 4).take 32, (s.drop 36).take 32⟩) := Lib.hid (by rw [gotR, hr])
  have HRt := Lib.hid (fun W => RcpD.Right (gotR s) W)
  generalize decide (rok (gotR s)) = g at *
  rw [HY.out] at HRt ho
  obtain ⟨W1, hW1⟩ : ∃ W1, W1 = w.alloc (.cells #[.int .i64 0, .int .i64 0, .int .i64 0, .int .i64 0, .int .i64 0, .int .i64 0, .int .i64 0, .string ⟨#[]⟩, .string ⟨#[]⟩, .string ⟨#[]⟩, .string ⟨#[]⟩] 25) := ⟨_, rfl⟩
  have TT : Hid (Tz w W1) := Lib.hid (by rw [hW1]; exact tz_new w)
  have hz := size_mk s
  have p68 : ¬ (s.length : Int) < 68 := by omega
  obtain ⟨s0, s1, s2, s3⟩ := slices s h
  have HG : Hid (∀ W, Calls Tryz.prog 27 #[.string ⟨(s.take 4).toArray⟩] W fun e w' => e = .returned (.tuple #[.int .i64 (num (s.take 4) : Nat), .int .i64 0]) ∧ W = w') := Lib.hid (fun W => by
    have := RGet.any ⟨(s.take 4).toArray⟩ W
    rw [show (⟨(s.take 4).toArray⟩ : ByteArray).data.toList = s.take 4 from rfl, (get_four s (by omega)).1] at this
    exact this)
  have HT := Lib.hid (fun W => RecX.Take (s.drop 68) W (by rw [List.length_drop]; omega))
  rw [hr, hrest, hcode] at HT
  generalize num (s.take 4) = q at *
  generalize s.take 4 = a4 at *
  generalize s.drop 68 = a68 at *
  generalize (s.drop 4).take 32 = b1 at *
  generalize (s.drop 36).take 32 = b2 at *
  clear hr hrest hcode
  dsimp only at HRt ho
  clear h hm HY
  go_enter Tryz.func11, Tryz.ntmps11
  go_upto_region 1 with (fail)
  rw [← hW1]
  clear hW1
  go_upto_region 5 with (first
    | (go_at_call 27; refine (HG.out _).mono ?_; rintro e w4 ⟨rfl, rfl⟩; clear HG)
    | (go_at_call 28; refine (HT.out _).mono ?_; rintro e w5 ⟨rfl, hb⟩; replace TT := Lib.hid (TT.out.step hb); clear hb HT)
    | (refine wpList_store_row rfl 23 _ _ rfl w5.heap.size _ rfl rfl 23 _ (heap_alloc_new w5 _) infoR rfl (one8 r) ?_))
  have T6 := Lib.hid (TT.out.step (kept_new w5 #[.int .i64 0, .int .i64 0, .int .i64 0, .int .i64 0, .int .i64 0, .int .i64 0, .string ⟨#[]⟩, .string ⟨#[]⟩] #[.int .i64 r.k, .int .i64 r.ep, .int .i64 r.tm, .int .i64 r.ct, .int .i64 r.tg, .int .i64 r.un, .string ⟨r.rt.toArray⟩, .string ⟨r.nm.toArray⟩] 23))
  have K6 : Hid (Bk ((w5.alloc (.cells #[.int .i64 0, .int .i64 0, .int .i64 0, .int .i64 0, .int .i64 0, .int .i64 0, .string ⟨#[]⟩, .string ⟨#[]⟩] 23)).setRow w5.heap.size #[.int .i64 r.k, .int .i64 r.ep, .int .i64 r.tm, .int .i64 r.ct, .int .i64 r.tg, .int .i64 r.un, .string ⟨r.rt.toArray⟩, .string ⟨r.nm.toArray⟩]) w5.heap.size r) := Lib.hid (has_new w5 _ _ _)
  have hne : w5.heap.size ≠ w.heap.size := by have := lt_of_some TT.out.k; omega
  clear TT
  revert T6 K6 hne
  generalize World.setRow _ _ _ = W6
  generalize w5.heap.size = X7
  intro TT K6 hne
  obtain ⟨k0, k1, k2, k3, k4, k5, k6, k7⟩ := K6.out.cells
  have T7 := Lib.hid (TT.out.step (Below.refl _ _).drew)
  have hS := (K6.out.drew).cells
  have hS1 := (K6.out.drew.step (below_new W6.drew (.cells #[.int .i64 0, .int .i64 0, .int .i64 0, .int .i64 0, .int .i64 0, .int .i64 0, .int .i64 0, .string ⟨#[]⟩, .string ⟨#[]⟩, .string ⟨#[]⟩, .string ⟨#[]⟩] 25))).cells
  have hS2 := (K6.out.drew.step (below_new W6.drew (.cells #[.int .i64 (q : Int), .int .i64 r.k, .int .i64 r.ep, .int .i64 r.tm, .int .i64 r.ct, .int .i64 r.tg, .int .i64 r.un, .string ⟨r.rt.toArray⟩, .string ⟨r.nm.toArray⟩, .string ⟨b1.toArray⟩, .string ⟨b2.toArray⟩] 25))).cells
  clear k0 k1 k2 k3 k4 k5 k6 k7
  go_region_held3 (fun W' => W'.cell? ⟨X7, 0, none⟩ = some (.int .i64 r.k) ∧ W'.cell? ⟨X7, 1, none⟩ = some (.int .i64 r.ep) ∧ W'.cell? ⟨X7, 2, none⟩ = some (.int .i64 r.tm) ∧ W'.cell? ⟨X7, 3, none⟩ = some (.int .i64 r.ct) ∧ W'.cell? ⟨X7, 4, none⟩ = some (.int .i64 r.tg) ∧ W'.cell? ⟨X7, 5, none⟩ = some (.int .i64 r.un) ∧ W'.cell? ⟨X7, 6, none⟩ = some (.string ⟨r.rt.toArray⟩) ∧ W'.cell? ⟨X7, 7, none⟩ = some (.string ⟨r.nm.toArray⟩))
    (first | exact hS | exact hS1 | exact hS2)
    (fail)
  have T8 : Hid (Tz w (W6.alloc (.cells #[.int .i64 (q : Int), .int .i64 r.k, .int .i64 r.ep, .int .i64 r.tm, .int .i64 r.ct, .int .i64 r.tg, .int .i64 r.un, .string ⟨r.rt.toArray⟩, .string ⟨r.nm.toArray⟩, .string ⟨b1.toArray⟩, .string ⟨b2.toArray⟩] 25)).drew) := Lib.hid ((TT.out.step (below_new W6 _)).step (Below.refl _ _).drew)
  have G8 : Hid (Br (W6.alloc (.cells #[.int .i64 (q : Int), .int .i64 r.k, .int .i64 r.ep, .int .i64 r.tm, .int .i64 r.ct, .int .i64 r.tg, .int .i64 r.un, .string ⟨r.rt.toArray⟩, .string ⟨r.nm.toArray⟩, .string ⟨b1.toArray⟩, .string ⟨b2.toArray⟩] 25)).drew W6.heap.size ⟨(q : Int), r, b1, b2⟩) := Lib.hid (heap_alloc_new W6 _)
  clear TT T7 hS hS1 hS2 K6
  revert T8 G8
  generalize World.drew (World.alloc _ _) = W8
  generalize W6.heap.size = X8
  intro TT G8
  obtain ⟨k0, k1, k2, k3, k4, k5, k6, k7, k8, k9, k10⟩ := G8.out.cells
  dsimp only at k0 k1 k2 k3 k4 k5 k6 k7 k8 k9 k10
  rcases ho with ⟨rfl, rfl⟩ | ⟨rfl, rfl, rfl⟩ | ⟨rfl, rfl, rfl⟩
  · go_wp2_with (refine wpList_store_row rfl 25 _ _ rfl w.heap.size _ rfl rfl 25 _ TT.out.k infoP rfl one11_0 ?_)
    refine bodyPost_ret (v := .tuple #[.agg #[.int .i64 0, .int .i64 0, .int .i64 0, .int .i64 0, .int .i64 0, .int .i64 0, .int .i64 0, .string ⟨#[]⟩, .string ⟨#[]⟩, .string ⟨#[]⟩, .string ⟨#[]⟩], .string ⟨#[]⟩, .bool false])
      (results_cell_two Tryz.results11 _ _ w.heap.size 25 _ (0, 0) _ rfl (setRow_same TT.out.k) Tryz.underlying25 rfl infoP) rfl
      ⟨rfl, below_setRow TT.out.bel (Nat.le_refl _) _⟩
  · go_wp2_with (first
      | (go_at_call 18; refine (HRt.out _).mono ?_; rintro e w9 ⟨rfl, hb⟩; replace TT := Lib.hid (TT.out.step hb); clear hb HRt k0 k1 k2 k3 k4 k5 k6 k7 k8 k9 k10)
      | (refine wpList_store_row rfl 25 _ _ rfl w.heap.size _ rfl rfl 25 _ TT.out.k infoP rfl one11_0 ?_))
    refine bodyPost_ret (v := .tuple #[.agg #[.int .i64 0, .int .i64 0, .int .i64 0, .int .i64 0, .int .i64 0, .int .i64 0, .int .i64 0, .string ⟨#[]⟩, .string ⟨#[]⟩, .string ⟨#[]⟩, .string ⟨#[]⟩], .string ⟨#[]⟩, .bool false])
      (results_cell_two Tryz.results11 _ _ w.heap.size 25 _ (0, 0) _ rfl (setRow_same TT.out.k) Tryz.underlying25 rfl infoP) rfl
      ⟨rfl, below_setRow TT.out.bel (Nat.le_refl _) _⟩
  · go_wp2_with (first
      | (go_at_call 18; refine (HRt.out _).mono ?_; rintro e w9 ⟨rfl, hb⟩; replace TT := Lib.hid (TT.out.step hb); replace G8 := Lib.hid (G8.out.step hb); clear hb HRt k0 k1 k2 k3 k4 k5 k6 k7 k8 k9 k10; obtain ⟨k0, k1, k2, k3, k4, k5, k6, k7, k8, k9, k10⟩ := G8.out.cells; dsimp only at k0 k1 k2 k3 k4 k5 k6 k7 k8 k9 k10)
      | (refine wpList_store_row rfl 25 _ _ rfl w.heap.size _ rfl rfl 25 _ TT.out.k infoP rfl (one11 ⟨(q : Int), r, b1, b2⟩) ?_))
    refine bodyPost_ret (v := .tuple #[.agg #[.int .i64 (q : Int), .int .i64 r.k, .int .i64 r.ep, .int .i64 r.tm, .int .i64 r.ct, .int .i64 r.tg, .int .i64 r.un, .string ⟨r.rt.toArray⟩, .string ⟨r.nm.toArray⟩, .string ⟨b1.toArray⟩, .string ⟨b2.toArray⟩], .string ⟨rest.toArray⟩, .bool true])
      (results_cell_two Tryz.results11 _ _ w.heap.size 25 _ (0, 0) _ rfl (setRow_same TT.out.k) Tryz.underlying25 rfl infoP) rfl
      ⟨rfl, below_setRow TT.out.bel (Nat.le_refl _) _⟩
/-- What the document's Take answers. -/
theorem TakeR (s : List UInt8) (w : World) (hm : s.length ≤ maxLen) :
    Calls Tryz.prog 11 #[.string ⟨s.toArray⟩] w fun e w' => e = .returned (.tuple #[.agg #[.int .i64 (takeR s).1.q, .int .i64 (takeR s).1.r.k, .int .i64 (takeR s).1.r.ep, .int .i64 (takeR s).1.r.tm, .int .i64 (takeR s).1.r.ct, .int .i64 (takeR s).1.r.tg, .int .i64 (takeR s).1.r.un, .string ⟨(takeR s).1.r.rt.toArray⟩, .string ⟨(takeR s).1.r.nm.toArray⟩, .string ⟨(takeR s).1.was.toArray⟩, .string ⟨(takeR s).1.tag.toArray⟩], .string ⟨(takeR s).2.1.toArray⟩, .bool (decide (tookR s))]) ∧ Below w.heap.size w w' := by
  rcases take_ways s with ⟨h, hn⟩ | ⟨h, h2, hn⟩ | ⟨h, h2, h3, hn⟩ | ⟨h, h2, h3, hn⟩
  · rw [takeR_no hn, df hn]
    exact TakeR_short s w h
  · rw [takeR_no hn, df hn]
    exact TakeR_any s _ _ _ w h hm rfl rfl (df h2) _ (.inl ⟨rfl, rfl⟩)
  · rw [takeR_no hn, df hn]
    exact TakeR_any s _ _ _ w h hm rfl rfl (dt h2) _ (.inr (.inl ⟨rfl, df (fun hh => h3 hh.2.1), rfl⟩))
  · rw [takeR_yes hn, dt hn]
    exact TakeR_any s _ _ _ w h hm rfl rfl (dt h2) _ (.inr (.inr ⟨rfl, dt hn.2.2, rfl⟩))
end Go.Proofs.YtkidehngleglnaaGreatDoor.RcpU
