/- What slices.Repeat answers of a slice with the one number 8, for at most 8 times: the walk of its text. -/
import Derived.Test.YtkidehngleglnaaGreatDoorSlice
import Derived.Test.YtkidehngleglnaaGreatDoorRows
import Derived.Laws.CopyOwn
import Derived.Deep.RegionLaw
namespace Go.Proofs.YtkidehngleglnaaGreatDoor.DRep
open Go.RowKit
theorem info3 : (Tryz.prog.info? 3).map (fun i => (i.zero, i.size, i.bytes)) = some (some (.int .i64 0), 1, 8) := by kernel_rfl
theorem size3 : (Tryz.prog.info? 3).map (·.size) = some 1 := by kernel_rfl
theorem mul64 (z : Int) (h : z = 0 ∨ z = 1 ∨ z = 2 ∨ z = 3 ∨ z = 4 ∨ z = 5 ∨ z = 6 ∨ z = 7 ∨ z = 8) (w : World) :
    Calls Tryz.prog 99 #[.int .u64 1, .int .u64 z] w fun e w' => e = .returned (.tuple #[.int .u64 0, .int .u64 z]) ∧ w = w' := by
  rcases h with rfl | rfl | rfl | rfl | rfl | rfl | rfl | rfl | rfl
  all_goals
    go_enter Tryz.func99, Tryz.ntmps99
    go_wp2
    go_ret2
    exact ⟨rfl, rfl⟩
theorem mul (z : Int) (h : z = 0 ∨ z = 1 ∨ z = 2 ∨ z = 3 ∨ z = 4 ∨ z = 5 ∨ z = 6 ∨ z = 7 ∨ z = 8) (w : World) :
    Calls Tryz.prog 82 #[.int .u64 1, .int .u64 z] w fun e w' => e = .returned (.tuple #[.int .u64 0, .int .u64 z]) ∧ w = w' := by
  have H := Lib.hid (fun W => mul64 z h W)
  clear h
  go_enter Tryz.func82, Tryz.ntmps82
  go_wp2_with (go_at_call 99; refine (H.out _).mono ?_; rintro e w1 ⟨rfl, rfl⟩)
  go_ret2
  exact ⟨rfl, rfl⟩
/-- The row behind 'm' of 'c' numbers. -/
def row (m c : Nat) : List Value := List.replicate m (.int .i64 8) ++ List.replicate (c - m) (.int .i64 0)
theorem row_length (m c : Nat) (h : m ≤ c) : (row m c).length = c := by simp [row]; omega
theorem row_at (m c i : Nat) (h : i < m) : (row m c)[i]? = some (.int .i64 8) := by simp [row, List.getElem?_append, h]
theorem row_splice (m c k : Nat) (h : m + k ≤ c) : splice (row m c) m (List.replicate k (.int .i64 8)) = row (m + k) c := by
  unfold splice row
  rw [List.take_left' (by simp), List.length_replicate, List.drop_append, List.drop_eq_nil_of_le (by simp), List.nil_append, List.length_replicate, List.drop_replicate, ← List.append_assoc, List.replicate_append_replicate]
  congr 2
  omega
theorem row_first (c : Nat) (h : 1 ≤ c) : splice (List.replicate c (.int .i64 0)) 0 [Value.int .i64 8] = row 1 c := by
  have := row_splice 0 c 1 (by omega)
  simpa [row] using this
set_option maxHeartbeats 1000000 in
theorem some_ (b c : Nat) (w : World) (h1 : 1 ≤ c) (h8 : c ≤ 8) (hc : w.cell? ⟨b, 0, none⟩ = some (.int .i64 8)) :
    Calls Tryz.prog 103 #[.slice (some ⟨b, 0, none⟩) 1 1, .int .i64 c] w fun e w' => e = .returned (.slice (some ⟨w.heap.size, 0, none⟩) c c) ∧ w'.heap[w.heap.size]? = some (.cells (row c c).toArray 3 (0, 0)) ∧ Below w.heap.size w w' := by
  obtain ⟨i0, hi, hz0, hz1, hz2⟩ := info_parts info3
  have hmk : ∀ W : World, (Instr.makeSlice 73 (.int .i64 c) (.int .i64 c)).run Tryz.prog W = .ok (.slice (some ⟨W.heap.size, 0, none⟩) c c) (W.alloc (.cells (List.replicate c (.int .i64 0)).toArray 3)) := by
    intro W
    have := run_make (P := Tryz.prog) W 73 3 i0 (.int .i64 0) Tryz.underlying73 hi hz0 .i64 .i64 (c : Nat) (c : Nat) (by omega) (by omega) (by rw [hz2]; omega) (by omega)
    simp only [hz1, Value.cells, Int.toNat_natCast, Nat.mul_one] at this
    rw [this]
    have e : madeCells #[Value.int .i64 0] c = (List.replicate c (.int .i64 0)).toArray := by
      have h0 : ∀ i, i % 1 = 0 := fun i => by omega
      simp [madeCells, Array.ext_iff, h0]
    rw [e]
  clear hi hz0 hz1 hz2
  have hlt : b < w.heap.size := World.block_lt_of_cell? w _ hc
  have HM := Lib.hid (fun W => mul c (by omega) W)
  have HC := Lib.hid hc
  have HA : Hid ((w.alloc (.cells (List.replicate c (.int .i64 0)).toArray 3)).heap[w.heap.size]? = some (.cells (List.replicate c (Value.int .i64 0)).toArray 3 (0, 0))) := Lib.hid (heap_alloc_new w _)
  have HB : Hid (Below w.heap.size w (w.alloc (.cells (List.replicate c (.int .i64 0)).toArray 3))) := Lib.hid ((Below.refl w.heap.size w).alloc (Nat.le_refl _) _)
  clear hc
  have HF := Lib.hid (row_first c h1)
  have hzl : (List.replicate c (Value.int .i64 0)).length = c := List.length_replicate
  have HZ := Lib.hid hzl
  clear hzl
  generalize List.replicate c (Value.int .i64 0) = z at *
  go_enter Tryz.func103, Tryz.ntmps103
  go_wp2_with (first
    | (go_at_call 82; refine (HM.out _).mono ?_; rintro e w1 ⟨rfl, rfl⟩)
    | ((with_reducible refine wpList_copy_splice rfl (.tmp 31) (.tmp 32) 73 73 rfl 3 Tryz.underlying73 size3 _ _ _ _ _ _ rfl rfl w.heap.size 0 z 3 HA.out [.int .i64 8] ?_ ?_ ?_ ?_ w.heap.size w HB.out (Nat.le_refl _) ?_)))
  case refine_1 => simp [Nat.min_def]; omega
  case refine_2 =>
    intro j v hj
    match j, hj with
    | 0, hj => exact (HC.out).trans hj
  case refine_3 => show 0 + 1 ≤ z.length; rw [HZ.out]; omega
  case refine_4 => intro v hv; rw [List.mem_singleton.1 hv]; rfl
  intro w1 HG1 hb1
  rw [HF.out] at HG1
  have HB1 := Lib.hid hb1
  clear hb1
  clear HA HB HC HF HZ HM hmk
  go_wp2_with fail
  go_loopw [8] (fun i wr => ∃ m : Nat, 1 ≤ m ∧ m ≤ c ∧ i = .int .i64 m ∧ wr.heap[w.heap.size]? = some (.cells (row m c).toArray 3 (0, 0)) ∧ Below w.heap.size w wr) (fun i _ => c - (intOf i).toNat)
  case atStart => exact ⟨1, Nat.le_refl _, h1, rfl, HG1.out, HB1.out⟩
  case round =>
    obtain ⟨m, hm1, hm, rfl, hblk, hbel⟩ := hrel
    have HK := Lib.hid hblk
    have HL := Lib.hid hbel
    clear hblk hbel HG1 HB1
    by_cases hlt : m < c
    · obtain ⟨k, hk⟩ : ∃ k, k = min m (c - m) := ⟨_, rfl⟩
      have hk1 : 1 ≤ k := by omega
      have hkm : k ≤ m := by omega
      have hkc : m + k ≤ c := by omega
      have HX := Lib.hid hk
      have HS := Lib.hid (row_splice m c k hkc)
      have HXL : Hid ((List.replicate k (Value.int .i64 8)).length = k) := Lib.hid List.length_replicate
      clear hk
      have HXV : Hid (∀ v ∈ List.replicate k (Value.int .i64 8), v = .int .i64 8) := Lib.hid fun v hv => List.eq_of_mem_replicate hv
      generalize List.replicate k (Value.int .i64 8) = x at *
      have hcm : ¬ c = m := by omega
      go_wp2_with fail
      have hwr : IntKind.i64.wrap ((m : Int) + (k : Int)) = ((m + k : Nat) : Int) := by rw [IntWalk.i64_in _ (by omega)]; omega
      have hkd : wr.drew.heap[w.heap.size]? = some (.cells (row m c).toArray 3 (0, 0)) := HK.out
      have hbd : Below w.heap.size w wr.drew := HL.out.drew
      have HKD := Lib.hid hkd
      have HBD := Lib.hid hbd
      clear hkd hbd
      have hx1 : ∀ v ∈ x, v.oneCell' = true := by intro v hv; rw [HXV.out v hv]; rfl
      have hxs : ∀ j v, x[j]? = some v → wr.drew.cell? ((⟨w.heap.size, 0, none⟩ : Addr).add j) = some v := by
        intro j v hj
        have hjk : j < k := by rw [← HXL.out]; exact (List.getElem?_eq_some_iff.1 hj).1
        rw [HXV.out v (List.mem_of_getElem? hj)]
        rw [Go.WideShapes.add_plain, Nat.zero_add]
        exact blk_cell HKD.out (by rw [List.getElem?_toArray]; exact row_at m c j (by omega))
      have HX1 := Lib.hid hx1
      have HXS := Lib.hid hxs
      clear hx1 hxs
      go_region_law (refine step_copy_splice (by rfl) (.tmp 41) (.tmp 44) 73 73 (by rfl) 3 Tryz.underlying73 size3 (some ⟨w.heap.size, m, none⟩) (some ⟨w.heap.size, 0, none⟩) (c - m) (c - m) m c (by kernel_rfl) (by kernel_rfl) w.heap.size m (row m c) 3 HKD.out x ?c1 ?c2 ?c3 HX1.out w.heap.size w HBD.out (Nat.le_refl _) ?c4; (case c1 => first | (rw [HXL.out, HX.out]; done) | (rw [HXL.out, HX.out]; rfl)); (case c2 => intro _; exact ⟨rfl, _, rfl, HXS.out⟩); (case c3 => rw [HXL.out, row_length m c hm]; omega); intro w4 hg4 hb4; rw [HXL.out])
      rw [HS.out] at hg4
      have HG4 := Lib.hid hg4.out
      have HB4 := Lib.hid hb4
      clear hg4 hb4
      clear hwr
      go_simp
      go_roundw
      case rel =>
        refine ⟨_, _, _, _, _, _, _, _, _, _, _, _, _, _, ?_, rfl⟩
        exact ⟨m + k, by omega, hkc, by go_num, HG4.out, HB4.out⟩
      case measure => simp [intOf]; omega
    · obtain rfl : m = c := by omega
      go_wp2
      go_ret
      exact ⟨rfl, HK.out, HL.out⟩
theorem none_ (b : Nat) (w : World) :
    Calls Tryz.prog 103 #[.slice (some ⟨b, 0, none⟩) 1 1, .int .i64 0] w fun e w' => e = .returned (.slice (some ⟨w.heap.size, 0, none⟩) 0 0) ∧ w'.heap[w.heap.size]? = some (.cells (row 0 0).toArray 3 (0, 0)) ∧ Below w.heap.size w w' := by
  obtain ⟨i0, hi, hz0, hz1, hz2⟩ := info_parts info3
  have hmk : ∀ W : World, (Instr.makeSlice 73 (.int .i64 0) (.int .i64 0)).run Tryz.prog W = .ok (.slice (some ⟨W.heap.size, 0, none⟩) 0 0) (W.alloc (.cells #[] 3)) := by
    intro W
    have := run_make (P := Tryz.prog) W 73 3 i0 (.int .i64 0) Tryz.underlying73 hi hz0 .i64 .i64 (0 : Nat) (0 : Nat) (by omega) (by omega) (by rw [hz2]; omega) (by omega)
    simp only [hz1, Value.cells, Int.toNat_natCast, Nat.mul_one] at this
    rw [show madeCells #[Value.int .i64 0] 0 = #[] from by simp [madeCells]] at this
    exact this
  clear hi hz0 hz1 hz2
  have HM := Lib.hid (fun W => mul 0 (by omega) W)
  have HA : Hid ((w.alloc (.cells #[] 3)).heap[w.heap.size]? = some (.cells (row 0 0).toArray 3 (0, 0))) := Lib.hid (heap_alloc_new w _)
  have HB : Hid (Below w.heap.size w (w.alloc (.cells #[] 3))) := Lib.hid ((Below.refl w.heap.size w).alloc (Nat.le_refl _) _)
  go_enter Tryz.func103, Tryz.ntmps103
  go_wp2_with (first
    | (go_at_call 82; refine (HM.out _).mono ?_; rintro e w1 ⟨rfl, rfl⟩)
    | ((with_reducible refine wpList_copy_nothing rfl (.tmp 31) (.tmp 32) 73 73 rfl 3 Tryz.underlying73 size3 _ _ _ _ _ _ rfl rfl rfl ?_)))
  go_loopw [8] (fun i wr => i = .int .i64 0 ∧ wr = w.alloc (.cells #[] 3)) (fun _ _ => 0)
  case atStart => exact ⟨rfl, rfl⟩
  case round =>
    obtain ⟨rfl, rfl⟩ := hrel
    go_wp2
    go_ret
    exact ⟨rfl, HA.out, HB.out⟩
/-- THE CONTRACT of slices.Repeat, at a slice with the one number 8. -/
theorem any (b c : Nat) (w : World) (h8 : c ≤ 8) (hc : w.cell? ⟨b, 0, none⟩ = some (.int .i64 8)) :
    Calls Tryz.prog 103 #[.slice (some ⟨b, 0, none⟩) 1 1, .int .i64 c] w fun e w' => e = .returned (.slice (some ⟨w.heap.size, 0, none⟩) c c) ∧ w'.heap[w.heap.size]? = some (.cells (row c c).toArray 3 (0, 0)) ∧ Below w.heap.size w w' := by
  match c, h8 with
  | 0, _ => exact none_ b w
  | c + 1, h8 => exact some_ b (c + 1) w (by omega) h8 hc
end Go.Proofs.YtkidehngleglnaaGreatDoor.DRep
