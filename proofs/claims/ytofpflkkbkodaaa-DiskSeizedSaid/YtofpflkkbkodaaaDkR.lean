/- What slices.Repeat answers of a slice with one text, for 1 to 1024 times: the walk of its text; math/bits.Mul by the library's own contract. -/
import Derived.Test.YtofpflkkbkodaaaDkW
import Derived.Test.YtofpflkkbkodaaaShelf
import Derived.Laws.CopyOwn
import Derived.Deep.RegionLaw
namespace Go.Proofs.Ytofpflkkbkodaaa.DkR
open Go.RowKit
open DkN DkM
theorem info9 : (Try.prog.info? 9).map (fun i => (i.zero, i.size, i.bytes)) = some (some (.string ⟨#[]⟩), 1, 16) := by kernel_rfl
theorem size9 : (Try.prog.info? 9).map (·.size) = some 1 := by kernel_rfl
theorem mul (c : Nat) (h : c ≤ 1024) (w : World) :
    Calls Try.prog 55 #[.int .u64 1, .int .u64 c] w fun e w' => e = .returned (.tuple #[.int .u64 0, .int .u64 c]) ∧ w = w' := by
  have H := Try.bits_Mul 1 c (by omega) (by omega) w
  rw [Nat.one_mul, Nat.mod_eq_of_lt (by omega), Nat.div_eq_of_lt (by omega)] at H
  exact H.mono fun _ _ ⟨h1, h2⟩ => ⟨h1, h2.symm⟩
/-- The row behind 'm' of 'c' texts. -/
def row (s : ByteArray) (m c : Nat) : List Value := List.replicate m (.string s) ++ List.replicate (c - m) (.string ⟨#[]⟩)
theorem row_length (s : ByteArray) (m c : Nat) (h : m ≤ c) : (row s m c).length = c := by simp [row]; omega
theorem row_at (s : ByteArray) (m c i : Nat) (h : i < m) : (row s m c)[i]? = some (.string s) := by simp [row, List.getElem?_append, h]
theorem row_splice (s : ByteArray) (m c k : Nat) (h : m + k ≤ c) : splice (row s m c) m (List.replicate k (.string s)) = row s (m + k) c := by
  unfold splice row
  rw [List.take_left' (by simp), List.length_replicate, List.drop_append, List.drop_eq_nil_of_le (by simp), List.nil_append, List.length_replicate, List.drop_replicate, ← List.append_assoc, List.replicate_append_replicate]
  congr 2
  omega
theorem row_first (s : ByteArray) (c : Nat) (h : 1 ≤ c) : splice (List.replicate c (.string ⟨#[]⟩)) 0 [Value.string s] = row s 1 c := by
  have := row_splice s 0 c 1 (by omega)
  simpa [row] using this
set_option maxHeartbeats 1000000 in
theorem some_ (s : ByteArray) (b c : Nat) (w : World) (h1 : 1 ≤ c) (h8 : c ≤ 1024) (hc : w.cell? ⟨b, 0, none⟩ = some (.string s)) :
    Calls Try.prog 32 #[.slice (some ⟨b, 0, none⟩) 1 1, .int .i64 c] w fun e w' => e = .returned (.slice (some ⟨w.heap.size, 0, none⟩) c c) ∧ w'.heap[w.heap.size]? = some (.cells (row s c c).toArray 9 (0, 0)) ∧ Below w.heap.size w w' := by
  obtain ⟨i0, hi, hz0, hz1, hz2⟩ := info_parts info9
  have hmk : ∀ W : World, (Instr.makeSlice 36 (.int .i64 c) (.int .i64 c)).run Try.prog W = .ok (.slice (some ⟨W.heap.size, 0, none⟩) c c) (W.alloc (.cells (List.replicate c (.string ⟨#[]⟩)).toArray 9)) := by
    intro W
    have := run_make (P := Try.prog) W 36 9 i0 (.string ⟨#[]⟩) Try.underlying36 hi hz0 .i64 .i64 (c : Nat) (c : Nat) (by omega) (by omega) (by rw [hz2]; omega) (by omega)
    simp only [hz1, Value.cells, Int.toNat_natCast, Nat.mul_one] at this
    rw [this]
    have e : madeCells #[Value.string ⟨#[]⟩] c = (List.replicate c (.string ⟨#[]⟩)).toArray := by
      have h0 : ∀ i, i % 1 = 0 := fun i => by omega
      simp [madeCells, Array.ext_iff, h0]
    rw [e]
  clear hi hz0 hz1 hz2
  have hlt : b < w.heap.size := World.block_lt_of_cell? w _ hc
  have HM := Lib.hid (fun W => mul c (by omega) W)
  have HC := Lib.hid hc
  have HA : Hid ((w.alloc (.cells (List.replicate c (.string ⟨#[]⟩)).toArray 9)).heap[w.heap.size]? = some (.cells (List.replicate c (Value.string ⟨#[]⟩)).toArray 9 (0, 0))) := Lib.hid (heap_alloc_new w _)
  have HB : Hid (Below w.heap.size w (w.alloc (.cells (List.replicate c (.string ⟨#[]⟩)).toArray 9))) := Lib.hid ((Below.refl w.heap.size w).alloc (Nat.le_refl _) _)
  clear hc
  have HF := Lib.hid (row_first s c h1)
  have hzl : (List.replicate c (Value.string ⟨#[]⟩)).length = c := List.length_replicate
  have HZ := Lib.hid hzl
  clear hzl
  generalize List.replicate c (Value.string ⟨#[]⟩) = z at *
  go_enter Try.func32, Try.ntmps32
  go_wp2_with (first
    | (go_at_call 55; refine (HM.out _).mono ?_; rintro e w1 ⟨rfl, rfl⟩)
    | ((with_reducible refine wpList_copy_splice rfl (.tmp 31) (.tmp 32) 36 36 rfl 9 Try.underlying36 size9 _ _ _ _ _ _ rfl rfl w.heap.size 0 z 9 HA.out [.string s] ?_ ?_ ?_ ?_ w.heap.size w HB.out (Nat.le_refl _) ?_)))
  case refine_1 => simp [Nat.min_def]; omega
  case refine_2 =>
    intro j v hj
    match j, hj with
    | 0, hj => exact (HC.out).trans hj
  case refine_3 => show 0 + 1 ≤ z.length; rw [HZ.out]; omega
  case refine_4 => intro v hv; rw [List.mem_singleton.1 hv]; rfl
  intro w1 HG1 hb1
  rw [HF.out] at HG1
  have HB1 := Lib.hid hb1
  clear hb1
  clear HA HB HC HF HZ HM hmk
  go_wp2_with fail
  go_loopw [8] (fun i wr => ∃ m : Nat, 1 ≤ m ∧ m ≤ c ∧ i = .int .i64 m ∧ wr.heap[w.heap.size]? = some (.cells (row s m c).toArray 9 (0, 0)) ∧ Below w.heap.size w wr) (fun i _ => c - (intOf i).toNat)
  case atStart => exact ⟨1, Nat.le_refl _, h1, rfl, HG1.out, HB1.out⟩
  case round =>
    obtain ⟨m, hm1, hm, rfl, hblk, hbel⟩ := hrel
    have HK := Lib.hid hblk
    have HL := Lib.hid hbel
    clear hblk hbel HG1 HB1
    by_cases hlt : m < c
    · obtain ⟨k, hk⟩ : ∃ k, k = min m (c - m) := ⟨_, rfl⟩
      have hk1 : 1 ≤ k := by omega
      have hkm : k ≤ m := by omega
      have hkc : m + k ≤ c := by omega
      have HX := Lib.hid hk
      have HS := Lib.hid (row_splice s m c k hkc)
      have HXL : Hid ((List.replicate k (Value.string s)).length = k) := Lib.hid List.length_replicate
      clear hk
      have HXV : Hid (∀ v ∈ List.replicate k (Value.string s), v = .string s) := Lib.hid fun v hv => List.eq_of_mem_replicate hv
      generalize List.replicate k (Value.string s) = x at *
      have hcm : ¬ c = m := by omega
      go_wp2_with fail
      have hwr : IntKind.i64.wrap ((m : Int) + (k : Int)) = ((m + k : Nat) : Int) := by rw [IntWalk.i64_in _ (by omega)]; omega
      have hkd : wr.drew.heap[w.heap.size]? = some (.cells (row s m c).toArray 9 (0, 0)) := HK.out
      have hbd : Below w.heap.size w wr.drew := HL.out.drew
      have HKD := Lib.hid hkd
      have HBD := Lib.hid hbd
      clear hkd hbd
      have hx1 : ∀ v ∈ x, v.oneCell' = true := by intro v hv; rw [HXV.out v hv]; rfl
      have hxs : ∀ j v, x[j]? = some v → wr.drew.cell? ((⟨w.heap.size, 0, none⟩ : Addr).add j) = some v := by
        intro j v hj
        have hjk : j < k := by rw [← HXL.out]; exact (List.getElem?_eq_some_iff.1 hj).1
        rw [HXV.out v (List.mem_of_getElem? hj)]
        rw [Go.WideShapes.add_plain, Nat.zero_add]
        exact blk_cell HKD.out (by rw [List.getElem?_toArray]; exact row_at s m c j (by omega))
      have HX1 := Lib.hid hx1
      have HXS := Lib.hid hxs
      clear hx1 hxs
      go_region_law (refine step_copy_splice (by rfl) (.tmp 41) (.tmp 44) 36 36 (by rfl) 9 Try.underlying36 size9 (some ⟨w.heap.size, m, none⟩) (some ⟨w.heap.size, 0, none⟩) (c - m) (c - m) m c (by kernel_rfl) (by kernel_rfl) w.heap.size m (row s m c) 9 HKD.out x ?c1 ?c2 ?c3 HX1.out w.heap.size w HBD.out (Nat.le_refl _) ?c4; (case c1 => first | (rw [HXL.out, HX.out]; done) | (rw [HXL.out, HX.out]; rfl)); (case c2 => intro _; exact ⟨rfl, _, rfl, HXS.out⟩); (case c3 => rw [HXL.out, row_length s m c hm]; omega); intro w4 hg4 hb4; rw [HXL.out])
      rw [HS.out] at hg4
      have HG4 := Lib.hid hg4.out
      have HB4 := Lib.hid hb4
      clear hg4 hb4
      clear hwr
      go_simp
      go_roundw
      case rel =>
        refine ⟨_, _, _, _, _, _, _, _, _, _, _, _, _, _, ?_, rfl⟩
        exact ⟨m + k, by omega, hkc, by go_num, HG4.out, HB4.out⟩
      case measure => simp [intOf]; omega
    · obtain rfl : m = c := by omega
      go_wp2
      go_ret
      exact ⟨rfl, HK.out, HL.out⟩
end Go.Proofs.Ytofpflkkbkodaaa.DkR
