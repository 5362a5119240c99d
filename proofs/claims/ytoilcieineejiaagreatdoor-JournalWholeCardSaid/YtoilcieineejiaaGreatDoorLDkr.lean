/- DkR DkNew DkT DkF: one behind the other. -/
import Derived.Test.YtoilcieineejiaaGreatDoorLDkm
import Derived.Test.YtoilcieineejiaaGreatDoorShelf
import Derived.Laws.CopyOwn
import Derived.Deep.RegionLaw
import Derived.BigRegion
import Derived.Maps.OwnSet
/- What slices.Repeat answers of a slice with one text, for 1 to 1024 times: the walk of its text; math/bits.Mul by the library's own contract. -/
namespace Go.Proofs.YtoilcieineejiaaGreatDoor.DkR
open Go.RowKit
open DkN DkM
theorem info9 : (Tryz.prog.info? 9).map (fun i => (i.zero, i.size, i.bytes)) = some (some (.string ⟨#[]⟩), 1, 16) := by kernel_rfl
theorem size9 : (Tryz.prog.info? 9).map (·.size) = some 1 := by kernel_rfl
theorem mul (c : Nat) (h : c ≤ 1024) (w : World) :
    Calls Tryz.prog 66 #[.int .u64 1, .int .u64 c] w fun e w' => e = .returned (.tuple #[.int .u64 0, .int .u64 c]) ∧ w = w' := by
  have H := Tryz.bits_Mul 1 c (by omega) (by omega) w
  rw [Nat.one_mul, Nat.mod_eq_of_lt (by omega), Nat.div_eq_of_lt (by omega)] at H
  exact H.mono fun _ _ ⟨h1, h2⟩ => ⟨h1, h2.symm⟩
/-- The row behind 'm' of 'c' texts. -/
def row (s : ByteArray) (m c : Nat) : List Value := List.replicate m (.string s) ++ List.replicate (c - m) (.string ⟨#[]⟩)
theorem row_length (s : ByteArray) (m c : Nat) (h : m ≤ c) : (row s m c).length = c := by simp [row]; omega
theorem row_at (s : ByteArray) (m c i : Nat) (h : i < m) : (row s m c)[i]? = some (.string s) := by simp [row, List.getElem?_append, h]
theorem row_splice (s : ByteArray) (m c k : Nat) (h : m + k ≤ c) : splice (row s m c) m (List.replicate k (.string s)) = row s (m + k) c := by
  unfold splice row
  rw [List.take_left' (by simp), List.length_replicate, List.drop_append, List.drop_eq_nil_of_le (by simp), List.nil_append, List.length_replicate, List.drop_replicate, ← List.append_assoc, List.replicate_append_replicate]
  congr 2
  omega
theorem row_first (s : ByteArray) (c : Nat) (h : 1 ≤ c) : splice (List.replicate c (.string ⟨#[]⟩)) 0 [Value.string s] = row s 1 c := by
  have := row_splice s 0 c 1 (by omega)
  simpa [row] using this
set_option maxHeartbeats 1000000 in
theorem some_ (s : ByteArray) (b c : Nat) (w : World) (h1 : 1 ≤ c) (h8 : c ≤ 1024) (hc : w.cell? ⟨b, 0, none⟩ = some (.string s)) :
    Calls Tryz.prog 33 #[.slice (some ⟨b, 0, none⟩) 1 1, .int .i64 c] w fun e w' => e = .returned (.slice (some ⟨w.heap.size, 0, none⟩) c c) ∧ w'.heap[w.heap.size]? = some (.cells (row s c c).toArray 9 (0, 0)) ∧ Below w.heap.size w w' := by
  obtain ⟨i0, hi, hz0, hz1, hz2⟩ := info_parts info9
  have hmk : ∀ W : World, (Instr.makeSlice 34 (.int .i64 c) (.int .i64 c)).run Tryz.prog W = .ok (.slice (some ⟨W.heap.size, 0, none⟩) c c) (W.alloc (.cells (List.replicate c (.string ⟨#[]⟩)).toArray 9)) := by
    intro W
    have := run_make (P := Tryz.prog) W 34 9 i0 (.string ⟨#[]⟩) Tryz.underlying34 hi hz0 .i64 .i64 (c : Nat) (c : Nat) (by omega) (by omega) (by rw [hz2]; omega) (by omega)
    simp only [hz1, Value.cells, Int.toNat_natCast, Nat.mul_one] at this
    rw [this]
    have e : madeCells #[Value.string ⟨#[]⟩] c = (List.replicate c (.string ⟨#[]⟩)).toArray := by
      have h0 : ∀ i, i % 1 = 0 := fun i => by omega
      simp [madeCells, Array.ext_iff, h0]
    rw [e]
  clear hi hz0 hz1 hz2
  have hlt : b < w.heap.size := World.block_lt_of_cell? w _ hc
  have HM := Lib.hid (fun W => mul c (by omega) W)
  have HC := Lib.hid hc
  have HA : Hid ((w.alloc (.cells (List.replicate c (.string ⟨#[]⟩)).toArray 9)).heap[w.heap.size]? = some (.cells (List.replicate c (Value.string ⟨#[]⟩)).toArray 9 (0, 0))) := Lib.hid (heap_alloc_new w _)
  have HB : Hid (Below w.heap.size w (w.alloc (.cells (List.replicate c (.string ⟨#[]⟩)).toArray 9))) := Lib.hid ((Below.refl w.heap.size w).alloc (Nat.le_refl _) _)
  clear hc
  have HF := Lib.hid (row_first s c h1)
  have hzl : (List.replicate c (Value.string ⟨#[]⟩)).length = c := List.length_replicate
  have HZ := Lib.hid hzl
  clear hzl
  generalize List.replicate c (Value.string ⟨#[]⟩) = z at *
  go_enter Tryz.func33, Tryz.ntmps33
  go_wp2_with (first
    | (go_at_call 66; refine (HM.out _).mono ?_; rintro e w1 ⟨rfl, rfl⟩)
    | ((with_reducible refine wpList_copy_splice rfl (.tmp 31) (.tmp 32) 34 34 rfl 9 Tryz.underlying34 size9 _ _ _ _ _ _ rfl rfl w.heap.size 0 z 9 HA.out [.string s] ?_ ?_ ?_ ?_ w.heap.size w HB.out (Nat.le_refl _) ?_)))
  case refine_1 => simp [Nat.min_def]; omega
  case refine_2 =>
    intro j v hj
    match j, hj with
    | 0, hj => exact (HC.out).trans hj
  case refine_3 => show 0 + 1 ≤ z.length; rw [HZ.out]; omega
  case refine_4 => intro v hv; rw [List.mem_singleton.1 hv]; rfl
  intro w1 HG1 hb1
  rw [HF.out] at HG1
  have HB1 := Lib.hid hb1
  clear hb1
  clear HA HB HC HF HZ HM hmk
  go_wp2_with fail
  go_loopw [8] (fun i wr => ∃ m : Nat, 1 ≤ m ∧ m ≤ c ∧ i = .int .i64 m ∧ wr.heap[w.heap.size]? = some (.cells (row s m c).toArray 9 (0, 0)) ∧ Below w.heap.size w wr) (fun i _ => c - (intOf i).toNat)
  case atStart => exact ⟨1, Nat.le_refl _, h1, rfl, HG1.out, HB1.out⟩
  case round =>
    obtain ⟨m, hm1, hm, rfl, hblk, hbel⟩ := hrel
    have HK := Lib.hid hblk
    have HL := Lib.hid hbel
    clear hblk hbel HG1 HB1
    by_cases hlt : m < c
    · obtain ⟨k, hk⟩ : ∃ k, k = min m (c - m) := ⟨_, rfl⟩
      have hk1 : 1 ≤ k := by omega
      have hkm : k ≤ m := by omega
      have hkc : m + k ≤ c := by omega
      have HX := Lib.hid hk
      have HS := Lib.hid (row_splice s m c k hkc)
      have HXL : Hid ((List.replicate k (Value.string s)).length = k) := Lib.hid List.length_replicate
      clear hk
      have HXV : Hid (∀ v ∈ List.replicate k (Value.string s), v = .string s) := Lib.hid fun v hv => List.eq_of_mem_replicate hv
      generalize List.replicate k (Value.string s) = x at *
      have hcm : ¬ c = m := by omega
      go_wp2_with fail
      have hwr : IntKind.i64.wrap ((m : Int) + (k : Int)) = ((m + k : Nat) : Int) := by rw [IntWalk.i64_in _ (by omega)]; omega
      have hkd : wr.drew.heap[w.heap.size]? = some (.cells (row s m c).toArray 9 (0, 0)) := HK.out
      have hbd : Below w.heap.size w wr.drew := HL.out.drew
      have HKD := Lib.hid hkd
      have HBD := Lib.hid hbd
      clear hkd hbd
      have hx1 : ∀ v ∈ x, v.oneCell' = true := by intro v hv; rw [HXV.out v hv]; rfl
      have hxs : ∀ j v, x[j]? = some v → wr.drew.cell? ((⟨w.heap.size, 0, none⟩ : Addr).add j) = some v := by
        intro j v hj
        have hjk : j < k := by rw [← HXL.out]; exact (List.getElem?_eq_some_iff.1 hj).1
        rw [HXV.out v (List.mem_of_getElem? hj)]
        rw [Go.WideShapes.add_plain, Nat.zero_add]
        exact blk_cell HKD.out (by rw [List.getElem?_toArray]; exact row_at s m c j (by omega))
      have HX1 := Lib.hid hx1
      have HXS := Lib.hid hxs
      clear hx1 hxs
      go_region_law (refine step_copy_splice (by rfl) (.tmp 41) (.tmp 44) 34 34 (by rfl) 9 Tryz.underlying34 size9 (some ⟨w.heap.size, m, none⟩) (some ⟨w.heap.size, 0, none⟩) (c - m) (c - m) m c (by kernel_rfl) (by kernel_rfl) w.heap.size m (row s m c) 9 HKD.out x ?c1 ?c2 ?c3 HX1.out w.heap.size w HBD.out (Nat.le_refl _) ?c4; (case c1 => first | (rw [HXL.out, HX.out]; done) | (rw [HXL.out, HX.out]; rfl)); (case c2 => intro _; exact ⟨rfl, _, rfl, HXS.out⟩); (case c3 => rw [HXL.out, row_length s m c hm]; omega); intro w4 hg4 hb4; rw [HXL.out])
      rw [HS.out] at hg4
      have HG4 := Lib.hid hg4.out
      have HB4 := Lib.hid hb4
      clear hg4 hb4
      clear hwr
      go_simp
      go_roundw
      case rel =>
        refine ⟨_, _, _, _, _, _, _, _, _, _, _, _, _, _, ?_, rfl⟩
        exact ⟨m + k, by omega, hkc, by go_num, HG4.out, HB4.out⟩
      case measure => simp [intOf]; omega
    · obtain rfl : m = c := by omega
      go_wp2
      go_ret
      exact ⟨rfl, HK.out, HL.out⟩
end Go.Proofs.YtoilcieineejiaaGreatDoor.DkR
/- The program's disk: New: the walk of its text; strings.Repeat by the library's own contract. No conditions but those that each lemma names. -/
namespace Go.Proofs.YtoilcieineejiaaGreatDoor.DkNew
open Go.RowKit
open DkN DkM DkR
theorem repeated (k : Nat) (w : World) (h : k ≤ 65536) :
    Calls Tryz.prog 32 #[.string ⟨#[0]⟩, .int .i64 k] w fun e w' => e = .returned (.string (nou k)) ∧ Below w.heap.size w w' := by
  have := Tryz.strings_Repeat ⟨#[0]⟩ k w (by omega) (by show 1 * k ≤ _; omega)
  have e : Lib.repeatL ((⟨#[0]⟩ : ByteArray).data.toList) k = List.replicate k 0 := by
    have := Lib.repeatL_replicate 0 1 k
    rw [Nat.mul_one] at this
    exact this
  rw [e] at this
  exact this
theorem isSize_no (n : Int) (w : World) (h : n < 8 ∨ 1024 < n) : Calls Tryz.prog 31 #[.int .i64 n] w fun e w' => e = .returned (.bool false) ∧ w = w' := by
  by_cases h8 : 8 ≤ n
  · have h9 : ¬ n ≤ 1024 := by omega
    clear h
    go_enter Tryz.func31, Tryz.ntmps31
    go_wp2
    go_ret
    exact ⟨rfl, rfl⟩
  · clear h
    go_enter Tryz.func31, Tryz.ntmps31
    go_wp2
    go_ret
    exact ⟨rfl, rfl⟩
theorem isSize_yes (n : Int) (w : World) (h1 : 8 ≤ n) (h2 : n ≤ 1024) : Calls Tryz.prog 31 #[.int .i64 n] w fun e w' => e = .returned (.bool true) ∧ w = w' := by
  go_enter Tryz.func31, Tryz.ntmps31
  go_wp2
  go_ret
  exact ⟨rfl, rfl⟩
theorem New_no (n : Int) (w : World) (h : n < 8 ∨ 1024 < n) : Calls Tryz.prog 8 #[.int .i64 n] w fun e w' => e = .returned (.tuple #[.pointer none, .int .i64 2]) ∧ w = w' := by
  have H := Lib.hid (isSize_no n w h)
  clear h
  go_enter Tryz.func8, Tryz.ntmps8
  go_wp2_with (go_at_call 31; refine (H.out).mono ?_; rintro e w' ⟨rfl, rfl⟩)
  go_ret2
  exact ⟨rfl, rfl⟩
/-- A new disk, all of it new. -/
def Fresh (r : Bool) (D : Dk) (w : World) (b : Nat) (bv cv : Value) (w' : World) : Prop := Has r w' b bv cv D ∧ Below w.heap.size w w' ∧ ∀ k, Foot b bv cv k → w.heap.size ≤ k
/-- What New leaves. -/
def Made (n : Nat) (w : World) (e : Ending) (w' : World) : Prop := ∃ b bv cv, e = .returned (.tuple #[.pointer (some ⟨b, 0, none⟩), .int .i64 0]) ∧ Fresh false (made n) w b bv cv w'
theorem fresh_of {w w1 : World} {n : Nat} (h1 : 8 ≤ n) (h2 : n ≤ 1024) {g : Nat} (hg : w1.heap[g]? = some (.cells (row (nou 4096) n n).toArray 9 (0, 0))) (hw : w.heap.size ≤ g) (hb : Below w.heap.size w w1) :
    Fresh false (made n) w w1.heap.size (.slice (some ⟨g, 0, none⟩) n n) (.slice none 0 0) (w1.alloc (.cells #[.slice (some ⟨g, 0, none⟩) n n, .slice none 0 0, .int .i64 0, .bool false] 77)) := by
  have hlt : g < w1.heap.size := (Array.getElem?_eq_some_iff.1 hg).1
  refine ⟨⟨made_ok n h1 h2, ?_, ?_, own_nil _⟩, hb.alloc hb.size _, ?_⟩
  · exact heap_alloc_new w1 _
  · have hl : (made n).bl.length = n := List.length_replicate
    rw [hl]
    refine ⟨by rw [List.length_map, hl, Nat.mul_one], .inr ⟨g, n, (row (nou 4096) n n).toArray, rfl, Nat.zero_le _, (heap_alloc_old _ _ hlt).trans hg, Nat.le_refl _, by unfold maxLen; omega, by rw [List.size_toArray, row_length _ _ _ (Nat.le_refl _), Nat.mul_one], ?_⟩⟩
    show (row (nou 4096) n n).take (n * 1) = (List.replicate n (nou 4096)).map Value.string
    rw [Nat.mul_one, List.take_of_length_le (by rw [row_length _ _ _ (Nat.le_refl _)]; exact Nat.le_refl _), row, Nat.sub_self, List.replicate_zero, List.append_nil, List.map_replicate]
  · intro k hk
    rcases hk with rfl | hk | hk
    · exact hb.size
    · simp [Value.ownBlock] at hk; omega
    · simp [Value.ownBlock] at hk
theorem New_yes (n : Nat) (w : World) (h1 : 8 ≤ n) (h2 : n ≤ 1024) : Calls Tryz.prog 8 #[.int .i64 n] w (Made n w) := by
  have H := Lib.hid (isSize_yes n w (by omega) (by omega))
  have HZ := Lib.hid (repeated 4096 w (by omega))
  have HF := Lib.hid (fun w1 g => @fresh_of w w1 n h1 h2 g)
  generalize nou 4096 = z at *
  have HR := Lib.hid (fun b W hc => some_ z b n W (by omega) h2 hc)
  go_enter Tryz.func8, Tryz.ntmps8
  go_wp2_with (first
    | (go_at_call 31; refine (H.out).mono ?_; rintro e w' ⟨rfl, rfl⟩)
    | (go_at_call 32; refine (HZ.out).mono ?_; rintro e w1 ⟨rfl, hb1⟩; have HB := Lib.hid hb1; clear hb1)
    | (go_at_call 33; refine (HR.out _ _ (blk_cell (heap_alloc_new _ _) rfl)).mono ?_; rintro e w2 ⟨rfl, hg2, hb2⟩; have HG := Lib.hid hg2; have HB2 := Lib.hid hb2; clear hg2 hb2))
  go_ret2
  have hb := HB.out
  have hb2 : Below w.heap.size w w2 := (hb.alloc hb.size _).trans (HB2.out.mono (by simp; have := hb.size; omega))
  have hg := HG.out
  rw [World.size_alloc] at hg
  exact ⟨_, _, _, rfl, HF.out _ _ hg (by have := hb.size; omega) hb2⟩
end Go.Proofs.YtoilcieineejiaaGreatDoor.DkNew
/- The program's disk: settle, over any closure that tells which numbers are kept: the walk of its text. No conditions but those that each lemma names. -/
namespace Go.Proofs.YtoilcieineejiaaGreatDoor.DkT
open Go.RowKit
open DkN DkM DkB
theorem take_ok {D : Dk} (h : D.ok) (keep : Nat → Bool) (k : Nat) : Dk.ok { D with bl := kset keep 0 (D.ca.take k) D.bl } :=
  ⟨by simpa [kset_length] using h.lo, by simpa [kset_length] using h.hi, kset_all keep _ 0 _ D.bl h.full (fun x hx => (h.good x (List.mem_of_mem_take hx)).2), h.few, fun x hx => by simpa [kset_length] using h.good x hx, h.arm⟩
/-- The cache is none. -/
theorem Has.nil1 {r : Bool} {w : World} {b : Nat} {bv cv : Value} {D : Dk} (h : Has r w b bv cv D) : Has r (w.setCell ⟨b, 1, none⟩ (.slice none 0 0)) b bv (.slice none 0 0) { D with ca := [] } := by
  refine h.renil ?_ (fun k hk => set_cell_block hk) rfl rfl ⟨h.ok.lo, h.ok.hi, h.ok.full, Nat.zero_le _, (fun x hx => by cases hx), h.ok.arm⟩
  cases r
  · exact (blk_set h.head).trans rfl
  · exact (blk_set h.head).trans rfl
theorem _root_.Go.Proofs.YtoilcieineejiaaGreatDoor.DkM.Has.drew {r : Bool} {w : World} {b : Nat} {bv cv : Value} {D : Dk} (h : Has r w b bv cv D) : Has r w.drew b bv cv D := h.kept fun _ _ => rfl
theorem _root_.Go.Proofs.YtoilcieineejiaaGreatDoor.DkM.Kept.drew {S : Nat → Prop} {u w : World} (h : Kept S u w) : Kept S u w.drew := ⟨h.os, h.tape, h.output, h.size, h.block⟩
theorem info_put2 : (Tryz.prog.info? 107).map (·.size) = some 2 := by kernel_rfl
set_option maxRecDepth 100000 in
set_option maxHeartbeats 1000000 in
theorem settle_any {w : World} {b : Nat} {bv cv : Value} {D : Dk} (h : Has false w b bv cv D) (K : Nat) (cap : Array Value) (keep : Nat → Bool) (hK : ∀ (args : Array Value) (W : World), (callFunc K args).run Tryz.prog W = .ok (.enter K args) W)
    (hc : ∀ (i : Nat) (W : World), i < D.ca.length → Kept (Foot b bv cv) w W → Calls Tryz.prog K (#[.int .i64 i] ++ cap) W fun e w' => e = .returned (.bool (keep i)) ∧ Below W.heap.size W w') :
    Calls Tryz.prog 52 #[.pointer (some ⟨b, 0, none⟩), .func (.func K) #[] cap] w fun e w' => e = .returned (.tuple #[]) ∧ Did false w b bv cv { D with bl := kset keep 0 D.ca D.bl, ca := [] } w' := by
  have HC := Lib.hid hc
  have HH := Lib.hid h
  obtain ⟨a, c, rfl⟩ := h.cv_eq
  obtain ⟨g, cg, rfl⟩ := h.bv_eq
  have c1 := h.c1
  have hfew := h.ok.few
  have hhi := h.ok.hi
  clear hc h
  obtain ⟨n, hn⟩ : ∃ n, D.ca.length = n := ⟨_, rfl⟩
  rw [hn] at c1 hfew HH HC ⊢
  have HN := Lib.hid hn
  clear hn
  obtain ⟨m, hm⟩ : ∃ m, D.bl.length = m := ⟨_, rfl⟩
  rw [hm] at HH HC hhi ⊢
  have HM := Lib.hid hm
  clear hm
  go_enter Tryz.func52, Tryz.ntmps52
  go_wp2_with fail
  clear c1
  go_loopw [11] (fun i wr => ∃ k : Nat, k ≤ n ∧ i = .int .i64 k ∧ Has false wr b (.slice (some ⟨g, 0, none⟩) m cg) (.slice a n c) { D with bl := kset keep 0 (D.ca.take k) D.bl } ∧ Kept (Foot b (.slice (some ⟨g, 0, none⟩) m cg) (.slice a n c)) w wr) (fun i _ => n - (intOf i).toNat)
  case atStart => exact ⟨0, Nat.zero_le _, rfl, HH.out, Kept.refl _ _⟩
  case round =>
    obtain ⟨k, hk, rfl, hh, hkept⟩ := hrel
    by_cases hlt : k < n
    · have hlt' : k < D.ca.length := by rw [HN.out]; exact hlt
      obtain ⟨gc, oc, rfl, hgc, hcs⟩ := hh.puts (by exact Nat.lt_of_le_of_lt (Nat.zero_le k) hlt')
      obtain ⟨q0, q1⟩ := hcs k hlt'
      have HX := Lib.hid (kset_next keep D.ca D.bl k hlt')
      have hgood := HH.out.ok.good _ (List.getElem_mem hlt')
      generalize hx : D.ca[k] = x at *
      obtain ⟨j, s⟩ := x
      simp only at q0 q1 hgood HX
      rw [HM.out] at hgood
      have HGood := Lib.hid hgood
      have hjm : (j : Int) < (m : Int) := by omega
      have HHR := Lib.hid hh
      have HK := Lib.hid hkept
      clear hcs hx hgood hh hkept hgc hlt'
      go_wp2_with fail
      refine (HC.out k _ hlt ?kept).mono ?_
      case kept => exact HK.out.step ((Below.refl _ _).alloc (Nat.le_refl _) _)
      rintro e w2 ⟨rfl, hb2⟩
      have hbw : Below wr.heap.size wr w2 := ((Below.refl _ _).alloc (Nat.le_refl _) _).trans (hb2.mono (by simp))
      have p0 : w2.cell? ⟨wr.heap.size, 0, none⟩ = some (.int .i64 j) := (hb2.cell (p := ⟨wr.heap.size, 0, none⟩) (by simp)).trans (blk_cell (heap_alloc_new wr _) rfl)
      have p1 : w2.cell? ⟨wr.heap.size, 1, none⟩ = some (.string s) := (hb2.cell (p := ⟨wr.heap.size, 1, none⟩) (by simp)).trans (blk_cell (heap_alloc_new wr _) rfl)
      have HH2 := Lib.hid (HHR.out.step hbw)
      have HK2 := Lib.hid (HK.out.step hbw)
      clear q0 q1 hb2 hbw
      have c0 := HH2.out.c0
      have hjl : j < (kset keep 0 (D.ca.take k) D.bl).length := by rw [kset_length, HM.out]; exact HGood.out.1
      have hcell := HH2.out.block j hjl
      have hfree := HH2.out.block_free j
      generalize hq : keep k = q at HX ⊢
      clear hq
      simp only at hcell
      generalize (kset keep 0 (D.ca.take k) D.bl)[j] = old at hcell
      cases q
      · rw [if_neg Bool.false_ne_true] at HX
        have HE : Hid (Has false w2 b (.slice (some ⟨g, 0, none⟩) m cg) (.slice (some ⟨gc, oc, none⟩) n c) { D with bl := kset keep 0 (D.ca.take (k + 1)) D.bl }) := by rw [HX.out]; exact HH2.out
        clear p0 p1 c0 hcell hfree hjl HX
        go_wp2
        go_roundw
        case rel => exact ⟨k + 1, by omega, by go_num, HE.out, HK2.out⟩
        case measure => simp [intOf]; omega
      · rw [if_pos rfl] at HX
        have HE : Hid (Has false (w2.setCell ⟨g, j, none⟩ (.string s)) b (.slice (some ⟨g, 0, none⟩) m cg) (.slice (some ⟨gc, oc, none⟩) n c) { D with bl := kset keep 0 (D.ca.take (k + 1)) D.bl }) := by
          have hset := Has.setBlock HH2.out j s (by
            have := take_ok HH.out.ok keep (k + 1)
            rw [HX.out] at this
            exact this)
          rw [HX.out]; exact hset
        have HK3 : Hid (Kept (Foot b (.slice (some ⟨g, 0, none⟩) m cg) (.slice (some ⟨gc, oc, none⟩) n c)) w (w2.setCell ⟨g, j, none⟩ (.string s))) := HK2.out.set_ (.inr (.inl rfl)) _ _
        clear hjl HX
        go_wp2_with fail
        go_region
        all_goals
          go_wp2
          go_roundw
          case rel => exact ⟨k + 1, by omega, by go_num, HE.out.drew, HK3.out.drew⟩
          case measure => simp [intOf]; omega
    · obtain rfl : k = n := by omega
      rw [List.take_of_length_le (by rw [HN.out]; exact Nat.le_refl _)] at hh
      have HD : Hid (Did false w b (.slice (some ⟨g, 0, none⟩) m cg) (.slice a k c) _ _) := did_nil (Has.nil1 hh) (hkept.set_ (.inl rfl) _ _)
      have c1 := hh.c1
      have f1 := hh.free 1
      clear hh hkept HH HC
      go_wp2
      go_end0
      exact ⟨rfl, HD.out⟩
end Go.Proofs.YtoilcieineejiaaGreatDoor.DkT
/- The program's disk: Flush and Crash: the walks of their texts; a map of numbers, made, filled and asked. No conditions but those that each lemma names. -/
namespace Go.Proofs.YtoilcieineejiaaGreatDoor.DkF
open Go.RowKit
open DkN DkM DkQ DkS DkT
theorem flush1 (i : Int) (W : World) : Calls Tryz.prog 81 #[.int .i64 i] W fun e w' => e = .returned (.bool true) ∧ Below W.heap.size W w' := by
  go_enter Tryz.func81, Tryz.ntmps81
  go_wp2
  go_ret
  exact ⟨rfl, Below.refl _ _⟩
set_option maxRecDepth 100000 in
theorem Flush {w : World} {b : Nat} {bv cv : Value} {D : Dk} (h : Has false w b bv cv D) :
    Calls Tryz.prog 41 #[.pointer (some ⟨b, 0, none⟩)] w fun e w' => e = .returned (.int .i64 (D.flush.1 : Nat)) ∧ Did false w b bv cv D.flush.2 w' := by
  have HR := Lib.hid (ready h)
  by_cases hd : D.down = true
  · have e : D.flush = (14, D) := by unfold Dk.flush; rw [if_pos hd]
    rw [e]
    rw [if_pos hd] at HR
    have HD := Lib.hid h.same
    clear h hd e
    go_enter Tryz.func41, Tryz.ntmps41
    go_wp2_with (go_at_call 50; refine (HR.out).mono ?_; rintro e w' ⟨rfl, rfl⟩)
    go_ret
    exact ⟨rfl, HD.out⟩
  · rw [if_neg hd] at HR
    have HS := Lib.hid (DkS.step h (by simpa using hd))
    by_cases ha : D.armed = 1
    · have e : D.flush = (14, D.tick) := by unfold Dk.flush; rw [if_neg hd, if_pos ha]
      rw [e]
      rw [if_pos (decide_eq_true ha)] at HS
      clear h hd e ha
      generalize D.tick = T at *
      go_enter Tryz.func41, Tryz.ntmps41
      go_wp2_with (first
        | (go_at_call 50; refine (HR.out).mono ?_; rintro e w' ⟨rfl, rfl⟩)
        | (go_at_call 80; refine (HS.out).mono ?_; rintro e w1 ⟨rfl, hd1⟩; have HD := Lib.hid hd1; clear hd1))
      go_ret
      exact ⟨rfl, HD.out⟩
    · have e : D.flush = (0, { D.tick with bl := kset (fun _ => true) 0 D.tick.ca D.tick.bl, ca := [] }) := by unfold Dk.flush; rw [if_neg hd, if_neg ha]; rfl
      rw [e]
      rw [if_neg (by simpa using ha)] at HS
      clear h hd e ha
      generalize D.tick = T at *
      go_enter Tryz.func41, Tryz.ntmps41
      go_wp2_with (first
        | (go_at_call 50; refine (HR.out).mono ?_; rintro e w' ⟨rfl, rfl⟩)
        | (go_at_call 80; refine (HS.out).mono ?_; rintro e w1 ⟨rfl, cv1, hh1, hn1, hk1⟩; have HN := Lib.hid hn1; have HK := Lib.hid hk1; have HH := Lib.hid hh1; clear hn1 hk1 hh1)
        | (go_at_call 52; refine (settle_any HH.out 81 #[] (fun _ => true) (fun _ _ => rfl) (fun i W _ _ => flush1 _ W)).mono ?_; rintro e w2 ⟨rfl, hd2⟩; have HD := Lib.hid hd2; clear hd2))
      go_ret
      exact ⟨rfl, Did.then_ HH.out HN.out HK.out HD.out⟩
/-! The map of the kept numbers. -/
open Go.Maps
def lits (l : List Int) : List Lit := l.map (Lit.int .i64)
/-- The map in block M has the numbers of the row. -/
def Kept_ (w : World) (M n : Nat) (l : List Int) : Prop := w.ownsMap Tryz.prog 3 (unitElem (H := Unit)) M n (Maps.setOf (.agg []) (lits l))
theorem has_lits (l : List Int) (i : Int) : Maps.has (Maps.setOf (H := Unit) (.agg []) (lits l)) (.int .i64 i) = decide (i ∈ l) := by
  rw [Maps.has_setOf _ _ _ (fun x hx => by obtain ⟨y, _, rfl⟩ := List.mem_map.1 hx; trivial)]
  rw [Bool.eq_iff_iff]
  simp only [lits, List.any_map, List.any_eq_true, Function.comp, Lit.sameKey, decide_eq_true_eq, true_and]
  exact ⟨fun ⟨x, h, e⟩ => e ▸ h, fun h => ⟨i, h, rfl⟩⟩
theorem lits_next (l : List Int) (k : Nat) (h : k < l.length) : lits (l.take (k + 1)) = lits (l.take k) ++ [.int .i64 (l.getD k 0)] := by
  rw [List.take_succ_eq_append_getElem h, lits, List.map_append]
  simp [lits, List.getD, h]
theorem map_block {P : Program} {k : TypeId} {R : Value → Option (DataW Unit × List MemPlace)} {w w' : World} {b n : Nat} {D : DataW Unit} (h : w.ownsMap P k R b n D) (e : w'.heap[b]? = w.heap[b]?) : w'.ownsMap P k R b n D := by
  obtain ⟨es, clock, hb, r⟩ := h
  exact ⟨es, clock, e.trans hb, r⟩
theorem law : Keyed Tryz.prog 3 := int_keyed Tryz.underlying3
theorem zero81 (w : World) : (zeroValue 103).run Tryz.prog w = .ok (.agg #[]) w := by kernel_rfl
theorem wf_int {x : Int} (h : IsInt x) : (Lit.int .i64 x).wf = true := WalkArith.wf_i64 ⟨by have := h.1; omega, by have := h.2; omega⟩
set_option maxRecDepth 100000 in
theorem crash1 (P M n : Nat) (l : List Int) (i : Int) (W : World) (hP : W.cell? ⟨P, 0, none⟩ = some (.map (some M))) (hM : Kept_ W M n l) (hi : IsInt i) :
    Calls Tryz.prog 53 #[.int .i64 i, .pointer (some ⟨P, 0, none⟩)] W fun e w' => e = .returned (.bool (decide (i ∈ l))) ∧ Below W.heap.size W w' := by
  have HK := Lib.hid (keyOf_int_mk Tryz.underlying3 (wf_int hi))
  have HL := Lib.hid (has_lits l i)
  have HM := Lib.hid hM
  clear hM hi
  generalize decide (i ∈ l) = q at *
  go_enter Tryz.func53, Tryz.ntmps53
  go_wp2_with (at_lookup; refine wpList_lookup_own_unit _ rfl _ _ 102 rfl 3 103 law Tryz.underlying102 (zero81 _) M n _ rfl HM.out _ _ rfl HK.out ?_; rw [HL.out])
  go_ret
  exact ⟨rfl, (Below.refl _ _).alloc (Nat.le_refl _) _⟩
theorem set3 {w : World} {b : Nat} {bv cv : Value} {D : Dk} (h : Has false w b bv cv D) :
    Has false (w.setCell ⟨b, 3, none⟩ (.bool true)) b bv cv { D with down := true } := by
  refine h.rehead ?_ (fun k hk => set_cell_block hk) rfl rfl ⟨h.ok.lo, h.ok.hi, h.ok.full, h.ok.few, h.ok.good, h.ok.arm⟩
  exact (blk_set h.head).trans rfl
theorem did_set3 {w w' : World} {b : Nat} {bv cv : Value} {D : Dk} (h : Did false w b bv cv D w') : w'.cell? ⟨b, 3, none⟩ = some (.bool D.down) ∧ w'.frozen? ⟨b, 3, none⟩ = false ∧ Did false w b bv cv { D with down := true } (w'.setCell ⟨b, 3, none⟩ (.bool true)) := by
  obtain ⟨c, h1, n1, k1⟩ := h
  exact ⟨h1.d3, h1.free 3, c, set3 h1, n1, k1.set_ (.inl rfl) _ _⟩
set_option maxRecDepth 100000 in
set_option maxHeartbeats 1000000 in
/-- THE CONTRACT of Crash. -/
theorem Crash {w : World} {b : Nat} {bv cv : Value} {D : Dk} (h : Has false w b bv cv D) (ka : Option Addr) (kn kc : Nat) (keep : List Int) (hr : Row w w.heap.size ka kn keep) (hi : ∀ x ∈ keep, IsInt x) (hn : kn ≤ maxLen) :
    Calls Tryz.prog 14 #[.pointer (some ⟨b, 0, none⟩), .slice ka kn kc] w fun e w' => e = .returned (.int .i64 0) ∧ Did false w b bv cv (D.crash keep) w' := by
  have H := Lib.hid (isNone h)
  have HH := Lib.hid h
  have HR := Lib.hid hr
  have HI := Lib.hid hi
  have hmm := @run_makeMap Tryz.prog
  have hlen := hr.1
  have HN : Hid (kn ≤ maxLen) := Lib.hid hn
  unfold maxLen at hn
  have HLen := Lib.hid hlen
  clear h hr hi hlen
  go_enter Tryz.func14, Tryz.ntmps14
  go_wp2_with (go_at_call 51; refine (H.out).mono ?_; rintro e w' ⟨rfl, rfl⟩)
  go_loopw [13] (fun i wr => ∃ k : Nat, k ≤ kn ∧ i = .int .i64 k ∧ Kept_ wr w.heap.size k (keep.take k) ∧ wr.heap[w.heap.size + 1]? = some (.cells #[.map (some w.heap.size)] 102 (0, 0)) ∧ Below w.heap.size w wr) (fun i _ => kn - (intOf i).toNat)
  case atStart =>
    refine ⟨0, Nat.zero_le _, rfl, ?_, ?_, ?_⟩
    · exact World.ownsMap.alloc (World.ownsMap_made _ _ _ _) _
    · have := heap_alloc_new (w.alloc (.map #[] 0)) (.cells #[.map (some w.heap.size)] 102)
      rw [World.size_alloc] at this
      exact this
    · exact ((Below.refl _ _).alloc (Nat.le_refl _) _).alloc (by simp) _
  case round =>
    obtain ⟨k, hk, rfl, hmap, hbox, hbel⟩ := hrel
    have HM := Lib.hid hmap
    have HB := Lib.hid hbel
    have HX := Lib.hid hbox
    have cP : wr.cell? ⟨w.heap.size + 1, 0, none⟩ = some (.map (some w.heap.size)) := blk_cell hbox rfl
    clear hmap hbel hbox
    by_cases hlt : k < kn
    · obtain ⟨g, o, rfl, hg, hc⟩ := HR.out.2 (by omega)
      have hcell : wr.cell? ⟨g, o + k, none⟩ = some (.int .i64 (keep.getD k 0)) := (HB.out.cell (p := ⟨g, o + k, none⟩) hg).trans (hc k hlt)
      have HK := Lib.hid (keyOf_int_mk Tryz.underlying3 (wf_int (getD_isInt HI.out k)))
      have HS := Lib.hid (lits_next keep k (by rw [HLen.out]; exact hlt))
      clear hc
      generalize keep.getD k 0 = x at *
      have hkm : k < maxLen := Nat.lt_of_lt_of_le hlt HN.out
      have HKM := Lib.hid hkm
      clear hkm
      go_wp2_with (at_mapUpdate; refine wpList_mapUpdate_own _ rfl _ _ _ 102 rfl 3 103 law Tryz.underlying102 (unitElem (H := Unit)) w.heap.size k _ rfl HM.out HKM.out _ _ _ rfl rfl HK.out (.agg []) [] unitElem_mk ?_; intro w1 hown1 hgrow1)
      go_roundw
      case rel =>
        refine ⟨k + 1, by omega, by go_num, ?_, ?_, ?_⟩
        · rw [Kept_, HS.out, Maps.setOf_snoc]; exact hown1
        · rw [hgrow1.block _ (Array.getElem?_eq_some_iff.1 HX.out).1 (by simp)]; exact HX.out
        · exact HB.out.grown hgrow1 HB.out.size (fun k e => by cases e; exact Nat.le_refl _)
      case measure => simp [intOf]; omega
    · obtain rfl : k = kn := by omega
      rw [List.take_of_length_le (by rw [HLen.out]; exact Nat.le_refl _)] at HM
      have HHR := Lib.hid (HH.out.step HB.out)
      have HC : Hid (∀ (i : Nat) (W : World), i < D.ca.length → Kept (Foot b bv cv) wr W → Calls Tryz.prog 53 (#[.int .i64 i] ++ #[.pointer (some ⟨w.heap.size + 1, 0, none⟩)]) W fun e w' => e = .returned (.bool (keepB keep i)) ∧ Below W.heap.size W w') := by
        intro i W hi hW
        have n0 : ¬ Foot b bv cv w.heap.size := fun f => by have := HH.out.foot_lt _ f; omega
        have n1 : ¬ Foot b bv cv (w.heap.size + 1) := fun f => by have := HH.out.foot_lt _ f; omega
        have hlt1 := (Array.getElem?_eq_some_iff.1 HX.out).1
        have e1 := hW.block _ hlt1 n1
        have e0 := hW.block w.heap.size (by omega) n0
        have hf := HH.out.ok.few
        exact crash1 _ _ _ keep i W ((World.cell?_of_block (a := ⟨w.heap.size + 1, 0, none⟩) e1).trans (blk_cell HX.out rfl)) (map_block HM.out e0) ⟨by omega, by omega⟩
      clear HM HX
      go_wp2_with (go_at_call 52; refine (settle_any HHR.out 53 #[.pointer (some ⟨w.heap.size + 1, 0, none⟩)] (keepB keep) (fun _ _ => rfl) HC.out).mono ?_; rintro e w2 ⟨rfl, hd2⟩; obtain ⟨q3, f3, hd3⟩ := did_set3 hd2; have HD := Lib.hid hd3; clear hd2 hd3)
      go_ret
      exact ⟨rfl, Did.then_ HHR.out (fun _ => .inl) (.of_below HB.out) HD.out⟩
end Go.Proofs.YtoilcieineejiaaGreatDoor.DkF
