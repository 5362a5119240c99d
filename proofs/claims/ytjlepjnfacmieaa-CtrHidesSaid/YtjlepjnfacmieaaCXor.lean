/- What ctr.Xor answers, at any key, numbers and text: the walk of its text, of its closure, and of filled over that closure. -/
import Derived.Test.YtjlepjnfacmieaaCStr
namespace Go.Proofs.Ytjlepjnfacmieaa.CXor
open Go.RowKit
open CtrN
theorem info5 : (Try.prog.info? 5).map (fun i => (i.zero, i.size, i.bytes)) = some (some (.int .u8 0), 1, 1) := by kernel_rfl
theorem u8_xor (a b : UInt8) : bits .xor .u8 (a.toNat : Int) (b.toNat : Int) = ((a ^^^ b).toNat : Int) := by
  have ha := a.toNat_lt
  have hb := b.toNat_lt
  show IntKind.u8.wrap ((BitVec.ofInt 8 (a.toNat : Int) ^^^ BitVec.ofInt 8 (b.toNat : Int)).toNat : Int) = _
  have e : ∀ c : UInt8, BitVec.ofInt 8 (c.toNat : Int) = c.toBitVec := by
    intro c
    apply BitVec.eq_of_toNat_eq
    have := c.toNat_lt
    simp
  rw [e, e, ← UInt8.toBitVec_xor]
  show IntKind.u8.wrap (((a ^^^ b).toNat : Nat) : Int) = _
  have hc := (a ^^^ b).toNat_lt
  exact IntWalk.u8_in _ (by omega)
theorem at_list (l : List UInt8) (i : Nat) (h : i < (⟨l.toArray⟩ : ByteArray).size) : (⟨l.toArray⟩ : ByteArray)[i]'h = l.getD i 0 := by
  have h2 : i < l.length := h
  simp only [List.getD, List.getElem?_eq_getElem h2, Option.getD_some]
  rfl
set_option maxRecDepth 100000 in
theorem clos (S T i : Nat) (s t : List UInt8) (W : World) (hs : W.cell? ⟨S, 0, none⟩ = some (.string ⟨s.toArray⟩)) (ht : W.cell? ⟨T, 0, none⟩ = some (.string ⟨t.toArray⟩)) (h1 : i < s.length) (h2 : i < t.length) :
    Calls Try.prog 20 #[.int .i64 i, .pointer (some ⟨S, 0, none⟩), .pointer (some ⟨T, 0, none⟩)] W fun e w' => e = .returned (.int .u8 (s.getD i 0 ^^^ t.getD i 0).toNat) ∧ ∃ n, w' = W.drewN n := by
  have HX : Hid (∀ h g, bits .xor .u8 (((⟨s.toArray⟩ : ByteArray)[i]'h).toNat : Int) (((⟨t.toArray⟩ : ByteArray)[i]'g).toNat : Int) = ((s.getD i 0 ^^^ t.getD i 0).toNat : Int)) := by
    intro h g
    rw [at_list, at_list]
    exact u8_xor _ _
  have g1 : (i : Int) < (s.length : Int) := by omega
  have g2 : (i : Int) < (t.length : Int) := by omega
  have z1 : (0 : Int) ≤ (i : Int) := by omega
  go_enter Try.func20, Try.ntmps20
  go_wp2_with fail
  go_quiet (fail)
  go_wp2
  go_ret
  rw [HX.out]
  exact ⟨rfl, _, rfl⟩
def fillN (f : Nat → UInt8) (n j : Nat) : List UInt8 := (List.range j).map f ++ List.replicate (n - j) 0
theorem fillN_len (f : Nat → UInt8) (n j : Nat) (h : j ≤ n) : (fillN f n j).length = n := by simp [fillN]; omega
theorem fillN_next (f : Nat → UInt8) (n j : Nat) (h : j < n) : (fillN f n j).set j (f j) = fillN f n (j + 1) := by
  unfold fillN
  rw [List.set_append_right _ _ (by simp), show n - j = (n - (j + 1)) + 1 from by omega, List.replicate_succ]
  simp only [List.length_map, List.length_range, Nat.sub_self, List.set_cons_zero]
  rw [List.range_succ, List.map_append, List.append_assoc]
  rfl
set_option maxRecDepth 100000 in
theorem over (n : Nat) (p q : Value) (f : Nat → UInt8) (w : World) (hn : n ≤ 65536)
    (hc : ∀ (i : Nat) (W : World), i < n → Below w.heap.size w W → Calls Try.prog 20 #[.int .i64 i, p, q] W fun e w' => e = .returned (.int .u8 (f i).toNat) ∧ ∃ m, w' = W.drewN m) :
    Calls Try.prog 19 #[.int .i64 n, .func (.func 20) #[] #[p, q]] w fun e w' => e = .returned (.string ⟨((List.range n).map f).toArray⟩) ∧ Below w.heap.size w w' := by
  have HC := Lib.hid hc
  clear hc
  obtain ⟨i0, hi, hz0, hz1, hz2⟩ := info_parts info5
  have hmk : ∀ W : World, (Instr.makeSlice 42 (.int .i64 (n : Int)) (.int .i64 (n : Int))).run Try.prog W = .ok (.slice (some ⟨W.heap.size, 0, none⟩) n n) (W.alloc (.cells (bytesRow (fillN f n 0)) 5)) := by
    intro W
    have := run_make (P := Try.prog) W 42 5 i0 (.int .u8 0) Try.underlying42 hi hz0 .i64 .i64 (n : Nat) (n : Nat) (by omega) (by omega) (by rw [hz2]; omega) (by omega)
    simp only [hz1, Value.cells, Int.toNat_natCast, Nat.mul_one, made_bytes] at this
    rw [this]
    simp [fillN]
  clear hi hz0 hz1 hz2
  go_enter Try.func19, Try.ntmps19
  go_wp2_with fail
  go_loopw [11] (fun i wr => ∃ j : Nat, j ≤ n ∧ i = .int .i64 j ∧ wr.heap[w.heap.size]? = some (.cells (bytesRow (fillN f n j)) 5 (0, 0)) ∧ Below w.heap.size w wr) (fun i _ => n - (intOf i).toNat)
  case atStart => exact ⟨0, Nat.zero_le _, rfl, heap_alloc_new w _, (Below.refl _ _).alloc (Nat.le_refl _) _⟩
  case round =>
    obtain ⟨j, hj, rfl, hb0, hbel⟩ := hrel
    clear hmk
    by_cases hlt : j < n
    · have hv := blk_cell hb0 (bytesRow_at _ j (by rw [fillN_len f n j hj]; exact hlt))
      have hfz := blk_free (i := j) hb0
      have HD := Lib.hid (HC.out j wr hlt hbel)
      have HX := Lib.hid (fillN_next f n j hlt)
      have HB0 := Lib.hid hb0
      clear hb0
      go_wp2_with fail
      refine HD.out.mono ?_
      rintro e w1 ⟨rfl, nd, rfl⟩
      go_wp2
      go_roundw
      case rel =>
        refine ⟨j + 1, by omega, by go_num, ?_, ?_⟩
        · rw [blk_set (w := wr.drewN nd) HB0.out, bytesRow_set, HX.out]
        · exact (hbel.trans (below_drewN wr nd)).setCell (by simp) _
      case measure => simp [intOf]; omega
    · have hk : j = n := by omega
      subst hk
      have hb' : wr.heap[w.heap.size]? = some (.cells (bytesRow ((List.range j).map f ++ [])) 5 (0, 0)) := by rw [hb0, fillN, Nat.sub_self]; rfl
      have hcv := conv_row (P := Try.prog) (src := 42) (dst := 9) (len := j) (cap := j) Try.underlying42 Try.underlying5 Try.underlying9 hb' (by simp)
      clear hb0 hb'
      go_wp2
      go_ret
      exact ⟨rfl, hbel⟩
theorem great (k : ByteArray) (e s : Int) (x : List UInt8) (w : World) (h : 65536 < x.length) :
    Calls Try.prog 12 #[.string k, .int .i64 e, .int .i64 s, .string ⟨x.toArray⟩] w fun r w' => r = .returned (.tuple #[.string ⟨#[]⟩, .int .i64 2]) ∧ Below w.heap.size w w' := by
  have hg : 65536 < (x.length : Int) := by omega
  have hc : (w.alloc (.cells #[.string ⟨x.toArray⟩] 9)).cell? ⟨w.heap.size, 0, none⟩ = some (.string ⟨x.toArray⟩) := blk_cell (heap_alloc_new w _) rfl
  have HB := Lib.hid ((Below.refl w.heap.size w).alloc (Nat.le_refl _) (.cells #[.string ⟨x.toArray⟩] 9))
  go_enter Try.func12, Try.ntmps12
  go_wp2
  go_ret2
  exact ⟨rfl, HB.out⟩
theorem lacks (k : List UInt8) (e s : Int) (x : List UInt8) (w : World) (h : x.length ≤ 65536) (hs : stream k e s 0 x.length = ([], 2)) :
    Calls Try.prog 12 #[.string ⟨k.toArray⟩, .int .i64 e, .int .i64 s, .string ⟨x.toArray⟩] w fun r w' => r = .returned (.tuple #[.string ⟨#[]⟩, .int .i64 2]) ∧ Below w.heap.size w w' := by
  have hg : ¬ 65536 < (x.length : Int) := by omega
  have HS := Lib.hid (fun W => CStr.any k e s 0 x.length W ⟨by omega, by omega⟩)
  rw [hs] at HS
  have hc : (w.alloc (.cells #[.string ⟨x.toArray⟩] 9)).cell? ⟨w.heap.size, 0, none⟩ = some (.string ⟨x.toArray⟩) := blk_cell (heap_alloc_new w _) rfl
  have HB := Lib.hid ((Below.refl w.heap.size w).alloc (Nat.le_refl _) (.cells #[.string ⟨x.toArray⟩] 9))
  clear hs
  go_enter Try.func12, Try.ntmps12
  go_wp2_with fail
  refine (HS.out _).mono ?_
  rintro r w1 ⟨rfl, hb1⟩
  have HB1 := Lib.hid (HB.out.trans (hb1.mono HB.out.size))
  have hs1 : w.heap.size < w1.heap.size := by have := hb1.size; simp at this; omega
  clear hb1
  go_wp2
  go_ret2
  exact ⟨rfl, HB1.out.alloc HB1.out.size _⟩
theorem good (k : List UInt8) (e s : Int) (x t : List UInt8) (w : World) (h : x.length ≤ 65536) (hs : stream k e s 0 x.length = (t, 0)) (ht : t.length = x.length) :
    Calls Try.prog 12 #[.string ⟨k.toArray⟩, .int .i64 e, .int .i64 s, .string ⟨x.toArray⟩] w fun r w' => r = .returned (.tuple #[.string ⟨(xorL x t).toArray⟩, .int .i64 0]) ∧ Below w.heap.size w w' := by
  have hg : ¬ 65536 < (x.length : Int) := by omega
  have HS := Lib.hid (fun W => CStr.any k e s 0 x.length W ⟨by omega, by omega⟩)
  rw [hs] at HS
  have hc : (w.alloc (.cells #[.string ⟨x.toArray⟩] 9)).cell? ⟨w.heap.size, 0, none⟩ = some (.string ⟨x.toArray⟩) := blk_cell (heap_alloc_new w _) rfl
  have HBx : Hid ((w.alloc (.cells #[.string ⟨x.toArray⟩] 9)).heap[w.heap.size]? = some (.cells #[.string ⟨x.toArray⟩] 9 (0, 0))) := Lib.hid (heap_alloc_new w _)
  have HB := Lib.hid ((Below.refl w.heap.size w).alloc (Nat.le_refl _) (.cells #[.string ⟨x.toArray⟩] 9))
  have HT := Lib.hid ht
  clear hs ht
  go_enter Try.func12, Try.ntmps12
  go_wp2_with fail
  refine (HS.out _).mono ?_
  rintro r w1 ⟨rfl, hb1⟩
  have HB1 := Lib.hid (HB.out.trans (hb1.mono HB.out.size))
  have hs1 : w.heap.size < w1.heap.size := by have := hb1.size; simp at this; omega
  have hx1 : w1.heap[w.heap.size]? = some (.cells #[.string ⟨x.toArray⟩] 9 (0, 0)) := (hb1.block _ (by simp)).trans HBx.out
  have hx2 : (w1.alloc (.cells #[.string ⟨t.toArray⟩] 9)).heap[w.heap.size]? = some (.cells #[.string ⟨x.toArray⟩] 9 (0, 0)) := by rw [Below.heap_alloc _ _ _ hs1]; exact hx1
  have ht2 : (w1.alloc (.cells #[.string ⟨t.toArray⟩] 9)).heap[w1.heap.size]? = some (.cells #[.string ⟨t.toArray⟩] 9 (0, 0)) := heap_alloc_new w1 _
  have hcx := blk_cell (i := 0) hx2 rfl
  have hct := blk_cell (i := 0) ht2 rfl
  have HF := Lib.hid (over x.length (.pointer (some ⟨w.heap.size, 0, none⟩)) (.pointer (some ⟨w1.heap.size, 0, none⟩)) (fun i => x.getD i 0 ^^^ t.getD i 0) (w1.alloc (.cells #[.string ⟨t.toArray⟩] 9)) h
    (fun i W hi hb => clos w.heap.size w1.heap.size i x t W ((hb.cell (Array.getElem?_eq_some_iff.1 hx2).1).trans (blk_cell (i := 0) hx2 rfl)) ((hb.cell (Array.getElem?_eq_some_iff.1 ht2).1).trans (blk_cell (i := 0) ht2 rfl)) hi (by rw [HT.out]; exact hi)))
  have HB2 := Lib.hid (HB1.out.alloc HB1.out.size (.cells #[.string ⟨t.toArray⟩] 9))
  clear hb1 hx1 hx2 ht2 hc
  have hmf : ∀ (fn : Fn) (first cap : Array Value) (w : World), (Instr.makeFunc fn first cap).run Try.prog w = .ok (.func fn first cap) w := fun _ _ _ _ => rfl
  go_wp2_with fail
  refine HF.out.mono ?_
  rintro r w3 ⟨rfl, hb3⟩
  have HB3 := Lib.hid (HB2.out.trans (hb3.mono HB2.out.size))
  clear hb3
  go_wp2
  go_ret2
  exact ⟨rfl, HB3.out⟩
/-- THE CONTRACT of ctr.Xor. -/
theorem any (k : List UInt8) (e s : Int) (x : List UInt8) (w : World) :
    Calls Try.prog 12 #[.string ⟨k.toArray⟩, .int .i64 e, .int .i64 s, .string ⟨x.toArray⟩] w fun r w' => r = .returned (.tuple #[.string ⟨(hide k e s x).1.toArray⟩, .int .i64 (hide k e s x).2]) ∧ Below w.heap.size w w' := by
  by_cases h : x.length ≤ 65536
  · by_cases hh : k.length = 16 ∧ (0 ≤ e ∧ e < 4294967296) ∧ (0 ≤ s ∧ s < 4294967296)
    · rw [hide, if_pos ⟨hh.1, h, hh.2.1, hh.2.2⟩]
      refine good k e s x _ w h ?_ (strm_length _ _ _ _ _)
      rw [stream, if_pos ⟨hh.1, by omega, by omega, by omega, hh.2.1, hh.2.2⟩]
      rfl
    · rw [hide, if_neg (fun g => hh ⟨g.1, g.2.2.1, g.2.2.2⟩)]
      exact lacks k e s x w h (stream_bad _ _ _ _ _ (fun g => hh ⟨g.1, g.2.2.2.2.1, g.2.2.2.2.2⟩))
  · rw [hide, if_neg (fun g => h g.2.1)]
    exact great ⟨k.toArray⟩ e s x w (by omega)
end Go.Proofs.Ytjlepjnfacmieaa.CXor
