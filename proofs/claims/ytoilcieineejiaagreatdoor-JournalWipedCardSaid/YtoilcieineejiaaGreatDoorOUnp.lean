/- What octet.Unpack answers, for at most 10,000 widths and a text of at most 100,000 bytes: the walk of its text. -/
import Derived.Test.YtoilcieineejiaaGreatDoorLOct
import Derived.Test.YtoilcieineejiaaGreatDoorLPut
import Derived.Test.YtoilcieineejiaaGreatDoorOUnpF
namespace Go.Proofs.YtoilcieineejiaaGreatDoor.OUnp
open Go.RowKit
/-- What stands ahead of the first closure's i-th call. -/
def I1 (B : Nat) (aw : Option Addr) (n cw : Nat) (ws : List Int) (l : List UInt8) (w : World) (i : Nat) (W : World) : Prop :=
  widthsTo ws i ∧ W.heap[B]? = some (.cells #[.slice aw n cw] 23 (0, 0)) ∧ W.heap[B + 1]? = some (.cells #[.string ⟨l.toArray⟩] 9 (0, 0)) ∧
  W.heap[B + 2]? = some (.cells #[.int .i64 (sumTo ws i)] 3 (0, 0)) ∧ Below B w W
def Bad1 (B n : Nat) (ws : List Int) (w : World) (c : Int) (W : World) : Prop := c = 2 ∧ ¬ widthsTo ws n ∧ Below B w W
/-- What stands ahead of the second closure's i-th call. -/
def I2 (B O : Nat) (aw : Option Addr) (n cw : Nat) (ws : List Int) (l : List UInt8) (w : World) (i : Nat) (W : World) : Prop :=
  gotTo ws l i ∧ W.heap[B]? = some (.cells #[.slice aw n cw] 23 (0, 0)) ∧ W.heap[B + 1]? = some (.cells #[.string ⟨(l.drop (sumTo ws i)).toArray⟩] 9 (0, 0)) ∧
  (∃ va vn vc, W.heap[O]? = some (.cells #[.slice va vn vc] 23 (0, 0)) ∧ W.ownsRow (O + 1) 3 1 (.slice va vn vc) i ((numsTo ws l i).map (Value.int .i64))) ∧ Below B w W
def Bad2 (B n : Nat) (ws : List Int) (l : List UInt8) (w : World) (c : Int) (W : World) : Prop := c = 3 ∧ ¬ gotTo ws l n ∧ Below B w W
theorem step1 (aw : Option Addr) (n cw : Nat) (ws : List Int) (l : List UInt8) (w : World) (hw : Row w w.heap.size aw n ws) (hn : n ≤ 10000) (i : Nat) (W : World) (hi : i < n) (h : I1 w.heap.size aw n cw ws l w i W) :
    Calls Tryz.prog 160 #[.int .i64 i, .pointer (some ⟨w.heap.size, 0, none⟩), .pointer (some ⟨w.heap.size + 2, 0, none⟩)] W
      (OFirst.Step (I1 w.heap.size aw n cw ws l w) (Bad1 w.heap.size n ws w) i) := by
  obtain ⟨hok, hb0, hb1, hb2, hbel⟩ := h
  obtain ⟨b1, o1, rfl, hlt1, hc1⟩ := (hw.below hbel).2 (by omega)
  have hc0 := blk_cell (i := 0) hb0 rfl
  have hc := hc1 i hi
  by_cases hy : 1 ≤ ws.getD i 0 ∧ ws.getD i 0 ≤ 8
  · have hs := sumTo_le ws i hok
    have hnx := widthsTo_next hok hy
    have hsum : sumTo ws (i + 1) = sumTo ws i + (ws.getD i 0).toNat := rfl
    obtain ⟨k, hk⟩ : ∃ k : Nat, ws.getD i 0 = k := ⟨(ws.getD i 0).toNat, by omega⟩
    rw [hk] at hc hy hsum
    rw [Int.toNat_natCast] at hsum
    refine (OUnpF.right w.heap.size b1 o1 cw i n k _ W hc0 hi hc (by omega) (by omega) (by omega) (blk_cell hb2 rfl) (blk_free hb2)).mono ?_
    rintro e w1 ⟨rfl, rfl⟩
    refine ⟨0, rfl, .inl ⟨rfl, hnx, ?_, ?_, ?_, ?_⟩⟩
    · show (W.setCell _ _).heap[_]? = _
      rw [Below.heap_setCell _ _ _ _ (by simp)]; exact hb0
    · show (W.setCell _ _).heap[_]? = _
      rw [Below.heap_setCell _ _ _ _ (by simp)]; exact hb1
    · show (W.setCell _ _).heap[_]? = _
      rw [blk_set hb2, hsum]; rfl
    · exact (hbel.setCell (by simp) _).drew
  · refine (OUnpF.wrong w.heap.size b1 o1 cw i n _ W hc0 hi hc hy).mono ?_
    rintro e w1 ⟨rfl, rfl⟩
    exact ⟨2, rfl, .inr ⟨by omega, rfl, fun hall => hy (hall i hi), hbel⟩⟩
theorem step2 (O : Nat) (aw : Option Addr) (n cw : Nat) (ws : List Int) (l : List UInt8) (w : World) (hw : Row w w.heap.size aw n ws) (hn : n ≤ 10000) (hO : w.heap.size + 1 < O) (hok : widthsTo ws n) (hlen : l.length = sumTo ws n)
    (i : Nat) (W : World) (hi : i < n) (h : I2 w.heap.size O aw n cw ws l w i W) :
    Calls Tryz.prog 161 #[.int .i64 i, .pointer (some ⟨w.heap.size + 1, 0, none⟩), .pointer (some ⟨w.heap.size, 0, none⟩), .pointer (some ⟨O, 0, none⟩)] W
      (OFirst.Step (I2 w.heap.size O aw n cw ws l w) (Bad2 w.heap.size n ws l w) i) := by
  obtain ⟨hgot, hb0, hb1, ⟨va, vn, vc, hb2, hown⟩, hbel⟩ := h
  obtain ⟨b1, o1, rfl, hlt1, hc1⟩ := (hw.below hbel).2 (by omega)
  have hc := hc1 i hi
  have hy := hok i hi
  have hmono := sumTo_mono ws (i + 1) n (by omega)
  have hsum : sumTo ws (i + 1) = sumTo ws i + (ws.getD i 0).toNat := rfl
  have hpc : (l.drop (sumTo ws i)).take (ws.getD i 0).toNat = piece ws l i := rfl
  have hnums : numsTo ws l (i + 1) = numsTo ws l i ++ [(get (piece ws l i)).1] := rfl
  have hnx := fun hz => gotTo_next (ws := ws) (l := l) (i := i) hgot hz
  obtain ⟨k, hk⟩ : ∃ k : Nat, ws.getD i 0 = k := ⟨(ws.getD i 0).toNat, by omega⟩
  rw [hk] at hc hy hsum hpc
  rw [Int.toNat_natCast] at hsum hpc
  refine (OUnpF.take_any w.heap.size (w.heap.size + 1) O b1 o1 cw i n k i (l.drop (sumTo ws i)) va vn vc (numsTo ws l i) W (by omega) (by omega) (by omega)
    (blk_cell hb0 rfl) hi hc (by rw [List.length_drop]; omega) hb1 hb2 hown (by omega)).mono ?_
  rintro e w1 ⟨v, rfl, h2, h1, hown', hbel'⟩
  rw [hpc] at hown' ⊢
  refine ⟨_, rfl, ?_⟩
  by_cases hz : (get (piece ws l i)).2 = 0
  · obtain ⟨a', n', c', rfl⟩ := own_slice hown'
    refine .inl ⟨hz, hnx hz, (hbel'.block _ (by omega)).trans hb0, ?_, ⟨a', n', c', h2, ?_⟩, hbel.trans (hbel'.mono (by omega))⟩
    · rw [h1, List.drop_drop, hsum]
    · rw [hnums]; exact hown'
  · exact .inr ⟨hz, by rw [get_no _ hz], fun hall => hz (hall i hi), hbel.trans (hbel'.mono (by omega))⟩
theorem own_base {w : World} {base base' : Nat} {e : TypeId} {size : Nat} {v : Value} {n : Nat} {xs : List Value} (h : w.ownsRow base e size v n xs) (hb : base' ≤ base) : w.ownsRow base' e size v n xs := by
  refine ⟨h.1, ?_⟩
  rcases h.2 with h0 | ⟨g, cap, cur, hv, hg, rest⟩
  · exact .inl h0
  · exact .inr ⟨g, cap, cur, hv, by omega, rest⟩
/-- What Unpack leaves: a slice of its own with the numbers, or nil. -/
def Post (r : List Int × Int) (w : World) (e : Ending) (w' : World) : Prop :=
  ∃ v, e = .returned (.tuple #[v, .int .i64 r.2]) ∧ w'.ownsRow w.heap.size 3 1 v r.1.length (r.1.map (Value.int .i64)) ∧ Below w.heap.size w w'
theorem post_err (c : Int) (w w' : World) (h : Below w.heap.size w w') : Post ([], c) w (.returned (.tuple #[.slice none 0 0, .int .i64 c])) w' := ⟨_, rfl, World.ownsRow_nil _ _ _ _, h⟩
theorem any (aw : Option Addr) (n cw : Nat) (ws : List Int) (l : List UInt8) (w : World) (hw : Row w w.heap.size aw n ws) (hn : n ≤ 10000) (hl : l.length ≤ maxLen) :
    Calls Tryz.prog 153 #[.slice aw n cw, .string ⟨l.toArray⟩] w (Post (unpack ws l) w) := by
  have hmf : ∀ (fn : Fn) (first cap : Array Value) (w : World), (Instr.makeFunc fn first cap).run Tryz.prog w = .ok (.func fn first cap) w := fun _ _ _ _ => rfl
  have hs1 := Lib.hid (fun i W => step1 aw n cw ws l w hw hn i W)
  have HL : Hid (l.length ≤ maxLen) := hl
  have HW := Lib.hid hw
  clear hw hl
  have h0 : I1 w.heap.size aw n cw ws l w 0 (((w.alloc (.cells #[.slice aw n cw] 23)).alloc (.cells #[.string ⟨l.toArray⟩] 9)).alloc (.cells #[.int .i64 0] 3)) := by
    refine ⟨fun j hj => absurd hj (by omega), ?_, ?_, ?_, (((Below.refl _ _).alloc (Nat.le_refl _) _).alloc (by simp) _).alloc (by simp; omega) _⟩
    · rw [Below.heap_alloc _ _ _ (by simp; omega), Below.heap_alloc _ _ _ (by simp)]; exact heap_alloc_new w _
    · rw [Below.heap_alloc _ _ _ (by simp)]
      have := heap_alloc_new (w.alloc (.cells #[.slice aw n cw] 23)) (.cells #[.string ⟨l.toArray⟩] 9)
      simpa using this
    · have := heap_alloc_new ((w.alloc (.cells #[.slice aw n cw] 23)).alloc (.cells #[.string ⟨l.toArray⟩] 9)) (.cells #[.int .i64 0] 3)
      simpa [sumTo] using this
  have H0 := Lib.hid h0
  clear h0
  go_enter Tryz.func153, Tryz.ntmps153
  go_wp2_with fail
  refine (OFirst.over_unpack1 n (by omega) _ _ _ _ hs1.out _ H0.out).mono ?_
  rintro e w1 hpost
  rcases hpost with ⟨rfl, hI⟩ | ⟨c, hne, rfl, hB⟩
  · obtain ⟨hok, hb0, hb1, hb2, hbel⟩ := hI
    have hln : ws.length = n := HW.out.1
    have c1 := blk_cell (i := 0) hb1 rfl
    have c2 := blk_cell (i := 0) hb2 rfl
    have hsl := sumTo_le ws n hok
    by_cases hlen : l.length = sumTo ws n
    · have H3 : Hid (w1.heap[w.heap.size]? = some (.cells #[.slice aw n cw] 23 (0, 0)) ∧ w1.heap[w.heap.size + 1]? = some (.cells #[.string ⟨l.toArray⟩] 9 (0, 0)) ∧ widthsTo ws n ∧ l.length = sumTo ws n ∧ ws.length = n ∧ Below w.heap.size w w1) :=
        ⟨hb0, hb1, hok, hlen, hln, hbel⟩
      have hbne : ((l.length : Int) != (sumTo ws n : Int)) = false := by rw [hlen]; simp
      have hO : w.heap.size + 1 < w1.heap.size := by
        have := World.block_lt_of_cell? w1 _ c2
        have : w.heap.size + 2 < w1.heap.size := this
        omega
      have hs2 := Lib.hid (fun i W => step2 w1.heap.size aw n cw ws l w HW.out hn hO hok hlen i W)
      have h0 : I2 w.heap.size w1.heap.size aw n cw ws l w 0 (w1.alloc (.cells #[.slice none 0 0] 23)) := by
        refine ⟨fun j hj => absurd hj (by omega), (Below.heap_alloc _ _ _ (by omega)).trans hb0, ?_, ⟨none, 0, 0, heap_alloc_new _ _, World.ownsRow_nil _ _ _ _⟩, hbel.alloc (by omega) _⟩
        rw [Below.heap_alloc _ _ _ (by omega), hb1]; rfl
      have H0' := Lib.hid h0
      have c0 : (w1.alloc (.cells #[.slice none 0 0] 23)).cell? ⟨w.heap.size, 0, none⟩ = some (.slice aw n cw) := blk_cell ((Below.heap_alloc _ _ _ (by omega)).trans hb0) rfl
      clear hb0 hb1 hb2 hok hlen hln hbel h0
      go_wp2_with fail
      refine (OFirst.over_unpack2 n (by omega) _ _ _ _ _ hs2.out _ H0'.out).mono ?_
      rintro e w2 hpost
      rcases hpost with ⟨rfl, hI⟩ | ⟨c, hne, rfl, hB⟩
      · obtain ⟨hgot, _, _, ⟨va, vn, vc, hb3, hown⟩, hbel2⟩ := hI
        have c3 := blk_cell (i := 0) hb3 rfl
        have hp : unpack ws l = (numsTo ws l n, 0) := by
          obtain ⟨_, _, h4, h5, h6, _⟩ := H3.out
          have := unpack_good ws l (by rw [h6]; exact h4) (by rw [h6]; exact h5) (by rw [h6]; exact hgot)
          rw [h6] at this
          exact this
        have HP := Lib.hid hp
        have hfin : Hid (w2.ownsRow w.heap.size 3 1 (.slice va vn vc) (numsTo ws l n).length ((numsTo ws l n).map (Value.int .i64)) ∧ Below w.heap.size w w2) := by
          refine ⟨?_, hbel2⟩
          rw [numsTo_length]
          exact own_base hown (by omega)
        clear hb3 hown hbel2 hgot hp
        go_wp2_with fail
        go_ret2
        rw [HP.out]
        exact ⟨_, rfl, hfin.out.1, hfin.out.2⟩
      · obtain ⟨rfl, hbad, hbel2⟩ := hB
        have hp : unpack ws l = ([], 3) := by
          obtain ⟨_, _, h4, h5, h6, _⟩ := H3.out
          exact unpack_bad ws l (by rw [h6]; exact h4) (by rw [h6]; exact h5) (by rw [h6]; exact hbad)
        have HP := Lib.hid hp
        have HB := Lib.hid hbel2
        clear hp hbad hbel2 hne
        go_wp2_with fail
        go_ret2
        rw [HP.out]
        exact post_err 3 w w2 HB.out
    · have hbne : ((l.length : Int) != (sumTo ws n : Int)) = true := by rw [bne_iff_ne]; omega
      have hp : unpack ws l = ([], 3) := unpack_sum ws l (by rw [hln]; exact hok) (by rw [hln]; exact hlen)
      have HP := Lib.hid hp
      have HB := Lib.hid hbel
      clear hb0 hb1 hb2 hok hlen hln hbel hp
      go_wp2_with fail
      go_ret2
      rw [HP.out]
      exact post_err 3 w w1 HB.out
  · obtain ⟨rfl, hbad, hbel⟩ := hB
    have hp : unpack ws l = ([], 2) := unpack_width ws l (by rw [HW.out.1]; exact hbad)
    have HP := Lib.hid hp
    have HB := Lib.hid hbel
    clear hp hbad hbel hne
    go_wp2_with fail
    go_ret2
    rw [HP.out]
    exact post_err 2 w w1 HB.out
end Go.Proofs.YtoilcieineejiaaGreatDoor.OUnp
