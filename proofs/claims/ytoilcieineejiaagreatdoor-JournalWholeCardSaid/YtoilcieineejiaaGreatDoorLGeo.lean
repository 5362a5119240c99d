/- GeoN GeoU GeoC GeoS GeoD GeoR: one behind the other. -/
import Derived.Test.YtoilcieineejiaaGreatDoorLOct
import Derived.Test.YtoilcieineejiaaGreatDoorLMem
import Derived.Test.YtoilcieineejiaaGreatDoorRows
import Derived.Laws.StructEq
import Derived.Deep.QuietTactic
import Derived.BigQuiet
import Derived.Deep.DeepCutAuto
import Derived.Outline
import Derived.Deep.RegionHeld3
import Derived.Test.YtoilcieineejiaaGreatDoorLRef
import Derived.Test.YtoilcieineejiaaGreatDoorLRef
/- Plain mathematics of geom: whether three numbers are a shape's, what is nearest to them, how many blocks are for data and may be taken, the bytes. No program is reached here; no conditions. -/
namespace Go.Proofs.YtoilcieineejiaaGreatDoor.GeoN
/-- Three numbers of a shape that may be. -/
def right (b l f : Int) : Prop := 8 ≤ b ∧ b ≤ 1024 ∧ 1 ≤ l ∧ l ≤ 4096 ∧ 0 ≤ f ∧ f ≤ 4294967295
instance (b l f : Int) : Decidable (right b l f) := inferInstanceAs (Decidable (_ ∧ _))
def lo : Nat → Int
  | 0 => 8
  | 1 => 1
  | _ => 0
def hi : Nat → Int
  | 0 => 1024
  | 1 => 4096
  | _ => 4294967295
theorem ite_max (x y : Int) : (if y > x then y else x) = max x y := by omega
theorem ite_min (x y : Int) : (if y < x then y else x) = min x y := by omega
def near (j : Nat) (x : Int) : Int := min (max x (lo j)) (hi j)
/-- The number in place 'i' behind 'j' rounds. -/
def at_ (X : Nat → Int) (j i : Nat) : Int := if i < j then near i (X i) else X i
def three (b l f : Int) : Nat → Int
  | 0 => b
  | 1 => l
  | _ => f
theorem near_right (b l f : Int) : (decide (b = near 0 b) && (decide (l = near 1 l) && decide (f = near 2 f))) = decide (right b l f) := by
  rw [Bool.eq_iff_iff]
  simp only [Bool.and_eq_true, decide_eq_true_iff]
  unfold right near
  rw [show lo 0 = 8 from rfl, show lo 1 = 1 from rfl, show lo 2 = 0 from rfl, show hi 0 = 1024 from rfl, show hi 1 = 4096 from rfl, show hi 2 = 4294967295 from rfl]
  constructor
  · rintro ⟨h1, h2, h3⟩; omega
  · rintro ⟨h1, h2, h3, h4, h5, h6⟩; exact ⟨by omega, by omega, by omega⟩
/-- What Check answers. -/
def check (b l f : Int) : Int := if right b l f then 0 else 2
theorem check_yes {b l f : Int} (h : right b l f) : check b l f = 0 := if_pos h
theorem check_no {b l f : Int} (h : ¬ right b l f) : check b l f = 2 := if_neg h
/-- How many blocks are for data. -/
def data (b l f : Int) : Int := if right b l f then b - 4 else 0
theorem data_yes {b l f : Int} (h : right b l f) : data b l f = b - 4 := if_pos h
theorem data_no {b l f : Int} (h : ¬ right b l f) : data b l f = 0 := if_neg h
theorem data_le (b l f : Int) : 0 ≤ data b l f ∧ data b l f ≤ 1020 := by
  unfold data
  split
  · rename_i h; unfold right at h; omega
  · omega
/-- How many may be taken. -/
def room (b l f used : Int) : Int := if right b l f ∧ 0 ≤ used ∧ used < b - 5 then b - 5 - used else 0
theorem room_neg {b l f used : Int} (h : used < 0) : room b l f used = 0 := if_neg (fun hh => by omega)
theorem room_max {b l f used : Int} (h : 0 ≤ used) : max (data b l f - 1 - used) 0 = room b l f used := by
  unfold room data
  by_cases hr : right b l f
  · rw [if_pos hr]
    by_cases hu : used < b - 5
    · rw [if_pos ⟨hr, h, hu⟩]; omega
    · rw [if_neg (fun hh => hu hh.2.2)]; omega
  · rw [if_neg hr, if_neg (fun hh => hr hh.1)]; omega
theorem room_yes {b l f used : Int} (h : right b l f) (h0 : 0 ≤ used) (h1 : used < b - 5) : room b l f used = b - 5 - used := if_pos ⟨h, h0, h1⟩
theorem room_no {b l f used : Int} (h : ¬ (right b l f ∧ 0 ≤ used ∧ used < b - 5)) : room b l f used = 0 := if_neg h
/-- What Place answers. -/
def place (b l f i : Int) : Int × Int := if i < 0 ∨ data b l f ≤ i then (0, 4) else (4 + i, 0)
theorem place_no {b l f i : Int} (h : i < 0 ∨ data b l f ≤ i) : place b l f i = (0, 4) := if_pos h
theorem place_yes {b l f i : Int} (h0 : 0 ≤ i) (h1 : i < data b l f) : place b l f i = (4 + i, 0) := if_neg (by omega)
/-- Of two places, which one has it. -/
def turn (n : Int) : Int := max n 0 % 2
/-- The bytes of a shape that may be. -/
def bytes3 (b l f : Int) : List UInt8 := be 4 b.toNat ++ be 4 l.toNat ++ be 4 f.toNat
theorem bytes_len (b l f : Int) : (bytes3 b l f).length = 12 := by simp [bytes3, be_length]
theorem put4 {n : Int} (h0 : 0 ≤ n) (h1 : n ≤ 4294967295) : put n 4 = (be 4 n.toNat, 0) := put_good n 4 (by omega) (by omega) h0 (by simpa using (show n < 4294967296 by omega))
/-- What Pack answers of a shape's numbers. -/
theorem pack_right {b l f : Int} (h : right b l f) : pack [4, 4, 4] [b, l, f] = (bytes3 b l f, 0) := by
  unfold right at h
  have p0 := put4 (n := b) (by omega) (by omega)
  have p1 := put4 (n := l) (by omega) (by omega)
  have p2 := put4 (n := f) (by omega) (by omega)
  unfold pack
  rw [if_pos ⟨rfl, fun j hj => by
    match j, hj with
    | 0, _ => simpa using congrArg Prod.snd p0
    | 1, _ => simpa using congrArg Prod.snd p1
    | 2, _ => simpa using congrArg Prod.snd p2⟩]
  simp [packTo, p0, p1, p2, bytes3]
/-- The three numbers of twelve bytes. -/
def nb (s : List UInt8) : Int := num (s.take 4)
def nl (s : List UInt8) : Int := num ((s.drop 4).take 4)
def nf (s : List UInt8) : Int := num (s.drop 8)
theorem n_bytes {b l f : Int} (h : right b l f) : nb (bytes3 b l f) = b ∧ nl (bytes3 b l f) = l ∧ nf (bytes3 b l f) = f := by
  unfold right at h
  have e0 : (bytes3 b l f).take 4 = be 4 b.toNat := by unfold bytes3; rw [List.append_assoc, List.take_left' (be_length _ _)]
  have e1 : ((bytes3 b l f).drop 4).take 4 = be 4 l.toNat := by unfold bytes3; rw [List.append_assoc, List.drop_left' (be_length _ _), List.take_left' (be_length _ _)]
  have e2 : (bytes3 b l f).drop 8 = be 4 f.toNat := by unfold bytes3; rw [List.drop_left' (by simp [be_length])]
  unfold nb nl nf
  rw [e0, e1, e2, num_be, num_be, num_be]
  simp only [Nat.reducePow]
  omega
theorem bytes_n {s : List UInt8} (h : s.length = 12) : bytes3 (nb s) (nl s) (nf s) = s := by
  have e0 := be_num (s.take 4)
  have e1 := be_num ((s.drop 4).take 4)
  have e2 := be_num (s.drop 8)
  rw [show (s.take 4).length = 4 from by simp; omega] at e0
  rw [show ((s.drop 4).take 4).length = 4 from by simp; omega] at e1
  rw [show (s.drop 8).length = 4 from by simp; omega] at e2
  unfold bytes3 nb nl nf
  rw [Int.toNat_natCast, Int.toNat_natCast, Int.toNat_natCast, e0, e1, e2]
  have h1 : s.drop 8 = (s.drop 4).drop 4 := by rw [List.drop_drop]
  rw [h1, List.append_assoc, List.take_append_drop, List.take_append_drop]
theorem n_lt (s : List UInt8) (h : s.length = 12) : 0 ≤ nb s ∧ nb s ≤ 4294967295 ∧ 0 ≤ nl s ∧ nl s ≤ 4294967295 ∧ 0 ≤ nf s ∧ nf s ≤ 4294967295 := by
  have h0 := num_lt (s.take 4)
  have h1 := num_lt ((s.drop 4).take 4)
  have h2 := num_lt (s.drop 8)
  rw [show (s.take 4).length = 4 from by simp; omega] at h0
  rw [show ((s.drop 4).take 4).length = 4 from by simp; omega] at h1
  rw [show (s.drop 8).length = 4 from by simp; omega] at h2
  unfold nb nl nf
  simp only [Nat.reducePow] at h0 h1 h2
  omega
end Go.Proofs.YtoilcieineejiaaGreatDoor.GeoN
/- Plain mathematics: what Unpack answers of twelve bytes, and what Take does. No program is reached here; no conditions. -/
namespace Go.Proofs.YtoilcieineejiaaGreatDoor.GeoU
open GeoN
theorem get4 (l : List UInt8) (h : l.length = 4) : get l = ((num l : Int), 0) := by
  have := num_lt l
  rw [h] at this
  exact get_good l (by omega) (by omega) (by simp only [Nat.reducePow] at this; omega)
theorem unpack_twelve (s : List UInt8) (h : s.length = 12) : unpack [4, 4, 4] s = ([nb s, nl s, nf s], 0) := by
  have p0 : piece [4, 4, 4] s 0 = s.take 4 := rfl
  have p1 : piece [4, 4, 4] s 1 = (s.drop 4).take 4 := rfl
  have p2 : piece [4, 4, 4] s 2 = s.drop 8 := by
    show (s.drop 8).take 4 = _
    exact List.take_of_length_le (by simp; omega)
  have g0 := get4 (s.take 4) (by simp; omega)
  have g1 := get4 ((s.drop 4).take 4) (by simp; omega)
  have g2 := get4 (s.drop 8) (by simp; omega)
  have hw : widthsTo [4, 4, 4] 3 := fun j hj => by
    match j, hj with
    | 0, _ => simp
    | 1, _ => simp
    | 2, _ => simp
  have hg : gotTo [4, 4, 4] s 3 := fun j hj => by
    match j, hj with
    | 0, _ => rw [p0, g0]
    | 1, _ => rw [p1, g1]
    | 2, _ => rw [p2, g2]
  rw [unpack_good [4, 4, 4] s hw (by simp [sumTo, h]) hg]
  show (numsTo [4, 4, 4] s 3, 0) = _
  simp [numsTo, p0, p1, p2, g0, g1, g2, nb, nl, nf]
theorem unpack_other (s : List UInt8) (h : ¬ s.length = 12) : unpack [4, 4, 4] s = ([], 3) := by
  have hw : widthsTo [4, 4, 4] 3 := fun j hj => by
    match j, hj with
    | 0, _ => simp
    | 1, _ => simp
    | 2, _ => simp
  exact unpack_sum [4, 4, 4] s hw (by simp [sumTo, h])
/-- Twelve bytes that are a shape's. -/
def shaped (s : List UInt8) : Prop := s.length = 12 ∧ right (nb s) (nl s) (nf s)
/-- What Take answers: the three numbers and the error's. -/
def take (s : List UInt8) : (Int × Int × Int) × Int := if s.length = 12 ∧ right (nb s) (nl s) (nf s) then ((nb s, nl s, nf s), 0) else ((0, 0, 0), 3)
theorem take_yes {s : List UInt8} (h : shaped s) : take s = ((nb s, nl s, nf s), 0) := if_pos h
theorem take_no {s : List UInt8} (h : ¬ shaped s) : take s = ((0, 0, 0), 3) := if_neg h
theorem take_bytes {b l f : Int} (h : right b l f) : take (bytes3 b l f) = ((b, l, f), 0) := by
  obtain ⟨e0, e1, e2⟩ := n_bytes h
  rw [take_yes ⟨bytes_len _ _ _, by rw [e0, e1, e2]; exact h⟩, e0, e1, e2]
end Go.Proofs.YtoilcieineejiaaGreatDoor.GeoU
/- geom.nearest, numbersOf, shape, Check, Data, Place, Room, Super, Key, widths: the walks of their texts. The condition: that the least and the most numbers lie in the program's two variables. -/
namespace Go.Proofs.YtoilcieineejiaaGreatDoor.GeoC
open Go.RowKit
open GeoN
/-- The least and the most numbers lie in the program's variables. -/
def Bnd (w : World) : Prop := ∀ i, i < 3 → w.cell? ⟨0, i, none⟩ = some (.int .i64 (lo i)) ∧ w.cell? ⟨1, i, none⟩ = some (.int .i64 (hi i))
theorem Bnd.lt {w : World} (h : Bnd w) : 0 < w.heap.size ∧ 1 < w.heap.size :=
  ⟨World.block_lt_of_cell? w _ (h 0 (by omega)).1, World.block_lt_of_cell? w _ (h 0 (by omega)).2⟩
theorem Bnd.below {w w' : World} (h : Bnd w) {B : Nat} (hb : Below B w w') (h1 : 0 < B) (h2 : 1 < B) : Bnd w' := fun i hi =>
  ⟨(hb.cell (p := ⟨_, i, none⟩) h1).trans (h i hi).1, (hb.cell (p := ⟨_, i, none⟩) h2).trans (h i hi).2⟩
theorem Bnd.step {w w' : World} (h : Bnd w) (hb : Below w.heap.size w w') : Bnd w' := h.below hb h.lt.1 h.lt.2
/-- Three numbers as cells. -/
def c3 (a b c : Int) : Array Value := #[.int .i64 a, .int .i64 b, .int .i64 c]
theorem infoN : (Tryz.prog.info? 154).map (·.size) = some 3 := by kernel_rfl
theorem infoG : (Tryz.prog.info? 32).map (·.size) = some 3 := by kernel_rfl
theorem one3 (a b c : Int) : (#[.int .i64 a, .int .i64 b, .int .i64 c] : Array Value).all (·.oneCell') = true := by simp [Value.oneCell']
/-- What geom.numbersOf answers. -/
theorem numbersOf (a b c : Int) (w : World) :
    Calls Tryz.prog 109 #[.agg #[.int .i64 a, .int .i64 b, .int .i64 c]] w fun e w' => e = .returned (.agg #[.int .i64 a, .int .i64 b, .int .i64 c]) ∧ Below w.heap.size w w' := by
  go_enter Tryz.func109, Tryz.ntmps109
  go_wp2_with (refine wpList_store_row rfl 154 _ _ rfl (w.heap.size + 1) _ rfl rfl 154 _ (heap_alloc2_new w _ _) infoN rfl (one3 a b c) ?_)
  refine bodyPost_ret (v := .agg #[.int .i64 a, .int .i64 b, .int .i64 c])
    (results_cell_row Tryz.results109 _ _ (w.heap.size + 1) 154 _ (0, 0) _ rfl (setRow_same (heap_alloc2_new w _ _)) Tryz.underlying154 rfl infoN) rfl
    ⟨rfl, below_setRow (((Below.refl _ _).alloc (Nat.le_refl _) _).alloc (by simp) _) (by omega) _⟩
/-- What (numbers).shape answers. -/
theorem shape (a b c : Int) (w : World) :
    Calls Tryz.prog 110 #[.agg #[.int .i64 a, .int .i64 b, .int .i64 c]] w fun e w' => e = .returned (.agg #[.int .i64 a, .int .i64 b, .int .i64 c]) ∧ Below w.heap.size w w' := by
  go_enter Tryz.func110, Tryz.ntmps110
  go_wp2_with (refine wpList_store_row rfl 32 _ _ rfl (w.heap.size + 1) _ rfl rfl 32 _ (heap_alloc2_new w _ _) infoG rfl (one3 a b c) ?_)
  refine bodyPost_ret (v := .agg #[.int .i64 a, .int .i64 b, .int .i64 c])
    (results_cell_row Tryz.results110 _ _ (w.heap.size + 1) 32 _ (0, 0) _ rfl (setRow_same (heap_alloc2_new w _ _)) Tryz.underlying32 rfl infoG) rfl
    ⟨rfl, below_setRow (((Below.refl _ _).alloc (Nat.le_refl _) _).alloc (by simp) _) (by omega) _⟩
/-- The cells behind 'j' rounds. -/
def row (X : Nat → Int) (j : Nat) : Array Value := #[.int .i64 (at_ X j 0), .int .i64 (at_ X j 1), .int .i64 (at_ X j 2)]
theorem row_at (X : Nat → Int) (j : Nat) (h : j < 3) : (row X j)[j]? = some (.int .i64 (X j)) := by
  match j, h with
  | 0, _ => simp [row, at_]
  | 1, _ => simp [row, at_]
  | 2, _ => simp [row, at_]
theorem row_next (X : Nat → Int) (j : Nat) (h : j < 3) : (row X j).setIfInBounds j (.int .i64 (near j (X j))) = row X (j + 1) := by
  match j, h with
  | 0, _ => simp [row, at_]
  | 1, _ => simp [row, at_]
  | 2, _ => simp [row, at_]
theorem lo_hi (j : Nat) : -9223372036854775808 ≤ lo j ∧ lo j ≤ 9223372036854775807 ∧ -9223372036854775808 ≤ hi j ∧ hi j ≤ 9223372036854775807 := by
  match j with
  | 0 => simp [lo, hi]
  | 1 => simp [lo, hi]
  | _ + 2 => simp [lo, hi]
set_option maxRecDepth 100000 in
/-- What geom.nearest answers. -/
theorem nearest (a b c : Int) (w : World) (hb : Bnd w) :
    Calls Tryz.prog 72 #[.agg #[.int .i64 a, .int .i64 b, .int .i64 c]] w fun e w' => e = .returned (.agg #[.int .i64 (near 0 a), .int .i64 (near 1 b), .int .i64 (near 2 c)]) ∧ Below w.heap.size w w' := by
  have HB := Lib.hid hb
  have GG := Lib.hid hb.lt
  clear hb
  have HX : Hid (row (three a b c) 0 = #[.int .i64 a, .int .i64 b, .int .i64 c]) := rfl
  have HY : Hid (row (three a b c) 3 = #[.int .i64 (near 0 a), .int .i64 (near 1 b), .int .i64 (near 2 c)]) := rfl
  go_enter Tryz.func72, Tryz.ntmps72
  go_upto_region 1 with (fail)
  generalize hW : World.alloc (World.alloc w _) _ = W0
  have f0 : W0.heap[w.heap.size]? = some (.cells #[.int .i64 a, .int .i64 b, .int .i64 c] 32 (0, 0)) := by rw [← hW]; exact heap_alloc2_old w _ _
  have f1 : ∃ zs : Array Value, zs.size = 3 ∧ W0.heap[w.heap.size + 1]? = some (.cells zs 32 (0, 0)) := ⟨_, rfl, by rw [← hW]; exact heap_alloc2_new w _ _⟩
  have fB : Below w.heap.size w W0 := by rw [← hW]; exact ((Below.refl _ _).alloc (Nat.le_refl _) _).alloc (by simp) _
  have fS : W0.heap.size = w.heap.size + 2 := by rw [← hW]; simp
  clear hW
  obtain ⟨zs, hzs, f1⟩ := f1
  have F1 := Lib.hid f1
  have FB := Lib.hid fB
  have FS := Lib.hid fS
  have HZ := Lib.hid hzs
  have FR := Lib.hid (HB.out.step fB)
  clear f1 fB fS hzs HB
  have k0 : W0.cell? ⟨w.heap.size, 0, none⟩ = some (.int .i64 a) := blk_cell f0 rfl
  have k1 : W0.cell? ⟨w.heap.size, 1, none⟩ = some (.int .i64 b) := blk_cell f0 rfl
  have k2 : W0.cell? ⟨w.heap.size, 2, none⟩ = some (.int .i64 c) := blk_cell f0 rfl
  clear f0
  go_upto_region 2 with (first
    | (go_at_call 109; refine (numbersOf a b c _).mono ?_; rintro e w1 ⟨rfl, hb1⟩; have HB1 := Lib.hid hb1; clear hb1)
    | (refine wpList_store_row rfl 154 _ _ rfl w1.heap.size _ rfl rfl 154 _ (heap_alloc_new w1 _) infoN rfl (one3 a b c) ?_))
  generalize hW : World.setRow (World.alloc w1 _) _ _ = W2
  have hs1 : w.heap.size + 2 ≤ w1.heap.size := by have := HB1.out.size; rw [FS.out] at this; exact this
  have g1 : W2.heap[w.heap.size + 1]? = some (.cells zs 32 (0, 0)) := by
    rw [← hW, setRow_far (by omega), Below.heap_alloc _ _ _ (by omega), HB1.out.block _ (by rw [FS.out]; omega)]
    exact F1.out
  have g3 : W2.heap[w1.heap.size]? = some (.cells (row (three a b c) 0) 154 (0, 0)) := by rw [← hW, HX.out]; exact setRow_same (heap_alloc_new w1 _)
  have gB : Below w.heap.size w W2 := by
    rw [← hW]
    exact below_setRow ((FB.out.trans (HB1.out.mono (by rw [FS.out]; omega))).alloc (by omega) _) (by omega) _
  have gR : Bnd W2 := by
    rw [← hW]
    exact FR.out.step (below_setRow (HB1.out.alloc HB1.out.size _) HB1.out.size _)
  have G1 := Lib.hid g1
  have GR := Lib.hid gR
  have GS := Lib.hid hs1
  clear hW g1 gR hs1 HB1 F1 FB FS FR k0 k1 k2 HX
  generalize three a b c = X at *
  generalize w1.heap.size = B at *
  clear w1 W0
  go_wp2_with fail
  go_loopw [7] (fun i wr => ∃ j : Nat, j ≤ 3 ∧ i = .int .i64 j ∧ wr.heap[B]? = some (.cells (row X j) 154 (0, 0)) ∧ wr.heap[w.heap.size + 1]? = some (.cells zs 32 (0, 0)) ∧ Below w.heap.size w wr ∧ Bnd wr) (fun i _ => 3 - (intOf i).toNat)
  case atStart => exact ⟨0, Nat.zero_le _, rfl, g3, G1.out, gB, GR.out⟩
  case round =>
    obtain ⟨j, hj, rfl, h3, h1, hbel, hr⟩ := hrel
    by_cases hlt : j < 3
    · have hfz := blk_free (i := j) h3
      have hv := blk_cell h3 (row_at X j hlt)
      have hl := (hr j hlt).1
      have hh := (hr j hlt).2
      have HN := Lib.hid (row_next X j hlt)
      have HQ : Hid (near j (X j) = min (max (X j) (lo j)) (hi j)) := rfl
      have hm : ∀ (W : World) (ts : Array TypeId) (t : TypeId), (Builtin.max_ ts t #[.int .i64 (X j), .int .i64 (lo j)]).run Tryz.prog W = .ok (.int .i64 (max (X j) (lo j))) W := fun W ts t => by rw [run_max_int2, ite_max]
      have hn : ∀ (W : World) (ts : Array TypeId) (t : TypeId), (Builtin.min_ ts t #[.int .i64 (max (X j) (lo j)), .int .i64 (hi j)]).run Tryz.prog W = .ok (.int .i64 (near j (X j))) W := fun W ts t => by rw [run_min_int2, ite_min]; rfl
      generalize max (X j) (lo j) = u at *
      generalize near j (X j) = y at *
      generalize X j = x at *
      generalize lo j = l at *
      generalize hi j = m at *
      have H3 := Lib.hid h3
      have H1 := Lib.hid h1
      have HB := Lib.hid hbel
      have HR := Lib.hid hr
      clear h3 h1 hbel hr HQ
      go_wp2_with fail
      go_region
      go_wp2
      go_roundw
      case rel =>
        have hBw : w.heap.size + 2 ≤ B := GS.out
        refine ⟨j + 1, by omega, by go_num, ?_, ?_, ?_, ?_⟩
        · show (wr.setCell _ _).heap[_]? = _
          rw [blk_set H3.out, HN.out]
        · show (wr.setCell _ _).heap[_]? = _
          rw [Below.heap_setCell _ _ _ _ (by simp; omega)]
          exact H1.out
        · exact (HB.out.setCell (by simp; omega) _).drew
        · intro i hi
          have h2 := GG.out
          refine ⟨?_, ?_⟩
          · show (wr.setCell _ _).cell? _ = _
            rw [World.cell?_setCell_other wr _ _ _ (fun e => by injection e; omega)]
            exact (HR.out i hi).1
          · show (wr.setCell _ _).cell? _ = _
            rw [World.cell?_setCell_other wr _ _ _ (fun e => by injection e; omega)]
            exact (HR.out i hi).2
      case measure => simp [intOf]; omega
    · have hk : j = 3 := by omega
      subst hk
      rw [HY.out] at h3
      have HB := Lib.hid hbel
      have H1 := Lib.hid h1
      have c0 : wr.cell? ⟨B, 0, none⟩ = some (.int .i64 (near 0 a)) := blk_cell h3 rfl
      have c1 : wr.cell? ⟨B, 1, none⟩ = some (.int .i64 (near 1 b)) := blk_cell h3 rfl
      have c2 : wr.cell? ⟨B, 2, none⟩ = some (.int .i64 (near 2 c)) := blk_cell h3 rfl
      obtain ⟨x, hx⟩ : ∃ x, x = near 0 a := ⟨_, rfl⟩
      obtain ⟨y, hy⟩ : ∃ y, y = near 1 b := ⟨_, rfl⟩
      obtain ⟨z, hz⟩ : ∃ z, z = near 2 c := ⟨_, rfl⟩
      rw [← hx] at c0
      rw [← hy] at c1
      rw [← hz] at c2
      have EX := Lib.hid hx
      have EY := Lib.hid hy
      have EZ := Lib.hid hz
      clear h3 hbel h1 hr hx hy hz
      have HBW := Lib.hid (show w.heap.size + 1 < wr.heap.size from (Array.getElem?_eq_some_iff.1 H1.out).1)
      go_wp2_with (first
        | (go_at_call 110; refine (shape x y z _).mono ?_; rintro e w1 ⟨rfl, hb1⟩; have HB1 := Lib.hid hb1; clear hb1)
        | (refine wpList_store_row rfl 32 _ _ rfl (w.heap.size + 1) _ rfl rfl 32 _ ((HB1.out.block _ HBW.out).trans H1.out) infoG HZ.out (one3 x y z) ?_))
      refine bodyPost_ret (v := .agg #[.int .i64 x, .int .i64 y, .int .i64 z])
        (results_cell_row Tryz.results72 _ _ (w.heap.size + 1) 32 _ (0, 0) _ rfl (setRow_same ((HB1.out.block _ HBW.out).trans H1.out)) Tryz.underlying32 rfl infoG) rfl
        ⟨by rw [EX.out, EY.out, EZ.out], below_setRow (HB.out.trans (HB1.out.mono HB.out.size)) (by omega) _⟩
theorem fields_geo : Tryz.prog.fieldsOf 32 = #[{ name := "Blocks", type := 3, offset := 0, embedded := false, tag := "", pkgPath := "", byteOffset := 0 }, { name := "Lbas", type := 3, offset := 1, embedded := false, tag := "", pkgPath := "", byteOffset := 8 }, { name := "First", type := 3, offset := 2, embedded := false, tag := "", pkgPath := "", byteOffset := 16 }] := by kernel_rfl
theorem under_geo : Tryz.prog.underlying 32 = some (.struct (Tryz.prog.fieldsOf 32)) := by kernel_rfl
theorem stood_geo : Tryz.prog.stoodInHeld 32 = false := by kernel_rfl
theorem run_in_geo (W : World) (a b c d e f : Int) (q : Bool) (h : (decide (a = d) && (decide (b = e) && decide (c = f))) = q) :
    (Op.equalIn 10000 32 (.agg #[.int .i64 a, .int .i64 b, .int .i64 c]) (.agg #[.int .i64 d, .int .i64 e, .int .i64 f])).run Tryz.prog W = .ok q W := by
  have e1 : ∀ x y : Int, (Op.equalIn 9999 3 (.int .i64 x) (.int .i64 y)).run Tryz.prog W = .ok (x == y) W := fun x y => run_equalIn_int W 9998 3 .i64 .i64 x y Tryz.underlying3
  have p0 : ∀ (x y z : Int), (part 3 #[.int .i64 x, .int .i64 y, .int .i64 z] 0).run Tryz.prog W = .ok (.int .i64 x) W := fun x y z => by simp [part, isAgg, run_underlying Tryz.underlying3]
  have p1 : ∀ (x y z : Int), (part 3 #[.int .i64 x, .int .i64 y, .int .i64 z] 1).run Tryz.prog W = .ok (.int .i64 y) W := fun x y z => by simp [part, isAgg, run_underlying Tryz.underlying3]
  have p2 : ∀ (x y z : Int), (part 3 #[.int .i64 x, .int .i64 y, .int .i64 z] 2).run Tryz.prog W = .ok (.int .i64 z) W := fun x y z => by simp [part, isAgg, run_underlying Tryz.underlying3]
  rw [run_equalIn_struct W 9999 _ _ _ under_geo stood_geo, fields_geo]
  subst h
  simp only [Op.eqFields, Sem.run_bind, Sem.run_ite, p0, p1, p2, e1, Result.andThen_ok]
  by_cases h1 : a = d <;> by_cases h2 : b = e <;> by_cases h3 : c = f <;> simp [h1, h2, h3]
/-- Two shapes held against each other. -/
theorem run_neq_geo (W : World) (a b c d e f : Int) (q : Bool) (h : (decide (a = d) && (decide (b = e) && decide (c = f))) = q) :
    (binOp .neq 32 (.agg #[.int .i64 a, .int .i64 b, .int .i64 c]) (.agg #[.int .i64 d, .int .i64 e, .int .i64 f])).run Tryz.prog W = .ok (.bool (!q)) W := by
  rw [run_neq_struct, run_in_geo W a b c d e f q h, Result.andThen_ok]
theorem run_eql_geo (W : World) (a b c d e f : Int) (q : Bool) (h : (decide (a = d) && (decide (b = e) && decide (c = f))) = q) :
    (binOp .eql 32 (.agg #[.int .i64 a, .int .i64 b, .int .i64 c]) (.agg #[.int .i64 d, .int .i64 e, .int .i64 f])).run Tryz.prog W = .ok (.bool q) W := by
  rw [run_eql_struct, run_in_geo W a b c d e f q h, Result.andThen_ok]
end Go.Proofs.YtoilcieineejiaaGreatDoor.GeoC
/- A shape that lies in a block of its own beside what a statement calls. No conditions but those that each lemma names. -/
namespace Go.Proofs.YtoilcieineejiaaGreatDoor.GeoS
open Go.RowKit
open GeoN GeoC
/-- What stands while a statement runs: what was stays, the two variables, the shape in its block. -/
structure St (w : World) (a b c : Int) (W : World) : Prop where
  bel : Below w.heap.size w W
  bn : Bnd W
  k : W.heap[w.heap.size]? = some (.cells #[.int .i64 a, .int .i64 b, .int .i64 c] 32 (0, 0))
theorem st_new {w : World} (a b c : Int) (hb : Bnd w) : St w a b c (w.alloc (.cells #[.int .i64 a, .int .i64 b, .int .i64 c] 32)) :=
  have h : Below w.heap.size w (w.alloc (.cells #[.int .i64 a, .int .i64 b, .int .i64 c] 32)) := (Below.refl _ _).alloc (Nat.le_refl _) _
  ⟨h, hb.step h, heap_alloc_new w _⟩
theorem St.lt {w W : World} {a b c : Int} (h : St w a b c W) : w.heap.size < W.heap.size := (Array.getElem?_eq_some_iff.1 h.k).1
theorem St.step {w W W' : World} {a b c : Int} (h : St w a b c W) (hb : Below W.heap.size W W') : St w a b c W' :=
  ⟨h.bel.trans (hb.mono h.bel.size), h.bn.step hb, (hb.block _ h.lt).trans h.k⟩
theorem St.drew {w W : World} {a b c : Int} (h : St w a b c W) : St w a b c W.drew := ⟨h.bel.drew, h.bn.step (Below.refl _ _).drew, h.k⟩
theorem St.cells {w W : World} {a b c : Int} (h : St w a b c W) : W.cell? ⟨w.heap.size, 0, none⟩ = some (.int .i64 a) ∧ W.cell? ⟨w.heap.size, 1, none⟩ = some (.int .i64 b) ∧ W.cell? ⟨w.heap.size, 2, none⟩ = some (.int .i64 c) :=
  ⟨blk_cell h.k rfl, blk_cell h.k rfl, blk_cell h.k rfl⟩
/-- A struct stored into a new block. -/
theorem kept_new (w : World) (old cs : Array Value) (t : TypeId) : Below w.heap.size w ((w.alloc (.cells old t)).setRow w.heap.size cs) := below_setRow ((Below.refl _ _).alloc (Nat.le_refl _) _) (Nat.le_refl _) _
theorem has_new (w : World) (old cs : Array Value) (t : TypeId) : ((w.alloc (.cells old t)).setRow w.heap.size cs).heap[w.heap.size]? = some (.cells cs t (0, 0)) := setRow_same (heap_alloc_new w _)
/-- A shape in a block. -/
def At (W : World) (X : Nat) (x y z : Int) : Prop := W.heap[X]? = some (.cells #[.int .i64 x, .int .i64 y, .int .i64 z] 32 (0, 0))
theorem At.lt {W : World} {X : Nat} {x y z : Int} (h : At W X x y z) : X < W.heap.size := (Array.getElem?_eq_some_iff.1 h).1
theorem At.step {W W' : World} {X : Nat} {x y z : Int} (h : At W X x y z) (hb : Below W.heap.size W W') : At W' X x y z := (hb.block _ h.lt).trans h
theorem At.cells {W : World} {X : Nat} {x y z : Int} (h : At W X x y z) : W.cell? ⟨X, 0, none⟩ = some (.int .i64 x) ∧ W.cell? ⟨X, 1, none⟩ = some (.int .i64 y) ∧ W.cell? ⟨X, 2, none⟩ = some (.int .i64 z) :=
  ⟨blk_cell h rfl, blk_cell h rfl, blk_cell h rfl⟩
end Go.Proofs.YtoilcieineejiaaGreatDoor.GeoS
/- geom.Check, Data, Place, Room, turn, Super, Key and the chapter's example: the walks of their texts. The condition: that the least and the most numbers lie in the program's two variables. -/
namespace Go.Proofs.YtoilcieineejiaaGreatDoor.GeoD
open Go.RowKit
open GeoN GeoC
set_option maxRecDepth 100000 in
/-- What geom.Check answers. -/
theorem Check (a b c : Int) (w : World) (hb : Bnd w) :
    Calls Tryz.prog 34 #[.agg #[.int .i64 a, .int .i64 b, .int .i64 c]] w fun e w' => e = .returned (.int .i64 (check a b c)) ∧ Below w.heap.size w w' := by
  obtain ⟨W1, hW1⟩ : ∃ W1, W1 = w.alloc (.cells #[.int .i64 a, .int .i64 b, .int .i64 c] 32) := ⟨_, rfl⟩
  have hb1 : Below w.heap.size w W1 := by rw [hW1]; exact (Below.refl _ _).alloc (Nat.le_refl _) _
  have hk1 : W1.heap[w.heap.size]? = some (.cells #[.int .i64 a, .int .i64 b, .int .i64 c] 32 (0, 0)) := by rw [hW1]; exact heap_alloc_new w _
  have hs1 : W1.heap.size = w.heap.size + 1 := by rw [hW1]; simp
  have HN := Lib.hid (fun W h => nearest a b c W h)
  have HR := Lib.hid (hb.step hb1)
  have he := fun W => run_neq_geo W a b c (near 0 a) (near 1 b) (near 2 c) (decide (right a b c)) (near_right a b c)
  have k0 : W1.cell? ⟨w.heap.size, 0, none⟩ = some (.int .i64 a) := blk_cell hk1 rfl
  have k1 : W1.cell? ⟨w.heap.size, 1, none⟩ = some (.int .i64 b) := blk_cell hk1 rfl
  have k2 : W1.cell? ⟨w.heap.size, 2, none⟩ = some (.int .i64 c) := blk_cell hk1 rfl
  have HK := Lib.hid hk1
  have HB := Lib.hid hb1
  have HS := Lib.hid hs1
  have HC : Hid (check a b c = if decide (right a b c) = true then 0 else 2) := by
    show _ = _
    unfold check
    by_cases h : right a b c <;> simp [h]
  generalize decide (right a b c) = q at *
  generalize near 0 a = x at *
  generalize near 1 b = y at *
  generalize near 2 c = z at *
  go_enter Tryz.func34, Tryz.ntmps34
  go_upto_region 1 with (fail)
  rw [← hW1]
  clear hW1 hb1 hk1 hs1 hb
  go_region_held3 (fun w' => w'.cell? ⟨w.heap.size, 0, none⟩ = some (.int .i64 a) ∧ w'.cell? ⟨w.heap.size, 1, none⟩ = some (.int .i64 b) ∧ w'.cell? ⟨w.heap.size, 2, none⟩ = some (.int .i64 c))
    (first | exact ⟨k0, k1, k2⟩ | exact hS1)
    (first | (go_at_call 72; refine (HN.out _ (HR.out.step (Below.refl _ _).drew)).mono ?_; rintro e w1 ⟨rfl, hb1⟩; have HB1 := Lib.hid hb1; have hK1 := (hb1.block _ (by show w.heap.size < W1.heap.size; rw [HS.out]; omega)).trans HK.out; have hS1 := And.intro (blk_cell (i := 0) (u := .int .i64 a) hK1 rfl) (And.intro (blk_cell (i := 1) (u := .int .i64 b) hK1 rfl) (blk_cell (i := 2) (u := .int .i64 c) hK1 rfl)); clear hb1 hK1))
  have HBe := Lib.hid (HB.out.drew.trans (HB1.out.mono (by show w.heap.size ≤ W1.heap.size; rw [HS.out]; omega)))
  clear hS1 k0 k1 k2 HB1 HB HK HS HR HN he
  cases q
  · go_wp2_with fail
    go_ret
    exact ⟨by rw [HC.out]; rfl, HBe.out⟩
  · go_wp2_with fail
    go_ret
    exact ⟨by rw [HC.out]; rfl, HBe.out⟩
set_option maxRecDepth 100000 in
/-- What geom.Data answers. -/
theorem Data (a b c : Int) (w : World) (hb : Bnd w) :
    Calls Tryz.prog 91 #[.agg #[.int .i64 a, .int .i64 b, .int .i64 c]] w fun e w' => e = .returned (.int .i64 (data a b c)) ∧ Below w.heap.size w w' := by
  obtain ⟨W1, hW1⟩ : ∃ W1, W1 = w.alloc (.cells #[.int .i64 a, .int .i64 b, .int .i64 c] 32) := ⟨_, rfl⟩
  have hb1 : Below w.heap.size w W1 := by rw [hW1]; exact (Below.refl _ _).alloc (Nat.le_refl _) _
  have hk1 : W1.heap[w.heap.size]? = some (.cells #[.int .i64 a, .int .i64 b, .int .i64 c] 32 (0, 0)) := by rw [hW1]; exact heap_alloc_new w _
  have HN := Lib.hid (fun W h => Check a b c W h)
  have HR := Lib.hid (hb.step hb1)
  have k0 : W1.cell? ⟨w.heap.size, 0, none⟩ = some (.int .i64 a) := blk_cell hk1 rfl
  have k1 : W1.cell? ⟨w.heap.size, 1, none⟩ = some (.int .i64 b) := blk_cell hk1 rfl
  have k2 : W1.cell? ⟨w.heap.size, 2, none⟩ = some (.int .i64 c) := blk_cell hk1 rfl
  have HK := Lib.hid hk1
  have HB := Lib.hid hb1
  have HS := Lib.hid (show w.heap.size < W1.heap.size by rw [hW1]; simp)
  go_enter Tryz.func91, Tryz.ntmps91
  go_upto_region 1 with (fail)
  rw [← hW1]
  clear hW1 hb1 hk1 hb
  by_cases hr : right a b c
  · have hra : a ≤ 1024 ∧ 8 ≤ a := ⟨hr.2.1, hr.1⟩
    have HD := Lib.hid (data_yes hr)
    rw [check_yes hr] at HN
    clear hr
    go_wp2_with (first | (go_at_call 34; refine (HN.out _ HR.out).mono ?_; rintro e w1 ⟨rfl, hb1⟩; have HB1 := Lib.hid hb1; have c0 := blk_cell (i := 0) (u := .int .i64 a) ((hb1.block _ HS.out).trans HK.out) rfl; clear hb1))
    go_ret
    exact ⟨by rw [HD.out] <;> rfl, HB.out.trans (HB1.out.mono HB.out.size)⟩
  · have HD := Lib.hid (data_no hr)
    rw [check_no hr] at HN
    clear hr
    go_wp2_with (first | (go_at_call 34; refine (HN.out _ HR.out).mono ?_; rintro e w1 ⟨rfl, hb1⟩; have HB1 := Lib.hid hb1; clear hb1))
    go_ret
    exact ⟨by rw [HD.out] <;> rfl, HB.out.trans (HB1.out.mono HB.out.size)⟩
set_option maxRecDepth 100000 in
/-- What geom.Room answers. -/
theorem Room (a b c u : Int) (w : World) (hb : Bnd w) (hu : u ≤ 9223372036854775807) :
    Calls Tryz.prog 102 #[.agg #[.int .i64 a, .int .i64 b, .int .i64 c], .int .i64 u] w fun e w' => e = .returned (.int .i64 (room a b c u)) ∧ Below w.heap.size w w' := by
  obtain ⟨W1, hW1⟩ : ∃ W1, W1 = w.alloc (.cells #[.int .i64 a, .int .i64 b, .int .i64 c] 32) := ⟨_, rfl⟩
  have hb1 : Below w.heap.size w W1 := by rw [hW1]; exact (Below.refl _ _).alloc (Nat.le_refl _) _
  have hk1 : W1.heap[w.heap.size]? = some (.cells #[.int .i64 a, .int .i64 b, .int .i64 c] 32 (0, 0)) := by rw [hW1]; exact heap_alloc_new w _
  have HN := Lib.hid (fun W h => Data a b c W h)
  have HR := Lib.hid (hb.step hb1)
  have k0 : W1.cell? ⟨w.heap.size, 0, none⟩ = some (.int .i64 a) := blk_cell hk1 rfl
  have k1 : W1.cell? ⟨w.heap.size, 1, none⟩ = some (.int .i64 b) := blk_cell hk1 rfl
  have k2 : W1.cell? ⟨w.heap.size, 2, none⟩ = some (.int .i64 c) := blk_cell hk1 rfl
  have HB := Lib.hid hb1
  go_enter Tryz.func102, Tryz.ntmps102
  go_upto_region 1 with (fail)
  rw [← hW1]
  clear hW1 hb1 hk1 hb
  by_cases h0 : u < 0
  · have HD := Lib.hid (room_neg (b := a) (l := b) (f := c) h0)
    go_wp2_with fail
    go_ret
    exact ⟨by rw [HD.out] <;> rfl, HB.out⟩
  · have HD := Lib.hid (room_max (b := a) (l := b) (f := c) (used := u) (by omega))
    have hd := data_le a b c
    generalize data a b c = d at *
    obtain ⟨hd0, hd1⟩ := hd
    have hm : ∀ (W : World) (ts : Array TypeId) (t : TypeId), (Builtin.max_ ts t #[.int .i64 (d - 1 - u), .int .i64 0]).run Tryz.prog W = .ok (.int .i64 (max (d - 1 - u) 0)) W := fun W ts t => by rw [run_max_int2, ite_max]
    rw [HD.out] at hm
    go_wp2_with (first | (go_at_call 91; refine (HN.out _ HR.out).mono ?_; rintro e w1 ⟨rfl, hb1⟩; have HB1 := Lib.hid hb1; clear hb1))
    go_ret
    exact ⟨rfl, HB.out.trans (HB1.out.mono HB.out.size)⟩
set_option maxRecDepth 100000 in
/-- What geom.Place answers. -/
theorem Place (a b c i : Int) (w : World) (hb : Bnd w) :
    Calls Tryz.prog 92 #[.agg #[.int .i64 a, .int .i64 b, .int .i64 c], .int .i64 i] w fun e w' => e = .returned (.tuple #[.int .i64 (place a b c i).1, .int .i64 (place a b c i).2]) ∧ Below w.heap.size w w' := by
  obtain ⟨W1, hW1⟩ : ∃ W1, W1 = w.alloc (.cells #[.int .i64 a, .int .i64 b, .int .i64 c] 32) := ⟨_, rfl⟩
  have hb1 : Below w.heap.size w W1 := by rw [hW1]; exact (Below.refl _ _).alloc (Nat.le_refl _) _
  have hk1 : W1.heap[w.heap.size]? = some (.cells #[.int .i64 a, .int .i64 b, .int .i64 c] 32 (0, 0)) := by rw [hW1]; exact heap_alloc_new w _
  have HN := Lib.hid (fun W h => Data a b c W h)
  have HR := Lib.hid (hb.step hb1)
  have k0 : W1.cell? ⟨w.heap.size, 0, none⟩ = some (.int .i64 a) := blk_cell hk1 rfl
  have k1 : W1.cell? ⟨w.heap.size, 1, none⟩ = some (.int .i64 b) := blk_cell hk1 rfl
  have k2 : W1.cell? ⟨w.heap.size, 2, none⟩ = some (.int .i64 c) := blk_cell hk1 rfl
  have HB := Lib.hid hb1
  go_enter Tryz.func92, Tryz.ntmps92
  go_upto_region 1 with (fail)
  rw [← hW1]
  clear hW1 hb1 hk1 hb
  by_cases h0 : i < 0
  · have HD := Lib.hid (place_no (b := a) (l := b) (f := c) (i := i) (.inl h0))
    go_wp2_with fail
    go_ret2
    exact ⟨by rw [HD.out] <;> rfl, HB.out⟩
  · have hd := data_le a b c
    by_cases h1 : data a b c ≤ i
    · have HD := Lib.hid (place_no (b := a) (l := b) (f := c) (i := i) (.inr h1))
      generalize data a b c = d at *
      go_wp2_with (first | (go_at_call 91; refine (HN.out _ HR.out).mono ?_; rintro e w1 ⟨rfl, hb1⟩; have HB1 := Lib.hid hb1; clear hb1))
      go_ret2
      exact ⟨by rw [HD.out] <;> rfl, HB.out.trans (HB1.out.mono HB.out.size)⟩
    · have HD := Lib.hid (place_yes (b := a) (l := b) (f := c) (i := i) (by omega) (by omega))
      generalize data a b c = d at *
      go_wp2_with (first | (go_at_call 91; refine (HN.out _ HR.out).mono ?_; rintro e w1 ⟨rfl, hb1⟩; have HB1 := Lib.hid hb1; clear hb1))
      go_ret2
      exact ⟨by rw [HD.out] <;> rfl, HB.out.trans (HB1.out.mono HB.out.size)⟩
theorem turnc (n : Int) (w : World) (hn : n ≤ 9223372036854775807) :
    Calls Tryz.prog 84 #[.int .i64 n] w fun e w' => e = .returned (.int .i64 (turn n)) ∧ w = w' := by
  have hm : ∀ (W : World) (ts : Array TypeId) (t : TypeId), (Builtin.max_ ts t #[.int .i64 n, .int .i64 0]).run Tryz.prog W = .ok (.int .i64 (max n 0)) W := fun W ts t => by rw [run_max_int2, ite_max]
  have HT : Hid (turn n = max n 0 % 2) := rfl
  have h0 : 0 ≤ max n 0 := by omega
  have h1 : max n 0 ≤ 9223372036854775807 := by omega
  generalize max n 0 = m at *
  go_enter Tryz.func84, Tryz.ntmps84
  go_wp2_with fail
  go_ret
  exact ⟨by rw [HT.out] <;> rfl, rfl⟩
/-- What geom.Super answers. -/
theorem Super (n : Int) (w : World) (hn : n ≤ 9223372036854775807) :
    Calls Tryz.prog 87 #[.int .i64 n] w fun e w' => e = .returned (.int .i64 (turn n)) ∧ w = w' := by
  have HT := Lib.hid (fun W => turnc n W hn)
  go_enter Tryz.func87, Tryz.ntmps87
  go_wp2_with (first | (go_at_call 84; refine (HT.out _).mono ?_; rintro e w1 ⟨rfl, rfl⟩))
  go_ret
  exact ⟨rfl, rfl⟩
/-- What geom.Key answers. -/
theorem Key (n : Int) (w : World) (hn : n ≤ 9223372036854775807) :
    Calls Tryz.prog 43 #[.int .i64 n] w fun e w' => e = .returned (.int .i64 (2 + turn n)) ∧ w = w' := by
  have HT := Lib.hid (fun W => turnc n W hn)
  have h0 : 0 ≤ turn n := by unfold turn; omega
  have h1 : turn n ≤ 1 := by unfold turn; omega
  generalize turn n = t at *
  go_enter Tryz.func43, Tryz.ntmps43
  go_wp2_with (first | (go_at_call 84; refine (HT.out _).mono ?_; rintro e w1 ⟨rfl, rfl⟩))
  go_ret
  exact ⟨rfl, rfl⟩
end Go.Proofs.YtoilcieineejiaaGreatDoor.GeoD
/- keepsakeref09.Right, Data, Room, Put, Take: the walks of their texts. No conditions but those that each lemma names. -/
namespace Go.Proofs.YtoilcieineejiaaGreatDoor.GeoR
open Go.RowKit
open GeoN GeoC
theorem dec_no {a b c : Int} (h : ¬ right a b c) : decide (right a b c) = false := decide_eq_false h
theorem dec_yes {a b c : Int} (h : right a b c) : decide (right a b c) = true := decide_eq_true h
end Go.Proofs.YtoilcieineejiaaGreatDoor.GeoR
