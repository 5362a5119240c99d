/- Plain mathematics of geom: whether three numbers are a shape's, what is nearest to them, how many blocks are for data and may be taken, the bytes. No program is reached here; no conditions. -/
import Derived.Test.YtmghkacbphdakaaDoorOctNum
namespace Go.Proofs.YtmghkacbphdakaaDoor.GeoN
/-- Three numbers of a shape that may be. -/
def right (b l f : Int) : Prop := 8 ≤ b ∧ b ≤ 1024 ∧ 1 ≤ l ∧ l ≤ 4096 ∧ 0 ≤ f ∧ f ≤ 4294967295
instance (b l f : Int) : Decidable (right b l f) := inferInstanceAs (Decidable (_ ∧ _))
def lo : Nat → Int
  | 0 => 8
  | 1 => 1
  | _ => 0
def hi : Nat → Int
  | 0 => 1024
  | 1 => 4096
  | _ => 4294967295
theorem ite_max (x y : Int) : (if y > x then y else x) = max x y := by omega
theorem ite_min (x y : Int) : (if y < x then y else x) = min x y := by omega
def near (j : Nat) (x : Int) : Int := min (max x (lo j)) (hi j)
/-- The number in place 'i' behind 'j' rounds. -/
def at_ (X : Nat → Int) (j i : Nat) : Int := if i < j then near i (X i) else X i
def three (b l f : Int) : Nat → Int
  | 0 => b
  | 1 => l
  | _ => f
theorem near_right (b l f : Int) : (decide (b = near 0 b) && (decide (l = near 1 l) && decide (f = near 2 f))) = decide (right b l f) := by
  rw [Bool.eq_iff_iff]
  simp only [Bool.and_eq_true, decide_eq_true_iff]
  unfold right near
  rw [show lo 0 = 8 from rfl, show lo 1 = 1 from rfl, show lo 2 = 0 from rfl, show hi 0 = 1024 from rfl, show hi 1 = 4096 from rfl, show hi 2 = 4294967295 from rfl]
  constructor
  · rintro ⟨h1, h2, h3⟩; omega
  · rintro ⟨h1, h2, h3, h4, h5, h6⟩; exact ⟨by omega, by omega, by omega⟩
/-- What Check answers. -/
def check (b l f : Int) : Int := if right b l f then 0 else 2
theorem check_yes {b l f : Int} (h : right b l f) : check b l f = 0 := if_pos h
theorem check_no {b l f : Int} (h : ¬ right b l f) : check b l f = 2 := if_neg h
/-- How many blocks are for data. -/
def data (b l f : Int) : Int := if right b l f then b - 4 else 0
theorem data_yes {b l f : Int} (h : right b l f) : data b l f = b - 4 := if_pos h
theorem data_no {b l f : Int} (h : ¬ right b l f) : data b l f = 0 := if_neg h
theorem data_le (b l f : Int) : 0 ≤ data b l f ∧ data b l f ≤ 1020 := by
  unfold data
  split
  · rename_i h; unfold right at h; omega
  · omega
/-- How many may be taken. -/
def room (b l f used : Int) : Int := if right b l f ∧ 0 ≤ used ∧ used < b - 5 then b - 5 - used else 0
theorem room_neg {b l f used : Int} (h : used < 0) : room b l f used = 0 := if_neg (fun hh => by omega)
theorem room_max {b l f used : Int} (h : 0 ≤ used) : max (data b l f - 1 - used) 0 = room b l f used := by
  unfold room data
  by_cases hr : right b l f
  · rw [if_pos hr]
    by_cases hu : used < b - 5
    · rw [if_pos ⟨hr, h, hu⟩]; omega
    · rw [if_neg (fun hh => hu hh.2.2)]; omega
  · rw [if_neg hr, if_neg (fun hh => hr hh.1)]; omega
theorem room_yes {b l f used : Int} (h : right b l f) (h0 : 0 ≤ used) (h1 : used < b - 5) : room b l f used = b - 5 - used := if_pos ⟨h, h0, h1⟩
theorem room_no {b l f used : Int} (h : ¬ (right b l f ∧ 0 ≤ used ∧ used < b - 5)) : room b l f used = 0 := if_neg h
/-- What Place answers. -/
def place (b l f i : Int) : Int × Int := if i < 0 ∨ data b l f ≤ i then (0, 4) else (4 + i, 0)
theorem place_no {b l f i : Int} (h : i < 0 ∨ data b l f ≤ i) : place b l f i = (0, 4) := if_pos h
theorem place_yes {b l f i : Int} (h0 : 0 ≤ i) (h1 : i < data b l f) : place b l f i = (4 + i, 0) := if_neg (by omega)
/-- Of two places, which one has it. -/
def turn (n : Int) : Int := max n 0 % 2
/-- The bytes of a shape that may be. -/
def bytes3 (b l f : Int) : List UInt8 := be 4 b.toNat ++ be 4 l.toNat ++ be 4 f.toNat
theorem bytes_len (b l f : Int) : (bytes3 b l f).length = 12 := by simp [bytes3, be_length]
theorem put4 {n : Int} (h0 : 0 ≤ n) (h1 : n ≤ 4294967295) : put n 4 = (be 4 n.toNat, 0) := put_good n 4 (by omega) (by omega) h0 (by simpa using (show n < 4294967296 by omega))
/-- What Pack answers of a shape's numbers. -/
theorem pack_right {b l f : Int} (h : right b l f) : pack [4, 4, 4] [b, l, f] = (bytes3 b l f, 0) := by
  unfold right at h
  have p0 := put4 (n := b) (by omega) (by omega)
  have p1 := put4 (n := l) (by omega) (by omega)
  have p2 := put4 (n := f) (by omega) (by omega)
  unfold pack
  rw [if_pos ⟨rfl, fun j hj => by
    match j, hj with
    | 0, _ => simpa using congrArg Prod.snd p0
    | 1, _ => simpa using congrArg Prod.snd p1
    | 2, _ => simpa using congrArg Prod.snd p2⟩]
  simp [packTo, p0, p1, p2, bytes3]
/-- The three numbers of twelve bytes. -/
def nb (s : List UInt8) : Int := num (s.take 4)
def nl (s : List UInt8) : Int := num ((s.drop 4).take 4)
def nf (s : List UInt8) : Int := num (s.drop 8)
theorem n_bytes {b l f : Int} (h : right b l f) : nb (bytes3 b l f) = b ∧ nl (bytes3 b l f) = l ∧ nf (bytes3 b l f) = f := by
  unfold right at h
  have e0 : (bytes3 b l f).take 4 = be 4 b.toNat := by unfold bytes3; rw [List.append_assoc, List.take_left' (be_length _ _)]
  have e1 : ((bytes3 b l f).drop 4).take 4 = be 4 l.toNat := by unfold bytes3; rw [List.append_assoc, List.drop_left' (be_length _ _), List.take_left' (be_length _ _)]
  have e2 : (bytes3 b l f).drop 8 = be 4 f.toNat := by unfold bytes3; rw [List.drop_left' (by simp [be_length])]
  unfold nb nl nf
  rw [e0, e1, e2, num_be, num_be, num_be]
  simp only [Nat.reducePow]
  omega
theorem bytes_n {s : List UInt8} (h : s.length = 12) : bytes3 (nb s) (nl s) (nf s) = s := by
  have e0 := be_num (s.take 4)
  have e1 := be_num ((s.drop 4).take 4)
  have e2 := be_num (s.drop 8)
  rw [show (s.take 4).length = 4 from by simp; omega] at e0
  rw [show ((s.drop 4).take 4).length = 4 from by simp; omega] at e1
  rw [show (s.drop 8).length = 4 from by simp; omega] at e2
  unfold bytes3 nb nl nf
  rw [Int.toNat_natCast, Int.toNat_natCast, Int.toNat_natCast, e0, e1, e2]
  have h1 : s.drop 8 = (s.drop 4).drop 4 := by rw [List.drop_drop]
  rw [h1, List.append_assoc, List.take_append_drop, List.take_append_drop]
theorem n_lt (s : List UInt8) (h : s.length = 12) : 0 ≤ nb s ∧ nb s ≤ 4294967295 ∧ 0 ≤ nl s ∧ nl s ≤ 4294967295 ∧ 0 ≤ nf s ∧ nf s ≤ 4294967295 := by
  have h0 := num_lt (s.take 4)
  have h1 := num_lt ((s.drop 4).take 4)
  have h2 := num_lt (s.drop 8)
  rw [show (s.take 4).length = 4 from by simp; omega] at h0
  rw [show ((s.drop 4).take 4).length = 4 from by simp; omega] at h1
  rw [show (s.drop 8).length = 4 from by simp; omega] at h2
  unfold nb nl nf
  simp only [Nat.reducePow] at h0 h1 h2
  omega
end Go.Proofs.YtmghkacbphdakaaDoor.GeoN
