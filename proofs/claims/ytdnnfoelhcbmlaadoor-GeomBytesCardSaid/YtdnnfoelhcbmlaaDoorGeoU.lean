/- Plain mathematics: what Unpack answers of twelve bytes, and what Take does. No program is reached here; no conditions. -/
import Derived.Test.YtdnnfoelhcbmlaaDoorGeoN
import Derived.Test.YtdnnfoelhcbmlaaDoorOctUnp
namespace Go.Proofs.YtdnnfoelhcbmlaaDoor.GeoU
open GeoN
theorem get4 (l : List UInt8) (h : l.length = 4) : get l = ((num l : Int), 0) := by
  have := num_lt l
  rw [h] at this
  exact get_good l (by omega) (by omega) (by simp only [Nat.reducePow] at this; omega)
theorem unpack_twelve (s : List UInt8) (h : s.length = 12) : unpack [4, 4, 4] s = ([nb s, nl s, nf s], 0) := by
  have p0 : piece [4, 4, 4] s 0 = s.take 4 := rfl
  have p1 : piece [4, 4, 4] s 1 = (s.drop 4).take 4 := rfl
  have p2 : piece [4, 4, 4] s 2 = s.drop 8 := by
    show (s.drop 8).take 4 = _
    exact List.take_of_length_le (by simp; omega)
  have g0 := get4 (s.take 4) (by simp; omega)
  have g1 := get4 ((s.drop 4).take 4) (by simp; omega)
  have g2 := get4 (s.drop 8) (by simp; omega)
  have hw : widthsTo [4, 4, 4] 3 := fun j hj => by
    match j, hj with
    | 0, _ => simp
    | 1, _ => simp
    | 2, _ => simp
  have hg : gotTo [4, 4, 4] s 3 := fun j hj => by
    match j, hj with
    | 0, _ => rw [p0, g0]
    | 1, _ => rw [p1, g1]
    | 2, _ => rw [p2, g2]
  rw [unpack_good [4, 4, 4] s hw (by simp [sumTo, h]) hg]
  show (numsTo [4, 4, 4] s 3, 0) = _
  simp [numsTo, p0, p1, p2, g0, g1, g2, nb, nl, nf]
theorem unpack_other (s : List UInt8) (h : ¬ s.length = 12) : unpack [4, 4, 4] s = ([], 3) := by
  have hw : widthsTo [4, 4, 4] 3 := fun j hj => by
    match j, hj with
    | 0, _ => simp
    | 1, _ => simp
    | 2, _ => simp
  exact unpack_sum [4, 4, 4] s hw (by simp [sumTo, h])
/-- Twelve bytes that are a shape's. -/
def shaped (s : List UInt8) : Prop := s.length = 12 ∧ right (nb s) (nl s) (nf s)
/-- What Take answers: the three numbers and the error's. -/
def take (s : List UInt8) : (Int × Int × Int) × Int := if s.length = 12 ∧ right (nb s) (nl s) (nf s) then ((nb s, nl s, nf s), 0) else ((0, 0, 0), 3)
theorem take_yes {s : List UInt8} (h : shaped s) : take s = ((nb s, nl s, nf s), 0) := if_pos h
theorem take_no {s : List UInt8} (h : ¬ shaped s) : take s = ((0, 0, 0), 3) := if_neg h
theorem take_bytes {b l f : Int} (h : right b l f) : take (bytes3 b l f) = ((b, l, f), 0) := by
  obtain ⟨e0, e1, e2⟩ := n_bytes h
  rw [take_yes ⟨bytes_len _ _ _, by rw [e0, e1, e2]; exact h⟩, e0, e1, e2]
end Go.Proofs.YtdnnfoelhcbmlaaDoor.GeoU
