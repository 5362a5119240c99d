/- Plain mathematics of GeomApart: the row of all places, each there just once. And rows that a call owns, beside a shape. No conditions but those that each lemma names. -/
import Derived.Test.YtdnnfoelhcbmlaaDoorGeoS
import Derived.Test.YtdnnfoelhcbmlaaDoorSlice
namespace Go.Proofs.YtdnnfoelhcbmlaaDoor.GeoT
open Go.RowKit
open GeoN GeoC GeoS
/-- The first four places, then so many of the data's. -/
def places (s0 s1 k0 k1 : Int) (k : Nat) : List Int := [s0, s1, k0, k1] ++ (List.range k).map fun j : Nat => (4 : Int) + j
theorem places_len (s0 s1 k0 k1 : Int) (k : Nat) : (places s0 s1 k0 k1 k).length = 4 + k := by simp [places]; omega
theorem places_next (s0 s1 k0 k1 : Int) (k : Nat) : places s0 s1 k0 k1 (k + 1) = places s0 s1 k0 k1 k ++ [(4 : Int) + k] := by
  simp [places, List.range_succ]
theorem count_data (p : Int) : ∀ n : Nat, ((List.range n).map fun j : Nat => (4 : Int) + j).count p = if 4 ≤ p ∧ p < 4 + n then 1 else 0
  | 0 => by simp
  | n + 1 => by
    rw [List.range_succ, List.map_append, List.count_append, count_data p n, List.map_cons, List.map_nil, List.count_cons, List.count_nil]
    simp only [beq_iff_eq, Int.natCast_add, Int.natCast_one]
    split <;> split <;> split <;> omega
theorem turn_two {n : Int} (h : 0 ≤ n) : (turn n = 0 ∧ turn (n + 1) = 1) ∨ (turn n = 1 ∧ turn (n + 1) = 0) := by
  unfold turn; omega
/-- Each place is there once. -/
theorem once {gen epoch : Int} (hg : 0 ≤ gen) (he : 0 ≤ epoch) (n : Nat) (p : Int) (h0 : 0 ≤ p) (h1 : p < 4 + n) : (places (turn gen) (turn (gen + 1)) (2 + turn epoch) (2 + turn (epoch + 1)) n).count p = 1 := by
  unfold places
  rw [List.count_append, count_data]
  rcases turn_two hg with ⟨e1, e2⟩ | ⟨e1, e2⟩ <;> rcases turn_two he with ⟨e3, e4⟩ | ⟨e3, e4⟩ <;> rw [e1, e2, e3, e4]
  all_goals
    by_cases h : p < 4
    · rw [if_neg (by omega)]
      rcases (show p = 0 ∨ p = 1 ∨ p = 2 ∨ p = 3 from by omega) with rfl | rfl | rfl | rfl <;> rfl
    · rw [if_pos (by omega)]
      simp only [List.count_cons, List.count_nil, beq_iff_eq]
      rw [if_neg (by omega), if_neg (by omega), if_neg (by omega), if_neg (by omega)]
theorem count_next (l : List Int) (p : Int) (q : Nat) (h : q < l.length) : (l.take (q + 1)).count p = (l.take q).count p + if l[q] = p then 1 else 0 := by
  rw [List.take_succ_eq_append_getElem h, List.count_append, List.count_cons, List.count_nil]
  simp
/-- A row of its own stays where a call makes memory alone. -/
theorem own_step {w w' : World} {B : Nat} {v : Value} {n : Nat} {xs : List Value} (h : w.ownsRow B 3 1 v n xs) (hb : Below w.heap.size w w') : w'.ownsRow B 3 1 v n xs :=
  h.kept (row := none) ⟨hb.os, hb.tape, hb.output, hb.size, fun k hk _ => hb.block k hk⟩ (by by_cases hn : v.ownBlock = none; exact .inl hn; exact .inr hn)
theorem own_four (x y z u : Int) (w : World) (B : Nat) (hB : B ≤ w.heap.size) : (w.alloc (.cells #[.int .i64 x, .int .i64 y, .int .i64 z, .int .i64 u] 3)).ownsRow B 3 1 (.slice (some ⟨w.heap.size, 0, none⟩) 4 4) 4 [.int .i64 x, .int .i64 y, .int .i64 z, .int .i64 u] :=
  ⟨rfl, .inr ⟨w.heap.size, 4, #[.int .i64 x, .int .i64 y, .int .i64 z, .int .i64 u], rfl, hB, heap_alloc_new _ _, by omega, by simp [maxLen], rfl, rfl⟩⟩
theorem St.keep {w W W' : World} {a b c : Int} (h : St w a b c W) (hb : Below (w.heap.size + 1) W W') (_h0 : 0 < w.heap.size) (_h1 : 1 < w.heap.size) : St w a b c W' :=
  ⟨h.bel.trans (hb.mono (by omega)), h.bn.below hb (by omega) (by omega), (hb.block _ (by omega)).trans h.k⟩
theorem infoI : (Tryd.prog.info? 3).map (fun i => (i.zero, i.size, i.bytes)) = some (some (.int .i64 0), 1, 8) := by kernel_rfl
theorem own_le {w : World} {B q : Nat} {v : Value} {n : Nat} {xs : List Value} (h : w.ownsRow B 3 1 v n xs) (hq : v.ownBlock = some q) : B ≤ q := by
  rcases h.2 with ⟨rfl, _⟩ | ⟨g, cap, cur, rfl, hb, _⟩
  · simp [Value.ownBlock] at hq
  · have : g = q := by simpa [Value.ownBlock] using hq
    omega
theorem own_len {w : World} {B : Nat} {a : Option Addr} {n m c : Nat} {xs : List Value} (h : w.ownsRow B 3 1 (.slice a n c) m xs) : m = n := by
  rcases h.2 with ⟨hv, _⟩ | ⟨g, cap, cur, hv, _⟩
  · injection hv with _ h1 _; omega
  · injection hv with _ h1 _; omega
end Go.Proofs.YtdnnfoelhcbmlaaDoor.GeoT
