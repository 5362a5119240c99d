/- slices.Insert of one version anywhere into a row of the call's own; an index in memory; isNone, row, New, All, Places, Newest, Of, Copy: the walks of their texts. No conditions but those that each lemma names. -/
import Derived.Test.YtnebbbloipdnbaaIdxU
import Derived.Test.YtnebbbloipdnbaaIdxJ
namespace Go.Proofs.Ytnebbbloipdnbaa.IdxV
open Go.RowKit
open IdxN IdxM IdxC IdxD IdxH IdxI IdxK IdxT IdxU IdxJ
theorem Insert (base i S : Nat) (v : Value) (l : List V) (x : V) (w : World) (hn : l.length ≤ 100000) (hi : i ≤ l.length) (hb : base ≤ w.heap.size) (hown : w.ownsRow base 27 3 v l.length (rc l))
    (hs : w.heap[S]? = some (.cells (vc x).toArray 27 (0, 0))) (hne : v.ownBlock ≠ some S) :
    Calls Try.prog 30 #[v, .int .i64 i, .slice (some ⟨S, 0, none⟩) 1 1] w (Insd base v (l.take i ++ x :: l.drop i) w) := by
  have hx : ∀ j u, (vc x)[j]? = some u → w.cell? ((⟨S, 0, none⟩ : Addr).add j) = some u := fun j u hj => by
    rw [add_off, Nat.zero_add]
    exact blk_cell hs (by rw [← Array.getElem?_toList]; exact hj)
  have hown' := hown
  rcases hown'.2 with ⟨rfl, h0⟩ | ⟨g, c, cur, rfl, hbg, hg, hc, hc2, hcur, ht⟩
  · have hl : l = [] := List.eq_nil_of_length_eq_zero h0
    subst hl
    obtain rfl : i = 0 := by simpa using hi
    exact insert_none base S x w hb hx
  · by_cases he : i = l.length
    · subst he
      have e : l.take l.length ++ x :: l.drop l.length = l ++ [x] := by simp
      rw [e]
      exact insert_end_some base g c S l x w hn hb hown hx
    · have hgs : S ≠ g := fun e => hne (by rw [e]; rfl)
      by_cases hr : l.length + 1 ≤ c
      · exact insert_shift base g c i l.length S l x w cur rfl hn (by omega) hr hc2 hcur ht hbg hg hs hgs
      · refine insert_grow base g c i l.length S l x w rfl hn (by omega) hc (by omega) hb (fun j u hj => ?_) (lt_of hg) hs
        have := hown.cells (g := g) rfl j u hj
        rwa [add_off, Nat.zero_add] at this
/-- An index in memory: its block, its row's, the row; all from block B on. -/
structure Ix (B X H : Nat) (v : Value) (r : List V) (W : World) : Prop where
  x : W.heap[X]? = some (.cells #[.pointer (some ⟨H, 0, none⟩)] 47 (0, 0))
  h : W.heap[H]? = some (.cells #[v] 49 (0, 0))
  own : W.ownsRow B 27 3 v r.length (rc r)
  bx : B ≤ X
  bh : B ≤ H
  nx : v.ownBlock ≠ some X
  nh : v.ownBlock ≠ some H
variable {B X H : Nat} {v : Value} {r : List V} {W W' : World}
theorem Ix.cx (h : Ix B X H v r W) : W.cell? ⟨X, 0, none⟩ = some (.pointer (some ⟨H, 0, none⟩)) := blk_cell h.x rfl
theorem Ix.ch (h : Ix B X H v r W) : W.cell? ⟨H, 0, none⟩ = some v := blk_cell h.h rfl
theorem Ix.keep (h : Ix B X H v r W) (hx : W'.heap[X]? = W.heap[X]?) (hh : W'.heap[H]? = W.heap[H]?) (hk : ∀ k, v.ownBlock = some k → W'.heap[k]? = W.heap[k]?) : Ix B X H v r W' :=
  ⟨hx.trans h.x, hh.trans h.h, own_kept h.own hk, h.bx, h.bh, h.nx, h.nh⟩
theorem Ix.step (h : Ix B X H v r W) (hb : Below W.heap.size W W') : Ix B X H v r W' := h.keep (hb.block _ (lt_of h.x)) (hb.block _ (lt_of h.h)) fun k hk => hb.block k (h.own.lt k hk).2
/-- The blocks that an Add may turn. -/
def Foot (H : Nat) (v : Value) (k : Nat) : Prop := k = H ∨ v.ownBlock = some k
theorem Ix.foot (h : Ix B X H v r W) (k : Nat) (hk : Foot H v k) : B ≤ k ∧ k < W.heap.size := by
  rcases hk with rfl | hk
  · exact ⟨h.bh, lt_of h.h⟩
  · exact h.own.lt k hk
/-- What an Add leaves. -/
def Added (B X H : Nat) (v : Value) (r' : List V) (W W' : World) : Prop := ∃ v', Ix B X H v' r' W' ∧ (v'.ownBlock = v.ownBlock ∨ ∃ k, v'.ownBlock = some k ∧ W.heap.size ≤ k) ∧ Kept (Foot H v) W W'
theorem Added.of_below (h : Ix B X H v r W) (hb : Below W.heap.size W W') : Added B X H v r W W' := ⟨v, h.step hb, .inl rfl, .of_below hb⟩
theorem Ix.lies (h : Ix B X H v r W) : ∃ a c, v = .slice a r.length c ∧ r.length ≤ c ∧ Lies W a r := by
  rcases h.own.2 with ⟨rfl, h0⟩ | ⟨g, c, cur, rfl, _, _, hc, _⟩
  · exact ⟨none, 0, by rw [h0], by omega, by rw [List.eq_nil_of_length_eq_zero h0]; exact Lies.nil _ _⟩
  · exact ⟨_, c, rfl, hc, own_lies h.own⟩
/-- A pointer to no index: none, or to one that no call made. -/
def Non (W : World) (s : Option Addr) : Prop := s = none ∨ ∃ X, s = some ⟨X, 0, none⟩ ∧ W.heap[X]? = some (.cells #[.pointer none] 47 (0, 0))
theorem Non.step {s : Option Addr} (h : Non W s) (hb : Below W.heap.size W W') : Non W' s := by
  rcases h with h | ⟨X, h, k⟩
  · exact .inl h
  · exact .inr ⟨X, h, (hb.block _ (lt_of k)).trans k⟩
theorem isNone_yes (s : Option Addr) (w : World) (h : Non w s) :
    Calls Try.prog 25 #[.pointer s] w fun e w' => e = .returned (.bool true) ∧ w = w' := by
  rcases h with rfl | ⟨X, rfl, h⟩
  · go_enter Try.func25, Try.ntmps25
    go_wp2
    go_ret
    exact ⟨rfl, rfl⟩
  · have k0 : w.cell? ⟨X, 0, none⟩ = some (.pointer none) := blk_cell h rfl
    clear h
    go_enter Try.func25, Try.ntmps25
    go_wp2
    go_ret
    exact ⟨rfl, rfl⟩
theorem isNone_no (w : World) (h : w.cell? ⟨X, 0, none⟩ = some (.pointer (some ⟨H, 0, none⟩))) :
    Calls Try.prog 25 #[.pointer (some ⟨X, 0, none⟩)] w fun e w' => e = .returned (.bool false) ∧ w = w' := by
  go_enter Try.func25, Try.ntmps25
  go_wp2
  go_ret
  exact ⟨rfl, rfl⟩
theorem row_none (s : Option Addr) (w : World) (h : Non w s) :
    Calls Try.prog 31 #[.pointer s] w fun e w' => e = .returned (.slice none 0 0) ∧ w = w' := by
  have HN := Lib.hid (isNone_yes s w h)
  clear h
  go_enter Try.func31, Try.ntmps31
  go_wp2_with (go_at_call 25; refine HN.out.mono ?_; rintro e _ ⟨rfl, rfl⟩)
  go_ret
  exact ⟨rfl, rfl⟩
theorem row_some (w : World) (h : Ix B X H v r w) :
    Calls Try.prog 31 #[.pointer (some ⟨X, 0, none⟩)] w fun e w' => e = .returned v ∧ w = w' := by
  have k0 := h.cx
  have k1 := h.ch
  have HN := Lib.hid (isNone_no w k0)
  obtain ⟨a, c, rfl, _⟩ := h.lies
  clear h
  go_enter Try.func31, Try.ntmps31
  go_wp2_with (go_at_call 25; refine HN.out.mono ?_; rintro e _ ⟨rfl, rfl⟩)
  go_ret
  exact ⟨rfl, rfl⟩
end Go.Proofs.Ytnebbbloipdnbaa.IdxV
