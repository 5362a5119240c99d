/- count, over any closure: the walks of its text and of its closure's. The conditions: that the closure answers, and that no version that it takes stands behind one that it does not. -/
import Derived.Test.YtnebbbloipdnbaaIdxD
namespace Go.Proofs.Ytnebbbloipdnbaa.IdxF
open Go.RowKit
open IdxN IdxC IdxL IdxS IdxD
set_option maxRecDepth 100000 in
theorem one_ (K : Nat) (cap : Array Value) (t : Bool) (X Y c i n g o : Nat) (a0 a1 a2 : Int) (w : World) (hi : i < n)
    (hs : w.cell? ⟨X, 0, none⟩ = some (.func (.func K) #[] cap) ∧ w.cell? ⟨Y, 0, none⟩ = some (.slice (some ⟨g, o, none⟩) n c) ∧ w.cell? ⟨g, o + i * 3, none⟩ = some (.int .i64 a0) ∧ w.cell? ⟨g, o + i * 3 + 1, none⟩ = some (.int .i64 a1) ∧ w.cell? ⟨g, o + i * 3 + 2, none⟩ = some (.int .i64 a2))
    (hK : ∀ (args : Array Value) (W : World), (callFunc K args).run Try.prog W = .ok (.enter K args) W)
    (hc : Calls Try.prog K (#[.agg #[.int .i64 a0, .int .i64 a1, .int .i64 a2]] ++ cap) w.drew fun e w' => e = .returned (.bool t) ∧ Below w.heap.size w w') :
    Calls Try.prog 39 #[.int .i64 i, .pointer (some ⟨X, 0, none⟩), .pointer (some ⟨Y, 0, none⟩)] w fun e w' => e = .returned (.bool (!t)) ∧ Below w.heap.size w w' := by
  have HC := Lib.hid hc
  have hin : (i : Int) < (n : Int) := by omega
  clear hc
  obtain ⟨k0, k1, k2, k3, k4⟩ := hs
  have HS : Hid (∀ W, Below w.heap.size w W → W.cell? ⟨X, 0, none⟩ = some (.func (.func K) #[] cap) ∧ W.cell? ⟨Y, 0, none⟩ = some (.slice (some ⟨g, o, none⟩) n c) ∧ W.cell? ⟨g, o + i * 3, none⟩ = some (.int .i64 a0) ∧ W.cell? ⟨g, o + i * 3 + 1, none⟩ = some (.int .i64 a1) ∧ W.cell? ⟨g, o + i * 3 + 2, none⟩ = some (.int .i64 a2)) := Lib.hid fun W h =>
    ⟨(h.cell (p := ⟨X, 0, none⟩) (World.block_lt_of_cell? w _ k0)).trans k0, (h.cell (p := ⟨Y, 0, none⟩) (World.block_lt_of_cell? w _ k1)).trans k1, (h.cell (p := ⟨g, o + i * 3, none⟩) (World.block_lt_of_cell? w _ k2)).trans k2, (h.cell (p := ⟨g, o + i * 3 + 1, none⟩) (World.block_lt_of_cell? w _ k3)).trans k3, (h.cell (p := ⟨g, o + i * 3 + 2, none⟩) (World.block_lt_of_cell? w _ k4)).trans k4⟩
  go_enter Try.func39, Try.ntmps39
  go_wp2_with fail
  go_region_held3 (fun w' => w'.cell? ⟨X, 0, none⟩ = some (.func (.func K) #[] cap) ∧ w'.cell? ⟨Y, 0, none⟩ = some (.slice (some ⟨g, o, none⟩) n c) ∧ w'.cell? ⟨g, o + i * 3, none⟩ = some (.int .i64 a0) ∧ w'.cell? ⟨g, o + i * 3 + 1, none⟩ = some (.int .i64 a1) ∧ w'.cell? ⟨g, o + i * 3 + 2, none⟩ = some (.int .i64 a2))
    (first | exact hS | exact ⟨k0, k1, k2, k3, k4⟩)
    (first | (refine HC.out.mono ?_; rintro e w1 ⟨rfl, hb1⟩; have B1 := Lib.hid hb1; have hS : w1.cell? ⟨X, 0, none⟩ = some (.func (.func K) #[] cap) ∧ w1.cell? ⟨Y, 0, none⟩ = some (.slice (some ⟨g, o, none⟩) n c) ∧ w1.cell? ⟨g, o + i * 3, none⟩ = some (.int .i64 a0) ∧ w1.cell? ⟨g, o + i * 3 + 1, none⟩ = some (.int .i64 a1) ∧ w1.cell? ⟨g, o + i * 3 + 2, none⟩ = some (.int .i64 a2) := HS.out _ hb1))
  go_wp2
  go_ret
  exact ⟨rfl, B1.out⟩
theorem one (K : Nat) (cap : Array Value) (q : V → Bool) (X Y c i : Nat) (a : Option Addr) (l : List V) (w : World) (hi : i < l.length)
    (hx : w.cell? ⟨X, 0, none⟩ = some (.func (.func K) #[] cap)) (hy : w.cell? ⟨Y, 0, none⟩ = some (.slice a l.length c)) (h : Lies w a l)
    (hK : ∀ (args : Array Value) (W : World), (callFunc K args).run Try.prog W = .ok (.enter K args) W)
    (hc : ∀ (W : World) (v : V), Below w.heap.size w W → Calls Try.prog K (#[.agg #[.int .i64 v.1, .int .i64 v.2.1, .int .i64 v.2.2]] ++ cap) W fun e w' => e = .returned (.bool (q v)) ∧ Below W.heap.size W w') :
    Calls Try.prog 39 #[.int .i64 i, .pointer (some ⟨X, 0, none⟩), .pointer (some ⟨Y, 0, none⟩)] w fun e w' => e = .returned (.bool (!q (l.getD i z0))) ∧ Below w.heap.size w w' := by
  obtain ⟨g, o, rfl, hg, hat⟩ := h.at_ (by omega)
  obtain ⟨c0, c1, c2⟩ := hat i hi
  have e : l.getD i z0 = l[i] := by simp [List.getD, hi]
  rw [e]
  exact one_ K cap (q l[i]) X Y c i l.length g o _ _ _ w hi ⟨hx, hy, c0, c1, c2⟩ hK ((hc w.drew l[i] (Below.refl _ _).drew).mono fun e w' h => ⟨h.1, (Below.refl _ _).drew.trans h.2⟩)
set_option maxRecDepth 100000 in
theorem count (K : Nat) (cap : Array Value) (q : V → Bool) (c : Nat) (a : Option Addr) (l : List V) (w : World) (hl : l.length ≤ 100000000) (h : Lies w a l) (hm : Mono q l)
    (hK : ∀ (args : Array Value) (W : World), (callFunc K args).run Try.prog W = .ok (.enter K args) W)
    (hc : ∀ (W : World) (v : V), Below w.heap.size w W → Calls Try.prog K (#[.agg #[.int .i64 v.1, .int .i64 v.2.1, .int .i64 v.2.2]] ++ cap) W fun e w' => e = .returned (.bool (q v)) ∧ Below W.heap.size W w') :
    Calls Try.prog 27 #[.slice a l.length c, .func (.func K) #[] cap] w fun e w' => e = .returned (.int .i64 (cut q l : Nat)) ∧ Below w.heap.size w w' := by
  obtain ⟨W2, hW2⟩ : ∃ W2, W2 = (w.alloc (.cells #[.slice a l.length c] 49)).alloc (.cells #[.func (.func K) #[] cap] 50) := ⟨_, rfl⟩
  have b2 : Below w.heap.size w W2 := by rw [hW2]; exact ((Below.refl _ _).alloc (Nat.le_refl _) _).alloc (by simp) _
  have y2 : W2.cell? ⟨w.heap.size, 0, none⟩ = some (.slice a l.length c) := blk_cell (by rw [hW2]; exact heap_alloc2_old w _ _) rfl
  have x2 : W2.cell? ⟨w.heap.size + 1, 0, none⟩ = some (.func (.func K) #[] cap) := blk_cell (by rw [hW2]; exact heap_alloc2_new w _ _) rfl
  have hp : ∀ i (hi : i < l.length), l.getD i z0 = l[i] := fun i hi => by simp [List.getD, hi]
  have hs := Search 39 #[.pointer (some ⟨w.heap.size + 1, 0, none⟩), .pointer (some ⟨w.heap.size, 0, none⟩)] l.length (fun i => !q (l.getD i z0)) W2 hl (fun _ _ => rfl)
    (fun W i hb hi => one K cap q (w.heap.size + 1) (w.heap.size) c i a l W hi ((hb.cell (p := ⟨w.heap.size + 1, 0, none⟩) (World.block_lt_of_cell? W2 _ x2)).trans x2) ((hb.cell (p := ⟨w.heap.size, 0, none⟩) (World.block_lt_of_cell? W2 _ y2)).trans y2) ((h.step b2).step hb) hK
      (fun V v hv => hc V v ((b2.trans (hb.mono b2.size)).trans (hv.mono (b2.trans (hb.mono b2.size)).size))))
    (fun i j hij hj h1 => by
      rw [hp j hj]
      rw [hp i (by omega)] at h1
      cases e : q l[j] with
      | false => rfl
      | true => rw [hm i j (by omega) hj hij e] at h1; cases h1)
  have HS := Lib.hid hs
  have B2 := Lib.hid b2
  have HP := Lib.hid hp
  clear hs hc h hm b2 hp
  go_enter Try.func27, Try.ntmps27
  go_upto_region 1 with (fail)
  rw [← hW2]
  clear hW2
  go_wp2_with (go_at_call 38; refine HS.out.mono ?_; rintro e w3 ⟨r, rfl, hr, h0, h1, hb⟩)
  go_ret
  refine ⟨?_, B2.out.trans (hb.mono B2.out.size)⟩
  have e : cut q l = r := cut_eq hr (fun t k ht => by
      have := h0 t ht
      rw [HP.out t k] at this
      simpa using this) (fun t k ht => by
      have := h1 t ht k
      rw [HP.out t k] at this
      simpa using this)
  rw [e]
  rfl
end Go.Proofs.Ytnebbbloipdnbaa.IdxF
