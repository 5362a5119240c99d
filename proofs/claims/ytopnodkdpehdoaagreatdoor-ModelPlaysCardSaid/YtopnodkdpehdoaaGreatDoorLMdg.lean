/- MdG MdH: one behind the other. -/
import Derived.Test.YtopnodkdpehdoaaGreatDoorLMde
/- The document's model: write: the walk of its text; a call in a block; a model without what holds of it. No conditions but those that each lemma names. -/
namespace Go.Proofs.YtopnodkdpehdoaaGreatDoor.MdG
set_option linter.unusedVariables false
open Go.RowKit
open RecN RecC RetN DbN RetR DbC DbD DbE DbF DbM DbA MdN MdC MdD MdE MdF AnsC
/-- A call in a block. -/
def Bc (W : World) (Y : Nat) (c : Cl) (pk : Option Addr) (nk ck : Nat) : Prop := W.heap[Y]? = some (.cells #[.int .i64 c.k, .int .i64 c.lb, .int .i64 c.ep, .int .i64 c.tm, .string ⟨c.da.toArray⟩, .string ⟨c.nm.toArray⟩, .slice pk nk ck] 35 (0, 0))
section
variable {W W' w : World} {Y : Nat} {c : Cl} {pk : Option Addr} {nk ck : Nat}
theorem Bc.lt (h : Bc W Y c pk nk ck) : Y < W.heap.size := (Array.getElem?_eq_some_iff.1 h).1
theorem Bc.step (h : Bc W Y c pk nk ck) (hb : Below W.heap.size W W') : Bc W' Y c pk nk ck := (hb.block _ h.lt).trans h
theorem Bc.cells (h : Bc W Y c pk nk ck) : W.cell? ⟨Y, 0, none⟩ = some (.int .i64 c.k) ∧ W.cell? ⟨Y, 1, none⟩ = some (.int .i64 c.lb) ∧ W.cell? ⟨Y, 2, none⟩ = some (.int .i64 c.ep) ∧ W.cell? ⟨Y, 3, none⟩ = some (.int .i64 c.tm) ∧ W.cell? ⟨Y, 4, none⟩ = some (.string ⟨c.da.toArray⟩) ∧ W.cell? ⟨Y, 5, none⟩ = some (.string ⟨c.nm.toArray⟩) ∧ W.cell? ⟨Y, 6, none⟩ = some (.slice pk nk ck) :=
  ⟨blk_cell h rfl, blk_cell h rfl, blk_cell h rfl, blk_cell h rfl, blk_cell h rfl, blk_cell h rfl, blk_cell h rfl⟩
end
/-- A model's block and rows, whatever holds of it. -/
structure Dr (base X : Nat) (m : Mo) (ar : Option Addr) (cr : Nat) (av : Option Addr) (cv : Nat) (W : World) : Prop where
  head : W.heap[X]? = some (.cells #[.int .i64 m.b, .int .i64 m.lb, .int .i64 m.f, .int .i64 m.used, .int .i64 m.ck, .int .i64 m.f, .slice ar m.l.length cr, .slice av m.vs.length cv] 74 (0, 0))
  rows : W.ownsRow base 82 8 (.slice ar m.l.length cr) m.l.length (rr m.l)
  vrow : W.ownsRow base 85 3 (.slice av m.vs.length cv) m.vs.length (vv m.vs)
theorem type_apart {W : World} {base n size g : Nat} {t u : TypeId} {v : Value} {xs : List Value} {cs : Array Value} {fr : Nat × Nat} (h : W.ownsRow base t size v n xs) (hk : v.ownBlock = some g) (hg : W.heap[g]? = some (.cells cs u fr)) : t = u := by
  rcases h.2 with ⟨rfl, _⟩ | ⟨q, cap, cur, rfl, _, hh, _⟩
  · cases hk
  · have e2 : q = g := Option.some.inj hk
    rw [e2, hg] at hh
    injection hh with hh
    injection hh with _ hh
    exact hh.symm
theorem own_type {W : World} {base n size g : Nat} {t : TypeId} {v : Value} {xs : List Value} (h : W.ownsRow base t size v n xs) (hk : v.ownBlock = some g) : ∃ cs fr, W.heap[g]? = some (.cells cs t fr) := by
  rcases h.2 with ⟨rfl, _⟩ | ⟨q, cap, cur, rfl, _, hh, _⟩
  · cases hk
  · obtain rfl : q = g := Option.some.inj hk
    exact ⟨_, _, hh⟩
section
variable {base X : Nat} {m : Mo} {ar : Option Addr} {cr : Nat} {av : Option Addr} {cv : Nat} {W W' w : World}
theorem _root_.Go.Proofs.YtopnodkdpehdoaaGreatDoor.MdC.Dm.raw (h : Dm base X m ar cr av cv W) : Dr base X m ar cr av cv W := ⟨h.head, h.rows, h.vrow⟩
theorem Dr.lt (h : Dr base X m ar cr av cv W) : X < W.heap.size := (Array.getElem?_eq_some_iff.1 h.head).1
theorem Dr.step (h : Dr base X m ar cr av cv W) (hb : Below W.heap.size W W') : Dr base X m ar cr av cv W' := ⟨(hb.block _ h.lt).trans h.head, DbE.own_step h.rows hb, DbE.own_step h.vrow hb⟩
theorem Dr.cells (h : Dr base X m ar cr av cv W) : W.cell? ⟨X, 0, none⟩ = some (.int .i64 m.b) ∧ W.cell? ⟨X, 1, none⟩ = some (.int .i64 m.lb) ∧ W.cell? ⟨X, 2, none⟩ = some (.int .i64 m.f) ∧ W.cell? ⟨X, 3, none⟩ = some (.int .i64 m.used) ∧ W.cell? ⟨X, 4, none⟩ = some (.int .i64 m.ck) ∧ W.cell? ⟨X, 5, none⟩ = some (.int .i64 m.f) ∧ W.cell? ⟨X, 6, none⟩ = some (.slice ar m.l.length cr) ∧ W.cell? ⟨X, 7, none⟩ = some (.slice av m.vs.length cv) :=
  ⟨blk_cell h.head rfl, blk_cell h.head rfl, blk_cell h.head rfl, blk_cell h.head rfl, blk_cell h.head rfl, blk_cell h.head rfl, blk_cell h.head rfl, blk_cell h.head rfl⟩
theorem Dr.db (h : Dr base X m ar cr av cv W) (hl : m.l.length ≤ 1020) : Db W X 5 m.f ar m.l.length cr m.l := ⟨⟨_, _, h.head, rfl, rfl⟩, rfl, by omega, own_lies h.rows⟩
theorem Dr.xr (h : Dr base X m ar cr av cv W) {k : Nat} (hk : (Value.slice ar m.l.length cr).ownBlock = some k) : k ≠ X := fun e => by
  subst e
  have := type_apart h.rows hk h.head
  exact absurd this (by decide)
theorem Dr.xv (h : Dr base X m ar cr av cv W) {k : Nat} (hk : (Value.slice av m.vs.length cv).ownBlock = some k) : k ≠ X := fun e => by
  subst e
  have := type_apart h.vrow hk h.head
  exact absurd this (by decide)
theorem Dr.rv (h : Dr base X m ar cr av cv W) {k : Nat} (hk : (Value.slice ar m.l.length cr).ownBlock = some k) : (Value.slice av m.vs.length cv).ownBlock ≠ some k := fun e => by
  obtain ⟨cs, fr, hg⟩ := own_type h.vrow e
  have := type_apart h.rows hk hg
  exact absurd this (by decide)
/-- The model's block alone is written. -/
theorem Dr.turn {m' : Mo} (h : Dr base X m ar cr av cv W) (hx : W'.heap[X]? = some (.cells #[.int .i64 m'.b, .int .i64 m'.lb, .int .i64 m'.f, .int .i64 m'.used, .int .i64 m'.ck, .int .i64 m'.f, .slice ar m'.l.length cr, .slice av m'.vs.length cv] 74 (0, 0)))
    (h1 : m'.l = m.l) (h2 : m'.vs = m.vs) (ho : ∀ k, k ≠ X → W'.heap[k]? = W.heap[k]?) : Dr base X m' ar cr av cv W' := by
  have q1 := own_kept h.rows fun k hk => ho k (h.xr hk)
  have q2 := own_kept h.vrow fun k hk => ho k (h.xv hk)
  rw [← h1] at q1
  rw [← h2] at q2
  exact ⟨hx, q1, q2⟩
theorem Dr.used (h : Dr base X m ar cr av cv W) (u : Int) : Dr base X { m with used := u } ar cr av cv (W.setCell ⟨X, 3, none⟩ (.int .i64 u)) :=
  h.turn (m' := { m with used := u }) (blk_set h.head) rfl rfl fun k hk => Below.heap_setCell _ _ _ _ hk
end
/-- What an append of a version to a row of the call's own leaves. -/
theorem app_ver (base : Nat) (a : Option Addr) (n c : Nat) (l : List V) (v : V) (W : World) (hn : n ≤ 100000) (hb : base ≤ W.heap.size) (hown : W.ownsRow base 85 3 (.slice a n c) n (vv l)) :
    ∃ a' c' W', (Builtin.append_ #[72, 72] 72 #[.slice a n c, .slice (some ⟨W.heap.size, 0, none⟩) 1 1]).run Tryz.prog (W.alloc (.cells #[.int .i64 v.lb, .int .i64 v.ep, .string ⟨v.da.toArray⟩] 85)) = .ok (.slice a' (n + 1) c') W' ∧
      W'.ownsRow base 85 3 (.slice a' (n + 1) c') (n + 1) (vv (l ++ [v])) ∧ (W.alloc (.cells #[.int .i64 v.lb, .int .i64 v.ep, .string ⟨v.da.toArray⟩] 85)).grownBy W' (Value.slice a n c).ownBlock ∧
      (∀ k, (Value.slice a' (n + 1) c').ownBlock = some k → (Value.slice a n c).ownBlock = some k ∨ W.heap.size ≤ k) := by
  obtain ⟨i0, hi, hz0, hz1, hz2⟩ := info_parts info_ver
  have hz : (W.alloc (.cells #[.int .i64 v.lb, .int .i64 v.ep, .string ⟨v.da.toArray⟩] 85)).heap.size = W.heap.size + 1 := by simp
  obtain ⟨v', W', h1, h2, h3, _, h4⟩ := run_append_own_at (P := Tryz.prog) (w := W.alloc (.cells #[.int .i64 v.lb, .int .i64 v.ep, .string ⟨v.da.toArray⟩] 85)) base 72 72 85 i0 (.agg #[.int .i64 0, .int .i64 0, .string ⟨#[]⟩]) 3 32 Tryz.underlying72 hi hz0 hz1 hz2 rfl (by decide) (.slice a n c) n (vv l) (hown.alloc _) ⟨W.heap.size, 0, none⟩ 1 1 (vc v) rfl (cell_row (heap_alloc_new W _)) (vc_one v) (by unfold maxLen; omega) (by omega) (by omega)
  obtain ⟨p', c', rfl⟩ := own_slice h2
  exact ⟨p', c', W', h1, by rw [vv_app, vv_one]; exact h2, h3, fun k hk => by
    rcases h4 with h4 | h4
    · exact .inl (h4 ▸ hk)
    · rw [hk] at h4
      have := Option.some.inj h4
      exact .inr (by omega)⟩
section
variable {base X : Nat} {m : Mo} {ar : Option Addr} {cr : Nat} {av : Option Addr} {cv : Nat} {w : World}
set_option maxRecDepth 100000 in
set_option maxHeartbeats 4000000 in
theorem write_no (h : Dm base X m ar cr av cv w) (c : Cl) (pk : Option Addr) (nk ck : Nat) (he : wrE m c ≠ 0) :
    Calls Tryz.prog 28 #[.pointer (some ⟨X, 0, none⟩), .agg #[.int .i64 c.k, .int .i64 c.lb, .int .i64 c.ep, .int .i64 c.tm, .string ⟨c.da.toArray⟩, .string ⟨c.nm.toArray⟩, .slice pk nk ck]] w fun x w' => x = .returned (.int .i64 (wrE m c)) ∧ Below w.heap.size w w' := by
  obtain ⟨W1, hW1⟩ : ∃ W1, W1 = w.alloc (.cells #[.int .i64 c.k, .int .i64 c.lb, .int .i64 c.ep, .int .i64 c.tm, .string ⟨c.da.toArray⟩, .string ⟨c.nm.toArray⟩, .slice pk nk ck] 35) := ⟨_, rfl⟩
  have BB : Hid (Below w.heap.size w W1) := Lib.hid (by rw [hW1]; exact below_new w _)
  have hBc : Bc W1 w.heap.size c pk nk ck := by rw [hW1]; exact heap_alloc_new w _
  have BC := Lib.hid hBc
  have DD := Lib.hid (h.step BB.out)
  have HR := Lib.hid (fun W (h : Dm base X m ar cr av cv W) => room h)
  obtain ⟨k0, k1, k2, k3, k4, k5, k6⟩ := hBc.cells
  obtain ⟨_, c1, _⟩ := DD.out.cells
  unfold wrE at he ⊢
  generalize rm m = r at *
  clear h hBc
  by_cases h1 : c.lb < 0
  · rw [if_pos (.inl h1)]
    clear he
    go_enter Tryz.func28, Tryz.ntmps28
    go_upto_region 1 with (fail)
    rw [← hW1]
    clear hW1
    go_quiet (fail)
    generalize hD : W1.drewN _ = W2
    have bd : Below W1.heap.size W1 W2 := by rw [← hD]; exact below_drewN _ _
    replace BB := Lib.hid (BB.out.trans (bd.mono BB.out.size))
    replace DD := Lib.hid (DD.out.step bd)
    replace BC := Lib.hid (BC.out.step bd)
    clear hD bd k0 k1 k2 k3 k4 k5 k6 c1
    obtain ⟨k0, k1, k2, k3, k4, k5, k6⟩ := BC.out.cells
    go_wp2_with fail
    go_ret
    exact ⟨rfl, BB.out⟩
  by_cases h2 : m.lb ≤ c.lb
  · rw [if_pos (.inr h2)]
    clear he
    go_enter Tryz.func28, Tryz.ntmps28
    go_upto_region 1 with (fail)
    rw [← hW1]
    clear hW1
    go_quiet (fail)
    generalize hD : W1.drewN _ = W2
    have bd : Below W1.heap.size W1 W2 := by rw [← hD]; exact below_drewN _ _
    replace BB := Lib.hid (BB.out.trans (bd.mono BB.out.size))
    replace DD := Lib.hid (DD.out.step bd)
    replace BC := Lib.hid (BC.out.step bd)
    clear hD bd k0 k1 k2 k3 k4 k5 k6 c1
    obtain ⟨k0, k1, k2, k3, k4, k5, k6⟩ := BC.out.cells
    go_wp2_with fail
    go_ret
    exact ⟨rfl, BB.out⟩
  rw [if_neg (show ¬ (c.lb < 0 ∨ m.lb ≤ c.lb) by omega)] at he ⊢
  have z : (⟨c.da.toArray⟩ : ByteArray).size = c.da.length := size_mk _
  by_cases h3 : 4000 < c.da.length
  · rw [if_pos h3]
    clear he
    have h3a : (4000 : Int) < (c.da.length : Int) := by omega
    go_enter Tryz.func28, Tryz.ntmps28
    go_upto_region 1 with (fail)
    rw [← hW1]
    clear hW1
    go_quiet (fail)
    generalize hD : W1.drewN _ = W2
    have bd : Below W1.heap.size W1 W2 := by rw [← hD]; exact below_drewN _ _
    replace BB := Lib.hid (BB.out.trans (bd.mono BB.out.size))
    replace DD := Lib.hid (DD.out.step bd)
    replace BC := Lib.hid (BC.out.step bd)
    clear hD bd k0 k1 k2 k3 k4 k5 k6 c1
    obtain ⟨k0, k1, k2, k3, k4, k5, k6⟩ := BC.out.cells
    go_wp2_with fail
    go_ret
    exact ⟨rfl, BB.out⟩
  rw [if_neg h3] at he ⊢
  have h3a : ¬ (4000 : Int) < (c.da.length : Int) := by omega
  by_cases h4 : r < 1
  · rw [if_pos h4]
    clear he
    go_enter Tryz.func28, Tryz.ntmps28
    go_upto_region 1 with (fail)
    rw [← hW1]
    clear hW1
    go_quiet (fail)
    generalize hD : W1.drewN _ = W2
    have bd : Below W1.heap.size W1 W2 := by rw [← hD]; exact below_drewN _ _
    replace BB := Lib.hid (BB.out.trans (bd.mono BB.out.size))
    replace DD := Lib.hid (DD.out.step bd)
    replace BC := Lib.hid (BC.out.step bd)
    clear hD bd k0 k1 k2 k3 k4 k5 k6 c1
    obtain ⟨k0, k1, k2, k3, k4, k5, k6⟩ := BC.out.cells
    go_wp2_with (go_at_call 51; refine (HR.out _ DD.out).mono ?_; rintro e w2 ⟨rfl, hb⟩; replace BB := Lib.hid (BB.out.trans (hb.mono BB.out.size)); clear hb HR)
    go_ret
    exact ⟨rfl, BB.out⟩
  · rw [if_neg h4] at he
    exact absurd rfl he
set_option maxRecDepth 100000 in
set_option maxHeartbeats 8000000 in
theorem write_yes (h : Dm base X m ar cr av cv w) (hbase : base ≤ w.heap.size) (c : Cl) (pk : Option Addr) (nk ck : Nat) (he : wrE m c = 0) :
    Calls Tryz.prog 28 #[.pointer (some ⟨X, 0, none⟩), .agg #[.int .i64 c.k, .int .i64 c.lb, .int .i64 c.ep, .int .i64 c.tm, .string ⟨c.da.toArray⟩, .string ⟨c.nm.toArray⟩, .slice pk nk ck]] w fun x w' => x = .returned (.int .i64 0) ∧ Turn base X m ar cr av cv (wrM m c) w w' := by
  obtain ⟨W1, hW1⟩ : ∃ W1, W1 = w.alloc (.cells #[.int .i64 c.k, .int .i64 c.lb, .int .i64 c.ep, .int .i64 c.tm, .string ⟨c.da.toArray⟩, .string ⟨c.nm.toArray⟩, .slice pk nk ck] 35) := ⟨_, rfl⟩
  have BB : Hid (Below w.heap.size w W1) := Lib.hid (by rw [hW1]; exact below_new w _)
  have hBc : Bc W1 w.heap.size c pk nk ck := by rw [hW1]; exact heap_alloc_new w _
  have BC := Lib.hid hBc
  have HD := Lib.hid h
  have hXl := h.lt
  have DD := Lib.hid (h.step BB.out)
  have HR := Lib.hid (fun W (h : Dm base X m ar cr av cv W) => room h)
  have OK := Lib.hid (ok_write h.ok he)
  have hlen := h.ok.lens
  have HE : Hid (∀ W, Db W X 5 m.f ar m.l.length cr m.l → Calls Tryz.prog 30 #[.pointer (some ⟨X, 5, none⟩)] W fun x w' => x = .returned (.int .i64 m.s.ep) ∧ W = w') := Lib.hid (fun W hw => by rw [h.ok.rel.ep]; exact DbC.Epoch hw (Ok.f01 h.ok).1 (Ok.f01 h.ok).2)
  have hu : 0 ≤ m.used ∧ m.used ≤ 1020 := by have := h.ok.used; have := h.ok.most; have := (GeoN.data_le m.b m.lb m.f).2; omega
  obtain ⟨k0, k1, k2, k3, k4, k5, k6⟩ := hBc.cells
  have c1 := DD.out.cells.2.1
  have c3 := DD.out.cells.2.2.2.1
  unfold wrE at he
  have h1 : ¬ c.lb < 0 := fun hh => by rw [if_pos (.inl hh)] at he; omega
  have h2 : ¬ m.lb ≤ c.lb := fun hh => by rw [if_pos (.inr hh)] at he; omega
  rw [if_neg (show ¬ (c.lb < 0 ∨ m.lb ≤ c.lb) by omega)] at he
  have h3 : ¬ 4000 < c.da.length := fun hh => by rw [if_pos hh] at he; omega
  rw [if_neg h3] at he
  have h4 : ¬ rm m < 1 := fun hh => by rw [if_pos hh] at he; omega
  have z : (⟨c.da.toArray⟩ : ByteArray).size = c.da.length := size_mk _
  have h3a : ¬ (4000 : Int) < (c.da.length : Int) := by omega
  generalize rm m = r at *
  clear h hBc he h3
  go_enter Tryz.func28, Tryz.ntmps28
  go_upto_region 1 with (fail)
  rw [← hW1]
  clear hW1
  go_quiet (fail)
  generalize hD : W1.drewN _ = W2
  have bd : Below W1.heap.size W1 W2 := by rw [← hD]; exact below_drewN _ _
  replace BB := Lib.hid (BB.out.trans (bd.mono BB.out.size))
  replace DD := Lib.hid (DD.out.step bd)
  replace BC := Lib.hid (BC.out.step bd)
  clear hD bd k0 k1 k2 k3 k4 k5 k6 c1 c3
  obtain ⟨k0, k1, k2, k3, k4, k5, k6⟩ := BC.out.cells
  go_upto_region 7 with (go_at_call 51; refine (HR.out _ DD.out).mono ?_; rintro e w2 ⟨rfl, hb⟩; replace BB := Lib.hid (BB.out.trans (hb.mono BB.out.size)); replace BC := Lib.hid (BC.out.step hb); replace DD := Lib.hid (DD.out.step hb); clear hb HR k0 k1 k2 k3 k4 k5 k6)
  have R2 := Lib.hid DD.out.raw
  have c3 := R2.out.cells.2.2.2.1
  have f3 : w2.frozen? ⟨X, 3, none⟩ = false := blk_free R2.out.head
  go_upto_region 8 with (fail)
  have R5 := Lib.hid (R2.out.used (m.used + 1))
  have hne5 : ∀ k, k ≠ X → (w2.setCell ⟨X, 3, none⟩ (.int .i64 (m.used + 1))).heap[k]? = w2.heap[k]? := fun k hk => Below.heap_setCell _ _ _ _ hk
  have hwX : w.heap.size ≠ X := by omega
  have C5 : Hid (Bc (w2.setCell ⟨X, 3, none⟩ (.int .i64 (m.used + 1))) w.heap.size c pk nk ck) := Lib.hid ((hne5 _ hwX).trans BC.out)
  have hz5 : (w2.setCell ⟨X, 3, none⟩ (.int .i64 (m.used + 1))).heap.size = w2.heap.size := by simp [World.setCell]
  have O5 : Hid ((w2.setCell ⟨X, 3, none⟩ (.int .i64 (m.used + 1))).os = w2.os ∧ (w2.setCell ⟨X, 3, none⟩ (.int .i64 (m.used + 1))).tape = w2.tape ∧ (w2.setCell ⟨X, 3, none⟩ (.int .i64 (m.used + 1))).output = w2.output) := Lib.hid ⟨rfl, rfl, rfl⟩
  generalize w2.setCell ⟨X, 3, none⟩ (.int .i64 (m.used + 1)) = W5 at *
  clear c3 f3 R2 BC
  have P5 : Hid (Below w.heap.size w w2) := BB
  have HD2 := R5.out.step ((Below.refl _ _).drew)
  have C2 : Bc W5.drew w.heap.size c pk nk ck := C5.out.step ((Below.refl _ _).drew)
  have hz6 : W5.drew.heap.size = w2.heap.size := hz5
  have hs2 : w.heap.size ≤ w2.heap.size := BB.out.size
  obtain ⟨a', c', W4, happ, hown4, hg4, hat4⟩ := app_ver base av m.vs.length cv m.vs ⟨c.lb, m.s.ep, c.da⟩ W5.drew (by omega) (by omega) HD2.vrow
  dsimp only at happ hg4
  have B3 : Below W5.drew.heap.size W5.drew (W5.drew.alloc (.cells #[.int .i64 c.lb, .int .i64 m.s.ep, .string ⟨c.da.toArray⟩] 85)) := below_new _ _
  have R3 := HD2.step B3
  have C3 := C2.step B3
  have hXd : X < W5.drew.heap.size := by omega
  have kO : ∀ k, k < w2.heap.size → (Value.slice av m.vs.length cv).ownBlock ≠ some k → W4.heap[k]? = W5.drew.heap[k]? := fun k hk hn => (hg4.block k (Nat.lt_of_lt_of_le (by omega) B3.size) (fun e => hn e.symm)).trans (B3.block k (by omega))
  have kX : W4.heap[X]? = W5.drew.heap[X]? := kO X (by omega) (fun e => HD2.xv e rfl)
  have C4 : Bc W4 w.heap.size c pk nk ck := (kO _ (by have := C5.out.lt; omega) (fun e => by have := (HD.out.vrow.lt _ e).2; omega)).trans C2
  have C6 : Bc (W4.setCell ⟨X, 7, none⟩ (.slice a' (m.vs.length + 1) c')) w.heap.size c pk nk ck := (Below.heap_setCell W4 ⟨X, 7, none⟩ _ _ hwX).trans C4
  have hS := C2.cells
  have hS3 := C3.cells
  have hS4 := C4.cells
  have hS5 := C6.cells
  have c2 : W5.drew.cell? ⟨X, 7, none⟩ = some (.slice av m.vs.length cv) := HD2.cells.2.2.2.2.2.2.2
  have c3 : (W5.drew.alloc (.cells #[.int .i64 c.lb, .int .i64 m.s.ep, .string ⟨c.da.toArray⟩] 85)).cell? ⟨X, 7, none⟩ = some (.slice av m.vs.length cv) := R3.cells.2.2.2.2.2.2.2
  have c3a : (W5.alloc (.cells #[.int .i64 c.lb, .int .i64 m.s.ep, .string ⟨c.da.toArray⟩] 85)).drew.cell? ⟨X, 7, none⟩ = some (.slice av m.vs.length cv) := c3
  have c3b : (W5.alloc (.cells #[.int .i64 c.lb, .int .i64 m.s.ep, .string ⟨c.da.toArray⟩] 85)).cell? ⟨X, 7, none⟩ = some (.slice av m.vs.length cv) := c3
  have f4 : W4.frozen? ⟨X, 7, none⟩ = false := blk_free (kX.trans HD2.head)
  have g4 : W4.cell? ⟨X, 7, none⟩ = some (.slice av m.vs.length cv) := blk_cell (kX.trans HD2.head) rfl
  have HE5 := Lib.hid (HE.out _ (HD2.db (by exact hlen.1)))
  have hz4 : w2.heap.size ≤ W4.heap.size := Nat.le_trans (by omega) (Nat.le_trans B3.size hg4.size)
  have POST : Hid (Turn base X m ar cr av cv (wrM m c) w (W4.setCell ⟨X, 7, none⟩ (.slice a' (m.vs.length + 1) c'))) := Lib.hid (by
    have hlv : (wrM m c).vs.length = m.vs.length + 1 := by show (m.vs ++ [_]).length = _; simp
    refine ⟨ar, cr, a', c', ⟨?_, ?_, ?_, OK.out⟩, ?_, ?_, ?_, ?_, ?_, ?_⟩
    · have := blk_set (i := 7) (u := .slice a' (m.vs.length + 1) c') (kX.trans HD2.head)
      rw [hlv]
      exact this
    · exact own_kept HD2.rows fun k hk => (Below.heap_setCell _ _ _ _ (HD2.xr hk)).trans (kO k (by have := (HD2.rows.lt k hk).2; omega) (HD2.rv hk))
    · rw [hlv]
      refine own_kept hown4 fun k hk => Below.heap_setCell _ _ _ _ (fun e => ?_)
      have e : k = X := e
      subst e
      have := type_apart hown4 hk (kX.trans HD2.head)
      exact absurd this (by decide)
    · rintro k (hk | hk | hk)
      · exact .inl (.inl hk)
      · exact .inl (.inr (.inl hk))
      · rw [hlv] at hk
        rcases hat4 k hk with h | h
        · exact .inl (.inr (.inr h))
        · exact .inr (by omega)
    · exact hg4.os.trans (B3.os.trans (O5.out.1.trans BB.out.os))
    · exact hg4.tape.trans (B3.tape.trans (O5.out.2.1.trans BB.out.tape))
    · exact hg4.output.trans (B3.output.trans (O5.out.2.2.trans BB.out.output))
    · simpa [World.setCell] using Nat.le_trans hs2 hz4
    · intro k hk hn
      have hkX : k ≠ X := fun e => hn (.inl e)
      exact (Below.heap_setCell _ _ _ _ (by exact hkX)).trans ((kO k (by omega) (fun e => hn (.inr (.inr e)))).trans ((hne5 k hkX).trans (BB.out.block k hk))))
  clear hown4 hg4 hat4 kO kX C4 C6 R3 C3 C2 HD2 R5 C5 HD DD BB hne5 B3 hz5 hz6 O5 hz4 hXd hs2 P5 HE OK hwX hXl z hu hlen hbase
  refine wp_region_held_drew (S := fun W => W.cell? ⟨w.heap.size, 0, none⟩ = some (.int .i64 c.k) ∧ W.cell? ⟨w.heap.size, 1, none⟩ = some (.int .i64 c.lb) ∧ W.cell? ⟨w.heap.size, 2, none⟩ = some (.int .i64 c.ep) ∧ W.cell? ⟨w.heap.size, 3, none⟩ = some (.int .i64 c.tm) ∧ W.cell? ⟨w.heap.size, 4, none⟩ = some (.string ⟨c.da.toArray⟩) ∧ W.cell? ⟨w.heap.size, 5, none⟩ = some (.string ⟨c.nm.toArray⟩) ∧ W.cell? ⟨w.heap.size, 6, none⟩ = some (.slice pk nk ck)) (by kernel_rfl) hS (fun _ => ?_)
  change wpAnyH _ _ _ _ _ _ #[false, false, false, false, false, false, false, false, false, false, false, false, false, false, false, false, false, false, false] _ _
  refine wpAnyH_take (i := 0) (v := ?v1) (by rw [List.getElem?_toArray]; rfl) (by kernel_rfl) (by kernel_rfl) (by kernel_rfl) (by intro _ _ _ h; exact h) (Or.inl ⟨by rfl, ?hy1⟩) (by assumption) ?rest1
  case hy1 => (intro W hSW; (try dsimp only at hSW); go_simp; try with_reducible rfl)
  try simp only [Act.put, List.setIfInBounds_toArray, List.set_cons_zero, List.set_cons_succ]
  refine wpAnyH_take (i := 1) (v := ?v2) (by rw [List.getElem?_toArray]; rfl) (by kernel_rfl) (by kernel_rfl) (by kernel_rfl) (by intro _ _ _ h; exact h) (Or.inl ⟨by rfl, ?hy2⟩) (by assumption) ?rest2
  case hy2 => (intro W hSW; (try dsimp only at hSW); go_simp; try with_reducible rfl)
  try simp only [Act.put, List.setIfInBounds_toArray, List.set_cons_zero, List.set_cons_succ]
  refine wpAnyH_take (i := 2) (v := ?v3) (by rw [List.getElem?_toArray]; rfl) (by kernel_rfl) (by kernel_rfl) (by kernel_rfl) (by intro _ _ _ h; exact h) (Or.inl ⟨by rfl, ?hy3⟩) (by assumption) ?rest3
  case hy3 => (intro W hSW; (try dsimp only at hSW); go_simp; try with_reducible rfl)
  try simp only [Act.put, List.setIfInBounds_toArray, List.set_cons_zero, List.set_cons_succ]
  refine wpAnyH_take (i := 3) (v := ?v4) (by rw [List.getElem?_toArray]; rfl) (by kernel_rfl) (by kernel_rfl) (by kernel_rfl) (by intro _ _ _ h; exact h) (Or.inl ⟨by rfl, ?hy4⟩) (by assumption) ?rest4
  case hy4 => (intro W hSW; (try dsimp only at hSW); go_simp; try with_reducible rfl)
  try simp only [Act.put, List.setIfInBounds_toArray, List.set_cons_zero, List.set_cons_succ]
  refine wpAnyH_take (i := 5) (v := ?v5) (by rw [List.getElem?_toArray]; rfl) (by kernel_rfl) (by kernel_rfl) (by kernel_rfl) (by intro _ _ _ h; exact h) (Or.inl ⟨by rfl, ?hy5⟩) (by assumption) ?rest5
  case hy5 => (intro W hSW; (try dsimp only at hSW); go_simp; try with_reducible rfl)
  try simp only [Act.put, List.setIfInBounds_toArray, List.set_cons_zero, List.set_cons_succ]
  refine wpAnyH_take (i := 6) (v := ?v6) (by rw [List.getElem?_toArray]; rfl) (by kernel_rfl) (by kernel_rfl) (by kernel_rfl) (by intro _ _ _ h; exact h) (Or.inl ⟨by rfl, ?hy6⟩) (by assumption) ?rest6
  case hy6 => (intro W hSW; (try dsimp only at hSW); go_simp; try with_reducible rfl)
  try simp only [Act.put, List.setIfInBounds_toArray, List.set_cons_zero, List.set_cons_succ]
  refine wpAnyH_take (i := 7) (v := ?v7) (by rw [List.getElem?_toArray]; rfl) (by kernel_rfl) (by kernel_rfl) (by kernel_rfl) (by intro _ _ _ h; exact h) (Or.inl ⟨by rfl, ?hy7⟩) (by assumption) ?rest7
  case hy7 => (intro W hSW; (try dsimp only at hSW); go_simp; try with_reducible rfl)
  try simp only [Act.put, List.setIfInBounds_toArray, List.set_cons_zero, List.set_cons_succ]
  refine wpAnyH_take (i := 8) (v := ?v8) (by rw [List.getElem?_toArray]; rfl) (by kernel_rfl) (by kernel_rfl) (by kernel_rfl) (by intro _ _ _ h; exact h) (Or.inl ⟨by rfl, ?hy8⟩) (by assumption) ?rest8
  case hy8 => (intro W hSW; (try dsimp only at hSW); go_simp; try with_reducible rfl)
  try simp only [Act.put, List.setIfInBounds_toArray, List.set_cons_zero, List.set_cons_succ]
  refine wpAnyH_take (i := 9) (v := ?v9) (by rw [List.getElem?_toArray]; rfl) (by kernel_rfl) (by kernel_rfl) (by kernel_rfl) (by intro _ _ _ h; exact h) (Or.inl ⟨by rfl, ?hy9⟩) (by assumption) ?rest9
  case hy9 => (intro W hSW; (try dsimp only at hSW); go_simp; try with_reducible rfl)
  try simp only [Act.put, List.setIfInBounds_toArray, List.set_cons_zero, List.set_cons_succ]
  refine wpAnyH_take (i := 11) (v := ?v10) (by rw [List.getElem?_toArray]; rfl) (by kernel_rfl) (by kernel_rfl) (by kernel_rfl) (by intro _ _ _ h; exact h) (Or.inl ⟨by rfl, ?hy10⟩) (by assumption) ?rest10
  case hy10 => (intro W hSW; (try dsimp only at hSW); go_simp; try with_reducible rfl)
  try simp only [Act.put, List.setIfInBounds_toArray, List.set_cons_zero, List.set_cons_succ]
  refine wpAnyH_take (i := 12) (v := ?v11) (by rw [List.getElem?_toArray]; rfl) (by kernel_rfl) (by kernel_rfl) (by kernel_rfl) (by intro _ _ _ h; exact h) (Or.inl ⟨by rfl, ?hy11⟩) (by assumption) ?rest11
  case hy11 => (intro W hSW; (try dsimp only at hSW); go_simp; try with_reducible rfl)
  try simp only [Act.put, List.setIfInBounds_toArray, List.set_cons_zero, List.set_cons_succ]
  refine wpAnyH_ready (rs := [4, 10]) (by kernel_rfl) (by simp) (AllReadyH.cons (by rw [List.getElem?_toArray]; rfl) (fun K hK => ?_) (AllReadyH.cons (by rw [List.getElem?_toArray]; rfl) (fun K hK => ?_) AllReadyH.nil))
  · go_simp
    refine hK.out _ _ hS (fun _ => ?_)
    clear hK K
    try simp only [List.setIfInBounds_toArray, List.set_cons_zero, List.set_cons_succ]
    refine wpAnyH_ready (rs := [10]) (by kernel_rfl) (by simp) (AllReadyH.cons (by rw [List.getElem?_toArray]; rfl) (fun K hK => ?_) AllReadyH.nil)
    go_simp
    refine HE5.out.mono ?_
    rintro e _ ⟨rfl, rfl⟩
    refine hK.out _ _ hS (fun _ => ?_)
    clear hK K
    try simp only [List.setIfInBounds_toArray, List.set_cons_zero, List.set_cons_succ]
    refine wpAnyH_take (i := 13) (v := ?v12) (by rw [List.getElem?_toArray]; rfl) (by kernel_rfl) (by kernel_rfl) (by kernel_rfl) (by intro _ _ _ h; exact h) (Or.inl ⟨by rfl, ?hy12⟩) (by assumption) ?rest12
    case hy12 => (intro W hSW; (try dsimp only at hSW); go_simp; try with_reducible rfl)
    try simp only [Act.put, List.setIfInBounds_toArray, List.set_cons_zero, List.set_cons_succ]
    refine wpAnyH_ready (rs := [14]) (by kernel_rfl) (by simp) (AllReadyH.cons (by rw [List.getElem?_toArray]; rfl) (fun K hK => ?_) AllReadyH.nil)
    go_simp
    refine hK.out _ _ hS3 (fun _ => ?_)
    clear hK K
    try simp only [List.setIfInBounds_toArray, List.set_cons_zero, List.set_cons_succ]
    refine wpAnyH_ready (rs := [15]) (by kernel_rfl) (by simp) (AllReadyH.cons (by rw [List.getElem?_toArray]; rfl) (fun K hK => ?_) AllReadyH.nil)
    refine step_run (by rfl) _ _ _ (by rfl) _ W4 (by exact happ) ?_
    refine hK.out _ _ hS4 (fun _ => ?_)
    clear hK K
    try simp only [List.setIfInBounds_toArray, List.set_cons_zero, List.set_cons_succ]
    refine wpAnyH_take (i := 16) (v := ?v13) (by rw [List.getElem?_toArray]; rfl) (by kernel_rfl) (by kernel_rfl) (by kernel_rfl) (by intro _ _ _ h; exact h) (Or.inl ⟨by rfl, ?hy13⟩) (by assumption) ?rest13
    case hy13 => (intro W hSW; (try dsimp only at hSW); go_simp; try with_reducible rfl)
    try simp only [Act.put, List.setIfInBounds_toArray, List.set_cons_zero, List.set_cons_succ]
    refine wpAnyH_take (i := 17) (v := ?v14) (by rw [List.getElem?_toArray]; rfl) (by kernel_rfl) (by kernel_rfl) (by kernel_rfl) (by intro _ _ _ h; exact h) (Or.inl ⟨by rfl, ?hy14⟩) (by assumption) ?rest14
    case hy14 => (intro W hSW; (try dsimp only at hSW); go_simp; try with_reducible rfl)
    try simp only [Act.put, List.setIfInBounds_toArray, List.set_cons_zero, List.set_cons_succ]
    refine wpAnyH_ready (rs := [18]) (by kernel_rfl) (by simp) (AllReadyH.cons (by rw [List.getElem?_toArray]; rfl) (fun K hK => ?_) AllReadyH.nil)
    go_simp
    refine hK.out _ _ hS5 (fun _ => ?_)
    clear hK K
    try simp only [List.setIfInBounds_toArray, List.set_cons_zero, List.set_cons_succ]
    refine wpAnyH_done (by kernel_rfl) ?_ _
    go_wp2
    go_ret
    exact ⟨rfl, POST.out⟩
  · go_simp
    refine HE5.out.mono ?_
    rintro e _ ⟨rfl, rfl⟩
    refine hK.out _ _ hS (fun _ => ?_)
    clear hK K
    try simp only [List.setIfInBounds_toArray, List.set_cons_zero, List.set_cons_succ]
    refine wpAnyH_take (i := 13) (v := ?v15) (by rw [List.getElem?_toArray]; rfl) (by kernel_rfl) (by kernel_rfl) (by kernel_rfl) (by intro _ _ _ h; exact h) (Or.inl ⟨by rfl, ?hy15⟩) (by assumption) ?rest15
    case hy15 => (intro W hSW; (try dsimp only at hSW); go_simp; try with_reducible rfl)
    try simp only [Act.put, List.setIfInBounds_toArray, List.set_cons_zero, List.set_cons_succ]
    refine wpAnyH_ready (rs := [4, 14]) (by kernel_rfl) (by simp) (AllReadyH.cons (by rw [List.getElem?_toArray]; rfl) (fun K hK => ?_) (AllReadyH.cons (by rw [List.getElem?_toArray]; rfl) (fun K hK => ?_) AllReadyH.nil))
    · go_simp
      refine hK.out _ _ hS (fun _ => ?_)
      clear hK K
      try simp only [List.setIfInBounds_toArray, List.set_cons_zero, List.set_cons_succ]
      refine wpAnyH_ready (rs := [14]) (by kernel_rfl) (by simp) (AllReadyH.cons (by rw [List.getElem?_toArray]; rfl) (fun K hK => ?_) AllReadyH.nil)
      go_simp
      refine hK.out _ _ hS3 (fun _ => ?_)
      clear hK K
      try simp only [List.setIfInBounds_toArray, List.set_cons_zero, List.set_cons_succ]
      refine wpAnyH_ready (rs := [15]) (by kernel_rfl) (by simp) (AllReadyH.cons (by rw [List.getElem?_toArray]; rfl) (fun K hK => ?_) AllReadyH.nil)
      refine step_run (by rfl) _ _ _ (by rfl) _ W4 (by exact happ) ?_
      refine hK.out _ _ hS4 (fun _ => ?_)
      clear hK K
      try simp only [List.setIfInBounds_toArray, List.set_cons_zero, List.set_cons_succ]
      refine wpAnyH_take (i := 16) (v := ?v16) (by rw [List.getElem?_toArray]; rfl) (by kernel_rfl) (by kernel_rfl) (by kernel_rfl) (by intro _ _ _ h; exact h) (Or.inl ⟨by rfl, ?hy16⟩) (by assumption) ?rest16
      case hy16 => (intro W hSW; (try dsimp only at hSW); go_simp; try with_reducible rfl)
      try simp only [Act.put, List.setIfInBounds_toArray, List.set_cons_zero, List.set_cons_succ]
      refine wpAnyH_take (i := 17) (v := ?v17) (by rw [List.getElem?_toArray]; rfl) (by kernel_rfl) (by kernel_rfl) (by kernel_rfl) (by intro _ _ _ h; exact h) (Or.inl ⟨by rfl, ?hy17⟩) (by assumption) ?rest17
      case hy17 => (intro W hSW; (try dsimp only at hSW); go_simp; try with_reducible rfl)
      try simp only [Act.put, List.setIfInBounds_toArray, List.set_cons_zero, List.set_cons_succ]
      refine wpAnyH_ready (rs := [18]) (by kernel_rfl) (by simp) (AllReadyH.cons (by rw [List.getElem?_toArray]; rfl) (fun K hK => ?_) AllReadyH.nil)
      go_simp
      refine hK.out _ _ hS5 (fun _ => ?_)
      clear hK K
      try simp only [List.setIfInBounds_toArray, List.set_cons_zero, List.set_cons_succ]
      refine wpAnyH_done (by kernel_rfl) ?_ _
      go_wp2
      go_ret
      exact ⟨rfl, POST.out⟩
    · go_simp
      refine hK.out _ _ hS3 (fun _ => ?_)
      clear hK K
      try simp only [List.setIfInBounds_toArray, List.set_cons_zero, List.set_cons_succ]
      refine wpAnyH_ready (rs := [4]) (by kernel_rfl) (by simp) (AllReadyH.cons (by rw [List.getElem?_toArray]; rfl) (fun K hK => ?_) AllReadyH.nil)
      go_simp
      refine hK.out _ _ hS3 (fun _ => ?_)
      clear hK K
      try simp only [List.setIfInBounds_toArray, List.set_cons_zero, List.set_cons_succ]
      refine wpAnyH_ready (rs := [15]) (by kernel_rfl) (by simp) (AllReadyH.cons (by rw [List.getElem?_toArray]; rfl) (fun K hK => ?_) AllReadyH.nil)
      refine step_run (by rfl) _ _ _ (by rfl) _ W4 (by exact happ) ?_
      refine hK.out _ _ hS4 (fun _ => ?_)
      clear hK K
      try simp only [List.setIfInBounds_toArray, List.set_cons_zero, List.set_cons_succ]
      refine wpAnyH_take (i := 16) (v := ?v18) (by rw [List.getElem?_toArray]; rfl) (by kernel_rfl) (by kernel_rfl) (by kernel_rfl) (by intro _ _ _ h; exact h) (Or.inl ⟨by rfl, ?hy18⟩) (by assumption) ?rest18
      case hy18 => (intro W hSW; (try dsimp only at hSW); go_simp; try with_reducible rfl)
      try simp only [Act.put, List.setIfInBounds_toArray, List.set_cons_zero, List.set_cons_succ]
      refine wpAnyH_take (i := 17) (v := ?v19) (by rw [List.getElem?_toArray]; rfl) (by kernel_rfl) (by kernel_rfl) (by kernel_rfl) (by intro _ _ _ h; exact h) (Or.inl ⟨by rfl, ?hy19⟩) (by assumption) ?rest19
      case hy19 => (intro W hSW; (try dsimp only at hSW); go_simp; try with_reducible rfl)
      try simp only [Act.put, List.setIfInBounds_toArray, List.set_cons_zero, List.set_cons_succ]
      refine wpAnyH_ready (rs := [18]) (by kernel_rfl) (by simp) (AllReadyH.cons (by rw [List.getElem?_toArray]; rfl) (fun K hK => ?_) AllReadyH.nil)
      go_simp
      refine hK.out _ _ hS5 (fun _ => ?_)
      clear hK K
      try simp only [List.setIfInBounds_toArray, List.set_cons_zero, List.set_cons_succ]
      refine wpAnyH_done (by kernel_rfl) ?_ _
      go_wp2
      go_ret
      exact ⟨rfl, POST.out⟩
end
end Go.Proofs.YtopnodkdpehdoaaGreatDoor.MdG
/- The document's model: record: the walk of its text. No conditions but those that each lemma names. -/
namespace Go.Proofs.YtopnodkdpehdoaaGreatDoor.MdH
set_option linter.unusedVariables false
open Go.RowKit
open RecN RecC RetN DbN RetR DbC DbD DbE DbF DbM DbA MdN MdC MdD MdE MdF AnsC MdG
section
variable {base X : Nat} {m : Mo} {ar : Option Addr} {cr : Nat} {av : Option Addr} {cv : Nat} {w : World}
set_option maxRecDepth 100000 in
set_option maxHeartbeats 8000000 in
theorem record_no (h : Dm base X m ar cr av cv w) (r : Rec) (room : Int) (he : rcE m r room ≠ 0) :
    Calls Tryz.prog 32 #[.pointer (some ⟨X, 0, none⟩), .agg #[.int .i64 r.k, .int .i64 r.ep, .int .i64 r.tm, .int .i64 r.ct, .int .i64 r.tg, .int .i64 r.un, .string ⟨r.rt.toArray⟩, .string ⟨r.nm.toArray⟩], .int .i64 room] w fun x w' => x = .returned (.int .i64 (rcE m r room)) ∧ Below w.heap.size w w' := by
  obtain ⟨W1, hW1⟩ : ∃ W1, W1 = w.alloc (.cells #[.int .i64 r.k, .int .i64 r.ep, .int .i64 r.tm, .int .i64 r.ct, .int .i64 r.tg, .int .i64 r.un, .string ⟨r.rt.toArray⟩, .string ⟨r.nm.toArray⟩] 82) := ⟨_, rfl⟩
  have BB : Hid (Below w.heap.size w W1) := Lib.hid (by rw [hW1]; exact below_new w _)
  have K1 : Hid (Bk W1 w.heap.size r) := Lib.hid (by rw [hW1]; exact heap_alloc_new w _)
  have DD := Lib.hid (h.step BB.out)
  have hXl := h.lt
  have HE := Lib.hid (fun W (h : Dm base X m ar cr av cv W) => Epoch h)
  have HM := Lib.hid (fun W (h : Dm base X m ar cr av cv W) => May h (stamp m r))
  have HD := Lib.hid h
  clear h
  unfold rcE at he ⊢
  by_cases h1 : may m.s (stamp m r) ≠ 0
  · rw [if_pos h1]
    clear he
    have t1 : (may m.s (stamp m r) != 0) = true := by simpa using h1
    clear h1
    generalize may m.s (stamp m r) = q at *
    go_enter Tryz.func32, Tryz.ntmps32
    go_upto_region 1 with (fail)
    rw [← hW1]
    have c0 : W1.cell? ⟨w.heap.size, 1, none⟩ = some (.int .i64 r.ep) := blk_cell K1.out rfl
    have f0 : W1.frozen? ⟨w.heap.size, 1, none⟩ = false := blk_free K1.out
    clear hW1
    go_upto_region 2 with (go_at_call 30; refine (HE.out _ DD.out).mono ?_; rintro e _ ⟨rfl, rfl⟩)
    have K2 : Hid ((W1.setCell ⟨w.heap.size, 1, none⟩ (.int .i64 m.s.ep)).heap[w.heap.size]? = some (.cells #[.int .i64 { r with ep := m.s.ep }.k, .int .i64 { r with ep := m.s.ep }.ep, .int .i64 { r with ep := m.s.ep }.tm, .int .i64 { r with ep := m.s.ep }.ct, .int .i64 { r with ep := m.s.ep }.tg, .int .i64 { r with ep := m.s.ep }.un, .string ⟨{ r with ep := m.s.ep }.rt.toArray⟩, .string ⟨{ r with ep := m.s.ep }.nm.toArray⟩] 82 (0, 0))) := Lib.hid (blk_set K1.out)
    have b2 : Below w.heap.size W1 (W1.setCell ⟨w.heap.size, 1, none⟩ (.int .i64 m.s.ep)) := ⟨rfl, rfl, rfl, by simp [World.setCell], fun k hk => Below.heap_setCell _ _ _ _ (fun e => by have e : k = w.heap.size := e; omega)⟩
    replace BB := Lib.hid (BB.out.trans b2)
    clear b2 c0 f0 HE K1 DD
    generalize W1.setCell ⟨w.heap.size, 1, none⟩ (.int .i64 m.s.ep) = W2 at *
    have DD := Lib.hid (HD.out.step BB.out)
    have c4 : W2.cell? ⟨X, 4, none⟩ = some (.int .i64 m.ck) := DD.out.cells.2.2.2.2.1
    have c0 : W2.cell? ⟨w.heap.size, 2, none⟩ = some (.int .i64 r.tm) := blk_cell K2.out rfl
    have f0 : W2.frozen? ⟨w.heap.size, 2, none⟩ = false := blk_free K2.out
    go_upto_region 3 with (fail)
    have K3 : Hid (Bk (W2.setCell ⟨w.heap.size, 2, none⟩ (.int .i64 m.ck)) w.heap.size (stamp m r)) := Lib.hid (blk_set K2.out)
    have b2 : Below w.heap.size W2 (W2.setCell ⟨w.heap.size, 2, none⟩ (.int .i64 m.ck)) := ⟨rfl, rfl, rfl, by simp [World.setCell], fun k hk => Below.heap_setCell _ _ _ _ (fun e => by have e : k = w.heap.size := e; omega)⟩
    replace BB := Lib.hid (BB.out.trans b2)
    clear b2 c0 f0 c4 DD K2
    generalize W2.setCell ⟨w.heap.size, 2, none⟩ (.int .i64 m.ck) = W3 at *
    have bd : Below W3.heap.size W3 W3.drew := (Below.refl _ _).drew
    replace BB := Lib.hid (BB.out.trans (bd.mono BB.out.size))
    replace K3 := Lib.hid (K3.out.step bd)
    clear bd
    have DD := Lib.hid (HD.out.step BB.out)
    have hS := K3.out.cells
    generalize stamp m r = s at *
    go_region_held3 (fun W => W.cell? ⟨w.heap.size, 0, none⟩ = some (.int .i64 s.k) ∧ W.cell? ⟨w.heap.size, 1, none⟩ = some (.int .i64 s.ep) ∧ W.cell? ⟨w.heap.size, 2, none⟩ = some (.int .i64 s.tm) ∧ W.cell? ⟨w.heap.size, 3, none⟩ = some (.int .i64 s.ct) ∧ W.cell? ⟨w.heap.size, 4, none⟩ = some (.int .i64 s.tg) ∧ W.cell? ⟨w.heap.size, 5, none⟩ = some (.int .i64 s.un) ∧ W.cell? ⟨w.heap.size, 6, none⟩ = some (.string ⟨s.rt.toArray⟩) ∧ W.cell? ⟨w.heap.size, 7, none⟩ = some (.string ⟨s.nm.toArray⟩))
      (exact hS) (first | (go_at_call 53; refine (HM.out _ DD.out).mono ?_; rintro e w4 ⟨rfl, hb⟩; replace BB := Lib.hid (BB.out.trans (hb.mono BB.out.size)); replace K3 := Lib.hid (K3.out.step hb); replace DD := Lib.hid (DD.out.step hb); replace hS := K3.out.cells; clear hb HM))
    go_wp2_with fail
    go_ret
    exact ⟨rfl, BB.out⟩
  rw [if_neg h1] at he ⊢
  by_cases h2 : room < 1
  · rw [if_pos h2]
    clear he
    have q0 : may m.s (stamp m r) = 0 := Classical.not_not.1 h1
    rw [q0] at HM
    clear h1 q0
    go_enter Tryz.func32, Tryz.ntmps32
    go_upto_region 1 with (fail)
    rw [← hW1]
    have c0 : W1.cell? ⟨w.heap.size, 1, none⟩ = some (.int .i64 r.ep) := blk_cell K1.out rfl
    have f0 : W1.frozen? ⟨w.heap.size, 1, none⟩ = false := blk_free K1.out
    clear hW1
    go_upto_region 2 with (go_at_call 30; refine (HE.out _ DD.out).mono ?_; rintro e _ ⟨rfl, rfl⟩)
    have K2 : Hid ((W1.setCell ⟨w.heap.size, 1, none⟩ (.int .i64 m.s.ep)).heap[w.heap.size]? = some (.cells #[.int .i64 { r with ep := m.s.ep }.k, .int .i64 { r with ep := m.s.ep }.ep, .int .i64 { r with ep := m.s.ep }.tm, .int .i64 { r with ep := m.s.ep }.ct, .int .i64 { r with ep := m.s.ep }.tg, .int .i64 { r with ep := m.s.ep }.un, .string ⟨{ r with ep := m.s.ep }.rt.toArray⟩, .string ⟨{ r with ep := m.s.ep }.nm.toArray⟩] 82 (0, 0))) := Lib.hid (blk_set K1.out)
    have b2 : Below w.heap.size W1 (W1.setCell ⟨w.heap.size, 1, none⟩ (.int .i64 m.s.ep)) := ⟨rfl, rfl, rfl, by simp [World.setCell], fun k hk => Below.heap_setCell _ _ _ _ (fun e => by have e : k = w.heap.size := e; omega)⟩
    replace BB := Lib.hid (BB.out.trans b2)
    clear b2 c0 f0 HE K1 DD
    generalize W1.setCell ⟨w.heap.size, 1, none⟩ (.int .i64 m.s.ep) = W2 at *
    have DD := Lib.hid (HD.out.step BB.out)
    have c4 : W2.cell? ⟨X, 4, none⟩ = some (.int .i64 m.ck) := DD.out.cells.2.2.2.2.1
    have c0 : W2.cell? ⟨w.heap.size, 2, none⟩ = some (.int .i64 r.tm) := blk_cell K2.out rfl
    have f0 : W2.frozen? ⟨w.heap.size, 2, none⟩ = false := blk_free K2.out
    go_upto_region 3 with (fail)
    have K3 : Hid (Bk (W2.setCell ⟨w.heap.size, 2, none⟩ (.int .i64 m.ck)) w.heap.size (stamp m r)) := Lib.hid (blk_set K2.out)
    have b2 : Below w.heap.size W2 (W2.setCell ⟨w.heap.size, 2, none⟩ (.int .i64 m.ck)) := ⟨rfl, rfl, rfl, by simp [World.setCell], fun k hk => Below.heap_setCell _ _ _ _ (fun e => by have e : k = w.heap.size := e; omega)⟩
    replace BB := Lib.hid (BB.out.trans b2)
    clear b2 c0 f0 c4 DD K2
    generalize W2.setCell ⟨w.heap.size, 2, none⟩ (.int .i64 m.ck) = W3 at *
    have bd : Below W3.heap.size W3 W3.drew := (Below.refl _ _).drew
    replace BB := Lib.hid (BB.out.trans (bd.mono BB.out.size))
    replace K3 := Lib.hid (K3.out.step bd)
    clear bd
    have DD := Lib.hid (HD.out.step BB.out)
    have hS := K3.out.cells
    generalize stamp m r = s at *
    go_region_held3 (fun W => W.cell? ⟨w.heap.size, 0, none⟩ = some (.int .i64 s.k) ∧ W.cell? ⟨w.heap.size, 1, none⟩ = some (.int .i64 s.ep) ∧ W.cell? ⟨w.heap.size, 2, none⟩ = some (.int .i64 s.tm) ∧ W.cell? ⟨w.heap.size, 3, none⟩ = some (.int .i64 s.ct) ∧ W.cell? ⟨w.heap.size, 4, none⟩ = some (.int .i64 s.tg) ∧ W.cell? ⟨w.heap.size, 5, none⟩ = some (.int .i64 s.un) ∧ W.cell? ⟨w.heap.size, 6, none⟩ = some (.string ⟨s.rt.toArray⟩) ∧ W.cell? ⟨w.heap.size, 7, none⟩ = some (.string ⟨s.nm.toArray⟩))
      (exact hS) (first | (go_at_call 53; refine (HM.out _ DD.out).mono ?_; rintro e w4 ⟨rfl, hb⟩; replace BB := Lib.hid (BB.out.trans (hb.mono BB.out.size)); replace K3 := Lib.hid (K3.out.step hb); replace DD := Lib.hid (DD.out.step hb); replace hS := K3.out.cells; clear hb HM))
    go_wp2_with fail
    go_ret
    exact ⟨rfl, BB.out⟩
  · rw [if_neg h2] at he
    exact absurd rfl he
set_option maxRecDepth 100000 in
set_option maxHeartbeats 8000000 in
theorem record_yes (h : Dm base X m ar cr av cv w) (hbase : base ≤ w.heap.size) (r : Rec) (room : Int) (he : rcE m r room = 0) (hroom : m.used + 1 ≤ GeoN.data m.b m.lb m.f) :
    Calls Tryz.prog 32 #[.pointer (some ⟨X, 0, none⟩), .agg #[.int .i64 r.k, .int .i64 r.ep, .int .i64 r.tm, .int .i64 r.ct, .int .i64 r.tg, .int .i64 r.un, .string ⟨r.rt.toArray⟩, .string ⟨r.nm.toArray⟩], .int .i64 room] w fun x w' => x = .returned (.int .i64 0) ∧ Turn base X m ar cr av cv (rcM m r) w w' := by
  obtain ⟨W1, hW1⟩ : ∃ W1, W1 = w.alloc (.cells #[.int .i64 r.k, .int .i64 r.ep, .int .i64 r.tm, .int .i64 r.ct, .int .i64 r.tg, .int .i64 r.un, .string ⟨r.rt.toArray⟩, .string ⟨r.nm.toArray⟩] 82) := ⟨_, rfl⟩
  have BB : Hid (Below w.heap.size w W1) := Lib.hid (by rw [hW1]; exact below_new w _)
  have K1 : Hid (Bk W1 w.heap.size r) := Lib.hid (by rw [hW1]; exact heap_alloc_new w _)
  have DD := Lib.hid (h.step BB.out)
  have hXl := h.lt
  have HE := Lib.hid (fun W (h : Dm base X m ar cr av cv W) => Epoch h)
  have HM := Lib.hid (fun W (h : Dm base X m ar cr av cv W) => May h (stamp m r))
  have HD := Lib.hid h
  obtain ⟨q0, q1⟩ := rec_ok he
  have OK := Lib.hid (ok_rec h.ok q0 hroom)
  have hu : 0 ≤ m.used ∧ m.used ≤ 1020 := by have := h.ok.used; have := h.ok.most; have := (GeoN.data_le m.b m.lb m.f).2; omega
  have HA : Hid (∀ W, Dm base X m ar cr av cv W → base ≤ W.heap.size → Calls Tryz.prog 54 #[.pointer (some ⟨X, 5, none⟩), .agg #[.int .i64 (stamp m r).k, .int .i64 (stamp m r).ep, .int .i64 (stamp m r).tm, .int .i64 (stamp m r).ct, .int .i64 (stamp m r).tg, .int .i64 (stamp m r).un, .string ⟨(stamp m r).rt.toArray⟩, .string ⟨(stamp m r).nm.toArray⟩]] W fun x w' => x = .returned (.int .i64 0) ∧ Apd base X 6 ar m.l.length cr (rr (m.l ++ [stamp m r])) 82 8 W w') := Lib.hid (fun W hw hb => by
    have := Apply_yes (o := 5) hw.db (stamp m r) (Ok.f01 hw.ok).1 (Ok.f01 hw.ok).2 (by rw [hw.ok.rel.may_]; exact q0) hw.rows hb (fun e => hw.raw.xr e rfl) (fun t cs e => by rw [hw.head] at e; injection e with e; injection e with _ e; subst e; decide)
    exact this)
  rw [q0] at HM
  have HL : Hid ((rcM m r).l = m.l ++ [stamp m r]) := Lib.hid rfl
  clear h q0 he hroom
  go_enter Tryz.func32, Tryz.ntmps32
  go_upto_region 1 with (fail)
  rw [← hW1]
  have c0 : W1.cell? ⟨w.heap.size, 1, none⟩ = some (.int .i64 r.ep) := blk_cell K1.out rfl
  have f0 : W1.frozen? ⟨w.heap.size, 1, none⟩ = false := blk_free K1.out
  clear hW1
  go_upto_region 2 with (go_at_call 30; refine (HE.out _ DD.out).mono ?_; rintro e _ ⟨rfl, rfl⟩)
  have K2 : Hid ((W1.setCell ⟨w.heap.size, 1, none⟩ (.int .i64 m.s.ep)).heap[w.heap.size]? = some (.cells #[.int .i64 { r with ep := m.s.ep }.k, .int .i64 { r with ep := m.s.ep }.ep, .int .i64 { r with ep := m.s.ep }.tm, .int .i64 { r with ep := m.s.ep }.ct, .int .i64 { r with ep := m.s.ep }.tg, .int .i64 { r with ep := m.s.ep }.un, .string ⟨{ r with ep := m.s.ep }.rt.toArray⟩, .string ⟨{ r with ep := m.s.ep }.nm.toArray⟩] 82 (0, 0))) := Lib.hid (blk_set K1.out)
  have b2 : Below w.heap.size W1 (W1.setCell ⟨w.heap.size, 1, none⟩ (.int .i64 m.s.ep)) := ⟨rfl, rfl, rfl, by simp [World.setCell], fun k hk => Below.heap_setCell _ _ _ _ (fun e => by have e : k = w.heap.size := e; omega)⟩
  replace BB := Lib.hid (BB.out.trans b2)
  clear b2 c0 f0 HE K1 DD
  generalize W1.setCell ⟨w.heap.size, 1, none⟩ (.int .i64 m.s.ep) = W2 at *
  have DD := Lib.hid (HD.out.step BB.out)
  have c4 : W2.cell? ⟨X, 4, none⟩ = some (.int .i64 m.ck) := DD.out.cells.2.2.2.2.1
  have c0 : W2.cell? ⟨w.heap.size, 2, none⟩ = some (.int .i64 r.tm) := blk_cell K2.out rfl
  have f0 : W2.frozen? ⟨w.heap.size, 2, none⟩ = false := blk_free K2.out
  go_upto_region 3 with (fail)
  have K3 : Hid (Bk (W2.setCell ⟨w.heap.size, 2, none⟩ (.int .i64 m.ck)) w.heap.size (stamp m r)) := Lib.hid (blk_set K2.out)
  have b2 : Below w.heap.size W2 (W2.setCell ⟨w.heap.size, 2, none⟩ (.int .i64 m.ck)) := ⟨rfl, rfl, rfl, by simp [World.setCell], fun k hk => Below.heap_setCell _ _ _ _ (fun e => by have e : k = w.heap.size := e; omega)⟩
  replace BB := Lib.hid (BB.out.trans b2)
  clear b2 c0 f0 c4 DD K2
  generalize W2.setCell ⟨w.heap.size, 2, none⟩ (.int .i64 m.ck) = W3 at *
  have bd : Below W3.heap.size W3 W3.drew := (Below.refl _ _).drew
  replace BB := Lib.hid (BB.out.trans (bd.mono BB.out.size))
  replace K3 := Lib.hid (K3.out.step bd)
  clear bd
  have DD := Lib.hid (HD.out.step BB.out)
  have hS := K3.out.cells
  generalize stamp m r = s at *
  go_region_held3 (fun W => W.cell? ⟨w.heap.size, 0, none⟩ = some (.int .i64 s.k) ∧ W.cell? ⟨w.heap.size, 1, none⟩ = some (.int .i64 s.ep) ∧ W.cell? ⟨w.heap.size, 2, none⟩ = some (.int .i64 s.tm) ∧ W.cell? ⟨w.heap.size, 3, none⟩ = some (.int .i64 s.ct) ∧ W.cell? ⟨w.heap.size, 4, none⟩ = some (.int .i64 s.tg) ∧ W.cell? ⟨w.heap.size, 5, none⟩ = some (.int .i64 s.un) ∧ W.cell? ⟨w.heap.size, 6, none⟩ = some (.string ⟨s.rt.toArray⟩) ∧ W.cell? ⟨w.heap.size, 7, none⟩ = some (.string ⟨s.nm.toArray⟩))
    (exact hS) (first | (go_at_call 53; refine (HM.out _ DD.out).mono ?_; rintro e w4 ⟨rfl, hb⟩; replace BB := Lib.hid (BB.out.trans (hb.mono BB.out.size)); replace K3 := Lib.hid (K3.out.step hb); replace DD := Lib.hid (DD.out.step hb); replace hS := K3.out.cells; clear hb HM))
  go_upto_region 8 with (fail)
  have bd : Below w4.heap.size w4 w4.drew := (Below.refl _ _).drew
  replace BB := Lib.hid (BB.out.trans (bd.mono BB.out.size))
  replace K3 := Lib.hid (K3.out.step bd)
  replace DD := Lib.hid (DD.out.step bd)
  replace hS := K3.out.cells
  have hb4 : base ≤ w4.drew.heap.size := Nat.le_trans hbase BB.out.size
  clear bd
  go_region_held3 (fun W => W.cell? ⟨w.heap.size, 0, none⟩ = some (.int .i64 s.k) ∧ W.cell? ⟨w.heap.size, 1, none⟩ = some (.int .i64 s.ep) ∧ W.cell? ⟨w.heap.size, 2, none⟩ = some (.int .i64 s.tm) ∧ W.cell? ⟨w.heap.size, 3, none⟩ = some (.int .i64 s.ct) ∧ W.cell? ⟨w.heap.size, 4, none⟩ = some (.int .i64 s.tg) ∧ W.cell? ⟨w.heap.size, 5, none⟩ = some (.int .i64 s.un) ∧ W.cell? ⟨w.heap.size, 6, none⟩ = some (.string ⟨s.rt.toArray⟩) ∧ W.cell? ⟨w.heap.size, 7, none⟩ = some (.string ⟨s.nm.toArray⟩))
    (exact hS) (first | (go_at_call 54; refine (HA.out _ DD.out hb4).mono ?_; rintro e w5 ⟨rfl, ha⟩; have KK := Lib.hid ((ha.block w.heap.size K3.out.lt (fun e => by omega) (fun e => by have := (HD.out.rows.lt _ e).2; omega)).trans K3.out); replace hS := Bk.cells KK.out; have HP := Lib.hid ha; clear ha))
  obtain ⟨a', c', hown, hB, hfoot⟩ := HP.out.own
  have hX5 := hB _ _ DD.out.head
  have c3 : w5.cell? ⟨X, 3, none⟩ = some (.int .i64 m.used) := blk_cell hX5 rfl
  have f3 : w5.frozen? ⟨X, 3, none⟩ = false := blk_free hX5
  have POST : Hid (Turn base X m ar cr av cv (rcM m r) w (w5.setCell ⟨X, 3, none⟩ (.int .i64 (m.used + 1)))) := Lib.hid (by
    have hll : (rcM m r).l.length = m.l.length + 1 := by show (m.l ++ [_]).length = _; simp
    have hsz : w.heap.size ≤ w5.heap.size := Nat.le_trans BB.out.size HP.out.size
    have hrl := HD.out.rows.lt
    refine ⟨a', c', av, cv, ⟨?_, ?_, ?_, OK.out⟩, ?_, HP.out.os.trans BB.out.os, HP.out.tape.trans BB.out.tape, HP.out.output.trans BB.out.output, by simpa [World.setCell] using hsz, ?_⟩
    · have := blk_set (i := 3) (u := .int .i64 (m.used + 1)) hX5
      rw [hll]
      exact this
    · rw [hll, HL.out]
      refine own_kept hown fun k hk => Below.heap_setCell _ _ _ _ (fun e => ?_)
      have e : k = X := e
      subst e
      have := type_apart hown hk hX5
      exact absurd this (by decide)
    · exact own_kept DD.out.vrow fun k hk => (Below.heap_setCell _ _ _ _ (by exact DD.out.raw.xv hk)).trans (HP.out.block k (DD.out.vrow.lt k hk).2 (DD.out.raw.xv hk) (fun e => DD.out.raw.rv e hk))
    · rintro k (hk | hk | hk)
      · exact .inl (.inl hk)
      · rw [hll] at hk
        rcases hfoot k hk with h | h
        · exact .inl (.inr (.inl h))
        · exact .inr (Nat.le_trans BB.out.size h)
      · exact .inl (.inr (.inr hk))
    · intro k hk hn
      have hkX : k ≠ X := fun e => hn (.inl e)
      exact (Below.heap_setCell _ _ _ _ (by exact hkX)).trans ((HP.out.block k (Nat.lt_of_lt_of_le hk BB.out.size) hkX (fun e => hn (.inr (.inl e)))).trans (BB.out.block k hk)))
  clear hown hB hfoot hX5 HP HD DD BB K3 KK OK hb4 hbase hXl hS
  go_wp2_with fail
  go_ret
  exact ⟨rfl, POST.out⟩
end
end Go.Proofs.YtopnodkdpehdoaaGreatDoor.MdH
