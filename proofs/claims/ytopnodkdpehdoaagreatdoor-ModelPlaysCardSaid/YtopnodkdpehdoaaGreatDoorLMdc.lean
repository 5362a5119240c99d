/- MdC MdD: one behind the other. -/
import Derived.Test.YtopnodkdpehdoaaGreatDoorMdN
import Derived.Test.YtopnodkdpehdoaaGreatDoorDbA
import Derived.Test.YtopnodkdpehdoaaGreatDoorGeoR
import Derived.Deep.RegionHeld3
import Derived.Deep.DeepCutAuto
/- The document's model in memory: its block, its rows of records and of versions. No conditions but those that each lemma names. -/
namespace Go.Proofs.YtopnodkdpehdoaaGreatDoor.MdC
set_option linter.unusedVariables false
open Go.RowKit
open RecN RecC RetN DbN RetR DbC DbA MdN
/-- A version as cells. -/
def vc (v : V) : List Value := [.int .i64 v.lb, .int .i64 v.ep, .string ⟨v.da.toArray⟩]
theorem vc_len (v : V) : (vc v).length = 3 := rfl
def vv (l : List V) : List Value := l.flatMap vc
theorem vv_len (l : List V) : (vv l).length = l.length * 3 := fm_len vc_len l
theorem vv_app (l m : List V) : vv (l ++ m) = vv l ++ vv m := by simp [vv]
theorem vv_one (v : V) : vv [v] = vc v := by simp [vv]
theorem vc_one (v : V) : ∀ u ∈ vc v, u.oneCell' = true := by
  intro u hu
  simp only [vc, List.mem_cons, List.not_mem_nil, or_false] at hu
  rcases hu with rfl | rfl | rfl <;> rfl
def v0 : V := ⟨0, 0, []⟩
/-- One version amid a block. -/
def At3 (W : World) (g p : Nat) (v : V) : Prop := W.cell? ⟨g, p, none⟩ = some (.int .i64 v.lb) ∧ W.cell? ⟨g, p + 1, none⟩ = some (.int .i64 v.ep) ∧ W.cell? ⟨g, p + 2, none⟩ = some (.string ⟨v.da.toArray⟩)
theorem At3.step {W W' : World} {B g p : Nat} {v : V} (h : At3 W g p v) (hg : g < B) (hb : Below B W W') : At3 W' g p v := by
  obtain ⟨h0, h1, h2⟩ := h
  have k : ∀ q u, W.cell? ⟨g, q, none⟩ = some u → W'.cell? ⟨g, q, none⟩ = some u := fun q u e => (hb.cell (p := ⟨g, q, none⟩) hg).trans e
  exact ⟨k _ _ h0, k _ _ h1, k _ _ h2⟩
theorem at3 {W : World} {a : Option Addr} {l : List V} (h : Lies W a (vv l)) (h0 : 0 < l.length) : ∃ g o, a = some ⟨g, o, none⟩ ∧ g < W.heap.size ∧ ∀ i (hi : i < l.length), At3 W g (o + i * 3) l[i] := by
  obtain ⟨g, o, e, hg, hc⟩ := h (by rw [vv_len]; omega)
  refine ⟨g, o, e, hg, fun i hi => ?_⟩
  have k : ∀ j u, j < 3 → (vc l[i])[j]? = some u → W.cell? ⟨g, o + i * 3 + j, none⟩ = some u := fun j u hj hu => by
    rw [Nat.add_assoc]
    exact hc _ _ ((fm_at vc_len l i hi j hj).trans hu)
  exact ⟨k 0 _ (by omega) rfl, k 1 _ (by omega) rfl, k 2 _ (by omega) rfl⟩
/-- A version in a block. -/
def Bv (W : World) (Y : Nat) (v : V) : Prop := W.heap[Y]? = some (.cells #[.int .i64 v.lb, .int .i64 v.ep, .string ⟨v.da.toArray⟩] 85 (0, 0))
theorem Bv.lt {W : World} {Y : Nat} {v : V} (h : Bv W Y v) : Y < W.heap.size := (Array.getElem?_eq_some_iff.1 h).1
theorem Bv.step {W W' : World} {Y : Nat} {v : V} (h : Bv W Y v) (hb : Below W.heap.size W W') : Bv W' Y v := (hb.block _ h.lt).trans h
theorem Bv.cells {W : World} {Y : Nat} {v : V} (h : Bv W Y v) : At3 W Y 0 v := ⟨blk_cell h rfl, blk_cell h rfl, blk_cell h rfl⟩
theorem infoV : (Tryz.prog.info? 85).map (·.size) = some 3 := by kernel_rfl
theorem one3 (v : V) : (#[.int .i64 v.lb, .int .i64 v.ep, .string ⟨v.da.toArray⟩] : Array Value).all (·.oneCell') = true := by simp [Value.oneCell']
theorem info_ver : ((Tryz.prog.info? 85).map fun i => (i.zero, i.size, i.bytes)) = some (some (.agg #[.int .i64 0, .int .i64 0, .string ⟨#[]⟩]), 3, 32) := by kernel_rfl
/-- The document's model: its block, its rows, and what holds of it. -/
structure Dm (base X : Nat) (m : Mo) (ar : Option Addr) (cr : Nat) (av : Option Addr) (cv : Nat) (W : World) : Prop where
  head : W.heap[X]? = some (.cells #[.int .i64 m.b, .int .i64 m.lb, .int .i64 m.f, .int .i64 m.used, .int .i64 m.ck, .int .i64 m.f, .slice ar m.l.length cr, .slice av m.vs.length cv] 74 (0, 0))
  rows : W.ownsRow base 82 8 (.slice ar m.l.length cr) m.l.length (rr m.l)
  vrow : W.ownsRow base 85 3 (.slice av m.vs.length cv) m.vs.length (vv m.vs)
  ok : Ok m
section
variable {base X : Nat} {m : Mo} {ar : Option Addr} {cr : Nat} {av : Option Addr} {cv : Nat} {W W' : World}
theorem Dm.lt (h : Dm base X m ar cr av cv W) : X < W.heap.size := (Array.getElem?_eq_some_iff.1 h.head).1
theorem Dm.step (h : Dm base X m ar cr av cv W) (hb : Below W.heap.size W W') : Dm base X m ar cr av cv W' :=
  ⟨(hb.block _ h.lt).trans h.head, DbE.own_step h.rows hb, DbE.own_step h.vrow hb, h.ok⟩
theorem Dm.drew (h : Dm base X m ar cr av cv W) : Dm base X m ar cr av cv W.drew := h.step ((Below.refl _ _).drew)
theorem Dm.db (h : Dm base X m ar cr av cv W) : Db W X 5 m.f ar m.l.length cr m.l := ⟨⟨_, _, h.head, rfl, rfl⟩, rfl, by have := h.ok.lens; omega, own_lies h.rows⟩
theorem Dm.cells (h : Dm base X m ar cr av cv W) : W.cell? ⟨X, 0, none⟩ = some (.int .i64 m.b) ∧ W.cell? ⟨X, 1, none⟩ = some (.int .i64 m.lb) ∧ W.cell? ⟨X, 2, none⟩ = some (.int .i64 m.f) ∧ W.cell? ⟨X, 3, none⟩ = some (.int .i64 m.used) ∧ W.cell? ⟨X, 4, none⟩ = some (.int .i64 m.ck) ∧ W.cell? ⟨X, 5, none⟩ = some (.int .i64 m.f) ∧ W.cell? ⟨X, 6, none⟩ = some (.slice ar m.l.length cr) ∧ W.cell? ⟨X, 7, none⟩ = some (.slice av m.vs.length cv) :=
  ⟨blk_cell h.head rfl, blk_cell h.head rfl, blk_cell h.head rfl, blk_cell h.head rfl, blk_cell h.head rfl, blk_cell h.head rfl, blk_cell h.head rfl, blk_cell h.head rfl⟩
/-- A model's own blocks. -/
def Foot (X : Nat) (m : Mo) (ar : Option Addr) (cr : Nat) (av : Option Addr) (cv : Nat) (k : Nat) : Prop := k = X ∨ (Value.slice ar m.l.length cr).ownBlock = some k ∨ (Value.slice av m.vs.length cv).ownBlock = some k
theorem Dm.foot (h : Dm base X m ar cr av cv W) {k : Nat} (hk : Foot X m ar cr av cv k) : k < W.heap.size := by
  rcases hk with rfl | hk | hk
  · exact h.lt
  · exact (h.rows.lt k hk).2
  · exact (h.vrow.lt k hk).2
end
/-- What a turn of a model leaves: the model, in blocks that were its own or are new; all else as it was. -/
def Turn (base X : Nat) (m : Mo) (ar : Option Addr) (cr : Nat) (av : Option Addr) (cv : Nat) (m' : Mo) (w W : World) : Prop :=
  ∃ ar' cr' av' cv', Dm base X m' ar' cr' av' cv' W ∧ (∀ k, Foot X m' ar' cr' av' cv' k → Foot X m ar cr av cv k ∨ w.heap.size ≤ k) ∧
    W.os = w.os ∧ W.tape = w.tape ∧ W.output = w.output ∧ w.heap.size ≤ W.heap.size ∧ ∀ k, k < w.heap.size → ¬ Foot X m ar cr av cv k → W.heap[k]? = w.heap[k]?
theorem Turn.still {base X : Nat} {m : Mo} {ar : Option Addr} {cr : Nat} {av : Option Addr} {cv : Nat} {w W : World} (h : Dm base X m ar cr av cv w) (hb : Below w.heap.size w W) : Turn base X m ar cr av cv m w W :=
  ⟨ar, cr, av, cv, h.step hb, fun k hk => .inl hk, hb.os, hb.tape, hb.output, hb.size, fun k hk _ => hb.block k hk⟩
theorem Turn.trans {base X : Nat} {m m1 m2 : Mo} {ar : Option Addr} {cr : Nat} {av : Option Addr} {cv : Nat} {w W W' : World} (h : Turn base X m ar cr av cv m1 w W)
    (k : ∀ ar1 cr1 av1 cv1, Dm base X m1 ar1 cr1 av1 cv1 W → Turn base X m1 ar1 cr1 av1 cv1 m2 W W') : Turn base X m ar cr av cv m2 w W' := by
  obtain ⟨ar1, cr1, av1, cv1, hd, hf, e1, e2, e3, e4, e5⟩ := h
  obtain ⟨ar2, cr2, av2, cv2, kd, kf, k1, k2, k3, k4, k5⟩ := k _ _ _ _ hd
  refine ⟨ar2, cr2, av2, cv2, kd, fun i hi => ?_, k1.trans e1, k2.trans e2, k3.trans e3, Nat.le_trans e4 k4, fun i hi hn => ?_⟩
  · rcases kf i hi with h | h
    · exact hf i h
    · exact .inr (Nat.le_trans e4 h)
  · refine (k5 i (Nat.lt_of_lt_of_le hi e4) (fun h => ?_)).trans (e5 i hi hn)
    rcases hf i h with h | h
    · exact hn h
    · omega
end Go.Proofs.YtopnodkdpehdoaaGreatDoor.MdC
/- The document's model: room, there, tick: the walks of their texts; what its book tells, in the book's own words. No conditions but those that each lemma names. -/
namespace Go.Proofs.YtopnodkdpehdoaaGreatDoor.MdD
set_option linter.unusedVariables false
open Go.RowKit
open RecN RecC RetN DbN RetR DbC DbA MdN MdC
section
variable {base X : Nat} {m : Mo} {ar : Option Addr} {cr : Nat} {av : Option Addr} {cv : Nat} {w : World}
theorem Ok.f01 {m : Mo} (h : Ok m) : 0 ≤ m.f ∧ m.f ≤ 4294967295 := by
  have := h.geo
  unfold GeoN.right at this
  omega
theorem Epoch (h : Dm base X m ar cr av cv w) : Calls Tryz.prog 30 #[.pointer (some ⟨X, 5, none⟩)] w fun x w' => x = .returned (.int .i64 m.s.ep) ∧ w = w' := by
  rw [h.ok.rel.ep]
  exact DbC.Epoch h.db (Ok.f01 h.ok).1 (Ok.f01 h.ok).2
theorem Gone (h : Dm base X m ar cr av cv w) (t : Int) : Calls Tryz.prog 39 #[.pointer (some ⟨X, 5, none⟩), .int .i64 t] w fun x w' => x = .returned (.bool (m.s.gone t)) ∧ w = w' := by
  rw [h.ok.rel.gone]
  exact DbC.Gone h.db t
theorem Until (h : Dm base X m ar cr av cv w) (t : Int) : Calls Tryz.prog 56 #[.pointer (some ⟨X, 5, none⟩), .int .i64 t] w fun x w' => x = .returned (.int .i64 (m.s.un t)) ∧ w = w' := by
  rw [h.ok.rel.un]
  exact DbC.Until h.db t
theorem May (h : Dm base X m ar cr av cv w) (r : Rec) : Calls Tryz.prog 53 #[.pointer (some ⟨X, 5, none⟩), .agg #[.int .i64 r.k, .int .i64 r.ep, .int .i64 r.tm, .int .i64 r.ct, .int .i64 r.tg, .int .i64 r.un, .string ⟨r.rt.toArray⟩, .string ⟨r.nm.toArray⟩]] w fun x w' => x = .returned (.int .i64 (may m.s r)) ∧ Below w.heap.size w w' := by
  rw [← h.ok.rel.may_]
  exact DbM.May h.db r (Ok.f01 h.ok).1 (Ok.f01 h.ok).2
theorem Names (h : Dm base X m ar cr av cv w) : Calls Tryz.prog 57 #[.pointer (some ⟨X, 5, none⟩)] w fun x w' => (∃ p c, x = .returned (.slice p m.s.hs.length c)) ∧ Below w.heap.size w w' := by
  refine (DbE.Names h.db).mono ?_
  rintro x w' ⟨⟨v, rfl, p, c, rfl, _⟩, hb⟩
  exact ⟨⟨p, c, by rw [h.ok.rel.count]⟩, hb⟩
set_option maxRecDepth 100000 in
set_option maxHeartbeats 2000000 in
theorem room (h : Dm base X m ar cr av cv w) : Calls Tryz.prog 51 #[.pointer (some ⟨X, 0, none⟩)] w fun x w' => x = .returned (.int .i64 (rm m)) ∧ Below w.heap.size w w' := by
  have hu : m.used ≤ 9223372036854775807 := by have := h.ok.most; have := (GeoN.data_le m.b m.lb m.f).2; omega
  have HR := Lib.hid (fun W => GeoR.Room m.b m.lb m.f m.used W hu)
  have HD := Lib.hid h.drew
  have hS : w.drew.cell? ⟨X, 0, none⟩ = some (.int .i64 m.b) ∧ w.drew.cell? ⟨X, 1, none⟩ = some (.int .i64 m.lb) ∧ w.drew.cell? ⟨X, 2, none⟩ = some (.int .i64 m.f) ∧ w.drew.cell? ⟨X, 3, none⟩ = some (.int .i64 m.used) := ⟨HD.out.cells.1, HD.out.cells.2.1, HD.out.cells.2.2.1, HD.out.cells.2.2.2.1⟩
  have BB : Hid (Below w.heap.size w w.drew) := Lib.hid ((Below.refl _ _).drew)
  unfold rm
  generalize GeoN.room m.b m.lb m.f m.used = q at *
  clear h hu
  go_enter Tryz.func51, Tryz.ntmps51
  go_upto_region 1 with (fail)
  go_region_held3 (fun W => W.cell? ⟨X, 0, none⟩ = some (.int .i64 m.b) ∧ W.cell? ⟨X, 1, none⟩ = some (.int .i64 m.lb) ∧ W.cell? ⟨X, 2, none⟩ = some (.int .i64 m.f) ∧ W.cell? ⟨X, 3, none⟩ = some (.int .i64 m.used))
    (exact hS) (first | (go_at_call 77; refine (HR.out _).mono ?_; rintro e w2 ⟨rfl, hb⟩; replace BB := Lib.hid (BB.out.trans (hb.mono BB.out.size)); replace HD := Lib.hid (HD.out.step hb); replace hS := And.intro HD.out.cells.1 (And.intro HD.out.cells.2.1 (And.intro HD.out.cells.2.2.1 HD.out.cells.2.2.2.1)); clear hb HR))
  go_wp2
  go_ret
  exact ⟨rfl, BB.out⟩
set_option maxRecDepth 100000 in
set_option maxHeartbeats 2000000 in
theorem there_ (h : Dm base X m ar cr av cv w) (e : Int) (cl : Bool) : Calls Tryz.prog 52 #[.pointer (some ⟨X, 0, none⟩), .int .i64 e, .bool cl] w fun x w' => x = .returned (.int .i64 (there m e cl)) ∧ w = w' := by
  have HE := Lib.hid (Epoch h)
  obtain ⟨_, _, c2, _⟩ := h.cells
  unfold there
  clear h
  generalize m.s.ep = ep at *
  by_cases h1 : e < m.f
  · rw [if_pos (.inl h1)]
    go_enter Tryz.func52, Tryz.ntmps52
    go_wp2
    go_ret
    exact ⟨rfl, rfl⟩
  by_cases h2 : ep < e
  · rw [if_pos (.inr h2)]
    go_enter Tryz.func52, Tryz.ntmps52
    go_wp2_with (go_at_call 30; refine HE.out.mono ?_; rintro e _ ⟨rfl, rfl⟩)
    go_ret
    exact ⟨rfl, rfl⟩
  rw [if_neg (show ¬ (e < m.f ∨ ep < e) by omega)]
  cases cl with
  | false =>
    rw [if_neg (by simp)]
    go_enter Tryz.func52, Tryz.ntmps52
    go_wp2_with (go_at_call 30; refine HE.out.mono ?_; rintro e _ ⟨rfl, rfl⟩)
    go_ret
    exact ⟨rfl, rfl⟩
  | true =>
    by_cases h3 : e = ep
    · rw [if_pos ⟨rfl, h3⟩]
      have t3 : (e == ep) = true := by simp [h3]
      clear h3
      go_enter Tryz.func52, Tryz.ntmps52
      go_wp2_with (go_at_call 30; refine HE.out.mono ?_; rintro e _ ⟨rfl, rfl⟩)
      go_ret
      exact ⟨rfl, rfl⟩
    · rw [if_neg (fun h => h3 h.2)]
      have t3 : (e == ep) = false := by simp [h3]
      clear h3
      go_enter Tryz.func52, Tryz.ntmps52
      go_wp2_with (go_at_call 30; refine HE.out.mono ?_; rintro e _ ⟨rfl, rfl⟩)
      go_ret
      exact ⟨rfl, rfl⟩
set_option maxRecDepth 100000 in
theorem tick_no (h : Dm base X m ar cr av cv w) (t : Int) (he : tkE m t ≠ 0) : Calls Tryz.prog 37 #[.pointer (some ⟨X, 0, none⟩), .int .i64 t] w fun x w' => x = .returned (.int .i64 (tkE m t)) ∧ w = w' := by
  obtain ⟨_, _, _, _, c4, _⟩ := h.cells
  clear h
  unfold tkE at he ⊢
  generalize m.ck = ck at *
  by_cases h1 : t < 0
  · rw [if_pos (.inl h1)]
    clear he
    go_enter Tryz.func37, Tryz.ntmps37
    go_wp2
    go_ret
    exact ⟨rfl, rfl⟩
  by_cases h2 : 1099511627776 < t
  · rw [if_pos (.inr h2)]
    clear he
    go_enter Tryz.func37, Tryz.ntmps37
    go_wp2
    go_ret
    exact ⟨rfl, rfl⟩
  rw [if_neg (show ¬ (t < 0 ∨ 1099511627776 < t) by omega)] at he ⊢
  by_cases h3 : t < ck
  · rw [if_pos h3]
    clear he
    go_enter Tryz.func37, Tryz.ntmps37
    go_wp2
    go_ret
    exact ⟨rfl, rfl⟩
  · rw [if_neg h3] at he; omega
theorem tick_turn (h : Dm base X m ar cr av cv w) (t : Int) (he : tkE m t = 0) : Turn base X m ar cr av cv { m with ck := t } w (w.setCell ⟨X, 4, none⟩ (.int .i64 t)) := by
  have hne : ∀ k, k ≠ X → (w.setCell ⟨X, 4, none⟩ (.int .i64 t)).heap[k]? = w.heap[k]? := fun k hk => Below.heap_setCell _ _ _ _ hk
  have hr : ∀ (e : TypeId) (v : Value) (n sz : Nat) (xs : List Value), w.ownsRow base e sz v n xs → e ≠ 74 → ∀ k, v.ownBlock = some k → k ≠ X := fun e v n sz xs ho hn k hk e1 => by
    rcases ho.2 with ⟨rfl, _⟩ | ⟨g, cap, cur, rfl, _, hh, _⟩
    · cases hk
    · have e2 : g = k := Option.some.inj hk
      rw [e2, e1, h.head] at hh
      injection hh with hh
      injection hh with _ hh
      exact hn hh.symm
  refine ⟨ar, cr, av, cv, ⟨blk_set h.head, own_kept h.rows fun k hk => hne k (hr _ _ _ _ _ h.rows (by decide) k hk), own_kept h.vrow fun k hk => hne k (hr _ _ _ _ _ h.vrow (by decide) k hk), ok_tick h.ok he⟩, fun k hk => .inl hk, rfl, rfl, rfl, by simp [World.setCell], fun k hk hn => hne k (fun e => hn (.inl e))⟩
set_option maxRecDepth 100000 in
theorem tick_yes (h : Dm base X m ar cr av cv w) (t : Int) (he : tkE m t = 0) : Calls Tryz.prog 37 #[.pointer (some ⟨X, 0, none⟩), .int .i64 t] w fun x w' => x = .returned (.int .i64 0) ∧ Turn base X m ar cr av cv { m with ck := t } w w' := by
  obtain ⟨_, _, _, _, c4, _⟩ := h.cells
  have f4 : w.frozen? ⟨X, 4, none⟩ = false := blk_free h.head
  have HT := Lib.hid (tick_turn h t he)
  unfold tkE at he
  clear h
  by_cases h1 : t < 0 ∨ 1099511627776 < t
  · rw [if_pos h1] at he; omega
  rw [if_neg h1] at he
  by_cases h3 : t < m.ck
  · rw [if_pos h3] at he; omega
  have h1a : ¬ t < 0 := by omega
  have h1b : ¬ 1099511627776 < t := by omega
  clear he h1
  go_enter Tryz.func37, Tryz.ntmps37
  go_wp2
  go_ret
  exact ⟨rfl, HT.out⟩
end
end Go.Proofs.YtopnodkdpehdoaaGreatDoor.MdD
