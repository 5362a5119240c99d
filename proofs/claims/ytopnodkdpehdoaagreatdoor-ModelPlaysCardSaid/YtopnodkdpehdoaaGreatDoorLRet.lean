/- RetC RetH RetP: one behind the other. -/
import Derived.Test.YtopnodkdpehdoaaGreatDoorLRn
import Derived.Test.YtopnodkdpehdoaaGreatDoorRecC
import Derived.Test.YtopnodkdpehdoaaGreatDoorLClo
import Derived.Maps.OwnSet
import Derived.Maps.RangeWalk
import Derived.WalkArith
import Derived.Test.YtopnodkdpehdoaaGreatDoorShelf
import Derived.Sort.OwnSorted
import Derived.OwnWalk
import Derived.Maps.AppendAt
import Derived.Test.YtopnodkdpehdoaaGreatDoorLRek
import Derived.Deep.RegionHeld3
/- A book in memory: its three maps, its block, its clock; what each map's lk-up, store and deletion do; what stays where a book is turned. No conditions but those that each lemma names. -/
namespace Go.Proofs.YtopnodkdpehdoaaGreatDoor.RetC
set_option linter.unusedVariables false
set_option maxRecDepth 100000
open Go.RowKit Go.Maps
open RecN RetN
open CloC (Ck)
abbrev DU := DataW Unit
abbrev dn (n : Int) : DU := .lit (.int .i64 n)
abbrev ki (n : Int) : Lit := .int .i64 n
abbrev ks (s : L) : Lit := .string s
abbrev Wf (n : Int) : Prop := (Lit.int .i64 n).wf = true
theorem wf_of {n : Int} (h : -9223372036854775808 ≤ n ∧ n ≤ 9223372036854775807) : Wf n := WalkArith.wf_i64 h
theorem lawI : Keyed Tryz.prog 3 := int_keyed Tryz.underlying3
theorem lawS : Keyed Tryz.prog 9 := string_keyed Tryz.underlying9
theorem zeroI (w : World) : (zeroValue 3).run Tryz.prog w = .ok (.int .i64 0) w := by kernel_rfl
theorem zeroU (w : World) : (zeroValue 136).run Tryz.prog w = .ok (.agg #[]) w := by kernel_rfl
theorem key_int {n : Int} (h : Wf n) : keyOf Tryz.prog 3 (.int .i64 n) = some (ki n) := keyOf_int_mk Tryz.underlying3 h
theorem key_str {s : L} (h : s.length ≤ maxLen) : keyOf Tryz.prog 9 (.string ⟨s.toArray⟩) = some (ks s) := by
  have := WideMaps.keyOf_string_mk (P := Tryz.prog) (k := 9) (s := ⟨s.toArray⟩) Tryz.underlying9 (by rw [RecC.size_mk]; exact h)
  simpa using this
theorem ki_ne {i j : Int} (h : i ≠ j) : ki i ≠ ki j := fun e => by
  injection e with _ e
  exact h e
theorem ks_ne {s t : L} (h : s ≠ t) : ks s ≠ ks t := fun e => by
  injection e with e
  exact h e
/-- A bound is how many there are. -/
theorem tight {P : Program} {k : TypeId} {R : Value → Option (DU × List MemPlace)} {w : World} {b n : Nat} {D : DU} (h : w.ownsMap P k R b n D) : w.ownsMap P k R b (Maps.size D) D := by
  obtain ⟨es, clock, hb, F, hs, hD⟩ := h
  refine ⟨es, clock, hb, F, ?_, hD⟩
  rw [hD]
  show es.size ≤ List.length _
  rw [length_read]
  exact Nat.le_refl _
theorem at_block {P : Program} {k : TypeId} {R : Value → Option (DU × List MemPlace)} {w w' : World} {b n : Nat} {D : DU} (h : w.ownsMap P k R b n D) (e : w'.heap[b]? = w.heap[b]?) : w'.ownsMap P k R b n D := by
  obtain ⟨es, clock, hb, r⟩ := h
  exact ⟨es, clock, e.trans hb, r⟩
/-- Each key is an epoch. -/
def Low (D : DU) : Prop := ∀ kl, Maps.has D kl = true → ∃ n : Int, kl = ki n ∧ 0 ≤ n ∧ n < ((4294967296 : Nat) : Int)
def numOf : Lit → Int
  | .int _ n => n
  | _ => 0
theorem low_size {P : Program} {k : TypeId} {R : Value → Option (DU × List MemPlace)} {w : World} {b n : Nat} {D : DU} (h : w.ownsMap P k R b n D) (K : Keyed P k) (hl : Low D) : Maps.size D ≤ 4294967296 := by
  obtain ⟨es, rfl, hpw, hkey⟩ := h.entries K
  have hk : ∀ p ∈ es, ∃ n : Int, p.1 = ki n ∧ 0 ≤ n ∧ n < ((4294967296 : Nat) : Int) := fun p hp =>
    hl p.1 (by rw [has_eq, List.any_eq_true]; exact ⟨p, hp, WideAt.sameKey_self (hkey p hp)⟩)
  rw [size_eq, ← List.length_map (f := fun p => numOf p.1)]
  have h1 : (es.map fun p => numOf p.1).Nodup := by
    refine List.pairwise_map.2 (hpw.imp_of_mem ?_)
    intro p q hp hq hne e
    refine hne ?_
    obtain ⟨i, hi, _⟩ := hk p hp
    obtain ⟨j, hj, _⟩ := hk q hq
    rw [hi, hj] at e ⊢
    exact congrArg ki e
  refine pigeon 4294967296 _ h1 ?_
  intro x hx
  obtain ⟨p, hp, rfl⟩ := List.mem_map.1 hx
  obtain ⟨i, hi, h0, h1⟩ := hk p hp
  rw [hi]
  exact ⟨h0, h1⟩
theorem low_put {D : DU} (hm : IsMap D) (h : Low D) {n : Int} (h0 : 0 ≤ n) (h1 : n ≤ 4294967295) (d : DU) : Low (D.put (ki n) d) := fun kl hk => by
  by_cases e : kl = ki n
  · exact ⟨n, e, h0, by omega⟩
  · rw [has_put_other e] at hk
    exact h kl hk
/-- Block M is a map of times by epochs. -/
def Mi (W : World) (M : Nat) (f : Int → Int) : Prop :=
  ∃ D, W.ownsMap Tryz.prog 3 (plainElem Tryz.prog 3) M 4294967296 D ∧ Low D ∧ ∀ n, D.atKey (ki n) (dn 0) = dn (f n)
/-- Block M is a set of epochs. -/
def Mu (W : World) (M : Nat) (g : Int → Bool) : Prop :=
  ∃ D, W.ownsMap Tryz.prog 3 (unitElem (H := Unit)) M 4294967296 D ∧ Low D ∧ ∀ n, Maps.has D (ki n) = g n
/-- Block M is a map of epochs by names. -/
def Mh (W : World) (M : Nat) (hs : List (L × Int)) : Prop :=
  Once hs ∧ hs.length ≤ 64 ∧ ∃ D, W.ownsMap Tryz.prog 9 (plainElem Tryz.prog 3) M 64 D ∧ Maps.size D = hs.length ∧ ∀ s, Maps.has D (ks s) = (lk hs s).isSome ∧ ∀ e, lk hs s = some e → ∀ zd, D.atKey (ks s) zd = dn e
theorem Mi.lt {W : World} {M : Nat} {f : Int → Int} (h : Mi W M f) : M < W.heap.size := by obtain ⟨D, h1, _⟩ := h; exact h1.lt
theorem Mu.lt {W : World} {M : Nat} {g : Int → Bool} (h : Mu W M g) : M < W.heap.size := by obtain ⟨D, h1, _⟩ := h; exact h1.lt
theorem Mh.lt {W : World} {M : Nat} {hs : List (L × Int)} (h : Mh W M hs) : M < W.heap.size := by obtain ⟨_, _, D, h1, _⟩ := h; exact h1.lt
theorem Mi.block {W W' : World} {M : Nat} {f : Int → Int} (h : Mi W M f) (e : W'.heap[M]? = W.heap[M]?) : Mi W' M f := by obtain ⟨D, h1, h2⟩ := h; exact ⟨D, at_block h1 e, h2⟩
theorem Mu.block {W W' : World} {M : Nat} {g : Int → Bool} (h : Mu W M g) (e : W'.heap[M]? = W.heap[M]?) : Mu W' M g := by obtain ⟨D, h1, h2⟩ := h; exact ⟨D, at_block h1 e, h2⟩
theorem Mh.block {W W' : World} {M : Nat} {hs : List (L × Int)} (h : Mh W M hs) (e : W'.heap[M]? = W.heap[M]?) : Mh W' M hs := by obtain ⟨o, l, D, h1, h2⟩ := h; exact ⟨o, l, D, at_block h1 e, h2⟩
theorem mi_new (w : World) : Mi (w.alloc (.map #[] 0)) w.heap.size (fun _ => 0) := ⟨.map [], (World.ownsMap_made w _ _ _).mono (Nat.zero_le _), fun kl hk => by simp [Maps.has] at hk, fun n => rfl⟩
theorem mu_new (w : World) : Mu (w.alloc (.map #[] 0)) w.heap.size (fun _ => false) := ⟨.map [], (World.ownsMap_made w _ _ _).mono (Nat.zero_le _), fun kl hk => by simp [Maps.has] at hk, fun n => rfl⟩
theorem mh_new (w : World) : Mh (w.alloc (.map #[] 0)) w.heap.size [] := ⟨by simp [Once], Nat.zero_le _, .map [], (World.ownsMap_made w _ _ _).mono (Nat.zero_le _), rfl, fun s => ⟨rfl, fun e he => by simp [lk] at he⟩⟩
/-- 'm[n]'. -/
theorem Mi.at_ {W : World} {M : Nat} {f : Int → Int} (h : Mi W M f) {n : Int} (hn : Wf n) : (Instr.lookup 100 (.map (some M)) (.int .i64 n) false).run Tryz.prog W = .ok (.int .i64 (f n)) W := by
  obtain ⟨D, h1, h2, h3⟩ := h
  obtain ⟨c, hr, hat, _⟩ := h1.lookup_int lawI Tryz.underlying100 Tryz.underlying3 (zeroI W) (key_int hn)
  rw [h3 n] at hat
  injection hat with hat
  injection hat with _ hat
  rw [hr, hat]
/-- '_, ok := m[n]'. -/
theorem Mu.at_ {W : World} {M : Nat} {g : Int → Bool} (h : Mu W M g) {n : Int} (hn : Wf n) : (Instr.lookup 102 (.map (some M)) (.int .i64 n) true).run Tryz.prog W = .ok (.tuple #[.agg #[], .bool (g n)]) W := by
  obtain ⟨D, h1, h2, h3⟩ := h
  obtain ⟨v, ps, hr, hv⟩ := h1.look_ok lawI Tryz.underlying102 (zeroU W) (unitElem_mk (H := Unit)) (key_int hn)
  obtain ⟨rfl, _⟩ := unitElem_inv hv
  rw [hr, h3 n]
/-- '_, ok := m[s]'. -/
theorem Mh.at_ {W : World} {M : Nat} {hs : List (L × Int)} (h : Mh W M hs) {s : L} (hl : s.length ≤ maxLen) : ∃ c : Int, (Instr.lookup 101 (.map (some M)) (.string ⟨s.toArray⟩) true).run Tryz.prog W = .ok (.tuple #[.int .i64 c, .bool (lk hs s).isSome]) W := by
  obtain ⟨_, _, D, h1, h2, h3⟩ := h
  obtain ⟨v, ps, hr, hv⟩ := h1.look_ok lawS Tryz.underlying101 (zeroI W) (plainElem_int Tryz.underlying3 (by decide)) (key_str hl)
  obtain ⟨c, rfl, _, _⟩ := plainElem_int_inv Tryz.underlying3 hv
  exact ⟨c, by rw [hr, (h3 s).1]⟩
/-- 'len(m)'. -/
theorem Mh.len_ {W : World} {M : Nat} {hs : List (L × Int)} (h : Mh W M hs) (ty : TypeId) : (Builtin.len_ #[101] ty #[.map (some M)]).run Tryz.prog W = .ok (.int .i64 (hs.length : Nat)) W := by
  obtain ⟨_, _, D, h1, h2, h3⟩ := h
  rw [h1.len Tryz.underlying101 ty, h2]
/-- 'm[n] = v'. -/
theorem Mi.put {W : World} {M : Nat} {f : Int → Int} (h : Mi W M f) {n v : Int} (h0 : 0 ≤ n) (h1 : n ≤ 4294967295) (hv : Wf v) :
    ∃ W', (Instr.mapUpdate 100 (.map (some M)) (.int .i64 n) (.int .i64 v)).run Tryz.prog W = .ok () W' ∧ Mi W' M (upd f n v) ∧ W.grownBy W' (some M) := by
  obtain ⟨D, k1, k2, k3⟩ := h
  obtain ⟨W', hr, h2, h3⟩ := k1.update lawI Tryz.underlying100 (by decide) (key_int (n := n) (wf_of (by omega))) (plainElem_int Tryz.underlying3 hv)
  have hl := low_put k1.isMap k2 h0 h1 (dn v)
  have kb : WideAt.IsKeyLit (ki n) := trivial
  refine ⟨W', hr, ⟨_, (tight h2).mono (low_size h2 lawI hl), hl, fun i => ?_⟩, h3⟩
  by_cases e : i = n
  · rw [e, upd_at]
    exact atKey_put_same k1.isMap kb _ _
  · rw [upd_other _ _ e, atKey_put_other (ki_ne e)]
    exact k3 i
/-- 'm[n] = struct{}{}'. -/
theorem Mu.put {W : World} {M : Nat} {g : Int → Bool} (h : Mu W M g) {n : Int} (h0 : 0 ≤ n) (h1 : n ≤ 4294967295) :
    ∃ W', (Instr.mapUpdate 102 (.map (some M)) (.int .i64 n) (.agg #[])).run Tryz.prog W = .ok () W' ∧ Mu W' M (upd g n true) ∧ W.grownBy W' (some M) := by
  obtain ⟨D, k1, k2, k3⟩ := h
  obtain ⟨W', hr, h2, h3⟩ := k1.update lawI Tryz.underlying102 (by decide) (key_int (n := n) (wf_of (by omega))) (unitElem_mk (H := Unit))
  have hl := low_put k1.isMap k2 h0 h1 (.agg [])
  have kb : WideAt.IsKeyLit (ki n) := trivial
  refine ⟨W', hr, ⟨_, (tight h2).mono (low_size h2 lawI hl), hl, fun i => ?_⟩, h3⟩
  by_cases e : i = n
  · rw [e, upd_at]
    exact has_put_same k1.isMap kb _
  · rw [upd_other _ _ e, has_put_other (ki_ne e)]
    exact k3 i
/-- 'm[s] = n', of a name that holds nothing yet. -/
theorem Mh.put {W : World} {M : Nat} {hs : List (L × Int)} (h : Mh W M hs) {s : L} (hs0 : lk hs s = none) (hlt : hs.length < 64) (hl : s.length ≤ maxLen) {n : Int} (hv : Wf n) :
    ∃ W', (Instr.mapUpdate 101 (.map (some M)) (.string ⟨s.toArray⟩) (.int .i64 n)).run Tryz.prog W = .ok () W' ∧ Mh W' M (hs ++ [(s, n)]) ∧ W.grownBy W' (some M) := by
  obtain ⟨ho, hle, D, k1, k2, k3⟩ := h
  obtain ⟨W', hr, h2, h3⟩ := k1.update lawS Tryz.underlying101 (by decide) (key_str hl) (plainElem_int Tryz.underlying3 hv)
  have kb : WideAt.IsKeyLit (ks s) := trivial
  have hz : Maps.size (D.put (ks s) (dn n)) = (hs ++ [(s, n)]).length := by
    rw [size_put (k1.tidy lawS), (k3 s).1, hs0, k2, List.length_append]
    rfl
  refine ⟨W', hr, ⟨once_snoc ho n hs0, by rw [List.length_append]; simp; omega, _, (tight h2).mono (by rw [hz, List.length_append]; simp; omega), hz, fun t => ?_⟩, h3⟩
  rw [lk_snoc _ _ _ hs0]
  by_cases e : t = s
  · rw [e, if_pos rfl]
    refine ⟨has_put_same k1.isMap kb _, fun c hc zd => ?_⟩
    injection hc with hc
    rw [← hc]
    exact atKey_put_same k1.isMap kb _ _
  · rw [if_neg e]
    refine ⟨(has_put_other (ks_ne e) _).trans (k3 t).1, fun c hc zd => ?_⟩
    exact (atKey_put_other (ks_ne e) _ _).trans ((k3 t).2 c hc zd)
/-- 'delete(m, s)'. -/
theorem Mh.del_ {W : World} {M : Nat} {hs : List (L × Int)} (h : Mh W M hs) {s : L} (hl : s.length ≤ maxLen) :
    ∃ W', (∀ ty, (Builtin.delete_ #[101, 9] ty #[.map (some M), .string ⟨s.toArray⟩]).run Tryz.prog W = .ok (.tuple #[]) W') ∧ Mh W' M (del hs s) ∧ W.grownBy W' (some M) := by
  obtain ⟨ho, hle, D, k1, k2, k3⟩ := h
  obtain ⟨W', hr, h2, h3⟩ := k1.drop lawS Tryz.underlying101 (key_str hl) 0
  have hz : Maps.size (D.del (ks s)) = (del hs s).length := by
    have := size_del (k := ks s) (k1.tidy lawS)
    rw [(k3 s).1, k2] at this
    have := del_len ho s
    omega
  refine ⟨W', fun ty => hr, ⟨once_del ho s, Nat.le_trans (del_le hs s) hle, _, h2, hz, fun t => ?_⟩, h3.grown⟩
  rw [lk_del]
  by_cases e : t = s
  · rw [e, if_pos rfl]
    exact ⟨has_del_same, fun c hc => by cases hc⟩
  · rw [if_neg e]
    refine ⟨(has_del_other (ks_ne e)).trans (k3 t).1, fun c hc zd => ?_⟩
    exact (atKey_del_other (ks_ne e) _).trans ((k3 t).2 c hc zd)
/-- Where a book lies: its own block, the inner one, the clock's, the three maps'. -/
structure Pl where
  b : Nat
  c : Nat
  k : Nat
  u : Nat
  h : Nat
  g : Nat
def Pl.has (A : Pl) (i : Nat) : Prop := i = A.b ∨ i = A.c ∨ i = A.k ∨ i = A.u ∨ i = A.h ∨ i = A.g
def Pl.from_ (A : Pl) (n : Nat) : Prop := n ≤ A.b ∧ n ≤ A.c ∧ n ≤ A.k ∧ n ≤ A.u ∧ n ≤ A.h ∧ n ≤ A.g
theorem Pl.from_.le {A : Pl} {n : Nat} (h : A.from_ n) {i : Nat} (hi : A.has i) : n ≤ i := by
  obtain ⟨h1, h2, h3, h4, h5, h6⟩ := h
  rcases hi with rfl | rfl | rfl | rfl | rfl | rfl <;> assumption
/-- The inner book. -/
structure In (A : Pl) (s : St) (W : World) : Prop where
  body : W.heap[A.c]? = some (.cells #[.pointer (some ⟨A.k, 0, none⟩), .int .i64 s.first, .int .i64 s.ep, .map (some A.u), .map (some A.h), .map (some A.g)] 104 (0, 0))
  ck : Ck W A.k 0 true s.now
  u : Mi W A.u s.un
  h : Mh W A.h s.hs
  g : Mu W A.g s.gone
  ne : A.c ≠ A.k ∧ A.u ≠ A.h ∧ A.u ≠ A.g ∧ A.h ≠ A.g
structure Book (A : Pl) (s : St) (W : World) : Prop where
  top : W.heap[A.b]? = some (.cells #[.pointer (some ⟨A.c, 0, none⟩)] 106 (0, 0))
  in_ : In A s W
  nb : A.b ≠ A.c ∧ A.b ≠ A.k
theorem In.lt {A : Pl} {s : St} {W : World} (h : In A s W) : A.c < W.heap.size := (Array.getElem?_eq_some_iff.1 h.body).1
theorem Book.lt {A : Pl} {s : St} {W : World} (h : Book A s W) : A.b < W.heap.size := (Array.getElem?_eq_some_iff.1 h.top).1
theorem In.step {A : Pl} {s : St} {W W' : World} (h : In A s W) (hb : Below W.heap.size W W') : In A s W' :=
  ⟨(hb.block _ h.lt).trans h.body, h.ck.step hb, h.u.block (hb.block _ h.u.lt), h.h.block (hb.block _ h.h.lt), h.g.block (hb.block _ h.g.lt), h.ne⟩
theorem Book.step {A : Pl} {s : St} {W W' : World} (h : Book A s W) (hb : Below W.heap.size W W') : Book A s W' := ⟨(hb.block _ h.lt).trans h.top, h.in_.step hb, h.nb⟩
theorem In.cells {A : Pl} {s : St} {W : World} (h : In A s W) : W.cell? ⟨A.c, 0, none⟩ = some (.pointer (some ⟨A.k, 0, none⟩)) ∧ W.cell? ⟨A.c, 1, none⟩ = some (.int .i64 s.first) ∧ W.cell? ⟨A.c, 2, none⟩ = some (.int .i64 s.ep) ∧ W.cell? ⟨A.c, 3, none⟩ = some (.map (some A.u)) ∧ W.cell? ⟨A.c, 4, none⟩ = some (.map (some A.h)) ∧ W.cell? ⟨A.c, 5, none⟩ = some (.map (some A.g)) :=
  ⟨blk_cell h.body rfl, blk_cell h.body rfl, blk_cell h.body rfl, blk_cell h.body rfl, blk_cell h.body rfl, blk_cell h.body rfl⟩
theorem Book.cell {A : Pl} {s : St} {W : World} (h : Book A s W) : W.cell? ⟨A.b, 0, none⟩ = some (.pointer (some ⟨A.c, 0, none⟩)) := blk_cell h.top rfl
theorem mi_is {W : World} {M : Nat} {f : Int → Int} (h : Mi W M f) : ∃ es k, W.heap[M]? = some (.map es k) := by obtain ⟨D, ⟨es, k, hb, _⟩, _⟩ := h; exact ⟨es, k, hb⟩
theorem mu_is {W : World} {M : Nat} {g : Int → Bool} (h : Mu W M g) : ∃ es k, W.heap[M]? = some (.map es k) := by obtain ⟨D, ⟨es, k, hb, _⟩, _⟩ := h; exact ⟨es, k, hb⟩
theorem mh_is {W : World} {M : Nat} {hs : List (L × Int)} (h : Mh W M hs) : ∃ es k, W.heap[M]? = some (.map es k) := by obtain ⟨_, _, D, ⟨es, k, hb, _⟩, _⟩ := h; exact ⟨es, k, hb⟩
theorem ne_of {W : World} {i M : Nat} {cs : Array Value} {t : TypeId} {f : Nat × Nat} (h : W.heap[i]? = some (.cells cs t f)) (k : ∃ es k, W.heap[M]? = some (.map es k)) : i ≠ M := fun e => by
  obtain ⟨es, c, k⟩ := k
  rw [e, k] at h
  cases h
/-- All but a book's blocks is as it was. -/
structure Tu (A : Pl) (w w' : World) : Prop where
  os : w'.os = w.os
  tape : w'.tape = w.tape
  output : w'.output = w.output
  size : w.heap.size ≤ w'.heap.size
  block : ∀ k, k < w.heap.size → ¬ A.has k → w'.heap[k]? = w.heap[k]?
theorem Tu.of_below {A : Pl} {w w' : World} (h : Below w.heap.size w w') : Tu A w w' := ⟨h.os, h.tape, h.output, h.size, fun k hk _ => h.block k hk⟩
theorem Tu.trans {A : Pl} {u v w : World} (h : Tu A u v) (k : Tu A v w) : Tu A u w :=
  ⟨k.os.trans h.os, k.tape.trans h.tape, k.output.trans h.output, Nat.le_trans h.size k.size, fun i hi hb => (k.block i (Nat.lt_of_lt_of_le hi h.size) hb).trans (h.block i hi hb)⟩
theorem Tu.of_grown {A : Pl} {w w' : World} {M : Nat} (h : w.grownBy w' (some M)) (hM : A.has M) : Tu A w w' :=
  ⟨h.os, h.tape, h.output, h.size, fun k hk hn => h.block k hk (fun e => hn (by injection e with e; rw [e]; exact hM))⟩
theorem Tu.of_but {A : Pl} {w w' : World} {M : Nat} (h : CloC.But M w w') (hM : A.has M) : Tu A w w' :=
  ⟨h.os, h.tape, h.output, h.size, fun k hk hn => h.block k hk (fun e => hn (by rw [e]; exact hM))⟩
theorem Tu.below {A : Pl} {w w' : World} {n : Nat} (h : Tu A w w') (hA : A.from_ n) (hn : n ≤ w.heap.size) : Below n w w' :=
  ⟨h.os, h.tape, h.output, h.size, fun k hk => h.block k (by omega) (fun e => by have := hA.le e; omega)⟩
/-- A pointer to none, or to a book that no call made. -/
def Non (W : World) (p : Option Addr) : Prop := p = none ∨ ∃ B, p = some ⟨B, 0, none⟩ ∧ W.heap[B]? = some (.cells #[.pointer none] 106 (0, 0))
theorem Non.step {W W' : World} {p : Option Addr} (h : Non W p) (hb : Below W.heap.size W W') : Non W' p := by
  rcases h with h | ⟨B, h, k⟩
  · exact .inl h
  · exact .inr ⟨B, h, (hb.block B (Array.getElem?_eq_some_iff.1 k).1).trans k⟩
end Go.Proofs.YtopnodkdpehdoaaGreatDoor.RetC
/- The names that hold an epoch: the walk of held's text, through whatever order the map is gone through in, and the library's sort. No conditions. -/
namespace Go.Proofs.YtopnodkdpehdoaaGreatDoor.RetH
set_option linter.unusedVariables false
open Go.RowKit Go.Maps Go.Sort
open RecN RetN RetC
theorem info_str : (Tryz.prog.info? 9).map (fun i => (i.zero, i.size, i.bytes)) = some (some (.string ⟨#[]⟩), 1, 16) := by kernel_rfl
theorem own_nil (w : World) (base : Nat) (t : TypeId) : w.ownsRow base t 1 (.slice none 0 0) 0 [] := ⟨rfl, .inl ⟨rfl, rfl⟩⟩
theorem inK : ∀ key kl, keyOf Tryz.prog 9 key = some kl → ∃ x : L, key = encStr x := fun key kl hk => by obtain ⟨x, hx, _⟩ := Maps.keyOf_str Tryz.underlying9 hk; exact ⟨x, hx⟩
theorem inV : ∀ (v : Value) (y : DU × List MemPlace), plainElem Tryz.prog 3 v = some y → ∃ c : Int, v = Value.int .i64 c := fun v y hv => by obtain ⟨c, rfl, _⟩ := plainElem_int_inv Tryz.underlying3 hv; exact ⟨c, rfl⟩
/-- What holds an epoch, as a slice of the call's own. -/
def Names (base : Nat) (l : List L) (e : Ending) (w' : World) : Prop := ∃ a c, e = .returned (.slice a l.length c) ∧ w'.ownsRow base 9 1 (.slice a l.length c) l.length (l.map encStr)
set_option maxRecDepth 100000 in
set_option maxHeartbeats 2000000 in
theorem held (A : Pl) (s : St) (e : Int) (w : World) (h : In A s w) : Calls Tryz.prog 132 #[.pointer (some ⟨A.c, 0, none⟩), .int .i64 e] w fun x w' => Names w.heap.size (heldL s.hs e) x w' ∧ Below w.heap.size w w' := by
  obtain ⟨i0, hi, hz0, hz1, hz2⟩ := info_parts info_str
  obtain ⟨ho, hle, D, hown, hsz, hat⟩ := h.h
  obtain ⟨_, _, _, _, k4, _⟩ := h.cells
  have hbl := hown.lt
  have HAT := Lib.hid hat
  have HO := Lib.hid ho
  generalize s.hs = hs at *
  clear h hat ho
  go_enter Tryz.func132, Tryz.ntmps132
  go_wp2_with (first
    | (at_range; refine wpList_range_own _ rfl _ 101 rfl 9 3 lawS Tryz.underlying101 _ A.h 64 D rfl hown ?_; intro w0 hrg0 hg0 hs0)
    | go_in)
  go_frame
  go_loopw [5] (fun v wr => ∃ (left : Lit → Bool) (cnt : Nat) (ss : List L), wr.ranges Tryz.prog 9 (plainElem Tryz.prog 3) A.h w.heap.size 64 D left cnt ∧ ss.length + cnt ≤ 64 ∧
      wr.ownsRow w.heap.size 9 1 v ss.length (ss.map encStr) ∧ Got hs e left ss ∧ Below w.heap.size w wr)
    (fun _ wr => wr.rangeLeft A.h w.heap.size)
  case atStart =>
    exact ⟨_, _, [], hrg0, by simp; omega, own_nil _ _ _, Got.start fun x => (HAT.out x).1, (Below.refl _ _).grown hg0 (Nat.le_refl _) (fun j hj => by cases hj)⟩
  case round =>
    obtain ⟨left, cnt, ss, hrg, hcs, hrow, hC, hnx⟩ := hrel
    have HC := Lib.hid hC
    clear hC
    go_wp2_with (first
      | (at_next; refine wpList_next_ranges _ rfl _ rfl 9 lawS (plainElem Tryz.prog 3) encStr (Value.int .i64) inK inV A.h w.heap.size 64 _ _ _ rfl hrg ?_ ?_)
      | go_in)
    · intro hc0 hl0
      have HE := Lib.hid (HC.out.perm HO.out hl0)
      rcases hrow.2 with ⟨rfl, h0⟩ | ⟨g, cap, cur, rfl, hbase, hb, h1, h2, h3, h4⟩
      · obtain rfl : ss = [] := List.eq_nil_of_length_eq_zero h0
        have HS := Lib.hid (Tryz.slices_Sort_string_none none 0 wr)
        go_wp2_with (go_at_call 135; refine HS.out.mono ?_; rintro e1 w' ⟨rfl, rfl⟩)
        go_ret
        have el : heldL hs e = [] := by rw [← HE.out]; simp
        rw [el]
        exact ⟨⟨none, 0, rfl, own_nil _ _ _⟩, hnx⟩
      · have hH : Holds encStr wr g 0 ss.toArray := holds_of_block hb (by simpa using h4)
        have hgl : g < wr.heap.size := (Array.getElem?_eq_some_iff.1 hb).1
        have HS := Lib.hid (Tryz.slices_Sort_string g 0 cap ss wr hH hgl (by omega))
        go_wp2_with (go_at_call 135; refine HS.out.mono ?_; rintro e1 w' ⟨rfl, nn, os, rfl⟩)
        go_ret
        have el : (heldL hs e).length = ss.length := by rw [← HE.out]; simp
        refine ⟨⟨some ⟨g, 0, none⟩, cap, by rw [el]; rfl, ?_⟩, hnx.grown (grownBy_sorted _) hnx.size (fun j hj => by cases hj; exact hbase)⟩
        rw [el, ← HE.out]
        exact ownsRow_sorted (by simp) hbase hb h1 h2 h3
    · intro x c kl yd yp w2 cnt2 hkey hlk hv hax hrg2 hlt hg2 hs2 hen
      obtain ⟨x', ex, rfl, _⟩ := Maps.keyOf_str Tryz.underlying9 hkey
      obtain rfl : x = x' := encStr_inj ex
      have hx : lk hs x = some c := by
        obtain ⟨c', hc1, hc2, _⟩ := plainElem_int_inv Tryz.underlying3 hv
        injection hc1 with _ hc1
        subst hc1
        have hyd : yd = dn c := (Prod.mk.inj hc2).1
        have h1 := (HAT.out x).1
        rw [has_true_of_atKey hax] at h1
        cases hd : lk hs x with
        | none => rw [hd] at h1; cases h1
        | some d =>
          have h2 := (HAT.out x).2 d hd (dn 0)
          rw [hax, hyd] at h2
          injection h2 with h2
          injection h2 with _ h2
          rw [h2]
      have hrow2 := hrow.kept hg2 (Or.inr (row_ne_iter hrow hrg).symm)
      clear hs2 hkey hv hax ex
      by_cases hce : c = e
      · have hq : (c == e) = true := by simp [hce]
        have HG := Lib.hid (HC.out.yes hlk (hx.trans (congrArg some hce)))
        clear hce hlk hx
        go_wp2_with (first
          | (at_builtin; refine wpList_append_own _ rfl _ _ 115 rfl w.heap.size 9 i0 (.string ⟨#[]⟩) 1 16 Tryz.underlying115 hi hz0 hz1 hz2 rfl (by decide) _ _ _ rfl (hrow2.alloc _) ⟨w2.heap.size, 0, none⟩ 1 1 [encStr x] rfl rfl (cell_one_new _ _ _) (by simp [Value.oneCell', encStr]) (by unfold maxLen at *; omega) (by omega) (by have := hnx.size; have := hg2.size; simp; omega) ?_; intro v' w3 hown' hg3 hnil3; go_frame)
          | go_in)
        have hrg3 := (hrg2.alloc _).kept hg3 (row_ne_low hrow2 hbl) (row_ne_iter hrow2 hrg2)
        go_roundw
        case rel =>
          refine ⟨_, cnt2, ss ++ [x], hrg3, by simp; omega, by simpa using hown', HG.out, ?_⟩
          exact ((hnx.grown hg2 hnx.size (fun j hj => by cases hj; exact Nat.le_refl _)).alloc (by have := hnx.size; have := hg2.size; omega) _).grown hg3 (by have := hnx.size; have := hg2.size; simp; omega) (fun j hj => (hrow2.lt j hj).1)
        case measure => rw [hrg3.left_eq, hrg.left_eq]; exact hlt
      · have hq : (c == e) = false := by simp [hce]
        have HG := Lib.hid (HC.out.no (x := x) (fun e1 => hce (Option.some.inj (hx.symm.trans e1))))
        clear hce hlk hx
        go_wp2_with go_in
        go_roundw
        case rel =>
          exact ⟨_, cnt2, ss, hrg2, by omega, hrow2, HG.out, hnx.grown hg2 hnx.size (fun j hj => by cases hj; exact Nat.le_refl _)⟩
        case measure => rw [hrg2.left_eq, hrg.left_eq]; exact hlt
end Go.Proofs.YtopnodkdpehdoaaGreatDoor.RetH
/- Why a record is refused: the walks of the inner book's texts that only ask. No conditions but those that each lemma names. -/
namespace Go.Proofs.YtopnodkdpehdoaaGreatDoor.RetP
set_option linter.unusedVariables false
open Go.RowKit Go.Maps
open RecN RecC RetN RetC RetH
theorem In.drew {A : Pl} {s : St} {W : World} (h : In A s W) : In A s W.drew := ⟨h.body, h.ck, h.u.block rfl, h.h.block rfl, h.g.block rfl, h.ne⟩
set_option maxRecDepth 100000 in
theorem isPurged (A : Pl) (s : St) (e : Int) (w : World) (h : In A s w) (hw : Wf e) : Calls Tryz.prog 65 #[.pointer (some ⟨A.c, 0, none⟩), .int .i64 e] w fun x w' => x = .returned (.bool (s.gone e)) ∧ Below w.heap.size w w' := by
  have hr := h.g.at_ hw
  obtain ⟨_, _, _, _, _, k5⟩ := h.cells
  generalize s.gone e = q at *
  clear h
  go_enter Tryz.func65, Tryz.ntmps65
  go_wp2
  go_ret
  exact ⟨rfl, below_new w _⟩
set_option maxRecDepth 100000 in
theorem hasHold (A : Pl) (s : St) (n : L) (w : World) (h : In A s w) (hl : n.length ≤ maxLen) : Calls Tryz.prog 131 #[.pointer (some ⟨A.c, 0, none⟩), .string ⟨n.toArray⟩] w fun x w' => x = .returned (.bool (lk s.hs n).isSome) ∧ w = w' := by
  obtain ⟨c, hr⟩ := h.h.at_ hl
  obtain ⟨_, _, _, _, k4, _⟩ := h.cells
  generalize (lk s.hs n).isSome = q at *
  clear h
  go_enter Tryz.func131, Tryz.ntmps131
  go_wp2
  go_ret
  exact ⟨rfl, rfl⟩
set_option maxRecDepth 100000 in
theorem mayMean (A : Pl) (s : St) (t : Int) (w : World) (h : In A s w) (hw : Wf t) : Calls Tryz.prog 130 #[.pointer (some ⟨A.c, 0, none⟩), .int .i64 t] w fun x w' => x = .returned (.int .i64 (mean s t)) ∧ Below w.heap.size w w' := by
  have HP := Lib.hid (isPurged A s t w h hw)
  obtain ⟨_, k1, _⟩ := h.cells
  unfold mean
  clear h
  by_cases h1 : t < s.first
  · rw [if_pos h1]
    generalize s.first = f at *
    go_enter Tryz.func130, Tryz.ntmps130
    go_wp2
    go_ret
    exact ⟨rfl, Below.refl _ _⟩
  · rw [if_neg h1]
    generalize s.first = f at *
    generalize s.gone t = q at *
    cases q
    all_goals
      go_enter Tryz.func130, Tryz.ntmps130
      go_wp2_with (go_at_call 65; refine HP.out.mono ?_; rintro e w2 ⟨rfl, hb⟩; have BB := Lib.hid hb; clear hb)
      go_ret
      exact ⟨rfl, BB.out⟩
/-- What stands while a function runs that was given a book and a record. -/
structure Wr (A : Pl) (s : St) (r : Rec) (w W : World) : Prop where
  ws : Ws w r W
  i : In A s W
theorem wr_new {A : Pl} {s : St} {w : World} (h : In A s w) (r : Rec) : Wr A s r w (w.alloc (.cells #[.int .i64 r.k, .int .i64 r.ep, .int .i64 r.tm, .int .i64 r.ct, .int .i64 r.tg, .int .i64 r.un, .string ⟨r.rt.toArray⟩, .string ⟨r.nm.toArray⟩] 82)) := ⟨ws_new w r, h.step (ws_new w r).bel⟩
theorem Wr.step {A : Pl} {s : St} {r : Rec} {w W W' : World} (h : Wr A s r w W) (hb : Below W.heap.size W W') : Wr A s r w W' := ⟨h.ws.step hb, h.i.step hb⟩
theorem Wr.drew {A : Pl} {s : St} {r : Rec} {w W : World} (h : Wr A s r w W) : Wr A s r w W.drew := ⟨h.ws.drew, In.drew h.i⟩
set_option maxRecDepth 100000 in
set_option maxHeartbeats 2000000 in
theorem mayRetain (A : Pl) (s : St) (r : Rec) (w : World) (h : In A s w) (hw : Wf r.tg) : Calls Tryz.prog 122 #[.pointer (some ⟨A.c, 0, none⟩), .agg #[.int .i64 r.k, .int .i64 r.ep, .int .i64 r.tm, .int .i64 r.ct, .int .i64 r.tg, .int .i64 r.un, .string ⟨r.rt.toArray⟩, .string ⟨r.nm.toArray⟩]] w fun x w' => x = .returned (.int .i64 (mayR s r)) ∧ Below w.heap.size w w' := by
  obtain ⟨W1, hW1⟩ : ∃ W1, W1 = w.alloc (.cells #[.int .i64 r.k, .int .i64 r.ep, .int .i64 r.tm, .int .i64 r.ct, .int .i64 r.tg, .int .i64 r.un, .string ⟨r.rt.toArray⟩, .string ⟨r.nm.toArray⟩] 82) := ⟨_, rfl⟩
  have SS : Hid (Wr A s r w W1) := Lib.hid (by rw [hW1]; exact wr_new h r)
  have HM := Lib.hid (fun W h => mayMean A s r.tg W h hw)
  have HW := Lib.hid hw
  obtain ⟨k0, k1, k2, k3, k4, k5, k6, k7⟩ := SS.out.ws.k.cells
  unfold mayR
  clear h hw
  generalize mean s r.tg = m at *
  by_cases hm : m = 0
  · rw [if_neg (by omega)]
    have hq : (m != 0) = false := by simp [hm]
    by_cases hu : r.un < s.un r.tg
    · rw [if_pos hu]
      go_enter Tryz.func122, Tryz.ntmps122
      go_upto_region 1 with (fail)
      rw [← hW1]
      clear hW1
      go_wp2_with (go_at_call 130; refine (HM.out _ SS.out.i).mono ?_; rintro e w2 ⟨rfl, hb⟩; replace SS := Lib.hid (SS.out.step hb); obtain ⟨k0, k1, k2, k3, k4, k5, k6, k7⟩ := SS.out.ws.k.cells; clear hb HM)
      replace SS := Lib.hid SS.out.drew
      have hr := SS.out.i.u.at_ HW.out
      have hS := And.intro SS.out.i.cells.2.2.2.1 SS.out.ws.k.cells
      go_region_held3 (fun W => W.cell? ⟨A.c, 3, none⟩ = some (.map (some A.u)) ∧ W.cell? ⟨w.heap.size, 0, none⟩ = some (.int .i64 r.k) ∧ W.cell? ⟨w.heap.size, 1, none⟩ = some (.int .i64 r.ep) ∧ W.cell? ⟨w.heap.size, 2, none⟩ = some (.int .i64 r.tm) ∧ W.cell? ⟨w.heap.size, 3, none⟩ = some (.int .i64 r.ct) ∧ W.cell? ⟨w.heap.size, 4, none⟩ = some (.int .i64 r.tg) ∧ W.cell? ⟨w.heap.size, 5, none⟩ = some (.int .i64 r.un) ∧ W.cell? ⟨w.heap.size, 6, none⟩ = some (.string ⟨r.rt.toArray⟩) ∧ W.cell? ⟨w.heap.size, 7, none⟩ = some (.string ⟨r.nm.toArray⟩))
        (exact hS) (fail)
      obtain ⟨k0, k1, k2, k3, k4, k5, k6, k7⟩ := SS.out.ws.k.cells
      go_wp2
      go_ret
      exact ⟨rfl, SS.out.ws.bel⟩
    · rw [if_neg hu]
      go_enter Tryz.func122, Tryz.ntmps122
      go_upto_region 1 with (fail)
      rw [← hW1]
      clear hW1
      go_wp2_with (go_at_call 130; refine (HM.out _ SS.out.i).mono ?_; rintro e w2 ⟨rfl, hb⟩; replace SS := Lib.hid (SS.out.step hb); obtain ⟨k0, k1, k2, k3, k4, k5, k6, k7⟩ := SS.out.ws.k.cells; clear hb HM)
      replace SS := Lib.hid SS.out.drew
      have hr := SS.out.i.u.at_ HW.out
      have hS := And.intro SS.out.i.cells.2.2.2.1 SS.out.ws.k.cells
      go_region_held3 (fun W => W.cell? ⟨A.c, 3, none⟩ = some (.map (some A.u)) ∧ W.cell? ⟨w.heap.size, 0, none⟩ = some (.int .i64 r.k) ∧ W.cell? ⟨w.heap.size, 1, none⟩ = some (.int .i64 r.ep) ∧ W.cell? ⟨w.heap.size, 2, none⟩ = some (.int .i64 r.tm) ∧ W.cell? ⟨w.heap.size, 3, none⟩ = some (.int .i64 r.ct) ∧ W.cell? ⟨w.heap.size, 4, none⟩ = some (.int .i64 r.tg) ∧ W.cell? ⟨w.heap.size, 5, none⟩ = some (.int .i64 r.un) ∧ W.cell? ⟨w.heap.size, 6, none⟩ = some (.string ⟨r.rt.toArray⟩) ∧ W.cell? ⟨w.heap.size, 7, none⟩ = some (.string ⟨r.nm.toArray⟩))
        (exact hS) (fail)
      obtain ⟨k0, k1, k2, k3, k4, k5, k6, k7⟩ := SS.out.ws.k.cells
      go_wp2
      go_ret
      exact ⟨rfl, SS.out.ws.bel⟩
  · rw [if_pos hm]
    have hq : (m != 0) = true := by simp [hm]
    go_enter Tryz.func122, Tryz.ntmps122
    go_upto_region 1 with (fail)
    rw [← hW1]
    clear hW1
    go_wp2_with (go_at_call 130; refine (HM.out _ SS.out.i).mono ?_; rintro e w2 ⟨rfl, hb⟩; replace SS := Lib.hid (SS.out.step hb); obtain ⟨k0, k1, k2, k3, k4, k5, k6, k7⟩ := SS.out.ws.k.cells; clear hb HM)
    go_ret
    exact ⟨rfl, SS.out.ws.bel⟩
set_option maxRecDepth 100000 in
set_option maxHeartbeats 2000000 in
theorem mayHold (A : Pl) (s : St) (r : Rec) (w : World) (h : In A s w) (hw : Wf r.tg) (hl : r.nm.length ≤ maxLen) : Calls Tryz.prog 123 #[.pointer (some ⟨A.c, 0, none⟩), .agg #[.int .i64 r.k, .int .i64 r.ep, .int .i64 r.tm, .int .i64 r.ct, .int .i64 r.tg, .int .i64 r.un, .string ⟨r.rt.toArray⟩, .string ⟨r.nm.toArray⟩]] w fun x w' => x = .returned (.int .i64 (mayH s r)) ∧ Below w.heap.size w w' := by
  obtain ⟨W1, hW1⟩ : ∃ W1, W1 = w.alloc (.cells #[.int .i64 r.k, .int .i64 r.ep, .int .i64 r.tm, .int .i64 r.ct, .int .i64 r.tg, .int .i64 r.un, .string ⟨r.rt.toArray⟩, .string ⟨r.nm.toArray⟩] 82) := ⟨_, rfl⟩
  have SS : Hid (Wr A s r w W1) := Lib.hid (by rw [hW1]; exact wr_new h r)
  have HM := Lib.hid (fun W h => mayMean A s r.tg W h hw)
  have HH := Lib.hid (fun W h => hasHold A s r.nm W h hl)
  obtain ⟨k0, k1, k2, k3, k4, k5, k6, k7⟩ := SS.out.ws.k.cells
  unfold mayH
  clear h hw hl
  generalize mean s r.tg = m at *
  by_cases hm : m = 0
  · rw [if_neg (by omega)]
    have hq : (m != 0) = false := by simp [hm]
    generalize (lk s.hs r.nm).isSome = q at *
    cases q
    · rw [if_neg (by simp)]
      by_cases hz : 64 ≤ s.hs.length
      · rw [if_pos hz]
        go_enter Tryz.func123, Tryz.ntmps123
        go_upto_region 1 with (fail)
        rw [← hW1]
        clear hW1
        go_wp2_with (first | (go_at_call 130; refine (HM.out _ SS.out.i).mono ?_; rintro e w2 ⟨rfl, hb⟩; replace SS := Lib.hid (SS.out.step hb); obtain ⟨k0, k1, k2, k3, k4, k5, k6, k7⟩ := SS.out.ws.k.cells; clear hb HM) | (go_at_call 131; refine (HH.out _ SS.out.i).mono ?_; rintro e _ ⟨rfl, rfl⟩; have kk := SS.out.i.cells.2.2.2.2.1; have hn := SS.out.i.h.len_; have hz' : (64 : Int) ≤ (s.hs.length : Int) := (by omega); clear HH))
        go_ret
        exact ⟨rfl, SS.out.ws.bel⟩
      · rw [if_neg hz]
        go_enter Tryz.func123, Tryz.ntmps123
        go_upto_region 1 with (fail)
        rw [← hW1]
        clear hW1
        go_wp2_with (first | (go_at_call 130; refine (HM.out _ SS.out.i).mono ?_; rintro e w2 ⟨rfl, hb⟩; replace SS := Lib.hid (SS.out.step hb); obtain ⟨k0, k1, k2, k3, k4, k5, k6, k7⟩ := SS.out.ws.k.cells; clear hb HM) | (go_at_call 131; refine (HH.out _ SS.out.i).mono ?_; rintro e _ ⟨rfl, rfl⟩; have kk := SS.out.i.cells.2.2.2.2.1; have hn := SS.out.i.h.len_; have hz' : ¬ (64 : Int) ≤ (s.hs.length : Int) := (by omega); clear HH))
        go_ret
        exact ⟨rfl, SS.out.ws.bel⟩
    · rw [if_pos rfl]
      go_enter Tryz.func123, Tryz.ntmps123
      go_upto_region 1 with (fail)
      rw [← hW1]
      clear hW1
      go_wp2_with (first | (go_at_call 130; refine (HM.out _ SS.out.i).mono ?_; rintro e w2 ⟨rfl, hb⟩; replace SS := Lib.hid (SS.out.step hb); obtain ⟨k0, k1, k2, k3, k4, k5, k6, k7⟩ := SS.out.ws.k.cells; clear hb HM) | (go_at_call 131; refine (HH.out _ SS.out.i).mono ?_; rintro e _ ⟨rfl, rfl⟩; clear HH))
      go_ret
      exact ⟨rfl, SS.out.ws.bel⟩
  · rw [if_pos hm]
    have hq : (m != 0) = true := by simp [hm]
    go_enter Tryz.func123, Tryz.ntmps123
    go_upto_region 1 with (fail)
    rw [← hW1]
    clear hW1
    go_wp2_with (go_at_call 130; refine (HM.out _ SS.out.i).mono ?_; rintro e w2 ⟨rfl, hb⟩; replace SS := Lib.hid (SS.out.step hb); obtain ⟨k0, k1, k2, k3, k4, k5, k6, k7⟩ := SS.out.ws.k.cells; clear hb HM)
    go_ret
    exact ⟨rfl, SS.out.ws.bel⟩
set_option maxRecDepth 100000 in
set_option maxHeartbeats 2000000 in
theorem mayRelease (A : Pl) (s : St) (r : Rec) (w : World) (h : In A s w) (hl : r.nm.length ≤ maxLen) : Calls Tryz.prog 124 #[.pointer (some ⟨A.c, 0, none⟩), .agg #[.int .i64 r.k, .int .i64 r.ep, .int .i64 r.tm, .int .i64 r.ct, .int .i64 r.tg, .int .i64 r.un, .string ⟨r.rt.toArray⟩, .string ⟨r.nm.toArray⟩]] w fun x w' => x = .returned (.int .i64 (mayL s r)) ∧ Below w.heap.size w w' := by
  obtain ⟨W1, hW1⟩ : ∃ W1, W1 = w.alloc (.cells #[.int .i64 r.k, .int .i64 r.ep, .int .i64 r.tm, .int .i64 r.ct, .int .i64 r.tg, .int .i64 r.un, .string ⟨r.rt.toArray⟩, .string ⟨r.nm.toArray⟩] 82) := ⟨_, rfl⟩
  have SS : Hid (Wr A s r w W1) := Lib.hid (by rw [hW1]; exact wr_new h r)
  have HH := Lib.hid (fun W h => hasHold A s r.nm W h hl)
  obtain ⟨k0, k1, k2, k3, k4, k5, k6, k7⟩ := SS.out.ws.k.cells
  unfold mayL
  clear h hl
  generalize (lk s.hs r.nm).isSome = q at *
  cases q
  all_goals
    go_enter Tryz.func124, Tryz.ntmps124
    go_upto_region 1 with (fail)
    rw [← hW1]
    clear hW1
    go_wp2_with (go_at_call 131; refine (HH.out _ SS.out.i).mono ?_; rintro e _ ⟨rfl, rfl⟩; clear HH)
    go_ret
    exact ⟨rfl, SS.out.ws.bel⟩
set_option maxRecDepth 100000 in
set_option maxHeartbeats 2000000 in
theorem mayPurge (A : Pl) (s : St) (r : Rec) (w : World) (h : In A s w) (hw : Wf r.tg) : Calls Tryz.prog 125 #[.pointer (some ⟨A.c, 0, none⟩), .agg #[.int .i64 r.k, .int .i64 r.ep, .int .i64 r.tm, .int .i64 r.ct, .int .i64 r.tg, .int .i64 r.un, .string ⟨r.rt.toArray⟩, .string ⟨r.nm.toArray⟩]] w fun x w' => x = .returned (.int .i64 (mayP s r)) ∧ Below w.heap.size w w' := by
  obtain ⟨W1, hW1⟩ : ∃ W1, W1 = w.alloc (.cells #[.int .i64 r.k, .int .i64 r.ep, .int .i64 r.tm, .int .i64 r.ct, .int .i64 r.tg, .int .i64 r.un, .string ⟨r.rt.toArray⟩, .string ⟨r.nm.toArray⟩] 82) := ⟨_, rfl⟩
  have SS : Hid (Wr A s r w W1) := Lib.hid (by rw [hW1]; exact wr_new h r)
  have HM := Lib.hid (fun W h => mayMean A s r.tg W h hw)
  have HN := Lib.hid (fun W h => held A s r.tg W h)
  have HW := Lib.hid hw
  obtain ⟨k0, k1, k2, k3, k4, k5, k6, k7⟩ := SS.out.ws.k.cells
  unfold mayP
  clear h hw
  generalize mean s r.tg = m at *
  by_cases hm : m = 0
  · rw [if_neg (by omega)]
    have hq : (m != 0) = false := by simp [hm]
    by_cases h1 : r.tm < s.un r.tg
    · rw [if_pos h1]
      go_enter Tryz.func125, Tryz.ntmps125
      go_upto_region 1 with (fail)
      rw [← hW1]
      clear hW1
      go_wp2_with (go_at_call 130; refine (HM.out _ SS.out.i).mono ?_; rintro e w2 ⟨rfl, hb⟩; replace SS := Lib.hid (SS.out.step hb); obtain ⟨k0, k1, k2, k3, k4, k5, k6, k7⟩ := SS.out.ws.k.cells; clear hb HM)
      replace SS := Lib.hid SS.out.drew
      have hr := SS.out.i.u.at_ HW.out
      have hS := And.intro SS.out.i.cells.2.2.2.1 SS.out.ws.k.cells
      go_region_held3 (fun W => W.cell? ⟨A.c, 3, none⟩ = some (.map (some A.u)) ∧ W.cell? ⟨w.heap.size, 0, none⟩ = some (.int .i64 r.k) ∧ W.cell? ⟨w.heap.size, 1, none⟩ = some (.int .i64 r.ep) ∧ W.cell? ⟨w.heap.size, 2, none⟩ = some (.int .i64 r.tm) ∧ W.cell? ⟨w.heap.size, 3, none⟩ = some (.int .i64 r.ct) ∧ W.cell? ⟨w.heap.size, 4, none⟩ = some (.int .i64 r.tg) ∧ W.cell? ⟨w.heap.size, 5, none⟩ = some (.int .i64 r.un) ∧ W.cell? ⟨w.heap.size, 6, none⟩ = some (.string ⟨r.rt.toArray⟩) ∧ W.cell? ⟨w.heap.size, 7, none⟩ = some (.string ⟨r.nm.toArray⟩))
        (exact hS) (fail)
      obtain ⟨k0, k1, k2, k3, k4, k5, k6, k7⟩ := SS.out.ws.k.cells
      go_wp2_with (fail)
      go_ret
      exact ⟨rfl, SS.out.ws.bel⟩
    rw [if_neg h1]
    by_cases h2 : 0 < (heldL s.hs r.tg).length
    · rw [if_pos h2]
      have h2' : (0 : Int) < ((heldL s.hs r.tg).length : Int) := by omega
      go_enter Tryz.func125, Tryz.ntmps125
      go_upto_region 1 with (fail)
      rw [← hW1]
      clear hW1
      go_wp2_with (go_at_call 130; refine (HM.out _ SS.out.i).mono ?_; rintro e w2 ⟨rfl, hb⟩; replace SS := Lib.hid (SS.out.step hb); obtain ⟨k0, k1, k2, k3, k4, k5, k6, k7⟩ := SS.out.ws.k.cells; clear hb HM)
      replace SS := Lib.hid SS.out.drew
      have hr := SS.out.i.u.at_ HW.out
      have hS := And.intro SS.out.i.cells.2.2.2.1 SS.out.ws.k.cells
      go_region_held3 (fun W => W.cell? ⟨A.c, 3, none⟩ = some (.map (some A.u)) ∧ W.cell? ⟨w.heap.size, 0, none⟩ = some (.int .i64 r.k) ∧ W.cell? ⟨w.heap.size, 1, none⟩ = some (.int .i64 r.ep) ∧ W.cell? ⟨w.heap.size, 2, none⟩ = some (.int .i64 r.tm) ∧ W.cell? ⟨w.heap.size, 3, none⟩ = some (.int .i64 r.ct) ∧ W.cell? ⟨w.heap.size, 4, none⟩ = some (.int .i64 r.tg) ∧ W.cell? ⟨w.heap.size, 5, none⟩ = some (.int .i64 r.un) ∧ W.cell? ⟨w.heap.size, 6, none⟩ = some (.string ⟨r.rt.toArray⟩) ∧ W.cell? ⟨w.heap.size, 7, none⟩ = some (.string ⟨r.nm.toArray⟩))
        (exact hS) (fail)
      obtain ⟨k0, k1, k2, k3, k4, k5, k6, k7⟩ := SS.out.ws.k.cells
      go_wp2_with (go_at_call 132; refine (HN.out _ SS.out.i).mono ?_; rintro e w3 ⟨⟨ga, gc, rfl, -⟩, hb⟩; replace SS := Lib.hid (SS.out.step hb); obtain ⟨k0, k1, k2, k3, k4, k5, k6, k7⟩ := SS.out.ws.k.cells; clear hb HN)
      go_ret
      exact ⟨rfl, SS.out.ws.bel⟩
    rw [if_neg h2]
    have h2' : ¬ (0 : Int) < ((heldL s.hs r.tg).length : Int) := by omega
    by_cases h3 : r.un ≠ s.un r.tg
    · rw [if_pos h3]
      have h3' : (r.un != s.un r.tg) = true := by simpa using h3
      clear h3
      go_enter Tryz.func125, Tryz.ntmps125
      go_upto_region 1 with (fail)
      rw [← hW1]
      clear hW1
      go_wp2_with (go_at_call 130; refine (HM.out _ SS.out.i).mono ?_; rintro e w2 ⟨rfl, hb⟩; replace SS := Lib.hid (SS.out.step hb); obtain ⟨k0, k1, k2, k3, k4, k5, k6, k7⟩ := SS.out.ws.k.cells; clear hb HM)
      replace SS := Lib.hid SS.out.drew
      have hr := SS.out.i.u.at_ HW.out
      have hS := And.intro SS.out.i.cells.2.2.2.1 SS.out.ws.k.cells
      go_region_held3 (fun W => W.cell? ⟨A.c, 3, none⟩ = some (.map (some A.u)) ∧ W.cell? ⟨w.heap.size, 0, none⟩ = some (.int .i64 r.k) ∧ W.cell? ⟨w.heap.size, 1, none⟩ = some (.int .i64 r.ep) ∧ W.cell? ⟨w.heap.size, 2, none⟩ = some (.int .i64 r.tm) ∧ W.cell? ⟨w.heap.size, 3, none⟩ = some (.int .i64 r.ct) ∧ W.cell? ⟨w.heap.size, 4, none⟩ = some (.int .i64 r.tg) ∧ W.cell? ⟨w.heap.size, 5, none⟩ = some (.int .i64 r.un) ∧ W.cell? ⟨w.heap.size, 6, none⟩ = some (.string ⟨r.rt.toArray⟩) ∧ W.cell? ⟨w.heap.size, 7, none⟩ = some (.string ⟨r.nm.toArray⟩))
        (exact hS) (fail)
      obtain ⟨k0, k1, k2, k3, k4, k5, k6, k7⟩ := SS.out.ws.k.cells
      go_wp2_with (go_at_call 132; refine (HN.out _ SS.out.i).mono ?_; rintro e w3 ⟨⟨ga, gc, rfl, -⟩, hb⟩; replace SS := Lib.hid (SS.out.step hb); obtain ⟨k0, k1, k2, k3, k4, k5, k6, k7⟩ := SS.out.ws.k.cells; clear hb HN)
      go_ret
      exact ⟨rfl, SS.out.ws.bel⟩
    · rw [if_neg h3]
      have h3' : (r.un != s.un r.tg) = false := by simpa using h3
      clear h3
      go_enter Tryz.func125, Tryz.ntmps125
      go_upto_region 1 with (fail)
      rw [← hW1]
      clear hW1
      go_wp2_with (go_at_call 130; refine (HM.out _ SS.out.i).mono ?_; rintro e w2 ⟨rfl, hb⟩; replace SS := Lib.hid (SS.out.step hb); obtain ⟨k0, k1, k2, k3, k4, k5, k6, k7⟩ := SS.out.ws.k.cells; clear hb HM)
      replace SS := Lib.hid SS.out.drew
      have hr := SS.out.i.u.at_ HW.out
      have hS := And.intro SS.out.i.cells.2.2.2.1 SS.out.ws.k.cells
      go_region_held3 (fun W => W.cell? ⟨A.c, 3, none⟩ = some (.map (some A.u)) ∧ W.cell? ⟨w.heap.size, 0, none⟩ = some (.int .i64 r.k) ∧ W.cell? ⟨w.heap.size, 1, none⟩ = some (.int .i64 r.ep) ∧ W.cell? ⟨w.heap.size, 2, none⟩ = some (.int .i64 r.tm) ∧ W.cell? ⟨w.heap.size, 3, none⟩ = some (.int .i64 r.ct) ∧ W.cell? ⟨w.heap.size, 4, none⟩ = some (.int .i64 r.tg) ∧ W.cell? ⟨w.heap.size, 5, none⟩ = some (.int .i64 r.un) ∧ W.cell? ⟨w.heap.size, 6, none⟩ = some (.string ⟨r.rt.toArray⟩) ∧ W.cell? ⟨w.heap.size, 7, none⟩ = some (.string ⟨r.nm.toArray⟩))
        (exact hS) (fail)
      obtain ⟨k0, k1, k2, k3, k4, k5, k6, k7⟩ := SS.out.ws.k.cells
      go_wp2_with (go_at_call 132; refine (HN.out _ SS.out.i).mono ?_; rintro e w3 ⟨⟨ga, gc, rfl, -⟩, hb⟩; replace SS := Lib.hid (SS.out.step hb); obtain ⟨k0, k1, k2, k3, k4, k5, k6, k7⟩ := SS.out.ws.k.cells; clear hb HN)
      go_ret
      exact ⟨rfl, SS.out.ws.bel⟩
  · rw [if_pos hm]
    have hq : (m != 0) = true := by simp [hm]
    go_enter Tryz.func125, Tryz.ntmps125
    go_upto_region 1 with (fail)
    rw [← hW1]
    clear hW1
    go_wp2_with (go_at_call 130; refine (HM.out _ SS.out.i).mono ?_; rintro e w2 ⟨rfl, hb⟩; replace SS := Lib.hid (SS.out.step hb); obtain ⟨k0, k1, k2, k3, k4, k5, k6, k7⟩ := SS.out.ws.k.cells; clear hb HM)
    go_ret
    exact ⟨rfl, SS.out.ws.bel⟩
end Go.Proofs.YtopnodkdpehdoaaGreatDoor.RetP
