/- A book in memory: its three maps, its block, its clock; what each map's lk-up, store and deletion do; what stays where a book is turned. No conditions but those that each lemma names. -/
import Derived.Test.YteldohopagdodaaRetN
import Derived.Test.YteldohopagdodaaRecC
import Derived.Test.YteldohopagdodaaCloC
import Derived.Maps.OwnSet
import Derived.Maps.RangeWalk
import Derived.WalkArith
namespace Go.Proofs.Yteldohopagdodaa.RetC
set_option linter.unusedVariables false
open Go.RowKit Go.Maps
open RecN RetN
open CloC (Ck)
abbrev DU := DataW Unit
abbrev dn (n : Int) : DU := .lit (.int .i64 n)
abbrev ki (n : Int) : Lit := .int .i64 n
abbrev ks (s : L) : Lit := .string s
abbrev Wf (n : Int) : Prop := (Lit.int .i64 n).wf = true
theorem wf_of {n : Int} (h : -9223372036854775808 ≤ n ∧ n ≤ 9223372036854775807) : Wf n := WalkArith.wf_i64 h
theorem lawI : Keyed Try.prog 3 := int_keyed Try.underlying3
theorem lawS : Keyed Try.prog 9 := string_keyed Try.underlying9
theorem zeroI (w : World) : (zeroValue 3).run Try.prog w = .ok (.int .i64 0) w := by kernel_rfl
theorem zeroU (w : World) : (zeroValue 60).run Try.prog w = .ok (.agg #[]) w := by kernel_rfl
theorem key_int {n : Int} (h : Wf n) : keyOf Try.prog 3 (.int .i64 n) = some (ki n) := keyOf_int_mk Try.underlying3 h
theorem key_str {s : L} (h : s.length ≤ maxLen) : keyOf Try.prog 9 (.string ⟨s.toArray⟩) = some (ks s) := by
  have := WideMaps.keyOf_string_mk (P := Try.prog) (k := 9) (s := ⟨s.toArray⟩) Try.underlying9 (by rw [RecC.size_mk]; exact h)
  simpa using this
theorem ki_ne {i j : Int} (h : i ≠ j) : ki i ≠ ki j := fun e => by
  injection e with _ e
  exact h e
theorem ks_ne {s t : L} (h : s ≠ t) : ks s ≠ ks t := fun e => by
  injection e with e
  exact h e
/-- A bound is how many there are. -/
theorem tight {P : Program} {k : TypeId} {R : Value → Option (DU × List MemPlace)} {w : World} {b n : Nat} {D : DU} (h : w.ownsMap P k R b n D) : w.ownsMap P k R b (Maps.size D) D := by
  obtain ⟨es, clock, hb, F, hs, hD⟩ := h
  refine ⟨es, clock, hb, F, ?_, hD⟩
  rw [hD]
  show es.size ≤ List.length _
  rw [length_read]
  exact Nat.le_refl _
theorem at_block {P : Program} {k : TypeId} {R : Value → Option (DU × List MemPlace)} {w w' : World} {b n : Nat} {D : DU} (h : w.ownsMap P k R b n D) (e : w'.heap[b]? = w.heap[b]?) : w'.ownsMap P k R b n D := by
  obtain ⟨es, clock, hb, r⟩ := h
  exact ⟨es, clock, e.trans hb, r⟩
/-- Each key is an epoch. -/
def Low (D : DU) : Prop := ∀ kl, Maps.has D kl = true → ∃ n : Int, kl = ki n ∧ 0 ≤ n ∧ n < ((4294967296 : Nat) : Int)
def numOf : Lit → Int
  | .int _ n => n
  | _ => 0
theorem low_size {P : Program} {k : TypeId} {R : Value → Option (DU × List MemPlace)} {w : World} {b n : Nat} {D : DU} (h : w.ownsMap P k R b n D) (K : Keyed P k) (hl : Low D) : Maps.size D ≤ 4294967296 := by
  obtain ⟨es, rfl, hpw, hkey⟩ := h.entries K
  have hk : ∀ p ∈ es, ∃ n : Int, p.1 = ki n ∧ 0 ≤ n ∧ n < ((4294967296 : Nat) : Int) := fun p hp =>
    hl p.1 (by rw [has_eq, List.any_eq_true]; exact ⟨p, hp, WideAt.sameKey_self (hkey p hp)⟩)
  rw [size_eq, ← List.length_map (f := fun p => numOf p.1)]
  have h1 : (es.map fun p => numOf p.1).Nodup := by
    refine List.pairwise_map.2 (hpw.imp_of_mem ?_)
    intro p q hp hq hne e
    refine hne ?_
    obtain ⟨i, hi, _⟩ := hk p hp
    obtain ⟨j, hj, _⟩ := hk q hq
    rw [hi, hj] at e ⊢
    exact congrArg ki e
  refine pigeon 4294967296 _ h1 ?_
  intro x hx
  obtain ⟨p, hp, rfl⟩ := List.mem_map.1 hx
  obtain ⟨i, hi, h0, h1⟩ := hk p hp
  rw [hi]
  exact ⟨h0, h1⟩
theorem low_put {D : DU} (hm : IsMap D) (h : Low D) {n : Int} (h0 : 0 ≤ n) (h1 : n ≤ 4294967295) (d : DU) : Low (D.put (ki n) d) := fun kl hk => by
  by_cases e : kl = ki n
  · exact ⟨n, e, h0, by omega⟩
  · rw [has_put_other e] at hk
    exact h kl hk
/-- Block M is a map of times by epochs. -/
def Mi (W : World) (M : Nat) (f : Int → Int) : Prop :=
  ∃ D, W.ownsMap Try.prog 3 (plainElem Try.prog 3) M 4294967296 D ∧ Low D ∧ ∀ n, D.atKey (ki n) (dn 0) = dn (f n)
/-- Block M is a set of epochs. -/
def Mu (W : World) (M : Nat) (g : Int → Bool) : Prop :=
  ∃ D, W.ownsMap Try.prog 3 (unitElem (H := Unit)) M 4294967296 D ∧ Low D ∧ ∀ n, Maps.has D (ki n) = g n
/-- Block M is a map of epochs by names. -/
def Mh (W : World) (M : Nat) (hs : List (L × Int)) : Prop :=
  Once hs ∧ hs.length ≤ 64 ∧ ∃ D, W.ownsMap Try.prog 9 (plainElem Try.prog 3) M 64 D ∧ Maps.size D = hs.length ∧ ∀ s, Maps.has D (ks s) = (lk hs s).isSome ∧ ∀ e, lk hs s = some e → ∀ zd, D.atKey (ks s) zd = dn e
theorem Mi.lt {W : World} {M : Nat} {f : Int → Int} (h : Mi W M f) : M < W.heap.size := by obtain ⟨D, h1, _⟩ := h; exact h1.lt
theorem Mu.lt {W : World} {M : Nat} {g : Int → Bool} (h : Mu W M g) : M < W.heap.size := by obtain ⟨D, h1, _⟩ := h; exact h1.lt
theorem Mh.lt {W : World} {M : Nat} {hs : List (L × Int)} (h : Mh W M hs) : M < W.heap.size := by obtain ⟨_, _, D, h1, _⟩ := h; exact h1.lt
theorem Mi.block {W W' : World} {M : Nat} {f : Int → Int} (h : Mi W M f) (e : W'.heap[M]? = W.heap[M]?) : Mi W' M f := by obtain ⟨D, h1, h2⟩ := h; exact ⟨D, at_block h1 e, h2⟩
theorem Mu.block {W W' : World} {M : Nat} {g : Int → Bool} (h : Mu W M g) (e : W'.heap[M]? = W.heap[M]?) : Mu W' M g := by obtain ⟨D, h1, h2⟩ := h; exact ⟨D, at_block h1 e, h2⟩
theorem Mh.block {W W' : World} {M : Nat} {hs : List (L × Int)} (h : Mh W M hs) (e : W'.heap[M]? = W.heap[M]?) : Mh W' M hs := by obtain ⟨o, l, D, h1, h2⟩ := h; exact ⟨o, l, D, at_block h1 e, h2⟩
theorem mi_new (w : World) : Mi (w.alloc (.map #[] 0)) w.heap.size (fun _ => 0) := ⟨.map [], (World.ownsMap_made w _ _ _).mono (Nat.zero_le _), fun kl hk => by simp [Maps.has] at hk, fun n => rfl⟩
theorem mu_new (w : World) : Mu (w.alloc (.map #[] 0)) w.heap.size (fun _ => false) := ⟨.map [], (World.ownsMap_made w _ _ _).mono (Nat.zero_le _), fun kl hk => by simp [Maps.has] at hk, fun n => rfl⟩
theorem mh_new (w : World) : Mh (w.alloc (.map #[] 0)) w.heap.size [] := ⟨by simp [Once], Nat.zero_le _, .map [], (World.ownsMap_made w _ _ _).mono (Nat.zero_le _), rfl, fun s => ⟨rfl, fun e he => by simp [lk] at he⟩⟩
/-- 'm[n]'. -/
theorem Mi.at_ {W : World} {M : Nat} {f : Int → Int} (h : Mi W M f) {n : Int} (hn : Wf n) : (Instr.lookup 46 (.map (some M)) (.int .i64 n) false).run Try.prog W = .ok (.int .i64 (f n)) W := by
  obtain ⟨D, h1, h2, h3⟩ := h
  obtain ⟨c, hr, hat, _⟩ := h1.lookup_int lawI Try.underlying46 Try.underlying3 (zeroI W) (key_int hn)
  rw [h3 n] at hat
  injection hat with hat
  injection hat with _ hat
  rw [hr, hat]
/-- '_, ok := m[n]'. -/
theorem Mu.at_ {W : World} {M : Nat} {g : Int → Bool} (h : Mu W M g) {n : Int} (hn : Wf n) : (Instr.lookup 48 (.map (some M)) (.int .i64 n) true).run Try.prog W = .ok (.tuple #[.agg #[], .bool (g n)]) W := by
  obtain ⟨D, h1, h2, h3⟩ := h
  obtain ⟨v, ps, hr, hv⟩ := h1.look_ok lawI Try.underlying48 (zeroU W) (unitElem_mk (H := Unit)) (key_int hn)
  obtain ⟨rfl, _⟩ := unitElem_inv hv
  rw [hr, h3 n]
/-- '_, ok := m[s]'. -/
theorem Mh.at_ {W : World} {M : Nat} {hs : List (L × Int)} (h : Mh W M hs) {s : L} (hl : s.length ≤ maxLen) : ∃ c : Int, (Instr.lookup 47 (.map (some M)) (.string ⟨s.toArray⟩) true).run Try.prog W = .ok (.tuple #[.int .i64 c, .bool (lk hs s).isSome]) W := by
  obtain ⟨_, _, D, h1, h2, h3⟩ := h
  obtain ⟨v, ps, hr, hv⟩ := h1.look_ok lawS Try.underlying47 (zeroI W) (plainElem_int Try.underlying3 (by decide)) (key_str hl)
  obtain ⟨c, rfl, _, _⟩ := plainElem_int_inv Try.underlying3 hv
  exact ⟨c, by rw [hr, (h3 s).1]⟩
/-- 'len(m)'. -/
theorem Mh.len_ {W : World} {M : Nat} {hs : List (L × Int)} (h : Mh W M hs) (ty : TypeId) : (Builtin.len_ #[47] ty #[.map (some M)]).run Try.prog W = .ok (.int .i64 (hs.length : Nat)) W := by
  obtain ⟨_, _, D, h1, h2, h3⟩ := h
  rw [h1.len Try.underlying47 ty, h2]
/-- 'm[n] = v'. -/
theorem Mi.put {W : World} {M : Nat} {f : Int → Int} (h : Mi W M f) {n v : Int} (h0 : 0 ≤ n) (h1 : n ≤ 4294967295) (hv : Wf v) :
    ∃ W', (Instr.mapUpdate 46 (.map (some M)) (.int .i64 n) (.int .i64 v)).run Try.prog W = .ok () W' ∧ Mi W' M (upd f n v) ∧ W.grownBy W' (some M) := by
  obtain ⟨D, k1, k2, k3⟩ := h
  obtain ⟨W', hr, h2, h3⟩ := k1.update lawI Try.underlying46 (by decide) (key_int (n := n) (wf_of (by omega))) (plainElem_int Try.underlying3 hv)
  have hl := low_put k1.isMap k2 h0 h1 (dn v)
  have kb : WideAt.IsKeyLit (ki n) := trivial
  refine ⟨W', hr, ⟨_, (tight h2).mono (low_size h2 lawI hl), hl, fun i => ?_⟩, h3⟩
  by_cases e : i = n
  · rw [e, upd_at]
    exact atKey_put_same k1.isMap kb _ _
  · rw [upd_other _ _ e, atKey_put_other (ki_ne e)]
    exact k3 i
/-- 'm[n] = struct{}{}'. -/
theorem Mu.put {W : World} {M : Nat} {g : Int → Bool} (h : Mu W M g) {n : Int} (h0 : 0 ≤ n) (h1 : n ≤ 4294967295) :
    ∃ W', (Instr.mapUpdate 48 (.map (some M)) (.int .i64 n) (.agg #[])).run Try.prog W = .ok () W' ∧ Mu W' M (upd g n true) ∧ W.grownBy W' (some M) := by
  obtain ⟨D, k1, k2, k3⟩ := h
  obtain ⟨W', hr, h2, h3⟩ := k1.update lawI Try.underlying48 (by decide) (key_int (n := n) (wf_of (by omega))) (unitElem_mk (H := Unit))
  have hl := low_put k1.isMap k2 h0 h1 (.agg [])
  have kb : WideAt.IsKeyLit (ki n) := trivial
  refine ⟨W', hr, ⟨_, (tight h2).mono (low_size h2 lawI hl), hl, fun i => ?_⟩, h3⟩
  by_cases e : i = n
  · rw [e, upd_at]
    exact has_put_same k1.isMap kb _
  · rw [upd_other _ _ e, has_put_other (ki_ne e)]
    exact k3 i
/-- 'm[s] = n', of a name that holds nothing yet. -/
theorem Mh.put {W : World} {M : Nat} {hs : List (L × Int)} (h : Mh W M hs) {s : L} (hs0 : lk hs s = none) (hlt : hs.length < 64) (hl : s.length ≤ maxLen) {n : Int} (hv : Wf n) :
    ∃ W', (Instr.mapUpdate 47 (.map (some M)) (.string ⟨s.toArray⟩) (.int .i64 n)).run Try.prog W = .ok () W' ∧ Mh W' M (hs ++ [(s, n)]) ∧ W.grownBy W' (some M) := by
  obtain ⟨ho, hle, D, k1, k2, k3⟩ := h
  obtain ⟨W', hr, h2, h3⟩ := k1.update lawS Try.underlying47 (by decide) (key_str hl) (plainElem_int Try.underlying3 hv)
  have kb : WideAt.IsKeyLit (ks s) := trivial
  have hz : Maps.size (D.put (ks s) (dn n)) = (hs ++ [(s, n)]).length := by
    rw [size_put (k1.tidy lawS), (k3 s).1, hs0, k2, List.length_append]
    rfl
  refine ⟨W', hr, ⟨once_snoc ho n hs0, by rw [List.length_append]; simp; omega, _, (tight h2).mono (by rw [hz, List.length_append]; simp; omega), hz, fun t => ?_⟩, h3⟩
  rw [lk_snoc _ _ _ hs0]
  by_cases e : t = s
  · rw [e, if_pos rfl]
    refine ⟨has_put_same k1.isMap kb _, fun c hc zd => ?_⟩
    injection hc with hc
    rw [← hc]
    exact atKey_put_same k1.isMap kb _ _
  · rw [if_neg e]
    refine ⟨(has_put_other (ks_ne e) _).trans (k3 t).1, fun c hc zd => ?_⟩
    exact (atKey_put_other (ks_ne e) _ _).trans ((k3 t).2 c hc zd)
/-- 'delete(m, s)'. -/
theorem Mh.del_ {W : World} {M : Nat} {hs : List (L × Int)} (h : Mh W M hs) {s : L} (hl : s.length ≤ maxLen) :
    ∃ W', (∀ ty, (Builtin.delete_ #[47, 9] ty #[.map (some M), .string ⟨s.toArray⟩]).run Try.prog W = .ok (.tuple #[]) W') ∧ Mh W' M (del hs s) ∧ W.grownBy W' (some M) := by
  obtain ⟨ho, hle, D, k1, k2, k3⟩ := h
  obtain ⟨W', hr, h2, h3⟩ := k1.drop lawS Try.underlying47 (key_str hl) 0
  have hz : Maps.size (D.del (ks s)) = (del hs s).length := by
    have := size_del (k := ks s) (k1.tidy lawS)
    rw [(k3 s).1, k2] at this
    have := del_len ho s
    omega
  refine ⟨W', fun ty => hr, ⟨once_del ho s, Nat.le_trans (del_le hs s) hle, _, h2, hz, fun t => ?_⟩, h3.grown⟩
  rw [lk_del]
  by_cases e : t = s
  · rw [e, if_pos rfl]
    exact ⟨has_del_same, fun c hc => by cases hc⟩
  · rw [if_neg e]
    refine ⟨(has_del_other (ks_ne e)).trans (k3 t).1, fun c hc zd => ?_⟩
    exact (atKey_del_other (ks_ne e) _).trans ((k3 t).2 c hc zd)
/-- Where a book lies: its own block, the inner one, the clock's, the three maps'. -/
structure Pl where
  b : Nat
  c : Nat
  k : Nat
  u : Nat
  h : Nat
  g : Nat
def Pl.has (A : Pl) (i : Nat) : Prop := i = A.b ∨ i = A.c ∨ i = A.k ∨ i = A.u ∨ i = A.h ∨ i = A.g
def Pl.from_ (A : Pl) (n : Nat) : Prop := n ≤ A.b ∧ n ≤ A.c ∧ n ≤ A.k ∧ n ≤ A.u ∧ n ≤ A.h ∧ n ≤ A.g
theorem Pl.from_.le {A : Pl} {n : Nat} (h : A.from_ n) {i : Nat} (hi : A.has i) : n ≤ i := by
  obtain ⟨h1, h2, h3, h4, h5, h6⟩ := h
  rcases hi with rfl | rfl | rfl | rfl | rfl | rfl <;> assumption
/-- The inner book. -/
structure In (A : Pl) (s : St) (W : World) : Prop where
  body : W.heap[A.c]? = some (.cells #[.pointer (some ⟨A.k, 0, none⟩), .int .i64 s.first, .int .i64 s.ep, .map (some A.u), .map (some A.h), .map (some A.g)] 50 (0, 0))
  ck : Ck W A.k 0 true s.now
  u : Mi W A.u s.un
  h : Mh W A.h s.hs
  g : Mu W A.g s.gone
  ne : A.c ≠ A.k ∧ A.u ≠ A.h ∧ A.u ≠ A.g ∧ A.h ≠ A.g
structure Book (A : Pl) (s : St) (W : World) : Prop where
  top : W.heap[A.b]? = some (.cells #[.pointer (some ⟨A.c, 0, none⟩)] 39 (0, 0))
  in_ : In A s W
  nb : A.b ≠ A.c ∧ A.b ≠ A.k
theorem In.lt {A : Pl} {s : St} {W : World} (h : In A s W) : A.c < W.heap.size := (Array.getElem?_eq_some_iff.1 h.body).1
theorem Book.lt {A : Pl} {s : St} {W : World} (h : Book A s W) : A.b < W.heap.size := (Array.getElem?_eq_some_iff.1 h.top).1
theorem In.step {A : Pl} {s : St} {W W' : World} (h : In A s W) (hb : Below W.heap.size W W') : In A s W' :=
  ⟨(hb.block _ h.lt).trans h.body, h.ck.step hb, h.u.block (hb.block _ h.u.lt), h.h.block (hb.block _ h.h.lt), h.g.block (hb.block _ h.g.lt), h.ne⟩
theorem Book.step {A : Pl} {s : St} {W W' : World} (h : Book A s W) (hb : Below W.heap.size W W') : Book A s W' := ⟨(hb.block _ h.lt).trans h.top, h.in_.step hb, h.nb⟩
theorem In.cells {A : Pl} {s : St} {W : World} (h : In A s W) : W.cell? ⟨A.c, 0, none⟩ = some (.pointer (some ⟨A.k, 0, none⟩)) ∧ W.cell? ⟨A.c, 1, none⟩ = some (.int .i64 s.first) ∧ W.cell? ⟨A.c, 2, none⟩ = some (.int .i64 s.ep) ∧ W.cell? ⟨A.c, 3, none⟩ = some (.map (some A.u)) ∧ W.cell? ⟨A.c, 4, none⟩ = some (.map (some A.h)) ∧ W.cell? ⟨A.c, 5, none⟩ = some (.map (some A.g)) :=
  ⟨blk_cell h.body rfl, blk_cell h.body rfl, blk_cell h.body rfl, blk_cell h.body rfl, blk_cell h.body rfl, blk_cell h.body rfl⟩
theorem Book.cell {A : Pl} {s : St} {W : World} (h : Book A s W) : W.cell? ⟨A.b, 0, none⟩ = some (.pointer (some ⟨A.c, 0, none⟩)) := blk_cell h.top rfl
theorem mi_is {W : World} {M : Nat} {f : Int → Int} (h : Mi W M f) : ∃ es k, W.heap[M]? = some (.map es k) := by obtain ⟨D, ⟨es, k, hb, _⟩, _⟩ := h; exact ⟨es, k, hb⟩
theorem mu_is {W : World} {M : Nat} {g : Int → Bool} (h : Mu W M g) : ∃ es k, W.heap[M]? = some (.map es k) := by obtain ⟨D, ⟨es, k, hb, _⟩, _⟩ := h; exact ⟨es, k, hb⟩
theorem mh_is {W : World} {M : Nat} {hs : List (L × Int)} (h : Mh W M hs) : ∃ es k, W.heap[M]? = some (.map es k) := by obtain ⟨_, _, D, ⟨es, k, hb, _⟩, _⟩ := h; exact ⟨es, k, hb⟩
theorem ne_of {W : World} {i M : Nat} {cs : Array Value} {t : TypeId} {f : Nat × Nat} (h : W.heap[i]? = some (.cells cs t f)) (k : ∃ es k, W.heap[M]? = some (.map es k)) : i ≠ M := fun e => by
  obtain ⟨es, c, k⟩ := k
  rw [e, k] at h
  cases h
/-- All but a book's blocks is as it was. -/
structure Tu (A : Pl) (w w' : World) : Prop where
  os : w'.os = w.os
  tape : w'.tape = w.tape
  output : w'.output = w.output
  size : w.heap.size ≤ w'.heap.size
  block : ∀ k, k < w.heap.size → ¬ A.has k → w'.heap[k]? = w.heap[k]?
theorem Tu.of_below {A : Pl} {w w' : World} (h : Below w.heap.size w w') : Tu A w w' := ⟨h.os, h.tape, h.output, h.size, fun k hk _ => h.block k hk⟩
theorem Tu.trans {A : Pl} {u v w : World} (h : Tu A u v) (k : Tu A v w) : Tu A u w :=
  ⟨k.os.trans h.os, k.tape.trans h.tape, k.output.trans h.output, Nat.le_trans h.size k.size, fun i hi hb => (k.block i (Nat.lt_of_lt_of_le hi h.size) hb).trans (h.block i hi hb)⟩
theorem Tu.of_grown {A : Pl} {w w' : World} {M : Nat} (h : w.grownBy w' (some M)) (hM : A.has M) : Tu A w w' :=
  ⟨h.os, h.tape, h.output, h.size, fun k hk hn => h.block k hk (fun e => hn (by injection e with e; rw [e]; exact hM))⟩
theorem Tu.of_but {A : Pl} {w w' : World} {M : Nat} (h : CloC.But M w w') (hM : A.has M) : Tu A w w' :=
  ⟨h.os, h.tape, h.output, h.size, fun k hk hn => h.block k hk (fun e => hn (by rw [e]; exact hM))⟩
theorem Tu.below {A : Pl} {w w' : World} {n : Nat} (h : Tu A w w') (hA : A.from_ n) (hn : n ≤ w.heap.size) : Below n w w' :=
  ⟨h.os, h.tape, h.output, h.size, fun k hk => h.block k (by omega) (fun e => by have := hA.le e; omega)⟩
/-- A pointer to none, or to a book that no call made. -/
def Non (W : World) (p : Option Addr) : Prop := p = none ∨ ∃ B, p = some ⟨B, 0, none⟩ ∧ W.heap[B]? = some (.cells #[.pointer none] 39 (0, 0))
theorem Non.step {W W' : World} {p : Option Addr} (h : Non W p) (hb : Below W.heap.size W W') : Non W' p := by
  rcases h with h | ⟨B, h, k⟩
  · exact .inl h
  · exact .inr ⟨B, h, (hb.block B (Array.getElem?_eq_some_iff.1 k).1).trans k⟩
end Go.Proofs.Yteldohopagdodaa.RetC
