/- Rows of versions in memory: what they read as, what is copied within them; two versions held against each other. No conditions but those that each lemma names. -/
import Derived.Test.YtnebbbloipdnbaaIdxM
import Derived.Test.YtnebbbloipdnbaaMem
import Derived.Test.YtnebbbloipdnbaaSlice
import Derived.Test.YtnebbbloipdnbaaRows
import Derived.Laws.StructEq
import Derived.Laws.CopyRow
import Derived.Deep.QuietTactic
import Derived.BigQuiet
import Derived.Deep.DeepCutAuto
import Derived.Outline
namespace Go.Proofs.Ytnebbbloipdnbaa.IdxC
open Go.RowKit
open IdxN
/-- A version as a value, and as cells. -/
def va (v : V) : Value := .agg #[.int .i64 v.1, .int .i64 v.2.1, .int .i64 v.2.2]
def vc (v : V) : List Value := [.int .i64 v.1, .int .i64 v.2.1, .int .i64 v.2.2]
def rc (l : List V) : List Value := l.flatMap vc
theorem rc_nil : rc [] = [] := rfl
theorem rc_cons (v : V) (l : List V) : rc (v :: l) = .int .i64 v.1 :: .int .i64 v.2.1 :: .int .i64 v.2.2 :: rc l := rfl
theorem rc_append (l m : List V) : rc (l ++ m) = rc l ++ rc m := by simp [rc]
theorem rc_length (l : List V) : (rc l).length = l.length * 3 := by
  induction l with
  | nil => rfl
  | cons v l ih => rw [rc_cons]; simp only [List.length_cons, ih]; omega
theorem rc_at (l : List V) : ∀ i (h : i < l.length), (rc l)[i * 3]? = some (.int .i64 l[i].1) ∧ (rc l)[i * 3 + 1]? = some (.int .i64 l[i].2.1) ∧ (rc l)[i * 3 + 2]? = some (.int .i64 l[i].2.2) := by
  induction l with
  | nil => intro i h; simp at h
  | cons v l ih =>
    intro i h
    cases i with
    | zero => exact ⟨rfl, rfl, rfl⟩
    | succ i =>
      have := ih i (by simpa using h)
      rw [rc_cons, show (i + 1) * 3 = i * 3 + 1 + 1 + 1 by omega]
      simpa using this
theorem rc_one (l : List V) : ∀ v ∈ rc l, v.oneCell' = true := by
  induction l with
  | nil => intro v h; simp [rc] at h
  | cons x l ih =>
    intro v h
    rw [rc_cons] at h
    simp only [List.mem_cons] at h
    rcases h with rfl | rfl | rfl | h
    · rfl
    · rfl
    · rfl
    · exact ih v h
theorem rc_take (l : List V) (n : Nat) : rc (l.take n) = (rc l).take (n * 3) := by
  by_cases h : n ≤ l.length
  · have e : rc l = rc (l.take n) ++ rc (l.drop n) := by rw [← rc_append, List.take_append_drop]
    rw [e, List.take_left' (by rw [rc_length, List.length_take]; omega)]
  · rw [List.take_of_length_le (by omega), List.take_of_length_le (by rw [rc_length]; omega)]
theorem rc_drop (l : List V) (n : Nat) : rc (l.drop n) = (rc l).drop (n * 3) := by
  by_cases h : n ≤ l.length
  · have e : rc l = rc (l.take n) ++ rc (l.drop n) := by rw [← rc_append, List.take_append_drop]
    rw [e, List.drop_left' (by rw [rc_length, List.length_take]; omega)]
  · rw [List.drop_of_length_le (by omega), List.drop_of_length_le (by rw [rc_length]; omega)]; rfl
/-- A row reads as these versions. -/
def Lies (W : World) (a : Option Addr) (l : List V) : Prop :=
  0 < l.length → ∃ g o, a = some ⟨g, o, none⟩ ∧ g < W.heap.size ∧ ∀ j u, (rc l)[j]? = some u → W.cell? ⟨g, o + j, none⟩ = some u
theorem Lies.nil (W : World) (a : Option Addr) : Lies W a [] := fun h => absurd h (by simp)
theorem Lies.keep {W W' : World} {a : Option Addr} {l : List V} (h : Lies W a l) (hs : W.heap.size ≤ W'.heap.size) (hk : ∀ g o, a = some ⟨g, o, none⟩ → g < W.heap.size → W'.heap[g]? = W.heap[g]?) : Lies W' a l := fun h0 => by
  obtain ⟨g, o, e, hg, hc⟩ := h h0
  exact ⟨g, o, e, Nat.lt_of_lt_of_le hg hs, fun j u hj => (World.cell?_of_block (a := ⟨g, o + j, none⟩) (hk g o e hg)).trans (hc j u hj)⟩
theorem Lies.step {W W' : World} {a : Option Addr} {l : List V} (h : Lies W a l) (hb : Below W.heap.size W W') : Lies W' a l := h.keep hb.size fun g _ _ hg => hb.block g hg
theorem Lies.at_ {W : World} {a : Option Addr} {l : List V} (h : Lies W a l) (h0 : 0 < l.length) : ∃ g o, a = some ⟨g, o, none⟩ ∧ g < W.heap.size ∧
    ∀ i (k : i < l.length), W.cell? ⟨g, o + i * 3, none⟩ = some (.int .i64 l[i].1) ∧ W.cell? ⟨g, o + i * 3 + 1, none⟩ = some (.int .i64 l[i].2.1) ∧ W.cell? ⟨g, o + i * 3 + 2, none⟩ = some (.int .i64 l[i].2.2) := by
  obtain ⟨g, o, e, hg, hc⟩ := h h0
  refine ⟨g, o, e, hg, fun i k => ?_⟩
  obtain ⟨r0, r1, r2⟩ := rc_at l i k
  exact ⟨hc _ _ r0, by rw [Nat.add_assoc]; exact hc _ _ r1, by rw [Nat.add_assoc]; exact hc _ _ r2⟩
theorem Lies.drop {W : World} {g o : Nat} {l : List V} (h : Lies W (some ⟨g, o, none⟩) l) (n : Nat) : Lies W (some ⟨g, o + n * 3, none⟩) (l.drop n) := fun h0 => by
  rw [List.length_drop] at h0
  obtain ⟨g', o', e, hg, hc⟩ := h (by omega)
  cases e
  refine ⟨g, o + n * 3, rfl, hg, fun j u hj => ?_⟩
  rw [rc_drop, List.getElem?_drop] at hj
  rw [Nat.add_assoc]
  exact hc _ _ hj
/-- A row of the call's own reads as it does. -/
theorem own_lies {W : World} {base : Nat} {e : TypeId} {a : Option Addr} {n c : Nat} {l : List V} (h : W.ownsRow base e 3 (.slice a n c) n (rc l)) : Lies W a l := fun h0 => by
  have hl : l.length * 3 = n * 3 := by rw [← rc_length]; exact h.1
  rcases h.2 with ⟨_, hn⟩ | ⟨g, cap, cur, hv, _, hg, _⟩
  · omega
  · injection hv with hv
    subst hv
    refine ⟨g, 0, rfl, (Array.getElem?_eq_some_iff.1 hg).1, fun j u hj => ?_⟩
    have := h.cells (g := g) rfl j u hj
    rwa [add_off] at this
theorem own_len {W : World} {base : Nat} {e : TypeId} {v : Value} {n : Nat} {l : List V} (h : W.ownsRow base e 3 v n (rc l)) : l.length = n := by
  have := h.1
  rw [rc_length] at this
  omega
theorem own_kept {w w' : World} {base : Nat} {e : TypeId} {size : Nat} {v : Value} {n : Nat} {xs : List Value} (h : w.ownsRow base e size v n xs) (hk : ∀ k, v.ownBlock = some k → w'.heap[k]? = w.heap[k]?) : w'.ownsRow base e size v n xs := by
  refine ⟨h.1, ?_⟩
  rcases h.2 with hn | ⟨g, cap, cur, rfl, hb, hg, rest⟩
  · exact .inl hn
  · exact .inr ⟨g, cap, cur, rfl, hb, (hk g rfl).trans hg, rest⟩
theorem own_step {w w' : World} {base : Nat} {e : TypeId} {size : Nat} {v : Value} {n : Nat} {xs : List Value} (h : w.ownsRow base e size v n xs) (hb : Below w.heap.size w w') : w'.ownsRow base e size v n xs :=
  own_kept h fun k hk => hb.block k (h.lt k hk).2
theorem own_base {w : World} {base B : Nat} {e : TypeId} {size : Nat} {v : Value} {n : Nat} {xs : List Value} (h : w.ownsRow base e size v n xs) (hb : B ≤ base) : w.ownsRow B e size v n xs := by
  refine ⟨h.1, ?_⟩
  rcases h.2 with hn | ⟨g, cap, cur, hv, hg, rest⟩
  · exact .inl hn
  · exact .inr ⟨g, cap, cur, hv, Nat.le_trans hb hg, rest⟩
/-- What the model knows of the type. -/
theorem infoV : (Try.prog.info? 27).map (·.size) = some 3 := by kernel_rfl
theorem info_ver : ((Try.prog.info? 27).map fun i => (i.zero, i.size, i.bytes)) = some (some (.agg #[.int .i64 0, .int .i64 0, .int .i64 0]), 3, 24) := by kernel_rfl
theorem one3 (v : V) : (#[.int .i64 v.1, .int .i64 v.2.1, .int .i64 v.2.2] : Array Value).all (·.oneCell') = true := by simp [Value.oneCell']
theorem fields_ver : Try.prog.fieldsOf 27 = #[{ name := "Lba", type := 3, offset := 0, embedded := false, tag := "", pkgPath := "", byteOffset := 0 }, { name := "Epoch", type := 3, offset := 1, embedded := false, tag := "", pkgPath := "", byteOffset := 8 }, { name := "Slot", type := 3, offset := 2, embedded := false, tag := "", pkgPath := "", byteOffset := 16 }] := by kernel_rfl
theorem under_ver : Try.prog.underlying 27 = some (.struct (Try.prog.fieldsOf 27)) := by kernel_rfl
theorem stood_ver : Try.prog.stoodInHeld 27 = false := by kernel_rfl
theorem run_in_ver (W : World) (a b c d e f : Int) (q : Bool) (h : (decide (a = d) && (decide (b = e) && decide (c = f))) = q) :
    (Op.equalIn 10000 27 (.agg #[.int .i64 a, .int .i64 b, .int .i64 c]) (.agg #[.int .i64 d, .int .i64 e, .int .i64 f])).run Try.prog W = .ok q W := by
  have e1 : ∀ x y : Int, (Op.equalIn 9999 3 (.int .i64 x) (.int .i64 y)).run Try.prog W = .ok (x == y) W := fun x y => run_equalIn_int W 9998 3 .i64 .i64 x y Try.underlying3
  have p0 : ∀ (x y z : Int), (part 3 #[.int .i64 x, .int .i64 y, .int .i64 z] 0).run Try.prog W = .ok (.int .i64 x) W := fun x y z => by simp [part, isAgg, run_underlying Try.underlying3]
  have p1 : ∀ (x y z : Int), (part 3 #[.int .i64 x, .int .i64 y, .int .i64 z] 1).run Try.prog W = .ok (.int .i64 y) W := fun x y z => by simp [part, isAgg, run_underlying Try.underlying3]
  have p2 : ∀ (x y z : Int), (part 3 #[.int .i64 x, .int .i64 y, .int .i64 z] 2).run Try.prog W = .ok (.int .i64 z) W := fun x y z => by simp [part, isAgg, run_underlying Try.underlying3]
  rw [run_equalIn_struct W 9999 _ _ _ under_ver stood_ver, fields_ver]
  subst h
  simp only [Op.eqFields, Sem.run_bind, Sem.run_ite, p0, p1, p2, e1, Result.andThen_ok]
  by_cases h1 : a = d <;> by_cases h2 : b = e <;> by_cases h3 : c = f <;> simp [h1, h2, h3]
theorem eqv (a b : V) : (decide (a.1 = b.1) && (decide (a.2.1 = b.2.1) && decide (a.2.2 = b.2.2))) = decide (a = b) := by
  rw [← Bool.decide_and, ← Bool.decide_and, decide_eq_decide]
  exact ⟨fun h => eq_of h.1 h.2.1 h.2.2, fun h => by subst h; exact ⟨rfl, rfl, rfl⟩⟩
/-- Two versions held against each other. -/
theorem run_neq_ver (W : World) (a b : V) :
    (binOp .neq 27 (.agg #[.int .i64 a.1, .int .i64 a.2.1, .int .i64 a.2.2]) (.agg #[.int .i64 b.1, .int .i64 b.2.1, .int .i64 b.2.2])).run Try.prog W = .ok (.bool (!decide (a = b))) W := by
  rw [run_neq_struct, run_in_ver W _ _ _ _ _ _ _ (eqv a b), Result.andThen_ok]
theorem run_eql_ver (W : World) (a b : V) :
    (binOp .eql 27 (.agg #[.int .i64 a.1, .int .i64 a.2.1, .int .i64 a.2.2]) (.agg #[.int .i64 b.1, .int .i64 b.2.1, .int .i64 b.2.2])).run Try.prog W = .ok (.bool (decide (a = b))) W := by
  rw [run_eql_struct, run_in_ver W _ _ _ _ _ _ _ (eqv a b), Result.andThen_ok]
/-- All but S is as it was. -/
structure Kept (S : Nat → Prop) (w w' : World) : Prop where
  os : w'.os = w.os
  tape : w'.tape = w.tape
  output : w'.output = w.output
  size : w.heap.size ≤ w'.heap.size
  block : ∀ k, k < w.heap.size → ¬ S k → w'.heap[k]? = w.heap[k]?
theorem Kept.of_below {S : Nat → Prop} {w w' : World} (h : Below w.heap.size w w') : Kept S w w' := ⟨h.os, h.tape, h.output, h.size, fun k hk _ => h.block k hk⟩
theorem Kept.of_grown {w w' : World} {row : Option Nat} (h : w.grownBy w' row) : Kept (fun k => row = some k) w w' := ⟨h.os, h.tape, h.output, h.size, fun k hk hn => h.block k hk (fun e => hn e.symm)⟩
theorem Kept.trans' {S T : Nat → Prop} {u v w : World} (h : Kept S u v) (k : Kept T v w) (hT : ∀ i, T i → S i ∨ u.heap.size ≤ i) : Kept S u w :=
  ⟨k.os.trans h.os, k.tape.trans h.tape, k.output.trans h.output, Nat.le_trans h.size k.size, fun i hi hb => (k.block i (Nat.lt_of_lt_of_le hi h.size) (fun t => (hT i t).elim hb (by omega))).trans (h.block i hi hb)⟩
theorem Kept.trans {S : Nat → Prop} {u v w : World} (h : Kept S u v) (k : Kept S v w) : Kept S u w := h.trans' k fun _ => .inl
theorem Kept.step {S : Nat → Prop} {u v w : World} (h : Kept S u v) (k : Below v.heap.size v w) : Kept S u w := h.trans (.of_below k)
theorem Kept.set_ {S : Nat → Prop} {u w : World} (h : Kept S u w) {b : Nat} (hb : S b) (i : Nat) (v : Value) : Kept S u (w.setCell ⟨b, i, none⟩ v) :=
  h.trans ⟨rfl, rfl, rfl, by simp [World.setCell], fun k _ hk => Below.heap_setCell _ _ _ _ (fun e => hk (by have e' : k = b := e; rw [e']; exact hb))⟩
theorem Kept.below {S : Nat → Prop} {w w' : World} (h : Kept S w w') {B : Nat} (hS : ∀ k, S k → B ≤ k) (hB : B ≤ w.heap.size) : Below B w w' := ⟨h.os, h.tape, h.output, h.size, fun k hk => h.block k (by omega) (fun s => by have := hS k s; omega)⟩
/-- copy, of elements of several cells. -/
theorem run_copy_wide {P : Program} (w : World) (dT sT ty elem : TypeId) (g o dLen dCap : Nat) (a : Addr) (sLen sCap n sz : Nat) (cur : Array Value) (t : TypeId) (cs : List Value)
    (hu : P.underlying dT = some (.slice elem)) (hs : (P.info? elem).map (·.size) = some sz)
    (hg : w.heap[g]? = some (.cells cur t (0, 0))) (hn : n = Nat.min sLen dLen) (hl : cs.length = n * sz)
    (hsrc : ∀ j v, cs[j]? = some v → w.cell? (a.add j) = some v) (hfit : o + cs.length ≤ cur.size) (h1 : ∀ v ∈ cs, v.oneCell' = true) :
    (Builtin.copy_ #[dT, sT] ty #[.slice (some ⟨g, o, none⟩) dLen dCap, .slice (some a) sLen sCap]).run P w =
      .ok (goInt n) (w.setRow g (cur.toList.take o ++ cs ++ cur.toList.drop (o + cs.length)).toArray) := by
  have hld := run_loadCells_list (P := P) w a cs hsrc
  have hst := run_storeCells_at P g o t cs 0 cur w hg (by simpa using hfit) h1
  rw [hl] at hld
  cases hq : P.info? elem with
  | none => simp [hq] at hs
  | some i =>
    have hi : i.size = sz := by simpa [hq] using hs
    simp [Builtin.copy_, run_underlying hu, Builtin.lenOf, Builtin.firstCells, sizeOf, typeInfo, hq, hi, ← hn, hld, hst]
theorem wpList_copy_eq {P : Program} (w : World) {ops : Array Oper} {rest : List Oper} {o : Oper} {a : Act} {Q : Exit → Act → World → Prop} (hgd : o.guard = none) (d s : Operand) (t t' : TypeId)
    (ho : o.op = .call { callee := .builtin .copy, args := #[d, s], argTypes := #[t, t'] }) (v u : Value) (hd : a.eval d = v) (hs : a.eval s = u) {v' : Value} {w' : World}
    (hr : (Builtin.copy_ #[t, t'] o.type #[v, u]).run P w = .ok v' w') (h : wpList P ops Q rest (a.put o.dst v') w') : wpList P ops Q (o :: rest) a w := by
  refine wpList_plain hgd fun _ hK => ?_
  unfold Oper.wp execOp
  simp only [ho, resolve, invoke, builtin, Sem.run_bind, Sem.run_pure, Result.andThen_ok, List.map_toArray, List.map_cons, List.map_nil, hd, hs, hr]
  exact hK _ _ h
theorem step_copy_eq {P : Program} {ops : Array Oper} {o : Oper} {a : Act} {w : World} {K : Act → World → Prop} {Q : Exit → Act → World → Prop} {E : Prop}
    (hg : o.guard = none) (d x : Operand) (dT sT : TypeId) (hop : o.op = Op.call { callee := Callee.builtin Builtin.copy, args := #[d, x], argTypes := #[dT, sT] })
    (v u : Value) (hd : a.eval d = v) (hx : a.eval x = u) {v' : Value} {w' : World} (hr : (Builtin.copy_ #[dT, sT] o.type #[v, u]).run P w = .ok v' w') (hK : K (a.put o.dst v') w') :
    if Region.wanted o (yielded ops a.tmps) = true then Oper.wp P o a w K Q else E := by
  have hw : Region.wanted o (yielded ops a.tmps) = true := by simp [Region.wanted, hg]
  rw [if_pos hw]
  unfold Oper.wp
  simp [execOp, hop, resolve, invoke, builtin, hd, hx, hr, Result.andThen]
  exact hK
end Go.Proofs.Ytnebbbloipdnbaa.IdxC
