/- SegG SegH SegK SegL: one behind the other. -/
import Derived.Test.YtdkcebaehdkphaaGreatDoorLSegA
import Derived.Test.YtdkcebaehdkphaaGreatDoorLPrfA
import Derived.Maps.OwnSet
import Derived.Test.YtdkcebaehdkphaaGreatDoorLPrgA
import Derived.WalkSpells
import Derived.Test.YtdkcebaehdkphaaGreatDoorLPrgP
/- A map of leaves by places in memory: what it reads as; a leaf put, asked for; how many. No conditions but those that each lemma names. -/
namespace Go.Proofs.YtdkcebaehdkphaaGreatDoor.SegG
set_option linter.unusedVariables false
open Go.RowKit Go.Maps
open PrfL PrfM PrfB PrfG MerQ SSum SegN
/-- A leaf as it is read. -/
def lfD (a : Int) (s : L) : DataW Unit := .agg [.lit (.int .i64 a), .lit (.string s)]
def lfE : Value → Option (DataW Unit × List MemPlace)
  | .agg cs => match cs.toList with
    | [.int .i64 a, .string s] => some (lfD a s.data.toList, [])
    | _ => none
  | _ => none
theorem lfE_mk (a : Int) (s : L) : lfE (.agg #[.int .i64 a, st s]) = some (lfD a s, []) := rfl
theorem lfE_inv {v : Value} {z : DataW Unit × List MemPlace} (h : lfE v = some z) : ∃ a s, v = .agg #[.int .i64 a, st s] ∧ z = (lfD a s, []) := by
  unfold lfE at h
  split at h
  · rename_i cs
    split at h
    · rename_i a s hcs
      cases h
      refine ⟨a, s.data.toList, ?_, rfl⟩
      rw [st_of]
      congr 1
      exact Array.toList_inj.1 hcs
    · cases h
  · cases h
theorem lfD_inj {a b : Int} {s t : L} (h : lfD a s = lfD b t) : a = b ∧ s = t := by
  unfold lfD at h
  injection h with h
  injection h with h1 h2
  injection h1 with h1
  injection h1 with _ h1
  injection h2 with h2 _
  injection h2 with h2
  injection h2 with h2
  exact ⟨h1, h2⟩
theorem law : Keyed Tryz.prog 3 := int_keyed Tryz.underlying3
theorem zeroE (w : World) : (zeroValue 45).run Tryz.prog w = .ok (.agg #[.int .i64 0, .string ByteArray.empty]) w := by kernel_rfl
theorem zero_mk : lfE (.agg #[.int .i64 0, .string ByteArray.empty]) = some (lfD 0 [], []) := rfl
abbrev ky (i : Nat) : Lit := .int .i64 (i : Int)
theorem ky_of {i : Nat} (h : i < 4096) : keyOf Tryz.prog 3 (.int .i64 (i : Int)) = some (ky i) := keyOf_int_mk Tryz.underlying3 (WalkArith.wf_i64 (by omega))
theorem ky_ne {i j : Nat} (h : i ≠ j) : ky i ≠ ky j := fun e => by
  injection e with _ e
  omega
def cnt (C : Pl) : Nat := (lvs C 4096).length
theorem cnt_le (C : Pl) : cnt C ≤ 4096 := lvs_length C 4096
theorem cnt_upd_any (C : Pl) (b : Nat) (h : L) : ∀ k, b < k → (lvs (upd C b h) k).length = if (C b).isSome = true then (lvs C k).length else (lvs C k).length + 1
  | 0, hk => absurd hk (Nat.not_lt_zero _)
  | k + 1, hk => by
    rw [lvs, lvs, List.length_append, List.length_append]
    rcases Nat.lt_or_ge b k with h1 | h1
    · rw [cnt_upd_any C b h k h1, show one (upd C b h) k = one C k by unfold one; rw [upd_other C h (show k ≠ b by omega)]]
      split <;> omega
    · obtain rfl : b = k := by omega
      rw [lvs_eq (C := upd C b h) (D := C) (k := b) (fun i hi => upd_other C h (by omega))]
      unfold one
      rw [upd_at]
      cases C b <;> simp
theorem cnt_upd (C : Pl) {b : Nat} (hb : b < 4096) (h : L) : cnt (upd C b h) = if (C b).isSome = true then cnt C else cnt C + 1 := cnt_upd_any C b h 4096 hb
/-- Block M is a map that has just these leaves. -/
def Mp (W : World) (M : Nat) (C : Pl) : Prop :=
  ∃ D, W.ownsMap Tryz.prog 3 lfE M 4096 D ∧ Maps.size D = cnt C ∧ ∀ i : Nat, i < 4096 → Maps.has D (ky i) = (C i).isSome ∧ ∀ h, C i = some h → ∀ zd, D.atKey (ky i) zd = lfD i h
theorem Mp.lt {W : World} {M : Nat} {C : Pl} (h : Mp W M C) : M < W.heap.size := by obtain ⟨D, h1, _⟩ := h; exact h1.lt
theorem Mp.block {W W' : World} {M : Nat} {C : Pl} (h : Mp W M C) (e : W'.heap[M]? = W.heap[M]?) : Mp W' M C := by
  obtain ⟨D, ⟨es, clock, hb, r⟩, h2⟩ := h
  exact ⟨D, ⟨es, clock, e.trans hb, r⟩, h2⟩
theorem Mp.step {W W' : World} {M : Nat} {C : Pl} (h : Mp W M C) (hb : Below W.heap.size W W') : Mp W' M C := h.block (hb.block M h.lt)
theorem mp_new (w : World) : Mp (w.alloc (.map #[] 0)) w.heap.size non :=
  ⟨.map [], (World.ownsMap_made w _ _ _).mono (Nat.zero_le _), by unfold cnt; rw [lvs_none]; rfl, fun i hi => ⟨rfl, fun h e => by simp [non] at e⟩⟩
/-- A bound is how many there are. -/
theorem tight {P : Program} {k : TypeId} {R : Value → Option (DataW Unit × List MemPlace)} {w : World} {b n : Nat} {D : DataW Unit} (h : w.ownsMap P k R b n D) : w.ownsMap P k R b (Maps.size D) D := by
  obtain ⟨es, clock, hb, F, hs, hD⟩ := h
  refine ⟨es, clock, hb, F, ?_, hD⟩
  rw [hD]
  show es.size ≤ List.length _
  rw [length_read]
  exact Nat.le_refl _
/-- All but block M is as it was. -/
structure Bum (M : Nat) (w w' : World) : Prop where
  os : w'.os = w.os
  tape : w'.tape = w.tape
  output : w'.output = w.output
  size : w.heap.size ≤ w'.heap.size
  block : ∀ k, k < w.heap.size → k ≠ M → w'.heap[k]? = w.heap[k]?
theorem Bum.below {M base : Nat} {w w' : World} (h : Bum M w w') (hM : base ≤ M) (hs : base ≤ w.heap.size) : Below base w w' := ⟨h.os, h.tape, h.output, h.size, fun k hk => h.block k (by omega) (by omega)⟩
theorem Bum.of_below {M : Nat} {w w' : World} (h : Below w.heap.size w w') : Bum M w w' := ⟨h.os, h.tape, h.output, h.size, fun k hk _ => h.block k hk⟩
theorem Bum.trans {M : Nat} {u v w : World} (h : Bum M u v) (k : Bum M v w) : Bum M u w := ⟨k.os.trans h.os, k.tape.trans h.tape, k.output.trans h.output, Nat.le_trans h.size k.size, fun i hi hb => (k.block i (Nat.lt_of_lt_of_le hi h.size) hb).trans (h.block i hi hb)⟩
theorem Bum.after {M : Nat} {u v w : World} (h : Below u.heap.size u v) (k : Bum M v w) : Bum M u w := (Bum.of_below h).trans k
/-- 'm[b] = leaf'. -/
theorem wpList_put {ops : Array Oper} {rest : List Oper} {o : Oper} {a : Act} {Q : Exit → Act → World → Prop} (w : World)
    (hg : o.guard = none) (m x v : Operand) (hop : o.op = Op.mapUpdate 58 m x v) (M : Nat) (C : Pl) (hM : Mp w M C) (b : Nat) (hb : b < 4096) (h : L)
    (hm : a.eval m = .map (some M)) (hx : a.eval x = .int .i64 (b : Int)) (hv : a.eval v = .agg #[.int .i64 (b : Int), st h])
    (hK : ∀ w', Mp w' M (upd C b h) → Bum M w w' → wpList Tryz.prog ops Q rest (a.put o.dst undef) w') :
    wpList Tryz.prog ops Q (o :: rest) a w := by
  obtain ⟨D, h1, h2, h3⟩ := hM
  refine wpList_mapUpdate_own w hg m x v 58 hop 3 45 law Tryz.underlying58 lfE M 4096 D hm h1 (by decide) _ _ (ky b) hx hv (ky_of hb) (lfD b h) [] (lfE_mk _ _) ?_
  intro w' k1 k2
  have kb : WideAt.IsKeyLit (ky b) := trivial
  have hsz : Maps.size (D.put (ky b) (lfD b h)) = cnt (upd C b h) := by
    rw [size_put (h1.tidy law), (h3 b hb).1, h2, cnt_upd C hb h]
  refine hK w' ⟨_, (tight k1).mono (by rw [hsz]; exact cnt_le _), hsz, fun i hi => ?_⟩ ⟨k2.os, k2.tape, k2.output, k2.size, fun k hk hne => k2.block k hk (fun e => hne (Option.some.inj e))⟩
  by_cases e : i = b
  · subst e
    rw [upd_at]
    refine ⟨has_put_same h1.isMap kb _, fun y hy zd => ?_⟩
    injection hy with hy
    subst hy
    exact atKey_put_same h1.isMap kb _ _
  · rw [upd_other C h e]
    refine ⟨(has_put_other (ky_ne e) _).trans (h3 i hi).1, fun y hy zd => ?_⟩
    exact (atKey_put_other (ky_ne e) _ _).trans ((h3 i hi).2 y hy zd)
/-- 'leaf, ok := m[i]'. -/
theorem lookM {w : World} {M : Nat} {C : Pl} (hM : Mp w M C) {i : Nat} (hi : i < 4096) :
    (Instr.lookup 58 (.map (some M)) (.int .i64 (i : Int)) true).run Tryz.prog w = .ok (.tuple #[match C i with | some h => .agg #[.int .i64 (i : Int), st h] | none => .agg #[.int .i64 0, .string ByteArray.empty], .bool (C i).isSome]) w := by
  obtain ⟨D, h1, h2, h3⟩ := hM
  obtain ⟨v, ps, hr, hv⟩ := h1.look_ok law Tryz.underlying58 (zeroE w) zero_mk (ky_of hi)
  rw [hr, (h3 i hi).1]
  obtain ⟨a, s, rfl, he⟩ := lfE_inv hv
  replace he := (Prod.mk.inj he).1
  cases hc : C i with
  | none =>
    have h0 := (h3 i hi).1
    rw [hc] at h0
    rw [atKey_of_not_has (by simpa using h0)] at he
    obtain ⟨rfl, rfl⟩ := lfD_inj he
    rfl
  | some h =>
    rw [(h3 i hi).2 h hc] at he
    obtain ⟨rfl, rfl⟩ := lfD_inj he
    rfl
/-- 'len(m)'. -/
theorem wpList_count {ops : Array Oper} {rest : List Oper} {o : Oper} {a : Act} {Q : Exit → Act → World → Prop} (w : World)
    (hg : o.guard = none) (m : Operand) (hop : o.op = Op.call { callee := Callee.builtin Builtin.len, args := #[m], argTypes := #[58] }) (M : Nat) (C : Pl) (hM : Mp w M C) (hm : a.eval m = .map (some M))
    (hK : wpList Tryz.prog ops Q rest (a.put o.dst (.int .i64 (cnt C : Nat))) w) :
    wpList Tryz.prog ops Q (o :: rest) a w := by
  obtain ⟨D, h1, h2, h3⟩ := hM
  refine wpList_len_own w hg m 58 hop 3 45 Tryz.underlying58 lfE M 4096 D hm h1 ?_
  rw [h2]
  exact hK
/-- A segment of the program's in its block. -/
structure Seg (B : Nat) (ep : Int) (M : Nat) (C : Pl) (W : World) : Prop where
  head : W.heap[B]? = some (.cells #[.int .i64 ep, .map (some M)] 60 (0, 0))
  map : Mp W M C
theorem Seg.lt {B : Nat} {ep : Int} {M : Nat} {C : Pl} {W : World} (h : Seg B ep M C W) : B < W.heap.size := (Array.getElem?_eq_some_iff.1 h.head).1
theorem Seg.ne {B : Nat} {ep : Int} {M : Nat} {C : Pl} {W : World} (h : Seg B ep M C W) : B ≠ M := fun e => by
  obtain ⟨D, ⟨es, clock, hb, _⟩, _⟩ := h.map
  have := h.head
  rw [e, hb] at this
  injection this with this
  cases this
theorem Seg.step {B : Nat} {ep : Int} {M : Nat} {C : Pl} {W W' : World} (h : Seg B ep M C W) (hb : Below W.heap.size W W') : Seg B ep M C W' := ⟨(hb.block B h.lt).trans h.head, h.map.step hb⟩
theorem Seg.cells {B : Nat} {ep : Int} {M : Nat} {C : Pl} {W : World} (h : Seg B ep M C W) : W.cell? ⟨B, 0, none⟩ = some (.int .i64 ep) ∧ W.cell? ⟨B, 1, none⟩ = some (.map (some M)) := ⟨blk_cell h.head rfl, blk_cell h.head rfl⟩
/-- A segment stays where another block is written. -/
theorem Seg.other {B : Nat} {ep : Int} {M N : Nat} {C : Pl} {W W' : World} (h : Seg B ep M C W) (hb : Bum N W W') (h1 : N ≠ B) (h2 : N ≠ M) : Seg B ep M C W' :=
  ⟨(hb.block B h.lt (fun e => h1 e.symm)).trans h.head, h.map.block (hb.block M h.map.lt (fun e => h2 e.symm))⟩
/-- A segment that no call made. -/
def Raw0 (B : Nat) (W : World) : Prop := W.heap[B]? = some (.cells #[.int .i64 0, .map none] 60 (0, 0))
theorem Raw0.lt {B : Nat} {W : World} (h : Raw0 B W) : B < W.heap.size := (Array.getElem?_eq_some_iff.1 h).1
theorem Raw0.step {B : Nat} {W W' : World} (h : Raw0 B W) (hb : Below W.heap.size W W') : Raw0 B W' := (hb.block B h.lt).trans h
end Go.Proofs.YtdkcebaehdkphaaGreatDoor.SegG
/- The program's package segment: isNone, within, Count, Epoch, New: the walks of their texts. No conditions but those that each lemma names. -/
namespace Go.Proofs.YtdkcebaehdkphaaGreatDoor.SegH
set_option linter.unusedVariables false
open Go.RowKit
open PrfL PrfM PrfB PrgC PrgK MerQ SegN SegG
set_option maxRecDepth 100000 in
theorem map_nil (r : Option Nat) (w : World) : (binOp .eql 58 (.map r) (.map none)).run Tryz.prog w = .ok (.bool r.isNone) w := run_eql_map_nil w _ _ _ r Tryz.underlying58
set_option maxRecDepth 100000 in
theorem isNone_seg {B : Nat} {ep : Int} {M : Nat} {C : Pl} {w : World} (h : Seg B ep M C w) : Calls Tryz.prog 25 #[.pointer (some ⟨B, 0, none⟩)] w fun e w' => e = .returned (.bool false) ∧ w = w' := by
  obtain ⟨_, c1⟩ := h.cells
  have hq := map_nil (some M) w
  clear h
  go_enter Tryz.func25, Tryz.ntmps25
  go_wp2
  go_ret
  exact ⟨rfl, rfl⟩
set_option maxRecDepth 100000 in
theorem isNone_raw {B : Nat} {w : World} (h : Raw0 B w) : Calls Tryz.prog 25 #[.pointer (some ⟨B, 0, none⟩)] w fun e w' => e = .returned (.bool true) ∧ w = w' := by
  have c1 : w.cell? ⟨B, 1, none⟩ = some (.map none) := blk_cell h rfl
  have hq := map_nil none w
  clear h
  go_enter Tryz.func25, Tryz.ntmps25
  go_wp2
  go_ret
  exact ⟨rfl, rfl⟩
set_option maxRecDepth 100000 in
theorem isNone_nil (w : World) : Calls Tryz.prog 25 #[.pointer none] w fun e w' => e = .returned (.bool true) ∧ w = w' := by
  go_enter Tryz.func25, Tryz.ntmps25
  go_wp2
  go_ret
  exact ⟨rfl, rfl⟩
/-- A pointer to none, or to a segment that no call made. -/
def Nil (p : Option Addr) (w : World) : Prop := p = none ∨ ∃ B, p = some ⟨B, 0, none⟩ ∧ Raw0 B w
theorem Nil.step {p : Option Addr} {w w' : World} (h : Nil p w) (hb : Below w.heap.size w w') : Nil p w' := by
  rcases h with h | ⟨B, h1, h2⟩
  · exact .inl h
  · exact .inr ⟨B, h1, h2.step hb⟩
set_option maxRecDepth 100000 in
theorem isNone_none {p : Option Addr} {w : World} (h : Nil p w) : Calls Tryz.prog 25 #[.pointer p] w fun e w' => e = .returned (.bool true) ∧ w = w' := by
  rcases h with rfl | ⟨B, rfl, h⟩
  · exact isNone_nil w
  · exact isNone_raw h
set_option maxRecDepth 100000 in
theorem inside (n m : Int) (w : World) : Calls Tryz.prog 24 #[.int .i64 n, .int .i64 m] w fun e w' => e = .returned (.bool (inB n m)) ∧ w = w' := by
  unfold inB
  by_cases h0 : 0 ≤ n
  · by_cases h1 : n ≤ m
    · rw [decide_eq_true h0, decide_eq_true h1]
      go_enter Tryz.func24, Tryz.ntmps24
      go_wp2
      go_ret
      exact ⟨rfl, rfl⟩
    · have h1' : m < n := by omega
      rw [decide_eq_true h0, decide_eq_false h1]
      go_enter Tryz.func24, Tryz.ntmps24
      go_wp2
      go_ret
      exact ⟨rfl, rfl⟩
  · have h0' : n < 0 := by omega
    rw [decide_eq_false h0]
    go_enter Tryz.func24, Tryz.ntmps24
    go_wp2
    go_ret
    exact ⟨rfl, rfl⟩
set_option maxRecDepth 100000 in
theorem Count {B : Nat} {ep : Int} {M : Nat} {C : Pl} {w : World} (h : Seg B ep M C w) : Calls Tryz.prog 13 #[.pointer (some ⟨B, 0, none⟩)] w fun e w' => e = .returned (.int .i64 (cnt C : Nat)) ∧ w = w' := by
  obtain ⟨_, c1⟩ := h.cells
  have HN := Lib.hid (isNone_seg h)
  have HM := Lib.hid h.map
  clear h
  go_enter Tryz.func13, Tryz.ntmps13
  go_wp2_with (first
    | (go_at_call 25; refine HN.out.mono ?_; rintro e _ ⟨rfl, rfl⟩)
    | (at_len; refine wpList_count _ rfl _ rfl M C HM.out rfl ?_))
  go_ret
  exact ⟨rfl, rfl⟩
set_option maxRecDepth 100000 in
theorem Count_nil {p : Option Addr} {w : World} (h : Nil p w) : Calls Tryz.prog 13 #[.pointer p] w fun e w' => e = .returned (.int .i64 0) ∧ w = w' := by
  have HN := Lib.hid (isNone_none h)
  clear h
  go_enter Tryz.func13, Tryz.ntmps13
  go_wp2_with (go_at_call 25; refine HN.out.mono ?_; rintro e _ ⟨rfl, rfl⟩)
  go_ret
  exact ⟨rfl, rfl⟩
set_option maxRecDepth 100000 in
theorem Epoch {B : Nat} {ep : Int} {M : Nat} {C : Pl} {w : World} (h : Seg B ep M C w) : Calls Tryz.prog 14 #[.pointer (some ⟨B, 0, none⟩)] w fun e w' => e = .returned (.int .i64 ep) ∧ w = w' := by
  obtain ⟨c0, _⟩ := h.cells
  have HN := Lib.hid (isNone_seg h)
  clear h
  go_enter Tryz.func14, Tryz.ntmps14
  go_wp2_with (go_at_call 25; refine HN.out.mono ?_; rintro e _ ⟨rfl, rfl⟩)
  go_ret
  exact ⟨rfl, rfl⟩
set_option maxRecDepth 100000 in
theorem Epoch_nil {p : Option Addr} {w : World} (h : Nil p w) : Calls Tryz.prog 14 #[.pointer p] w fun e w' => e = .returned (.int .i64 0) ∧ w = w' := by
  have HN := Lib.hid (isNone_none h)
  clear h
  go_enter Tryz.func14, Tryz.ntmps14
  go_wp2_with (go_at_call 25; refine HN.out.mono ?_; rintro e _ ⟨rfl, rfl⟩)
  go_ret
  exact ⟨rfl, rfl⟩
set_option maxRecDepth 100000 in
theorem New_no (ep : Int) (w : World) (h : inB ep 4294967295 = false) : Calls Tryz.prog 8 #[.int .i64 ep] w fun e w' => e = .returned (.tuple #[.pointer none, .int .i64 2]) ∧ Below w.heap.size w w' := by
  have HW := Lib.hid (fun W => inside ep 4294967295 W)
  rw [h] at HW
  clear h
  go_enter Tryz.func8, Tryz.ntmps8
  go_wp2_with (go_at_call 24; refine (HW.out _).mono ?_; rintro e _ ⟨rfl, rfl⟩)
  go_ret2
  exact ⟨rfl, Below.refl _ _⟩
set_option maxRecDepth 100000 in
theorem New_yes (ep : Int) (w : World) (h : inB ep 4294967295 = true) : Calls Tryz.prog 8 #[.int .i64 ep] w fun e w' => ∃ B M, e = .returned (.tuple #[.pointer (some ⟨B, 0, none⟩), .int .i64 0]) ∧ Seg B ep M non w' ∧ w.heap.size ≤ B ∧ w.heap.size ≤ M ∧ Below w.heap.size w w' := by
  have HW := Lib.hid (fun W => inside ep 4294967295 W)
  rw [h] at HW
  have hmm := @run_makeMap Tryz.prog
  clear h
  go_enter Tryz.func8, Tryz.ntmps8
  go_wp2_with (go_at_call 24; refine (HW.out _).mono ?_; rintro e _ ⟨rfl, rfl⟩)
  go_ret2
  have b1 : Below w.heap.size w ((w.alloc (.map #[] 0)).alloc (.cells #[.int .i64 ep, .map (some w.heap.size)] 60)) := ((Below.refl _ _).alloc (Nat.le_refl _) _).alloc (by simp) _
  have h2 := heap_alloc2_new w (.map #[] 0) (.cells #[.int .i64 ep, .map (some w.heap.size)] 60)
  refine ⟨w.heap.size + 1, w.heap.size, rfl, ⟨h2, (mp_new w).block ?_⟩, by omega, Nat.le_refl _, b1⟩
  exact heap_alloc_old _ _ (by simp)
end Go.Proofs.YtdkcebaehdkphaaGreatDoor.SegH
/- The program's Leaves of a segment: the walk of its text. No conditions but those that each lemma names. -/
namespace Go.Proofs.YtdkcebaehdkphaaGreatDoor.SegK
set_option linter.unusedVariables false
open Go.RowKit
open PrfL PrfM PrfB PrgC PrgK MerQ MerJ SegN SegR SegG SegH
theorem Leaves_nil {p : Option Addr} {w : World} (h : Nil p w) : Calls Tryz.prog 12 #[.pointer p] w fun e w' => e = .returned (.slice none 0 0) ∧ w = w' := by
  have HN := Lib.hid (isNone_none h)
  clear h
  go_enter Tryz.func12, Tryz.ntmps12
  go_wp2_with (go_at_call 25; refine HN.out.mono ?_; rintro e _ ⟨rfl, rfl⟩)
  go_ret
  exact ⟨rfl, rfl⟩
theorem lvs_yes {C : Pl} {k : Nat} {h : L} (e : C k = some h) : lvs C (k + 1) = lvs C k ++ [((k : Int), h)] := by
  rw [lvs, one, e]
theorem lvs_no {C : Pl} {k : Nat} (e : C k = none) : lvs C (k + 1) = lvs C k := by
  rw [lvs, one, e, List.append_nil]
set_option maxRecDepth 100000 in
set_option maxHeartbeats 4000000 in
theorem Leaves {B : Nat} {ep : Int} {M : Nat} {C : Pl} {w : World} (h : Seg B ep M C w) : Calls Tryz.prog 12 #[.pointer (some ⟨B, 0, none⟩)] w fun e w' =>
    ∃ p c, e = .returned (.slice p (lvs C 4096).length c) ∧ w'.ownsRow w.heap.size 45 2 (.slice p (lvs C 4096).length c) (lvs C 4096).length (rl (lvs C 4096)) ∧ Below w.heap.size w w' := by
  obtain ⟨i0, hi, hz0, hz1, hz2⟩ := info_parts info_leaf
  have HI := Lib.hid hi
  have HZ := Lib.hid hz0
  have HZ1 := Lib.hid hz1
  have HZ2 := Lib.hid hz2
  have HN := Lib.hid (isNone_seg h)
  have HS := Lib.hid h
  have hcnt := cnt_le C
  obtain ⟨k0, k1⟩ := h.cells
  clear h hi hz0 hz1 hz2
  go_enter Tryz.func12, Tryz.ntmps12
  go_wp2_with (first
    | (go_at_call 25; refine HN.out.mono ?_; rintro e _ ⟨rfl, rfl⟩)
    | (at_len; refine wpList_count _ rfl _ rfl M C HS.out.map rfl ?_)
    | (at_make; refine wpList_make_own w rfl _ _ 30 rfl w.heap.size 45 i0 (.agg #[.int .i64 0, .string ByteArray.empty]) 2 Tryz.underlying30 HI.out HZ.out HZ1.out .i64 .i64 (cnt C : Int) (cnt C) rfl rfl rfl (by rw [HZ2.out]; omega) (by unfold maxLen; omega) (Nat.le_refl _) ?_; intro w3 hown3 hg3))
  have O3 := Lib.hid hown3
  have B3 := Lib.hid ((Below.refl w.heap.size w).grown hg3 (Nat.le_refl _) (fun k e => by cases e))
  clear hown3 hg3 k0 k1
  go_loopw [3, 15] (fun ov iv wr => ∃ (k : Nat) (p : Option Addr) (cp : Nat), k ≤ 4096 ∧ iv = .int .i64 k ∧ ov = .slice p (lvs C k).length cp ∧ wr.ownsRow w.heap.size 45 2 (.slice p (lvs C k).length cp) (lvs C k).length (rl (lvs C k)) ∧ Below w.heap.size w wr) (fun _ iv _ => 4096 - (intOf iv).toNat)
  case atStart => exact ⟨0, _, _, Nat.zero_le _, rfl, rfl, O3.out, B3.out⟩
  case round =>
    obtain ⟨k, p, cp, hk, rfl, rfl, ho, hb⟩ := hrel
    have HB := Lib.hid hb
    have HO := Lib.hid ho
    clear hb ho
    have hll := lvs_length C k
    by_cases hlt : k < 4096
    · have q0 : (0 : Int) ≤ (k : Int) := by omega
      have q1 : (k : Int) < 4096 := by omega
      have HSw := Lib.hid (HS.out.step HB.out)
      obtain ⟨k0, k1⟩ := HSw.out.cells
      have hlk := lookM HSw.out.map hlt
      cases hc : C k with
      | none =>
        rw [hc] at hlk
        dsimp only [Option.isSome] at hlk
        have HE := Lib.hid (lvs_no hc)
        clear hc
        go_wp2_with (refine wpList_store_row rfl 45 _ _ rfl wr.heap.size _ rfl rfl 45 _ (heap_alloc_new wr _) infoL rfl (two 0 []) ?_)
        go_roundw
        case rel =>
          refine ⟨k + 1, p, cp, by omega, by go_num, by rw [HE.out], ?_, ?_⟩
          · rw [HE.out]; exact own_later HO.out (kept_new wr _ _ _)
          · exact HB.out.trans ((kept_new wr _ _ _).mono HB.out.size)
        case measure => simp [intOf]; omega
      | some hh =>
        rw [hc] at hlk
        dsimp only [Option.isSome] at hlk
        have HE := Lib.hid (lvs_yes hc)
        clear hc
        generalize lvs C k = l at *
        go_upto_region 8 with (refine wpList_store_row rfl 45 _ _ rfl wr.heap.size _ rfl rfl 45 _ (heap_alloc_new wr _) infoL rfl (two (k : Int) hh) ?_)
        generalize hW : World.setRow _ _ _ = W4
        have b4 : Below wr.heap.size wr W4 := by rw [← hW]; exact kept_new wr _ _ _
        have g4 : W4.heap[wr.heap.size]? = some (.cells #[.int .i64 (k : Int), st hh] 45 (0, 0)) := by rw [← hW]; exact has_new wr _ _ _
        clear hW
        have B4 := Lib.hid (HB.out.trans (b4.mono HB.out.size))
        have O4 := Lib.hid (own_later HO.out b4)
        have G4 := Lib.hid g4
        clear b4 g4 k0 k1 hlk
        go_wp2_with (first
          | (refine wpList_load_row rfl 45 _ rfl wr.heap.size rfl 45 _ (0, 0) _ G4.out Tryz.underlying45 rfl infoL ?_)
          | (at_builtin; refine append_leaf _ rfl _ _ rfl w.heap.size _ _ l ((k : Int), hh) rfl (by omega) B4.out.size rfl O4.out ?_; intro p5 c5 w5 ho hb; have O5 := Lib.hid ho; have B5 := Lib.hid (B4.out.trans hb); clear ho hb))
        go_roundw
        case rel =>
          refine ⟨k + 1, p5, c5, by omega, by go_num, ?_, ?_, B5.out⟩
          · rw [HE.out] <;> first | rfl | (simp only [List.length_append, List.length_cons, List.length_nil])
          · rw [HE.out]; exact O5.out
        case measure => simp [intOf]; omega
    · obtain rfl : k = 4096 := by omega
      have q1 : ¬ ((4096 : Nat) : Int) < 4096 := by omega
      go_wp2_with fail
      go_ret
      exact ⟨p, cp, rfl, HO.out, HB.out⟩
end Go.Proofs.YtdkcebaehdkphaaGreatDoor.SegK
/- The program's Root and Prove of a segment: the walks of their texts. The condition: the rounds' numbers lie in the program's variable. -/
namespace Go.Proofs.YtdkcebaehdkphaaGreatDoor.SegL
set_option linter.unusedVariables false
open Go.RowKit STurn
open PrfL PrfN PrfM PrfB PrgC PrgK PrgO PrgP PrgQ PrgR MerQ MerJ MerA SegN SegR SegG SegH SegK
/-- Each hash has 32 bytes. -/
def Good (C : Pl) : Prop := ∀ i x, C i = some x → x.length = 32
theorem good_right {C : Pl} (h : Good C) : right (lvs C 4096) = true := lvs_right (Nat.le_refl _) h
theorem good_fit {C : Pl} (h : Good C) : ∀ x ∈ lvs C 4096, Fit x := fun x hx => by
  have := h _ _ (lvs_mem hx).2.2
  unfold Fit maxLen
  omega
theorem own_lvs {C : Pl} (h : Good C) {W : World} {base c : Nat} {p : Option Addr} (ho : W.ownsRow base 45 2 (.slice p (lvs C 4096).length c) (lvs C 4096).length (rl (lvs C 4096))) : Lvs W p (lvs C 4096).length (lvs C 4096) :=
  ⟨rfl, by have := lvs_length C 4096; unfold maxLen; omega, good_fit h, own_lies ho⟩
theorem Root_nil {p : Option Addr} {w : World} (h : Nil p w) : Calls Tryz.prog 15 #[.pointer p] w fun e w' => e = .returned (.string ⟨#[]⟩) ∧ w = w' := by
  have HN := Lib.hid (isNone_none h)
  clear h
  go_enter Tryz.func15, Tryz.ntmps15
  go_wp2_with (go_at_call 25; refine HN.out.mono ?_; rintro e _ ⟨rfl, rfl⟩)
  go_ret
  exact ⟨rfl, rfl⟩
theorem Root {B : Nat} {ep : Int} {M : Nat} {C : Pl} {w : World} (h : Seg B ep M C w) (hg : Good C) (hr : Rds w) : Calls Tryz.prog 15 #[.pointer (some ⟨B, 0, none⟩)] w fun e w' => e = .returned (st (rt (lvs C 4096))) ∧ Below w.heap.size w w' := by
  have HN := Lib.hid (isNone_seg h)
  have HL := Lib.hid (SegK.Leaves h)
  have hlen := lvs_length C 4096
  have HR := Lib.hid (fun p c W (ho : W.ownsRow w.heap.size 45 2 (.slice p (lvs C 4096).length c) (lvs C 4096).length (rl (lvs C 4096))) (hb : Below w.heap.size w W) => PrgR.Root p (lvs C 4096).length c (lvs C 4096) W (own_lvs hg ho) (by omega) (hr.step hb))
  have hrt : rootP (lvs C 4096) = (rt (lvs C 4096), 0) := if_pos (good_right hg)
  rw [hrt] at HR
  clear h hg hr hrt
  dsimp only at HR
  generalize rt (lvs C 4096) = r at *
  generalize lvs C 4096 = l at *
  go_enter Tryz.func15, Tryz.ntmps15
  go_wp2_with (first
    | (go_at_call 25; refine HN.out.mono ?_; rintro e _ ⟨rfl, rfl⟩)
    | (go_at_call 12; refine HL.out.mono ?_; rintro e w1 ⟨p, c, rfl, ho, hb⟩; have O1 := Lib.hid ho; have B1 := Lib.hid hb; clear ho hb)
    | (go_at_call 26; refine (HR.out p c _ O1.out B1.out).mono ?_; rintro e w2 ⟨rfl, hb⟩; have B2 := Lib.hid (B1.out.trans (hb.mono B1.out.size)); clear hb))
  go_ret
  exact ⟨rfl, B2.out⟩
theorem zero_new (w : World) : (w.alloc (.cells #[.bool false, .int .i64 0, .int .i64 0, .string ⟨#[]⟩, .int .i64 0, .string ⟨#[]⟩, .slice none 0 0, .slice none 0 0] 48)).heap[w.heap.size]? = some (.cells zeroRaw.cells 48 (0, 0)) := heap_alloc_new w _
theorem Prove_nil {p : Option Addr} {w : World} (h : Nil p w) (b : Int) : Calls Tryz.prog 18 #[.pointer p, .int .i64 b] w fun e w' => e = .returned (.tuple #[.agg zeroRaw.cells, .int .i64 1]) ∧ Below w.heap.size w w' := by
  obtain ⟨W1, hW1⟩ : ∃ W1, W1 = w.alloc (.cells #[.bool false, .int .i64 0, .int .i64 0, .string ⟨#[]⟩, .int .i64 0, .string ⟨#[]⟩, .slice none 0 0, .slice none 0 0] 48) := ⟨_, rfl⟩
  have b1 : Below w.heap.size w W1 := by rw [hW1]; exact below_new w _
  have r1 : W1.heap[w.heap.size]? = some (.cells zeroRaw.cells 48 (0, 0)) := by rw [hW1]; exact zero_new w
  have B1 := Lib.hid b1
  have R1 := Lib.hid r1
  have HN := Lib.hid (isNone_none (h.step b1))
  clear h b1 r1
  go_enter Tryz.func18, Tryz.ntmps18
  go_upto_region 1 with (fail)
  rw [← hW1]
  clear hW1
  go_wp2_with (first
    | (go_at_call 25; refine HN.out.mono ?_; rintro e _ ⟨rfl, rfl⟩)
    | (refine wpList_store_row rfl 48 _ _ rfl w.heap.size zeroRaw.cells rfl rfl 48 _ R1.out infoP rfl (oneP _) ?_))
  refine bodyPost_ret (v := .tuple #[.agg zeroRaw.cells, .int .i64 1])
    (results_cell_tmp_row Tryz.results18 _ _ w.heap.size 48 _ (0, 0) _ rfl (setRow_same R1.out) Tryz.underlying48 rfl infoP) rfl
    ⟨rfl, below_setRow B1.out (Nat.le_refl _) _⟩
theorem Prove_ok {B : Nat} {ep : Int} {M : Nat} {C : Pl} {w : World} (h : Seg B ep M C w) (hg : Good C) (hr : Rds w) (b : Int) (hb : 0 ≤ b ∧ b ≤ 4095) : Calls Tryz.prog 18 #[.pointer (some ⟨B, 0, none⟩), .int .i64 b] w (ProveOk w (prove (lvs C 4096) b)) := by
  obtain ⟨W1, hW1⟩ : ∃ W1, W1 = w.alloc (.cells #[.bool false, .int .i64 0, .int .i64 0, .string ⟨#[]⟩, .int .i64 0, .string ⟨#[]⟩, .slice none 0 0, .slice none 0 0] 48) := ⟨_, rfl⟩
  have b1 : Below w.heap.size w W1 := by rw [hW1]; exact below_new w _
  have r1 : W1.heap[w.heap.size]? = some (.cells zeroRaw.cells 48 (0, 0)) := by rw [hW1]; exact zero_new w
  have lr1 : w.heap.size < W1.heap.size := (Array.getElem?_eq_some_iff.1 r1).1
  have h1 := h.step b1
  have hlen := lvs_length C 4096
  have B1 := Lib.hid b1
  have HR := Lib.hid (fun W (hb : Below W1.heap.size W1 W) => (hb.block _ lr1).trans r1)
  have HN := Lib.hid (isNone_seg h1)
  have HL := Lib.hid (SegK.Leaves h1)
  have HP := Lib.hid (fun p c W (ho : W.ownsRow W1.heap.size 45 2 (.slice p (lvs C 4096).length c) (lvs C 4096).length (rl (lvs C 4096))) (hb' : Below W1.heap.size W1 W) => PrgQ.Prove_ok p (lvs C 4096).length c (lvs C 4096) b W (own_lvs hg ho) (by omega) ((hr.step b1).step hb') (by unfold canB; rw [good_right hg, in_yes hb]; rfl))
  have HLR := Lib.hid lr1
  clear h h1 hr hg b1 r1 lr1
  generalize prove (lvs C 4096) b = pr at *
  generalize lvs C 4096 = l at *
  go_enter Tryz.func18, Tryz.ntmps18
  go_upto_region 1 with (fail)
  rw [← hW1]
  clear hW1
  go_wp2_with (first
    | (go_at_call 25; refine HN.out.mono ?_; rintro e _ ⟨rfl, rfl⟩)
    | (go_at_call 12; refine HL.out.mono ?_; rintro e w2 ⟨p, c, rfl, ho, hb⟩; have O2 := Lib.hid ho; have B2 := Lib.hid hb; clear ho hb)
    | (go_at_call 30; refine (HP.out p c _ O2.out B2.out).mono ?_; rintro e w3 ⟨x, rfl, hx, hs1, hs2, hb⟩; have S1 := Lib.hid hs1; have S2 := Lib.hid hs2; have HX := Lib.hid hx; have B3 := Lib.hid (B2.out.trans (hb.mono B2.out.size)); clear hs1 hs2 hx hb HP)
    | (refine wpList_store_row rfl 48 _ _ rfl w.heap.size x.cells rfl rfl 48 _ (HR.out _ B3.out) infoP rfl (oneP _) ?_))
  have H2 := Lib.hid (show w.heap.size < w2.heap.size from Nat.lt_of_lt_of_le HLR.out B2.out.size)
  have R3 := Lib.hid (HR.out _ B3.out)
  refine bodyPost_ret (v := .tuple #[.agg x.cells, .int .i64 0])
    (results_cell_tmp_row Tryz.results18 _ _ w.heap.size 48 _ (0, 0) _ rfl (setRow_same R3.out) Tryz.underlying48 rfl infoP) rfl
    ⟨x, rfl, HX.out, own_base (own_at S1.out fun k hk => setRow_far (by have := (S1.out.lt k hk).1; have := H2.out; omega)) (Nat.le_of_lt H2.out), own_base (own_at S2.out fun k hk => setRow_far (by have := (S2.out.lt k hk).1; have := H2.out; omega)) (Nat.le_of_lt H2.out), below_setRow (B1.out.trans (B3.out.mono B1.out.size)) (Nat.le_refl _) _⟩
theorem Prove_no {B : Nat} {ep : Int} {M : Nat} {C : Pl} {w : World} (h : Seg B ep M C w) (hg : Good C) (hr : Rds w) (b : Int) (hb : ¬ (0 ≤ b ∧ b ≤ 4095)) : Calls Tryz.prog 18 #[.pointer (some ⟨B, 0, none⟩), .int .i64 b] w fun e w' => e = .returned (.tuple #[.agg zeroRaw.cells, .int .i64 2]) ∧ Below w.heap.size w w' := by
  obtain ⟨W1, hW1⟩ : ∃ W1, W1 = w.alloc (.cells #[.bool false, .int .i64 0, .int .i64 0, .string ⟨#[]⟩, .int .i64 0, .string ⟨#[]⟩, .slice none 0 0, .slice none 0 0] 48) := ⟨_, rfl⟩
  have b1 : Below w.heap.size w W1 := by rw [hW1]; exact below_new w _
  have r1 : W1.heap[w.heap.size]? = some (.cells zeroRaw.cells 48 (0, 0)) := by rw [hW1]; exact zero_new w
  have lr1 : w.heap.size < W1.heap.size := (Array.getElem?_eq_some_iff.1 r1).1
  have h1 := h.step b1
  have hlen := lvs_length C 4096
  have B1 := Lib.hid b1
  have HR := Lib.hid (fun W (hb : Below W1.heap.size W1 W) => (hb.block _ lr1).trans r1)
  have HN := Lib.hid (isNone_seg h1)
  have HL := Lib.hid (SegK.Leaves h1)
  have HP := Lib.hid (fun p c W (ho : W.ownsRow W1.heap.size 45 2 (.slice p (lvs C 4096).length c) (lvs C 4096).length (rl (lvs C 4096))) (hb' : Below W1.heap.size W1 W) => PrgQ.Prove_no p (lvs C 4096).length c (lvs C 4096) b W (own_lvs hg ho) (by omega) ((hr.step b1).step hb') (by unfold canB; rw [good_right hg, in_no hb]; rfl))
  clear h h1 hr hg b1 r1 lr1 hb
  generalize lvs C 4096 = l at *
  go_enter Tryz.func18, Tryz.ntmps18
  go_upto_region 1 with (fail)
  rw [← hW1]
  clear hW1
  go_wp2_with (first
    | (go_at_call 25; refine HN.out.mono ?_; rintro e _ ⟨rfl, rfl⟩)
    | (go_at_call 12; refine HL.out.mono ?_; rintro e w2 ⟨p, c, rfl, ho, hb⟩; have O2 := Lib.hid ho; have B2 := Lib.hid hb; clear ho hb)
    | (go_at_call 30; refine (HP.out p c _ O2.out B2.out).mono ?_; rintro e w3 ⟨rfl, hb⟩; have B3 := Lib.hid (B2.out.trans (hb.mono B2.out.size)); clear hb HP)
    | (refine wpList_store_row rfl 48 _ _ rfl w.heap.size zeroRaw.cells rfl rfl 48 _ (HR.out _ B3.out) infoP rfl (oneP _) ?_))
  refine bodyPost_ret (v := .tuple #[.agg zeroRaw.cells, .int .i64 2])
    (results_cell_tmp_row Tryz.results18 _ _ w.heap.size 48 _ (0, 0) _ rfl (setRow_same (HR.out _ B3.out)) Tryz.underlying48 rfl infoP) rfl
    ⟨rfl, below_setRow (B1.out.trans (B3.out.mono B1.out.size)) (Nat.le_refl _) _⟩
end Go.Proofs.YtdkcebaehdkphaaGreatDoor.SegL
