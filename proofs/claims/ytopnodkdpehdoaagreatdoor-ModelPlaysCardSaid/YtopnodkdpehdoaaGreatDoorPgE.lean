/- slices.Clone and slices.Equal at records and at versions, maps.Clone at a book's three maps: the walks of their texts. No conditions but those that each lemma names. -/
import Derived.Test.YtopnodkdpehdoaaGreatDoorLPgc
import Derived.Test.YtopnodkdpehdoaaGreatDoorLRet
import Derived.Maps.AppendAt
import Derived.Lib.SliceRun
import Derived.Deep.QuietTactic
import Derived.BigQuiet
import Derived.Laws.StructEq
import Derived.Shelf.SlMaps.Clone
namespace Go.Proofs.YtopnodkdpehdoaaGreatDoor.PgE
set_option linter.unusedVariables false
open Go.RowKit Go.Maps
open RecN RecC RetN RetC RetR DbN DbA DbC DbD MdN MdC PgN PgC
theorem nil_rec (w : World) (a : Option Addr) (n c n' c' : Nat) : (binOp .eql 56 (.slice a n c) (.slice none n' c')).run Tryz.prog w = .ok (.bool a.isNone) w := Lib.run_eql_slice_nil w _ _ a n c n' c' Tryz.underlying56
set_option maxRecDepth 100000 in
theorem none_rec (n c : Nat) (w : World) : Calls Tryz.prog 45 #[.slice none n c] w fun e w' => e = .returned (.slice none 0 0) ∧ w = w' := by
  have q := nil_rec
  go_enter Tryz.func45, Tryz.ntmps45
  go_wp2
  go_ret
  exact ⟨rfl, rfl⟩
set_option maxRecDepth 100000 in
set_option maxHeartbeats 2000000 in
theorem some_rec (ad : Addr) (n c : Nat) (xs : List Value) (w : World) (hl : xs.length = n * 8) (hn : n ≤ 100000) (hc : ∀ j u, xs[j]? = some u → w.cell? (ad.add j) = some u) (h1 : ∀ v ∈ xs, v.oneCell' = true) :
    Calls Tryz.prog 45 #[.slice (some ad) n c] w fun r w' => ∃ v, r = .returned v ∧ w'.ownsRow w.heap.size 82 8 v n xs ∧ Below w.heap.size w w' := by
  have q := nil_rec
  obtain ⟨i0, hi, hz0, hz1, hz2⟩ := info_parts info_rec
  have HA : Hid (∀ j u, xs[j]? = some u → (w.alloc (.cells #[] 82)).cell? (ad.add j) = some u) := Lib.hid fun j u hj => Lib.cell?_alloc_some _ (hc j u hj)
  clear hc
  go_enter Tryz.func45, Tryz.ntmps45
  go_wp2_with (at_builtin; refine wpList_append_own _ rfl _ _ 56 rfl w.heap.size 82 i0 (.agg #[.int .i64 0, .int .i64 0, .int .i64 0, .int .i64 0, .int .i64 0, .int .i64 0, .string ⟨#[]⟩, .string ⟨#[]⟩]) 8 80 Tryz.underlying56 hi hz0 hz1 hz2 rfl (by decide) _ _ _ rfl (World.ownsRow_made w #[] 0 (Nat.le_refl _) (Nat.zero_le _) rfl) ad n c xs rfl hl HA.out h1 (by unfold maxLen; omega) (by omega) (by simp) ?_; intro v' w1 hown hgrow hnil; obtain ⟨a2, c2, rfl⟩ := own_slice hown)
  go_ret
  refine ⟨_, rfl, by simpa using hown, ?_⟩
  exact ((Below.refl _ w).alloc (Nat.le_refl _) _).grown hgrow (by simp) (fun k hk => by have e : w.heap.size = k := Option.some.inj hk; omega)
/-- What a clone of a row leaves. -/
theorem Clone_rec (a : Option Addr) (n c : Nat) (l : List Rec) (w : World) (h : Lies w a (rr l)) (hl : l.length = n) (hn : n ≤ 100000) :
    Calls Tryz.prog 45 #[.slice a n c] w fun r w' => ∃ a' c', r = .returned (.slice a' n c') ∧ w'.ownsRow w.heap.size 82 8 (.slice a' n c') n (rr l) ∧ Below w.heap.size w w' := by
  have hrl := rr_len l
  cases a with
  | none =>
    have h0 : l = [] := by
      cases l with
      | nil => rfl
      | cons x l => obtain ⟨g, o, e, _⟩ := h (by rw [hrl]; simp); cases e
    subst h0
    subst hl
    exact (none_rec _ c w).mono fun e w' ⟨h1, h2⟩ => ⟨none, 0, h1, World.ownsRow_nil _ _ _ _, h2 ▸ Below.refl _ _⟩
  | some ad =>
    refine (some_rec ad n c (rr l) w (by rw [hrl, hl]) hn ?_ ?_).mono ?_
    · intro j u hj
      have hlt := (List.getElem?_eq_some_iff.1 hj).1
      obtain ⟨g, o, e, hg, hc⟩ := h (by omega)
      cases e
      rw [add_off]
      exact hc j u hj
    · intro v hv
      unfold rr at hv
      obtain ⟨x, _, hx⟩ := List.mem_flatMap.1 hv
      exact rc_one x v hx
    · rintro e w' ⟨v, rfl, h2, h3⟩
      obtain ⟨a2, c2, rfl⟩ := own_slice h2
      exact ⟨a2, c2, rfl, h2, h3⟩
theorem info_pvE : ((Tryz.prog.info? 91).map fun i => (i.zero, i.size, i.bytes)) = some (some (.agg #[.int .i64 0, .int .i64 0, .string ⟨#[]⟩]), 3, 32) := by kernel_rfl
theorem nil_ver (w : World) (a : Option Addr) (n c n' c' : Nat) : (binOp .eql 66 (.slice a n c) (.slice none n' c')).run Tryz.prog w = .ok (.bool a.isNone) w := Lib.run_eql_slice_nil w _ _ a n c n' c' Tryz.underlying66
set_option maxRecDepth 100000 in
theorem none_ver (n c : Nat) (w : World) : Calls Tryz.prog 60 #[.slice none n c] w fun e w' => e = .returned (.slice none 0 0) ∧ w = w' := by
  have q := nil_ver
  go_enter Tryz.func60, Tryz.ntmps60
  go_wp2
  go_ret
  exact ⟨rfl, rfl⟩
set_option maxRecDepth 100000 in
set_option maxHeartbeats 2000000 in
theorem some_ver (ad : Addr) (n c : Nat) (xs : List Value) (w : World) (hl : xs.length = n * 3) (hn : n ≤ 100000) (hc : ∀ j u, xs[j]? = some u → w.cell? (ad.add j) = some u) (h1 : ∀ v ∈ xs, v.oneCell' = true) :
    Calls Tryz.prog 60 #[.slice (some ad) n c] w fun r w' => ∃ v, r = .returned v ∧ w'.ownsRow w.heap.size 91 3 v n xs ∧ Below w.heap.size w w' := by
  have q := nil_ver
  obtain ⟨i0, hi, hz0, hz1, hz2⟩ := info_parts info_pvE
  have HA : Hid (∀ j u, xs[j]? = some u → (w.alloc (.cells #[] 91)).cell? (ad.add j) = some u) := Lib.hid fun j u hj => Lib.cell?_alloc_some _ (hc j u hj)
  clear hc
  go_enter Tryz.func60, Tryz.ntmps60
  go_wp2_with (at_builtin; refine wpList_append_own _ rfl _ _ 66 rfl w.heap.size 91 i0 (.agg #[.int .i64 0, .int .i64 0, .string ⟨#[]⟩]) 3 32 Tryz.underlying66 hi hz0 hz1 hz2 rfl (by decide) _ _ _ rfl (World.ownsRow_made w #[] 0 (Nat.le_refl _) (Nat.zero_le _) rfl) ad n c xs rfl hl HA.out h1 (by unfold maxLen; omega) (by omega) (by simp) ?_; intro v' w1 hown hgrow hnil; obtain ⟨a2, c2, rfl⟩ := own_slice hown)
  go_ret
  refine ⟨_, rfl, by simpa using hown, ?_⟩
  exact ((Below.refl _ w).alloc (Nat.le_refl _) _).grown hgrow (by simp) (fun k hk => by have e : w.heap.size = k := Option.some.inj hk; omega)
/-- What a clone of a row leaves. -/
theorem Clone_ver (a : Option Addr) (n c : Nat) (l : List V) (w : World) (h : Lies w a (vv l)) (hl : l.length = n) (hn : n ≤ 100000) :
    Calls Tryz.prog 60 #[.slice a n c] w fun r w' => ∃ a' c', r = .returned (.slice a' n c') ∧ w'.ownsRow w.heap.size 91 3 (.slice a' n c') n (vv l) ∧ Below w.heap.size w w' := by
  have hrl := vv_len l
  cases a with
  | none =>
    have h0 : l = [] := by
      cases l with
      | nil => rfl
      | cons x l => obtain ⟨g, o, e, _⟩ := h (by rw [hrl]; simp); cases e
    subst h0
    subst hl
    exact (none_ver _ c w).mono fun e w' ⟨h1, h2⟩ => ⟨none, 0, h1, World.ownsRow_nil _ _ _ _, h2 ▸ Below.refl _ _⟩
  | some ad =>
    refine (some_ver ad n c (vv l) w (by rw [hrl, hl]) hn ?_ ?_).mono ?_
    · intro j u hj
      have hlt := (List.getElem?_eq_some_iff.1 hj).1
      obtain ⟨g, o, e, hg, hc⟩ := h (by omega)
      cases e
      rw [add_off]
      exact hc j u hj
    · intro v hv
      unfold vv at hv
      obtain ⟨x, _, hx⟩ := List.mem_flatMap.1 hv
      exact vc_one x v hx
    · rintro e w' ⟨v, rfl, h2, h3⟩
      obtain ⟨a2, c2, rfl⟩ := own_slice h2
      exact ⟨a2, c2, rfl, h2, h3⟩
theorem fields_ver : Tryz.prog.fieldsOf 91 = #[{ name := "lba", type := 3, offset := 0, embedded := false, tag := "", pkgPath := "keepsake/model", byteOffset := 0 }, { name := "epoch", type := 3, offset := 1, embedded := false, tag := "", pkgPath := "keepsake/model", byteOffset := 8 }, { name := "data", type := 9, offset := 2, embedded := false, tag := "", pkgPath := "keepsake/model", byteOffset := 16 }] := by kernel_rfl
theorem under_ver : Tryz.prog.underlying 91 = some (.struct (Tryz.prog.fieldsOf 91)) := by kernel_rfl
theorem stood_ver : Tryz.prog.stoodInHeld 91 = false := by kernel_rfl
/-- A version held against itself. -/
theorem run_in_ver (W : World) (a : V) : (Op.equalIn 10000 91 (.agg #[.int .i64 a.lb, .int .i64 a.ep, .string ⟨a.da.toArray⟩]) (.agg #[.int .i64 a.lb, .int .i64 a.ep, .string ⟨a.da.toArray⟩])).run Tryz.prog W = .ok true W := by
  have hh : ∀ x y : Int, (Op.equalIn 9999 3 (.int .i64 x) (.int .i64 y)).run Tryz.prog W = .ok (x == y) W := fun x y => run_equalIn_int W 9998 3 .i64 .i64 x y Tryz.underlying3
  have hs : ∀ x y : List UInt8, (Op.equalIn 9999 9 (.string ⟨x.toArray⟩) (.string ⟨y.toArray⟩)).run Tryz.prog W = .ok (x == y) W := fun x y => by
    have := run_equalIn_string W 9998 9 ⟨x.toArray⟩ ⟨y.toArray⟩ Tryz.underlying9
    rw [ByteArray.toList_mk, ByteArray.toList_mk] at this
    exact this
  have p0 : ∀ r : V, (part 3 #[.int .i64 r.lb, .int .i64 r.ep, .string ⟨r.da.toArray⟩] 0).run Tryz.prog W = .ok (.int .i64 r.lb) W := fun r => by simp [part, isAgg, run_underlying Tryz.underlying3]
  have p1 : ∀ r : V, (part 3 #[.int .i64 r.lb, .int .i64 r.ep, .string ⟨r.da.toArray⟩] 1).run Tryz.prog W = .ok (.int .i64 r.ep) W := fun r => by simp [part, isAgg, run_underlying Tryz.underlying3]
  have p2 : ∀ r : V, (part 9 #[.int .i64 r.lb, .int .i64 r.ep, .string ⟨r.da.toArray⟩] 2).run Tryz.prog W = .ok (.string ⟨r.da.toArray⟩) W := fun r => by simp [part, isAgg, run_underlying Tryz.underlying9]
  rw [run_equalIn_struct W 9999 _ _ _ under_ver stood_ver, fields_ver]
  simp only [Op.eqFields, Sem.run_bind, Sem.run_ite, p0, p1, p2, hh, hs, Result.andThen_ok]
  simp
theorem neq_ver (W : World) (a : V) : (binOp .neq 91 (.agg #[.int .i64 a.lb, .int .i64 a.ep, .string ⟨a.da.toArray⟩]) (.agg #[.int .i64 a.lb, .int .i64 a.ep, .string ⟨a.da.toArray⟩])).run Tryz.prog W = .ok (.bool false) W := by
  rw [run_neq_struct, run_in_ver W a, Result.andThen_ok]
  rfl
theorem neq_rec (W : World) (a : Rec) : (binOp .neq 82 (.agg #[.int .i64 a.k, .int .i64 a.ep, .int .i64 a.tm, .int .i64 a.ct, .int .i64 a.tg, .int .i64 a.un, .string ⟨a.rt.toArray⟩, .string ⟨a.nm.toArray⟩]) (.agg #[.int .i64 a.k, .int .i64 a.ep, .int .i64 a.tm, .int .i64 a.ct, .int .i64 a.tg, .int .i64 a.un, .string ⟨a.rt.toArray⟩, .string ⟨a.nm.toArray⟩])).run Tryz.prog W = .ok (.bool false) W := run_neq_rec W a a true (dt rfl)
set_option maxRecDepth 100000 in
set_option maxHeartbeats 4000000 in
/-- Two rows that read alike. -/
theorem Equal_rec (a b : Option Addr) (n c d : Nat) (l : List Rec) (w : World) (ha : Lies w a (rr l)) (hb : Lies w b (rr l)) (hl : l.length = n) (hn : n ≤ 100000) :
    Calls Tryz.prog 61 #[.slice a n c, .slice b n d] w fun e w' => e = .returned (.bool true) ∧ ∃ k, w' = w.drewN k := by
  have HA := Lib.hid ha
  have HB := Lib.hid hb
  have HL := Lib.hid hl
  clear ha hb hl
  go_enter Tryz.func61, Tryz.ntmps61
  go_wp2_with fail
  go_loopw [13] (fun i wr => ∃ k j : Nat, k ≤ n ∧ i = .int .i64 k ∧ wr = w.drewN j) (fun i _ => n - (intOf i).toNat)
  case atStart => exact ⟨0, 0, Nat.zero_le _, rfl, rfl⟩
  case round =>
    obtain ⟨k, j, hk, rfl, rfl⟩ := hrel
    by_cases hlt : k < n
    · obtain ⟨g1, o1, rfl, hg1, hc1⟩ := Lies.at8 HA.out (by have := HL.out; omega)
      obtain ⟨g2, o2, rfl, hg2, hc2⟩ := Lies.at8 HB.out (by have := HL.out; omega)
      have hkl : k < l.length := by have := HL.out; omega
      obtain ⟨u0, u1, u2, u3, u4, u5, u6, u7⟩ := hc1 k hkl
      obtain ⟨v0, v1, v2, v3, v4, v5, v6, v7⟩ := hc2 k hkl
      generalize l[k] = x at *
      have hq := fun W => neq_rec W x
      have q1 : (k : Int) < (n : Int) := by omega
      have q0 : (0 : Int) ≤ (k : Int) := by omega
      clear hc1 hc2 hg1 hg2 hkl
      go_wp2_with fail
      go_quiet (fail)
      go_wp2_with fail
      go_roundw
      case rel => exact ⟨k + 1, _, by omega, by go_num, rfl⟩
      case measure => simp [intOf]; omega
    · obtain rfl : k = n := by omega
      have qk : ¬ (k : Int) < (k : Int) := by omega
      go_wp2_with fail
      go_ret
      exact ⟨rfl, j, rfl⟩
set_option maxRecDepth 100000 in
set_option maxHeartbeats 4000000 in
/-- Two rows that read alike. -/
theorem Equal_ver (a b : Option Addr) (n c d : Nat) (l : List V) (w : World) (ha : Lies w a (vv l)) (hb : Lies w b (vv l)) (hl : l.length = n) (hn : n ≤ 100000) :
    Calls Tryz.prog 62 #[.slice a n c, .slice b n d] w fun e w' => e = .returned (.bool true) ∧ ∃ k, w' = w.drewN k := by
  have HA := Lib.hid ha
  have HB := Lib.hid hb
  have HL := Lib.hid hl
  clear ha hb hl
  go_enter Tryz.func62, Tryz.ntmps62
  go_wp2_with fail
  go_loopw [13] (fun i wr => ∃ k j : Nat, k ≤ n ∧ i = .int .i64 k ∧ wr = w.drewN j) (fun i _ => n - (intOf i).toNat)
  case atStart => exact ⟨0, 0, Nat.zero_le _, rfl, rfl⟩
  case round =>
    obtain ⟨k, j, hk, rfl, rfl⟩ := hrel
    by_cases hlt : k < n
    · obtain ⟨g1, o1, rfl, hg1, hc1⟩ := at3 HA.out (by have := HL.out; omega)
      obtain ⟨g2, o2, rfl, hg2, hc2⟩ := at3 HB.out (by have := HL.out; omega)
      have hkl : k < l.length := by have := HL.out; omega
      obtain ⟨u0, u1, u2⟩ := hc1 k hkl
      obtain ⟨v0, v1, v2⟩ := hc2 k hkl
      generalize l[k] = x at *
      have hq := fun W => neq_ver W x
      have q1 : (k : Int) < (n : Int) := by omega
      have q0 : (0 : Int) ≤ (k : Int) := by omega
      clear hc1 hc2 hg1 hg2 hkl
      go_wp2_with fail
      go_quiet (fail)
      go_wp2_with fail
      go_roundw
      case rel => exact ⟨k + 1, _, by omega, by go_num, rfl⟩
      case measure => simp [intOf]; omega
    · obtain rfl : k = n := by omega
      have qk : ¬ (k : Int) < (k : Int) := by omega
      go_wp2_with fail
      go_ret
      exact ⟨rfl, j, rfl⟩
set_option maxRecDepth 100000 in
set_option maxHeartbeats 2000000 in
theorem mclone_i (b : Nat) (es : Array MapEntry) (clock : Nat) (w : World) (hb : w.heap[b]? = some (.map es clock)) :
    Calls Tryz.prog 98 #[.map (some b)] w fun e w' => e = .returned (.map (some w.heap.size)) ∧ w' = w.alloc (.map es clock) := by
  have hq := fun w => run_eql_map_nil_sl (P := Tryz.prog) w 100 _ _ (some b) Tryz.underlying100
  have hf : Tryz.prog.funcs[112]? = some Tryz.f112 := by kernel_rfl
  go_enter Tryz.func98, Tryz.ntmps98
  go_wp2
  rw [run_callFunc_extern hf (by kernel_rfl) (by kernel_rfl) (by kernel_rfl) (e := Extern.MapsClone.clone) (by kernel_rfl), run_maps_clone_sl w 100 hb]
  simp only [Result.andThen]
  rw [Oper.upon_value]
  go_wp2
  rw [run_typeAssert_map_sl _ 100 _ _ _ _ Tryz.underlying100]
  simp only [Result.andThen]
  rw [Oper.upon_value]
  go_wp2
  go_ret
  exact ⟨rfl, rfl⟩
set_option maxRecDepth 100000 in
set_option maxHeartbeats 2000000 in
theorem mclone_h (b : Nat) (es : Array MapEntry) (clock : Nat) (w : World) (hb : w.heap[b]? = some (.map es clock)) :
    Calls Tryz.prog 99 #[.map (some b)] w fun e w' => e = .returned (.map (some w.heap.size)) ∧ w' = w.alloc (.map es clock) := by
  have hq := fun w => run_eql_map_nil_sl (P := Tryz.prog) w 101 _ _ (some b) Tryz.underlying101
  have hf : Tryz.prog.funcs[112]? = some Tryz.f112 := by kernel_rfl
  go_enter Tryz.func99, Tryz.ntmps99
  go_wp2
  rw [run_callFunc_extern hf (by kernel_rfl) (by kernel_rfl) (by kernel_rfl) (e := Extern.MapsClone.clone) (by kernel_rfl), run_maps_clone_sl w 101 hb]
  simp only [Result.andThen]
  rw [Oper.upon_value]
  go_wp2
  rw [run_typeAssert_map_sl _ 101 _ _ _ _ Tryz.underlying101]
  simp only [Result.andThen]
  rw [Oper.upon_value]
  go_wp2
  go_ret
  exact ⟨rfl, rfl⟩
set_option maxRecDepth 100000 in
set_option maxHeartbeats 2000000 in
theorem mclone_u (b : Nat) (es : Array MapEntry) (clock : Nat) (w : World) (hb : w.heap[b]? = some (.map es clock)) :
    Calls Tryz.prog 100 #[.map (some b)] w fun e w' => e = .returned (.map (some w.heap.size)) ∧ w' = w.alloc (.map es clock) := by
  have hq := fun w => run_eql_map_nil_sl (P := Tryz.prog) w 102 _ _ (some b) Tryz.underlying102
  have hf : Tryz.prog.funcs[112]? = some Tryz.f112 := by kernel_rfl
  go_enter Tryz.func100, Tryz.ntmps100
  go_wp2
  rw [run_callFunc_extern hf (by kernel_rfl) (by kernel_rfl) (by kernel_rfl) (e := Extern.MapsClone.clone) (by kernel_rfl), run_maps_clone_sl w 102 hb]
  simp only [Result.andThen]
  rw [Oper.upon_value]
  go_wp2
  rw [run_typeAssert_map_sl _ 102 _ _ _ _ Tryz.underlying102]
  simp only [Result.andThen]
  rw [Oper.upon_value]
  go_wp2
  go_ret
  exact ⟨rfl, rfl⟩
/-- A map of a book's, cloned: the same in a new block. -/
theorem Mi.alloc_ {W w : World} {M : Nat} {f : Int → Int} {es : Array MapEntry} {k : Nat} (h : Mi W M f) (hb : W.heap[M]? = some (.map es k)) : Mi (w.alloc (.map es k)) w.heap.size f := by
  obtain ⟨D, ⟨es', k', hb', F, hs, hD⟩, h2⟩ := h
  rw [hb] at hb'
  injection hb' with hb'
  injection hb' with e1 e2
  subst e1 e2
  exact ⟨D, ⟨es, k, (MapKept.heap_alloc w _).1, F, hs, hD⟩, h2⟩
theorem Mu.alloc_ {W w : World} {M : Nat} {g : Int → Bool} {es : Array MapEntry} {k : Nat} (h : Mu W M g) (hb : W.heap[M]? = some (.map es k)) : Mu (w.alloc (.map es k)) w.heap.size g := by
  obtain ⟨D, ⟨es', k', hb', F, hs, hD⟩, h2⟩ := h
  rw [hb] at hb'
  injection hb' with hb'
  injection hb' with e1 e2
  subst e1 e2
  exact ⟨D, ⟨es, k, (MapKept.heap_alloc w _).1, F, hs, hD⟩, h2⟩
theorem Mh.alloc_ {W w : World} {M : Nat} {hs0 : List (L × Int)} {es : Array MapEntry} {k : Nat} (h : Mh W M hs0) (hb : W.heap[M]? = some (.map es k)) : Mh (w.alloc (.map es k)) w.heap.size hs0 := by
  obtain ⟨ho, hl, D, ⟨es', k', hb', F, hs, hD⟩, h2⟩ := h
  rw [hb] at hb'
  injection hb' with hb'
  injection hb' with e1 e2
  subst e1 e2
  exact ⟨ho, hl, D, ⟨es, k, (MapKept.heap_alloc w _).1, F, hs, hD⟩, h2⟩
theorem clone_i {W : World} {M : Nat} {f : Int → Int} (h : Mi W M f) : Calls Tryz.prog 98 #[.map (some M)] W fun e w' => e = .returned (.map (some W.heap.size)) ∧ Mi w' W.heap.size f ∧ w'.heap.size = W.heap.size + 1 ∧ Below W.heap.size W w' := by
  obtain ⟨es, k, hb⟩ := mi_is h
  refine (mclone_i M es k W hb).mono ?_
  rintro e w' ⟨rfl, rfl⟩
  exact ⟨rfl, Mi.alloc_ h hb, by simp, below_new W _⟩
theorem clone_h {W : World} {M : Nat} {hs : List (L × Int)} (h : Mh W M hs) : Calls Tryz.prog 99 #[.map (some M)] W fun e w' => e = .returned (.map (some W.heap.size)) ∧ Mh w' W.heap.size hs ∧ w'.heap.size = W.heap.size + 1 ∧ Below W.heap.size W w' := by
  obtain ⟨es, k, hb⟩ := mh_is h
  refine (mclone_h M es k W hb).mono ?_
  rintro e w' ⟨rfl, rfl⟩
  exact ⟨rfl, Mh.alloc_ h hb, by simp, below_new W _⟩
theorem clone_u {W : World} {M : Nat} {g : Int → Bool} (h : Mu W M g) : Calls Tryz.prog 100 #[.map (some M)] W fun e w' => e = .returned (.map (some W.heap.size)) ∧ Mu w' W.heap.size g ∧ w'.heap.size = W.heap.size + 1 ∧ Below W.heap.size W w' := by
  obtain ⟨es, k, hb⟩ := mu_is h
  refine (mclone_u M es k W hb).mono ?_
  rintro e w' ⟨rfl, rfl⟩
  exact ⟨rfl, Mu.alloc_ h hb, by simp, below_new W _⟩
end Go.Proofs.YtopnodkdpehdoaaGreatDoor.PgE
