/- JouJ JouK: one behind the other. -/
import Derived.RangeFuncNested
import Derived.RangeFuncBound
import Derived.RangeFuncCalls
import Derived.RangeFuncLeaves
import Derived.Shelf.Abstract
import Derived.Shelf.RegionOpen
import Derived.WalkKit
import Derived.OwnWalkIn
import Derived.TacticsInMore
import Derived.LoopNIn
import Derived.LoopIn
import Derived.Test.YtoilcieineejiaaGreatDoorJouI
import Derived.Test.YtoilcieineejiaaGreatDoorLMer
import Derived.Test.YtoilcieineejiaaGreatDoorLSlt
import Derived.Test.YtoilcieineejiaaGreatDoorDkE
/- The program's journal: places that do not show noughts, what is left over, as iterators: the walks of their texts. No conditions but those that each lemma names. -/
namespace Go.Proofs.YtoilcieineejiaaGreatDoor.JouJ
set_option linter.unusedVariables false
open Go.RowKit Go.Shelf
open DkN DkM JouN JouP JouQ JouR JouS JouC JouW JouX JouY JouZ JouB JouD JouI
open SupP (Gl)
attribute [local go_sem] Oper.semAt_some
/-- A place as it is handed over. -/
def encI (i : Nat) : Array Value := #[.int .i64 (i : Int)]
/-- The places from k0 on, below k, that do not show noughts. -/
def upto (sh : List B) (k0 k : Nat) : List Nat := (List.range k).filter fun i => decide (k0 ≤ i ∧ at_ sh i ≠ nou 4096)
theorem behind_upto (sh : List B) (k0 : Nat) : behind sh k0 = upto sh k0 sh.length := rfl
theorem upto_0 (sh : List B) (k0 : Nat) : upto sh k0 k0 = [] := by
  unfold upto
  rw [List.filter_eq_nil_iff]
  intro i hi
  have : i < k0 := by simpa using hi
  simp
  omega
theorem upto_yes (sh : List B) (k0 k : Nat) (h : k0 ≤ k) (hn : at_ sh k ≠ nou 4096) : upto sh k0 (k + 1) = upto sh k0 k ++ [k] := by
  unfold upto
  rw [List.range_succ, List.filter_append, List.filter_cons, if_pos (decide_eq_true ⟨h, hn⟩)]
  rfl
theorem upto_no (sh : List B) (k0 k : Nat) (hn : at_ sh k = nou 4096) : upto sh k0 (k + 1) = upto sh k0 k := by
  unfold upto
  rw [List.range_succ, List.filter_append, List.filter_cons, if_neg (by simp [hn])]
  simp
theorem upto_pre (sh : List B) (k0 : Nat) {k m : Nat} (h : k ≤ m) : upto sh k0 k <+: upto sh k0 m := by
  obtain ⟨d, rfl⟩ : ∃ d, m = k + d := ⟨m - k, by omega⟩
  unfold upto
  rw [List.range_add, List.filter_append]
  exact List.prefix_append _ _
/-- The shown texts, and an iterator's boxes. -/
structure Sh (W : World) (X g : Nat) (sh : List B) : Prop where
  box : W.heap[X]? = some (.cells #[.slice (some ⟨g, 0, none⟩) sh.length sh.length] 34 (0, 0))
  row : W.heap[g]? = some (.cells (sh.map Value.string).toArray 9 (0, 0))
theorem Sh.kept {W W' : World} {X g : Nat} {sh : List B} {T : Nat → Prop} (h : Sh W X g sh) (hk : MerG.Kept T W W') (hX : T X) (hg : T g) : Sh W' X g sh := ⟨hk.heap h.box hX, hk.heap h.row hg⟩
theorem Sh.at_ {W : World} {X g : Nat} {sh : List B} (h : Sh W X g sh) (k : Nat) (hk : k < sh.length) : W.cell? ⟨g, k, none⟩ = some (.string (JouQ.at_ sh k)) := by
  refine blk_cell h.row ?_
  rw [List.getElem?_toArray, List.getElem?_map, at_some hk]
  rfl
theorem abide_calls {J : (Nat → Prop) → List Nat → World → Prop} (hJ : MerG.Abide false J) {pre : List Nat} {A B : World} (h : J MerG.Non pre A) (hb : Below A.heap.size A B) : J MerG.Non pre B :=
  hJ pre MerG.Non MerG.Non A B h ((MerG.Turns.of_below hb).less (fun _ e => .inl e)) (.no _ _)
set_option maxRecDepth 100000 in
set_option maxHeartbeats 2000000 in
theorem notEmpty1 (n : Nat) (hn : 1 ≤ n) (sh : List B) (hsh : sh.length ≤ 2000) (k0 F X g : Nat) (hk0 : k0 ≤ sh.length) (RO : Nat → Prop) (rF : RO F) (rX : RO X) (rg : RO g) (w : World) (hF : w.heap[F]? = some (.cells #[.int .i64 (k0 : Int)] 3 (0, 0))) (hs : Sh w X g sh) :
    MerG.Seq false Fence.wide n Tryz.prog 79 #[.pointer (some ⟨F, 0, none⟩), .pointer (some ⟨X, 0, none⟩)] encI (fun _ pre x _ => pre ++ [x] <+: behind sh k0) (fun ys => ys = behind sh k0) (fun _ => True) RO w := by
  intro l J Jx W hW hJa hJxa hY h0
  have HF := Lib.hid (hW.heap hF rF)
  have HS := Lib.hid (hs.kept hW rX rg)
  have HA := Lib.hid hJa
  have HY := Lib.hid hY
  have H0 := Lib.hid h0
  have HEm : Hid (∀ W : World, Calls Tryz.prog 78 #[] W fun r w' => r = .returned (.string (nou 4096)) ∧ Below W.heap.size W w') := Lib.hid (fun W => SloP.Empty W)
  have HU := Lib.hid (fun k h hn => upto_yes sh k0 k h hn)
  have HV := Lib.hid (fun k hn => upto_no sh k0 k hn)
  obtain ⟨N, hN⟩ : ∃ N, sh.length = N := ⟨_, rfl⟩
  have HN := Lib.hid hN
  have hN2 : N ≤ 2000 := by omega
  have hk02 : k0 ≤ N := by omega
  clear hW hJa hJxa hY h0 hF hs hN hsh hk0
  generalize nou 4096 = zz at *
  have f0 : W.cell? ⟨F, 0, none⟩ = some (.int .i64 (k0 : Int)) := blk_cell HF.out rfl
  refine callsIn_of_wp Tryz.func79 rfl trivial ?_ rfl
  simp only [Tryz.ntmps79, List.size_toArray, List.length_cons, List.length_nil, Nat.reduceAdd, Nat.reduceSub, Array.replicate_succ, Array.replicate_zero, List.push_toArray, List.append_toArray, List.nil_append, List.cons_append]
  gi_wp2_with (refine ⟨trivial, ?_⟩; gi_at_call 78; refine (callsIn_wide.2 (HEm.out _)).mono ?_; rintro e w2 ⟨rfl, hb2⟩; have B2 := Lib.hid hb2; clear hb2 f0; have f0 : w2.cell? ⟨F, 0, none⟩ = some (.int .i64 (k0 : Int)) := blk_cell ((B2.out.block _ (lt_of_some HF.out)).trans HF.out) rfl)
  have J2 := Lib.hid (abide_calls HA.out H0.out B2.out)
  have K2 : Hid (MerG.Kept RO W w2) := Lib.hid ⟨B2.out.size, fun b hb _ => B2.out.block b hb⟩
  gi_loopw [5] (fun i wr => ∃ k : Nat, k0 ≤ k ∧ k ≤ N ∧ i = .int .i64 (k : Int) ∧ J MerG.Non (upto sh k0 k) wr ∧ MerG.Kept RO W wr) (fun i _ => N - (intOf i).toNat)
  case atStart => exact ⟨k0, Nat.le_refl _, hk02, rfl, by rw [upto_0]; exact J2.out, K2.out⟩
  case round =>
    obtain ⟨k, hk1, hk, rfl, hJs, hnx⟩ := hrel
    have HJ := Lib.hid hJs
    have HB := Lib.hid hnx
    have HS2 := Lib.hid (HS.out.kept hnx rX rg)
    have x0 := blk_cell (i := 0) (u := .slice (some ⟨g, 0, none⟩) sh.length sh.length) HS2.out.box rfl
    rw [HN.out] at x0
    clear hJs hnx f0
    by_cases hlt : k < N
    · have x1 := HS2.out.at_ k (by rw [HN.out]; exact hlt)
      have q0 : (0 : Int) ≤ (k : Int) := by omega
      have q1 : (k : Int) < (N : Int) := by omega
      by_cases hz : at_ sh k = zz
      · have HV2 := Lib.hid (HV.out k hz)
        rw [hz] at x1
        clear hz
        gi_wp2
        refine ⟨fun _ _ => trivial, ?_⟩
        gi_wp2
        go_roundw
        case rel => exact ⟨k + 1, by omega, by omega, by go_num, by rw [HV2.out]; exact HJ.out, HB.out⟩
        case measure => simp [intOf]; omega
      · have HU2 := Lib.hid (HU.out k hk1 hz)
        have hR0 := HY.out MerG.Non _ k wr HJ.out (by rw [← HU2.out, behind_upto, HN.out]; exact upto_pre sh k0 (by omega))
        rw [← HU2.out] at hR0
        obtain ⟨fn, tmps, assign, body, hy, hR⟩ := hR0
        simp only [encI] at hy hR
        generalize at_ sh k = x at *
        have hx : (x.toList == zz.toList) = false := by rw [DkE.str_beq]; exact decide_eq_false hz
        clear hz
        gi_wp2
        refine hR.mono ?_
        rintro e W3 ⟨(⟨rfl, hJ3⟩ | ⟨rfl, hJx3⟩), hk3⟩
        · have HB3 := Lib.hid (HB.out.trans (hk3.mono fun b hb => .inr hb))
          have HJ3 := Lib.hid hJ3
          clear hJ3 hk3 hy hR
          gi_wp2
          go_roundw
          case rel => exact ⟨k + 1, by omega, by omega, by go_num, HJ3.out, HB3.out⟩
          case measure => simp [intOf]; omega
        · gi_wp2
          refine bodyPost_ret (results_none rfl _ _ _) rfl ?_
          exact ⟨⟨_, rfl⟩, MerG.Non, .inr ⟨_, trivial, hJx3⟩⟩
    · obtain rfl : k = N := by omega
      gi_wp2
      go_end0
      exact ⟨⟨_, rfl⟩, MerG.Non, .inl ⟨_, by rw [behind_upto, HN.out], HJ.out⟩⟩
theorem notEmpty (a : Option Addr) (n c : Nat) (k : Int) (w : World) : Calls Tryz.prog 40 #[.slice a n c, .int .i64 k] w fun e w' =>
    e = .returned (.func (.func 79) #[] #[.pointer (some ⟨w.heap.size + 1, 0, none⟩), .pointer (some ⟨w.heap.size, 0, none⟩)]) ∧ w' = (w.alloc (.cells #[.slice a n c] 34)).alloc (.cells #[.int .i64 k] 3) := by
  have hmf := makes
  go_enter Tryz.func40, Tryz.ntmps40
  go_wp2
  go_ret
  exact ⟨rfl, rfl⟩
theorem leftOver (a : Option Addr) (n c : Nat) (s : SupN.Sb) (w : World) : Calls Tryz.prog 90 #[.slice a n c, .agg #[.int .i64 s.g, .int .i64 s.t, .int .i64 s.e, .int .i64 s.k, .int .i64 s.b, .int .i64 s.l, .int .i64 s.f]] w fun e w' =>
    e = .returned (.func (.func 125) #[] #[.pointer (some ⟨w.heap.size, 0, none⟩), .pointer (some ⟨w.heap.size + 1, 0, none⟩)]) ∧ w' = (w.alloc (.cells #[.slice a n c] 34)).alloc (.cells #[.int .i64 s.g, .int .i64 s.t, .int .i64 s.e, .int .i64 s.k, .int .i64 s.b, .int .i64 s.l, .int .i64 s.f] 53) := by
  have hmf := makes
  go_enter Tryz.func90, Tryz.ntmps90
  go_wp2
  go_ret
  exact ⟨rfl, rfl⟩
theorem wide {T T' : Nat → Prop} {A B : World} (U : Nat → Prop) (ht : MerG.Turns T T' A B) : MerG.Turns (fun b => T b ∨ U b) (fun b => T' b ∨ U b) A B :=
  ⟨ht.os, ht.tape, ht.output, ht.size, fun b hb h => ht.block b hb (fun e => h (.inl e)), fun b hb => hb.elim (fun e => MerG.either (ht.new b e) .inl id) (fun e => .inl (.inr e))⟩
/-- What an iterator that hands on behind its own items keeps. -/
def On (J : (Nat → Prop) → List Nat → World → Prop) (RO B0 : Nat → Prop) (W0 : World) (K : List Nat) (T : Nat → Prop) (pre : List Nat) (W : World) : Prop :=
  J (fun b => T b ∨ B0 b) (K ++ pre) W ∧ (∀ b, RO b → ¬ T b ∧ b < W.heap.size) ∧ MerG.Kept RO W0 W
theorem on_abide {J : (Nat → Prop) → List Nat → World → Prop} (hJ : MerG.Abide false J) (RO B0 : Nat → Prop) (W0 : World) (K : List Nat) : MerG.Abide false (On J RO B0 W0 K) := fun s T T' A B h ht _ =>
  ⟨hJ _ _ _ _ _ h.1 (wide B0 ht) (.no _ _), fun b hb => ⟨fun e => (ht.new b e).elim (h.2.1 b hb).1 (fun e2 => by have := (h.2.1 b hb).2; omega), Nat.lt_of_lt_of_le (h.2.1 b hb).2 ht.size⟩,
    h.2.2.trans ⟨ht.size, fun b hb hr => ht.block b hb (h.2.1 b hr).1⟩⟩
theorem on_yield {n l : Nat} {J Jx : (Nat → Prop) → List Nat → World → Prop} {L : List Nat} {RO B0 : Nat → Prop} {W0 : World} {K R : List Nat} (hL : L = K ++ R)
    (hY : ∀ T pre x A, J T pre A → pre ++ [x] <+: L → YieldAt Fence.wide (n - 1) Tryz.prog l (encI x) A (MerG.Ends J Jx T RO (pre ++ [x]) A)) :
    ∀ T pre x A, On J RO B0 W0 K T pre A → pre ++ [x] <+: R → YieldAt Fence.wide (n - 1) Tryz.prog l (encI x) A (MerG.Ends (On J RO B0 W0 K) (On Jx RO B0 W0 K) T (fun b => RO b ∨ B0 b) (pre ++ [x]) A) := by
  intro T pre x A hJ hp
  obtain ⟨fn, tmps, assign, body, hy, hR⟩ := hY (fun b => T b ∨ B0 b) (K ++ pre) x A hJ.1 (by rw [hL, List.append_assoc]; exact (List.prefix_append_right_inj K).2 hp)
  refine ⟨fn, tmps, assign, body, hy, hR.mono ?_⟩
  rintro e W ⟨he, hk⟩
  have k2 : ∀ b, RO b → ¬ T b ∧ b < W.heap.size := fun b hb => ⟨(hJ.2.1 b hb).1, Nat.lt_of_lt_of_le (hJ.2.1 b hb).2 hk.size⟩
  have k3 : MerG.Kept RO W0 W := hJ.2.2.trans (hk.mono fun b hb => .inr hb)
  refine ⟨?_, hk.mono fun b hb => ?_⟩
  · rcases he with ⟨h1, h2⟩ | ⟨h1, h2⟩
    · exact .inl ⟨h1, by rw [List.append_assoc] at h2; exact ⟨h2, k2, k3⟩⟩
    · exact .inr ⟨h1, by rw [List.append_assoc] at h2; exact ⟨h2, k2, k3⟩⟩
  · rcases hb with hb | hb | hb
    · exact .inl (.inl hb)
    · exact .inr hb
    · exact .inl (.inr hb)
theorem bnd_kept {RO : Nat → Prop} {A W : World} (h : GeoC.Bnd A) (hk : MerG.Kept RO A W) (hl : RO 0) (hm : RO 1) : GeoC.Bnd W := fun i hi => ⟨hk.cell (h i hi).1 hl, hk.cell (h i hi).2 hm⟩
end Go.Proofs.YtoilcieineejiaaGreatDoor.JouJ
/- The program's journal: what is left over, as an iterator: the walk of its text. No conditions but those that each lemma names. -/
namespace Go.Proofs.YtoilcieineejiaaGreatDoor.JouK
set_option linter.unusedVariables false
open Go.RowKit Go.Shelf
open DkN DkM JouN JouP JouQ JouR JouS JouC JouW JouX JouY JouZ JouB JouD JouI JouJ
open SupP (Gl)
attribute [local go_sem] Oper.semAt_some
theorem stale_at (a b : List UInt8) (e : Int) : ∀ x ∈ SloN.stale a b e, x = 0 ∨ x = 1 := by
  intro x hx
  unfold SloN.stale at hx
  split at hx
  · split at hx
    · split at hx
      · simp at hx
      · simp at hx; exact .inl hx
    · split at hx
      · simp at hx
      · simp at hx; exact .inr hx
  · simp at hx
theorem onward (n : Nat) (hn : 1 ≤ n) {l : Nat} {J Jx : (Nat → Prop) → List Nat → World → Prop} {RO : Nat → Prop} {sh : List B} {g p N : Nat} {K L : List Nat} {wr w4 : World} {A : Nat} (hN : sh.length = N) (hA : wr.heap.size ≤ A) (hb : Below wr.heap.size wr w4)
    (hX : w4.heap[A]? = some (.cells #[.slice (some ⟨g, 0, none⟩) N N] 34 (0, 0))) (hF : w4.heap[A + 1]? = some (.cells #[.int .i64 (p : Int)] 3 (0, 0))) (hrow : w4.heap[g]? = some (.cells (sh.map Value.string).toArray 9 (0, 0))) (rg : RO g) (hlt : ∀ b, RO b → b < w4.heap.size)
    (hNE : ∀ (F' X' : Nat) (RO' : Nat → Prop), RO' F' → RO' X' → RO' g → ∀ w' : World, w'.heap[F']? = some (.cells #[.int .i64 (p : Int)] 3 (0, 0)) → Sh w' X' g sh → MerG.Seq false Fence.wide n Tryz.prog 79 #[.pointer (some ⟨F', 0, none⟩), .pointer (some ⟨X', 0, none⟩)] encI (fun _ pre x _ => pre ++ [x] <+: behind sh p) (fun ys => ys = behind sh p) (fun _ => True) RO' w')
    (hJa : MerG.Abide false J) (hJxa : MerG.Abide false Jx) (hL : L = K ++ behind sh p) (hY : ∀ T pre x A, J T pre A → pre ++ [x] <+: L → YieldAt Fence.wide (n - 1) Tryz.prog l (encI x) A (MerG.Ends J Jx T RO (pre ++ [x]) A)) (hJ : J MerG.Non K wr) :
    Calls Tryz.prog 79 #[.func (.yield l) #[] #[], .pointer (some ⟨A + 1, 0, none⟩), .pointer (some ⟨A, 0, none⟩)] w4 fun e W' => (∃ v, e = .returned v) ∧ MerG.Kept RO w4 W' ∧ ((∃ T, J T L W') ∨ (∃ T pre, Jx T pre W')) := by
  obtain ⟨B0, hB0⟩ : ∃ B0 : Nat → Prop, B0 = fun b => b = A + 1 ∨ b = A := ⟨_, rfl⟩
  have hlA := lt_of_some hF
  have hsq := hNE (A + 1) A (fun b => RO b ∨ B0 b) (.inr (by rw [hB0]; exact .inl rfl)) (.inr (by rw [hB0]; exact .inr rfl)) (.inl rg) w4 hF ⟨by rw [hN]; exact hX, hrow⟩
  have hq := hsq l (On J RO B0 w4 K) (On Jx RO B0 w4 K) w4 (MerG.Kept.refl _ _) (on_abide hJa _ _ _ _) (on_abide hJxa _ _ _ _) (on_yield hL hY) ⟨?_, fun b hb => ⟨fun h => h, hlt b hb⟩, MerG.Kept.refl _ _⟩
  · refine (callsIn_wide.1 hq).mono ?_
    rintro e W' ⟨hv, T, ⟨ys, rfl, h1, h2, h3⟩ | ⟨pre, _, h1, h2, h3⟩⟩
    · exact ⟨hv, h3, .inl ⟨_, by rw [hL]; exact h1⟩⟩
    · exact ⟨hv, h3, .inr ⟨_, _, h1⟩⟩
  · rw [List.append_nil]
    exact hJa K MerG.Non _ wr w4 hJ ((MerG.Turns.of_below hb).less (fun b h => h.elim .inl (fun e => .inr (by rw [hB0] at e; omega)))) (.no _ _)
set_option maxRecDepth 100000 in
set_option maxHeartbeats 4000000 in
theorem leftOver1 (n : Nat) (hn : 1 ≤ n) (sh : List B) (hsh : sh.length ≤ 2000) (h8 : 8 ≤ sh.length) (s : SupN.Sb) (hm : SupN.may s) (hb : s.b = sh.length) (X Y g : Nat) (RO : Nat → Prop) (rX : RO X) (rY : RO Y) (rg : RO g) (rl : RO 0) (rm : RO 1) (w : World) (hs : Sh w X g sh) (hY0 : w.heap[Y]? = some (.cells #[.int .i64 s.g, .int .i64 s.t, .int .i64 s.e, .int .i64 s.k, .int .i64 s.b, .int .i64 s.l, .int .i64 s.f] 53 (0, 0))) (hg : GeoC.Bnd w) (hlt : ∀ b, RO b → b < w.heap.size) :
    MerG.Seq false Fence.wide n Tryz.prog 125 #[.pointer (some ⟨X, 0, none⟩), .pointer (some ⟨Y, 0, none⟩)] encI (fun _ pre x _ => pre ++ [x] <+: wipes sh s) (fun ys => ys = wipes sh s) (fun _ => True) RO w := by
  intro l J Jx W hW hJa hJxa hY h0
  have hr := hm.1
  have ht := hm.2.2.1
  obtain ⟨st, hst⟩ : ∃ st, SloN.stale (lb (at_ sh 2)) (lb (at_ sh 3)) s.e = st := ⟨_, rfl⟩
  have hs1 : st.length ≤ 1 := by rw [← hst]; exact SloN.stale_len _ _ _
  have hs2 : ∀ x ∈ st, x = 0 ∨ x = 1 := by rw [← hst]; exact stale_at _ _ _
  have hL : wipes sh s = (st.map fun i => (2 + i).toNat) ++ behind sh (4 + s.t.toNat) := by unfold wipes wipeK; rw [hst]; rfl
  have HSt : Hid (∀ W' : World, Calls Tryz.prog 126 #[.string ⟨(lb (at_ sh 2)).toArray⟩, .string ⟨(lb (at_ sh 3)).toArray⟩, .int .i64 s.e] W' fun r w' => SloS.Gives st r w' ∧ Below W'.heap.size W' w') := Lib.hid (fun W' => by have := SloT.Stale (lb (at_ sh 2)) (lb (at_ sh 3)) s.e W'; unfold SloS.Says at this; rw [hst] at this; exact this)
  have HD := Lib.hid (fun W' (h : GeoC.Bnd W') => dataAt (w := W') s.b s.l s.f h hr)
  have K0 := Lib.hid key_0
  have K1 := Lib.hid key_1
  have HK := Lib.hid (fun (x : Int) (h : x = 0 ∨ x = 1) (W' : World) => (show Calls Tryz.prog 43 #[.int .i64 x] W' fun e w' => e = .returned (.int .i64 (((2 + x).toNat : Nat) : Int)) ∧ W' = w' from by rcases h with rfl | rfl; exact key_0 W'; exact key_1 W'))
  have HA := Lib.hid hJa
  have HAx := Lib.hid hJxa
  have HS := Lib.hid (hs.kept hW rX rg)
  have HYs := Lib.hid (hW.heap hY0 rY)
  have HB := Lib.hid (bnd_kept hg hW rl rm)
  have HLt : Hid (∀ b, RO b → b < W.heap.size) := Lib.hid (fun b hb => Nat.lt_of_lt_of_le (hlt b hb) hW.size)
  have H0 := Lib.hid h0
  have HY := Lib.hid hY
  have HNE := Lib.hid (fun (F' X' : Nat) (RO' : Nat → Prop) (rF' : RO' F') (rX' : RO' X') (rg' : RO' g) (w' : World) hF hS => notEmpty1 n hn sh hsh (4 + s.t.toNat) F' X' g (by omega) RO' rF' rX' rg' w' hF hS)
  have HCl : Hid (∀ W' : World, MerG.Kept RO W W' → Sh W' X g sh ∧ W'.heap[Y]? = some (.cells #[.int .i64 s.g, .int .i64 s.t, .int .i64 s.e, .int .i64 s.k, .int .i64 s.b, .int .i64 s.l, .int .i64 s.f] 53 (0, 0)) ∧ GeoC.Bnd W') := Lib.hid (fun W' hk => ⟨HS.out.kept hk rX rg, hk.heap HYs.out rY, bnd_kept HB.out hk rl rm⟩)
  obtain ⟨N, hN⟩ : ∃ N, sh.length = N := ⟨_, rfl⟩
  have HN := Lib.hid hN
  have m2 : 2 < N := by omega
  have m3 : 3 < N := by omega
  have n2 : (2 : Int) < (N : Int) := by omega
  have n3 : (3 : Int) < (N : Int) := by omega
  have HF0 : Hid (∀ W' : World, MerG.Kept RO W W' → ((fun W : World => W.cell? ⟨X, 0, none⟩ = some (.slice (some ⟨g, 0, none⟩) N N) ∧ W.cell? ⟨g, 2, none⟩ = some (.string ⟨(lb (at_ sh 2)).toArray⟩) ∧ W.cell? ⟨g, 3, none⟩ = some (.string ⟨(lb (at_ sh 3)).toArray⟩) ∧ W.cell? ⟨Y, 2, none⟩ = some (.int .i64 s.e)) W')) := Lib.hid (fun W' hk => by
    obtain ⟨h1, h2, _⟩ := HCl.out W' hk
    have x2 := h1.at_ 2 (by omega)
    have x3 := h1.at_ 3 (by omega)
    rw [← bb_lb (at_ sh 2)] at x2
    rw [← bb_lb (at_ sh 3)] at x3
    refine ⟨?_, x2, x3, blk_cell h2 rfl⟩
    rw [← HN.out]
    exact blk_cell h1.box rfl)
  have HF5 : Hid (∀ W' : World, MerG.Kept RO W W' → ((fun W : World => W.cell? ⟨X, 0, none⟩ = some (.slice (some ⟨g, 0, none⟩) N N) ∧ W.cell? ⟨Y, 1, none⟩ = some (.int .i64 s.t) ∧ W.cell? ⟨Y, 4, none⟩ = some (.int .i64 s.b) ∧ W.cell? ⟨Y, 5, none⟩ = some (.int .i64 s.l) ∧ W.cell? ⟨Y, 6, none⟩ = some (.int .i64 s.f)) W')) := Lib.hid (fun W' hk => by
    obtain ⟨h1, h2, _⟩ := HCl.out W' hk
    refine ⟨?_, blk_cell h2 rfl, blk_cell h2 rfl, blk_cell h2 rfl, blk_cell h2 rfl⟩
    rw [← HN.out]
    exact blk_cell h1.box rfl)
  obtain ⟨t, htn⟩ : ∃ t : Nat, s.t = (t : Int) := ⟨s.t.toNat, by omega⟩
  have htk : 4 + s.t.toNat = 4 + t := by omega
  rw [htk] at HNE hL
  have hS := HF0.out W.drew ⟨Nat.le_refl _, fun _ _ _ => rfl⟩
  have FL0 : Hid True := Lib.hid trivial
  have KB : ∀ W' : World, Below W.heap.size W W' → MerG.Kept RO W W' := fun W' h => ⟨h.size, fun b hb _ => h.block b hb⟩
  have HKB := Lib.hid KB
  have HLL := Lib.hid hL
  have hts : t ≤ 2000 := by omega
  have HS2 := Lib.hid hs2
  clear hW hJa hJxa hY h0 hs hY0 hg hlt hst hr ht hm hb h8 hsh hN KB hL htk hs2
  refine callsIn_of_wp Tryz.func125 rfl trivial ?_ rfl
  simp only [Tryz.ntmps125, List.size_toArray, List.length_cons, List.length_nil, Nat.reduceAdd, Nat.reduceSub, Array.replicate_succ, Array.replicate_zero, List.push_toArray, List.append_toArray, List.nil_append, List.cons_append]
  refine wpIn_wide.2 ?_
  go_wp2_with fail
  go_region_held3 (fun W => W.cell? ⟨X, 0, none⟩ = some (.slice (some ⟨g, 0, none⟩) N N) ∧ W.cell? ⟨g, 2, none⟩ = some (.string ⟨(lb (at_ sh 2)).toArray⟩) ∧ W.cell? ⟨g, 3, none⟩ = some (.string ⟨(lb (at_ sh 3)).toArray⟩) ∧ W.cell? ⟨Y, 2, none⟩ = some (.int .i64 s.e))
    (first | exact hS | exact hS1)
    (first
      | (clear FL0; go_at_call 43; refine (K0.out _).mono ?_; rintro e _ ⟨rfl, rfl⟩)
      | (go_at_call 43; refine (K1.out _).mono ?_; rintro e _ ⟨rfl, rfl⟩)
      | (go_at_call 126; refine (HSt.out _).mono ?_; rintro e w2 ⟨⟨ad, m, c, rfl, hrow⟩, hb2⟩; have B2 := Lib.hid ((Below.refl _ W).drew.trans hb2); have hS1 := HF0.out _ (HKB.out _ B2.out); have R2 := Lib.hid hrow; clear hb2 hrow))
  clear hS hS1 HSt K0 K1
  have hml : m = st.length := R2.out.1.symm
  subst hml
  have J2 := Lib.hid (abide_calls HA.out H0.out B2.out)
  have HRow : Hid (0 < st.length → ∃ b o, ad = some ⟨b, o, none⟩ ∧ w2.cell? ⟨b, o, none⟩ = some (.int .i64 (st.getD 0 0))) := Lib.hid (fun h => by
    obtain ⟨b, o, e, _, hc⟩ := R2.out.2 h
    exact ⟨b, o, e, hc 0 h⟩)
  have K2 := Lib.hid (HKB.out _ B2.out)
  clear R2 B2 H0
  go_wp2_with fail
  refine (wpIn_wide (n := n)).1 ?_
  gi_wp2
  gi_loopw [18] (fun i wr => ∃ k : Nat, k ≤ st.length ∧ i = .int .i64 (k : Int) ∧ (k < st.length → ∃ b o, ad = some ⟨b, o, none⟩ ∧ wr.cell? ⟨b, o, none⟩ = some (.int .i64 (st.getD 0 0))) ∧ J MerG.Non ((st.map fun i => (2 + i).toNat).take k) wr ∧ MerG.Kept RO W wr) (fun i _ => st.length - (intOf i).toNat)
  case atStart => exact ⟨0, Nat.zero_le _, rfl, HRow.out, J2.out, K2.out⟩
  case round =>
    obtain ⟨k, hk, rfl, hrow, hJs, hnx⟩ := hrel
    have HJ := Lib.hid hJs
    have HKp := Lib.hid hnx
    clear hJs hnx
    by_cases hlt : k < st.length
    · obtain rfl : k = 0 := by omega
      obtain ⟨b0, o0, rfl, hc0⟩ := hrow hlt
      have h1 : st.length = 1 := by omega
      obtain ⟨x, rfl⟩ : ∃ x, st = [x] := by
        match st, h1 with
        | [x], _ => exact ⟨x, rfl⟩
      have hc1 : wr.cell? ⟨b0, o0, none⟩ = some (.int .i64 x) := hc0
      have HKx := Lib.hid (HK.out x (HS2.out x (by simp)))
      have hR0 := HY.out MerG.Non _ ((2 + x).toNat) wr HJ.out (by rw [HLL.out]; exact ⟨behind sh (4 + t), by simp⟩)
      simp only [List.take_zero, List.nil_append] at hR0
      obtain ⟨fn, tmps, assign, body, hy, hR⟩ := hR0
      simp only [encI] at hy hR
      obtain ⟨y, hyy⟩ : ∃ y, (2 + x).toNat = y := ⟨_, rfl⟩
      have HE : Hid ((List.map (fun i => (2 + i).toNat) [x]).take 1 = [y]) := Lib.hid (by rw [← hyy]; rfl)
      rw [hyy] at HKx hy hR
      clear hrow hc0 h1 hyy
      gi_wp2_with (refine ⟨trivial, ?_⟩; gi_at_call 43; refine (callsIn_wide.2 (HKx.out _)).mono ?_; rintro e _ ⟨rfl, rfl⟩)
      refine hR.mono ?_
      rintro e W3 ⟨(⟨rfl, hJ3⟩ | ⟨rfl, hJx3⟩), hk3⟩
      · have HK3 := Lib.hid (HKp.out.trans (hk3.mono fun b hb => .inr hb))
        have HJ3 := Lib.hid hJ3
        clear hJ3 hk3 hy hR
        gi_wp2
        go_roundw
        case rel => exact ⟨_, _, _, _, _, _, _, _, _, _, _, ⟨1, Nat.le_refl _, rfl, fun h => absurd h (by simp), by rw [HE.out]; exact HJ3.out, HK3.out⟩, rfl⟩
        case measure => simp [intOf]
      · gi_wp2
        refine bodyPost_ret (results_none rfl _ _ _) rfl ?_
        exact ⟨⟨_, rfl⟩, MerG.Non, .inr ⟨_, trivial, hJx3⟩⟩
    · obtain rfl : k = st.length := by omega
      rw [show (st.map fun i => (2 + i).toNat).take st.length = (st.map fun i => (2 + i).toNat) from List.take_of_length_le (by simp)] at HJ
      have htt : s.t = (t : Int) := htn
      have hS := HF5.out wr.drew (HKp.out.drew)
      rw [htt] at hS
      have HF6 : Hid (∀ W' : World, MerG.Kept RO W W' → ((fun W : World => W.cell? ⟨X, 0, none⟩ = some (.slice (some ⟨g, 0, none⟩) N N) ∧ W.cell? ⟨Y, 1, none⟩ = some (.int .i64 (t : Int)) ∧ W.cell? ⟨Y, 4, none⟩ = some (.int .i64 s.b) ∧ W.cell? ⟨Y, 5, none⟩ = some (.int .i64 s.l) ∧ W.cell? ⟨Y, 6, none⟩ = some (.int .i64 s.f)) W')) := Lib.hid (fun W' hk => by have := HF5.out W' hk; rw [htt] at this; exact this)
      have HDn : Hid (Calls Tryz.prog 48 #[.agg #[.int .i64 s.b, .int .i64 s.l, .int .i64 s.f]] wr.drew fun e w' => e = .returned (.int .i64 4) ∧ Below wr.heap.size wr.drew w') := Lib.hid (HD.out wr.drew (HCl.out wr.drew HKp.out.drew).2.2)
      clear hrow HF5 HF0 htn
      have hwr0 : IntKind.i64.wrap (4 + (t : Int)) = ((4 + t : Nat) : Int) := by rw [IntWalk.i64_in _ (by omega)]; omega
      obtain ⟨p, hp⟩ : ∃ p, 4 + t = p := ⟨_, rfl⟩
      rw [hp] at hwr0 HNE HLL
      have hwr : IntKind.i64.wrap (4 + (t : Int)) = (p : Int) := hwr0
      clear hwr0 htt hp
      gi_wp2
      go_region_held3 (fun W => W.cell? ⟨X, 0, none⟩ = some (.slice (some ⟨g, 0, none⟩) N N) ∧ W.cell? ⟨Y, 1, none⟩ = some (.int .i64 (t : Int)) ∧ W.cell? ⟨Y, 4, none⟩ = some (.int .i64 s.b) ∧ W.cell? ⟨Y, 5, none⟩ = some (.int .i64 s.l) ∧ W.cell? ⟨Y, 6, none⟩ = some (.int .i64 s.f))
        (first | exact hS | exact hS1 | exact hS2 | exact hS3)
        (first
          | (go_at_call 48; refine HDn.out.mono ?_; rintro e w3 ⟨rfl, hb3⟩; have B3 := Lib.hid hb3; have K3 : Hid (MerG.Kept RO W w3) := Lib.hid (HKp.out.drew.below hb3); have hS1 := HF6.out _ K3.out; clear hb3)
          | (go_at_call 40; refine (notEmpty _ _ _ _ _).mono ?_; rintro e w4 ⟨rfl, hw4⟩; have B4 := Lib.hid (show Below w3.heap.size w3 w4 by rw [hw4]; exact (below_new _ _).alloc (by simp) _); have K4 : Hid (MerG.Kept RO W w4) := Lib.hid (K3.out.below B4.out); have hS2 := HF6.out _ K4.out; have X4 : Hid (w4.heap[w3.heap.size]? = some (.cells #[.slice (some ⟨g, 0, none⟩) N N] 34 (0, 0))) := Lib.hid (by rw [hw4]; exact heap_alloc2_old w3 _ _); have F4 : Hid (w4.heap[w3.heap.size + 1]? = some (.cells #[.int .i64 (p : Int)] 3 (0, 0))) := Lib.hid (by rw [hw4]; exact heap_alloc2_new w3 _ _); clear hw4)
          | (go_at_call 79; refine (onward (wr := wr) n hn HN.out (show wr.heap.size ≤ w3.heap.size from B3.out.size) ((Below.refl wr.heap.size wr).drew.trans (B3.out.trans (B4.out.mono B3.out.size))) X4.out F4.out (HCl.out _ K4.out).1.row rg (fun b hb => Nat.lt_of_lt_of_le (HLt.out b hb) K4.out.size) HNE.out HA.out HAx.out HLL.out HY.out HJ.out).mono ?_; rintro e w5 ⟨⟨v5, rfl⟩, hk5, hT5⟩; have hS3 := HF6.out _ (K4.out.trans hk5); have T5 := Lib.hid hT5; clear hk5 hT5))
      go_wp2_with fail
      go_end0
      refine ⟨⟨_, rfl⟩, ?_⟩
      rcases T5.out with ⟨T, h⟩ | ⟨T, pre, h⟩
      · exact ⟨T, .inl ⟨_, rfl, h⟩⟩
      · exact ⟨T, .inr ⟨_, trivial, h⟩⟩
end Go.Proofs.YtoilcieineejiaaGreatDoor.JouK
