/- slices.AppendSeq, slices.Collect over any iterator that tells given texts, or given bools: the walks of their texts. No conditions but those that each lemma names. -/
import Derived.Shelf.Abstract
import Derived.Shelf.RegionOpen
import Derived.WalkKit
import Derived.OwnWalkIn
import Derived.TacticsInMore
import Derived.LoopNIn
import Derived.LoopIn
import Derived.Lib.Hide
import Derived.Test.YtdkcebaehdkphaaGreatDoorRows
import Derived.Test.YtdkcebaehdkphaaGreatDoorLMerG
namespace Go.Proofs.YtdkcebaehdkphaaGreatDoor.MerB
open Go.RowKit Go.Shelf MerG MerA
attribute [local go_sem] Oper.semAt_some
/-- A part of them that goes on with this one. -/
def Nxt {α : Type} (xs : List α) (_ : Nat → Prop) (pre : List α) (x : α) (_ : World) : Prop := pre ++ [x] <+: xs
theorem nxt_of {α : Type} {xs pre rest : List α} {x : α} (h : pre ++ x :: rest = xs) (K : Nat → Prop) (W : World) : Nxt xs K pre x W := ⟨rest, by simpa using h⟩
theorem Nxt.lt {α : Type} {xs pre : List α} {x : α} {K : Nat → Prop} {W : World} (h : Nxt xs K pre x W) : pre.length < xs.length := by
  obtain ⟨r, rfl⟩ := h
  simp
/-- What is answered: a row of one's own. -/
def Coll (n₀ : Nat) (w : World) (t : TypeId) (size n : Nat) (cs : List Value) (e : Ending) (w' : World) : Prop :=
  ∃ a c, e = .returned (.slice a n c) ∧ w'.ownsRow n₀ t size (.slice a n c) n cs ∧ Below n₀ w w'
theorem own_slice {w : World} {base : Nat} {t : TypeId} {size n : Nat} {v : Value} {xs : List Value} (h : w.ownsRow base t size v n xs) : ∃ a c, v = .slice a n c := by
  rcases h.2 with ⟨rfl, h0⟩ | ⟨g, cap, cur, rfl, _⟩
  · exact ⟨none, 0, by rw [h0]⟩
  · exact ⟨some ⟨g, 0, none⟩, cap, rfl⟩
theorem coll_end {n₀ : Nat} {w : World} {X : Nat} {t e : TypeId} {size : Nat} {T : Nat → Prop} {n : Nat} {xs : List Value} {v : Value} {W : World} (h : Col n₀ w X t e size T n xs v W) {D : Nat} (hD : T D) (hK : W.heap[D]? = some (.deferred (some []))) (o' : Obj) :
    Coll n₀ w e size n xs (.returned v) (W.putObj D o') := by
  obtain ⟨a, c, rfl⟩ := own_slice h.own
  refine ⟨a, c, rfl, ownsRow_putObj h.own o' hK rfl, h.safe.2.trans ?_⟩
  have hd := h.safe.1 D hD
  refine ⟨rfl, rfl, rfl, by simp, fun b hb => World.putObj_heap_other (by omega)⟩
theorem info_s : (Tryz.prog.info? 9).map (fun i => (i.zero, i.size, i.bytes)) = some (some (.string ByteArray.empty), 1, 16) := by kernel_rfl
theorem info_b : (Tryz.prog.info? 4).map (fun i => (i.zero, i.size, i.bytes)) = some (some (.bool false), 1, 1) := by kernel_rfl
set_option maxRecDepth 100000 in
set_option maxHeartbeats 2000000 in
theorem appendS {c : Bool} (gf : Nat) (lb : Array Value) (eg : ∀ args w, (callFunc gf args).run Tryz.prog w = .ok (.enter gf args) w) (xs : List (List UInt8)) (hx : xs.length ≤ 1000000) (RO : Nat → Prop) (w : World) (hRO : ∀ b, RO b → b < w.heap.size)
    (hseq : Seq c Fence.wide 5 Tryz.prog gf lb (fun x : List UInt8 => #[Value.string ⟨x.toArray⟩]) (Nxt xs) (fun ys => ys = xs) (fun _ => True) RO w) :
    Calls Tryz.prog 114 #[.slice none 0 0, .func (.func gf) #[] lb] w (Coll w.heap.size w 9 1 xs.length (xs.map fun x : List UInt8 => Value.string ⟨x.toArray⟩)) := by
  refine (callsIn_wide (n := 6)).1 ?_
  refine callsIn_of_wp_marks Tryz.func114 rfl trivial ?_ rfl
  simp only [Tryz.ntmps114, List.size_toArray, List.length_cons, List.length_nil, Nat.reduceAdd, Nat.reduceSub, Array.replicate_succ, Array.replicate_zero, List.push_toArray, List.append_toArray, List.nil_append, List.cons_append]
  gi_wp2
  have hB0 : Below w.heap.size w (w.alloc (.cells #[.slice none 0 0] 42)) := (Below.refl _ _).alloc (Nat.le_refl _) _
  have hBx := Boxed.new w 42 (.slice none 0 0)
  have hsz : (w.alloc (.cells #[.slice none 0 0] 42)).heap.size = w.heap.size + 1 := by simp
  obtain ⟨W0, hW0⟩ : ∃ W0, w.alloc (.cells #[.slice none 0 0] 42) = W0 := ⟨_, rfl⟩
  rw [hW0] at hB0 hBx hsz ⊢
  clear hW0
  obtain ⟨i0, hi, hz0, hz1, hz2⟩ := info_parts info_s
  refine range rfl (by omega) (gf := gf) (lb := lb) rfl trivial eg (hseq.later ⟨by omega, fun b hb _ => hB0.block b hb⟩) (fun b hb => by have := hRO b hb; omega) (fun _ => rfl)
    (fun T pre W => ∃ v, Col w.heap.size w w.heap.size 42 9 1 T pre.length (pre.map fun x : List UInt8 => Value.string ⟨x.toArray⟩) v W) (fun _ _ _ _ => False)
    (fun s T T' A B ⟨v, h⟩ ht _ => ⟨v, h.turns (Nat.le_refl _) ht⟩) (fun _ => abide_none) ⟨_, Col.start hBx hB0⟩
    (fun T s W => (∃ v, Col w.heap.size w w.heap.size 42 9 1 T s.1.length (s.1.map fun x : List UInt8 => Value.string ⟨x.toArray⟩) v W) ∧ s.1.length < xs.length ∧ s.2.2 = { tmps := #[.slice none 0 0, .func (.func gf) #[] lb, .pointer (some ⟨w.heap.size, 0, none⟩), undef, .slice none 0 0, .string ⟨s.2.1.toArray⟩, .func (.func gf) #[] lb, .string ⟨s.2.1.toArray⟩, undef, undef, undef, undef, undef], defers := [] })
    (fun T s W l r r' ⟨⟨v, h⟩, h2⟩ hl _ => ⟨⟨v, h.putObj (Nat.le_refl _) hl _⟩, h2⟩) ?assign ?body ?done ?stop
  case assign =>
    rintro l T pre x W K hI ⟨K0, _, hg⟩ hK
    gi_wp2
    exact hK _ _ (Kept.refl _ _) ⟨hI, hg.lt, rfl⟩
  case body =>
    rintro l T pre x a' W ⟨⟨v, hC⟩, hlt, ha⟩
    dsimp only at hC hlt ha
    subst ha
    have HC := Lib.hid hC
    have hc := hC.box.2.cell
    have hle := hC.safe.2.size
    clear hC
    gi_wp2_with (gi_at_builtin; (refine wpListIn_append_own_at _ rfl _ _ _ rfl w.heap.size 9 i0 _ 1 16 Tryz.underlying42 hi hz0 hz1 hz2 rfl (by decide) _ _ _ rfl (HC.out.own.alloc _) ⟨W.heap.size, 0, none⟩ 1 1 [.string ⟨x.toArray⟩] rfl rfl (cell_one_new _ _ _) (by simp [Value.oneCell']) (by unfold maxLen; omega) (by omega) (by simp; omega) ?_; intro v' w1 hown' hgrow _ hat; obtain ⟨g', cap', rfl⟩ := ownsRow_succ hown'; have HA := Lib.hid (HC.out.appended (by decide) (Nat.le_refl _) hle hRO ((Below.refl _ W).alloc (Nat.le_refl _) _) hown' hgrow hat); have hc1 := HA.out.1.cell; have hf1 := HA.out.1.frozen; clear hown' hgrow hat))
    exact ⟨HA.out.2.2, _, by simpa using HA.out.2.1⟩
  case done =>
    rintro D T ys W hD hT rfl ⟨v, hC⟩ hK
    have HC := Lib.hid hC
    have hc := hC.box.2.cell
    obtain ⟨a, cc, rfl⟩ := own_slice hC.own
    clear hC
    gi_wp2
    refine ⟨by simp, .inl ⟨_, _, rfl, run_takeDeferred hK, ?_⟩⟩
    exact ⟨_, results_tmp rfl _ _ _, by simpa using coll_end HC.out hT hK _⟩
  case stop =>
    rintro D c T pre W _ _ _ h _
    exact h.elim
theorem collectS {c : Bool} (gf : Nat) (lb : Array Value) (eg : ∀ args w, (callFunc gf args).run Tryz.prog w = .ok (.enter gf args) w) (xs : List (List UInt8)) (hx : xs.length ≤ 1000000) (RO : Nat → Prop) (w : World) (hRO : ∀ b, RO b → b < w.heap.size)
    (hseq : Seq c Fence.wide 5 Tryz.prog gf lb (fun x : List UInt8 => #[Value.string ⟨x.toArray⟩]) (Nxt xs) (fun ys => ys = xs) (fun _ => True) RO w) :
    Calls Tryz.prog 93 #[.func (.func gf) #[] lb] w (Coll w.heap.size w 9 1 xs.length (xs.map fun x : List UInt8 => Value.string ⟨x.toArray⟩)) := by
  have HA := Lib.hid (appendS gf lb eg xs hx RO w hRO hseq)
  clear hseq eg
  go_enter Tryz.func93, Tryz.ntmps93
  go_wp2_with (go_at_call 114; refine HA.out.mono ?_; rintro e w' ⟨a, cc, rfl, hr⟩; have HR := Lib.hid hr; clear hr)
  go_ret
  exact ⟨a, cc, rfl, HR.out⟩
set_option maxRecDepth 100000 in
set_option maxHeartbeats 2000000 in
theorem appendB {c : Bool} (gf : Nat) (lb : Array Value) (eg : ∀ args w, (callFunc gf args).run Tryz.prog w = .ok (.enter gf args) w) (xs : List Bool) (hx : xs.length ≤ 1000000) (RO : Nat → Prop) (w : World) (hRO : ∀ b, RO b → b < w.heap.size)
    (hseq : Seq c Fence.wide 5 Tryz.prog gf lb (fun x : Bool => #[Value.bool x]) (Nxt xs) (fun ys => ys = xs) (fun _ => True) RO w) :
    Calls Tryz.prog 128 #[.slice none 0 0, .func (.func gf) #[] lb] w (Coll w.heap.size w 4 1 xs.length (xs.map fun x : Bool => Value.bool x)) := by
  refine (callsIn_wide (n := 6)).1 ?_
  refine callsIn_of_wp_marks Tryz.func128 rfl trivial ?_ rfl
  simp only [Tryz.ntmps128, List.size_toArray, List.length_cons, List.length_nil, Nat.reduceAdd, Nat.reduceSub, Array.replicate_succ, Array.replicate_zero, List.push_toArray, List.append_toArray, List.nil_append, List.cons_append]
  gi_wp2
  have hB0 : Below w.heap.size w (w.alloc (.cells #[.slice none 0 0] 174)) := (Below.refl _ _).alloc (Nat.le_refl _) _
  have hBx := Boxed.new w 174 (.slice none 0 0)
  have hsz : (w.alloc (.cells #[.slice none 0 0] 174)).heap.size = w.heap.size + 1 := by simp
  obtain ⟨W0, hW0⟩ : ∃ W0, w.alloc (.cells #[.slice none 0 0] 174) = W0 := ⟨_, rfl⟩
  rw [hW0] at hB0 hBx hsz ⊢
  clear hW0
  obtain ⟨i0, hi, hz0, hz1, hz2⟩ := info_parts info_b
  refine range rfl (by omega) (gf := gf) (lb := lb) rfl trivial eg (hseq.later ⟨by omega, fun b hb _ => hB0.block b hb⟩) (fun b hb => by have := hRO b hb; omega) (fun _ => rfl)
    (fun T pre W => ∃ v, Col w.heap.size w w.heap.size 174 4 1 T pre.length (pre.map fun x : Bool => Value.bool x) v W) (fun _ _ _ _ => False)
    (fun s T T' A B ⟨v, h⟩ ht _ => ⟨v, h.turns (Nat.le_refl _) ht⟩) (fun _ => abide_none) ⟨_, Col.start hBx hB0⟩
    (fun T s W => (∃ v, Col w.heap.size w w.heap.size 174 4 1 T s.1.length (s.1.map fun x : Bool => Value.bool x) v W) ∧ s.1.length < xs.length ∧ s.2.2 = { tmps := #[.slice none 0 0, .func (.func gf) #[] lb, .pointer (some ⟨w.heap.size, 0, none⟩), undef, .slice none 0 0, .bool s.2.1, .func (.func gf) #[] lb, .bool s.2.1, undef, undef, undef, undef, undef], defers := [] })
    (fun T s W l r r' ⟨⟨v, h⟩, h2⟩ hl _ => ⟨⟨v, h.putObj (Nat.le_refl _) hl _⟩, h2⟩) ?assign ?body ?done ?stop
  case assign =>
    rintro l T pre x W K hI ⟨K0, _, hg⟩ hK
    gi_wp2
    exact hK _ _ (Kept.refl _ _) ⟨hI, hg.lt, rfl⟩
  case body =>
    rintro l T pre x a' W ⟨⟨v, hC⟩, hlt, ha⟩
    dsimp only at hC hlt ha
    subst ha
    have HC := Lib.hid hC
    have hc := hC.box.2.cell
    have hle := hC.safe.2.size
    clear hC
    gi_wp2_with (gi_at_builtin; (refine wpListIn_append_own_at _ rfl _ _ _ rfl w.heap.size 4 i0 _ 1 1 Tryz.underlying174 hi hz0 hz1 hz2 rfl (by decide) _ _ _ rfl (HC.out.own.alloc _) ⟨W.heap.size, 0, none⟩ 1 1 [.bool x] rfl rfl (cell_one_new _ _ _) (by simp [Value.oneCell']) (by unfold maxLen; omega) (by omega) (by simp; omega) ?_; intro v' w1 hown' hgrow _ hat; obtain ⟨g', cap', rfl⟩ := ownsRow_succ hown'; have HA := Lib.hid (HC.out.appended (by decide) (Nat.le_refl _) hle hRO ((Below.refl _ W).alloc (Nat.le_refl _) _) hown' hgrow hat); have hc1 := HA.out.1.cell; have hf1 := HA.out.1.frozen; clear hown' hgrow hat))
    exact ⟨HA.out.2.2, _, by simpa using HA.out.2.1⟩
  case done =>
    rintro D T ys W hD hT rfl ⟨v, hC⟩ hK
    have HC := Lib.hid hC
    have hc := hC.box.2.cell
    obtain ⟨a, cc, rfl⟩ := own_slice hC.own
    clear hC
    gi_wp2
    refine ⟨by simp, .inl ⟨_, _, rfl, run_takeDeferred hK, ?_⟩⟩
    exact ⟨_, results_tmp rfl _ _ _, by simpa using coll_end HC.out hT hK _⟩
  case stop =>
    rintro D c T pre W _ _ _ h _
    exact h.elim
theorem collectB {c : Bool} (gf : Nat) (lb : Array Value) (eg : ∀ args w, (callFunc gf args).run Tryz.prog w = .ok (.enter gf args) w) (xs : List Bool) (hx : xs.length ≤ 1000000) (RO : Nat → Prop) (w : World) (hRO : ∀ b, RO b → b < w.heap.size)
    (hseq : Seq c Fence.wide 5 Tryz.prog gf lb (fun x : Bool => #[Value.bool x]) (Nxt xs) (fun ys => ys = xs) (fun _ => True) RO w) :
    Calls Tryz.prog 117 #[.func (.func gf) #[] lb] w (Coll w.heap.size w 4 1 xs.length (xs.map fun x : Bool => Value.bool x)) := by
  have HA := Lib.hid (appendB gf lb eg xs hx RO w hRO hseq)
  clear hseq eg
  go_enter Tryz.func117, Tryz.ntmps117
  go_wp2_with (go_at_call 128; refine HA.out.mono ?_; rintro e w' ⟨a, cc, rfl, hr⟩; have HR := Lib.hid hr; clear hr)
  go_ret
  exact ⟨a, cc, rfl, HR.out⟩
end Go.Proofs.YtdkcebaehdkphaaGreatDoor.MerB
