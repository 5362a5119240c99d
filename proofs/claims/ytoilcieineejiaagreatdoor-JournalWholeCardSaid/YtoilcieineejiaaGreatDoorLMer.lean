/- MerG MerA MerF: one behind the other. -/
import Derived.RangeFuncNested
import Derived.RangeFuncBound
import Derived.RangeFuncCalls
import Derived.RangeFuncLeaves
import Derived.Maps.OwnIn
import Derived.Maps.AppendAt
import Derived.RangeFuncBox
import Derived.StillTail
import Derived.StillTailTactics
import Derived.OrdersIn
import Derived.OrdersHeld
import Derived.Deep.RegionHeld3
import Derived.TacticsIn
import Derived.OwnWalkIn
/- A range over a function whose iterator keeps cells of its own: two parties, each of which says which blocks it may turn. Over any program and fence; no conditions but those that each lemma names. -/
namespace Go.Proofs.YtoilcieineejiaaGreatDoor.MerG
open Go.RowKit
theorem either {p q r s : Prop} (h : p ∨ q) (f : p → r) (g : q → s) : r ∨ s := h.elim (fun e => .inl (f e)) (fun e => .inr (g e))
theorem some_of {α : Type} {p q : α → Prop} (h : ∃ x, p x) (f : ∀ x, p x → q x) : ∃ x, q x := by
  obtain ⟨x, hx⟩ := h
  exact ⟨x, f x hx⟩
/-- The iterator's step: it may turn its blocks T alone, and blocks that it lays; its blocks are T' then. -/
structure Turns (T T' : Nat → Prop) (A B : World) : Prop where
  os : B.os = A.os
  tape : B.tape = A.tape
  output : B.output = A.output
  size : A.heap.size ≤ B.heap.size
  block : ∀ b, b < A.heap.size → ¬ T b → B.heap[b]? = A.heap[b]?
  new : ∀ b, T' b → T b ∨ (A.heap.size ≤ b ∧ b < B.heap.size)
/-- The round's word: the blocks T lie as they lay. -/
structure Kept (T : Nat → Prop) (A B : World) : Prop where
  size : A.heap.size ≤ B.heap.size
  block : ∀ b, b < A.heap.size → T b → B.heap[b]? = A.heap[b]?
theorem Kept.refl (T : Nat → Prop) (A : World) : Kept T A A := ⟨Nat.le_refl _, fun _ _ _ => rfl⟩
theorem Kept.trans {T : Nat → Prop} {A B C : World} (h : Kept T A B) (k : Kept T B C) : Kept T A C :=
  ⟨Nat.le_trans h.size k.size, fun b hb ht => (k.block b (Nat.lt_of_lt_of_le hb h.size) ht).trans (h.block b hb ht)⟩
theorem Kept.mono {T T' : Nat → Prop} {A B : World} (h : Kept T A B) (hT : ∀ b, T' b → T b) : Kept T' A B := ⟨h.size, fun b hb ht => h.block b hb (hT b ht)⟩
theorem Kept.drew {T : Nat → Prop} {A B : World} (h : Kept T A B) : Kept T A B.drew := ⟨h.size, h.block⟩
theorem Kept.alloc {T : Nat → Prop} {A B : World} (h : Kept T A B) (o : Obj) : Kept T A (B.alloc o) :=
  h.trans ⟨by simp, fun b hb _ => Below.heap_alloc B o b hb⟩
theorem Kept.setCell {T : Nat → Prop} {A B : World} (h : Kept T A B) {p : Addr} (hp : ¬ T p.block) (v : Value) : Kept T A (B.setCell p v) :=
  h.trans ⟨(KeepsWalks.setCell B p v).size, fun b _ ht => Below.heap_setCell B p v b (fun e => hp (e ▸ ht))⟩
theorem Kept.putObj {T : Nat → Prop} {A B : World} (h : Kept T A B) {l : Nat} (hp : ¬ T l) (o : Obj) : Kept T A (B.putObj l o) :=
  h.trans ⟨by simp, fun b _ ht => World.putObj_heap_other (fun e => hp (e ▸ ht))⟩
theorem Kept.grown {T : Nat → Prop} {A B C : World} {row : Option Nat} (h : Kept T A B) (hg : B.grownBy C row) (hr : ∀ k, row = some k → ¬ T k) : Kept T A C :=
  h.trans ⟨hg.size, fun b hb ht => hg.block b hb (fun e => hr b e.symm ht)⟩
theorem Kept.below {T : Nat → Prop} {A B C : World} (h : Kept T A B) (hb : Below B.heap.size B C) : Kept T A C :=
  h.trans ⟨hb.size, fun b hb' _ => hb.block b hb'⟩
theorem Kept.cell {T : Nat → Prop} {A B : World} (h : Kept T A B) {p : Addr} {v : Value} (hc : A.cell? p = some v) (ht : T p.block) : B.cell? p = some v :=
  (World.cell?_of_block (h.block p.block (World.block_lt_of_cell? A p hc) ht)).trans hc
theorem Kept.heap {T : Nat → Prop} {A B : World} (h : Kept T A B) {b : Nat} {o : Obj} (hc : A.heap[b]? = some o) (ht : T b) : B.heap[b]? = some o :=
  (h.block b (Array.getElem?_eq_some_iff.1 hc).1 ht).trans hc
/-- The empty set of blocks. -/
def Non : Nat → Prop := fun _ => False
theorem Turns.refl (T : Nat → Prop) (A : World) : Turns T T A A := ⟨rfl, rfl, rfl, Nat.le_refl _, fun _ _ _ => rfl, fun _ h => .inl h⟩
theorem Turns.less {T T' U : Nat → Prop} {A B : World} (h : Turns T T' A B) (hU : ∀ b, U b → T' b) : Turns T U A B := ⟨h.os, h.tape, h.output, h.size, h.block, fun b hb => h.new b (hU b hb)⟩
theorem Turns.trans {T U V : Nat → Prop} {A B C : World} (h : Turns T U A B) (k : Turns (fun b => U b ∨ T b) V B C) : Turns T V A C :=
  ⟨k.os.trans h.os, k.tape.trans h.tape, k.output.trans h.output, Nat.le_trans h.size k.size,
   fun b hb ht => (k.block b (Nat.lt_of_lt_of_le hb h.size) (fun e => e.elim (fun hu => (h.new b hu).elim ht (fun hn => by omega)) ht)).trans (h.block b hb ht),
   fun b hb => (k.new b hb).elim (fun e => e.elim (fun hu => MerG.either (h.new b hu) id (fun hn => ⟨hn.1, Nat.lt_of_lt_of_le hn.2 k.size⟩)) .inl) (fun hn => .inr ⟨Nat.le_trans h.size hn.1, hn.2⟩)⟩
theorem Turns.of_below {T : Nat → Prop} {A B : World} (h : Below A.heap.size A B) : Turns T (fun b => T b ∨ (A.heap.size ≤ b ∧ b < B.heap.size)) A B :=
  ⟨h.os, h.tape, h.output, h.size, fun b hb _ => h.block b hb, fun _ h => h⟩
theorem Turns.setCell {T : Nat → Prop} {A : World} {p : Addr} (hp : T p.block) (v : Value) : Turns T T A (A.setCell p v) :=
  ⟨rfl, rfl, rfl, (KeepsWalks.setCell A p v).size, fun b _ ht => Below.heap_setCell A p v b (fun e => ht (e ▸ hp)), fun _ h => .inl h⟩
theorem Turns.putObj {T : Nat → Prop} {A : World} {l : Nat} (hp : T l) (o : Obj) : Turns T T A (A.putObj l o) :=
  ⟨rfl, rfl, rfl, by simp, fun b _ ht => World.putObj_heap_other (fun e => ht (e ▸ hp)), fun _ h => .inl h⟩
theorem Turns.alloc {T : Nat → Prop} {A : World} (o : Obj) : Turns T (fun b => T b ∨ b = A.heap.size) A (A.alloc o) :=
  ⟨rfl, rfl, rfl, by simp, fun b hb _ => Below.heap_alloc A o b hb, fun b h => MerG.either h id (fun e => by subst e; simp)⟩
theorem Turns.alloc' {T : Nat → Prop} {A : World} (o : Obj) : Turns T T A (A.alloc o) := (Turns.alloc o).less fun _ h => .inl h
theorem Turns.drew {T : Nat → Prop} (A : World) : Turns T T A A.drew := ⟨rfl, rfl, rfl, Nat.le_refl _, fun _ _ _ => rfl, fun _ h => .inl h⟩
/-- c: the iterator turns no cells that lay. -/
def Stays (c : Bool) (A B : World) : Prop := c = true → ∀ (b : Nat) (o : Obj), A.heap[b]? = some o → o.isCells = true → B.heap[b]? = some o
theorem Stays.no (A B : World) : Stays false A B := fun h => by cases h
theorem Stays.refl (c : Bool) (A : World) : Stays c A A := fun _ _ _ h _ => h
theorem Stays.trans {c : Bool} {A B C : World} (h : Stays c A B) (k : Stays c B C) : Stays c A C := fun hc b o ho hi => k hc b o (h hc b o ho hi) hi
theorem Stays.of_below {c : Bool} {A B : World} (h : Below A.heap.size A B) : Stays c A B := fun _ b _ ho _ => (h.block b (Array.getElem?_eq_some_iff.1 ho).1).trans ho
theorem Stays.alloc (c : Bool) (A : World) (o : Obj) : Stays c A (A.alloc o) := .of_below ((Below.refl _ A).alloc (Nat.le_refl _) o)
theorem Stays.drew (c : Bool) (A : World) : Stays c A A.drew := fun _ _ _ h _ => h
theorem Stays.putObj {c : Bool} {A : World} {l : Nat} {o : Obj} (hl : A.heap[l]? = some o) (ho : o.isCells = false) (o' : Obj) : Stays c A (A.putObj l o') := fun _ b u hb hu => by
  by_cases e : b = l
  · subst e
    rw [hl] at hb
    cases hb
    rw [ho] at hu
    cases hu
  · exact (World.putObj_heap_other e).trans hb
/-- What speaks of no block that the iterator may turn. -/
def Abide {β : Type} (c : Bool) (J : (Nat → Prop) → β → World → Prop) : Prop := ∀ s T T' A B, J T s A → Turns T T' A B → Stays c A B → J T' s B
theorem Abide.any {β : Type} {J : (Nat → Prop) → β → World → Prop} (h : Abide false J) (c : Bool) : Abide c J := fun s T T' A B hs ht _ => h s T T' A B hs ht (.no A B)
theorem Abide.and {β : Type} {c : Bool} {J K : (Nat → Prop) → β → World → Prop} (h : Abide c J) (k : Abide c K) : Abide c (fun T s W => J T s W ∧ K T s W) :=
  fun s T T' A B hs ht hc => ⟨h s T T' A B hs.1 ht hc, k s T T' A B hs.2 ht hc⟩
theorem abide_pure {β : Type} {c : Bool} (p : β → Prop) : Abide c (fun _ s _ => p s) := fun _ _ _ _ _ hs _ _ => hs
theorem abide_none {β : Type} {c : Bool} : Abide c (fun _ (_ : β) _ => False) := fun _ _ _ _ _ hs _ _ => hs
/-- A block that is no iterator's. -/
theorem Turns.heap {T T' : Nat → Prop} {A B : World} (ht : Turns T T' A B) {b : Nat} {o : Obj} (h : ¬ T b ∧ A.heap[b]? = some o) : ¬ T' b ∧ B.heap[b]? = some o := by
  have hlt := (Array.getElem?_eq_some_iff.1 h.2).1
  exact ⟨fun e => (ht.new b e).elim h.1 (fun hn => by omega), (ht.block b hlt h.1).trans h.2⟩
theorem abide_heap {β : Type} {c : Bool} (b : β → Nat) (o : β → Obj) : Abide c (fun T s W => ¬ T (b s) ∧ W.heap[b s]? = some (o s)) := fun _ _ _ _ _ hs ht _ => ht.heap hs
/-- What lay ahead of the call lies as it lay. -/
def Safe (n₀ : Nat) (w : World) (T : Nat → Prop) (W : World) : Prop := (∀ b, T b → n₀ ≤ b) ∧ Below n₀ w W
theorem Safe.turns {n₀ : Nat} {w : World} {T T' : Nat → Prop} {A B : World} (h : Safe n₀ w T A) (hn : n₀ ≤ w.heap.size) (ht : Turns T T' A B) : Safe n₀ w T' B :=
  ⟨fun b hb => (ht.new b hb).elim (h.1 b) (fun e => Nat.le_trans hn (Nat.le_trans h.2.size e.1)),
   ht.os.trans h.2.os, ht.tape.trans h.2.tape, ht.output.trans h.2.output, Nat.le_trans h.2.size ht.size, fun b hb => (ht.block b (Nat.lt_of_lt_of_le hb (Nat.le_trans hn h.2.size)) (fun e => by have := h.1 b e; omega)).trans (h.2.block b hb)⟩
theorem abide_safe {β : Type} {c : Bool} {n₀ : Nat} {w : World} (hn : n₀ ≤ w.heap.size) : Abide c (fun T (_ : β) W => Safe n₀ w T W) := fun _ _ _ _ _ hs ht _ => hs.turns hn ht
variable {P : Program} {F : Fence} {n : Nat}
theorem room_of_none {F : Fence} (hd : F.depth = none) (k : Nat) : F.room k := fun d h => by rw [hd] at h; cases h
theorem round_any {F : Fence} (hd : F.depth = none) {m m' : Nat} {P : Program} {l : Nat} {f : FuncId} {tmps : Array Value} {assign body : Code} {w : World} {R : Ending → World → Prop}
    (h : RoundIn F m P l f tmps assign body w R) : RoundIn F m' P l f tmps assign body w R := ⟨h.1, fun c cs _ => h.2 c cs (room_of_none hd _)⟩
theorem yield_any {F : Fence} (hd : F.depth = none) {m : Nat} (m' : Nat) {P : Program} {l : Nat} {args : Array Value} {W : World} {R : Ending → World → Prop} (h : YieldAt F m P l args W R) : YieldAt F m' P l args W R := by
  obtain ⟨fn, tmps, assign, body, hy, hR⟩ := h
  exact ⟨fn, tmps, assign, body, hy, round_any hd hR⟩
theorem yield_round {F : Fence} {m : Nat} {P : Program} {l : Nat} {args : Array Value} {W : World} {R : Ending → World → Prop} (k : Nat) (h : YieldAt F m P l args W R) : YieldAt (F.inRound k) m P l args W R := h
/-- How a round ends, as the iterator sees it. -/
def Ends {α : Type} (J Jx : (Nat → Prop) → List α → World → Prop) (T RO : Nat → Prop) (xs : List α) (A : World) (e : Ending) (B : World) : Prop :=
  ((e = .returned (.bool true) ∧ J T xs B) ∨ (e = .returned (.bool false) ∧ Jx T xs B)) ∧ Kept (fun b => T b ∨ RO b) A B
/-- The contract of an iterator. RO: what the round turns not; G: what is told of what is handed over (that lies in the blocks K); S: all have come; Sp: a part. -/
def Seq {α : Type} (c : Bool) (F : Fence) (n : Nat) (P : Program) (g : Nat) (lb : Array Value) (encs : α → Array Value) (G : (Nat → Prop) → List α → α → World → Prop) (S Sp : List α → Prop) (RO : Nat → Prop) (w : World) : Prop :=
  ∀ (l : Nat) (J Jx : (Nat → Prop) → List α → World → Prop) (W : World), Kept RO w W → Abide c J → Abide c Jx →
    (∀ T pre x A, J T pre A → G (fun b => T b ∨ RO b) pre x A → YieldAt F (n - 1) P l (encs x) A (Ends J Jx T RO (pre ++ [x]) A)) →
    J Non [] W →
    CallsIn F n P g (#[.func (.yield l) #[] #[]] ++ lb) W fun e W' => (∃ v, e = .returned v) ∧ ∃ T, (∃ ys, S ys ∧ J T ys W') ∨ (∃ pre, Sp pre ∧ Jx T pre W')
theorem Seq.later {α : Type} {c : Bool} {F : Fence} {n : Nat} {P : Program} {g : Nat} {lb : Array Value} {encs : α → Array Value} {G : (Nat → Prop) → List α → α → World → Prop} {S Sp : List α → Prop} {RO : Nat → Prop} {w w' : World}
    (h : Seq c F n P g lb encs G S Sp RO w) (hk : Kept RO w w') : Seq c F n P g lb encs G S Sp RO w' := fun l J Jx W hW => h l J Jx W (hk.trans hW)
/-- How the body of a round may be left. -/
def post {α : Type} (K : Nat → Prop) (I : (Nat → Prop) → List α → World → Prop) (Ix : Code → (Nat → Prop) → List α → World → Prop) (T : Nat → Prop) (xs : List α) (W : World) : Exit → Act → World → Prop
  | .normal, _, W' => Kept K W W' ∧ I T xs W'
  | .ret, _, W' => Kept K W W' ∧ Ix .ret T xs W'
  | .exit id, _, W' => Kept K W W' ∧ Ix (.exit id) T xs W'
  | .goto t, _, W' => Kept K W W' ∧ Ix (.goto t) T xs W'
  | .panic _, _, _ => False
  | .outgrown, _, _ => False
/-- THE LAW. -/
theorem range {α : Type} {c : Bool} {g : Operand} {ps : Array Tmp} {assign body : Code} {Q : Exit → Act → World → Prop} {a : Act} {w : World}
    (hro : F.round = none) (h1 : 1 ≤ n) {gf : Nat} {lb : Array Value} (hg : a.eval g = .func (.func gf) #[] lb) (hFg : F.fn gf) (eg : ∀ args w, (callFunc gf args).run P w = .ok (.enter gf args) w)
    {encs : α → Array Value} {G : (Nat → Prop) → List α → α → World → Prop} {S Sp : List α → Prop} {RO : Nat → Prop} (hseq : Seq c F (n - 1) P gf lb encs G S Sp RO w) (hRO : ∀ b, RO b → b < w.heap.size) (hps : ∀ x, (encs x).size = ps.size)
    (I : (Nat → Prop) → List α → World → Prop) (Ix : Code → (Nat → Prop) → List α → World → Prop) (hI : Abide c I) (hIx : ∀ j, Abide c (Ix j)) (h0 : I Non [] w) (Bd : (Nat → Prop) → List α × α × Act → World → Prop) (hBd : ∀ T s W l r r', Bd T s W → T l → W.heap[l]? = some (.loop r) → Bd T s (W.putObj l (.loop r')))
    (hassign : ∀ (l : Nat) (T : Nat → Prop) (pre : List α) (x : α) (W : World) (K : Act → World → Prop), I T pre W → (∃ K0, (∀ b, K0 b → T b ∨ RO b) ∧ G K0 pre x W) → (∀ a' W', Kept (fun b => T b ∨ RO b) W W' → Bd T (pre, x, a') W' → K a' W') →
      assign.wpIn (F.inRound l) (n - 1 - 1) P (Exit.then K (fun _ _ _ => False)) { tmps := (ps.zip (encs x)).foldl (fun t (p, v) => t.setIfInBounds p v) a.tmps, defers := [] } W)
    (hbody : ∀ (l : Nat) (T : Nat → Prop) (pre : List α) (x : α) (a' : Act) (W : World), Bd T (pre, x, a') W → body.wpIn (F.inRound l) (n - 1 - 1) P (post (fun b => T b ∨ RO b) I Ix T (pre ++ [x]) W) a' W)
    (hdone : ∀ (D : Nat) (T : Nat → Prop) (xs : List α) (W : World), w.heap.size ≤ D → T D → S xs → I T xs W → W.heap[D]? = some (.deferred (some [])) → Q .normal { a with defers := { target := .collected D, args := #[] } :: a.defers } W)
    (hstop : ∀ (D : Nat) (c : Code) (T : Nat → Prop) (pre : List α) (W : World), w.heap.size ≤ D → T D → Sp pre → Ix c T pre W → W.heap[D]? = some (.deferred (some [])) → c.wpIn F n P Q { a with defers := { target := .collected D, args := #[] } :: a.defers } W) :
    (Code.rangeFunc g ps assign body).wpIn F n P Q a w := by
  refine wpIn_rangeFunc ?_
  intro fn hfn
  rw [hro]
  obtain ⟨rec, hrec⟩ : ∃ rec : LoopState → Option Code → Loop, rec = fun st pe => { state := st, pending := pe, fn, tmps := a.tmps, params := ps, assign, body, defers := w.heap.size } := ⟨_, rfl⟩
  obtain ⟨U, hU⟩ : ∃ U : Nat → Prop, U = fun b => b = w.heap.size ∨ b = w.heap.size + 1 := ⟨_, rfl⟩
  have hUD : U w.heap.size := by rw [hU]; exact .inl rfl
  have hUl : U (w.heap.size + 1) := by rw [hU]; exact .inr rfl
  have hUle : ∀ b, U b → w.heap.size ≤ b := fun b hb => by rw [hU] at hb; omega
  have ht1 : Turns Non U w ((w.alloc (.deferred (some []))).alloc (.loop (rec .ready none))) := by
    refine ⟨rfl, rfl, rfl, by simp; omega, fun b hb _ => ?_, fun b hb => .inr ?_⟩
    · rw [Below.heap_alloc _ _ _ (by simp; omega), Below.heap_alloc _ _ _ hb]
    · rw [hU] at hb
      simp
      omega
  obtain ⟨W1, hW1⟩ : ∃ W1, (w.alloc (.deferred (some []))).alloc (.loop (rec .ready none)) = W1 := ⟨_, rfl⟩
  have hL1 : W1.heap[w.heap.size + 1]? = some (.loop (rec .ready none)) := by
    rw [← hW1]; have := World.alloc_heap_new (w.alloc (.deferred (some []))) (.loop (rec .ready none)); rwa [World.size_alloc] at this
  have hK1 : W1.heap[w.heap.size]? = some (.deferred (some [])) := by
    rw [← hW1]; exact (Below.heap_alloc _ _ _ (by simp)).trans (World.alloc_heap_new w _)
  have hst1 : Stays c w W1 := hW1 ▸ (Stays.alloc c w _).trans (Stays.alloc c _ _)
  rw [hW1] at ht1
  have hro1 : Kept RO w W1 := ⟨ht1.size, fun b hb _ => ht1.block b hb (fun h => h)⟩
  refine ⟨w.heap.size + 1, [{ target := .collected w.heap.size, args := #[] }], W1, { target := .fn (.func gf) lb, args := #[.func (.yield (w.heap.size + 1)) #[] #[]] }, W1, gf,
    #[.func (.yield (w.heap.size + 1)) #[] #[]] ++ lb, W1, ?_, ?_, ?_, ?_, fun _ => h1, ?_⟩
  · rw [← hW1, hrec]; exact run_enterLoop_outer _ _ _ _ _
  · simp only [resolve, hg]
    simp [go_sem]
  · intro f' hf'; simp [Target.leads] at hf'; subst hf'; exact hFg
  · simp [invoke, go_sem, eg]
  · have wide : ∀ {T T' : Nat → Prop} {A B : World}, Turns T T' A B → Turns (fun b => T b ∨ U b) (fun b => T' b ∨ U b) A B := fun ht =>
      ⟨ht.os, ht.tape, ht.output, ht.size, fun b hb h => ht.block b hb (fun e => h (.inl e)), fun b hb => hb.elim (fun e => MerG.either (ht.new b e) .inl id) (fun e => .inl (.inr e))⟩
    refine (hseq (w.heap.size + 1)
      (fun T pre W => I (fun b => T b ∨ U b) pre W ∧ (¬ T (w.heap.size + 1) ∧ W.heap[w.heap.size + 1]? = some (.loop (rec .ready none))) ∧ (¬ T w.heap.size ∧ W.heap[w.heap.size]? = some (.deferred (some []))))
      (fun T pre W => ∃ c, Ix c (fun b => T b ∨ U b) pre W ∧ (¬ T (w.heap.size + 1) ∧ W.heap[w.heap.size + 1]? = some (.loop (rec .done (some c)))) ∧ (¬ T w.heap.size ∧ W.heap[w.heap.size]? = some (.deferred (some []))))
      W1 hro1
      (fun s T T' A B hs ht hst => ⟨hI s _ _ A B hs.1 (wide ht) hst, ht.heap hs.2.1, ht.heap hs.2.2⟩)
      (fun s T T' A B hs ht hst => by
        obtain ⟨c, hc, hl, hk⟩ := hs
        exact ⟨c, hIx c s _ _ A B hc (wide ht) hst, ht.heap hl, ht.heap hk⟩)
      ?_ ⟨hI [] Non _ w W1 h0 (ht1.less (fun b hb => hb.elim (fun h => h.elim) id)) hst1, ⟨fun h => h, hL1⟩, ⟨fun h => h, hK1⟩⟩).mono ?_
    · rintro T pre x W ⟨hi, hl, hk⟩ hg0
      have hy := run_yield (P := P) (args := encs x) hl.2 (by rw [hrec]; exact hps x)
      rw [hrec] at hy
      refine ⟨fn, _, assign, body, hy, roundIn_of_wpIn hfn (hassign _ _ pre x W _ hi ⟨_, fun b hb => MerG.either hb .inl id, hg0⟩ ?_)⟩
      clear hy
      intro a' Wa hka hba
      have hla := hka.heap hl.2 (.inl (.inr hUl))
      have hkK : ∀ b, (T b ∨ RO b) → ((T b ∨ U b) ∨ RO b) := fun b h => MerG.either h .inl id
      have hnl : ¬ (T (w.heap.size + 1) ∨ RO (w.heap.size + 1)) := fun h => h.elim hl.1 (fun e => by have := hRO _ e; omega)
      refine ⟨_, run_beginRound hla (by rw [hrec]), ?_⟩
      have hl2 : (Wa.putObj (w.heap.size + 1) (.loop { rec .ready none with state := .busy })).heap[w.heap.size + 1]? = some (.loop { rec .ready none with state := .busy }) := World.putObj_heap_same (Array.getElem?_eq_some_iff.1 hla).1
      have hk2 : (Wa.putObj (w.heap.size + 1) (.loop { rec .ready none with state := .busy })).heap[w.heap.size]? = some (.deferred (some [])) := (World.putObj_heap_other (by omega)).trans (hka.heap hk.2 (.inl (.inr hUD)))
      have hkb : Kept (fun b => T b ∨ RO b) W (Wa.putObj (w.heap.size + 1) (.loop { rec .ready none with state := .busy })) := (hka.mono hkK).putObj hnl _
      refine wpIn_mono (hbody _ _ pre x a' _ (hBd _ _ _ _ _ _ hba (.inr hUl) hla)) ?_
      have fin : ∀ (jump : Option Code) (W3 : World), Kept (fun b => (T b ∨ U b) ∨ RO b) (Wa.putObj (w.heap.size + 1) (.loop { rec .ready none with state := .busy })) W3 →
          (Instr.endRound (w.heap.size + 1) jump).run P W3 = .ok (.bool jump.isNone) (W3.putObj (w.heap.size + 1) (.loop (rec (if jump.isNone then .ready else .done) jump))) ∧
          (W3.putObj (w.heap.size + 1) (.loop (rec (if jump.isNone then .ready else .done) jump))).heap[w.heap.size + 1]? = some (.loop (rec (if jump.isNone then .ready else .done) jump)) ∧
          (W3.putObj (w.heap.size + 1) (.loop (rec (if jump.isNone then .ready else .done) jump))).heap[w.heap.size]? = some (.deferred (some [])) ∧
          Kept (fun b => T b ∨ RO b) W (W3.putObj (w.heap.size + 1) (.loop (rec (if jump.isNone then .ready else .done) jump))) ∧ Stays c W3 (W3.putObj (w.heap.size + 1) (.loop (rec (if jump.isNone then .ready else .done) jump))) := fun jump W3 hk3 => by
        have hl3 := hk3.heap hl2 (.inl (.inr hUl))
        have := run_endRound (P := P) jump hl3
        rw [hrec] at this ⊢
        exact ⟨this, World.putObj_heap_same (Array.getElem?_eq_some_iff.1 hl3).1, (World.putObj_heap_other (by omega)).trans (hk3.heap hk2 (.inl (.inr hUD))), (hkb.trans (hk3.mono hkK)).putObj hnl _, Stays.putObj hl3 rfl _⟩
      rintro e a3 W3 hp
      cases e with
      | normal =>
        obtain ⟨hk3, hi3⟩ := hp
        obtain ⟨hr, hl4, hk4, hkk, hst⟩ := fin none W3 hk3
        exact ⟨_, _, hr, .inl ⟨rfl, hI _ _ _ _ _ hi3 (Turns.putObj (.inr hUl) _) hst, ⟨hl.1, hl4⟩, ⟨hk.1, hk4⟩⟩, hkk⟩
      | ret =>
        obtain ⟨hk3, hi3⟩ := hp
        obtain ⟨hr, hl4, hk4, hkk, hst⟩ := fin (some .ret) W3 hk3
        exact ⟨_, _, hr, .inr ⟨rfl, .ret, hIx _ _ _ _ _ _ hi3 (Turns.putObj (.inr hUl) _) hst, ⟨hl.1, hl4⟩, ⟨hk.1, hk4⟩⟩, hkk⟩
      | exit id =>
        obtain ⟨hk3, hi3⟩ := hp
        obtain ⟨hr, hl4, hk4, hkk, hst⟩ := fin (some (.exit id)) W3 hk3
        exact ⟨_, _, hr, .inr ⟨rfl, .exit id, hIx _ _ _ _ _ _ hi3 (Turns.putObj (.inr hUl) _) hst, ⟨hl.1, hl4⟩, ⟨hk.1, hk4⟩⟩, hkk⟩
      | goto t =>
        obtain ⟨hk3, hi3⟩ := hp
        obtain ⟨hr, hl4, hk4, hkk, hst⟩ := fin (some (.goto t)) W3 hk3
        exact ⟨_, _, hr, .inr ⟨rfl, .goto t, hIx _ _ _ _ _ _ hi3 (Turns.putObj (.inr hUl) _) hst, ⟨hl.1, hl4⟩, ⟨hk.1, hk4⟩⟩, hkk⟩
      | panic ch => exact hp.elim
      | outgrown => exact hp.elim
    · rintro e W2 ⟨⟨v, rfl⟩, T, (⟨xs, hS, hi, hl, hk⟩ | ⟨pre, hSp, c, hi, hl, hk⟩)⟩
      · exact ⟨none, _, by have := run_endLoop (P := P) hl.2 (by rw [hrec]; simp); rw [hrec] at this; exact this, hdone _ _ xs _ (Nat.le_refl _) (.inr hUD) hS (hI _ _ _ _ _ hi (Turns.putObj (.inr hUl) _) (Stays.putObj hl.2 rfl _)) ((World.putObj_heap_other (by omega)).trans hk.2)⟩
      · exact ⟨some c, _, by have := run_endLoop (P := P) hl.2 (by rw [hrec]; simp); rw [hrec] at this; exact this, hstop _ c _ pre _ (Nat.le_refl _) (.inr hUD) hSp (hIx _ _ _ _ _ _ hi (Turns.putObj (.inr hUl) _) (Stays.putObj hl.2 rfl _)) ((World.putObj_heap_other (by omega)).trans hk.2)⟩
end Go.Proofs.YtoilcieineejiaaGreatDoor.MerG
/- A row that is collected from an iterator that keeps cells of its own: the box it lies in, an append to it. Over any program; no conditions but those that each lemma names. -/
namespace Go.Proofs.YtoilcieineejiaaGreatDoor.MerA
open Go.RowKit MerG
/-- The blocks T have been laid. -/
def Low (T : Nat → Prop) (W : World) : Prop := ∀ b, T b → b < W.heap.size
theorem Low.turns {T T' : Nat → Prop} {A B : World} (h : Low T A) (ht : Turns T T' A B) : Low T' B := fun b hb => (ht.new b hb).elim (fun e => Nat.lt_of_lt_of_le (h b e) ht.size) (fun e => e.2)
theorem Low.kept {T K : Nat → Prop} {A B : World} (h : Low T A) (hk : Kept K A B) : Low T B := fun b hb => Nat.lt_of_lt_of_le (h b hb) hk.size
theorem abide_low {β : Type} {c : Bool} : Abide c (fun T (_ : β) W => Low T W) := fun _ _ _ _ _ hs ht _ => hs.turns ht
/-- The row of a slice that is owned, where its block lies as it lay. -/
theorem own_at {base size n : Nat} {e : TypeId} {A B : World} {v : Value} {xs : List Value} (h : A.ownsRow base e size v n xs) (hk : ∀ k, v.ownBlock = some k → B.heap[k]? = A.heap[k]?) : B.ownsRow base e size v n xs := by
  refine ⟨h.1, ?_⟩
  rcases h.2 with e0 | ⟨g, cap, cur, rfl, h1, h2, h3⟩
  · exact .inl e0
  · exact .inr ⟨g, cap, cur, rfl, h1, (hk g rfl).trans h2, h3⟩
/-- The box X holds a slice that owns xs; neither is the iterator's. -/
structure Col (n₀ : Nat) (w : World) (X : Nat) (t e : TypeId) (size : Nat) (T : Nat → Prop) (n : Nat) (xs : List Value) (v : Value) (W : World) : Prop where
  box : ¬ T X ∧ Boxed W X t v
  own : W.ownsRow n₀ e size v n xs
  out : ∀ k, v.ownBlock = some k → ¬ T k
  safe : MerG.Safe n₀ w T W
  low : Low T W
theorem Col.turns {n₀ : Nat} {w : World} {X : Nat} {t e : TypeId} {size : Nat} {T T' : Nat → Prop} {n : Nat} {xs : List Value} {v : Value} {A B : World} (h : Col n₀ w X t e size T n xs v A) (hn : n₀ ≤ w.heap.size) (ht : Turns T T' A B) : Col n₀ w X t e size T' n xs v B := by
  have hl := h.own.lt
  exact ⟨ht.heap h.box, own_at h.own (fun k hk => ht.block k (hl k hk).2 (h.out k hk)), fun k hk e1 => (ht.new k e1).elim (h.out k hk) (fun e2 => by have := hl k hk; omega), h.safe.turns hn ht, h.low.turns ht⟩
theorem Col.start {n₀ : Nat} {w W : World} {X : Nat} {t e : TypeId} {size : Nat} (hX : Boxed W X t (.slice none 0 0)) (hb : Below n₀ w W) : Col n₀ w X t e size Non 0 [] (.slice none 0 0) W :=
  ⟨⟨fun h => h, hX⟩, World.ownsRow_nil _ _ _ _, fun k hk => by simp [Value.ownBlock] at hk, ⟨fun b h => h.elim, hb⟩, fun b h => h.elim⟩
/-- A round of the collecting: what it lays first, what it appends, what it stores. -/
theorem Col.appended {n₀ : Nat} {w : World} {X : Nat} {t e : TypeId} {size : Nat} {T RO : Nat → Prop} {n m : Nat} {xs ys : List Value} {v v' : Value} {W A w1 : World}
    (h : Col n₀ w X t e size T n xs v W) (hte : t ≠ e) (hX : n₀ ≤ X) (hn : n₀ ≤ W.heap.size) (hRO : ∀ b, RO b → b < n₀) (hA : Below W.heap.size W A)
    (hown' : w1.ownsRow n₀ e size v' m ys) (hg : A.grownBy w1 v.ownBlock) (hat : v'.ownBlock = v.ownBlock ∨ v'.ownBlock = some A.heap.size) :
    Boxed w1 X t v ∧ Col n₀ w X t e size T m ys v' (w1.setCell ⟨X, 0, none⟩ v') ∧ Kept (fun b => T b ∨ RO b) W (w1.setCell ⟨X, 0, none⟩ v') := by
  have hbA : Boxed A X t v := (hA.block X h.box.2.lt).trans h.box.2
  have hoA : A.ownsRow n₀ e size v n xs := own_at h.own (fun k hk => hA.block k (h.own.lt k hk).2)
  have hb1 : Boxed w1 X t v := hbA.kept hg (hbA.not_row hte hoA)
  have hs := hA.size
  have hb2 : Below n₀ W (w1.setCell ⟨X, 0, none⟩ v') := ((hA.mono hn).grown hg (by omega) (fun k hk => (hoA.lt k hk).1)).setCell (p := ⟨X, 0, none⟩) hX v'
  have hsz : W.heap.size ≤ (w1.setCell ⟨X, 0, none⟩ v').heap.size := hb2.size
  refine ⟨hb1, ⟨⟨h.box.1, hb1.set v'⟩, hown'.kept (grownBy_setCell' w1 X v') (.inr (hb1.not_row hte hown').symm), ?_, ⟨h.safe.1, h.safe.2.trans hb2⟩, fun b hb => Nat.lt_of_lt_of_le (h.low b hb) hsz⟩, ⟨hsz, ?_⟩⟩
  · intro k hk hT
    rcases hat with e1 | e1
    · exact h.out k (e1 ▸ hk) hT
    · rw [e1] at hk
      cases hk
      have := h.low _ hT
      omega
  · intro b hb hTR
    have hbX : b ≠ X := fun e1 => hTR.elim (fun e2 => h.box.1 (e1 ▸ e2)) (fun e2 => by have := hRO b e2; omega)
    have hbo : some b ≠ v.ownBlock := fun e1 => hTR.elim (fun e2 => h.out b e1.symm e2) (fun e2 => by have := hRO b e2; have := (h.own.lt b e1.symm).1; omega)
    rw [Below.heap_setCell w1 ⟨X, 0, none⟩ v' b (fun e1 => hbX e1), hg.block b (by omega) hbo, hA.block b hb]
theorem Col.putObj {n₀ : Nat} {w : World} {X : Nat} {t e : TypeId} {size : Nat} {T : Nat → Prop} {n : Nat} {xs : List Value} {v : Value} {W : World} (h : Col n₀ w X t e size T n xs v W) (hn : n₀ ≤ w.heap.size) {l : Nat} (hl : T l) (o : Obj) : Col n₀ w X t e size T n xs v (W.putObj l o) :=
  h.turns hn (Turns.putObj hl o)
variable {P : Program} {F : Fence} {n : Nat}
/-- What an iterator that ranges over another one keeps while the inner one runs. T: the inner one's blocks; RI: what the inner one's rounds turn not; OB: boxes of its own. -/
def Pass {α : Type} (J : (Nat → Prop) → List α → World → Prop) (RO RI OB : Nat → Prop) (T : Nat → Prop) (pre : List α) (W : World) : Prop :=
  ∃ U : Nat → Prop, (∀ b, T b → U b) ∧ (∀ b, RI b → U b ∨ RO b) ∧ (∀ b, OB b → U b ∧ ¬ T b ∧ ¬ RI b ∧ b < W.heap.size) ∧ J U pre W
variable {α : Type} {J Jx : (Nat → Prop) → List α → World → Prop} {RO RI OB : Nat → Prop} {T T' : Nat → Prop} {pre : List α} {A B : World}
theorem Pass.turns (hJ : Abide false J) (h : Pass J RO RI OB T pre A) (ht : Turns T T' A B) : Pass J RO RI OB T' pre B := by
  obtain ⟨U, h1, h2, h3, h4⟩ := h
  refine ⟨fun b => U b ∨ T' b, fun b hb => .inr hb, fun b hb => MerG.either (h2 b hb) .inl id, fun b hb => ?_, hJ _ _ _ _ _ h4 ⟨ht.os, ht.tape, ht.output, ht.size, fun b hb hn => ht.block b hb (fun e => hn (h1 b e)), fun b hb => hb.elim .inl (fun e => MerG.either (ht.new b e) (h1 b) id)⟩ (.no _ _)⟩
  obtain ⟨a1, a2, a3, a4⟩ := h3 b hb
  exact ⟨.inl a1, fun e => (ht.new b e).elim a2 (fun e2 => by omega), a3, Nat.lt_of_lt_of_le a4 ht.size⟩
theorem Pass.own (hJ : Abide false J) (h : Pass J RO RI OB T pre A) (ht : Turns OB OB A B) : Pass J RO RI OB T pre B ∧ Kept (fun b => T b ∨ RI b) A B := by
  obtain ⟨U, h1, h2, h3, h4⟩ := h
  refine ⟨⟨U, h1, h2, fun b hb => ?_, hJ _ _ _ _ _ h4 ⟨ht.os, ht.tape, ht.output, ht.size, fun b hb hn => ht.block b hb (fun e => hn (h3 b e).1), fun _ hb => .inl hb⟩ (.no _ _)⟩, ⟨ht.size, fun b hb hTR => ht.block b hb (fun e => hTR.elim (h3 b e).2.1 (h3 b e).2.2.1)⟩⟩
  obtain ⟨a1, a2, a3, a4⟩ := h3 b hb
  exact ⟨a1, a2, a3, Nat.lt_of_lt_of_le a4 ht.size⟩
theorem Pass.last (h : Pass J RO RI OB T pre A) : ∃ U, J U pre A := by
  obtain ⟨U, _, _, _, h4⟩ := h
  exact ⟨U, h4⟩
theorem Pass.yield {l : Nat} {encs : α → Array Value} {G : (Nat → Prop) → List α → α → World → Prop} (h : Pass J RO RI OB T pre A)
    (hY : ∀ T pre x A, J T pre A → G (fun b => T b ∨ RO b) pre x A → YieldAt F n P l (encs x) A (MerG.Ends J Jx T RO (pre ++ [x]) A)) (x : α) (hg : ∀ K, G K pre x A) :
    YieldAt F n P l (encs x) A fun e W => ((e = .returned (.bool true) ∧ Pass J RO RI OB T (pre ++ [x]) W) ∨ (e = .returned (.bool false) ∧ Pass Jx RO RI OB T (pre ++ [x]) W)) ∧ Kept (fun b => (T b ∨ RI b) ∨ OB b) A W := by
  obtain ⟨U, h1, h2, h3, h4⟩ := h
  obtain ⟨fn, tmps, assign, body, hy, hR⟩ := hY U pre x A h4 (hg _)
  refine ⟨fn, tmps, assign, body, hy, hR.mono ?_⟩
  rintro e W ⟨he, hk⟩
  have h3' : ∀ b, OB b → U b ∧ ¬ T b ∧ ¬ RI b ∧ b < W.heap.size := fun b hb => ⟨(h3 b hb).1, (h3 b hb).2.1, (h3 b hb).2.2.1, Nat.lt_of_lt_of_le (h3 b hb).2.2.2 hk.size⟩
  refine ⟨MerG.either he (fun e1 => ⟨e1.1, U, h1, h2, h3', e1.2⟩) (fun e1 => ⟨e1.1, U, h1, h2, h3', e1.2⟩), hk.mono fun b hb => ?_⟩
  rcases hb with (hb | hb) | hb
  · exact .inl (h1 b hb)
  · exact h2 b hb
  · exact .inl (h3 b hb).1
end Go.Proofs.YtoilcieineejiaaGreatDoor.MerA
/- A region that draws its order, in a round of a range over a function: reads in the text's order; reads and a forced tail. Over any program; no conditions but those that each lemma names. -/
namespace Go.Proofs.YtoilcieineejiaaGreatDoor.MerF
open Go.RowKit
variable {P : Program} {ops : Array Oper} {md : Region.Mode} {w : World} {l₀ m : Nat}
/-- No defer statement stands in it. -/
def calm (ops : Array Oper) : Bool := ops.all fun o => match o.op with | .defer _ => false | _ => true
theorem calm_at {ops : Array Oper} (h : calm ops = true) {i : Nat} {o : Oper} (ho : ops[i]? = some o) : ∀ c, o.op ≠ .defer c := by
  intro c hc
  obtain ⟨hlt, he⟩ := Array.getElem?_eq_some_iff.1 ho
  have := (Array.all_eq_true.1 h) i hlt
  rw [he, hc] at this
  cases this
theorem wpIn_of_still {o : Oper} {a : Act} {K : Act → Prop} {K' : Act → World → Prop} {Q' : Exit → Act → World → Prop} (hc : ∀ c, o.op ≠ .defer c) (h : ∀ a, K a → K' a w) (hh : o.still P a w K) : o.wpIn (Fence.wide.inRound l₀) m P a w K' Q' := by
  refine ⟨fun _ _ => trivial, ?_⟩
  rw [Oper.semAt_plain _ _ _ hc]
  unfold Oper.still at hh
  generalize (execOp a.eval o).run P w = r at *
  cases r with
  | ok n w' =>
    cases n <;> simp only [Oper.stillUpon] at hh <;> simp only [Oper.uponIn]
    case enter f args =>
      obtain ⟨rfl, v, hc, hn⟩ := hh
      refine ⟨fun h => (by cases h), CallsIn.inRound l₀ (callsIn_wide.2 (hc.mono ?_))⟩
      rintro e w'' ⟨rfl, rfl⟩
      exact h _ hn
    all_goals (obtain ⟨rfl, h2⟩ := hh; exact h _ h2)
  | halt x w' => simp only [Oper.stillUpon] at hh
theorem wpOpIn_of_stOp {i : Nat} {a : Act} {K : Act → Prop} {K' : Act → World → Prop} {Q' : Exit → Act → World → Prop} (hc : calm ops = true) (h : ∀ a, K a → K' a w) (hh : stOp P ops w i K a) : wpOpIn (Fence.wide.inRound l₀) m P ops Q' i K' a w := by
  unfold stOp at hh
  unfold wpOpIn
  split
  · rename_i ho; simp only [ho] at hh; exact h _ hh
  · rename_i o ho
    simp only [ho] at hh
    split
    · rename_i hw; simp only [hw, if_true] at hh; exact wpIn_of_still (calm_at hc ho) h hh
    · rename_i hw; simp only [hw] at hh; exact ⟨fun _ _ => trivial, h _ hh⟩
theorem wpAnyIn_of_still {Q : Act → Prop} {Q' : Exit → Act → World → Prop} (hc : calm ops = true) (hQ : ∀ a, Q a → Q' .normal a w) : ∀ (fuel : Nat) (listed : Array Bool) (a : Act),
    wpAnyS P md ops w Q fuel listed a → wpAnyIn (Fence.wide.inRound l₀) m P md ops Q' fuel listed a w
  | 0, _, _, h => ⟨h.1, hQ _ h.2⟩
  | fuel + 1, _, _, h => ⟨fun h0 => hQ _ (h.1 h0), fun i hi => wpOpIn_of_stOp hc (fun a' => wpAnyIn_of_still hc hQ fuel _ a') (h.2 i hi)⟩
theorem wpAnyIn_of_head {n g : Nat} {L : Array Bool → Act → Prop} {Q' : Exit → Act → World → Prop} (hc : calm ops = true) (hL : ∀ listed a, L listed a → wpAnyIn (Fence.wide.inRound l₀) m P md ops Q' g listed a w) :
    ∀ (f : Nat) (listed : Array Bool) (a : Act), wpAnyL P md ops w n L f listed a → wpAnyIn (Fence.wide.inRound l₀) m P md ops Q' (f + g) listed a w
  | 0, listed, a, h => by rw [Nat.zero_add]; exact hL _ _ h
  | f + 1, listed, a, h => by
    rw [show f + 1 + g = (f + g) + 1 by omega]
    exact ⟨fun h0 => absurd h0 h.1, fun i hi => wpOpIn_of_stOp hc (fun a' h' => wpAnyIn_of_head hc hL f _ a' h') (h.2 i hi).2⟩
theorem wpAnyIn_of_seq {F : Fence} {Q' : Exit → Act → World → Prop} : ∀ (l : List Oper) (k : Nat) (listed : Array Bool) (a : Act) (w : World), (∀ j, l[j]? = ops[k + j]?) →
    Region.seqB md ops l.length k listed = true → wpListIn F m P ops Q' l a w → wpAnyIn F m P md ops Q' l.length listed a w
  | [], _, _, _, _, _, hB, h => ⟨by simpa [Region.seqB] using hB, h⟩
  | o :: l, k, listed, a, w, hl, hB, h => by
    have h0 : ops[k]? = some o := by simpa using (hl 0).symm
    simp only [List.length_cons, Region.seqB, Bool.and_eq_true, decide_eq_true_eq] at hB
    refine ⟨fun h1 => (by rw [hB.1] at h1; cases h1), fun i hi => ?_⟩
    rw [hB.1] at hi
    have hik : i = k := by simpa using hi
    subst hik
    have hw : wpOpIn F m P ops Q' i (wpListIn F m P ops Q' l) a w := by unfold wpOpIn; simp only [h0]; exact h
    exact wpOpIn_mono (fun a' w' h' => wpAnyIn_of_seq l (i + 1) _ a' w' (fun j => by have := hl (j + 1); simpa [Nat.add_assoc, Nat.add_comm 1 j] using this) hB.2 h') hw
/-- Reads, then a forced tail. -/
theorem still_tail {id : Nat} {Q : Exit → Act → World → Prop} {a : Act} {w : World} {l : List Oper} (n : Nat) (hm : P.follows .mixedOrders = true) (hB : Region.lexTailB .any l.toArray n = true) (hcm : calm l.toArray = true)
    (h : wpStill P l.toArray w.drew (fun a' => wpListIn (Fence.wide.inRound l₀) m P l.toArray Q (l.drop n) a' w.drew) (l.take n) a) : (Code.region id l.toArray true).wpIn (Fence.wide.inRound l₀) m P Q a w := by
  simp only [Region.lexTailB, Bool.and_eq_true, decide_eq_true_eq] at hB
  obtain ⟨⟨⟨⟨hsel, hn⟩, hs⟩, hc⟩, hlex⟩ := hB
  have hn' : n < l.length := by simpa using hn
  have htl : (l.take n).length = n := by simp; omega
  have hdl : (l.drop n).length = l.toArray.size - n := by simp
  have inv0 : HeadInv .any l.toArray n (Array.replicate l.toArray.size false) :=
    ⟨by simp, fun j oj _ hl => (by rw [getD_replicate_false] at hl; cases hl), fun t _ ht => getD_in (by simpa using ht) (getD_replicate_false _ _)⟩
  have H := wpAnyL_lex (md := .any) (g := l.toArray.size - n) hsel hs hc hn (l.take n) 0 _ a (fun j hj => by
    have hj' : j < n := by rw [htl] at hj; exact hj
    simp [hj']) (by simpa using htl) inv0 (by rw [htl]; exact hlex) h
  refine wpIn_region_any hm ?_
  have := wpAnyIn_of_head (l₀ := l₀) (m := m) (Q' := Q) (g := l.toArray.size - n) hcm (fun listed a' hL => by
    have := wpAnyIn_of_seq (m := m) (F := Fence.wide.inRound l₀) (md := .any) (Q' := Q) (l.drop n) n listed a' w.drew (fun j => by simp [List.getElem?_drop]) (by rw [hdl]; exact hL.1) hL.2
    rwa [hdl] at this) _ _ _ H
  rw [htl, show n + (l.toArray.size - n) = l.toArray.size by omega] at this
  exact this
/-- Reads alone. -/
theorem still {id : Nat} {Q : Exit → Act → World → Prop} {a : Act} {w : World} {l : List Oper} (hm : P.follows .mixedOrders = true) (hB : Region.lexB .any l.toArray = true) (hcm : calm l.toArray = true)
    (h : wpStill P l.toArray w.drew (fun a' => Q .normal a' w.drew) l a) : (Code.region id l.toArray true).wpIn (Fence.wide.inRound l₀) m P Q a w := by
  simp only [Region.lexB, Bool.and_eq_true] at hB
  refine wpIn_region_any hm (wpAnyIn_of_still (Q := fun a' => Q .normal a' w.drew) hcm (fun _ h => h) _ _ _ ?_)
  have := wpAnyS_lex (md := .any) hB.1 l 0 (Array.replicate l.toArray.size false) a (by simp) (by simpa using hB.2) h
  simpa using this
theorem wpOpIn_of_op {i : Nat} {a : Act} {K : Act → World → Prop} {Q : Exit → Act → World → Prop} (hc : calm ops = true) (hL : ¬ LetsOut Q) (h : wpOp P ops Q i K a w) : wpOpIn (Fence.wide.inRound l₀) m P ops Q i K a w := by
  unfold wpOp at h
  unfold wpOpIn
  split
  · rename_i ho; simp only [ho] at h; exact h
  · rename_i o ho
    simp only [ho] at h
    split
    · rename_i hw
      simp only [hw, if_true] at h
      have h := h.resolve_right (fun e => hL e.2)
      refine ⟨fun _ _ => trivial, ?_⟩
      rw [Oper.semAt_plain _ _ _ (calm_at hc ho)]
      unfold Oper.wp at h
      generalize (execOp a.eval o).run P w = r at *
      cases r with
      | ok n w' =>
        cases n <;> simp only [Oper.upon] at h <;> simp only [Oper.uponIn]
        case value v => exact h
        case skip => exact h
        case defer d => exact h
        case enter f args => exact ⟨fun h => (by cases h), CallsIn.inRound l₀ (callsIn_wide.2 h)⟩
        case row row args => exact ⟨fun h => (by cases h), fun c cs _ => let ⟨v, w', r, s⟩ := h c cs; ⟨v, w', r, stepsIn_wide.2 s⟩⟩
      | halt x w' => cases x <;> simp only [Oper.upon] at h <;> simp only [Oper.uponIn] <;> exact h
    · rename_i hw; simp only [hw] at h; exact ⟨fun _ _ => trivial, h⟩
theorem wpAnyIn_of_any {Q : Exit → Act → World → Prop} (hc : calm ops = true) (hL : ¬ LetsOut Q) : ∀ (fuel : Nat) (listed : Array Bool) (a : Act) (w : World), wpAny P md ops Q fuel listed a w → wpAnyIn (Fence.wide.inRound l₀) m P md ops Q fuel listed a w
  | 0, _, _, _, h => h
  | fuel + 1, _, _, _, h => ⟨h.1, fun i hi => wpOpIn_mono (fun a' w' h' => wpAnyIn_of_any hc hL fuel _ a' w' h') (wpOpIn_of_op hc hL (h.2 i hi))⟩
/-- What is held: as outside a round. -/
theorem held {id : Nat} {Q : Exit → Act → World → Prop} {a : Act} {S : World → Prop} (hm : P.follows .mixedOrders = true) (hcm : calm ops = true) (hL : ¬ LetsOut Q) (hS : S w.drew)
    (h : S w.drew → wpAnyH P .any ops Q S ops.size (Array.replicate ops.size false) a w.drew) : (Code.region id ops true).wpIn (Fence.wide.inRound l₀) m P Q a w :=
  wpIn_region_any hm (wpAnyIn_of_any hcm hL _ _ _ _ (wpAny_of_held _ _ _ _ (h hS)))
/-- What is not wanted. -/
theorem skip {o : Oper} {rest : List Oper} {a : Act} {Q : Exit → Act → World → Prop} (h : Region.wanted o (yielded ops a.tmps) = false) (hk : wpListIn (Fence.wide.inRound l₀) m P ops Q rest (a.put o.dst undef) w) : wpListIn (Fence.wide.inRound l₀) m P ops Q (o :: rest) a w := by
  unfold wpListIn
  rw [h]
  exact ⟨fun _ _ => trivial, hk⟩
theorem still_skip {o : Oper} {rest : List Oper} {a : Act} {Q : Act → Prop} (h : Region.wanted o (yielded ops a.tmps) = false) (hk : wpStill P ops w Q rest (a.put o.dst undef)) : wpStill P ops w Q (o :: rest) a := by
  unfold wpStill
  rw [h]
  exact hk
/-- What no tactic looks into: else it is reckoned out over what is not wanted. -/
structure Box (p : Prop) : Prop where
  out : p
theorem box_skip {o : Oper} {rest : List Oper} {a : Act} {Q : Act → Prop} (h : Region.wanted o (yielded ops a.tmps) = false) (hk : Box (wpStill P ops w Q rest (a.put o.dst undef))) : Box (wpStill P ops w Q (o :: rest) a) := ⟨still_skip h hk.out⟩
theorem box_step {o : Oper} {rest : List Oper} {a : Act} {Q : Act → Prop} (h : ∀ K : Act → Prop, (∀ a, Box (wpStill P ops w Q rest a) → K a) → if Region.wanted o (yielded ops a.tmps) then o.still P a w K else K (a.put o.dst undef)) : Box (wpStill P ops w Q (o :: rest) a) :=
  ⟨wpStill_step fun K hK => h K fun a ha => hK a ha.out⟩
theorem box_nil {a : Act} {Q : Act → Prop} (h : Q a) : Box (wpStill P ops w Q [] a) := ⟨wpStill_nil h⟩
theorem Box.use {p : Prop} (h : Box p) : p := h.out
end Go.Proofs.YtoilcieineejiaaGreatDoor.MerF
