/- MerG MerM2: one behind the other. -/
import Derived.RangeFuncNested
import Derived.RangeFuncBound
import Derived.RangeFuncCalls
import Derived.RangeFuncLeaves
/- A range over a function whose iterator keeps cells of its own: two parties, each of which says which blocks it may turn. Over any program and fence; no conditions but those that each lemma names. -/
namespace Go.Proofs.YtopnodkdpehdoaaGreatDoor.MerG
open Go.RowKit
theorem either {p q r s : Prop} (h : p ∨ q) (f : p → r) (g : q → s) : r ∨ s := h.elim (fun e => .inl (f e)) (fun e => .inr (g e))
theorem some_of {α : Type} {p q : α → Prop} (h : ∃ x, p x) (f : ∀ x, p x → q x) : ∃ x, q x := by
  obtain ⟨x, hx⟩ := h
  exact ⟨x, f x hx⟩
/-- The iterator's step: it may turn its blocks T alone, and blocks that it lays; its blocks are T' then. -/
structure Turns (T T' : Nat → Prop) (A B : World) : Prop where
  os : B.os = A.os
  tape : B.tape = A.tape
  output : B.output = A.output
  size : A.heap.size ≤ B.heap.size
  block : ∀ b, b < A.heap.size → ¬ T b → B.heap[b]? = A.heap[b]?
  new : ∀ b, T' b → T b ∨ (A.heap.size ≤ b ∧ b < B.heap.size)
/-- The round's word: the blocks T lie as they lay. -/
structure Kept (T : Nat → Prop) (A B : World) : Prop where
  size : A.heap.size ≤ B.heap.size
  block : ∀ b, b < A.heap.size → T b → B.heap[b]? = A.heap[b]?
theorem Kept.refl (T : Nat → Prop) (A : World) : Kept T A A := ⟨Nat.le_refl _, fun _ _ _ => rfl⟩
theorem Kept.trans {T : Nat → Prop} {A B C : World} (h : Kept T A B) (k : Kept T B C) : Kept T A C :=
  ⟨Nat.le_trans h.size k.size, fun b hb ht => (k.block b (Nat.lt_of_lt_of_le hb h.size) ht).trans (h.block b hb ht)⟩
theorem Kept.mono {T T' : Nat → Prop} {A B : World} (h : Kept T A B) (hT : ∀ b, T' b → T b) : Kept T' A B := ⟨h.size, fun b hb ht => h.block b hb (hT b ht)⟩
theorem Kept.drew {T : Nat → Prop} {A B : World} (h : Kept T A B) : Kept T A B.drew := ⟨h.size, h.block⟩
theorem Kept.alloc {T : Nat → Prop} {A B : World} (h : Kept T A B) (o : Obj) : Kept T A (B.alloc o) :=
  h.trans ⟨by simp, fun b hb _ => Below.heap_alloc B o b hb⟩
theorem Kept.setCell {T : Nat → Prop} {A B : World} (h : Kept T A B) {p : Addr} (hp : ¬ T p.block) (v : Value) : Kept T A (B.setCell p v) :=
  h.trans ⟨(KeepsWalks.setCell B p v).size, fun b _ ht => Below.heap_setCell B p v b (fun e => hp (e ▸ ht))⟩
theorem Kept.putObj {T : Nat → Prop} {A B : World} (h : Kept T A B) {l : Nat} (hp : ¬ T l) (o : Obj) : Kept T A (B.putObj l o) :=
  h.trans ⟨by simp, fun b _ ht => World.putObj_heap_other (fun e => hp (e ▸ ht))⟩
theorem Kept.grown {T : Nat → Prop} {A B C : World} {row : Option Nat} (h : Kept T A B) (hg : B.grownBy C row) (hr : ∀ k, row = some k → ¬ T k) : Kept T A C :=
  h.trans ⟨hg.size, fun b hb ht => hg.block b hb (fun e => hr b e.symm ht)⟩
theorem Kept.below {T : Nat → Prop} {A B C : World} (h : Kept T A B) (hb : Below B.heap.size B C) : Kept T A C :=
  h.trans ⟨hb.size, fun b hb' _ => hb.block b hb'⟩
theorem Kept.cell {T : Nat → Prop} {A B : World} (h : Kept T A B) {p : Addr} {v : Value} (hc : A.cell? p = some v) (ht : T p.block) : B.cell? p = some v :=
  (World.cell?_of_block (h.block p.block (World.block_lt_of_cell? A p hc) ht)).trans hc
theorem Kept.heap {T : Nat → Prop} {A B : World} (h : Kept T A B) {b : Nat} {o : Obj} (hc : A.heap[b]? = some o) (ht : T b) : B.heap[b]? = some o :=
  (h.block b (Array.getElem?_eq_some_iff.1 hc).1 ht).trans hc
/-- The empty set of blocks. -/
def Non : Nat → Prop := fun _ => False
theorem Turns.refl (T : Nat → Prop) (A : World) : Turns T T A A := ⟨rfl, rfl, rfl, Nat.le_refl _, fun _ _ _ => rfl, fun _ h => .inl h⟩
theorem Turns.less {T T' U : Nat → Prop} {A B : World} (h : Turns T T' A B) (hU : ∀ b, U b → T' b) : Turns T U A B := ⟨h.os, h.tape, h.output, h.size, h.block, fun b hb => h.new b (hU b hb)⟩
theorem Turns.trans {T U V : Nat → Prop} {A B C : World} (h : Turns T U A B) (k : Turns (fun b => U b ∨ T b) V B C) : Turns T V A C :=
  ⟨k.os.trans h.os, k.tape.trans h.tape, k.output.trans h.output, Nat.le_trans h.size k.size,
   fun b hb ht => (k.block b (Nat.lt_of_lt_of_le hb h.size) (fun e => e.elim (fun hu => (h.new b hu).elim ht (fun hn => by omega)) ht)).trans (h.block b hb ht),
   fun b hb => (k.new b hb).elim (fun e => e.elim (fun hu => MerG.either (h.new b hu) id (fun hn => ⟨hn.1, Nat.lt_of_lt_of_le hn.2 k.size⟩)) .inl) (fun hn => .inr ⟨Nat.le_trans h.size hn.1, hn.2⟩)⟩
theorem Turns.of_below {T : Nat → Prop} {A B : World} (h : Below A.heap.size A B) : Turns T (fun b => T b ∨ (A.heap.size ≤ b ∧ b < B.heap.size)) A B :=
  ⟨h.os, h.tape, h.output, h.size, fun b hb _ => h.block b hb, fun _ h => h⟩
theorem Turns.setCell {T : Nat → Prop} {A : World} {p : Addr} (hp : T p.block) (v : Value) : Turns T T A (A.setCell p v) :=
  ⟨rfl, rfl, rfl, (KeepsWalks.setCell A p v).size, fun b _ ht => Below.heap_setCell A p v b (fun e => ht (e ▸ hp)), fun _ h => .inl h⟩
theorem Turns.putObj {T : Nat → Prop} {A : World} {l : Nat} (hp : T l) (o : Obj) : Turns T T A (A.putObj l o) :=
  ⟨rfl, rfl, rfl, by simp, fun b _ ht => World.putObj_heap_other (fun e => ht (e ▸ hp)), fun _ h => .inl h⟩
theorem Turns.alloc {T : Nat → Prop} {A : World} (o : Obj) : Turns T (fun b => T b ∨ b = A.heap.size) A (A.alloc o) :=
  ⟨rfl, rfl, rfl, by simp, fun b hb _ => Below.heap_alloc A o b hb, fun b h => MerG.either h id (fun e => by subst e; simp)⟩
theorem Turns.alloc' {T : Nat → Prop} {A : World} (o : Obj) : Turns T T A (A.alloc o) := (Turns.alloc o).less fun _ h => .inl h
theorem Turns.drew {T : Nat → Prop} (A : World) : Turns T T A A.drew := ⟨rfl, rfl, rfl, Nat.le_refl _, fun _ _ _ => rfl, fun _ h => .inl h⟩
/-- c: the iterator turns no cells that lay. -/
def Stays (c : Bool) (A B : World) : Prop := c = true → ∀ (b : Nat) (o : Obj), A.heap[b]? = some o → o.isCells = true → B.heap[b]? = some o
theorem Stays.no (A B : World) : Stays false A B := fun h => by cases h
theorem Stays.refl (c : Bool) (A : World) : Stays c A A := fun _ _ _ h _ => h
theorem Stays.trans {c : Bool} {A B C : World} (h : Stays c A B) (k : Stays c B C) : Stays c A C := fun hc b o ho hi => k hc b o (h hc b o ho hi) hi
theorem Stays.of_below {c : Bool} {A B : World} (h : Below A.heap.size A B) : Stays c A B := fun _ b _ ho _ => (h.block b (Array.getElem?_eq_some_iff.1 ho).1).trans ho
theorem Stays.alloc (c : Bool) (A : World) (o : Obj) : Stays c A (A.alloc o) := .of_below ((Below.refl _ A).alloc (Nat.le_refl _) o)
theorem Stays.drew (c : Bool) (A : World) : Stays c A A.drew := fun _ _ _ h _ => h
theorem Stays.putObj {c : Bool} {A : World} {l : Nat} {o : Obj} (hl : A.heap[l]? = some o) (ho : o.isCells = false) (o' : Obj) : Stays c A (A.putObj l o') := fun _ b u hb hu => by
  by_cases e : b = l
  · subst e
    rw [hl] at hb
    cases hb
    rw [ho] at hu
    cases hu
  · exact (World.putObj_heap_other e).trans hb
/-- What speaks of no block that the iterator may turn. -/
def Abide {β : Type} (c : Bool) (J : (Nat → Prop) → β → World → Prop) : Prop := ∀ s T T' A B, J T s A → Turns T T' A B → Stays c A B → J T' s B
theorem Abide.any {β : Type} {J : (Nat → Prop) → β → World → Prop} (h : Abide false J) (c : Bool) : Abide c J := fun s T T' A B hs ht _ => h s T T' A B hs ht (.no A B)
theorem Abide.and {β : Type} {c : Bool} {J K : (Nat → Prop) → β → World → Prop} (h : Abide c J) (k : Abide c K) : Abide c (fun T s W => J T s W ∧ K T s W) :=
  fun s T T' A B hs ht hc => ⟨h s T T' A B hs.1 ht hc, k s T T' A B hs.2 ht hc⟩
theorem abide_pure {β : Type} {c : Bool} (p : β → Prop) : Abide c (fun _ s _ => p s) := fun _ _ _ _ _ hs _ _ => hs
theorem abide_none {β : Type} {c : Bool} : Abide c (fun _ (_ : β) _ => False) := fun _ _ _ _ _ hs _ _ => hs
/-- A block that is no iterator's. -/
theorem Turns.heap {T T' : Nat → Prop} {A B : World} (ht : Turns T T' A B) {b : Nat} {o : Obj} (h : ¬ T b ∧ A.heap[b]? = some o) : ¬ T' b ∧ B.heap[b]? = some o := by
  have hlt := (Array.getElem?_eq_some_iff.1 h.2).1
  exact ⟨fun e => (ht.new b e).elim h.1 (fun hn => by omega), (ht.block b hlt h.1).trans h.2⟩
theorem abide_heap {β : Type} {c : Bool} (b : β → Nat) (o : β → Obj) : Abide c (fun T s W => ¬ T (b s) ∧ W.heap[b s]? = some (o s)) := fun _ _ _ _ _ hs ht _ => ht.heap hs
/-- What lay ahead of the call lies as it lay. -/
def Safe (n₀ : Nat) (w : World) (T : Nat → Prop) (W : World) : Prop := (∀ b, T b → n₀ ≤ b) ∧ Below n₀ w W
theorem Safe.turns {n₀ : Nat} {w : World} {T T' : Nat → Prop} {A B : World} (h : Safe n₀ w T A) (hn : n₀ ≤ w.heap.size) (ht : Turns T T' A B) : Safe n₀ w T' B :=
  ⟨fun b hb => (ht.new b hb).elim (h.1 b) (fun e => Nat.le_trans hn (Nat.le_trans h.2.size e.1)),
   ht.os.trans h.2.os, ht.tape.trans h.2.tape, ht.output.trans h.2.output, Nat.le_trans h.2.size ht.size, fun b hb => (ht.block b (Nat.lt_of_lt_of_le hb (Nat.le_trans hn h.2.size)) (fun e => by have := h.1 b e; omega)).trans (h.2.block b hb)⟩
theorem abide_safe {β : Type} {c : Bool} {n₀ : Nat} {w : World} (hn : n₀ ≤ w.heap.size) : Abide c (fun T (_ : β) W => Safe n₀ w T W) := fun _ _ _ _ _ hs ht _ => hs.turns hn ht
variable {P : Program} {F : Fence} {n : Nat}
theorem room_of_none {F : Fence} (hd : F.depth = none) (k : Nat) : F.room k := fun d h => by rw [hd] at h; cases h
theorem round_any {F : Fence} (hd : F.depth = none) {m m' : Nat} {P : Program} {l : Nat} {f : FuncId} {tmps : Array Value} {assign body : Code} {w : World} {R : Ending → World → Prop}
    (h : RoundIn F m P l f tmps assign body w R) : RoundIn F m' P l f tmps assign body w R := ⟨h.1, fun c cs _ => h.2 c cs (room_of_none hd _)⟩
theorem yield_any {F : Fence} (hd : F.depth = none) {m : Nat} (m' : Nat) {P : Program} {l : Nat} {args : Array Value} {W : World} {R : Ending → World → Prop} (h : YieldAt F m P l args W R) : YieldAt F m' P l args W R := by
  obtain ⟨fn, tmps, assign, body, hy, hR⟩ := h
  exact ⟨fn, tmps, assign, body, hy, round_any hd hR⟩
theorem yield_round {F : Fence} {m : Nat} {P : Program} {l : Nat} {args : Array Value} {W : World} {R : Ending → World → Prop} (k : Nat) (h : YieldAt F m P l args W R) : YieldAt (F.inRound k) m P l args W R := h
/-- How a round ends, as the iterator sees it. -/
def Ends {α : Type} (J Jx : (Nat → Prop) → List α → World → Prop) (T RO : Nat → Prop) (xs : List α) (A : World) (e : Ending) (B : World) : Prop :=
  ((e = .returned (.bool true) ∧ J T xs B) ∨ (e = .returned (.bool false) ∧ Jx T xs B)) ∧ Kept (fun b => T b ∨ RO b) A B
/-- The contract of an iterator. RO: what the round turns not; G: what is told of what is handed over (that lies in the blocks K); S: all have come; Sp: a part. -/
def Seq {α : Type} (c : Bool) (F : Fence) (n : Nat) (P : Program) (g : Nat) (lb : Array Value) (encs : α → Array Value) (G : (Nat → Prop) → List α → α → World → Prop) (S Sp : List α → Prop) (RO : Nat → Prop) (w : World) : Prop :=
  ∀ (l : Nat) (J Jx : (Nat → Prop) → List α → World → Prop) (W : World), Kept RO w W → Abide c J → Abide c Jx →
    (∀ T pre x A, J T pre A → G (fun b => T b ∨ RO b) pre x A → YieldAt F (n - 1) P l (encs x) A (Ends J Jx T RO (pre ++ [x]) A)) →
    J Non [] W →
    CallsIn F n P g (#[.func (.yield l) #[] #[]] ++ lb) W fun e W' => (∃ v, e = .returned v) ∧ ∃ T, (∃ ys, S ys ∧ J T ys W') ∨ (∃ pre, Sp pre ∧ Jx T pre W')
theorem Seq.later {α : Type} {c : Bool} {F : Fence} {n : Nat} {P : Program} {g : Nat} {lb : Array Value} {encs : α → Array Value} {G : (Nat → Prop) → List α → α → World → Prop} {S Sp : List α → Prop} {RO : Nat → Prop} {w w' : World}
    (h : Seq c F n P g lb encs G S Sp RO w) (hk : Kept RO w w') : Seq c F n P g lb encs G S Sp RO w' := fun l J Jx W hW => h l J Jx W (hk.trans hW)
/-- How the body of a round may be left. -/
def post {α : Type} (K : Nat → Prop) (I : (Nat → Prop) → List α → World → Prop) (Ix : Code → (Nat → Prop) → List α → World → Prop) (T : Nat → Prop) (xs : List α) (W : World) : Exit → Act → World → Prop
  | .normal, _, W' => Kept K W W' ∧ I T xs W'
  | .ret, _, W' => Kept K W W' ∧ Ix .ret T xs W'
  | .exit id, _, W' => Kept K W W' ∧ Ix (.exit id) T xs W'
  | .goto t, _, W' => Kept K W W' ∧ Ix (.goto t) T xs W'
  | .panic _, _, _ => False
  | .outgrown, _, _ => False
/-- THE LAW. -/
theorem range {α : Type} {c : Bool} {g : Operand} {ps : Array Tmp} {assign body : Code} {Q : Exit → Act → World → Prop} {a : Act} {w : World}
    (hro : F.round = none) (h1 : 1 ≤ n) {gf : Nat} {lb : Array Value} (hg : a.eval g = .func (.func gf) #[] lb) (hFg : F.fn gf) (eg : ∀ args w, (callFunc gf args).run P w = .ok (.enter gf args) w)
    {encs : α → Array Value} {G : (Nat → Prop) → List α → α → World → Prop} {S Sp : List α → Prop} {RO : Nat → Prop} (hseq : Seq c F (n - 1) P gf lb encs G S Sp RO w) (hRO : ∀ b, RO b → b < w.heap.size) (hps : ∀ x, (encs x).size = ps.size)
    (I : (Nat → Prop) → List α → World → Prop) (Ix : Code → (Nat → Prop) → List α → World → Prop) (hI : Abide c I) (hIx : ∀ j, Abide c (Ix j)) (h0 : I Non [] w) (Bd : (Nat → Prop) → List α × α × Act → World → Prop) (hBd : ∀ T s W l r r', Bd T s W → T l → W.heap[l]? = some (.loop r) → Bd T s (W.putObj l (.loop r')))
    (hassign : ∀ (l : Nat) (T : Nat → Prop) (pre : List α) (x : α) (W : World) (K : Act → World → Prop), I T pre W → (∃ K0, (∀ b, K0 b → T b ∨ RO b) ∧ G K0 pre x W) → (∀ a' W', Kept (fun b => T b ∨ RO b) W W' → Bd T (pre, x, a') W' → K a' W') →
      assign.wpIn (F.inRound l) (n - 1 - 1) P (Exit.then K (fun _ _ _ => False)) { tmps := (ps.zip (encs x)).foldl (fun t (p, v) => t.setIfInBounds p v) a.tmps, defers := [] } W)
    (hbody : ∀ (l : Nat) (T : Nat → Prop) (pre : List α) (x : α) (a' : Act) (W : World), Bd T (pre, x, a') W → body.wpIn (F.inRound l) (n - 1 - 1) P (post (fun b => T b ∨ RO b) I Ix T (pre ++ [x]) W) a' W)
    (hdone : ∀ (D : Nat) (T : Nat → Prop) (xs : List α) (W : World), w.heap.size ≤ D → T D → S xs → I T xs W → W.heap[D]? = some (.deferred (some [])) → Q .normal { a with defers := { target := .collected D, args := #[] } :: a.defers } W)
    (hstop : ∀ (D : Nat) (c : Code) (T : Nat → Prop) (pre : List α) (W : World), w.heap.size ≤ D → T D → Sp pre → Ix c T pre W → W.heap[D]? = some (.deferred (some [])) → c.wpIn F n P Q { a with defers := { target := .collected D, args := #[] } :: a.defers } W) :
    (Code.rangeFunc g ps assign body).wpIn F n P Q a w := by
  refine wpIn_rangeFunc ?_
  intro fn hfn
  rw [hro]
  obtain ⟨rec, hrec⟩ : ∃ rec : LoopState → Option Code → Loop, rec = fun st pe => { state := st, pending := pe, fn, tmps := a.tmps, params := ps, assign, body, defers := w.heap.size } := ⟨_, rfl⟩
  obtain ⟨U, hU⟩ : ∃ U : Nat → Prop, U = fun b => b = w.heap.size ∨ b = w.heap.size + 1 := ⟨_, rfl⟩
  have hUD : U w.heap.size := by rw [hU]; exact .inl rfl
  have hUl : U (w.heap.size + 1) := by rw [hU]; exact .inr rfl
  have hUle : ∀ b, U b → w.heap.size ≤ b := fun b hb => by rw [hU] at hb; omega
  have ht1 : Turns Non U w ((w.alloc (.deferred (some []))).alloc (.loop (rec .ready none))) := by
    refine ⟨rfl, rfl, rfl, by simp; omega, fun b hb _ => ?_, fun b hb => .inr ?_⟩
    · rw [Below.heap_alloc _ _ _ (by simp; omega), Below.heap_alloc _ _ _ hb]
    · rw [hU] at hb
      simp
      omega
  obtain ⟨W1, hW1⟩ : ∃ W1, (w.alloc (.deferred (some []))).alloc (.loop (rec .ready none)) = W1 := ⟨_, rfl⟩
  have hL1 : W1.heap[w.heap.size + 1]? = some (.loop (rec .ready none)) := by
    rw [← hW1]; have := World.alloc_heap_new (w.alloc (.deferred (some []))) (.loop (rec .ready none)); rwa [World.size_alloc] at this
  have hK1 : W1.heap[w.heap.size]? = some (.deferred (some [])) := by
    rw [← hW1]; exact (Below.heap_alloc _ _ _ (by simp)).trans (World.alloc_heap_new w _)
  have hst1 : Stays c w W1 := hW1 ▸ (Stays.alloc c w _).trans (Stays.alloc c _ _)
  rw [hW1] at ht1
  have hro1 : Kept RO w W1 := ⟨ht1.size, fun b hb _ => ht1.block b hb (fun h => h)⟩
  refine ⟨w.heap.size + 1, [{ target := .collected w.heap.size, args := #[] }], W1, { target := .fn (.func gf) lb, args := #[.func (.yield (w.heap.size + 1)) #[] #[]] }, W1, gf,
    #[.func (.yield (w.heap.size + 1)) #[] #[]] ++ lb, W1, ?_, ?_, ?_, ?_, fun _ => h1, ?_⟩
  · rw [← hW1, hrec]; exact run_enterLoop_outer _ _ _ _ _
  · simp only [resolve, hg]
    simp [go_sem]
  · intro f' hf'; simp [Target.leads] at hf'; subst hf'; exact hFg
  · simp [invoke, go_sem, eg]
  · have wide : ∀ {T T' : Nat → Prop} {A B : World}, Turns T T' A B → Turns (fun b => T b ∨ U b) (fun b => T' b ∨ U b) A B := fun ht =>
      ⟨ht.os, ht.tape, ht.output, ht.size, fun b hb h => ht.block b hb (fun e => h (.inl e)), fun b hb => hb.elim (fun e => MerG.either (ht.new b e) .inl id) (fun e => .inl (.inr e))⟩
    refine (hseq (w.heap.size + 1)
      (fun T pre W => I (fun b => T b ∨ U b) pre W ∧ (¬ T (w.heap.size + 1) ∧ W.heap[w.heap.size + 1]? = some (.loop (rec .ready none))) ∧ (¬ T w.heap.size ∧ W.heap[w.heap.size]? = some (.deferred (some []))))
      (fun T pre W => ∃ c, Ix c (fun b => T b ∨ U b) pre W ∧ (¬ T (w.heap.size + 1) ∧ W.heap[w.heap.size + 1]? = some (.loop (rec .done (some c)))) ∧ (¬ T w.heap.size ∧ W.heap[w.heap.size]? = some (.deferred (some []))))
      W1 hro1
      (fun s T T' A B hs ht hst => ⟨hI s _ _ A B hs.1 (wide ht) hst, ht.heap hs.2.1, ht.heap hs.2.2⟩)
      (fun s T T' A B hs ht hst => by
        obtain ⟨c, hc, hl, hk⟩ := hs
        exact ⟨c, hIx c s _ _ A B hc (wide ht) hst, ht.heap hl, ht.heap hk⟩)
      ?_ ⟨hI [] Non _ w W1 h0 (ht1.less (fun b hb => hb.elim (fun h => h.elim) id)) hst1, ⟨fun h => h, hL1⟩, ⟨fun h => h, hK1⟩⟩).mono ?_
    · rintro T pre x W ⟨hi, hl, hk⟩ hg0
      have hy := run_yield (P := P) (args := encs x) hl.2 (by rw [hrec]; exact hps x)
      rw [hrec] at hy
      refine ⟨fn, _, assign, body, hy, roundIn_of_wpIn hfn (hassign _ _ pre x W _ hi ⟨_, fun b hb => MerG.either hb .inl id, hg0⟩ ?_)⟩
      clear hy
      intro a' Wa hka hba
      have hla := hka.heap hl.2 (.inl (.inr hUl))
      have hkK : ∀ b, (T b ∨ RO b) → ((T b ∨ U b) ∨ RO b) := fun b h => MerG.either h .inl id
      have hnl : ¬ (T (w.heap.size + 1) ∨ RO (w.heap.size + 1)) := fun h => h.elim hl.1 (fun e => by have := hRO _ e; omega)
      refine ⟨_, run_beginRound hla (by rw [hrec]), ?_⟩
      have hl2 : (Wa.putObj (w.heap.size + 1) (.loop { rec .ready none with state := .busy })).heap[w.heap.size + 1]? = some (.loop { rec .ready none with state := .busy }) := World.putObj_heap_same (Array.getElem?_eq_some_iff.1 hla).1
      have hk2 : (Wa.putObj (w.heap.size + 1) (.loop { rec .ready none with state := .busy })).heap[w.heap.size]? = some (.deferred (some [])) := (World.putObj_heap_other (by omega)).trans (hka.heap hk.2 (.inl (.inr hUD)))
      have hkb : Kept (fun b => T b ∨ RO b) W (Wa.putObj (w.heap.size + 1) (.loop { rec .ready none with state := .busy })) := (hka.mono hkK).putObj hnl _
      refine wpIn_mono (hbody _ _ pre x a' _ (hBd _ _ _ _ _ _ hba (.inr hUl) hla)) ?_
      have fin : ∀ (jump : Option Code) (W3 : World), Kept (fun b => (T b ∨ U b) ∨ RO b) (Wa.putObj (w.heap.size + 1) (.loop { rec .ready none with state := .busy })) W3 →
          (Instr.endRound (w.heap.size + 1) jump).run P W3 = .ok (.bool jump.isNone) (W3.putObj (w.heap.size + 1) (.loop (rec (if jump.isNone then .ready else .done) jump))) ∧
          (W3.putObj (w.heap.size + 1) (.loop (rec (if jump.isNone then .ready else .done) jump))).heap[w.heap.size + 1]? = some (.loop (rec (if jump.isNone then .ready else .done) jump)) ∧
          (W3.putObj (w.heap.size + 1) (.loop (rec (if jump.isNone then .ready else .done) jump))).heap[w.heap.size]? = some (.deferred (some [])) ∧
          Kept (fun b => T b ∨ RO b) W (W3.putObj (w.heap.size + 1) (.loop (rec (if jump.isNone then .ready else .done) jump))) ∧ Stays c W3 (W3.putObj (w.heap.size + 1) (.loop (rec (if jump.isNone then .ready else .done) jump))) := fun jump W3 hk3 => by
        have hl3 := hk3.heap hl2 (.inl (.inr hUl))
        have := run_endRound (P := P) jump hl3
        rw [hrec] at this ⊢
        exact ⟨this, World.putObj_heap_same (Array.getElem?_eq_some_iff.1 hl3).1, (World.putObj_heap_other (by omega)).trans (hk3.heap hk2 (.inl (.inr hUD))), (hkb.trans (hk3.mono hkK)).putObj hnl _, Stays.putObj hl3 rfl _⟩
      rintro e a3 W3 hp
      cases e with
      | normal =>
        obtain ⟨hk3, hi3⟩ := hp
        obtain ⟨hr, hl4, hk4, hkk, hst⟩ := fin none W3 hk3
        exact ⟨_, _, hr, .inl ⟨rfl, hI _ _ _ _ _ hi3 (Turns.putObj (.inr hUl) _) hst, ⟨hl.1, hl4⟩, ⟨hk.1, hk4⟩⟩, hkk⟩
      | ret =>
        obtain ⟨hk3, hi3⟩ := hp
        obtain ⟨hr, hl4, hk4, hkk, hst⟩ := fin (some .ret) W3 hk3
        exact ⟨_, _, hr, .inr ⟨rfl, .ret, hIx _ _ _ _ _ _ hi3 (Turns.putObj (.inr hUl) _) hst, ⟨hl.1, hl4⟩, ⟨hk.1, hk4⟩⟩, hkk⟩
      | exit id =>
        obtain ⟨hk3, hi3⟩ := hp
        obtain ⟨hr, hl4, hk4, hkk, hst⟩ := fin (some (.exit id)) W3 hk3
        exact ⟨_, _, hr, .inr ⟨rfl, .exit id, hIx _ _ _ _ _ _ hi3 (Turns.putObj (.inr hUl) _) hst, ⟨hl.1, hl4⟩, ⟨hk.1, hk4⟩⟩, hkk⟩
      | goto t =>
        obtain ⟨hk3, hi3⟩ := hp
        obtain ⟨hr, hl4, hk4, hkk, hst⟩ := fin (some (.goto t)) W3 hk3
        exact ⟨_, _, hr, .inr ⟨rfl, .goto t, hIx _ _ _ _ _ _ hi3 (Turns.putObj (.inr hUl) _) hst, ⟨hl.1, hl4⟩, ⟨hk.1, hk4⟩⟩, hkk⟩
      | panic ch => exact hp.elim
      | outgrown => exact hp.elim
    · rintro e W2 ⟨⟨v, rfl⟩, T, (⟨xs, hS, hi, hl, hk⟩ | ⟨pre, hSp, c, hi, hl, hk⟩)⟩
      · exact ⟨none, _, by have := run_endLoop (P := P) hl.2 (by rw [hrec]; simp); rw [hrec] at this; exact this, hdone _ _ xs _ (Nat.le_refl _) (.inr hUD) hS (hI _ _ _ _ _ hi (Turns.putObj (.inr hUl) _) (Stays.putObj hl.2 rfl _)) ((World.putObj_heap_other (by omega)).trans hk.2)⟩
      · exact ⟨some c, _, by have := run_endLoop (P := P) hl.2 (by rw [hrec]; simp); rw [hrec] at this; exact this, hstop _ c _ pre _ (Nat.le_refl _) (.inr hUD) hSp (hIx _ _ _ _ _ _ hi (Turns.putObj (.inr hUl) _) (Stays.putObj hl.2 rfl _)) ((World.putObj_heap_other (by omega)).trans hk.2)⟩
end Go.Proofs.YtopnodkdpehdoaaGreatDoor.MerG
/- A range over a method's value: MerG's law where the receiver stands ahead of what is handed in. Over any program and fence; no conditions but those that each lemma names. -/
namespace Go.Proofs.YtopnodkdpehdoaaGreatDoor.MerM2
open Go.RowKit MerG
variable {P : Program} {F : Fence} {n : Nat}
/-- The contract of an iterator. RO: what the round turns not; G: what is told of what is handed over (that lies in the blocks K); S: all have come; Sp: a part. -/
def SeqM {α : Type} (c : Bool) (F : Fence) (n : Nat) (P : Program) (g : Nat) (first lb : Array Value) (encs : α → Array Value) (G : (Nat → Prop) → List α → α → World → Prop) (S Sp : List α → Prop) (RO : Nat → Prop) (w : World) : Prop :=
  ∀ (l : Nat) (J Jx : (Nat → Prop) → List α → World → Prop) (W : World), Kept RO w W → Abide c J → Abide c Jx →
    (∀ T pre x A, J T pre A → G (fun b => T b ∨ RO b) pre x A → YieldAt F (n - 1) P l (encs x) A (MerG.Ends J Jx T RO (pre ++ [x]) A)) →
    J Non [] W →
    CallsIn F n P g (first ++ #[.func (.yield l) #[] #[]] ++ lb) W fun e W' => (∃ v, e = .returned v) ∧ ∃ T, (∃ ys, S ys ∧ J T ys W') ∨ (∃ pre, Sp pre ∧ Jx T pre W')
/-- THE LAW, where the iterator is a method's value: its receiver stands ahead. -/
theorem rangeM {α : Type} {c : Bool} {g : Operand} {ps : Array Tmp} {assign body : Code} {Q : Exit → Act → World → Prop} {a : Act} {w : World}
    (hro : F.round = none) (h1 : 1 ≤ n) {gf : Nat} {first lb : Array Value} (hg : a.eval g = .func (.func gf) first lb) (hFg : F.fn gf) (eg : ∀ args w, (callFunc gf args).run P w = .ok (.enter gf args) w)
    {encs : α → Array Value} {G : (Nat → Prop) → List α → α → World → Prop} {S Sp : List α → Prop} {RO : Nat → Prop} (hseq : SeqM c F (n - 1) P gf first lb encs G S Sp RO w) (hRO : ∀ b, RO b → b < w.heap.size) (hps : ∀ x, (encs x).size = ps.size)
    (I : (Nat → Prop) → List α → World → Prop) (Ix : Code → (Nat → Prop) → List α → World → Prop) (hI : Abide c I) (hIx : ∀ j, Abide c (Ix j)) (h0 : I Non [] w) (Bd : (Nat → Prop) → List α × α × Act → World → Prop) (hBd : ∀ T s W l r r', Bd T s W → T l → W.heap[l]? = some (.loop r) → Bd T s (W.putObj l (.loop r')))
    (hassign : ∀ (l : Nat) (T : Nat → Prop) (pre : List α) (x : α) (W : World) (K : Act → World → Prop), I T pre W → (∃ K0, (∀ b, K0 b → T b ∨ RO b) ∧ G K0 pre x W) → (∀ a' W', Kept (fun b => T b ∨ RO b) W W' → Bd T (pre, x, a') W' → K a' W') →
      assign.wpIn (F.inRound l) (n - 1 - 1) P (Exit.then K (fun _ _ _ => False)) { tmps := (ps.zip (encs x)).foldl (fun t (p, v) => t.setIfInBounds p v) a.tmps, defers := [] } W)
    (hbody : ∀ (l : Nat) (T : Nat → Prop) (pre : List α) (x : α) (a' : Act) (W : World), Bd T (pre, x, a') W → body.wpIn (F.inRound l) (n - 1 - 1) P (MerG.post (fun b => T b ∨ RO b) I Ix T (pre ++ [x]) W) a' W)
    (hdone : ∀ (D : Nat) (T : Nat → Prop) (xs : List α) (W : World), w.heap.size ≤ D → T D → S xs → I T xs W → W.heap[D]? = some (.deferred (some [])) → Q .normal { a with defers := { target := .collected D, args := #[] } :: a.defers } W)
    (hstop : ∀ (D : Nat) (c : Code) (T : Nat → Prop) (pre : List α) (W : World), w.heap.size ≤ D → T D → Sp pre → Ix c T pre W → W.heap[D]? = some (.deferred (some [])) → c.wpIn F n P Q { a with defers := { target := .collected D, args := #[] } :: a.defers } W) :
    (Code.rangeFunc g ps assign body).wpIn F n P Q a w := by
  refine wpIn_rangeFunc ?_
  intro fn hfn
  rw [hro]
  obtain ⟨rec, hrec⟩ : ∃ rec : LoopState → Option Code → Loop, rec = fun st pe => { state := st, pending := pe, fn, tmps := a.tmps, params := ps, assign, body, defers := w.heap.size } := ⟨_, rfl⟩
  obtain ⟨U, hU⟩ : ∃ U : Nat → Prop, U = fun b => b = w.heap.size ∨ b = w.heap.size + 1 := ⟨_, rfl⟩
  have hUD : U w.heap.size := by rw [hU]; exact .inl rfl
  have hUl : U (w.heap.size + 1) := by rw [hU]; exact .inr rfl
  have hUle : ∀ b, U b → w.heap.size ≤ b := fun b hb => by rw [hU] at hb; omega
  have ht1 : Turns Non U w ((w.alloc (.deferred (some []))).alloc (.loop (rec .ready none))) := by
    refine ⟨rfl, rfl, rfl, by simp; omega, fun b hb _ => ?_, fun b hb => .inr ?_⟩
    · rw [Below.heap_alloc _ _ _ (by simp; omega), Below.heap_alloc _ _ _ hb]
    · rw [hU] at hb
      simp
      omega
  obtain ⟨W1, hW1⟩ : ∃ W1, (w.alloc (.deferred (some []))).alloc (.loop (rec .ready none)) = W1 := ⟨_, rfl⟩
  have hL1 : W1.heap[w.heap.size + 1]? = some (.loop (rec .ready none)) := by
    rw [← hW1]; have := World.alloc_heap_new (w.alloc (.deferred (some []))) (.loop (rec .ready none)); rwa [World.size_alloc] at this
  have hK1 : W1.heap[w.heap.size]? = some (.deferred (some [])) := by
    rw [← hW1]; exact (Below.heap_alloc _ _ _ (by simp)).trans (World.alloc_heap_new w _)
  have hst1 : Stays c w W1 := hW1 ▸ (Stays.alloc c w _).trans (Stays.alloc c _ _)
  rw [hW1] at ht1
  have hro1 : Kept RO w W1 := ⟨ht1.size, fun b hb _ => ht1.block b hb (fun h => h)⟩
  refine ⟨w.heap.size + 1, [{ target := .collected w.heap.size, args := #[] }], W1, { target := .fn (.func gf) lb, args := first ++ #[.func (.yield (w.heap.size + 1)) #[] #[]] }, W1, gf,
    first ++ #[.func (.yield (w.heap.size + 1)) #[] #[]] ++ lb, W1, ?_, ?_, ?_, ?_, fun _ => h1, ?_⟩
  · rw [← hW1, hrec]; exact run_enterLoop_outer _ _ _ _ _
  · simp only [resolve, hg]
    simp [go_sem]
  · intro f' hf'; simp [Target.leads] at hf'; subst hf'; exact hFg
  · simp [invoke, go_sem, eg]
  · have wide : ∀ {T T' : Nat → Prop} {A B : World}, Turns T T' A B → Turns (fun b => T b ∨ U b) (fun b => T' b ∨ U b) A B := fun ht =>
      ⟨ht.os, ht.tape, ht.output, ht.size, fun b hb h => ht.block b hb (fun e => h (.inl e)), fun b hb => hb.elim (fun e => MerG.either (ht.new b e) .inl id) (fun e => .inl (.inr e))⟩
    refine (hseq (w.heap.size + 1)
      (fun T pre W => I (fun b => T b ∨ U b) pre W ∧ (¬ T (w.heap.size + 1) ∧ W.heap[w.heap.size + 1]? = some (.loop (rec .ready none))) ∧ (¬ T w.heap.size ∧ W.heap[w.heap.size]? = some (.deferred (some []))))
      (fun T pre W => ∃ c, Ix c (fun b => T b ∨ U b) pre W ∧ (¬ T (w.heap.size + 1) ∧ W.heap[w.heap.size + 1]? = some (.loop (rec .done (some c)))) ∧ (¬ T w.heap.size ∧ W.heap[w.heap.size]? = some (.deferred (some []))))
      W1 hro1
      (fun s T T' A B hs ht hst => ⟨hI s _ _ A B hs.1 (wide ht) hst, ht.heap hs.2.1, ht.heap hs.2.2⟩)
      (fun s T T' A B hs ht hst => by
        obtain ⟨c, hc, hl, hk⟩ := hs
        exact ⟨c, hIx c s _ _ A B hc (wide ht) hst, ht.heap hl, ht.heap hk⟩)
      ?_ ⟨hI [] Non _ w W1 h0 (ht1.less (fun b hb => hb.elim (fun h => h.elim) id)) hst1, ⟨fun h => h, hL1⟩, ⟨fun h => h, hK1⟩⟩).mono ?_
    · rintro T pre x W ⟨hi, hl, hk⟩ hg0
      have hy := run_yield (P := P) (args := encs x) hl.2 (by rw [hrec]; exact hps x)
      rw [hrec] at hy
      refine ⟨fn, _, assign, body, hy, roundIn_of_wpIn hfn (hassign _ _ pre x W _ hi ⟨_, fun b hb => MerG.either hb .inl id, hg0⟩ ?_)⟩
      clear hy
      intro a' Wa hka hba
      have hla := hka.heap hl.2 (.inl (.inr hUl))
      have hkK : ∀ b, (T b ∨ RO b) → ((T b ∨ U b) ∨ RO b) := fun b h => MerG.either h .inl id
      have hnl : ¬ (T (w.heap.size + 1) ∨ RO (w.heap.size + 1)) := fun h => h.elim hl.1 (fun e => by have := hRO _ e; omega)
      refine ⟨_, run_beginRound hla (by rw [hrec]), ?_⟩
      have hl2 : (Wa.putObj (w.heap.size + 1) (.loop { rec .ready none with state := .busy })).heap[w.heap.size + 1]? = some (.loop { rec .ready none with state := .busy }) := World.putObj_heap_same (Array.getElem?_eq_some_iff.1 hla).1
      have hk2 : (Wa.putObj (w.heap.size + 1) (.loop { rec .ready none with state := .busy })).heap[w.heap.size]? = some (.deferred (some [])) := (World.putObj_heap_other (by omega)).trans (hka.heap hk.2 (.inl (.inr hUD)))
      have hkb : Kept (fun b => T b ∨ RO b) W (Wa.putObj (w.heap.size + 1) (.loop { rec .ready none with state := .busy })) := (hka.mono hkK).putObj hnl _
      refine wpIn_mono (hbody _ _ pre x a' _ (hBd _ _ _ _ _ _ hba (.inr hUl) hla)) ?_
      have fin : ∀ (jump : Option Code) (W3 : World), Kept (fun b => (T b ∨ U b) ∨ RO b) (Wa.putObj (w.heap.size + 1) (.loop { rec .ready none with state := .busy })) W3 →
          (Instr.endRound (w.heap.size + 1) jump).run P W3 = .ok (.bool jump.isNone) (W3.putObj (w.heap.size + 1) (.loop (rec (if jump.isNone then .ready else .done) jump))) ∧
          (W3.putObj (w.heap.size + 1) (.loop (rec (if jump.isNone then .ready else .done) jump))).heap[w.heap.size + 1]? = some (.loop (rec (if jump.isNone then .ready else .done) jump)) ∧
          (W3.putObj (w.heap.size + 1) (.loop (rec (if jump.isNone then .ready else .done) jump))).heap[w.heap.size]? = some (.deferred (some [])) ∧
          Kept (fun b => T b ∨ RO b) W (W3.putObj (w.heap.size + 1) (.loop (rec (if jump.isNone then .ready else .done) jump))) ∧ Stays c W3 (W3.putObj (w.heap.size + 1) (.loop (rec (if jump.isNone then .ready else .done) jump))) := fun jump W3 hk3 => by
        have hl3 := hk3.heap hl2 (.inl (.inr hUl))
        have := run_endRound (P := P) jump hl3
        rw [hrec] at this ⊢
        exact ⟨this, World.putObj_heap_same (Array.getElem?_eq_some_iff.1 hl3).1, (World.putObj_heap_other (by omega)).trans (hk3.heap hk2 (.inl (.inr hUD))), (hkb.trans (hk3.mono hkK)).putObj hnl _, Stays.putObj hl3 rfl _⟩
      rintro e a3 W3 hp
      cases e with
      | normal =>
        obtain ⟨hk3, hi3⟩ := hp
        obtain ⟨hr, hl4, hk4, hkk, hst⟩ := fin none W3 hk3
        exact ⟨_, _, hr, .inl ⟨rfl, hI _ _ _ _ _ hi3 (Turns.putObj (.inr hUl) _) hst, ⟨hl.1, hl4⟩, ⟨hk.1, hk4⟩⟩, hkk⟩
      | ret =>
        obtain ⟨hk3, hi3⟩ := hp
        obtain ⟨hr, hl4, hk4, hkk, hst⟩ := fin (some .ret) W3 hk3
        exact ⟨_, _, hr, .inr ⟨rfl, .ret, hIx _ _ _ _ _ _ hi3 (Turns.putObj (.inr hUl) _) hst, ⟨hl.1, hl4⟩, ⟨hk.1, hk4⟩⟩, hkk⟩
      | exit id =>
        obtain ⟨hk3, hi3⟩ := hp
        obtain ⟨hr, hl4, hk4, hkk, hst⟩ := fin (some (.exit id)) W3 hk3
        exact ⟨_, _, hr, .inr ⟨rfl, .exit id, hIx _ _ _ _ _ _ hi3 (Turns.putObj (.inr hUl) _) hst, ⟨hl.1, hl4⟩, ⟨hk.1, hk4⟩⟩, hkk⟩
      | goto t =>
        obtain ⟨hk3, hi3⟩ := hp
        obtain ⟨hr, hl4, hk4, hkk, hst⟩ := fin (some (.goto t)) W3 hk3
        exact ⟨_, _, hr, .inr ⟨rfl, .goto t, hIx _ _ _ _ _ _ hi3 (Turns.putObj (.inr hUl) _) hst, ⟨hl.1, hl4⟩, ⟨hk.1, hk4⟩⟩, hkk⟩
      | panic ch => exact hp.elim
      | outgrown => exact hp.elim
    · rintro e W2 ⟨⟨v, rfl⟩, T, (⟨xs, hS, hi, hl, hk⟩ | ⟨pre, hSp, c, hi, hl, hk⟩)⟩
      · exact ⟨none, _, by have := run_endLoop (P := P) hl.2 (by rw [hrec]; simp); rw [hrec] at this; exact this, hdone _ _ xs _ (Nat.le_refl _) (.inr hUD) hS (hI _ _ _ _ _ hi (Turns.putObj (.inr hUl) _) (Stays.putObj hl.2 rfl _)) ((World.putObj_heap_other (by omega)).trans hk.2)⟩
      · exact ⟨some c, _, by have := run_endLoop (P := P) hl.2 (by rw [hrec]; simp); rw [hrec] at this; exact this, hstop _ c _ pre _ (Nat.le_refl _) (.inr hUD) hSp (hIx _ _ _ _ _ _ hi (Turns.putObj (.inr hUl) _) (Stays.putObj hl.2 rfl _)) ((World.putObj_heap_other (by omega)).trans hk.2)⟩
end Go.Proofs.YtopnodkdpehdoaaGreatDoor.MerM2
