/- JouC JouW JouX: one behind the other. -/
import Derived.Test.YtoilcieineejiaaGreatDoorLJon
import Derived.Test.YtoilcieineejiaaGreatDoorLDkm
import Derived.Test.YtoilcieineejiaaGreatDoorLDkr
import Derived.Test.YtoilcieineejiaaGreatDoorLSup
import Derived.Test.YtoilcieineejiaaGreatDoorLSpa
import Derived.Deep.RegionHeld3
/- A journal in memory: its two blocks, its space, its disk; steps that are told one by one, over whatever state they turn. No conditions but those that each lemma names. -/
namespace Go.Proofs.YtoilcieineejiaaGreatDoor.JouC
set_option linter.unusedVariables false
open Go.RowKit
open DkN DkM JouN JouP JouQ JouR JouS
open SupP (Gl)
theorem lt_of_some {w : World} {g : Nat} {o : Obj} (h : w.heap[g]? = some o) : g < w.heap.size := (Array.getElem?_eq_some_iff.1 h).1
theorem below_new (w : World) (o : Obj) : Below w.heap.size w (w.alloc o) := (Below.refl _ _).alloc (Nat.le_refl _) _
/-- A block of another kind is none of a disk's. -/
theorem not_foot {W : World} {b : Nat} {bv cv : Value} {D : Dk} (h : Has false W b bv cv D) {x : Nat} {cs : Array Value} {t : TypeId} {f : Nat × Nat} (hx : W.heap[x]? = some (.cells cs t f))
    (h1 : t ≠ 77) (h2 : t ≠ 107) (h3 : t ≠ 9 ∨ cs.size < 8) : ¬ Foot b bv cv x := by
  rintro (rfl | e | e)
  · have he := hx.symm.trans h.head
    simp only [headObj, Option.some.injEq, Obj.cells.injEq] at he
    exact h1 he.2.1
  · rcases h.rb.2 with ⟨rfl, _⟩ | ⟨g, cap, cur, rfl, _, hg, hn, _, hs, _⟩
    · cases e
    · have e' : g = x := by simpa [Value.ownBlock] using e
      subst e'
      have he := hx.symm.trans hg
      simp only [Option.some.injEq, Obj.cells.injEq] at he
      have hlo := h.ok.lo
      rcases h3 with h3 | h3
      · exact h3 he.2.1
      · rw [he.1] at h3
        omega
  · rcases h.rc.2 with ⟨rfl, _⟩ | ⟨g, cap, cur, rfl, _, hg, _⟩
    · cases e
    · have e' : g = x := by simpa [Value.ownBlock] using e
      subst e'
      have he := hx.symm.trans hg
      simp only [Option.some.injEq, Obj.cells.injEq] at he
      exact h2 he.2.1
/-- What a disk's call leaves of a block of another kind. -/
theorem did_other {w w' : World} {b : Nat} {bv cv : Value} {D D' : Dk} (h : Has false w b bv cv D) (hd : Did false w b bv cv D' w') {x : Nat} {cs : Array Value} {t : TypeId} {f : Nat × Nat} (hx : w.heap[x]? = some (.cells cs t f))
    (h1 : t ≠ 77) (h2 : t ≠ 107) (h3 : t ≠ 9 ∨ cs.size < 8) : w'.heap[x]? = some (.cells cs t f) := by
  obtain ⟨c, _, _, k1⟩ := hd
  exact (k1.block x (lt_of_some hx) (not_foot h hx h1 h2 h3)).trans hx
/-- The program's variables, below a number. -/
structure Gd (base : Nat) (W : World) : Prop where
  g : Gl W
  l : 0 < base
  m : 1 < base
  r : 3 < base
theorem Gd.kept {base : Nat} {W W' : World} (h : Gd base W) (hs : W.heap.size ≤ W'.heap.size) (hk : ∀ k, k < base → W'.heap[k]? = W.heap[k]?) : Gd base W' :=
  ⟨⟨fun i hi => ⟨(World.cell?_of_block (hk _ h.l)).trans (h.g.bn i hi).1, (World.cell?_of_block (hk _ h.m)).trans (h.g.bn i hi).2⟩, fun i hi => (World.cell?_of_block (hk _ h.r)).trans (h.g.rd i hi)⟩, h.l, h.m, h.r⟩
theorem Gd.below {base B : Nat} {W W' : World} (h : Gd base W) (hb : Below B W W') (hB : base ≤ B) : Gd base W' := h.kept hb.size fun k hk => hb.block k (Nat.lt_of_lt_of_le hk hB)
theorem Gd.up {base base' : Nat} {W : World} (h : Gd base W) (hb : base ≤ base') : Gd base' W := ⟨h.g, Nat.lt_of_lt_of_le h.l hb, Nat.lt_of_lt_of_le h.m hb, Nat.lt_of_lt_of_le h.r hb⟩
theorem gd_of {W : World} (h : Gl W) : Gd W.heap.size W := ⟨h, h.bn.lt.1, h.bn.lt.2, World.block_lt_of_cell? W _ (h.rd 0 (by omega))⟩
/-! Stps, over any state. -/
section
variable {σ : Type}
/-- One behind the other, up to the first that is refused. -/
def runS (x : σ) : List (σ → Nat × σ) → Nat × σ
  | [] => (0, x)
  | f :: l => if (f x).1 = 0 then runS (f x).2 l else f x
/-- A value that is called as a step. -/
def Stp (R : World → σ → Prop) (f : σ → Nat × σ) (v : Value) : Prop :=
  ∃ K first cap, v = .func (.func K) first cap ∧ (∀ (args : Array Value) (W : World), (callFunc K args).run Tryz.prog W = .ok (.enter K args) W) ∧
    ∀ (W : World) (x : σ), R W x → Calls Tryz.prog K (first ++ cap) W fun e W' => e = .returned (.int .i64 ((f x).1 : Nat)) ∧ R W' (f x).2
/-- The row that a step is taken from. -/
def Lies (R : World → σ → Prop) (a : Option Addr) (vs : List Value) : Prop :=
  ∀ (W : World) (x : σ), R W x → ∀ i v, vs[i]? = some v → ∃ g o, a = some ⟨g, o, none⟩ ∧ W.cell? ⟨g, o + i, none⟩ = some v
/-- Values and what they do. -/
inductive Stps (R : World → σ → Prop) : List Value → List (σ → Nat × σ) → Prop where
  | nil : Stps R [] []
  | cons {v : Value} {f : σ → Nat × σ} {vs : List Value} {fs : List (σ → Nat × σ)} (h : Stp R f v) (t : Stps R vs fs) : Stps R (v :: vs) (f :: fs)
theorem Stps.len {R : World → σ → Prop} {vs : List Value} {fs : List (σ → Nat × σ)} (h : Stps R vs fs) : vs.length = fs.length := by
  induction h with
  | nil => rfl
  | cons _ _ ih => simp [ih]
theorem Stps.at_ {R : World → σ → Prop} {vs : List Value} {fs : List (σ → Nat × σ)} (h : Stps R vs fs) (i : Nat) (hi : i < fs.length) : ∃ v, vs[i]? = some v ∧ Stp R fs[i] v := by
  induction h generalizing i with
  | nil => simp at hi
  | cons h _ ih =>
    cases i with
    | zero => exact ⟨_, rfl, h⟩
    | succ i => simpa using ih i (by simpa using hi)
theorem Stps.app {R : World → σ → Prop} {vs us : List Value} {fs gs : List (σ → Nat × σ)} (h : Stps R vs fs) (k : Stps R us gs) : Stps R (vs ++ us) (fs ++ gs) := by
  induction h with
  | nil => exact k
  | cons h _ ih => exact .cons h ih
theorem runS_at (x : σ) (l : List (σ → Nat × σ)) (k : Nat) (hk : k < l.length) : runS x (l.drop k) = if (l[k] x).1 = 0 then runS (l[k] x).2 (l.drop (k + 1)) else l[k] x := by
  rw [List.drop_eq_getElem_cons hk]
  rfl
end
/-- A disk's acts as steps of a state that a disk is part of. -/
structure Lens (σ : Type) where
  get : σ → Dk
  set : σ → Dk → σ
  gs : ∀ x D, get (set x D) = D
  ss : ∀ x D D', set (set x D) D' = set x D'
  sg : ∀ x, set x (get x) = x
def Lens.id_ : Lens Dk := ⟨fun x => x, fun _ D => D, fun _ _ => rfl, fun _ _ _ => rfl, fun _ => rfl⟩
def Lens.fst (α : Type) : Lens (Dk × α) := ⟨fun x => x.1, fun x D => (D, x.2), fun _ _ => rfl, fun _ _ _ => rfl, fun _ => rfl⟩
def Lens.act {σ : Type} (L : Lens σ) (l : List Ac) (x : σ) : Nat × σ := ((run (L.get x) l).1, L.set x (run (L.get x) l).2)
theorem runS_flat {σ : Type} (L : Lens σ) (x : σ) (ls : List (List Ac)) : runS x (ls.map L.act) = L.act ls.flatten x := by
  induction ls generalizing x with
  | nil => show (0, x) = (0, L.set x (L.get x)); rw [L.sg]
  | cons a l ih =>
    show (if (run (L.get x) a).1 = 0 then runS (L.set x (run (L.get x) a).2) (l.map L.act) else L.act a x) = L.act (a ++ l.flatten) x
    rw [ih]
    unfold Lens.act
    rw [run_app]
    by_cases h : (run (L.get x) a).1 = 0
    · rw [if_pos h, if_pos h, L.gs, L.ss]
    · rw [if_neg h, if_neg h]
theorem runS_app {σ : Type} (x : σ) (l k : List (σ → Nat × σ)) : runS x (l ++ k) = if (runS x l).1 = 0 then runS (runS x l).2 k else runS x l := by
  induction l generalizing x with
  | nil => rfl
  | cons f l ih =>
    show (if (f x).1 = 0 then runS (f x).2 (l ++ k) else f x) = _
    rw [ih]
    by_cases h : (f x).1 = 0
    · rw [if_pos h, show runS x (f :: l) = runS (f x).2 l from if_pos h]
    · rw [if_neg h, show runS x (f :: l) = f x from if_neg h, if_neg h]
/-- A frame in which a disk lies. -/
structure Fr {σ : Type} (L : Lens σ) (b : Nat) (bv : Value) (R : World → σ → Prop) : Prop where
  has : ∀ W x, R W x → ∃ cv, Has false W b bv cv (L.get x)
  did : ∀ W x cv D' W', R W x → Has false W b bv cv (L.get x) → Did false W b bv cv D' W' → R W' (L.set x D')
/-- A block that stays. -/
def Stay {σ : Type} (R : World → σ → Prop) (k : Nat) (o : Obj) : Prop := ∀ W x, R W x → W.heap[k]? = some o
/-- A disk alone. -/
def RD (w0 : World) (b : Nat) (bv cv0 : Value) (W : World) (D : Dk) : Prop := Did false w0 b bv cv0 D W
theorem fr_RD {w0 : World} {b : Nat} {bv cv0 : Value} : Fr Lens.id_ b bv (RD w0 b bv cv0) :=
  ⟨fun W x h => by obtain ⟨c, h1, _, _⟩ := h; exact ⟨c, h1⟩, fun W x cv D' W' h hh hd => by
    obtain ⟨c, h1, n1, k1⟩ := h
    obtain rfl : cv = c := by
      have e := hh.c1.symm.trans h1.c1
      exact Option.some.inj e
    exact Did.then_ h1 n1 k1 hd⟩
theorem stay_RD {w0 : World} {b : Nat} {bv cv0 : Value} {D0 : Dk} (h : Has false w0 b bv cv0 D0) {x : Nat} {cs : Array Value} {t : TypeId} {f : Nat × Nat} (hx : w0.heap[x]? = some (.cells cs t f))
    (h1 : t ≠ 77) (h2 : t ≠ 107) (h3 : t ≠ 9 ∨ cs.size < 8) : Stay (RD w0 b bv cv0) x (.cells cs t f) :=
  fun W D hR => did_other h hR hx h1 h2 h3
/-- The journal's inner block. -/
def jc (S b : Nat) (s : SupN.Sb) (br : Bool) : Array Value := #[.pointer (some ⟨S, 0, none⟩), .pointer (some ⟨b, 0, none⟩), .int .i64 s.g, .int .i64 s.t, .int .i64 s.e, .int .i64 s.k, .int .i64 s.b, .int .i64 s.l, .int .i64 s.f, .bool br]
/-- A disk, and the journal's superblock. -/
structure RJ (w0 : World) (P S b : Nat) (bv cv0 : Value) (br : Bool) (W : World) (x : Dk × SupN.Sb) : Prop where
  dk : ∃ cv, Has false W b bv cv x.1 ∧ ∀ k, cv.ownBlock = some k → cv0.ownBlock = some k ∨ w0.heap.size ≤ k
  po : W.heap[P]? = some (.cells (jc S b x.2 br) 100 (0, 0))
  kept : Kept (fun k => k = P ∨ Foot b bv cv0 k) w0 W
theorem rj_new {w0 : World} {P S b : Nat} {bv cv0 : Value} {br : Bool} {D : Dk} {s : SupN.Sb} (h : Has false w0 b bv cv0 D) (hp : w0.heap[P]? = some (.cells (jc S b s br) 100 (0, 0))) : RJ w0 P S b bv cv0 br w0 (D, s) :=
  ⟨⟨cv0, h, fun _ => .inl⟩, hp, .refl _ _⟩
theorem fr_RJ {w0 : World} {P S b : Nat} {bv cv0 : Value} {br : Bool} : Fr (Lens.fst SupN.Sb) b bv (RJ w0 P S b bv cv0 br) :=
  ⟨fun W x h => by obtain ⟨c, h1, _⟩ := h.dk; exact ⟨c, h1⟩, fun W x cv D' W' h hh hd => by
    obtain ⟨c, h1, n1⟩ := h.dk
    obtain rfl : cv = c := Option.some.inj (hh.c1.symm.trans h1.c1)
    have hp := did_other h1 hd h.po (by decide) (by decide) (.inl (by decide))
    obtain ⟨c2, h2, n2, k2⟩ := hd
    have hle := h.kept.size
    refine ⟨⟨c2, h2, fun k hk => ?_⟩, hp, h.kept.trans' k2 fun k hk => ?_⟩
    · rcases n2 k hk with q | q
      · exact n1 k q
      · exact .inr (by omega)
    · rcases hk with q | q | q
      · exact .inl (.inr (.inl q))
      · exact .inl (.inr (.inr (.inl q)))
      · rcases n1 k q with z | z
        · exact .inl (.inr (.inr (.inr z)))
        · exact .inr z⟩
theorem stay_RJ {w0 : World} {P S b : Nat} {bv cv0 : Value} {br : Bool} {D0 : Dk} (h : Has false w0 b bv cv0 D0) {x : Nat} {cs : Array Value} {t : TypeId} {f : Nat × Nat} (hx : w0.heap[x]? = some (.cells cs t f)) (hP : x ≠ P)
    (h1 : t ≠ 77) (h2 : t ≠ 107) (h3 : t ≠ 9 ∨ cs.size < 8) : Stay (RJ w0 P S b bv cv0 br) x (.cells cs t f) :=
  fun W y hR => (hR.kept.block x (lt_of_some hx) (fun e => e.elim hP (not_foot h hx h1 h2 h3))).trans hx
/-- A journal. -/
structure Jm (base J P S b : Nat) (bv cv : Value) (D : Dk) (j : Jo) (W : World) : Prop where
  jo : W.heap[J]? = some (.cells #[.pointer (some ⟨P, 0, none⟩)] 64 (0, 0))
  po : W.heap[P]? = some (.cells (jc S b j.last j.broken) 100 (0, 0))
  sp : SpaC.Sp W S j.last.b j.last.l j.last.f j.used
  dk : Has false W b bv cv D
  gd : Gd base W
  low : base ≤ J ∧ base ≤ P ∧ base ≤ S ∧ ∀ k, Foot b bv cv k → base ≤ k
  may : SupN.may j.last
  few : (j.used : Int) ≤ j.last.b - 4
/-- What a journal's call may turn. -/
def JF (P S b : Nat) (bv cv : Value) (k : Nat) : Prop := k = P ∨ k = S ∨ Foot b bv cv k
/-- What a journal's call leaves. -/
def Went (base J P S b : Nat) (bv cv : Value) (D' : Dk) (j' : Jo) (w w' : World) : Prop :=
  ∃ cv', Jm base J P S b bv cv' D' j' w' ∧ (∀ k, cv'.ownBlock = some k → cv.ownBlock = some k ∨ w.heap.size ≤ k) ∧ Kept (JF P S b bv cv) w w'
theorem Jm.base_le {base J P S b : Nat} {bv cv : Value} {D : Dk} {j : Jo} {W : World} (h : Jm base J P S b bv cv D j W) : base ≤ W.heap.size := by have := h.low.1; have := lt_of_some h.jo; omega
theorem Jm.step {base J P S b : Nat} {bv cv : Value} {D : Dk} {j : Jo} {W W' : World} (h : Jm base J P S b bv cv D j W) (hb : Below W.heap.size W W') : Jm base J P S b bv cv D j W' :=
  ⟨(hb.block _ (lt_of_some h.jo)).trans h.jo, (hb.block _ (lt_of_some h.po)).trans h.po, h.sp.step hb, h.dk.step hb, h.gd.below hb h.base_le, h.low, h.may, h.few⟩
theorem Jm.went {base J P S b : Nat} {bv cv : Value} {D : Dk} {j : Jo} {w w' : World} (h : Jm base J P S b bv cv D j w) (hb : Below w.heap.size w w') : Went base J P S b bv cv D j w w' := ⟨cv, h.step hb, fun _ => .inl, .of_below hb⟩
theorem Jm.good {base J P S b : Nat} {bv cv : Value} {D : Dk} {j : Jo} {W : World} (h : Jm base J P S b bv cv D j W) : SpaN.good j.last.b j.last.l j.last.f j.used := ⟨h.may.1, by omega, h.few⟩
end Go.Proofs.YtoilcieineejiaaGreatDoor.JouC
/- The program's journal: steps told one by one; a step that writes; where the data's blocks stand: the walks of their texts. No conditions but those that each lemma names. -/
namespace Go.Proofs.YtoilcieineejiaaGreatDoor.JouW
set_option linter.unusedVariables false
open Go.RowKit
open DkN DkM JouN JouP JouQ JouR JouS JouC
open SupP (Gl)
theorem makes (fn : Fn) (first cap : Array Value) (w : World) : (Instr.makeFunc fn first cap).run Tryz.prog w = .ok (.func fn first cap) w := rfl
set_option maxRecDepth 100000 in
theorem inTurn {σ : Type} (R : World → σ → Prop) (a : Option Addr) (n c : Nat) (vs : List Value) (fs : List (σ → Nat × σ)) (w : World) (x : σ) (hx : R w x) (hn : fs.length = n) (hmax : n ≤ 100000) (hl : Lies R a vs) (hs : Stps R vs fs) :
    Calls Tryz.prog 38 #[.slice a n c] w fun e w' => e = .returned (.int .i64 ((runS x fs).1 : Nat)) ∧ R w' (runS x fs).2 := by
  have HS := Lib.hid hs
  have HL := Lib.hid hl
  have HX := Lib.hid hx
  have HN := Lib.hid hn
  clear hs hl hx hn
  go_enter Tryz.func38, Tryz.ntmps38
  go_wp2_with fail
  go_loopw [8] (fun i wr => ∃ (k : Nat) (y : σ), k ≤ n ∧ i = .int .i64 k ∧ R wr y ∧ runS x fs = runS y (fs.drop k)) (fun i _ => n - (intOf i).toNat)
  case atStart => exact ⟨0, x, Nat.zero_le _, rfl, HX.out, rfl⟩
  case round =>
    obtain ⟨k, y, hk, rfl, hR, he⟩ := hrel
    have HE := Lib.hid he
    by_cases hlt : k < n
    · have hlt' : k < fs.length := by rw [HN.out]; exact hlt
      obtain ⟨v, hv, K, first, cap, rfl, hK, hc⟩ := HS.out.at_ k hlt'
      obtain ⟨g, o, rfl, hcell⟩ := HL.out wr y hR k _ hv
      have HC := Lib.hid (hc wr y hR)
      have HA := Lib.hid (runS_at y fs k hlt')
      clear hR he hv hc
      generalize fs[k] y = p at *
      obtain ⟨q, z⟩ := p
      dsimp only at HC HA
      by_cases h0 : q = 0
      · subst h0
        rw [if_pos rfl] at HA
        go_wp2_with fail
        refine HC.out.mono ?_
        rintro e w2 ⟨rfl, hR2⟩
        have HR2 := Lib.hid hR2
        clear hR2
        go_wp2_with fail
        go_roundw
        case rel => exact ⟨k + 1, z, by omega, by go_num, HR2.out, HE.out.trans HA.out⟩
        case measure => simp [intOf]; omega
      · rw [if_neg h0] at HA
        have hq : ((q : Int) != 0) = true := by rw [bne_iff_ne]; omega
        go_wp2_with fail
        refine HC.out.mono ?_
        rintro e w2 ⟨rfl, hR2⟩
        have HR2 := Lib.hid hR2
        clear hR2
        go_wp2_with fail
        go_ret
        rw [HE.out, HA.out]
        exact ⟨rfl, HR2.out⟩
    · obtain rfl : k = n := by omega
      have hd : fs.drop k = [] := List.drop_eq_nil_of_le (by rw [HN.out]; exact Nat.le_refl _)
      rw [hd] at HE
      have HR := Lib.hid hR
      clear hR he hd
      go_wp2_with fail
      go_ret
      rw [HE.out]
      exact ⟨rfl, HR.out⟩
/-- A step that writes: its three boxes. -/
structure WrAt (W : World) (b : Nat) (i : Int) (s : ByteArray) (x y z : Nat) : Prop where
  d : W.heap[x]? = some (.cells #[.pointer (some ⟨b, 0, none⟩)] 26 (0, 0))
  i : W.heap[y]? = some (.cells #[.int .i64 i] 3 (0, 0))
  s : W.heap[z]? = some (.cells #[.string s] 9 (0, 0))
def wrV (x y z : Nat) : Value := .func (.func 82) #[] #[.pointer (some ⟨x, 0, none⟩), .pointer (some ⟨y, 0, none⟩), .pointer (some ⟨z, 0, none⟩)]
def flV (b : Nat) : Value := .func (.func 41) #[.pointer (some ⟨b, 0, none⟩)] #[]
theorem WrAt.step {W W' : World} {b : Nat} {i : Int} {s : ByteArray} {x y z : Nat} (h : WrAt W b i s x y z) (hb : Below W.heap.size W W') : WrAt W' b i s x y z :=
  ⟨(hb.block _ (lt_of_some h.d)).trans h.d, (hb.block _ (lt_of_some h.i)).trans h.i, (hb.block _ (lt_of_some h.s)).trans h.s⟩
/-- What writes leaves. -/
def GaveWr (b : Nat) (i : Int) (s : ByteArray) (w : World) (e : Ending) (w' : World) : Prop :=
  ∃ x y z, e = .returned (.func (.func 82) #[] #[.pointer (some ⟨x, 0, none⟩), .pointer (some ⟨y, 0, none⟩), .pointer (some ⟨z, 0, none⟩)]) ∧ WrAt w' b i s x y z ∧ Below w.heap.size w w'
theorem three (w : World) (o0 o1 o2 : Obj) : (((w.alloc o0).alloc o1).alloc o2).heap[w.heap.size]? = some o0 ∧ (((w.alloc o0).alloc o1).alloc o2).heap[w.heap.size + 1]? = some o1 ∧
    (((w.alloc o0).alloc o1).alloc o2).heap[w.heap.size + 1 + 1]? = some o2 ∧ Below w.heap.size w (((w.alloc o0).alloc o1).alloc o2) := by
  have h0 := heap_alloc_new w o0
  have h1 := heap_alloc_new (w.alloc o0) o1
  have h2 := heap_alloc_new ((w.alloc o0).alloc o1) o2
  simp only [World.size_alloc] at h1 h2
  refine ⟨?_, ?_, h2, ((((Below.refl _ w).alloc (Nat.le_refl _) _).alloc (by simp only [World.size_alloc]; omega) _).alloc (by simp only [World.size_alloc]; omega) _)⟩
  · rw [Below.heap_alloc _ _ _ (by simp only [World.size_alloc]; omega), Below.heap_alloc _ _ _ (by simp only [World.size_alloc]; omega), h0]
  · rw [Below.heap_alloc _ _ _ (by simp only [World.size_alloc]; omega), h1]
theorem writes (b : Nat) (i : Int) (s : ByteArray) (w : World) :
    Calls Tryz.prog 42 #[.pointer (some ⟨b, 0, none⟩), .int .i64 i, .string s] w (GaveWr b i s w) := by
  have hmf := makes
  go_enter Tryz.func42, Tryz.ntmps42
  go_wp2_with fail
  go_ret
  obtain ⟨h0, h1, h2, hb⟩ := three w (.cells #[.pointer (some ⟨b, 0, none⟩)] 26) (.cells #[.int .i64 i] 3) (.cells #[.string s] 9)
  exact ⟨_, _, _, rfl, ⟨h0, h1, h2⟩, hb⟩
theorem writes1 {w : World} {b : Nat} {bv cv : Value} {D : Dk} (h : Has false w b bv cv D) {i : Int} {s : ByteArray} {x y z : Nat} (hw : WrAt w b i s x y z) :
    Calls Tryz.prog 82 #[.pointer (some ⟨x, 0, none⟩), .pointer (some ⟨y, 0, none⟩), .pointer (some ⟨z, 0, none⟩)] w fun e w' => e = .returned (.int .i64 ((D.wr i s).1 : Nat)) ∧ Did false w b bv cv (D.wr i s).2 w' := by
  have HW := Lib.hid (DkW.Write h i s)
  have k0 : w.cell? ⟨x, 0, none⟩ = some (.pointer (some ⟨b, 0, none⟩)) := blk_cell hw.d rfl
  have k1 : w.cell? ⟨y, 0, none⟩ = some (.int .i64 i) := blk_cell hw.i rfl
  have k2 : w.cell? ⟨z, 0, none⟩ = some (.string s) := blk_cell hw.s rfl
  clear h hw
  go_enter Tryz.func82, Tryz.ntmps82
  go_wp2_with (go_at_call 83; refine HW.out.mono ?_; rintro e w2 ⟨rfl, hd2⟩; have HD := Lib.hid hd2; clear hd2)
  go_ret
  exact ⟨rfl, HD.out⟩
theorem dataAt {w : World} (a b c : Int) (hg : GeoC.Bnd w) (hr : GeoN.right a b c) :
    Calls Tryz.prog 48 #[.agg #[.int .i64 a, .int .i64 b, .int .i64 c]] w fun e w' => e = .returned (.int .i64 4) ∧ Below w.heap.size w w' := by
  obtain ⟨W1, hW1⟩ : ∃ W1, W1 = w.alloc (.cells #[.int .i64 a, .int .i64 b, .int .i64 c] 32) := ⟨_, rfl⟩
  have S1 := Lib.hid (show GeoS.St w a b c W1 by rw [hW1]; exact GeoS.st_new a b c hg)
  have HP := Lib.hid (fun W h => GeoD.Place a b c 0 W h)
  have hd : (0 : Int) < GeoN.data a b c := by rw [GeoN.data_yes hr]; unfold GeoN.right at hr; omega
  rw [GeoN.place_yes (Int.le_refl 0) hd] at HP
  obtain ⟨k0, k1, k2⟩ := S1.out.cells
  clear hg hr hd
  go_enter Tryz.func48, Tryz.ntmps48
  go_upto_region 1 with (fail)
  rw [← hW1]
  clear hW1
  go_wp2_with (go_at_call 92; refine (HP.out _ S1.out.bn).mono ?_; rintro e w2 ⟨rfl, hb2⟩; replace S1 := Lib.hid (S1.out.step hb2); clear hb2)
  go_ret
  exact ⟨rfl, S1.out.bel⟩
end Go.Proofs.YtoilcieineejiaaGreatDoor.JouW
/- The program's journal: a superblock as a step; the steps of a call, and whether it broke: the walks of their texts. No conditions but those that each lemma names. -/
namespace Go.Proofs.YtoilcieineejiaaGreatDoor.JouX
set_option linter.unusedVariables false
open Go.RowKit
open DkN DkM JouN JouP JouQ JouR JouS JouC JouW
open SupP (Gl)
open SupC (infoS)
/-- The journal's inner block, and the program's variables. -/
structure Pj (P S b : Nat) (s : SupN.Sb) (br : Bool) (W : World) : Prop where
  po : W.heap[P]? = some (.cells #[.pointer (some ⟨S, 0, none⟩), .pointer (some ⟨b, 0, none⟩), .int .i64 s.g, .int .i64 s.t, .int .i64 s.e, .int .i64 s.k, .int .i64 s.b, .int .i64 s.l, .int .i64 s.f, .bool br] 100 (0, 0))
  gl : Gl W
theorem Pj.step {P S b : Nat} {s : SupN.Sb} {br : Bool} {W W' : World} (h : Pj P S b s br W) (hb : Below W.heap.size W W') : Pj P S b s br W' := ⟨(hb.block _ (lt_of_some h.po)).trans h.po, h.gl.step hb⟩
theorem Pj.drew {P S b : Nat} {s : SupN.Sb} {br : Bool} {W : World} (h : Pj P S b s br W) : Pj P S b s br W.drew := h.step (Below.refl _ _).drew
theorem place {P S b : Nat} {s : SupN.Sb} {br : Bool} {w : World} (h : Pj P S b s br w) (hr : GeoN.right s.b s.l s.f) (i : Int) (h0 : 0 ≤ i) (h1 : i ≤ 2000) :
    Calls Tryz.prog 101 #[.pointer (some ⟨P, 0, none⟩), .int .i64 i] w fun e w' => e = .returned (.int .i64 (4 + i)) ∧ Below w.heap.size w w' := by
  have HD := Lib.hid (fun W hg => dataAt (w := W) s.b s.l s.f hg hr)
  have c6 : w.cell? ⟨P, 6, none⟩ = some (.int .i64 s.b) := blk_cell h.po rfl
  have c7 : w.cell? ⟨P, 7, none⟩ = some (.int .i64 s.l) := blk_cell h.po rfl
  have c8 : w.cell? ⟨P, 8, none⟩ = some (.int .i64 s.f) := blk_cell h.po rfl
  have HG := Lib.hid h.gl.bn
  clear h hr
  go_enter Tryz.func101, Tryz.ntmps101
  go_wp2_with (go_at_call 48; refine (HD.out _ HG.out).mono ?_; rintro e w2 ⟨rfl, hb2⟩; have B2 := Lib.hid hb2; clear hb2)
  go_ret
  exact ⟨rfl, B2.out⟩
set_option maxRecDepth 100000 in
theorem lays {P S b : Nat} {s : SupN.Sb} {br : Bool} {w : World} (h : Pj P S b s br w) (hr : GeoN.right s.b s.l s.f) (i : Int) (h0 : 0 ≤ i) (h1 : i ≤ 2000) (x : ByteArray) :
    Calls Tryz.prog 64 #[.pointer (some ⟨P, 0, none⟩), .int .i64 i, .string x] w (GaveWr b (4 + i) x w) := by
  have HP := Lib.hid (fun W (hW : Pj P S b s br W) => place hW hr i h0 h1)
  have HW := Lib.hid (fun W => writes b (4 + i) x W)
  have c1 : w.cell? ⟨P, 1, none⟩ = some (.pointer (some ⟨b, 0, none⟩)) := blk_cell h.po rfl
  have HH := Lib.hid h
  clear h hr
  go_enter Tryz.func64, Tryz.ntmps64
  go_upto_region 1 with (fail)
  go_region_held3 (fun W => W.cell? ⟨P, 1, none⟩ = some (.pointer (some ⟨b, 0, none⟩)))
    (first | exact c1 | exact hS1 | exact hS2)
    (first
      | (go_at_call 101; refine (HP.out _ HH.out.drew).mono ?_; rintro e w2 ⟨rfl, hb2⟩; have H2 := HH.out.drew.step hb2; have hS1 : w2.cell? ⟨P, 1, none⟩ = some (.pointer (some ⟨b, 0, none⟩)) := blk_cell H2.po rfl; have B2 := Lib.hid hb2; clear hb2 H2)
      | (go_at_call 42; refine (HW.out _).mono ?_; rintro e w3 ⟨x3, y3, z3, rfl, hw3, hb3⟩; have hS2 : w3.cell? ⟨P, 1, none⟩ = some (.pointer (some ⟨b, 0, none⟩)) := blk_cell ((HH.out.drew.step B2.out).step hb3).po rfl; have B3 := Lib.hid hb3; have W3 := Lib.hid hw3; clear hb3 hw3))
  go_wp2_with fail
  go_ret
  exact ⟨_, _, _, rfl, W3.out, (Below.refl _ _).drew.trans (B2.out.trans (B3.out.mono B2.out.size))⟩
/-! Steps of any frame. -/
section
variable {σ : Type} {L : Lens σ} {R : World → σ → Prop} {b : Nat} {bv : Value}
set_option maxRecDepth 100000 in
theorem stp_wr (fr : Fr L b bv R) {i : Nat} {s : ByteArray} {x y z : Nat} (hd : Stay R x (.cells #[.pointer (some ⟨b, 0, none⟩)] 26 (0, 0))) (hi : Stay R y (.cells #[.int .i64 (i : Int)] 3 (0, 0))) (hs : Stay R z (.cells #[.string s] 9 (0, 0))) :
    Stp R (L.act [.wr i s]) (.func (.func 82) #[] #[.pointer (some ⟨x, 0, none⟩), .pointer (some ⟨y, 0, none⟩), .pointer (some ⟨z, 0, none⟩)]) := by
  refine ⟨_, _, _, rfl, fun _ _ => rfl, fun W q hR => ?_⟩
  obtain ⟨cv, hh⟩ := fr.has W q hR
  refine Calls.mono (writes1 hh ⟨hd W q hR, hi W q hR, hs W q hR⟩) ?_
  rintro e W' ⟨rfl, hD⟩
  have e1 : run (L.get q) [.wr i s] = (L.get q).wr i s := run_one _ _
  unfold Lens.act
  rw [e1]
  exact ⟨rfl, fr.did W q cv _ W' hR hh hD⟩
set_option maxRecDepth 100000 in
theorem stp_fl (fr : Fr L b bv R) : Stp R (L.act [.fl]) (.func (.func 41) #[.pointer (some ⟨b, 0, none⟩)] #[]) := by
  refine ⟨_, _, _, rfl, fun _ _ => rfl, fun W q hR => ?_⟩
  obtain ⟨cv, hh⟩ := fr.has W q hR
  refine Calls.mono (DkF.Flush hh) ?_
  rintro e W' ⟨rfl, hD⟩
  have e1 : run (L.get q) [.fl] = (L.get q).flush := run_one _ _
  unfold Lens.act
  rw [e1]
  exact ⟨rfl, fr.did W q cv _ W' hR hh hD⟩
end
theorem stay_at {σ : Type} {R : World → σ → Prop} {g : Nat} {vs : List Value} {t : TypeId} (h : Stay R g (.cells vs.toArray t (0, 0))) : Lies R (some ⟨g, 0, none⟩) vs := fun W x hR i v hv =>
  ⟨g, 0, rfl, by rw [Nat.zero_add]; exact blk_cell (h W x hR) (by simpa using hv)⟩
/-- Steps in a row that was just laid, of a disk alone. -/
theorem turned {w : World} {b : Nat} {bv cv : Value} {D : Dk} (h : Has false w b bv cv D) (vs : List Value) (ls : List (List Ac)) (hm : ls.length ≤ 100000)
    (hs : Stps (RD (w.alloc (.cells vs.toArray 88)) b bv cv) vs (ls.map Lens.id_.act)) (n : Nat) (hn : ls.length = n) :
    Calls Tryz.prog 38 #[.slice (some ⟨w.heap.size, 0, none⟩) n n] (w.alloc (.cells vs.toArray 88)) fun e w' => e = .returned (.int .i64 ((run D ls.flatten).1 : Nat)) ∧ Did false w b bv cv (run D ls.flatten).2 w' := by
  have hb := below_new w (.cells vs.toArray 88)
  have h1 := h.step hb
  refine (inTurn (RD (w.alloc (.cells vs.toArray 88)) b bv cv) _ n n vs (ls.map Lens.id_.act) _ D h1.same (by simp [hn]) (by omega)
    (stay_at (stay_RD h1 (heap_alloc_new w _) (by decide) (by decide) (.inl (by decide)))) hs).mono ?_
  rintro e w' ⟨rfl, hR⟩
  rw [runS_flat] at hR ⊢
  exact ⟨rfl, Did.then_ h1 (fun _ => .inl) (.of_below hb) hR⟩
/-- A step that writes a superblock: its three boxes. -/
structure SuAt (W : World) (b : Nat) (s : SupN.Sb) (x y z : Nat) : Prop where
  d : W.heap[x]? = some (.cells #[.pointer (some ⟨b, 0, none⟩)] 26 (0, 0))
  u : W.heap[y]? = some (.cells #[.int .i64 s.g, .int .i64 s.t, .int .i64 s.e, .int .i64 s.k, .int .i64 s.b, .int .i64 s.l, .int .i64 s.f] 53 (0, 0))
  t : W.heap[z]? = some (.cells #[.string ⟨(SupN.blk s).toArray⟩] 9 (0, 0))
theorem SuAt.step {W W' : World} {b : Nat} {s : SupN.Sb} {x y z : Nat} (h : SuAt W b s x y z) (hb : Below W.heap.size W W') : SuAt W' b s x y z :=
  ⟨(hb.block _ (lt_of_some h.d)).trans h.d, (hb.block _ (lt_of_some h.u)).trans h.u, (hb.block _ (lt_of_some h.t)).trans h.t⟩
def superL (s : SupN.Sb) : List Ac := [.wr (s.g % 2).toNat (bb (SupN.blk s)), .fl]
theorem pair {W W' : World} {o1 o2 : Obj} {k1 k2 : Nat} (h : W.heap[k1]? = some o1 ∧ W.heap[k2]? = some o2) (hb : Below W.heap.size W W') : W'.heap[k1]? = some o1 ∧ W'.heap[k2]? = some o2 :=
  ⟨(hb.block _ (lt_of_some h.1)).trans h.1, (hb.block _ (lt_of_some h.2)).trans h.2⟩
set_option maxRecDepth 100000 in
theorem writesSuper1 {w : World} {b : Nat} {bv cv : Value} {D : Dk} (h : Has false w b bv cv D) {s : SupN.Sb} (hm : SupN.may s) {x y z : Nat} (hs : SuAt w b s x y z) :
    Calls Tryz.prog 86 #[.pointer (some ⟨x, 0, none⟩), .pointer (some ⟨y, 0, none⟩), .pointer (some ⟨z, 0, none⟩)] w fun e w' => e = .returned (.int .i64 ((run D (superL s)).1 : Nat)) ∧ Did false w b bv cv (run D (superL s)).2 w' := by
  have hg := hm.2.1
  have ht : GeoN.turn s.g = ((s.g % 2).toNat : Int) := by unfold GeoN.turn; omega
  have HG := Lib.hid (fun W => GeoD.Super s.g W (by omega))
  rw [ht] at HG
  have HW := Lib.hid (fun W => writes b ((s.g % 2).toNat : Int) (bb (SupN.blk s)) W)
  have HT : Hid (∀ (w2 : World) (x2 y2 z2 : Nat), Below w.heap.size w.drew w2 → WrAt w2 b ((s.g % 2).toNat : Int) (bb (SupN.blk s)) x2 y2 z2 →
      Calls Tryz.prog 38 #[.slice (some ⟨w2.heap.size, 0, none⟩) 2 2] (w2.alloc (.cells #[.func (.func 82) #[] #[.pointer (some ⟨x2, 0, none⟩), .pointer (some ⟨y2, 0, none⟩), .pointer (some ⟨z2, 0, none⟩)], .func (.func 41) #[.pointer (some ⟨b, 0, none⟩)] #[]] 88)) fun e w' => e = .returned (.int .i64 ((run D (superL s)).1 : Nat)) ∧ Did false w b bv cv (run D (superL s)).2 w') := Lib.hid (by
    intro w2 x2 y2 z2 hb2 hw2
    have hb2' : Below w.heap.size w w2 := (Below.refl _ _).drew.trans hb2
    have h2 := h.step hb2'
    refine (turned h2 [.func (.func 82) #[] #[.pointer (some ⟨x2, 0, none⟩), .pointer (some ⟨y2, 0, none⟩), .pointer (some ⟨z2, 0, none⟩)], .func (.func 41) #[.pointer (some ⟨b, 0, none⟩)] #[]] [[.wr (s.g % 2).toNat (bb (SupN.blk s))], [.fl]] (by show 2 ≤ 100000; omega) ?_ 2 rfl).mono ?_
    · have h3 := h2.step (below_new w2 (.cells #[.func (.func 82) #[] #[.pointer (some ⟨x2, 0, none⟩), .pointer (some ⟨y2, 0, none⟩), .pointer (some ⟨z2, 0, none⟩)], .func (.func 41) #[.pointer (some ⟨b, 0, none⟩)] #[]] 88))
      have hw3 := hw2.step (below_new w2 (.cells #[.func (.func 82) #[] #[.pointer (some ⟨x2, 0, none⟩), .pointer (some ⟨y2, 0, none⟩), .pointer (some ⟨z2, 0, none⟩)], .func (.func 41) #[.pointer (some ⟨b, 0, none⟩)] #[]] 88))
      exact .cons (stp_wr fr_RD (stay_RD h3 hw3.d (by decide) (by decide) (.inl (by decide))) (stay_RD h3 hw3.i (by decide) (by decide) (.inl (by decide))) (stay_RD h3 hw3.s (by decide) (by decide) (.inr (show 1 < 8 by decide)))) (.cons (stp_fl fr_RD) .nil)
    · rintro e w' ⟨rfl, hD⟩
      exact ⟨rfl, Did.then_ h2 (fun _ => .inl) (.of_below hb2') hD⟩)
  have HS := Lib.hid hs
  have c0 : w.cell? ⟨x, 0, none⟩ = some (.pointer (some ⟨b, 0, none⟩)) := blk_cell hs.d rfl
  have c1 : w.cell? ⟨y, 0, none⟩ = some (.int .i64 s.g) := blk_cell hs.u rfl
  have c2 : w.cell? ⟨z, 0, none⟩ = some (.string (bb (SupN.blk s))) := blk_cell hs.t rfl
  have HO : Hid (∀ (D' : Dk) (W : World), Did false w b bv cv D' W → W.cell? ⟨x, 0, none⟩ = some (.pointer (some ⟨b, 0, none⟩)) ∧ W.cell? ⟨y, 0, none⟩ = some (.int .i64 s.g) ∧ W.cell? ⟨z, 0, none⟩ = some (.string (bb (SupN.blk s)))) := Lib.hid (fun D' W hd =>
    ⟨blk_cell (did_other h hd hs.d (by decide) (by decide) (.inl (by decide))) rfl, blk_cell (did_other h hd hs.u (by decide) (by decide) (.inl (by decide))) rfl, blk_cell (did_other h hd hs.t (by decide) (by decide) (.inr (show 1 < 8 by decide))) rfl⟩)
  clear hs h hm hg ht
  generalize bb (SupN.blk s) = kk at *
  generalize ((s.g % 2).toNat : Int) = pp at *
  generalize superL s = ll at *
  have HK : Hid (∀ (W : World) (o : Obj), (W.cell? ⟨x, 0, none⟩ = some (.pointer (some ⟨b, 0, none⟩)) ∧ W.cell? ⟨y, 0, none⟩ = some (.int .i64 s.g) ∧ W.cell? ⟨z, 0, none⟩ = some (.string kk)) → ((fun W : World => W.cell? ⟨x, 0, none⟩ = some (.pointer (some ⟨b, 0, none⟩)) ∧ W.cell? ⟨y, 0, none⟩ = some (.int .i64 s.g) ∧ W.cell? ⟨z, 0, none⟩ = some (.string kk)) (W.alloc o))) := Lib.hid (fun W o hh => ⟨(below_new W o).cell (p := ⟨x, 0, none⟩) (World.block_lt_of_cell? W _ hh.1) |>.trans hh.1, (below_new W o).cell (p := ⟨y, 0, none⟩) (World.block_lt_of_cell? W _ hh.2.1) |>.trans hh.2.1, (below_new W o).cell (p := ⟨z, 0, none⟩) (World.block_lt_of_cell? W _ hh.2.2) |>.trans hh.2.2⟩)
  go_enter Tryz.func86, Tryz.ntmps86
  go_upto_region 1 with (fail)
  go_region_held3 (fun W => W.cell? ⟨x, 0, none⟩ = some (.pointer (some ⟨b, 0, none⟩)) ∧ W.cell? ⟨y, 0, none⟩ = some (.int .i64 s.g) ∧ W.cell? ⟨z, 0, none⟩ = some (.string kk))
    (first | exact ⟨c0, c1, c2⟩ | exact hS1 | exact HK.out _ _ hS1 | exact hS3)
    (first
      | (go_at_call 87; refine (HG.out _).mono ?_; rintro e _ ⟨rfl, rfl⟩)
      | (go_at_call 42; refine (HW.out _).mono ?_; rintro e w2 ⟨x2, y2, z2, rfl, hw2, hb2⟩; have hS1 := And.intro ((hb2.cell (p := ⟨x, 0, none⟩) (lt_of_some HS.out.d)).trans c0) (And.intro ((hb2.cell (p := ⟨y, 0, none⟩) (lt_of_some HS.out.u)).trans c1) ((hb2.cell (p := ⟨z, 0, none⟩) (lt_of_some HS.out.t)).trans c2)); have B2 := Lib.hid hb2; have W2 := Lib.hid hw2; clear hb2 hw2)
      | (go_at_call 38; refine (HT.out _ _ _ _ B2.out W2.out).mono ?_; rintro e w3 ⟨rfl, hd3⟩; have hS3 := HO.out _ _ hd3; have D3 := Lib.hid hd3; clear hd3))
  all_goals (go_wp2_with fail; go_ret; exact ⟨rfl, D3.out⟩)
end Go.Proofs.YtoilcieineejiaaGreatDoor.JouX
