/- PgC PgA PgM: one behind the other. -/
import Derived.Test.YtopnodkdpehdoaaGreatDoorLMdo
import Derived.Test.YtopnodkdpehdoaaGreatDoorLMdg
import Derived.Test.YtopnodkdpehdoaaGreatDoorLRet
import Derived.Test.YtopnodkdpehdoaaGreatDoorLClo
import Derived.Test.YtopnodkdpehdoaaGreatDoorLGeo
import Derived.Test.YtopnodkdpehdoaaGreatDoorLRea
/- The program's model in memory: its two blocks, its clock, its book, its rows of records and of versions; what a turn leaves. No conditions but those that each lemma names. -/
namespace Go.Proofs.YtopnodkdpehdoaaGreatDoor.PgC
set_option linter.unusedVariables false
open Go.RowKit
open RecN RecC RetN RetC RetR DbN DbA MdN MdO MdC MdG PgN
open CloC (Ck)
/-- The two variables, below a number. -/
structure Gd (base : Nat) (W : World) : Prop where
  b : GeoC.Bnd W
  l : 0 < base
  m : 1 < base
theorem Gd.kept {base : Nat} {W W' : World} (h : Gd base W) (hs : W.heap.size ≤ W'.heap.size) (hk : ∀ k, k < base → W'.heap[k]? = W.heap[k]?) : Gd base W' :=
  ⟨fun i hi => ⟨(World.cell?_of_block (hk _ h.l)).trans (h.b i hi).1, (World.cell?_of_block (hk _ h.m)).trans (h.b i hi).2⟩, h.l, h.m⟩
theorem Gd.below {base B : Nat} {W W' : World} (h : Gd base W) (hb : Below B W W') (hB : base ≤ B) : Gd base W' := h.kept hb.size fun k hk => hb.block k (Nat.lt_of_lt_of_le hk hB)
theorem Gd.up {base base' : Nat} {W : World} (h : Gd base W) (hb : base ≤ base') : Gd base' W := ⟨h.b, Nat.lt_of_lt_of_le h.l hb, Nat.lt_of_lt_of_le h.m hb⟩
/-- Where a model lies. -/
structure Pm where
  x : Nat
  y : Nat
  k : Nat
  a : Pl
  ar : Option Addr
  cr : Nat
  av : Option Addr
  cv : Nat
def blk (a : Option Addr) : Option Nat := a.map (·.block)
theorem blk_own (a : Option Addr) (n c : Nat) : (Value.slice a n c).ownBlock = blk a := by cases a <;> rfl
/-- A model's own blocks, but the book's. -/
def Pm.out (A : Pm) (i : Nat) : Prop := i = A.x ∨ i = A.y ∨ i = A.k ∨ blk A.ar = some i ∨ blk A.av = some i
def Pm.foot (A : Pm) (i : Nat) : Prop := A.out i ∨ A.a.has i
def headC (A : Pm) (m : Mo) : Array Value := #[.int .i64 m.b, .int .i64 m.lb, .int .i64 m.f, .pointer (some ⟨A.k, 0, none⟩), .pointer (some ⟨A.a.b, 0, none⟩), .slice A.ar m.l.length A.cr, .slice A.av m.vs.length A.cv]
/-- The program's model. -/
structure Pg (base : Nat) (A : Pm) (m : Mo) (W : World) : Prop where
  top : W.heap[A.x]? = some (.cells #[.pointer (some ⟨A.y, 0, none⟩)] 52 (0, 0))
  body : W.heap[A.y]? = some (.cells #[.int .i64 m.b, .int .i64 m.lb, .int .i64 m.f, .pointer (some ⟨A.k, 0, none⟩), .pointer (some ⟨A.a.b, 0, none⟩), .slice A.ar m.l.length A.cr, .slice A.av m.vs.length A.cv] 68 (0, 0))
  ck : Ck W A.k 0 true m.ck
  bk : Book A.a m.s W
  rows : W.ownsRow base 82 8 (.slice A.ar m.l.length A.cr) m.l.length (rr m.l)
  vrow : W.ownsRow base 91 3 (.slice A.av m.vs.length A.cv) m.vs.length (vv m.vs)
  ap : ∀ i, A.a.has i → ¬ A.out i
  kx : A.k ≠ A.x ∧ A.k ≠ A.y
  kr : blk A.ar ≠ some A.k ∧ blk A.av ≠ some A.k
  low : ∀ i, A.foot i → base ≤ i
  ok : Ok m
  ep : m.s.ep ≤ 4294967295
  lo : Lo m
  gd : Gd base W
section
variable {base : Nat} {A : Pm} {m : Mo} {W W' : World}
theorem Pg.lx (h : Pg base A m W) : A.x < W.heap.size := lt_of_some h.top
theorem Pg.ly (h : Pg base A m W) : A.y < W.heap.size := lt_of_some h.body
theorem book_lt {A : Pl} {s : St} (h : Book A s W) {i : Nat} (hi : A.has i) : i < W.heap.size := by
  rcases hi with rfl | rfl | rfl | rfl | rfl | rfl
  · exact h.lt
  · exact h.in_.lt
  · exact h.in_.ck.lt
  · exact h.in_.u.lt
  · exact h.in_.h.lt
  · exact h.in_.g.lt
theorem own_lt {e : TypeId} {size n c : Nat} {a : Option Addr} {xs : List Value} {i : Nat} (h : W.ownsRow base e size (.slice a n c) n xs) (hi : blk a = some i) : base ≤ i ∧ i < W.heap.size := h.lt i ((blk_own a n c).trans hi)
theorem Pg.lt (h : Pg base A m W) {i : Nat} (hi : A.foot i) : i < W.heap.size := by
  rcases hi with (rfl | rfl | rfl | hi | hi) | hi
  · exact h.lx
  · exact h.ly
  · exact h.ck.lt
  · exact (own_lt h.rows hi).2
  · exact (own_lt h.vrow hi).2
  · exact book_lt h.bk hi
theorem ck_block {B o : Nat} {b : Bool} {n : Int} (h : Ck W B o b n) (e : W'.heap[B]? = W.heap[B]?) : Ck W' B o b n := by
  obtain ⟨cs, t, h, k⟩ := h
  exact ⟨cs, t, e.trans h, k⟩
theorem book_kept {A : Pl} {s : St} (h : Book A s W) (hk : ∀ i, A.has i → W'.heap[i]? = W.heap[i]?) : Book A s W' :=
  ⟨(hk _ (.inl rfl)).trans h.top, ⟨(hk _ (.inr (.inl rfl))).trans h.in_.body, ck_block h.in_.ck (hk _ (.inr (.inr (.inl rfl)))), h.in_.u.block (hk _ (.inr (.inr (.inr (.inl rfl))))), h.in_.h.block (hk _ (.inr (.inr (.inr (.inr (.inl rfl)))))), h.in_.g.block (hk _ (.inr (.inr (.inr (.inr (.inr rfl)))))), h.in_.ne⟩, h.nb⟩
/-- Where its blocks, and what is below it, stay, a model stays. -/
theorem Pg.kept (h : Pg base A m W) (hs : W.heap.size ≤ W'.heap.size) (hk : ∀ i, A.foot i → W'.heap[i]? = W.heap[i]?) (hl : ∀ i, i < base → W'.heap[i]? = W.heap[i]?) : Pg base A m W' :=
  ⟨(hk _ (.inl (.inl rfl))).trans h.top, (hk _ (.inl (.inr (.inl rfl)))).trans h.body, ck_block h.ck (hk _ (.inl (.inr (.inr (.inl rfl))))), book_kept h.bk fun i hi => hk i (.inr hi),
    own_kept h.rows fun k e => hk k (.inl (.inr (.inr (.inr (.inl ((blk_own _ _ _).symm.trans e)))))), own_kept h.vrow fun k e => hk k (.inl (.inr (.inr (.inr (.inr ((blk_own _ _ _).symm.trans e)))))),
    h.ap, h.kx, h.kr, h.low, h.ok, h.ep, h.lo, h.gd.kept hs hl⟩
theorem Pg.step (h : Pg base A m W) (hb : Below W.heap.size W W') : Pg base A m W' :=
  h.kept hb.size (fun i hi => hb.block i (h.lt hi)) (fun i hi => hb.block i (Nat.lt_of_lt_of_le hi (Nat.le_trans (h.low _ (.inl (.inl rfl))) (Nat.le_of_lt h.lx))))
theorem Pg.drew (h : Pg base A m W) : Pg base A m W.drew := h.step ((Below.refl _ _).drew)
theorem Pg.size (h : Pg base A m W) : base ≤ W.heap.size := Nat.le_trans (h.low _ (.inl (.inl rfl))) (Nat.le_of_lt h.lx)
theorem Pg.xcell (h : Pg base A m W) : W.cell? ⟨A.x, 0, none⟩ = some (.pointer (some ⟨A.y, 0, none⟩)) := blk_cell h.top rfl
theorem Pg.cells (h : Pg base A m W) : W.cell? ⟨A.y, 0, none⟩ = some (.int .i64 m.b) ∧ W.cell? ⟨A.y, 1, none⟩ = some (.int .i64 m.lb) ∧ W.cell? ⟨A.y, 2, none⟩ = some (.int .i64 m.f) ∧ W.cell? ⟨A.y, 3, none⟩ = some (.pointer (some ⟨A.k, 0, none⟩)) ∧ W.cell? ⟨A.y, 4, none⟩ = some (.pointer (some ⟨A.a.b, 0, none⟩)) ∧ W.cell? ⟨A.y, 5, none⟩ = some (.slice A.ar m.l.length A.cr) ∧ W.cell? ⟨A.y, 6, none⟩ = some (.slice A.av m.vs.length A.cv) :=
  ⟨blk_cell h.body rfl, blk_cell h.body rfl, blk_cell h.body rfl, blk_cell h.body rfl, blk_cell h.body rfl, blk_cell h.body rfl, blk_cell h.body rfl⟩
theorem Pg.free (h : Pg base A m W) (i : Nat) : W.frozen? ⟨A.y, i, none⟩ = false := blk_free h.body
theorem Pg.rl (h : Pg base A m W) : Lies W A.ar (rr m.l) := own_lies h.rows
theorem Pg.vl (h : Pg base A m W) : Lies W A.av (vv m.vs) := own_lies h.vrow
theorem Pg.b3 (h : Pg base A m W) : 0 ≤ m.f ∧ m.f ≤ 4294967295 ∧ 1 ≤ m.lb ∧ m.lb ≤ 4096 ∧ 8 ≤ m.b ∧ m.b ≤ 1024 := by have := h.ok.geo; unfold GeoN.right at this; omega
end
/-- What a turn of a model leaves: the model, in blocks that were its own or are new; all else as it was. -/
structure Trn (base : Nat) (A : Pm) (m' : Mo) (w W : World) : Prop where
  ex : ∃ A', A'.x = A.x ∧ Pg base A' m' W ∧ ∀ k, A'.foot k → A.foot k ∨ w.heap.size ≤ k
  os : W.os = w.os
  tape : W.tape = w.tape
  output : W.output = w.output
  size : w.heap.size ≤ W.heap.size
  block : ∀ k, k < w.heap.size → ¬ A.foot k → W.heap[k]? = w.heap[k]?
theorem Trn.still {base : Nat} {A : Pm} {m : Mo} {w W : World} (h : Pg base A m w) (hb : Below w.heap.size w W) : Trn base A m w W :=
  ⟨⟨A, rfl, h.step hb, fun k hk => .inl hk⟩, hb.os, hb.tape, hb.output, hb.size, fun k hk _ => hb.block k hk⟩
theorem Trn.after {base : Nat} {A : Pm} {m : Mo} {w w1 W : World} (hb : Below w.heap.size w w1) (h : Trn base A m w1 W) : Trn base A m w W := by
  obtain ⟨⟨A', e, h1, h2⟩, e1, e2, e3, e4, e5⟩ := h
  exact ⟨⟨A', e, h1, fun k hk => (h2 k hk).imp id (fun q => Nat.le_trans hb.size q)⟩, e1.trans hb.os, e2.trans hb.tape, e3.trans hb.output, Nat.le_trans hb.size e4, fun k hk hn => (e5 k (Nat.lt_of_lt_of_le hk hb.size) hn).trans (hb.block k hk)⟩
theorem Trn.then_ {base : Nat} {A : Pm} {m : Mo} {w w1 W : World} (h : Trn base A m w w1) (hb : Below w1.heap.size w1 W) : Trn base A m w W := by
  obtain ⟨⟨A', e, h1, h2⟩, e1, e2, e3, e4, e5⟩ := h
  exact ⟨⟨A', e, h1.step hb, h2⟩, hb.os.trans e1, hb.tape.trans e2, hb.output.trans e3, Nat.le_trans e4 hb.size, fun k hk hn => (hb.block k (Nat.lt_of_lt_of_le hk e4)).trans (e5 k hk hn)⟩
end Go.Proofs.YtopnodkdpehdoaaGreatDoor.PgC
/- The program's model: isNone, Epoch, isPlace, isThere, isClosed, used, room: the walks of their texts. No conditions but those that each lemma names. -/
namespace Go.Proofs.YtopnodkdpehdoaaGreatDoor.PgA
set_option linter.unusedVariables false
open Go.RowKit
open RecN RecC RetN RetC RetR DbN DbA MdN MdO MdC MdG PgN PgC
/-- A pointer to none, or to a model that no call made. -/
def Non (W : World) (p : Option Addr) : Prop := p = none ∨ ∃ B, p = some ⟨B, 0, none⟩ ∧ W.heap[B]? = some (.cells #[.pointer none] 52 (0, 0))
theorem Non.step {W W' : World} {p : Option Addr} (h : Non W p) (hb : Below W.heap.size W W') : Non W' p := by
  rcases h with h | ⟨B, h, k⟩
  · exact .inl h
  · exact .inr ⟨B, h, (hb.block B (lt_of_some k)).trans k⟩
variable {base : Nat} {A : Pm} {m : Mo} {w : World}
theorem isNone_no (h : Pg base A m w) : Calls Tryz.prog 26 #[.pointer (some ⟨A.x, 0, none⟩)] w fun e w' => e = .returned (.bool false) ∧ w = w' := by
  have k0 := h.xcell
  clear h
  go_enter Tryz.func26, Tryz.ntmps26
  go_wp2
  go_ret
  exact ⟨rfl, rfl⟩
theorem isNone_yes {p : Option Addr} (h : Non w p) : Calls Tryz.prog 26 #[.pointer p] w fun e w' => e = .returned (.bool true) ∧ w = w' := by
  rcases h with rfl | ⟨B, rfl, h⟩
  · go_enter Tryz.func26, Tryz.ntmps26
    go_wp2
    go_ret
    exact ⟨rfl, rfl⟩
  · have k0 : w.cell? ⟨B, 0, none⟩ = some (.pointer none) := blk_cell h rfl
    clear h
    go_enter Tryz.func26, Tryz.ntmps26
    go_wp2
    go_ret
    exact ⟨rfl, rfl⟩
set_option maxRecDepth 100000 in
theorem Epoch (h : Pg base A m w) : Calls Tryz.prog 18 #[.pointer (some ⟨A.x, 0, none⟩)] w fun e w' => e = .returned (.int .i64 m.s.ep) ∧ w = w' := by
  have HN := Lib.hid (isNone_no h)
  have HE := Lib.hid (RetB.Epoch h.bk)
  have k0 := h.xcell
  obtain ⟨_, _, _, _, c4, _, _⟩ := h.cells
  clear h
  go_enter Tryz.func18, Tryz.ntmps18
  go_wp2_with (first
    | (go_at_call 26; refine HN.out.mono ?_; rintro e _ ⟨rfl, rfl⟩)
    | (go_at_call 42; refine HE.out.mono ?_; rintro e _ ⟨rfl, rfl⟩))
  go_ret
  exact ⟨rfl, rfl⟩
def isP (m : Mo) (lba : Int) : Bool := decide (0 ≤ lba ∧ lba < m.lb)
def isT (m : Mo) (e : Int) : Bool := decide (m.f ≤ e ∧ e ≤ m.s.ep)
set_option maxRecDepth 100000 in
theorem isPlace (h : Pg base A m w) (lba : Int) : Calls Tryz.prog 68 #[.pointer (some ⟨A.y, 0, none⟩), .int .i64 lba] w fun e w' => e = .returned (.bool (isP m lba)) ∧ w = w' := by
  obtain ⟨_, c1, _, _, _, _, _⟩ := h.cells
  clear h
  unfold isP
  by_cases h0 : 0 ≤ lba
  · by_cases h1 : lba < m.lb
    · rw [dt (show 0 ≤ lba ∧ lba < m.lb from ⟨h0, h1⟩)]
      go_enter Tryz.func68, Tryz.ntmps68
      go_wp2
      go_ret
      exact ⟨rfl, rfl⟩
    · rw [df (show ¬ (0 ≤ lba ∧ lba < m.lb) from fun hh => h1 hh.2)]
      go_enter Tryz.func68, Tryz.ntmps68
      go_wp2
      go_ret
      exact ⟨rfl, rfl⟩
  · rw [df (show ¬ (0 ≤ lba ∧ lba < m.lb) from fun hh => h0 hh.1)]
    go_enter Tryz.func68, Tryz.ntmps68
    go_wp2
    go_ret
    exact ⟨rfl, rfl⟩
set_option maxRecDepth 100000 in
theorem isThere (h : Pg base A m w) (t : Int) : Calls Tryz.prog 69 #[.pointer (some ⟨A.y, 0, none⟩), .int .i64 t] w fun e w' => e = .returned (.bool (isT m t)) ∧ w = w' := by
  have HE := Lib.hid (RetB.Epoch h.bk)
  obtain ⟨_, _, c2, _, c4, _, _⟩ := h.cells
  clear h
  unfold isT
  generalize m.s.ep = p at *
  by_cases h0 : m.f ≤ t
  · by_cases h1 : t ≤ p
    · rw [dt (show m.f ≤ t ∧ t ≤ p from ⟨h0, h1⟩)]
      go_enter Tryz.func69, Tryz.ntmps69
      go_wp2_with (go_at_call 42; refine HE.out.mono ?_; rintro e _ ⟨rfl, rfl⟩)
      go_ret
      exact ⟨rfl, rfl⟩
    · rw [df (show ¬ (m.f ≤ t ∧ t ≤ p) from fun hh => h1 hh.2)]
      go_enter Tryz.func69, Tryz.ntmps69
      go_wp2_with (go_at_call 42; refine HE.out.mono ?_; rintro e _ ⟨rfl, rfl⟩)
      go_ret
      exact ⟨congrArg (fun b => Ending.returned (.bool b)) (df (by omega)), rfl⟩
  · rw [df (show ¬ (m.f ≤ t ∧ t ≤ p) from fun hh => h0 hh.1)]
    go_enter Tryz.func69, Tryz.ntmps69
    go_wp2
    go_ret
    exact ⟨rfl, rfl⟩
set_option maxRecDepth 100000 in
/-- Why an epoch is none that is there and closed: the document's own word. -/
theorem isClosed (h : Pg base A m w) (t : Int) : Calls Tryz.prog 109 #[.pointer (some ⟨A.y, 0, none⟩), .int .i64 t] w fun e w' => e = .returned (.int .i64 (there m t true)) ∧ w = w' := by
  have HT := Lib.hid (isThere h t)
  have HE := Lib.hid (RetB.Epoch h.bk)
  obtain ⟨_, _, _, _, c4, _, _⟩ := h.cells
  clear h
  unfold there
  by_cases h0 : t < m.f ∨ m.s.ep < t
  · rw [if_pos h0]
    have e : isT m t = false := df (by omega)
    rw [e] at HT
    clear h0 e
    go_enter Tryz.func109, Tryz.ntmps109
    go_wp2_with (go_at_call 69; refine HT.out.mono ?_; rintro e _ ⟨rfl, rfl⟩)
    go_ret
    exact ⟨rfl, rfl⟩
  · rw [if_neg h0]
    have e : isT m t = true := dt (by omega)
    rw [e] at HT
    clear h0 e
    generalize m.s.ep = p at *
    by_cases h1 : t = p
    · rw [if_pos ⟨rfl, h1⟩]
      have q : (t == p) = true := by simp [h1]
      clear h1
      go_enter Tryz.func109, Tryz.ntmps109
      go_wp2_with (first
        | (go_at_call 69; refine HT.out.mono ?_; rintro e _ ⟨rfl, rfl⟩)
        | (go_at_call 42; refine HE.out.mono ?_; rintro e _ ⟨rfl, rfl⟩))
      go_ret
      exact ⟨rfl, rfl⟩
    · rw [if_neg (fun hh => h1 hh.2)]
      have q : (t == p) = false := by simp [h1]
      clear h1
      go_enter Tryz.func109, Tryz.ntmps109
      go_wp2_with (first
        | (go_at_call 69; refine HT.out.mono ?_; rintro e _ ⟨rfl, rfl⟩)
        | (go_at_call 42; refine HE.out.mono ?_; rintro e _ ⟨rfl, rfl⟩))
      go_ret
      exact ⟨rfl, rfl⟩
theorem below_drewN (w : World) (n : Nat) : Below w.heap.size w (w.drewN n) := ⟨rfl, rfl, rfl, Nat.le_refl _, fun _ _ => rfl⟩
set_option maxRecDepth 100000 in
theorem used (h : Pg base A m w) : Calls Tryz.prog 88 #[.pointer (some ⟨A.y, 0, none⟩)] w fun e w' => e = .returned (.int .i64 m.used) ∧ Below w.heap.size w w' := by
  obtain ⟨_, _, _, _, _, c5, c6⟩ := h.cells
  have hl := h.ok.lens
  have HU : Hid ((m.vs.length : Int) + (m.l.length : Int) = m.used) := Lib.hid (by have := h.ok.used; omega)
  clear h
  go_enter Tryz.func88, Tryz.ntmps88
  go_upto_region 1 with (fail)
  go_quiet (fail)
  go_wp2
  go_ret
  exact ⟨congrArg (fun n => Ending.returned (.int .i64 n)) HU.out, below_drewN _ _⟩
set_option maxRecDepth 100000 in
theorem room (h : Pg base A m w) : Calls Tryz.prog 70 #[.pointer (some ⟨A.y, 0, none⟩)] w fun e w' => e = .returned (.int .i64 (rm m)) ∧ Below w.heap.size w w' := by
  have HU := Lib.hid (fun W (h : Pg base A m W) => used h)
  have hu : m.used ≤ 9223372036854775807 := by have := h.ok.lens; have := h.ok.used; omega
  have HR := Lib.hid (fun W (h : GeoC.Bnd W) => GeoD.Room m.b m.lb m.f m.used W h hu)
  have HH := Lib.hid h
  obtain ⟨c0, c1, c2, _, _, _, _⟩ := h.cells
  have HS : Hid (∀ W, Pg base A m W → W.cell? ⟨A.y, 0, none⟩ = some (.int .i64 m.b) ∧ W.cell? ⟨A.y, 1, none⟩ = some (.int .i64 m.lb) ∧ W.cell? ⟨A.y, 2, none⟩ = some (.int .i64 m.f)) := Lib.hid (fun W h => ⟨h.cells.1, h.cells.2.1, h.cells.2.2.1⟩)
  clear h hu
  unfold rm
  generalize GeoN.room m.b m.lb m.f m.used = r at *
  generalize m.used = u at *
  go_enter Tryz.func70, Tryz.ntmps70
  go_upto_region 1 with (fail)
  replace HH := Lib.hid HH.out.drew
  have hS := HS.out _ HH.out
  have BB : Hid (Below w.heap.size w w.drew) := Lib.hid ((Below.refl _ _).drew)
  clear c0 c1 c2
  go_region_held3 (fun W => W.cell? ⟨A.y, 0, none⟩ = some (.int .i64 m.b) ∧ W.cell? ⟨A.y, 1, none⟩ = some (.int .i64 m.lb) ∧ W.cell? ⟨A.y, 2, none⟩ = some (.int .i64 m.f))
    (exact hS) (first
      | (go_at_call 88; refine (HU.out _ HH.out).mono ?_; rintro e w2 ⟨rfl, hb⟩; replace HH := Lib.hid (HH.out.step hb); replace BB := Lib.hid (BB.out.trans (hb.mono BB.out.size)); replace hS := HS.out _ HH.out; clear hb)
      | (go_at_call 87; refine (HR.out _ HH.out.gd.b).mono ?_; rintro e w3 ⟨rfl, hb⟩; replace HH := Lib.hid (HH.out.step hb); replace BB := Lib.hid (BB.out.trans (hb.mono BB.out.size)); replace hS := HS.out _ HH.out; clear hb))
  go_wp2
  go_ret
  exact ⟨rfl, BB.out⟩
end Go.Proofs.YtopnodkdpehdoaaGreatDoor.PgA
/- The program's model in memory, whatever holds of it: its book, its clock turned; a version, a record appended. No conditions but those that each lemma names. -/
namespace Go.Proofs.YtopnodkdpehdoaaGreatDoor.PgM
set_option linter.unusedVariables false
open Go.RowKit
open RecN RecC RetN RetC RetR DbN DbA DbC DbD DbE MdN MdO MdC MdD MdE MdF MdG PgN PgC
open CloC (Ck)
/-- What is in memory of a model. -/
structure Pr (base : Nat) (A : Pm) (m : Mo) (W : World) : Prop where
  top : W.heap[A.x]? = some (.cells #[.pointer (some ⟨A.y, 0, none⟩)] 52 (0, 0))
  body : W.heap[A.y]? = some (.cells #[.int .i64 m.b, .int .i64 m.lb, .int .i64 m.f, .pointer (some ⟨A.k, 0, none⟩), .pointer (some ⟨A.a.b, 0, none⟩), .slice A.ar m.l.length A.cr, .slice A.av m.vs.length A.cv] 68 (0, 0))
  ck : Ck W A.k 0 true m.ck
  bk : Book A.a m.s W
  rows : W.ownsRow base 82 8 (.slice A.ar m.l.length A.cr) m.l.length (rr m.l)
  vrow : W.ownsRow base 91 3 (.slice A.av m.vs.length A.cv) m.vs.length (vv m.vs)
  ap : ∀ i, A.a.has i → ¬ A.out i
  kx : A.k ≠ A.x ∧ A.k ≠ A.y
  kr : blk A.ar ≠ some A.k ∧ blk A.av ≠ some A.k
  low : ∀ i, A.foot i → base ≤ i
  gd : Gd base W
section
variable {base : Nat} {A : Pm} {m : Mo} {W W' : World}
theorem raw (h : Pg base A m W) : Pr base A m W := ⟨h.top, h.body, h.ck, h.bk, h.rows, h.vrow, h.ap, h.kx, h.kr, h.low, h.gd⟩
theorem Pr.pg (h : Pr base A m W) (h1 : Ok m) (h2 : m.s.ep ≤ 4294967295) (h3 : Lo m) : Pg base A m W := ⟨h.top, h.body, h.ck, h.bk, h.rows, h.vrow, h.ap, h.kx, h.kr, h.low, h1, h2, h3, h.gd⟩
theorem Pr.lx (h : Pr base A m W) : A.x < W.heap.size := lt_of_some h.top
theorem Pr.ly (h : Pr base A m W) : A.y < W.heap.size := lt_of_some h.body
theorem Pr.lt (h : Pr base A m W) {i : Nat} (hi : A.foot i) : i < W.heap.size := by
  rcases hi with (rfl | rfl | rfl | hi | hi) | hi
  · exact h.lx
  · exact h.ly
  · exact h.ck.lt
  · exact (own_lt h.rows hi).2
  · exact (own_lt h.vrow hi).2
  · exact book_lt h.bk hi
theorem Pr.size (h : Pr base A m W) : base ≤ W.heap.size := Nat.le_trans (h.low _ (.inl (.inl rfl))) (Nat.le_of_lt h.lx)
theorem Pr.kept (h : Pr base A m W) (hs : W.heap.size ≤ W'.heap.size) (hk : ∀ i, A.foot i → W'.heap[i]? = W.heap[i]?) (hl : ∀ i, i < base → W'.heap[i]? = W.heap[i]?) : Pr base A m W' :=
  ⟨(hk _ (.inl (.inl rfl))).trans h.top, (hk _ (.inl (.inr (.inl rfl)))).trans h.body, ck_block h.ck (hk _ (.inl (.inr (.inr (.inl rfl))))), book_kept h.bk fun i hi => hk i (.inr hi),
    own_kept h.rows fun k e => hk k (.inl (.inr (.inr (.inr (.inl ((blk_own _ _ _).symm.trans e)))))), own_kept h.vrow fun k e => hk k (.inl (.inr (.inr (.inr (.inr ((blk_own _ _ _).symm.trans e)))))),
    h.ap, h.kx, h.kr, h.low, h.gd.kept hs hl⟩
theorem Pr.step (h : Pr base A m W) (hb : Below W.heap.size W W') : Pr base A m W' :=
  h.kept hb.size (fun i hi => hb.block i (h.lt hi)) (fun i hi => hb.block i (Nat.lt_of_lt_of_le hi h.size))
theorem Pr.cell (h : Pr base A m W) : W.cell? ⟨A.y, 3, none⟩ = some (.pointer (some ⟨A.k, 0, none⟩)) ∧ W.cell? ⟨A.y, 4, none⟩ = some (.pointer (some ⟨A.a.b, 0, none⟩)) ∧ W.cell? ⟨A.y, 5, none⟩ = some (.slice A.ar m.l.length A.cr) ∧ W.cell? ⟨A.y, 6, none⟩ = some (.slice A.av m.vs.length A.cv) :=
  ⟨blk_cell h.body rfl, blk_cell h.body rfl, blk_cell h.body rfl, blk_cell h.body rfl⟩
theorem row_ne {size n c : Nat} {a : Option Addr} {xs : List Value} {t u : TypeId} {cs : Array Value} {fr : Nat × Nat} (h : W.ownsRow base t size (.slice a n c) n xs) {g : Nat} (hg : W.heap[g]? = some (.cells cs u fr)) (hne : t ≠ u) : blk a ≠ some g := fun e => hne (type_apart h ((blk_own a n c).trans e) hg)
theorem Pr.xy (h : Pr base A m W) : A.x ≠ A.y := fun e => by
  have := h.top
  rw [e, h.body] at this
  injection this with this
  injection this with _ this
  exact absurd this (by decide)
theorem Pr.rx (h : Pr base A m W) : blk A.ar ≠ some A.x := row_ne h.rows h.top (by decide)
theorem Pr.ry (h : Pr base A m W) : blk A.ar ≠ some A.y := row_ne h.rows h.body (by decide)
theorem Pr.vx (h : Pr base A m W) : blk A.av ≠ some A.x := row_ne h.vrow h.top (by decide)
theorem Pr.vy (h : Pr base A m W) : blk A.av ≠ some A.y := row_ne h.vrow h.body (by decide)
theorem Pr.rv (h : Pr base A m W) {k : Nat} (hk : blk A.ar = some k) : blk A.av ≠ some k := fun e => by
  obtain ⟨cs, fr, hg⟩ := own_type h.vrow ((blk_own A.av m.vs.length A.cv).trans e)
  exact absurd (type_apart h.rows ((blk_own A.ar m.l.length A.cr).trans hk) hg) (by decide)
/-- The book was turned alone. -/
theorem Pr.book {s : St} (h : Pr base A m W) (hb : Book A.a s W') (ht : Tu A.a W W') : Pr base A { m with s := s } W' := by
  have hk : ∀ i, A.out i → W'.heap[i]? = W.heap[i]? := fun i hi => ht.block i (h.lt (.inl hi)) (fun e => h.ap i e hi)
  refine ⟨(hk _ (.inl rfl)).trans h.top, (hk _ (.inr (.inl rfl))).trans h.body, ck_block h.ck (hk _ (.inr (.inr (.inl rfl)))), hb,
    own_kept h.rows fun k e => hk k (.inr (.inr (.inr (.inl ((blk_own _ _ _).symm.trans e))))), own_kept h.vrow fun k e => hk k (.inr (.inr (.inr (.inr ((blk_own _ _ _).symm.trans e))))),
    h.ap, h.kx, h.kr, h.low, h.gd.kept ht.size fun k hk => ht.block k (Nat.lt_of_lt_of_le hk h.size) (fun e => by have := h.low k (.inr e); omega)⟩
/-- The clock was told a time. -/
theorem Pr.tick {v : Int} (h : Pr base A m W) (hs : CloC.Set W A.k 0 v W') : Pr base A { m with ck := v } W' := by
  have hb := hs.but
  have hk : ∀ i, A.foot i → i ≠ A.k → W'.heap[i]? = W.heap[i]? := fun i hi hn => hb.block i (h.lt hi) hn
  have hna : ∀ i, A.a.has i → i ≠ A.k := fun i hi e => h.ap i hi (.inr (.inr (.inl e)))
  refine ⟨(hk _ (.inl (.inl rfl)) h.kx.1.symm).trans h.top, (hk _ (.inl (.inr (.inl rfl))) h.kx.2.symm).trans h.body, hs.ck h.ck, book_kept h.bk fun i hi => hk i (.inr hi) (hna i hi),
    own_kept h.rows fun k e => ?_, own_kept h.vrow fun k e => ?_, h.ap, h.kx, h.kr, h.low, h.gd.kept hb.size fun k hk => hb.block k (Nat.lt_of_lt_of_le hk h.size) (fun e => by have := h.low A.k (.inl (.inr (.inr (.inl rfl)))); omega)⟩
  · have e' := (blk_own _ _ _).symm.trans e
    exact hk k (.inl (.inr (.inr (.inr (.inl e'))))) (fun q => h.kr.1 (q ▸ e'))
  · have e' := (blk_own _ _ _).symm.trans e
    exact hk k (.inl (.inr (.inr (.inr (.inr e'))))) (fun q => h.kr.2 (q ▸ e'))
end
/-- What a turn leaves of all else. -/
structure Fr (A : Pm) (w W : World) : Prop where
  os : W.os = w.os
  tape : W.tape = w.tape
  output : W.output = w.output
  size : w.heap.size ≤ W.heap.size
  block : ∀ k, k < w.heap.size → ¬ A.foot k → W.heap[k]? = w.heap[k]?
theorem Fr.of {A : Pm} {w W : World} (h : Below w.heap.size w W) : Fr A w W := ⟨h.os, h.tape, h.output, h.size, fun k hk _ => h.block k hk⟩
theorem Fr.trans {A : Pm} {u v w : World} (h : Fr A u v) (k : Fr A v w) : Fr A u w :=
  ⟨k.os.trans h.os, k.tape.trans h.tape, k.output.trans h.output, Nat.le_trans h.size k.size, fun i hi hn => (k.block i (Nat.lt_of_lt_of_le hi h.size) hn).trans (h.block i hi hn)⟩
theorem fr_book {A : Pm} {w W : World} (h : Tu A.a w W) : Fr A w W := ⟨h.os, h.tape, h.output, h.size, fun k hk hn => h.block k hk (fun e => hn (.inr e))⟩
theorem fr_tick {A : Pm} {w W : World} {v : Int} (h : CloC.Set w A.k 0 v W) : Fr A w W :=
  ⟨h.but.os, h.but.tape, h.but.output, h.but.size, fun k hk hn => h.but.block k hk (fun e => hn (.inl (.inr (.inr (.inl e)))))⟩
theorem trn_of {base : Nat} {A A' : Pm} {m : Mo} {w W : World} (hx : A'.x = A.x) (h : Pg base A' m W) (hf : ∀ k, A'.foot k → A.foot k ∨ w.heap.size ≤ k) (f : Fr A w W) : Trn base A m w W :=
  ⟨⟨A', hx, h, hf⟩, f.os, f.tape, f.output, f.size, f.block⟩
theorem info_pv : ((Tryz.prog.info? 91).map fun i => (i.zero, i.size, i.bytes)) = some (some (.agg #[.int .i64 0, .int .i64 0, .string ⟨#[]⟩]), 3, 32) := by kernel_rfl
/-- What an append leaves. -/
structure App (base : Nat) (a : Option Addr) (U W : World) (a' : Option Addr) : Prop where
  os : W.os = U.os
  tape : W.tape = U.tape
  output : W.output = U.output
  size : U.heap.size ≤ W.heap.size
  block : ∀ k, k < U.heap.size → blk a ≠ some k → W.heap[k]? = U.heap[k]?
  new : ∀ k, blk a' = some k → blk a = some k ∨ U.heap.size ≤ k
theorem app_ver (base : Nat) (a : Option Addr) (n c : Nat) (l : List V) (v : V) (W : World) (hn : n ≤ 100000) (hb : base ≤ W.heap.size) (hown : W.ownsRow base 91 3 (.slice a n c) n (vv l)) :
    ∃ a' c' W', (Builtin.append_ #[66, 66] 66 #[.slice a n c, .slice (some ⟨W.heap.size, 0, none⟩) 1 1]).run Tryz.prog (W.alloc (.cells #[.int .i64 v.lb, .int .i64 v.ep, .string ⟨v.da.toArray⟩] 91)) = .ok (.slice a' (n + 1) c') W' ∧
      W'.ownsRow base 91 3 (.slice a' (n + 1) c') (n + 1) (vv (l ++ [v])) ∧ App base a W W' a' := by
  obtain ⟨i0, hi, hz0, hz1, hz2⟩ := info_parts info_pv
  have hz : (W.alloc (.cells #[.int .i64 v.lb, .int .i64 v.ep, .string ⟨v.da.toArray⟩] 91)).heap.size = W.heap.size + 1 := by simp
  obtain ⟨v', W', h1, h2, h3, _, h4⟩ := run_append_own_at (P := Tryz.prog) (w := W.alloc (.cells #[.int .i64 v.lb, .int .i64 v.ep, .string ⟨v.da.toArray⟩] 91)) base 66 66 91 i0 (.agg #[.int .i64 0, .int .i64 0, .string ⟨#[]⟩]) 3 32 Tryz.underlying66 hi hz0 hz1 hz2 rfl (by decide) (.slice a n c) n (vv l) (hown.alloc _) ⟨W.heap.size, 0, none⟩ 1 1 (vc v) rfl (cell_row (heap_alloc_new W _)) (vc_one v) (by unfold maxLen; omega) (by omega) (by omega)
  obtain ⟨p', c', rfl⟩ := own_slice h2
  have b3 : Below W.heap.size W (W.alloc (.cells #[.int .i64 v.lb, .int .i64 v.ep, .string ⟨v.da.toArray⟩] 91)) := below_new _ _
  refine ⟨p', c', W', h1, by rw [vv_app, vv_one]; exact h2, h3.os, h3.tape, h3.output, Nat.le_trans b3.size h3.size, fun k hk hne => (h3.block k (by omega) (fun e => hne ((blk_own a n c).symm.trans e.symm))).trans (b3.block k hk), fun k hk => ?_⟩
  have hk' := (blk_own p' (n + 1) c').trans hk
  rcases h4 with h4 | h4
  · exact .inl ((blk_own a n c).symm.trans (h4 ▸ hk'))
  · rw [hk'] at h4
    have := Option.some.inj h4
    exact .inr (by omega)
theorem app_rec (base : Nat) (a : Option Addr) (n c : Nat) (l : List Rec) (r : Rec) (W : World) (hn : n ≤ 100000) (hb : base ≤ W.heap.size) (hown : W.ownsRow base 82 8 (.slice a n c) n (rr l)) :
    ∃ a' c' W', (Builtin.append_ #[56, 56] 56 #[.slice a n c, .slice (some ⟨W.heap.size, 0, none⟩) 1 1]).run Tryz.prog (W.alloc (.cells #[.int .i64 r.k, .int .i64 r.ep, .int .i64 r.tm, .int .i64 r.ct, .int .i64 r.tg, .int .i64 r.un, .string ⟨r.rt.toArray⟩, .string ⟨r.nm.toArray⟩] 82)) = .ok (.slice a' (n + 1) c') W' ∧
      W'.ownsRow base 82 8 (.slice a' (n + 1) c') (n + 1) (rr (l ++ [r])) ∧ App base a W W' a' := by
  obtain ⟨i0, hi, hz0, hz1, hz2⟩ := info_parts info_rec
  have hz : (W.alloc (.cells #[.int .i64 r.k, .int .i64 r.ep, .int .i64 r.tm, .int .i64 r.ct, .int .i64 r.tg, .int .i64 r.un, .string ⟨r.rt.toArray⟩, .string ⟨r.nm.toArray⟩] 82)).heap.size = W.heap.size + 1 := by simp
  obtain ⟨v', W', h1, h2, h3, _, h4⟩ := run_append_own_at (P := Tryz.prog) (w := W.alloc (.cells #[.int .i64 r.k, .int .i64 r.ep, .int .i64 r.tm, .int .i64 r.ct, .int .i64 r.tg, .int .i64 r.un, .string ⟨r.rt.toArray⟩, .string ⟨r.nm.toArray⟩] 82)) base 56 56 82 i0 (.agg #[.int .i64 0, .int .i64 0, .int .i64 0, .int .i64 0, .int .i64 0, .int .i64 0, .string ⟨#[]⟩, .string ⟨#[]⟩]) 8 80 Tryz.underlying56 hi hz0 hz1 hz2 rfl (by decide) (.slice a n c) n (rr l) (hown.alloc _) ⟨W.heap.size, 0, none⟩ 1 1 (rcL r) rfl (cell_row (heap_alloc_new W _)) (rc_one r) (by unfold maxLen; omega) (by omega) (by omega)
  obtain ⟨p', c', rfl⟩ := own_slice h2
  have b3 : Below W.heap.size W (W.alloc (.cells #[.int .i64 r.k, .int .i64 r.ep, .int .i64 r.tm, .int .i64 r.ct, .int .i64 r.tg, .int .i64 r.un, .string ⟨r.rt.toArray⟩, .string ⟨r.nm.toArray⟩] 82)) := below_new _ _
  refine ⟨p', c', W', h1, by rw [rr_app, rr_one]; exact h2, h3.os, h3.tape, h3.output, Nat.le_trans b3.size h3.size, fun k hk hne => (h3.block k (by omega) (fun e => hne ((blk_own a n c).symm.trans e.symm))).trans (b3.block k hk), fun k hk => ?_⟩
  have hk' := (blk_own p' (n + 1) c').trans hk
  rcases h4 with h4 | h4
  · exact .inl ((blk_own a n c).symm.trans (h4 ▸ hk'))
  · rw [hk'] at h4
    have := Option.some.inj h4
    exact .inr (by omega)
/-- A version was appended, and the row stored. -/
theorem Pr.vers {base : Nat} {A : Pm} {m : Mo} {U W : World} {a' : Option Addr} {c' : Nat} {v : V} (h : Pr base A m U) (ha : App base A.av U W a') (hown : W.ownsRow base 91 3 (.slice a' (m.vs.length + 1) c') (m.vs.length + 1) (vv (m.vs ++ [v]))) :
    Pr base { A with av := a', cv := c' } { m with vs := m.vs ++ [v] } (W.setCell ⟨A.y, 6, none⟩ (.slice a' (m.vs.length + 1) c')) ∧ Fr A U (W.setCell ⟨A.y, 6, none⟩ (.slice a' (m.vs.length + 1) c')) ∧ ∀ k, ({ A with av := a', cv := c' } : Pm).foot k → A.foot k ∨ U.heap.size ≤ k := by
  have hl : (m.vs ++ [v]).length = m.vs.length + 1 := by simp
  have hy : W.heap[A.y]? = U.heap[A.y]? := ha.block _ h.ly h.vy
  have k5 : ∀ k, k < U.heap.size → blk A.av ≠ some k → k ≠ A.y → (W.setCell ⟨A.y, 6, none⟩ (.slice a' (m.vs.length + 1) c')).heap[k]? = U.heap[k]? := fun k hk h1 h2 => (Below.heap_setCell W ⟨A.y, 6, none⟩ _ _ h2).trans (ha.block k hk h1)
  have hs : (W.setCell ⟨A.y, 6, none⟩ (.slice a' (m.vs.length + 1) c')).heap.size = W.heap.size := by simp [World.setCell]
  have hbk : ∀ i, A.a.has i → (W.setCell ⟨A.y, 6, none⟩ (.slice a' (m.vs.length + 1) c')).heap[i]? = U.heap[i]? := fun i hi => k5 i (h.lt (.inr hi)) (fun e => h.ap i hi (.inr (.inr (.inr (.inr e))))) (fun e => h.ap i hi (.inr (.inl e)))
  refine ⟨⟨(k5 _ h.lx h.vx h.xy).trans h.top, ?_, ck_block h.ck (k5 _ h.ck.lt h.kr.2 h.kx.2), book_kept h.bk hbk, own_kept h.rows fun k e => ?_, ?_, fun i hi => ?_, h.kx, ⟨h.kr.1, fun e => ?_⟩, fun i hi => ?_, h.gd.kept (by rw [hs]; exact ha.size) fun k hk => ?_⟩, ⟨ha.os, ha.tape, ha.output, by rw [hs]; exact ha.size, fun k hk hn => ?_⟩, fun k hk => ?_⟩
  · dsimp only
    rw [hl]
    exact blk_set (i := 6) (u := .slice a' (m.vs.length + 1) c') (hy.trans h.body)
  · have e' := (blk_own _ _ _).symm.trans e
    exact k5 k (h.lt (.inl (.inr (.inr (.inr (.inl e')))))) (h.rv e') (fun q => h.ry (q ▸ e'))
  · dsimp only
    rw [hl]
    refine own_kept hown fun k e => Below.heap_setCell _ _ _ _ (fun q => ?_)
    have q : k = A.y := q
    exact row_ne hown (hy.trans h.body) (by decide) ((blk_own _ _ _).symm.trans (q ▸ e))
  · rintro (e | e | e | e | e)
    · exact h.ap i hi (.inl e)
    · exact h.ap i hi (.inr (.inl e))
    · exact h.ap i hi (.inr (.inr (.inl e)))
    · exact h.ap i hi (.inr (.inr (.inr (.inl e))))
    · rcases ha.new i e with e | e
      · exact h.ap i hi (.inr (.inr (.inr (.inr e))))
      · have := h.lt (.inr hi); omega
  · rcases ha.new _ e with e | e
    · exact h.kr.2 e
    · have := h.ck.lt; dsimp only at e; omega
  · rcases hi with (e | e | e | e | e) | e
    · exact h.low i (.inl (.inl e))
    · exact h.low i (.inl (.inr (.inl e)))
    · exact h.low i (.inl (.inr (.inr (.inl e))))
    · exact h.low i (.inl (.inr (.inr (.inr (.inl e)))))
    · rcases ha.new i e with e | e
      · exact h.low i (.inl (.inr (.inr (.inr (.inr e)))))
      · have := h.size; omega
    · exact h.low i (.inr e)
  · exact k5 k (Nat.lt_of_lt_of_le hk h.size) (fun e => by have := h.low k (.inl (.inr (.inr (.inr (.inr e))))); omega) (fun e => by have := h.low k (.inl (.inr (.inl e))); omega)
  · exact k5 k hk (fun e => hn (.inl (.inr (.inr (.inr (.inr e)))))) (fun e => hn (.inl (.inr (.inl e))))
  · rcases hk with (e | e | e | e | e) | e
    · exact .inl (.inl (.inl e))
    · exact .inl (.inl (.inr (.inl e)))
    · exact .inl (.inl (.inr (.inr (.inl e))))
    · exact .inl (.inl (.inr (.inr (.inr (.inl e)))))
    · rcases ha.new k e with e | e
      · exact .inl (.inl (.inr (.inr (.inr (.inr e)))))
      · exact .inr e
    · exact .inl (.inr e)
/-- A record was appended, and the row stored. -/
theorem Pr.recs {base : Nat} {A : Pm} {m : Mo} {U W : World} {a' : Option Addr} {c' : Nat} {r : Rec} (h : Pr base A m U) (ha : App base A.ar U W a') (hown : W.ownsRow base 82 8 (.slice a' (m.l.length + 1) c') (m.l.length + 1) (rr (m.l ++ [r]))) :
    Pr base { A with ar := a', cr := c' } { m with l := m.l ++ [r] } (W.setCell ⟨A.y, 5, none⟩ (.slice a' (m.l.length + 1) c')) ∧ Fr A U (W.setCell ⟨A.y, 5, none⟩ (.slice a' (m.l.length + 1) c')) ∧ ∀ k, ({ A with ar := a', cr := c' } : Pm).foot k → A.foot k ∨ U.heap.size ≤ k := by
  have hl : (m.l ++ [r]).length = m.l.length + 1 := by simp
  have hy : W.heap[A.y]? = U.heap[A.y]? := ha.block _ h.ly h.ry
  have k5 : ∀ k, k < U.heap.size → blk A.ar ≠ some k → k ≠ A.y → (W.setCell ⟨A.y, 5, none⟩ (.slice a' (m.l.length + 1) c')).heap[k]? = U.heap[k]? := fun k hk h1 h2 => (Below.heap_setCell W ⟨A.y, 5, none⟩ _ _ h2).trans (ha.block k hk h1)
  have hs : (W.setCell ⟨A.y, 5, none⟩ (.slice a' (m.l.length + 1) c')).heap.size = W.heap.size := by simp [World.setCell]
  have hbk : ∀ i, A.a.has i → (W.setCell ⟨A.y, 5, none⟩ (.slice a' (m.l.length + 1) c')).heap[i]? = U.heap[i]? := fun i hi => k5 i (h.lt (.inr hi)) (fun e => h.ap i hi (.inr (.inr (.inr (.inl e))))) (fun e => h.ap i hi (.inr (.inl e)))
  refine ⟨⟨(k5 _ h.lx h.rx h.xy).trans h.top, ?_, ck_block h.ck (k5 _ h.ck.lt h.kr.1 h.kx.2), book_kept h.bk hbk, ?_, own_kept h.vrow fun k e => ?_, fun i hi => ?_, h.kx, ⟨fun e => ?_, h.kr.2⟩, fun i hi => ?_, h.gd.kept (by rw [hs]; exact ha.size) fun k hk => ?_⟩, ⟨ha.os, ha.tape, ha.output, by rw [hs]; exact ha.size, fun k hk hn => ?_⟩, fun k hk => ?_⟩
  · dsimp only
    rw [hl]
    exact blk_set (i := 5) (u := .slice a' (m.l.length + 1) c') (hy.trans h.body)
  · dsimp only
    rw [hl]
    refine own_kept hown fun k e => Below.heap_setCell _ _ _ _ (fun q => ?_)
    have q : k = A.y := q
    exact row_ne hown (hy.trans h.body) (by decide) ((blk_own _ _ _).symm.trans (q ▸ e))
  · have e' := (blk_own _ _ _).symm.trans e
    exact k5 k (h.lt (.inl (.inr (.inr (.inr (.inr e')))))) (fun q => h.rv q e') (fun q => h.vy (q ▸ e'))
  · rintro (e | e | e | e | e)
    · exact h.ap i hi (.inl e)
    · exact h.ap i hi (.inr (.inl e))
    · exact h.ap i hi (.inr (.inr (.inl e)))
    · rcases ha.new i e with e | e
      · exact h.ap i hi (.inr (.inr (.inr (.inl e))))
      · have := h.lt (.inr hi); omega
    · exact h.ap i hi (.inr (.inr (.inr (.inr e))))
  · rcases ha.new _ e with e | e
    · exact h.kr.1 e
    · have := h.ck.lt; dsimp only at e; omega
  · rcases hi with (e | e | e | e | e) | e
    · exact h.low i (.inl (.inl e))
    · exact h.low i (.inl (.inr (.inl e)))
    · exact h.low i (.inl (.inr (.inr (.inl e))))
    · rcases ha.new i e with e | e
      · exact h.low i (.inl (.inr (.inr (.inr (.inl e)))))
      · have := h.size; omega
    · exact h.low i (.inl (.inr (.inr (.inr (.inr e)))))
    · exact h.low i (.inr e)
  · exact k5 k (Nat.lt_of_lt_of_le hk h.size) (fun e => by have := h.low k (.inl (.inr (.inr (.inr (.inl e))))); omega) (fun e => by have := h.low k (.inl (.inr (.inl e))); omega)
  · exact k5 k hk (fun e => hn (.inl (.inr (.inr (.inr (.inl e)))))) (fun e => hn (.inl (.inr (.inl e))))
  · rcases hk with (e | e | e | e | e) | e
    · exact .inl (.inl (.inl e))
    · exact .inl (.inl (.inr (.inl e)))
    · exact .inl (.inl (.inr (.inr (.inl e))))
    · rcases ha.new k e with e | e
      · exact .inl (.inl (.inr (.inr (.inr (.inl e)))))
      · exact .inr e
    · exact .inl (.inl (.inr (.inr (.inr (.inr e)))))
    · exact .inl (.inr e)
end Go.Proofs.YtopnodkdpehdoaaGreatDoor.PgM
