/- keepsakelaw08.does, whatever the two disks are; two disks of the program's beside each other. No conditions but those that each lemma names. -/
import Derived.Test.YtofpflkkbkodaaaDkP
import Derived.Test.YtofpflkkbkodaaaDkDc
import Derived.Test.YtofpflkkbkodaaaDkZ
namespace Go.Proofs.Ytofpflkkbkodaaa.DkTw
open Go.RowKit
open DkN DkM DkU DkC DkD DkDa DkDb DkDc DkL DkP DkA DkV DkX
variable {w0 w w' : World} {b rb b' qb : Nat} {bv cv cv' rv ru ru' bv' ce qv qu : Value} {D D' R R' E E' : Dk}
/-- Seized, held against whatever disk. -/
theorem does_8u (a : RawAct) (h1 : (a.kind == 1) = false) (h2 : (a.kind == 2) = false) (h3 : (a.kind == 3) = false) (h4 : (a.kind == 4) = false) (h5 : (a.kind == 5) = false) (h6 : (a.kind == 6) = false) (h7 : (a.kind == 7) = false) (N : Now w b bv cv rb rv ru w cv ru D R) :
    Calls Try.prog 12 #[.pointer (some ⟨b, 0, none⟩), .pointer (some ⟨rb, 0, none⟩), .agg a.cells] w (DoesPost w b bv cv rb rv ru D R D R) := by
  by_cases hq : D.bl = R.bl ∧ D.ca = R.ca
  · by_cases hd : D.down = R.down
    · exact does_8 a h1 h2 h3 h4 h5 h6 h7 N ⟨hq.1, hq.2, hd⟩
    · exact does_8b a h1 h2 h3 h4 h5 h6 h7 N ⟨hq, hd⟩
  · exact does_8a a h1 h2 h3 h4 h5 h6 h7 N hq
/-- THE CONTRACT of does, whatever the two disks are. -/
theorem does_un (N : Now w b bv cv rb rv ru w cv ru D R) (B : Nat) (hB : B ≤ w.heap.size) (hdl : ∀ k, Foot b bv cv k → B ≤ k) (hrl : ∀ k, Foot rb rv ru k → B ≤ k) (a : RawAct) (keep : List Int) (hr : Row w B a.ka a.kn keep) (hi : ∀ x ∈ keep, IsInt x) (hn : a.kn ≤ maxLen) (hm : a.n ≤ 9223372036854775807) :
    Calls Try.prog 12 #[.pointer (some ⟨b, 0, none⟩), .pointer (some ⟨rb, 0, none⟩), .agg a.cells] w (DoesPost w b bv cv rb rv ru D R (actD D (actOf a keep)) (actR R (actOf a keep))) := by
  unfold actD actR
  simp only [actOf_txt]
  by_cases k1 : a.kind = 1
  · simp only [actOf, k1, if_true]
    exact does_1 a k1 N
  by_cases k2 : a.kind = 2
  · simp only [actOf, k2]
    exact does_2 a k2 N
  by_cases k3 : a.kind = 3
  · simp only [actOf, k3]
    exact does_3 a k3 N
  by_cases k4 : a.kind = 4
  · simp only [actOf, k4]
    exact does_4 a k4 hm N
  by_cases k5 : a.kind = 5
  · simp only [actOf, k5]
    exact does_5 a k5 N B hB hdl hrl keep hr hi hn
  by_cases k6 : a.kind = 6
  · simp only [actOf, k6]
    exact does_6 a k6 N
  by_cases k7 : a.kind = 7
  · simp only [actOf, k7]
    exact does_7 a k7 N
  · simp only [actOf, k1, k3, k4, k5, k6, k7, if_false]
    exact does_8u a (by rw [beq_eq_false_iff_ne]; exact k1) (by rw [beq_eq_false_iff_ne]; exact k2) (by rw [beq_eq_false_iff_ne]; exact k3) (by rw [beq_eq_false_iff_ne]; exact k4) (by rw [beq_eq_false_iff_ne]; exact k5) (by rw [beq_eq_false_iff_ne]; exact k6) (by rw [beq_eq_false_iff_ne]; exact k7) N
/-- What does leaves of the program's disk. -/
def Sole (w0 w : World) (b : Nat) (bv cv : Value) (rb : Nat) (rv ru : Value) (D' : Dk) (e : Ending) (w' : World) : Prop :=
  ∃ (x : Bool) (c : Value), e = .returned (.bool x) ∧ Solo false w0 w' b bv c D' ∧ (∀ k, c.ownBlock = some k → cv.ownBlock = some k ∨ w.heap.size ≤ k) ∧ Kept (fun k => Foot b bv cv k ∨ Foot rb rv ru k) w w'
theorem does_sole (h : Solo false w0 w b bv cv D) (hr : Has true w rb rv ru R) (hrl : ∀ k, Foot rb rv ru k → w0.heap.size ≤ k) (hap : ∀ k, Foot b bv cv k → ¬ Foot rb rv ru k) (a : RawAct) (keep : List Int) (hk : Row w w0.heap.size a.ka a.kn keep) (hi : ∀ x ∈ keep, IsInt x) (hn : a.kn ≤ maxLen) (hm : a.n ≤ 9223372036854775807) :
    Calls Try.prog 12 #[.pointer (some ⟨b, 0, none⟩), .pointer (some ⟨rb, 0, none⟩), .agg a.cells] w (Sole w0 w b bv cv rb rv ru (actD D (actOf a keep))) := by
  refine (does_un (Now.start h.has hr hap) w0.heap.size h.below.size h.foot hrl a keep hk hi hn hm).mono ?_
  rintro e w' ⟨x, rfl, _, c, c', n⟩
  have hs := h.below.size
  refine ⟨x, c, rfl, ⟨n.d, h.below.trans (n.kept.below (fun k hk => hk.elim (h.foot k) (hrl k)) hs), fun k hk => ?_⟩, n.nd, n.kept⟩
  rcases hk with rfl | hk | hk
  · exact h.foot _ (.inl rfl)
  · exact h.foot _ (.inr (.inl hk))
  · rcases n.nd k hk with h' | h'
    · exact h.foot _ (.inr (.inr h'))
    · omega
/-- Two disks of the program's. -/
structure Duo (w0 w : World) (b : Nat) (bv cv : Value) (b' : Nat) (bv' ce : Value) (D E : Dk) : Prop where
  d : Solo false w0 w b bv cv D
  e : Solo false w0 w b' bv' ce E
  apart : ∀ k, Foot b bv cv k → ¬ Foot b' bv' ce k
theorem Duo.step (h : Duo w0 w b bv cv b' bv' ce D E) (hb : Below w.heap.size w w') : Duo w0 w' b bv cv b' bv' ce D E := ⟨h.d.step hb, h.e.step hb, h.apart⟩
theorem Duo.swap (h : Duo w0 w b bv cv b' bv' ce D E) : Duo w0 w b' bv' ce b bv cv E D := ⟨h.e, h.d, fun k h1 h2 => h.apart k h2 h1⟩
/-- Where the one is turned, and other blocks that are not the other one's. -/
theorem Duo.turn (h : Duo w0 w b bv cv b' bv' ce D E) {c : Value} {S : Nat → Prop} (hs : Solo false w0 w' b bv c D') (hn : ∀ k, c.ownBlock = some k → cv.ownBlock = some k ∨ w.heap.size ≤ k) (hk : Kept S w w') (hS : ∀ k, Foot b' bv' ce k → ¬ S k) : Duo w0 w' b bv c b' bv' ce D' E := by
  refine ⟨hs, ⟨h.e.has.kept fun k hf => hk.block k (h.e.has.foot_lt k hf) (hS k hf), hs.below, h.e.foot⟩, fun k hf he => ?_⟩
  rcases hf with rfl | hf | hf
  · exact h.apart _ (.inl rfl) he
  · exact h.apart _ (.inr (.inl hf)) he
  · rcases hn k hf with h' | h'
    · exact h.apart _ (.inr (.inr h')) he
    · have := h.e.has.foot_lt k he; omega
theorem Duo.did (h : Duo w0 w b bv cv b' bv' ce D E) (hd : Did false w b bv cv D' w') : ∃ c, Duo w0 w' b bv c b' bv' ce D' E := by
  obtain ⟨c, h1, n1, k1⟩ := hd
  have hs := h.d.below.size
  refine ⟨c, h.turn (S := Foot b bv cv) ⟨h1, h.d.below.trans (k1.below h.d.foot hs), fun k hk => ?_⟩ n1 k1 fun k he hf => h.apart k hf he⟩
  rcases hk with rfl | hk | hk
  · exact h.d.foot _ (.inl rfl)
  · exact h.d.foot _ (.inr (.inl hk))
  · rcases n1 k hk with h' | h'
    · exact h.d.foot _ (.inr (.inr h'))
    · omega
theorem Duo.did' (h : Duo w0 w b bv cv b' bv' ce D E) (hd : Did false w b' bv' ce E' w') : ∃ c, Duo w0 w' b bv cv b' bv' c D E' := by
  obtain ⟨c, hc⟩ := h.swap.did hd
  exact ⟨c, hc.swap⟩
/-- What does leaves of the one of two disks. -/
def DuoD (w0 w : World) (b : Nat) (bv cv : Value) (rb : Nat) (rv ru : Value) (b' : Nat) (bv' ce : Value) (D' E : Dk) (e : Ending) (w' : World) : Prop :=
  ∃ (x : Bool) (c : Value), e = .returned (.bool x) ∧ Duo w0 w' b bv c b' bv' ce D' E ∧ (∀ k, c.ownBlock = some k → cv.ownBlock = some k ∨ w.heap.size ≤ k) ∧ Kept (fun k => Foot b bv cv k ∨ Foot rb rv ru k) w w'
theorem Duo.doesD (h : Duo w0 w b bv cv b' bv' ce D E) (hr : Has true w rb rv ru R) (hrl : ∀ k, Foot rb rv ru k → w0.heap.size ≤ k) (hap : ∀ k, Foot b bv cv k → ¬ Foot rb rv ru k) (hap' : ∀ k, Foot b' bv' ce k → ¬ Foot rb rv ru k) (a : RawAct) (keep : List Int) (hk : Row w w0.heap.size a.ka a.kn keep) (hi : ∀ x ∈ keep, IsInt x) (hn : a.kn ≤ maxLen) (hm : a.n ≤ 9223372036854775807) :
    Calls Try.prog 12 #[.pointer (some ⟨b, 0, none⟩), .pointer (some ⟨rb, 0, none⟩), .agg a.cells] w (DuoD w0 w b bv cv rb rv ru b' bv' ce (actD D (actOf a keep)) E) := by
  refine (does_sole h.d hr hrl hap a keep hk hi hn hm).mono ?_
  rintro e w' ⟨x, c, rfl, hs, hn, hk⟩
  exact ⟨x, c, rfl, h.turn hs hn hk fun k he hS => hS.elim (fun hd => h.apart k hd he) (hap' k he), hn, hk⟩
/-- A row of writes as one that came in. -/
def castPuts (l : List (Nat × ByteArray)) : List (Int × ByteArray) := l.map fun x => ((x.1 : Int), x.2)
theorem castPuts_length (l : List (Nat × ByteArray)) : (castPuts l).length = l.length := List.length_map ..
theorem nat_cast (l : List (Nat × ByteArray)) : natPuts (castPuts l) = l := by
  unfold natPuts castPuts
  rw [List.map_map]
  exact (List.map_congr_left (fun x _ => rfl)).trans (List.map_id l)
theorem raw_of {a : Option Addr} {l : List (Nat × ByteArray)} (h : PutRow w a l) : RRow w a (castPuts l) := by
  intro hl
  rw [castPuts_length] at hl
  obtain ⟨g, o, e, hg, hc⟩ := h hl
  refine ⟨g, o, e, hg, fun k hk => ?_⟩
  have hk' : k < l.length := by rwa [castPuts_length] at hk
  have e' : (castPuts l)[k] = ((l[k].1 : Int), l[k].2) := List.getElem_map ..
  rw [e']
  exact hc k hk'
/-- What a disk has may be. -/
theorem may_of (h : D.ok) : mayB D.bl (castPuts D.ca) = true := by
  refine mayB_yes ⟨h.lo, h.hi, by rw [castPuts_length]; exact h.few⟩ ?_ ?_
  · rw [List.all_eq_true]
    exact fun s hs => decide_eq_true (h.full s hs)
  · rw [List.all_eq_true]
    intro x hx
    obtain ⟨y, hy, rfl⟩ := List.mem_map.1 hx
    obtain ⟨q1, q2⟩ := h.good y hy
    exact decide_eq_true (DkZ.zero_noB q2 (Int.natCast_nonneg _) (by show ((y.1 : Nat) : Int) < _; omega))
/-- What is made of what was seized. -/
theorem held_of (D : Dk) : held D.bl (castPuts D.ca) = { bl := D.bl, ca := D.ca, armed := 0, down := false } := by
  unfold held
  rw [nat_cast]
theorem rd_of (D : Dk) (i : Int) (h : D.down = false) : (held D.bl (castPuts D.ca)).rd i = D.rd i := by
  rw [held_of]
  unfold Dk.rd
  rw [h]
  rfl
theorem crash_none (D : Dk) : (D.crash []).boot = { bl := D.bl, ca := [], armed := 0, down := false } := by
  have : ∀ (k : Nat) (l : List (Nat × ByteArray)) (q : List ByteArray), kset (keepB []) k l q = q := by
    intro k l q
    induction l generalizing k q with
    | nil => rfl
    | cons x l ih =>
      rw [kset, if_neg (by simp [keepB]), ih]
  unfold Dk.crash Dk.boot
  simp only
  rw [this]
end Go.Proofs.Ytofpflkkbkodaaa.DkTw
