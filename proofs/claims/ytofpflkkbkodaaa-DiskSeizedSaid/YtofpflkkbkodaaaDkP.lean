/- keepsakelaw08.does, whatever the act, where the program's disk is as the document's. No conditions but those that each lemma names. -/
import Derived.Test.YtofpflkkbkodaaaDkDb
namespace Go.Proofs.Ytofpflkkbkodaaa.DkP
open Go.RowKit
open DkN DkM DkU DkC DkD DkDa DkDb DkL
/-- The act, with the numbers that its keep has. -/
def actOf (a : RawAct) (keep : List Int) : DkN.Act := ⟨a.kind, a.at_, a.n, a.text, a.raw, keep⟩
theorem actOf_txt (a : RawAct) (keep : List Int) : (actOf a keep).txt = a.txt := rfl
/-- Both disks, of the call's own. -/
structure Play (w0 w : World) (b : Nat) (bv : Value) (rb : Nat) (rv cv ru : Value) (D R : Dk) : Prop where
  d : Has false w b bv cv D
  r : Has true w rb rv ru R
  apart : ∀ k, Foot b bv cv k → ¬ Foot rb rv ru k
  dl : ∀ k, Foot b bv cv k → w0.heap.size ≤ k
  rl : ∀ k, Foot rb rv ru k → w0.heap.size ≤ k
  below : Below w0.heap.size w0 w
variable {w0 w w' : World} {b rb : Nat} {bv cv cv' rv ru ru' : Value} {D D' R R' : Dk}
theorem Play.now (h : Play w0 w b bv rb rv cv ru D R) : Now w b bv cv rb rv ru w cv ru D R := Now.start h.d h.r h.apart
theorem Play.next (h : Play w0 w b bv rb rv cv ru D R) (n : Now w b bv cv rb rv ru w' cv' ru' D' R') : Play w0 w' b bv rb rv cv' ru' D' R' := by
  have hs := h.below.size
  refine ⟨n.d, n.r, n.apart, fun k hk => ?_, fun k hk => ?_, h.below.trans (n.kept.below (fun k hk => hk.elim (h.dl k) (h.rl k)) hs)⟩
  · rcases hk with rfl | hk | hk
    · exact h.dl _ (.inl rfl)
    · exact h.dl _ (.inr (.inl hk))
    · rcases n.nd k hk with h' | h'
      · exact h.dl _ (.inr (.inr h'))
      · omega
  · rcases hk with rfl | hk | hk
    · exact h.rl _ (.inl rfl)
    · exact h.rl _ (.inr (.inl hk))
    · rcases n.nr k hk with h' | h'
      · exact h.rl _ (.inr (.inr h'))
      · omega
theorem Play.step (h : Play w0 w b bv rb rv cv ru D R) (hb : Below w.heap.size w w') : Play w0 w' b bv rb rv cv ru D R := by
  have n := h.now.step hb
  exact h.next n
/-- What does leaves where both are alike. -/
def Alike (w0 : World) (b : Nat) (bv : Value) (rb : Nat) (rv : Value) (D' R' : Dk) (e : Ending) (w' : World) : Prop :=
  e = .returned (.bool true) ∧ ∃ cv' ru', Play w0 w' b bv rb rv cv' ru' D' R'
theorem alike_of (h : Play w0 w b bv rb rv cv ru D R) (hL : Like D R) {e : Ending} (p : DoesPost w b bv cv rb rv ru D R D' R' e w') : Alike w0 b bv rb rv D' R' e w' := by
  obtain ⟨x, rfl, hx, c, r, n⟩ := p
  rw [hx hL]
  exact ⟨rfl, c, r, h.next n⟩
/-- THE CONTRACT of does where both are alike. -/
theorem does (h : Play w0 w b bv rb rv cv ru D R) (hL : Like D R) (a : RawAct) (keep : List Int) (hr : Row w w0.heap.size a.ka a.kn keep) (hi : ∀ x ∈ keep, IsInt x) (hn : a.kn ≤ maxLen) (hm : a.n ≤ 9223372036854775807) :
    Calls Try.prog 12 #[.pointer (some ⟨b, 0, none⟩), .pointer (some ⟨rb, 0, none⟩), .agg a.cells] w (Alike w0 b bv rb rv (actD D (actOf a keep)) (actR R (actOf a keep))) := by
  have N := h.now
  unfold actD actR
  simp only [actOf_txt]
  by_cases k1 : a.kind = 1
  · simp only [actOf, k1, if_true]
    exact (does_1 a k1 N).mono fun e w' p => alike_of h hL p
  by_cases k2 : a.kind = 2
  · simp only [actOf, k2]
    exact (does_2 a k2 N).mono fun e w' p => alike_of h hL p
  by_cases k3 : a.kind = 3
  · simp only [actOf, k3]
    exact (does_3 a k3 N).mono fun e w' p => alike_of h hL p
  by_cases k4 : a.kind = 4
  · simp only [actOf, k4]
    exact (does_4 a k4 hm N).mono fun e w' p => alike_of h hL p
  by_cases k5 : a.kind = 5
  · simp only [actOf, k5]
    exact (does_5 a k5 N w0.heap.size h.below.size h.dl h.rl keep hr hi hn).mono fun e w' p => alike_of h hL p
  by_cases k6 : a.kind = 6
  · simp only [actOf, k6]
    exact (does_6 a k6 N).mono fun e w' p => alike_of h hL p
  by_cases k7 : a.kind = 7
  · simp only [actOf, k7]
    exact (does_7 a k7 N).mono fun e w' p => alike_of h hL p
  · simp only [actOf, k1, k3, k4, k5, k6, k7, if_false]
    exact (does_8 a (by rw [beq_eq_false_iff_ne]; exact k1) (by rw [beq_eq_false_iff_ne]; exact k2) (by rw [beq_eq_false_iff_ne]; exact k3) (by rw [beq_eq_false_iff_ne]; exact k4) (by rw [beq_eq_false_iff_ne]; exact k5) (by rw [beq_eq_false_iff_ne]; exact k6) (by rw [beq_eq_false_iff_ne]; exact k7) N ⟨hL.1, hL.2.1, hL.2.2.1⟩).mono fun e w' p => alike_of h hL p
/-- The acts' disks. -/
def runD (f : RawAct → List Int) (D : Dk) (l : List RawAct) : Dk := l.foldl (fun D x => actD D (actOf x (f x))) D
def runR (f : RawAct → List Int) (D : Dk) (l : List RawAct) : Dk := l.foldl (fun D x => actR D (actOf x (f x))) D
theorem run_like (f : RawAct → List Int) (l : List RawAct) (D R : Dk) (h : Like D R) : Like (runD f D l) (runR f R l) := by
  induction l generalizing D R with
  | nil => exact h
  | cons x l ih => exact ih _ _ (h.act _)
theorem runD_next (f : RawAct → List Int) (D : Dk) (l : List RawAct) (j : Nat) (h : j < l.length) : runD f D (l.take (j + 1)) = actD (runD f D (l.take j)) (actOf l[j] (f l[j])) := by
  unfold runD
  rw [List.take_succ_eq_append_getElem h, List.foldl_append]
  rfl
theorem runR_next (f : RawAct → List Int) (D : Dk) (l : List RawAct) (j : Nat) (h : j < l.length) : runR f D (l.take (j + 1)) = actR (runR f D (l.take j)) (actOf l[j] (f l[j])) := by
  unfold runR
  rw [List.take_succ_eq_append_getElem h, List.foldl_append]
  rfl
/-- The acts' keeps, picked once. -/
theorem pick {W : World} {l : List RawAct} (h : ∀ x ∈ l, ∃ keep, DkO.Good W x keep) : ∃ f : RawAct → List Int, ∀ x ∈ l, DkO.Good W x (f x) := by
  have : ∀ x : RawAct, ∃ keep, x ∈ l → DkO.Good W x keep := fun x => by
    by_cases hx : x ∈ l
    · obtain ⟨k, hk⟩ := h x hx; exact ⟨k, fun _ => hk⟩
    · exact ⟨[], fun h' => absurd h' hx⟩
  obtain ⟨f, hf⟩ := Classical.axiomOfChoice this
  exact ⟨f, fun x hx => hf x hx⟩
end Go.Proofs.Ytofpflkkbkodaaa.DkP
