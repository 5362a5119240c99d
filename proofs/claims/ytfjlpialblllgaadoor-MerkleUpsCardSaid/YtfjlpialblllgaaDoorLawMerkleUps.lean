/- MerkleUps: at any numbers, any leaf (of at most 1,000 bytes), any path (of at most 70 texts, of at most 5,000 bytes together; else: the chapter's example alone, as the statement has it) and any root: to which root the path leads the leaf, or that it does not, is as the document says, which makes the tree by halves from above. The condition: the rounds' numbers lie in the program's variable (the card ties it to the program's text). -/
import Derived.Test.YtfjlpialblllgaaDoorMerW
import Derived.Test.YtfjlpialblllgaaDoorMerO
import Derived.SliceStrings
import Derived.Test.YtfjlpialblllgaaDoorRows
import Derived.Test.YtfjlpialblllgaaDoorTie
import Derived.Test.YtfjlpialblllgaaDoorCards
import Derived.Test.YtfjlpialblllgaaDoorSLaid
import Derived.WalkKit
import Derived.ProofKit
import Derived.OpenShut
import Derived.ShutString
import Derived.ChangeOld
import Derived.Below
import Derived.LaidMore
import Derived.SevenTiedAt
import Derived.Stop.Joined
namespace Go.Proofs.YtfjlpialblllgaaDoor.merkleUps
open Go.ChangeShapes Go.WideShapes Go.ChangeAt Go.RowKit
open Go.ChangeMaps (open_string shut_string)
set_option linter.unusedVariables false
open STurn SSum MerQ MerN MerM MerC MerR MerU MerV MerX MerZ MerW
section
variable (n i : Int) (x : L) (a : Option Addr) (m c : Nat) (p : List L) (r : L) (w : World) (h : Strs w w.heap.size a m p) (hm : m ≤ 9223372036854775807) (hr : Rds w)
include h hm hr
theorem out (hf : fewB p = false ∨ (1000 : Int) < (x.length : Int)) :
    Calls Tryd.prog 4 #[.int .i64 n, .int .i64 i, str x, .slice a m c, str r] w fun e w' => e = .returned (.bool true) ∧ Below w.heap.size w w' := by
  have HF := Lib.hid (few a m c p w h hm)
  have HA := Lib.hid (alive w hr)
  cases hb : fewB p with
  | false =>
    rw [hb] at HF
    clear h hr hf hm hb
    go_enter Tryd.func4, Tryd.ntmps4
    go_wp2_with (first | (go_at_call 8; refine HF.out.mono ?_; rintro e w' ⟨rfl, rfl⟩) | (go_at_call 9; refine HA.out.mono ?_; rintro e w' ⟨rfl, hb⟩; have HB := Lib.hid hb; clear hb))
    go_ret
    exact ⟨rfl, HB.out⟩
  | true =>
    rw [hb] at HF hf
    have h1 : (1000 : Int) < (x.length : Int) := hf.resolve_left (by simp)
    clear h hr hf hm hb
    go_enter Tryd.func4, Tryd.ntmps4
    go_wp2_with (first | (go_at_call 8; refine HF.out.mono ?_; rintro e w' ⟨rfl, rfl⟩) | (go_at_call 9; refine HA.out.mono ?_; rintro e w' ⟨rfl, hb⟩; have HB := Lib.hid hb; clear hb))
    go_ret
    exact ⟨rfl, HB.out⟩
end
/-- What stands ahead of the tests. -/
structure Pre (n i : Int) (x : L) (a : Option Addr) (c : Nat) (p : List L) (r : L) (w : World) (u : L) (v : Nat) (t : Bool) : Prop where
  few : Calls Tryd.prog 8 #[.slice a p.length c] w fun e w' => e = .returned (.bool true) ∧ w = w'
  up : Calls Tryd.prog 19 #[.int .i64 n, .int .i64 i, str x, .slice a p.length c] w fun e w' => e = .returned (.tuple #[str u, .int .i64 (v : Int)]) ∧ Below w.heap.size w w'
  check : ∀ W, Below w.heap.size w W → Calls Tryd.prog 20 #[str r, .int .i64 n, .int .i64 i, str x, .slice a p.length c] W fun e w' => e = .returned (.bool t) ∧ Below W.heap.size W w'
  alive : ∀ W, Below w.heap.size w W → Calls Tryd.prog 9 #[] W fun e w' => e = .returned (.bool true) ∧ Below W.heap.size W w'
section
variable (n i : Int) (x : L) (a : Option Addr) (c : Nat) (p : List L) (r : L) (w : World) (h : Strs w w.heap.size a p.length p) (hr : Rds w) (hf : fewB p = true) (hx : x.length ≤ 1000) (hl : ∀ l ∈ p, l.length ≤ 9223372036854775807)
include h hr hf hx hl
theorem pre : Pre n i x a c p r w (upR n i x p).1 (upR n i x p).2 (checkB r n i x p) := by
  have h70 := few_len hf
  refine ⟨?_, Up a n i x c p w h (by omega) (by omega) hl hr, fun W hb => Check r a n i x c p W ((h.below hb).more hb.size) (by omega) (by omega) hl (hr.step hb), fun W hb => MerZ.alive W (hr.step hb)⟩
  have := few a p.length c p w h (by omega)
  rwa [hf] at this
theorem arg (hno : mayBe n i = false) :
    Calls Tryd.prog 4 #[.int .i64 n, .int .i64 i, str x, .slice a p.length c, str r] w fun e w' => e = .returned (.bool true) ∧ Below w.heap.size w w' := by
  have HP := Lib.hid (pre n i x a c p r w h hr hf hx hl)
  have hu : upR n i x p = ([], 2) := by unfold upR; rw [if_pos hno]
  have hc : checkB r n i x p = false := by unfold checkB; rw [hu]; simp
  rw [hu, hc] at HP
  dsimp only at HP
  unfold mayBe at hno
  have q0 : ¬ (1000 : Int) < (x.length : Int) := by omega
  clear h hr hf hx hl hu hc
  by_cases h1 : n < 1
  · clear hno
    go_enter Tryd.func4, Tryd.ntmps4
    go_wp2_with (first | (go_at_call 8; refine HP.out.few.mono ?_; rintro e w' ⟨rfl, rfl⟩) | (go_at_call 19; refine HP.out.up.mono ?_; rintro e w1 ⟨rfl, hb⟩; have B1 := Lib.hid hb; clear hb) | (go_at_call 20; refine (HP.out.check _ B1.out).mono ?_; rintro e w2 ⟨rfl, hb⟩; have B2 := Lib.hid (B1.out.trans (hb.mono B1.out.size)); clear hb) | (go_at_call 9; refine (HP.out.alive _ B2.out).mono ?_; rintro e w3 ⟨rfl, hb⟩; have B3 := Lib.hid (B2.out.trans (hb.mono B2.out.size)); clear hb))
    go_ret
    exact ⟨rfl, B3.out⟩
  by_cases h2 : 1048576 < n
  · clear hno
    go_enter Tryd.func4, Tryd.ntmps4
    go_wp2_with (first | (go_at_call 8; refine HP.out.few.mono ?_; rintro e w' ⟨rfl, rfl⟩) | (go_at_call 19; refine HP.out.up.mono ?_; rintro e w1 ⟨rfl, hb⟩; have B1 := Lib.hid hb; clear hb) | (go_at_call 20; refine (HP.out.check _ B1.out).mono ?_; rintro e w2 ⟨rfl, hb⟩; have B2 := Lib.hid (B1.out.trans (hb.mono B1.out.size)); clear hb) | (go_at_call 9; refine (HP.out.alive _ B2.out).mono ?_; rintro e w3 ⟨rfl, hb⟩; have B3 := Lib.hid (B2.out.trans (hb.mono B2.out.size)); clear hb))
    go_ret
    exact ⟨rfl, B3.out⟩
  by_cases h3 : i < 0
  · clear hno
    go_enter Tryd.func4, Tryd.ntmps4
    go_wp2_with (first | (go_at_call 8; refine HP.out.few.mono ?_; rintro e w' ⟨rfl, rfl⟩) | (go_at_call 19; refine HP.out.up.mono ?_; rintro e w1 ⟨rfl, hb⟩; have B1 := Lib.hid hb; clear hb) | (go_at_call 20; refine (HP.out.check _ B1.out).mono ?_; rintro e w2 ⟨rfl, hb⟩; have B2 := Lib.hid (B1.out.trans (hb.mono B1.out.size)); clear hb) | (go_at_call 9; refine (HP.out.alive _ B2.out).mono ?_; rintro e w3 ⟨rfl, hb⟩; have B3 := Lib.hid (B2.out.trans (hb.mono B2.out.size)); clear hb))
    go_ret
    exact ⟨rfl, B3.out⟩
  have h4 : n ≤ i := by
    by_cases h5 : i < n
    · rw [decide_eq_true (show n ≤ 1048576 by omega), decide_eq_true (show 0 ≤ i ∧ i < n by omega)] at hno
      cases hno
    · omega
  clear hno
  go_enter Tryd.func4, Tryd.ntmps4
  go_wp2_with (first | (go_at_call 8; refine HP.out.few.mono ?_; rintro e w' ⟨rfl, rfl⟩) | (go_at_call 19; refine HP.out.up.mono ?_; rintro e w1 ⟨rfl, hb⟩; have B1 := Lib.hid hb; clear hb) | (go_at_call 20; refine (HP.out.check _ B1.out).mono ?_; rintro e w2 ⟨rfl, hb⟩; have B2 := Lib.hid (B1.out.trans (hb.mono B1.out.size)); clear hb) | (go_at_call 9; refine (HP.out.alive _ B2.out).mono ?_; rintro e w3 ⟨rfl, hb⟩; have B3 := Lib.hid (B2.out.trans (hb.mono B2.out.size)); clear hb))
  go_ret
  exact ⟨rfl, B3.out⟩
end
section
variable (n i : Nat) (hi : i < n) (hn : n ≤ 1048576) (x : L) (a : Option Addr) (c : Nat) (p : List L) (r : L) (w : World) (h : Strs w w.heap.size a p.length p) (hr : Rds w) (hf : fewB p = true) (hx : x.length ≤ 1000) (hl : ∀ l ∈ p, l.length ≤ 9223372036854775807)
include hi hn h hr hf hx hl
theorem unfit (hno : fitB n i x p = false) :
    Calls Tryd.prog 4 #[.int .i64 (n : Int), .int .i64 (i : Int), str x, .slice a p.length c, str r] w fun e w' => e = .returned (.bool true) ∧ Below w.heap.size w w' := by
  have h70 := few_len hf
  have hm : mayBe (n : Int) (i : Int) = true := by
    unfold mayBe
    rw [Bool.and_eq_true, decide_eq_true_eq, decide_eq_true_eq]
    omega
  have HP := Lib.hid (pre (n : Int) (i : Int) x a c p r w h hr hf hx hl)
  have hu : upR (n : Int) (i : Int) x p = ([], 17) := by unfold upR; rw [hm, Int.toNat_natCast, Int.toNat_natCast, hno]; simp
  have hc : checkB r (n : Int) (i : Int) x p = false := by unfold checkB; rw [hu]; simp
  rw [hu, hc] at HP
  dsimp only at HP
  have HW := Lib.hid (fun W (hb : Below w.heap.size w W) => MerH.Whole a p.length c p W ((h.below hb).more hb.size) (by omega) hl)
  have HL := Lib.hid (fun W => MerH.Long n i W hi hn)
  have q0 : ¬ (1000 : Int) < (x.length : Int) := by omega
  have q1 : ¬ (n : Int) < 1 := by omega
  have q2 : ¬ 1048576 < (n : Int) := by omega
  have q3 : ¬ (i : Int) < 0 := by omega
  have q4 : (i : Int) < (n : Int) := by omega
  have HNo := Lib.hid hno
  clear h hr hf hx hl hu hc hm hno
  by_cases h32 : x.length = 32
  · have e1 : ((x.length : Int) != 32) = false := by rw [h32]; rfl
    cases hall : all32 p with
    | false =>
      rw [hall] at HW
      clear hall h32 HNo
      go_enter Tryd.func4, Tryd.ntmps4
      go_wp2_with (first | (go_at_call 8; refine HP.out.few.mono ?_; rintro e w' ⟨rfl, rfl⟩) | (go_at_call 19; refine HP.out.up.mono ?_; rintro e w1 ⟨rfl, hb⟩; have B1 := Lib.hid hb; clear hb) | (go_at_call 20; refine (HP.out.check _ B1.out).mono ?_; rintro e w2 ⟨rfl, hb⟩; have B2 := Lib.hid (B1.out.trans (hb.mono B1.out.size)); clear hb) | (go_at_call 15; refine (HW.out _ B2.out).mono ?_; rintro e w' ⟨rfl, rfl⟩) | (go_at_call 9; refine (HP.out.alive _ B2.out).mono ?_; rintro e w3 ⟨rfl, hb⟩; have B3 := Lib.hid (B2.out.trans (hb.mono B2.out.size)); clear hb))
      go_ret
      exact ⟨rfl, B3.out⟩
    | true =>
      have hne : p.length ≠ longN n i := fun e => by
        have := HNo.out
        unfold fitB at this
        rw [decide_eq_true h32, hall, decide_eq_true e] at this
        cases this
      have e2 : ((p.length : Int) != (longN n i : Int)) = true := by rw [bne_iff_ne]; omega
      rw [hall] at HW
      have hlb := MerH.longN_le hi hn
      clear hall h32 HNo hne
      generalize longN n i = k at *
      go_enter Tryd.func4, Tryd.ntmps4
      go_wp2_with (first | (go_at_call 8; refine HP.out.few.mono ?_; rintro e w' ⟨rfl, rfl⟩) | (go_at_call 19; refine HP.out.up.mono ?_; rintro e w1 ⟨rfl, hb⟩; have B1 := Lib.hid hb; clear hb) | (go_at_call 20; refine (HP.out.check _ B1.out).mono ?_; rintro e w2 ⟨rfl, hb⟩; have B2 := Lib.hid (B1.out.trans (hb.mono B1.out.size)); clear hb) | (go_at_call 15; refine (HW.out _ B2.out).mono ?_; rintro e w' ⟨rfl, rfl⟩) | (go_at_call 21; refine (HL.out _).mono ?_; rintro e w' ⟨rfl, rfl⟩) | (go_at_call 9; refine (HP.out.alive _ B2.out).mono ?_; rintro e w3 ⟨rfl, hb⟩; have B3 := Lib.hid (B2.out.trans (hb.mono B2.out.size)); clear hb))
      go_ret
      exact ⟨rfl, B3.out⟩
  · have e1 : ((x.length : Int) != 32) = true := by rw [bne_iff_ne]; omega
    clear h32 HNo
    go_enter Tryd.func4, Tryd.ntmps4
    go_wp2_with (first | (go_at_call 8; refine HP.out.few.mono ?_; rintro e w' ⟨rfl, rfl⟩) | (go_at_call 19; refine HP.out.up.mono ?_; rintro e w1 ⟨rfl, hb⟩; have B1 := Lib.hid hb; clear hb) | (go_at_call 20; refine (HP.out.check _ B1.out).mono ?_; rintro e w2 ⟨rfl, hb⟩; have B2 := Lib.hid (B1.out.trans (hb.mono B1.out.size)); clear hb) | (go_at_call 9; refine (HP.out.alive _ B2.out).mono ?_; rintro e w3 ⟨rfl, hb⟩; have B3 := Lib.hid (B2.out.trans (hb.mono B2.out.size)); clear hb))
    go_ret
    exact ⟨rfl, B3.out⟩
theorem fit (hpc : p.length ≤ c) (hyes : fitB n i x p = true) :
    Calls Tryd.prog 4 #[.int .i64 (n : Int), .int .i64 (i : Int), str x, .slice a p.length c, str r] w fun e w' => e = .returned (.bool true) ∧ Below w.heap.size w w' := by
  have h70 := few_len hf
  have hm : mayBe (n : Int) (i : Int) = true := by
    unfold mayBe
    rw [Bool.and_eq_true, decide_eq_true_eq, decide_eq_true_eq]
    omega
  have HP := Lib.hid (pre (n : Int) (i : Int) x a c p r w h hr hf hx hl)
  have hu : upR (n : Int) (i : Int) x p = (climbN nd n i x p, 0) := by unfold upR; rw [hm, Int.toNat_natCast, Int.toNat_natCast, hyes]; simp
  have hc : checkB r (n : Int) (i : Int) x p = decide (climbN nd n i x p = r) := by unfold checkB; rw [hu]; simp
  rw [hu, hc] at HP
  dsimp only at HP
  have HW := Lib.hid (fun W (hb : Below w.heap.size w W) => MerH.Whole a p.length c p W ((h.below hb).more hb.size) (by omega) hl)
  have HL := Lib.hid (fun W => MerH.Long n i W hi hn)
  unfold fitB at hyes
  rw [Bool.and_eq_true, Bool.and_eq_true, decide_eq_true_eq, decide_eq_true_eq] at hyes
  obtain ⟨⟨h32, hall⟩, hpl⟩ := hyes
  have HUp := Lib.hid (fun W (hb : Below w.heap.size w W) => MerO.Up n i x p.length a c p W hi hn rfl hpl hpc ((h.below hb).more hb.size) (all32_at hall) h32)
  rw [hall] at HW
  have q0 : ¬ (1000 : Int) < (x.length : Int) := by omega
  have q1 : ¬ (n : Int) < 1 := by omega
  have q2 : ¬ 1048576 < (n : Int) := by omega
  have q3 : ¬ (i : Int) < 0 := by omega
  have q4 : (i : Int) < (n : Int) := by omega
  have e1 : ((x.length : Int) != 32) = false := by rw [h32]; rfl
  have e2 : ((p.length : Int) != (longN n i : Int)) = false := by rw [hpl]; simp
  have hlb := MerH.longN_le hi hn
  generalize longN n i = k at *
  generalize climbN nd n i x p = y at *
  have e3 : (y == y) = true := by simp
  have hry : decide (y = r) = (r == y) := by
    by_cases e : y = r
    · subst e; simp
    · rw [decide_eq_false e]; exact (beq_eq_false_iff_ne.2 (fun h => e h.symm)).symm
  rw [hry] at HP
  clear h hr hf hx hl hu hc hm h32 hall hpl hpc hry h70
  cases hb : (r == y) with
  | false =>
    rw [hb] at HP
    go_enter Tryd.func4, Tryd.ntmps4
    go_wp2_with (first | (go_at_call 8; refine HP.out.few.mono ?_; rintro e w' ⟨rfl, rfl⟩) | (go_at_call 19; refine HP.out.up.mono ?_; rintro e w1 ⟨rfl, hb⟩; have B1 := Lib.hid hb; clear hb) | (go_at_call 20; refine (HP.out.check _ B1.out).mono ?_; rintro e w2 ⟨rfl, hb⟩; have B2 := Lib.hid (B1.out.trans (hb.mono B1.out.size)); clear hb) | (go_at_call 15; refine (HW.out _ B2.out).mono ?_; rintro e w' ⟨rfl, rfl⟩) | (go_at_call 21; refine (HL.out _).mono ?_; rintro e w' ⟨rfl, rfl⟩) | (go_at_call 22; refine (HUp.out _ B2.out).mono ?_; rintro e w3 ⟨rfl, hb⟩; have B3 := Lib.hid (B2.out.trans (hb.mono B2.out.size)); clear hb) | (go_at_call 9; refine (HP.out.alive _ B3.out).mono ?_; rintro e w4 ⟨rfl, hb⟩; have B4 := Lib.hid (B3.out.trans (hb.mono B3.out.size)); clear hb))
    go_ret
    exact ⟨rfl, B4.out⟩
  | true =>
    rw [hb] at HP
    go_enter Tryd.func4, Tryd.ntmps4
    go_wp2_with (first | (go_at_call 8; refine HP.out.few.mono ?_; rintro e w' ⟨rfl, rfl⟩) | (go_at_call 19; refine HP.out.up.mono ?_; rintro e w1 ⟨rfl, hb⟩; have B1 := Lib.hid hb; clear hb) | (go_at_call 20; refine (HP.out.check _ B1.out).mono ?_; rintro e w2 ⟨rfl, hb⟩; have B2 := Lib.hid (B1.out.trans (hb.mono B1.out.size)); clear hb) | (go_at_call 15; refine (HW.out _ B2.out).mono ?_; rintro e w' ⟨rfl, rfl⟩) | (go_at_call 21; refine (HL.out _).mono ?_; rintro e w' ⟨rfl, rfl⟩) | (go_at_call 22; refine (HUp.out _ B2.out).mono ?_; rintro e w3 ⟨rfl, hb⟩; have B3 := Lib.hid (B2.out.trans (hb.mono B2.out.size)); clear hb) | (go_at_call 9; refine (HP.out.alive _ B3.out).mono ?_; rintro e w4 ⟨rfl, hb⟩; have B4 := Lib.hid (B3.out.trans (hb.mono B3.out.size)); clear hb))
    go_ret
    exact ⟨rfl, B4.out⟩
end
theorem walk (n i : Int) (x : ByteArray) (a : Option Addr) (len cap : Nat) (z : List ByteArray) (r : ByteArray) (w : World) (w0 : (Lit.int .i64 n).wf = true) (w1 : (Lit.int .i64 i).wf = true) (w2 : x.size ≤ maxLen) (w3 : StrsAt w a len cap z) (w4 : r.size ≤ maxLen) (hr : Rds w) :
    Calls Tryd.prog 4 #[.int .i64 n, .int .i64 i, .string x, .slice a len cap, .string r] w fun e w' => e = .returned (.bool true) ∧ Below w.heap.size w w' := by
  have hcap : len ≤ cap := by
    rcases w3 with ⟨_, h1, h2, _⟩ | ⟨_, _, h1, _⟩
    · omega
    · exact h1
  obtain ⟨ls, hs, hl, hn⟩ := strs_at w3
  unfold maxLen at hl hn
  by_cases hf : fewB ls = false ∨ (1000 : Int) < (x.data.toList.length : Int)
  · exact out n i x.data.toList a len cap ls r.data.toList w hs hn hr hf
  · have hf1 : fewB ls = true := by
      cases h : fewB ls with
      | true => rfl
      | false => exact absurd (.inl h) hf
    have hx1 : x.data.toList.length ≤ 1000 := by
      by_cases h : (1000 : Int) < (x.data.toList.length : Int)
      · exact absurd (.inr h) hf
      · omega
    obtain rfl := hs.1
    cases hm : mayBe n i with
    | false => exact arg n i x.data.toList a cap ls r.data.toList w hs hr hf1 hx1 hl hm
    | true =>
      have hm' := hm
      unfold mayBe at hm'
      rw [Bool.and_eq_true, decide_eq_true_eq, decide_eq_true_eq] at hm'
      obtain ⟨k, rfl⟩ : ∃ k : Nat, n = (k : Int) := ⟨n.toNat, by omega⟩
      obtain ⟨j, rfl⟩ : ∃ j : Nat, i = (j : Int) := ⟨i.toNat, by omega⟩
      cases hft : fitB k j x.data.toList ls with
      | false => exact unfit k j (by omega) (by omega) x.data.toList a cap ls r.data.toList w hs hr hf1 hx1 hl hft
      | true => exact fit k j (by omega) (by omega) x.data.toList a cap ls r.data.toList w hs hr hf1 hx1 hl hcap hft
theorem own : ownKnob Tryd.prog.godebug = none := by kernel_rfl
theorem laidOut : laidOutB Tryd.prog = true := by kernel_rfl
set_option maxRecDepth 100000 in
theorem lifted (os : Os) (started : os.Started) (H : Type) (enc : TypeId × Value → H) :
    ReturnsInHanded {} Tryd.checked os 4 .any (fun w args => (Rows.merkleUpsSpec.pre enc Tryd.prog Tryd.f4 Rows.merkleUpsRow.domain false w args ∧ laidMetH Tryd.prog Rows.merkleUpsRow.laid w) ∧ sizedMet enc Tryd.prog Tryd.f4 (OpenSpec.ofChange Rows.merkleUpsSpec) false w args) (Rows.merkleUpsSpec.post enc Tryd.prog Tryd.f4 false true false false) := by
  refine returnsInHanded_of_change_and (C := Tryd.checked) (X := fun w _ => laidMetH Tryd.prog Rows.merkleUpsRow.laid w) (fun _ _ _ hh h => h.of_heap hh) own started (by kernel_rfl) Tryd.func4
    (ChangeSpec.witness_shaped (enc := enc) (C := Tryd.checked) (os := os) (X := fun w _ => laidMetH Tryd.prog Rows.merkleUpsRow.laid w) false (World.doorLaid Tryd.prog 400 os) #[.int .i64 0, .int .i64 0, .string ByteArray.empty, .slice none 0 0, .string ByteArray.empty] 8 rfl (World.shaped_of_RefB (by kernel_rfl) (by kernel_rfl)) (by kernel_rfl) (by kernel_rfl) (by kernel_rfl) (SLaid.door_met os _)) ?_
  intro W base args ds gs before hval0 hW _ _ hL _
  have hr := SLaid.of_laid hL
  have hval : ∀ (j : Nat) t v, Tryd.f4.params[j]? = some t → args[j]? = some v → Value.okWide Tryd.prog W .any base t v := hval0
  have hW' := hW
  obtain ⟨p, q, hA0, hV, rfl, hfz, hnd⟩ := hW
  have hA : DataW.TrodAll enc Tryd.prog W 0 (fun _ => true) true Tryd.f4.params.toList args.toList ds p := hA0
  rw [Tryd.params4] at hA hval
  obtain ⟨v0, vs0, d0, ds0, p0, q0, hargs, rfl, rfl, h0, r0⟩ := trodAll_cons hA
  obtain ⟨v1, vs1, d1, ds1, p1, q1, rfl, rfl, rfl, h1, r1⟩ := trodAll_cons r0
  obtain ⟨v2, vs2, d2, ds2, p2, q2, rfl, rfl, rfl, h2, r2⟩ := trodAll_cons r1
  obtain ⟨v3, vs3, d3, ds3, p3, q3, rfl, rfl, rfl, h3, r3⟩ := trodAll_cons r2
  obtain ⟨v4, vs4, d4, ds4, p4, q4, rfl, rfl, rfl, h4, r4⟩ := trodAll_cons r3
  obtain ⟨rfl, rfl, rfl⟩ := trodAll_nil r4
  obtain rfl : args = #[v0, v1, v2, v3, v4] := by cases args; simp_all
  obtain ⟨rfl, rfl⟩ := trodVars_none hV
  obtain ⟨a0, rfl, rfl, rfl, w0⟩ := open_int Tryd.underlying3 (hval 0 3 v0 rfl rfl) h0
  obtain ⟨a1, rfl, rfl, rfl, w1⟩ := open_int Tryd.underlying3 (hval 1 3 v1 rfl rfl) h1
  obtain ⟨a2, rfl, rfl, rfl, w2⟩ := open_string Tryd.underlying9 (hval 2 9 v2 rfl rfl) h2
  obtain ⟨a3, len3, cap3, rfl⟩ := okWide_slice Tryd.underlying22 (hval 3 22 v3 rfl rfl)
  have k3 := h3
  have lt3 : ∀ x ∈ p3, x.block < W.heap.size := by obtain ⟨m, hm⟩ := k3; exact DataW.trod_lt m _ _ _ hm
  obtain ⟨z3, w3⟩ : ∃ zs, StrsAt W a3 len3 cap3 zs := by
    obtain ⟨fuel, hf⟩ := h3
    rcases open_strings Tryd.underlying22 Tryd.underlying9 (by kernel_rfl) hf with ⟨hcs, _⟩ | ⟨x, l, c, zs, hcs, _, hl, hm, hz, _, hcell, hwz⟩
    · simp [Value.cells] at hcs
      obtain ⟨rfl, rfl, rfl⟩ := hcs
      exact ⟨[], .inl ⟨rfl, rfl, rfl, rfl⟩⟩
    · simp [Value.cells] at hcs
      obtain ⟨rfl, rfl, rfl⟩ := hcs
      exact ⟨zs, .inr ⟨_, rfl, hl, hm, by simpa using hz, hcell, hwz⟩⟩
  obtain ⟨a4, rfl, rfl, rfl, w4⟩ := open_string Tryd.underlying9 (hval 4 9 v4 rfl rfl) h4
  clear hA0 hval0
  refine (walk a0 a1 a2 a3 len3 cap3 z3 a4 W w0 w1 w2 w3 w4 hr).mono fun e W' ⟨he, bel⟩ => ?_
  subst he
  exact ⟨_, rfl, _, _, _, [], _, [], hW', trodAll_mk1 (shut_bool Tryd.underlying4 _), (trodAll_cons_mk (shut_int Tryd.underlying3 w0) (trodAll_cons_mk (shut_int Tryd.underlying3 w1) (trodAll_cons_mk (shut_string Tryd.underlying9 w2) (trodAll_cons_mk (Below.trod laidOut (by kernel_rfl) (of_decide_eq_true (by kernel_rfl)) k3 bel lt3) (trodAll_cons_mk (shut_string Tryd.underlying9 w4) trodAll_mk0))))), rfl, bel.frame _, fun h => by cases h⟩
theorem over : Rows.merkleUpsRow.holds Tryd.pinned (OpenSpec.ofChange Rows.merkleUpsSpec) :=
  OpenClaim.holds_of_wide 4 Tryd.f4 rfl rfl rfl rfl rfl rfl rfl ⟨rfl, rfl, rfl, rfl, rfl⟩ rfl rfl rfl rfl rfl (by kernel_rfl) Tryd.func4 (by kernel_rfl)
    (of_decide_eq_true (by kernel_rfl)) (by unfold Func.isWrapper; first | (rw [if_pos (by decide +kernel)]; kernel_rfl) | (rw [if_neg (by decide +kernel)]; exact ⟨rfl, rfl⟩))
    (fun os started H enc _ => lifted os started H enc)
/-- THE STATEMENT, proved. -/
theorem proved : Rows.MerkleUpsCardSaid :=
  Claim7.holds_tied_plain_at .later [] _ true _ false
    over (fun _ h => by cases h) (by kernel_rfl) (fun _ h => by cases h) merkleUps_row_tie rfl ⟨rfl, rfl⟩ (by kernel_rfl) rfl
    (fun f fn hf hfn => by
      obtain rfl : f = 4 := Option.some.inj ((show Tryd.prog.funcNamed "keepsake/keepsakelaw15.MerkleUps" = some 4 by kernel_rfl).symm.trans hf) |>.symm
      obtain rfl : fn = Tryd.f4 := (Option.some.inj (Tryd.func4.symm.trans hfn)).symm
      exact ⟨by kernel_rfl, fun j t ht => by
        rw [Tryd.params4] at ht
        have hm : t ∈ [3, 3, 9, 22, 9] := by simpa using Array.mem_of_getElem? ht
        have hall : ([3, 3, 9, 22, 9].all fun u => !Tryd.prog.wantsStandIn u) = true := by kernel_rfl
        exact (show Tryd.prog.wantsStandIn t = false by simpa using List.all_eq_true.1 hall t hm)⟩)
    (by kernel_rfl)
#print axioms proved
end Go.Proofs.YtfjlpialblllgaaDoor.merkleUps
