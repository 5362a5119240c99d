/- MerkleRoots: at any leaves (at most 70 texts, of at most 5,000 bytes together), any number and any two texts (of at most 1,000 bytes; else: the chapter's example alone, as the statement has it): the leaves' root, a leaf's path, a leaf's and a node's hash, or that there are none, are as the document says, which makes the tree by halves from above. The condition: the rounds' numbers lie in the program's variable (the card ties it to the program's text). -/
import Derived.Test.YtfjlpialblllgaaDoorMerW
import Derived.Test.YtfjlpialblllgaaDoorMerJ
import Derived.Test.YtfjlpialblllgaaDoorMerT
import Derived.SliceStrings
import Derived.Test.YtfjlpialblllgaaDoorRows
import Derived.Test.YtfjlpialblllgaaDoorTie
import Derived.Test.YtfjlpialblllgaaDoorCards
import Derived.Test.YtfjlpialblllgaaDoorSLaid
import Derived.WalkKit
import Derived.ProofKit
import Derived.OpenShut
import Derived.ShutString
import Derived.ChangeOld
import Derived.Below
import Derived.LaidMore
import Derived.SevenTiedAt
import Derived.Stop.Joined
namespace Go.Proofs.YtfjlpialblllgaaDoor.merkleRoots
open Go.ChangeShapes Go.WideShapes Go.ChangeAt Go.RowKit
open Go.ChangeMaps (open_string shut_string)
set_option linter.unusedVariables false
open STurn SSum MerQ MerN MerM MerC MerR MerU MerV MerX MerZ MerW
/-- What the statement calls, at texts that are gone through. -/
structure Pre (ls : List L) (a : Option Addr) (c : Nat) (i : Int) (s t : L) (w : World) : Prop where
  few : Calls Tryd.prog 8 #[.slice a ls.length c] w fun e w' => e = .returned (.bool true) ∧ w = w'
  root : Calls Tryd.prog 10 #[.slice a ls.length c] w fun e w' => e = .returned (.tuple #[str (rootR ls).1, .int .i64 ((rootR ls).2 : Nat)]) ∧ Below w.heap.size w w'
  path : ∀ W, Below w.heap.size w W → Calls Tryd.prog 11 #[.slice a ls.length c, .int .i64 i] W (PathAns W ls i)
  leaf : ∀ W, Below w.heap.size w W → Calls Tryd.prog 12 #[str s] W fun e w' => e = .returned (str (sum (0 :: s))) ∧ Below W.heap.size W w'
  sum1 : ∀ W, Below w.heap.size w W → Calls Tryd.prog 13 #[.slice (some ⟨W.heap.size, 0, none⟩) 1 1] (W.alloc (.cells #[str (0 :: s)] 9)) fun e w' => e = .returned (str (sum (0 :: s))) ∧ Below W.heap.size W w'
  node : ∀ W, Below w.heap.size w W → Calls Tryd.prog 14 #[str s, str t] W fun e w' => e = .returned (str (nd s t)) ∧ Below W.heap.size W w'
  sum2 : ∀ W, Below w.heap.size w W → Calls Tryd.prog 13 #[.slice (some ⟨W.heap.size, 0, none⟩) 1 1] (W.alloc (.cells #[str (1 :: (s ++ t))] 9)) fun e w' => e = .returned (str (nd s t)) ∧ Below W.heap.size W w'
  whole : ∀ W, Below w.heap.size w W → Calls Tryd.prog 15 #[.slice a ls.length c] W fun e w' => e = .returned (.bool (all32 ls)) ∧ W = w'
  alive : ∀ W, Below w.heap.size w W → Calls Tryd.prog 9 #[] W fun e w' => e = .returned (.bool true) ∧ Below W.heap.size W w'
section
variable (i : Int) (s t : L) (a : Option Addr) (n c : Nat) (ls : List L) (w : World) (h : Strs w w.heap.size a n ls) (hn : n ≤ 9223372036854775807) (hr : Rds w)
include h hn hr
theorem out (hf : fewB ls = false ∨ (1000 : Int) < (s.length : Int) ∨ (1000 : Int) < (t.length : Int)) :
    Calls Tryd.prog 3 #[.slice a n c, .int .i64 i, str s, str t] w fun e w' => e = .returned (.bool true) ∧ Below w.heap.size w w' := by
  have F1 := Lib.hid (few a n c ls w h hn)
  have HA := Lib.hid (alive w hr)
  cases hb : fewB ls with
  | false =>
    rw [hb] at F1
    clear h hr hf hn hb
    go_enter Tryd.func3, Tryd.ntmps3
    go_wp2_with (first | (go_at_call 8; refine F1.out.mono ?_; rintro e w' ⟨rfl, rfl⟩) | (go_at_call 9; refine HA.out.mono ?_; rintro e w' ⟨rfl, hb⟩; have HB := Lib.hid hb; clear hb))
    go_ret
    exact ⟨rfl, HB.out⟩
  | true =>
    rw [hb] at F1 hf
    have hf := hf.resolve_left (by simp)
    clear h hr hn hb
    by_cases h1 : (1000 : Int) < (s.length : Int)
    · clear hf
      go_enter Tryd.func3, Tryd.ntmps3
      go_wp2_with (first | (go_at_call 8; refine F1.out.mono ?_; rintro e w' ⟨rfl, rfl⟩) | (go_at_call 9; refine HA.out.mono ?_; rintro e w' ⟨rfl, hb⟩; have HB := Lib.hid hb; clear hb))
      go_ret
      exact ⟨rfl, HB.out⟩
    · have h2 := hf.resolve_left h1
      clear hf
      go_enter Tryd.func3, Tryd.ntmps3
      go_wp2_with (first | (go_at_call 8; refine F1.out.mono ?_; rintro e w' ⟨rfl, rfl⟩) | (go_at_call 9; refine HA.out.mono ?_; rintro e w' ⟨rfl, hb⟩; have HB := Lib.hid hb; clear hb))
      go_ret
      exact ⟨rfl, HB.out⟩
end
theorem cat2 (a b c : L) (h : a ++ b = c) : ((⟨a.toArray⟩ ++ ⟨b.toArray⟩ : ByteArray)) = ⟨c.toArray⟩ := by
  rw [← h]
  apply ByteArray.ext
  simp
section
variable (i : Int) (s t : L) (a : Option Addr) (c : Nat) (ls : List L) (w : World) (h : Strs w w.heap.size a ls.length ls) (hr : Rds w) (hf : fewB ls = true) (hs : s.length ≤ 1000) (ht : t.length ≤ 1000) (hl : ∀ l ∈ ls, l.length ≤ 9223372036854775807)
include h hr hf hs ht hl
theorem pre : Pre ls a c i s t w := by
  have h70 := few_len hf
  refine ⟨?_, Root a ls.length c ls w h (by omega) hl hr, fun W hb => Path a c ls i W ((h.below hb).more hb.size) (by omega) hl (hr.step hb), fun W hb => Leaf s (by omega) W (hr.step hb), fun W hb => summed_one _ (by simp; omega) W (hr.step hb), fun W hb => MerC.Node s t (by omega) (by omega) W (hr.step hb),
    fun W hb => summed_one _ (by simp; omega) W (hr.step hb), fun W hb => MerH.Whole a ls.length c ls W ((h.below hb).more hb.size) (by omega) hl, fun W hb => MerZ.alive W (hr.step hb)⟩
  have := few a ls.length c ls w h (by omega)
  rwa [hf] at this
set_option maxRecDepth 100000 in
set_option maxHeartbeats 4000000 in
theorem unwhole (hno : all32 ls = false) :
    Calls Tryd.prog 3 #[.slice a ls.length c, .int .i64 i, str s, str t] w fun e w' => e = .returned (.bool true) ∧ Below w.heap.size w w' := by
  have HP := Lib.hid (pre i s t a c ls w h hr hf hs ht hl)
  have HRo := Lib.hid HP.out.root
  simp only [rootR, hno, Bool.false_eq_true, if_false] at HRo
  have HPa := Lib.hid (fun W hb => (HP.out.path W hb).mono (R' := fun e w' => e = .returned (.tuple #[.slice none 0 0, .int .i64 2]) ∧ W = w') (fun e w' hp => by unfold PathAns at hp; rwa [if_neg (by rw [hno]; simp)] at hp))
  have HWh := Lib.hid HP.out.whole
  rw [hno] at HWh
  have HLf := Lib.hid HP.out.leaf
  have HNo := Lib.hid HP.out.node
  have HS1 := Lib.hid HP.out.sum1
  have HS2 := Lib.hid HP.out.sum2
  obtain ⟨v1, hv1⟩ : ∃ v, 0 :: s = v := ⟨_, rfl⟩
  obtain ⟨v2, hv2⟩ : ∃ v, 1 :: (s ++ t) = v := ⟨_, rfl⟩
  have e1 := cat2 [0] s v1 hv1
  have e2 : ((⟨#[1]⟩ ++ ⟨s.toArray⟩ ++ ⟨t.toArray⟩ : ByteArray)) = ⟨v2.toArray⟩ := by
    rw [show (⟨#[1]⟩ : ByteArray) = ⟨[1].toArray⟩ from rfl, cat2 [1] s (1 :: s) rfl]
    exact cat2 _ _ _ (by rw [← hv2]; rfl)
  rw [show (⟨[0].toArray⟩ : ByteArray) = ⟨#[0]⟩ from rfl] at e1
  rw [hv1] at HLf HS1
  rw [hv2] at HS2
  generalize nd s t = y2 at *
  generalize sum v1 = y1 at *
  have b1 : (y1 == y1) = true := beq_self_eq_true _
  have b2 : (y2 == y2) = true := beq_self_eq_true _
  have q1 : ¬ (1000 : Int) < (s.length : Int) := by omega
  have q2 : ¬ (1000 : Int) < (t.length : Int) := by omega
  have q3 : s.length ≤ 1000 := hs
  have q4 : t.length ≤ 1000 := ht
  have G1 : Hid True := Lib.hid trivial
  clear h hr hf hs ht hl hno hv1 hv2
  go_enter Tryd.func3, Tryd.ntmps3
  go_wp2_with (first
    | (go_at_call 8; refine HP.out.few.mono ?_; rintro e w' ⟨rfl, rfl⟩)
    | (go_at_call 10; refine HRo.out.mono ?_; rintro e w1 ⟨rfl, hb⟩; have B1 := Lib.hid hb; clear hb)
    | (go_at_call 11; refine (HPa.out _ B1.out).mono ?_; rintro e w' ⟨rfl, rfl⟩)
    | (go_at_call 12; refine (HLf.out _ B1.out).mono ?_; rintro e w2 ⟨rfl, hb⟩; have B2 := Lib.hid (B1.out.trans (hb.mono B1.out.size)); clear hb)
    | (clear G1; go_at_call 13; refine (HS1.out _ B2.out).mono ?_; rintro e w3 ⟨rfl, hb⟩; have B3 := Lib.hid (B2.out.trans (hb.mono B2.out.size)); clear hb)
    | (go_at_call 14; refine (HNo.out _ B3.out).mono ?_; rintro e w4 ⟨rfl, hb⟩; have B4 := Lib.hid (B3.out.trans (hb.mono B3.out.size)); clear hb)
    | (go_at_call 13; refine (HS2.out _ B4.out).mono ?_; rintro e w5 ⟨rfl, hb⟩; have B5 := Lib.hid (B4.out.trans (hb.mono B4.out.size)); clear hb)
    | (go_at_call 15; refine (HWh.out _ B5.out).mono ?_; rintro e w' ⟨rfl, rfl⟩)
    | (go_at_call 9; refine (HP.out.alive _ B5.out).mono ?_; rintro e w6 ⟨rfl, hb⟩; have B6 := Lib.hid (B5.out.trans (hb.mono B5.out.size)); clear hb))
  go_ret
  exact ⟨rfl, B6.out⟩
set_option maxRecDepth 100000 in
set_option maxHeartbeats 4000000 in
theorem beyond (hyes : all32 ls = true) (hcn : ls.length ≤ c) (hno : ¬ (0 ≤ i ∧ i < (ls.length : Int))) :
    Calls Tryd.prog 3 #[.slice a ls.length c, .int .i64 i, str s, str t] w fun e w' => e = .returned (.bool true) ∧ Below w.heap.size w w' := by
  have h70 := few_len hf
  have HP := Lib.hid (pre i s t a c ls w h hr hf hs ht hl)
  have HRo := Lib.hid HP.out.root
  simp only [rootR, hyes, if_true] at HRo
  have HPa := Lib.hid (fun W hb => (HP.out.path W hb).mono (R' := fun e w' => e = .returned (.tuple #[.slice none 0 0, .int .i64 2]) ∧ W = w') (fun e w' hp => by unfold PathAns at hp; rwa [if_neg (by rw [hyes, decide_eq_false hno]; simp)] at hp))
  have HWh := Lib.hid HP.out.whole
  rw [hyes] at HWh
  have HRR := Lib.hid (fun W (hb : Below w.heap.size w W) => MerI.Root ls.length a c ls W rfl hcn (by omega) ((h.below hb).more hb.size) (all32_at hyes))
  have HLf := Lib.hid HP.out.leaf
  have HNo := Lib.hid HP.out.node
  have HS1 := Lib.hid HP.out.sum1
  have HS2 := Lib.hid HP.out.sum2
  obtain ⟨v1, hv1⟩ : ∃ v, 0 :: s = v := ⟨_, rfl⟩
  obtain ⟨v2, hv2⟩ : ∃ v, 1 :: (s ++ t) = v := ⟨_, rfl⟩
  have e1 := cat2 [0] s v1 hv1
  have e2 : ((⟨#[1]⟩ ++ ⟨s.toArray⟩ ++ ⟨t.toArray⟩ : ByteArray)) = ⟨v2.toArray⟩ := by
    rw [show (⟨#[1]⟩ : ByteArray) = ⟨[1].toArray⟩ from rfl, cat2 [1] s (1 :: s) rfl]
    exact cat2 _ _ _ (by rw [← hv2]; rfl)
  rw [show (⟨[0].toArray⟩ : ByteArray) = ⟨#[0]⟩ from rfl] at e1
  rw [hv1] at HLf HS1
  rw [hv2] at HS2
  generalize nd s t = y2 at *
  generalize sum v1 = y1 at *
  generalize MerN.root nd (sum []) ls = y3 at *
  have b1 : (y1 == y1) = true := beq_self_eq_true _
  have b2 : (y2 == y2) = true := beq_self_eq_true _
  have b3 : (y3 == y3) = true := beq_self_eq_true _
  have q1 : ¬ (1000 : Int) < (s.length : Int) := by omega
  have q2 : ¬ (1000 : Int) < (t.length : Int) := by omega
  have q3 : s.length ≤ 1000 := hs
  have q4 : t.length ≤ 1000 := ht
  have G1 : Hid True := Lib.hid trivial
  clear h hr hf hs ht hl hyes hv1 hv2 hcn h70
  by_cases h0 : i < 0
  · clear hno
    go_enter Tryd.func3, Tryd.ntmps3
    go_wp2_with (first
      | (go_at_call 8; refine HP.out.few.mono ?_; rintro e w' ⟨rfl, rfl⟩)
      | (go_at_call 10; refine HRo.out.mono ?_; rintro e w1 ⟨rfl, hb⟩; have B1 := Lib.hid hb; clear hb)
      | (go_at_call 11; refine (HPa.out _ B1.out).mono ?_; rintro e w' ⟨rfl, rfl⟩)
      | (go_at_call 12; refine (HLf.out _ B1.out).mono ?_; rintro e w2 ⟨rfl, hb⟩; have B2 := Lib.hid (B1.out.trans (hb.mono B1.out.size)); clear hb)
      | (clear G1; go_at_call 13; refine (HS1.out _ B2.out).mono ?_; rintro e w3 ⟨rfl, hb⟩; have B3 := Lib.hid (B2.out.trans (hb.mono B2.out.size)); clear hb)
      | (go_at_call 14; refine (HNo.out _ B3.out).mono ?_; rintro e w4 ⟨rfl, hb⟩; have B4 := Lib.hid (B3.out.trans (hb.mono B3.out.size)); clear hb)
      | (go_at_call 13; refine (HS2.out _ B4.out).mono ?_; rintro e w5 ⟨rfl, hb⟩; have B5 := Lib.hid (B4.out.trans (hb.mono B4.out.size)); clear hb)
      | (go_at_call 15; refine (HWh.out _ B5.out).mono ?_; rintro e w' ⟨rfl, rfl⟩)
      | (go_at_call 16; refine (HRR.out _ B5.out).mono ?_; rintro e w6 ⟨rfl, hb⟩; have B6 := Lib.hid (B5.out.trans (hb.mono B5.out.size)); clear hb)
      | (go_at_call 9; refine (HP.out.alive _ B6.out).mono ?_; rintro e w7 ⟨rfl, hb⟩; have B7 := Lib.hid (B6.out.trans (hb.mono B6.out.size)); clear hb))
    go_ret
    exact ⟨rfl, B7.out⟩
  · have h1 : (ls.length : Int) ≤ i := by omega
    clear hno
    go_enter Tryd.func3, Tryd.ntmps3
    go_wp2_with (first
      | (go_at_call 8; refine HP.out.few.mono ?_; rintro e w' ⟨rfl, rfl⟩)
      | (go_at_call 10; refine HRo.out.mono ?_; rintro e w1 ⟨rfl, hb⟩; have B1 := Lib.hid hb; clear hb)
      | (go_at_call 11; refine (HPa.out _ B1.out).mono ?_; rintro e w' ⟨rfl, rfl⟩)
      | (go_at_call 12; refine (HLf.out _ B1.out).mono ?_; rintro e w2 ⟨rfl, hb⟩; have B2 := Lib.hid (B1.out.trans (hb.mono B1.out.size)); clear hb)
      | (clear G1; go_at_call 13; refine (HS1.out _ B2.out).mono ?_; rintro e w3 ⟨rfl, hb⟩; have B3 := Lib.hid (B2.out.trans (hb.mono B2.out.size)); clear hb)
      | (go_at_call 14; refine (HNo.out _ B3.out).mono ?_; rintro e w4 ⟨rfl, hb⟩; have B4 := Lib.hid (B3.out.trans (hb.mono B3.out.size)); clear hb)
      | (go_at_call 13; refine (HS2.out _ B4.out).mono ?_; rintro e w5 ⟨rfl, hb⟩; have B5 := Lib.hid (B4.out.trans (hb.mono B4.out.size)); clear hb)
      | (go_at_call 15; refine (HWh.out _ B5.out).mono ?_; rintro e w' ⟨rfl, rfl⟩)
      | (go_at_call 16; refine (HRR.out _ B5.out).mono ?_; rintro e w6 ⟨rfl, hb⟩; have B6 := Lib.hid (B5.out.trans (hb.mono B5.out.size)); clear hb)
      | (go_at_call 9; refine (HP.out.alive _ B6.out).mono ?_; rintro e w7 ⟨rfl, hb⟩; have B7 := Lib.hid (B6.out.trans (hb.mono B6.out.size)); clear hb))
    go_ret
    exact ⟨rfl, B7.out⟩
end
theorem below_drewN {w W : World} {n₀ : Nat} (h : Below n₀ w W) (k : Nat) : Below n₀ w (W.drewN k) := ⟨h.os, h.tape, h.output, h.size, h.block⟩
set_option maxRecDepth 100000 in
set_option maxHeartbeats 4000000 in
theorem within (k : Nat) (s t : L) (a : Option Addr) (c : Nat) (ls : List L) (w : World) (h : Strs w w.heap.size a ls.length ls) (hr : Rds w) (hf : fewB ls = true) (hs : s.length ≤ 1000) (ht : t.length ≤ 1000) (hl : ∀ l ∈ ls, l.length ≤ 9223372036854775807) (hyes : all32 ls = true) (hcn : ls.length ≤ c) (hk : k < ls.length) :
    Calls Tryd.prog 3 #[.slice a ls.length c, .int .i64 (k : Int), str s, str t] w fun e w' => e = .returned (.bool true) ∧ Below w.heap.size w w' := by
  have h70 := few_len hf
  have HP := Lib.hid (pre (k : Int) s t a c ls w h hr hf hs ht hl)
  have HRo := Lib.hid HP.out.root
  simp only [rootR, hyes, if_true] at HRo
  have HPa := Lib.hid (fun W hb => (HP.out.path W hb).mono (R' := PathOk W (pathN nd ls k)) (fun e w' hp => by
    unfold PathAns at hp
    rw [if_pos (by rw [hyes, Bool.true_and, decide_eq_true_eq]; omega)] at hp
    exact hp))
  have HWh := Lib.hid HP.out.whole
  rw [hyes] at HWh
  have HRR := Lib.hid (fun W (hb : Below w.heap.size w W) => MerI.Root ls.length a c ls W rfl hcn (by omega) ((h.below hb).more hb.size) (all32_at hyes))
  have HRP := Lib.hid (fun W (hb : Below w.heap.size w W) => MerJ.Path ls.length a c ls k W rfl hcn (by omega) hk ((h.below hb).more hb.size) (all32_at hyes))
  have hpn : (pathN nd ls k).length ≤ 1000000 := by rw [pathN_length nd hk]; exact Nat.le_trans (long_le _ _ _) (by omega)
  have HTx := Lib.hid (fun a1 c1 a2 c2 W (h1 : Strs W W.heap.size a1 (pathN nd ls k).length (pathN nd ls k)) (h2 : Strs W W.heap.size a2 (pathN nd ls k).length (pathN nd ls k)) => (MerT.Texts a1 a2 _ _ c1 c2 _ _ W h1 h2 hpn hpn).mono (R' := fun e w' => e = .returned (.bool true) ∧ ∃ k, w' = W.drewN k) (fun e w' hp => by rwa [decide_eq_true rfl] at hp))
  have HLf := Lib.hid HP.out.leaf
  have HNo := Lib.hid HP.out.node
  have HS1 := Lib.hid HP.out.sum1
  have HS2 := Lib.hid HP.out.sum2
  obtain ⟨v1, hv1⟩ : ∃ v, 0 :: s = v := ⟨_, rfl⟩
  obtain ⟨v2, hv2⟩ : ∃ v, 1 :: (s ++ t) = v := ⟨_, rfl⟩
  have e1 := cat2 [0] s v1 hv1
  have e2 : ((⟨#[1]⟩ ++ ⟨s.toArray⟩ ++ ⟨t.toArray⟩ : ByteArray)) = ⟨v2.toArray⟩ := by
    rw [show (⟨#[1]⟩ : ByteArray) = ⟨[1].toArray⟩ from rfl, cat2 [1] s (1 :: s) rfl]
    exact cat2 _ _ _ (by rw [← hv2]; rfl)
  rw [show (⟨[0].toArray⟩ : ByteArray) = ⟨#[0]⟩ from rfl] at e1
  rw [hv1] at HLf HS1
  rw [hv2] at HS2
  generalize nd s t = y2 at *
  generalize sum v1 = y1 at *
  generalize MerN.root nd (sum []) ls = y3 at *
  generalize pathN nd ls k = ps at *
  have b1 : (y1 == y1) = true := beq_self_eq_true _
  have b2 : (y2 == y2) = true := beq_self_eq_true _
  have b3 : (y3 == y3) = true := beq_self_eq_true _
  have q1 : ¬ (1000 : Int) < (s.length : Int) := by omega
  have q2 : ¬ (1000 : Int) < (t.length : Int) := by omega
  have q3 : s.length ≤ 1000 := hs
  have q4 : t.length ≤ 1000 := ht
  have q5 : ¬ (k : Int) < 0 := by omega
  have q6 : ¬ (ls.length : Int) ≤ (k : Int) := by omega
  have G1 : Hid True := Lib.hid trivial
  clear h hr hf hs ht hl hyes hv1 hv2 hcn h70 hk hpn
  go_enter Tryd.func3, Tryd.ntmps3
  go_wp2_with (first
    | (go_at_call 8; refine HP.out.few.mono ?_; rintro e w' ⟨rfl, rfl⟩)
    | (go_at_call 10; refine HRo.out.mono ?_; rintro e w1 ⟨rfl, hb⟩; have B1 := Lib.hid hb; clear hb)
    | (go_at_call 11; refine (HPa.out _ B1.out).mono ?_; rintro e w9 ⟨a9, c9, rfl, hs9, hb⟩; have B9 := Lib.hid (B1.out.trans (hb.mono B1.out.size)); have HS9 := Lib.hid hs9; clear hb hs9)
    | (go_at_call 12; refine (HLf.out _ B9.out).mono ?_; rintro e w2 ⟨rfl, hb⟩; have B2 := Lib.hid (B9.out.trans (hb.mono B9.out.size)); have C2 := Lib.hid hb; clear hb)
    | (clear G1; go_at_call 13; refine (HS1.out _ B2.out).mono ?_; rintro e w3 ⟨rfl, hb⟩; have B3 := Lib.hid (B2.out.trans (hb.mono B2.out.size)); have C3 := Lib.hid (C2.out.trans (hb.mono C2.out.size)); clear hb)
    | (go_at_call 14; refine (HNo.out _ B3.out).mono ?_; rintro e w4 ⟨rfl, hb⟩; have B4 := Lib.hid (B3.out.trans (hb.mono B3.out.size)); have C4 := Lib.hid (C3.out.trans (hb.mono C3.out.size)); clear hb)
    | (go_at_call 13; refine (HS2.out _ B4.out).mono ?_; rintro e w5 ⟨rfl, hb⟩; have B5 := Lib.hid (B4.out.trans (hb.mono B4.out.size)); have C5 := Lib.hid (C4.out.trans (hb.mono C4.out.size)); clear hb)
    | (go_at_call 15; refine (HWh.out _ B5.out).mono ?_; rintro e w' ⟨rfl, rfl⟩)
    | (go_at_call 16; refine (HRR.out _ B5.out).mono ?_; rintro e w6 ⟨rfl, hb⟩; have B6 := Lib.hid (B5.out.trans (hb.mono B5.out.size)); have C6 := Lib.hid (C5.out.trans (hb.mono C5.out.size)); clear hb)
    | (go_at_call 18; refine (HRP.out _ B6.out).mono ?_; rintro e w7 ⟨a7, c7, rfl, ho7, hb⟩; have B7 := Lib.hid (B6.out.trans (hb.mono B6.out.size)); have HS7 := Lib.hid (own_strs ho7); have C7 := Lib.hid (C6.out.trans (hb.mono C6.out.size)); have HT7 := Lib.hid ((HS9.out.below C7.out).more C7.out.size); clear hb ho7)
    | (go_at_call 17; refine (HTx.out _ _ _ _ _ HT7.out HS7.out).mono ?_; rintro e w8 ⟨rfl, jj, rfl⟩; have B8 := Lib.hid (below_drewN B7.out jj))
    | (go_at_call 9; refine (HP.out.alive _ B8.out).mono ?_; rintro e w10 ⟨rfl, hb⟩; have B10 := Lib.hid (B8.out.trans (hb.mono B8.out.size)); clear hb))
  go_ret
  exact ⟨rfl, B10.out⟩
theorem walk (a : Option Addr) (len cap : Nat) (z : List ByteArray) (i : Int) (s t : ByteArray) (w : World) (w0 : StrsAt w a len cap z) (w1 : (Lit.int .i64 i).wf = true) (w2 : s.size ≤ maxLen) (w3 : t.size ≤ maxLen) (hr : Rds w) :
    Calls Tryd.prog 3 #[.slice a len cap, .int .i64 i, .string s, .string t] w fun e w' => e = .returned (.bool true) ∧ Below w.heap.size w w' := by
  have hcap : len ≤ cap := by
    rcases w0 with ⟨_, h1, h2, _⟩ | ⟨_, _, h1, _⟩
    · omega
    · exact h1
  obtain ⟨ls, hs, hl, hn⟩ := strs_at w0
  unfold maxLen at hl hn
  by_cases hf : fewB ls = false ∨ (1000 : Int) < (s.data.toList.length : Int) ∨ (1000 : Int) < (t.data.toList.length : Int)
  · exact out i s.data.toList t.data.toList a len cap ls w hs hn hr hf
  · have hf1 : fewB ls = true := by
      cases h : fewB ls with
      | true => rfl
      | false => exact absurd (.inl h) hf
    have hs1 : s.data.toList.length ≤ 1000 := by
      by_cases h : (1000 : Int) < (s.data.toList.length : Int)
      · exact absurd (.inr (.inl h)) hf
      · omega
    have ht1 : t.data.toList.length ≤ 1000 := by
      by_cases h : (1000 : Int) < (t.data.toList.length : Int)
      · exact absurd (.inr (.inr h)) hf
      · omega
    obtain rfl := hs.1
    cases hw : all32 ls with
    | false => exact unwhole i s.data.toList t.data.toList a cap ls w hs hr hf1 hs1 ht1 hl hw
    | true =>
      by_cases hi : 0 ≤ i ∧ i < (ls.length : Int)
      · obtain ⟨k, rfl⟩ : ∃ k : Nat, i = (k : Int) := ⟨i.toNat, by omega⟩
        exact within k s.data.toList t.data.toList a cap ls w hs hr hf1 hs1 ht1 hl hw hcap (by omega)
      · exact beyond i s.data.toList t.data.toList a cap ls w hs hr hf1 hs1 ht1 hl hw hcap hi
theorem own : ownKnob Tryd.prog.godebug = none := by kernel_rfl
theorem laidOut : laidOutB Tryd.prog = true := by kernel_rfl
set_option maxRecDepth 100000 in
theorem lifted (os : Os) (started : os.Started) (H : Type) (enc : TypeId × Value → H) :
    ReturnsInHanded {} Tryd.checked os 3 .any (fun w args => (Rows.merkleRootsSpec.pre enc Tryd.prog Tryd.f3 Rows.merkleRootsRow.domain false w args ∧ laidMetH Tryd.prog Rows.merkleRootsRow.laid w) ∧ sizedMet enc Tryd.prog Tryd.f3 (OpenSpec.ofChange Rows.merkleRootsSpec) false w args) (Rows.merkleRootsSpec.post enc Tryd.prog Tryd.f3 false true false false) := by
  refine returnsInHanded_of_change_and (C := Tryd.checked) (X := fun w _ => laidMetH Tryd.prog Rows.merkleRootsRow.laid w) (fun _ _ _ hh h => h.of_heap hh) own started (by kernel_rfl) Tryd.func3
    (ChangeSpec.witness_shaped (enc := enc) (C := Tryd.checked) (os := os) (X := fun w _ => laidMetH Tryd.prog Rows.merkleRootsRow.laid w) false (World.doorLaid Tryd.prog 400 os) #[.slice none 0 0, .int .i64 0, .string ByteArray.empty, .string ByteArray.empty] 8 rfl (World.shaped_of_RefB (by kernel_rfl) (by kernel_rfl)) (by kernel_rfl) (by kernel_rfl) (by kernel_rfl) (SLaid.door_met os _)) ?_
  intro W base args ds gs before hval0 hW _ _ hL _
  have hr := SLaid.of_laid hL
  have hval : ∀ (j : Nat) t v, Tryd.f3.params[j]? = some t → args[j]? = some v → Value.okWide Tryd.prog W .any base t v := hval0
  have hW' := hW
  obtain ⟨p, q, hA0, hV, rfl, hfz, hnd⟩ := hW
  have hA : DataW.TrodAll enc Tryd.prog W 0 (fun _ => true) true Tryd.f3.params.toList args.toList ds p := hA0
  rw [Tryd.params3] at hA hval
  obtain ⟨v0, vs0, d0, ds0, p0, q0, hargs, rfl, rfl, h0, r0⟩ := trodAll_cons hA
  obtain ⟨v1, vs1, d1, ds1, p1, q1, rfl, rfl, rfl, h1, r1⟩ := trodAll_cons r0
  obtain ⟨v2, vs2, d2, ds2, p2, q2, rfl, rfl, rfl, h2, r2⟩ := trodAll_cons r1
  obtain ⟨v3, vs3, d3, ds3, p3, q3, rfl, rfl, rfl, h3, r3⟩ := trodAll_cons r2
  obtain ⟨rfl, rfl, rfl⟩ := trodAll_nil r3
  obtain rfl : args = #[v0, v1, v2, v3] := by cases args; simp_all
  obtain ⟨rfl, rfl⟩ := trodVars_none hV
  obtain ⟨a0, len0, cap0, rfl⟩ := okWide_slice Tryd.underlying22 (hval 0 22 v0 rfl rfl)
  have k0 := h0
  have lt0 : ∀ x ∈ p0, x.block < W.heap.size := by obtain ⟨m, hm⟩ := k0; exact DataW.trod_lt m _ _ _ hm
  obtain ⟨z0, w0⟩ : ∃ zs, StrsAt W a0 len0 cap0 zs := by
    obtain ⟨fuel, hf⟩ := h0
    rcases open_strings Tryd.underlying22 Tryd.underlying9 (by kernel_rfl) hf with ⟨hcs, _⟩ | ⟨x, l, c, zs, hcs, _, hl, hm, hz, _, hcell, hwz⟩
    · simp [Value.cells] at hcs
      obtain ⟨rfl, rfl, rfl⟩ := hcs
      exact ⟨[], .inl ⟨rfl, rfl, rfl, rfl⟩⟩
    · simp [Value.cells] at hcs
      obtain ⟨rfl, rfl, rfl⟩ := hcs
      exact ⟨zs, .inr ⟨_, rfl, hl, hm, by simpa using hz, hcell, hwz⟩⟩
  obtain ⟨a1, rfl, rfl, rfl, w1⟩ := open_int Tryd.underlying3 (hval 1 3 v1 rfl rfl) h1
  obtain ⟨a2, rfl, rfl, rfl, w2⟩ := open_string Tryd.underlying9 (hval 2 9 v2 rfl rfl) h2
  obtain ⟨a3, rfl, rfl, rfl, w3⟩ := open_string Tryd.underlying9 (hval 3 9 v3 rfl rfl) h3
  clear hA0 hval0
  refine (walk a0 len0 cap0 z0 a1 a2 a3 W w0 w1 w2 w3 hr).mono fun e W' ⟨he, bel⟩ => ?_
  subst he
  exact ⟨_, rfl, _, _, _, [], _, [], hW', trodAll_mk1 (shut_bool Tryd.underlying4 _), (trodAll_cons_mk (Below.trod laidOut (by kernel_rfl) (of_decide_eq_true (by kernel_rfl)) k0 bel lt0) (trodAll_cons_mk (shut_int Tryd.underlying3 w1) (trodAll_cons_mk (shut_string Tryd.underlying9 w2) (trodAll_cons_mk (shut_string Tryd.underlying9 w3) trodAll_mk0)))), rfl, bel.frame _, fun h => by cases h⟩
theorem over : Rows.merkleRootsRow.holds Tryd.pinned (OpenSpec.ofChange Rows.merkleRootsSpec) :=
  OpenClaim.holds_of_wide 3 Tryd.f3 rfl rfl rfl rfl rfl rfl rfl ⟨rfl, rfl, rfl, rfl, rfl⟩ rfl rfl rfl rfl rfl (by kernel_rfl) Tryd.func3 (by kernel_rfl)
    (of_decide_eq_true (by kernel_rfl)) (by unfold Func.isWrapper; first | (rw [if_pos (by decide +kernel)]; kernel_rfl) | (rw [if_neg (by decide +kernel)]; exact ⟨rfl, rfl⟩))
    (fun os started H enc _ => lifted os started H enc)
/-- THE STATEMENT, proved. -/
theorem proved : Rows.MerkleRootsCardSaid :=
  Claim7.holds_tied_plain_at .later [] _ true _ false
    over (fun _ h => by cases h) (by kernel_rfl) (fun _ h => by cases h) merkleRoots_row_tie rfl ⟨rfl, rfl⟩ (by kernel_rfl) rfl
    (fun f fn hf hfn => by
      obtain rfl : f = 3 := Option.some.inj ((show Tryd.prog.funcNamed "keepsake/keepsakelaw15.MerkleRoots" = some 3 by kernel_rfl).symm.trans hf) |>.symm
      obtain rfl : fn = Tryd.f3 := (Option.some.inj (Tryd.func3.symm.trans hfn)).symm
      exact ⟨by kernel_rfl, fun j t ht => by
        rw [Tryd.params3] at ht
        have hm : t ∈ [22, 3, 9, 9] := by simpa using Array.mem_of_getElem? ht
        have hall : ([22, 3, 9, 9].all fun u => !Tryd.prog.wantsStandIn u) = true := by kernel_rfl
        exact (show Tryd.prog.wantsStandIn t = false by simpa using List.all_eq_true.1 hall t hm)⟩)
    (by kernel_rfl)
#print axioms proved
end Go.Proofs.YtfjlpialblllgaaDoor.merkleRoots
