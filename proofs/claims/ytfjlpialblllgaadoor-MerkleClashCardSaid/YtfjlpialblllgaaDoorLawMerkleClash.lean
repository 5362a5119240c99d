/- MerkleClash: at any leaves and any path (at most 70 texts each, of at most 5,000 bytes together), any leaf (of at most 1,000 bytes; else: the chapter's example alone, as the statement has it) and any number: where the path leads the leaf to the root of the leaves at a place where another one stands, two unlike texts are told that have one sum; else none. The condition: the rounds' numbers lie in the program's variable (the card ties it to the program's text). -/
import Derived.Test.YtfjlpialblllgaaDoorMerW
import Derived.SliceStrings
import Derived.Test.YtfjlpialblllgaaDoorRows
import Derived.Test.YtfjlpialblllgaaDoorTie
import Derived.Test.YtfjlpialblllgaaDoorCards
import Derived.Test.YtfjlpialblllgaaDoorSLaid
import Derived.WalkKit
import Derived.ProofKit
import Derived.OpenShut
import Derived.ShutString
import Derived.ChangeOld
import Derived.Below
import Derived.LaidMore
import Derived.SevenTiedAt
import Derived.Stop.Joined
namespace Go.Proofs.YtfjlpialblllgaaDoor.merkleClash
open Go.ChangeShapes Go.WideShapes Go.ChangeAt Go.RowKit
open Go.ChangeMaps (open_string shut_string)
set_option linter.unusedVariables false
open STurn SSum MerQ MerN MerM MerC MerR MerU MerV MerX MerZ MerW
/-- What the statement calls, at texts that are gone through. -/
structure Pre (ls : List L) (b : Option Addr) (d : Nat) (i : Int) (x : L) (a : Option Addr) (c : Nat) (p : List L) (w : World) : Prop where
  few1 : Calls Tryd.prog 8 #[.slice b ls.length d] w fun e w' => e = .returned (.bool true) ∧ w = w'
  few2 : Calls Tryd.prog 8 #[.slice a p.length c] w fun e w' => e = .returned (.bool true) ∧ w = w'
  clash : Calls Tryd.prog 23 #[.slice b ls.length d, .int .i64 i, str x, .slice a p.length c] w (ClashAns w ls i x p)
  root : ∀ W, Below w.heap.size w W → Calls Tryd.prog 10 #[.slice b ls.length d] W fun e w' => e = .returned (.tuple #[str (rootR ls).1, .int .i64 ((rootR ls).2 : Nat)]) ∧ Below W.heap.size W w'
  check : ∀ r W, Below w.heap.size w W → Calls Tryd.prog 20 #[str r, .int .i64 (ls.length : Int), .int .i64 i, str x, .slice a p.length c] W fun e w' => e = .returned (.bool (checkB r (ls.length : Int) i x p)) ∧ Below W.heap.size W w'
  alive : ∀ W, Below w.heap.size w W → Calls Tryd.prog 9 #[] W fun e w' => e = .returned (.bool true) ∧ Below W.heap.size W w'
section
variable (i : Int) (x : L) (b : Option Addr) (n d : Nat) (ls : List L) (a : Option Addr) (m c : Nat) (p : List L) (w : World) (hls : Strs w w.heap.size b n ls) (h : Strs w w.heap.size a m p) (hn : n ≤ 9223372036854775807) (hm : m ≤ 9223372036854775807) (hr : Rds w)
include hls h hn hm hr
theorem out (hf : fewB ls = false ∨ fewB p = false ∨ (1000 : Int) < (x.length : Int)) :
    Calls Tryd.prog 6 #[.slice b n d, .int .i64 i, str x, .slice a m c] w fun e w' => e = .returned (.bool true) ∧ Below w.heap.size w w' := by
  have F1 := Lib.hid (few b n d ls w hls hn)
  have F2 := Lib.hid (few a m c p w h hm)
  have HA := Lib.hid (alive w hr)
  have G1 : Hid True := Lib.hid trivial
  cases hb : fewB ls with
  | false =>
    rw [hb] at F1
    clear hls h hr hf hn hm hb
    go_enter Tryd.func6, Tryd.ntmps6
    go_wp2_with (first | (go_at_call 8; refine F1.out.mono ?_; rintro e w' ⟨rfl, rfl⟩) | (go_at_call 9; refine HA.out.mono ?_; rintro e w' ⟨rfl, hb⟩; have HB := Lib.hid hb; clear hb))
    go_ret
    exact ⟨rfl, HB.out⟩
  | true =>
    rw [hb] at F1 hf
    have hf := hf.resolve_left (by simp)
    cases hb2 : fewB p with
    | false =>
      rw [hb2] at F2
      clear hls h hr hf hn hm hb hb2
      go_enter Tryd.func6, Tryd.ntmps6
      go_wp2_with (first | (clear G1; go_at_call 8; refine F1.out.mono ?_; rintro e w' ⟨rfl, rfl⟩) | (go_at_call 8; refine F2.out.mono ?_; rintro e w' ⟨rfl, rfl⟩) | (go_at_call 9; refine HA.out.mono ?_; rintro e w' ⟨rfl, hb⟩; have HB := Lib.hid hb; clear hb))
      go_ret
      exact ⟨rfl, HB.out⟩
    | true =>
      rw [hb2] at F2 hf
      have h1 : (1000 : Int) < (x.length : Int) := hf.resolve_left (by simp)
      clear hls h hr hf hn hm hb hb2
      go_enter Tryd.func6, Tryd.ntmps6
      go_wp2_with (first | (clear G1; go_at_call 8; refine F1.out.mono ?_; rintro e w' ⟨rfl, rfl⟩) | (go_at_call 8; refine F2.out.mono ?_; rintro e w' ⟨rfl, rfl⟩) | (go_at_call 9; refine HA.out.mono ?_; rintro e w' ⟨rfl, hb⟩; have HB := Lib.hid hb; clear hb))
      go_ret
      exact ⟨rfl, HB.out⟩
end
section
variable (ls : List L) (b : Option Addr) (d : Nat) (i : Int) (x : L) (a : Option Addr) (c : Nat) (p : List L) (w : World) (hls : Strs w w.heap.size b ls.length ls) (h : Strs w w.heap.size a p.length p) (hr : Rds w) (hf1 : fewB ls = true) (hf2 : fewB p = true) (hx : x.length ≤ 1000) (hll : ∀ l ∈ ls, l.length ≤ 9223372036854775807) (hl : ∀ l ∈ p, l.length ≤ 9223372036854775807)
include hls h hr hf1 hf2 hx hll hl
theorem pre : Pre ls b d i x a c p w := by
  have h71 := few_len hf1
  have h72 := few_len hf2
  refine ⟨?_, ?_, Clash b ls d i x a p c w hls (by omega) hll h (by omega) (by omega) hl hr, fun W hb => Root b ls.length d ls W ((hls.below hb).more hb.size) (by omega) hll (hr.step hb),
    fun r W hb => Check r a (ls.length : Int) i x c p W ((h.below hb).more hb.size) (by omega) (by omega) hl (hr.step hb), fun W hb => MerZ.alive W (hr.step hb)⟩
  · have := few b ls.length d ls w hls (by omega)
    rwa [hf1] at this
  · have := few a p.length c p w h (by omega)
    rwa [hf2] at this
theorem no (hno : clashB ls i x p = false) :
    Calls Tryd.prog 6 #[.slice b ls.length d, .int .i64 i, str x, .slice a p.length c] w fun e w' => e = .returned (.bool true) ∧ Below w.heap.size w w' := by
  have h71 := few_len hf1
  have HP := Lib.hid (pre ls b d i x a c p w hls h hr hf1 hf2 hx hll hl)
  have HC := Lib.hid (HP.out.clash.mono (R' := fun e w' => e = .returned (.tuple #[str [], str [], .bool false]) ∧ Below w.heap.size w w') (fun e w' hc => by unfold ClashAns at hc; rwa [if_neg (by rw [hno]; simp)] at hc))
  have HRo := Lib.hid HP.out.root
  have HCk := Lib.hid HP.out.check
  have q0 : ¬ (1000 : Int) < (x.length : Int) := by omega
  have hn70 : ls.length ≤ 70 := h71
  have G1 : Hid True := Lib.hid trivial
  unfold clashB at hno
  unfold rootR at HRo
  cases hall : all32 ls with
  | false =>
    simp only [hall, Bool.false_eq_true, if_false] at HRo
    clear hls h hr hf1 hf2 hx hll hl hno hall HCk h71
    go_enter Tryd.func6, Tryd.ntmps6
    go_wp2_with (first
      | (clear G1; go_at_call 8; refine HP.out.few1.mono ?_; rintro e w' ⟨rfl, rfl⟩) | (go_at_call 8; refine HP.out.few2.mono ?_; rintro e w' ⟨rfl, rfl⟩)
      | (go_at_call 23; refine HC.out.mono ?_; rintro e w1 ⟨rfl, hb⟩; have B1 := Lib.hid hb; clear hb)
      | (go_at_call 10; refine (HRo.out _ B1.out).mono ?_; rintro e w2 ⟨rfl, hb⟩; have B2 := Lib.hid (B1.out.trans (hb.mono B1.out.size)); clear hb)
      | (go_at_call 9; refine (HP.out.alive _ B2.out).mono ?_; rintro e w3 ⟨rfl, hb⟩; have B3 := Lib.hid (B2.out.trans (hb.mono B2.out.size)); clear hb))
    go_ret
    exact ⟨rfl, B3.out⟩
  | true =>
    simp only [hall, if_true] at HRo
    rw [hall, Bool.true_and] at hno
    clear hall
    by_cases h0 : i < 0
    · clear hls h hr hf1 hf2 hx hll hl hno HCk h71
      generalize MerN.root nd (sum []) ls = rt at *
      go_enter Tryd.func6, Tryd.ntmps6
      go_wp2_with (first
        | (clear G1; go_at_call 8; refine HP.out.few1.mono ?_; rintro e w' ⟨rfl, rfl⟩) | (go_at_call 8; refine HP.out.few2.mono ?_; rintro e w' ⟨rfl, rfl⟩)
        | (go_at_call 23; refine HC.out.mono ?_; rintro e w1 ⟨rfl, hb⟩; have B1 := Lib.hid hb; clear hb)
        | (go_at_call 10; refine (HRo.out _ B1.out).mono ?_; rintro e w2 ⟨rfl, hb⟩; have B2 := Lib.hid (B1.out.trans (hb.mono B1.out.size)); clear hb)
        | (go_at_call 9; refine (HP.out.alive _ B2.out).mono ?_; rintro e w3 ⟨rfl, hb⟩; have B3 := Lib.hid (B2.out.trans (hb.mono B2.out.size)); clear hb))
      go_ret
      exact ⟨rfl, B3.out⟩
    by_cases h1 : (ls.length : Int) ≤ i
    · clear hls h hr hf1 hf2 hx hll hl hno HCk h71
      generalize MerN.root nd (sum []) ls = rt at *
      go_enter Tryd.func6, Tryd.ntmps6
      go_wp2_with (first
        | (clear G1; go_at_call 8; refine HP.out.few1.mono ?_; rintro e w' ⟨rfl, rfl⟩) | (go_at_call 8; refine HP.out.few2.mono ?_; rintro e w' ⟨rfl, rfl⟩)
        | (go_at_call 23; refine HC.out.mono ?_; rintro e w1 ⟨rfl, hb⟩; have B1 := Lib.hid hb; clear hb)
        | (go_at_call 10; refine (HRo.out _ B1.out).mono ?_; rintro e w2 ⟨rfl, hb⟩; have B2 := Lib.hid (B1.out.trans (hb.mono B1.out.size)); clear hb)
        | (go_at_call 9; refine (HP.out.alive _ B2.out).mono ?_; rintro e w3 ⟨rfl, hb⟩; have B3 := Lib.hid (B2.out.trans (hb.mono B2.out.size)); clear hb))
      go_ret
      exact ⟨rfl, B3.out⟩
    obtain ⟨k, rfl⟩ : ∃ k : Nat, i = (k : Int) := ⟨i.toNat, by omega⟩
    have hk : k < ls.length := by omega
    rw [Int.toNat_natCast] at hno
    obtain ⟨q, off, rfl, hq, hc⟩ := hls.2 (by omega)
    have hck := hc k hk
    have HCel := Lib.hid (fun W (hb : Below w.heap.size w W) => (hb.cell (p := ⟨q, off + k, none⟩) hq).trans hck)
    have HCk2 := Lib.hid (fun W hb => HCk.out (MerN.root nd (sum []) ls) W hb)
    have q1 : (0 : Int) ≤ (k : Int) := by omega
    have q2 : (k : Int) < (ls.length : Int) := by omega
    generalize ls.getD k [] = y at *
    generalize checkB (MerN.root nd (sum []) ls) (ls.length : Int) (k : Int) x p = t at *
    generalize MerN.root nd (sum []) ls = rt at *
    by_cases hxy : x = y
    · subst hxy
      have e1 : (x == x) = true := by simp
      clear h hr hf1 hf2 hx hll hl hno HCk HCk2 h71 hls hc hck hq h0 h1 hk
      go_enter Tryd.func6, Tryd.ntmps6
      go_wp2_with (first
        | (clear G1; go_at_call 8; refine HP.out.few1.mono ?_; rintro e w' ⟨rfl, rfl⟩) | (go_at_call 8; refine HP.out.few2.mono ?_; rintro e w' ⟨rfl, rfl⟩)
        | (go_at_call 23; refine HC.out.mono ?_; rintro e w1 ⟨rfl, hb⟩; have B1 := Lib.hid hb; clear hb)
        | (go_at_call 10; refine (HRo.out _ B1.out).mono ?_; rintro e w2 ⟨rfl, hb⟩; have B2 := Lib.hid (B1.out.trans (hb.mono B1.out.size)); have cy := HCel.out _ B2.out; clear hb)
        | (go_at_call 9; refine (HP.out.alive _ B2.out).mono ?_; rintro e w3 ⟨rfl, hb⟩; have B3 := Lib.hid (B2.out.trans (hb.mono B2.out.size)); clear hb))
      go_ret
      exact ⟨rfl, B3.out⟩
    · have e1 : (x == y) = false := by rw [beq_eq_false_iff_ne]; exact hxy
      obtain rfl : t = false := by simpa [hxy] using hno
      clear h hr hf1 hf2 hx hll hl hno HCk h71 hls hc hck hq h0 h1 hk hxy
      go_enter Tryd.func6, Tryd.ntmps6
      go_wp2_with (first
        | (clear G1; go_at_call 8; refine HP.out.few1.mono ?_; rintro e w' ⟨rfl, rfl⟩) | (go_at_call 8; refine HP.out.few2.mono ?_; rintro e w' ⟨rfl, rfl⟩)
        | (go_at_call 23; refine HC.out.mono ?_; rintro e w1 ⟨rfl, hb⟩; have B1 := Lib.hid hb; clear hb)
        | (go_at_call 10; refine (HRo.out _ B1.out).mono ?_; rintro e w2 ⟨rfl, hb⟩; have B2 := Lib.hid (B1.out.trans (hb.mono B1.out.size)); have cy := HCel.out _ B2.out; clear hb)
        | (go_at_call 20; refine (HCk2.out _ B2.out).mono ?_; rintro e w3 ⟨rfl, hb⟩; have B3 := Lib.hid (B2.out.trans (hb.mono B2.out.size)); clear hb)
        | (go_at_call 9; refine (HP.out.alive _ B3.out).mono ?_; rintro e w4 ⟨rfl, hb⟩; have B4 := Lib.hid (B3.out.trans (hb.mono B3.out.size)); clear hb))
      go_ret
      exact ⟨rfl, B4.out⟩
theorem yes (hyes : clashB ls i x p = true) :
    Calls Tryd.prog 6 #[.slice b ls.length d, .int .i64 i, str x, .slice a p.length c] w fun e w' => e = .returned (.bool true) ∧ Below w.heap.size w w' := by
  have h71 := few_len hf1
  have HP := Lib.hid (pre ls b d i x a c p w hls h hr hf1 hf2 hx hll hl)
  have HC := Lib.hid (HP.out.clash.mono (R' := fun e w' => ∃ u v, e = .returned (.tuple #[str u, str v, .bool true]) ∧ (u ≠ v ∧ sum u = sum v ∧ u.length = 65 ∧ v.length = 65) ∧ Below w.heap.size w w') (fun e w' hc => by unfold ClashAns at hc; rwa [if_pos hyes] at hc))
  have HRo := Lib.hid HP.out.root
  have q0 : ¬ (1000 : Int) < (x.length : Int) := by omega
  have hn70 : ls.length ≤ 70 := h71
  have G1 : Hid True := Lib.hid trivial
  have G2 : Hid True := Lib.hid trivial
  unfold clashB at hyes
  rw [Bool.and_eq_true, Bool.and_eq_true] at hyes
  obtain ⟨⟨hall, hck0⟩, hne⟩ := hyes
  simp only [rootR, hall, if_true] at HRo
  obtain ⟨hm, _, _⟩ := check_in hck0
  unfold mayBe at hm
  rw [Bool.and_eq_true, decide_eq_true_eq, decide_eq_true_eq] at hm
  obtain ⟨k, rfl⟩ : ∃ k : Nat, i = (k : Int) := ⟨i.toNat, by omega⟩
  have hk : k < ls.length := by omega
  rw [Int.toNat_natCast] at hne
  obtain ⟨q, off, rfl, hq, hc⟩ := hls.2 (by omega)
  have hck := hc k hk
  have HCel := Lib.hid (fun W (hb : Below w.heap.size w W) => (hb.cell (p := ⟨q, off + k, none⟩) hq).trans hck)
  have HCk2 := Lib.hid (fun W hb => HP.out.check (MerN.root nd (sum []) ls) W hb)
  rw [hck0] at HCk2
  have HSm := Lib.hid (fun u W (hu : u.length = 65) (hb : Below w.heap.size w W) => summed_one u (by omega) W (hr.step hb))
  have q1 : (0 : Int) ≤ (k : Int) := by omega
  have q2 : (k : Int) < (ls.length : Int) := by omega
  have e1 : (x == ls.getD k []) = false := by rw [beq_eq_false_iff_ne]; simpa using hne
  generalize ls.getD k [] = y at *
  generalize MerN.root nd (sum []) ls = rt at *
  clear h hr hf1 hf2 hx hll hl hck0 h71 hls hc hck hq hk hne hm hall
  go_enter Tryd.func6, Tryd.ntmps6
  go_wp2_with (first
    | (clear G1; go_at_call 8; refine HP.out.few1.mono ?_; rintro e w' ⟨rfl, rfl⟩) | (go_at_call 8; refine HP.out.few2.mono ?_; rintro e w' ⟨rfl, rfl⟩)
    | (go_at_call 23; refine HC.out.mono ?_; rintro e w1 ⟨u, v, rfl, huv, hb⟩; have B1 := Lib.hid hb; obtain ⟨hu1, hu2, hu3, hu4⟩ := huv; have euv : (u == v) = false := beq_eq_false_iff_ne.2 hu1; have HU2 := Lib.hid hu2; have HU3 := Lib.hid hu3; have HU4 := Lib.hid hu4; clear hb hu1 hu2 hu3 hu4)
    | (go_at_call 10; refine (HRo.out _ B1.out).mono ?_; rintro e w2 ⟨rfl, hb⟩; have B2 := Lib.hid (B1.out.trans (hb.mono B1.out.size)); have cy := HCel.out _ B2.out; clear hb)
    | (go_at_call 20; refine (HCk2.out _ B2.out).mono ?_; rintro e w3 ⟨rfl, hb⟩; have B3 := Lib.hid (B2.out.trans (hb.mono B2.out.size)); clear hb)
    | (clear G2; go_at_call 13; refine (HSm.out u _ HU3.out B3.out).mono ?_; rintro e w4 ⟨rfl, hb⟩; have B4 := Lib.hid (B3.out.trans (hb.mono B3.out.size)); rw [HU2.out]; clear hb)
    | (go_at_call 13; refine (HSm.out v _ HU4.out B4.out).mono ?_; rintro e w5 ⟨rfl, hb⟩; have B5 := Lib.hid (B4.out.trans (hb.mono B4.out.size)); have ess : (sum v == sum v) = true := beq_self_eq_true _; clear hb)
    | (go_at_call 9; refine (HP.out.alive _ B5.out).mono ?_; rintro e w6 ⟨rfl, hb⟩; have B6 := Lib.hid (B5.out.trans (hb.mono B5.out.size)); clear hb))
  go_ret
  exact ⟨rfl, B6.out⟩
end
theorem walk (b : Option Addr) (len1 cap1 : Nat) (z1 : List ByteArray) (i : Int) (x : ByteArray) (a : Option Addr) (len2 cap2 : Nat) (z2 : List ByteArray) (w : World) (w0 : StrsAt w b len1 cap1 z1) (w1 : (Lit.int .i64 i).wf = true) (w2 : x.size ≤ maxLen) (w3 : StrsAt w a len2 cap2 z2) (hr : Rds w) :
    Calls Tryd.prog 6 #[.slice b len1 cap1, .int .i64 i, .string x, .slice a len2 cap2] w fun e w' => e = .returned (.bool true) ∧ Below w.heap.size w w' := by
  obtain ⟨ls, hs, hll, hn⟩ := strs_at w0
  obtain ⟨p, hp, hl, hm⟩ := strs_at w3
  unfold maxLen at hl hll hn hm
  by_cases hf : fewB ls = false ∨ fewB p = false ∨ (1000 : Int) < (x.data.toList.length : Int)
  · exact out i x.data.toList b len1 cap1 ls a len2 cap2 p w hs hp hn hm hr hf
  · have hf1 : fewB ls = true := by
      cases h : fewB ls with
      | true => rfl
      | false => exact absurd (.inl h) hf
    have hf2 : fewB p = true := by
      cases h : fewB p with
      | true => rfl
      | false => exact absurd (.inr (.inl h)) hf
    have hx1 : x.data.toList.length ≤ 1000 := by
      by_cases h : (1000 : Int) < (x.data.toList.length : Int)
      · exact absurd (.inr (.inr h)) hf
      · omega
    obtain rfl := hs.1
    obtain rfl := hp.1
    cases hc : clashB ls i x.data.toList p with
    | false => exact no ls b cap1 i x.data.toList a cap2 p w hs hp hr hf1 hf2 hx1 hll hl hc
    | true => exact yes ls b cap1 i x.data.toList a cap2 p w hs hp hr hf1 hf2 hx1 hll hl hc
theorem own : ownKnob Tryd.prog.godebug = none := by kernel_rfl
theorem laidOut : laidOutB Tryd.prog = true := by kernel_rfl
set_option maxRecDepth 100000 in
theorem lifted (os : Os) (started : os.Started) (H : Type) (enc : TypeId × Value → H) :
    ReturnsInHanded {} Tryd.checked os 6 .any (fun w args => (Rows.merkleClashSpec.pre enc Tryd.prog Tryd.f6 Rows.merkleClashRow.domain false w args ∧ laidMetH Tryd.prog Rows.merkleClashRow.laid w) ∧ sizedMet enc Tryd.prog Tryd.f6 (OpenSpec.ofChange Rows.merkleClashSpec) false w args) (Rows.merkleClashSpec.post enc Tryd.prog Tryd.f6 false true false false) := by
  refine returnsInHanded_of_change_and (C := Tryd.checked) (X := fun w _ => laidMetH Tryd.prog Rows.merkleClashRow.laid w) (fun _ _ _ hh h => h.of_heap hh) own started (by kernel_rfl) Tryd.func6
    (ChangeSpec.witness_shaped (enc := enc) (C := Tryd.checked) (os := os) (X := fun w _ => laidMetH Tryd.prog Rows.merkleClashRow.laid w) false (World.doorLaid Tryd.prog 400 os) #[.slice none 0 0, .int .i64 0, .string ByteArray.empty, .slice none 0 0] 8 rfl (World.shaped_of_RefB (by kernel_rfl) (by kernel_rfl)) (by kernel_rfl) (by kernel_rfl) (by kernel_rfl) (SLaid.door_met os _)) ?_
  intro W base args ds gs before hval0 hW _ _ hL _
  have hr := SLaid.of_laid hL
  have hval : ∀ (j : Nat) t v, Tryd.f6.params[j]? = some t → args[j]? = some v → Value.okWide Tryd.prog W .any base t v := hval0
  have hW' := hW
  obtain ⟨p, q, hA0, hV, rfl, hfz, hnd⟩ := hW
  have hA : DataW.TrodAll enc Tryd.prog W 0 (fun _ => true) true Tryd.f6.params.toList args.toList ds p := hA0
  rw [Tryd.params6] at hA hval
  obtain ⟨v0, vs0, d0, ds0, p0, q0, hargs, rfl, rfl, h0, r0⟩ := trodAll_cons hA
  obtain ⟨v1, vs1, d1, ds1, p1, q1, rfl, rfl, rfl, h1, r1⟩ := trodAll_cons r0
  obtain ⟨v2, vs2, d2, ds2, p2, q2, rfl, rfl, rfl, h2, r2⟩ := trodAll_cons r1
  obtain ⟨v3, vs3, d3, ds3, p3, q3, rfl, rfl, rfl, h3, r3⟩ := trodAll_cons r2
  obtain ⟨rfl, rfl, rfl⟩ := trodAll_nil r3
  obtain rfl : args = #[v0, v1, v2, v3] := by cases args; simp_all
  obtain ⟨rfl, rfl⟩ := trodVars_none hV
  obtain ⟨a0, len0, cap0, rfl⟩ := okWide_slice Tryd.underlying22 (hval 0 22 v0 rfl rfl)
  have k0 := h0
  have lt0 : ∀ x ∈ p0, x.block < W.heap.size := by obtain ⟨m, hm⟩ := k0; exact DataW.trod_lt m _ _ _ hm
  obtain ⟨z0, w0⟩ : ∃ zs, StrsAt W a0 len0 cap0 zs := by
    obtain ⟨fuel, hf⟩ := h0
    rcases open_strings Tryd.underlying22 Tryd.underlying9 (by kernel_rfl) hf with ⟨hcs, _⟩ | ⟨x, l, c, zs, hcs, _, hl, hm, hz, _, hcell, hwz⟩
    · simp [Value.cells] at hcs
      obtain ⟨rfl, rfl, rfl⟩ := hcs
      exact ⟨[], .inl ⟨rfl, rfl, rfl, rfl⟩⟩
    · simp [Value.cells] at hcs
      obtain ⟨rfl, rfl, rfl⟩ := hcs
      exact ⟨zs, .inr ⟨_, rfl, hl, hm, by simpa using hz, hcell, hwz⟩⟩
  obtain ⟨a1, rfl, rfl, rfl, w1⟩ := open_int Tryd.underlying3 (hval 1 3 v1 rfl rfl) h1
  obtain ⟨a2, rfl, rfl, rfl, w2⟩ := open_string Tryd.underlying9 (hval 2 9 v2 rfl rfl) h2
  obtain ⟨a3, len3, cap3, rfl⟩ := okWide_slice Tryd.underlying22 (hval 3 22 v3 rfl rfl)
  have k3 := h3
  have lt3 : ∀ x ∈ p3, x.block < W.heap.size := by obtain ⟨m, hm⟩ := k3; exact DataW.trod_lt m _ _ _ hm
  obtain ⟨z3, w3⟩ : ∃ zs, StrsAt W a3 len3 cap3 zs := by
    obtain ⟨fuel, hf⟩ := h3
    rcases open_strings Tryd.underlying22 Tryd.underlying9 (by kernel_rfl) hf with ⟨hcs, _⟩ | ⟨x, l, c, zs, hcs, _, hl, hm, hz, _, hcell, hwz⟩
    · simp [Value.cells] at hcs
      obtain ⟨rfl, rfl, rfl⟩ := hcs
      exact ⟨[], .inl ⟨rfl, rfl, rfl, rfl⟩⟩
    · simp [Value.cells] at hcs
      obtain ⟨rfl, rfl, rfl⟩ := hcs
      exact ⟨zs, .inr ⟨_, rfl, hl, hm, by simpa using hz, hcell, hwz⟩⟩
  clear hA0 hval0
  refine (walk a0 len0 cap0 z0 a1 a2 a3 len3 cap3 z3 W w0 w1 w2 w3 hr).mono fun e W' ⟨he, bel⟩ => ?_
  subst he
  exact ⟨_, rfl, _, _, _, [], _, [], hW', trodAll_mk1 (shut_bool Tryd.underlying4 _), (trodAll_cons_mk (Below.trod laidOut (by kernel_rfl) (of_decide_eq_true (by kernel_rfl)) k0 bel lt0) (trodAll_cons_mk (shut_int Tryd.underlying3 w1) (trodAll_cons_mk (shut_string Tryd.underlying9 w2) (trodAll_cons_mk (Below.trod laidOut (by kernel_rfl) (of_decide_eq_true (by kernel_rfl)) k3 bel lt3) trodAll_mk0)))), rfl, bel.frame _, fun h => by cases h⟩
theorem over : Rows.merkleClashRow.holds Tryd.pinned (OpenSpec.ofChange Rows.merkleClashSpec) :=
  OpenClaim.holds_of_wide 6 Tryd.f6 rfl rfl rfl rfl rfl rfl rfl ⟨rfl, rfl, rfl, rfl, rfl⟩ rfl rfl rfl rfl rfl (by kernel_rfl) Tryd.func6 (by kernel_rfl)
    (of_decide_eq_true (by kernel_rfl)) (by unfold Func.isWrapper; first | (rw [if_pos (by decide +kernel)]; kernel_rfl) | (rw [if_neg (by decide +kernel)]; exact ⟨rfl, rfl⟩))
    (fun os started H enc _ => lifted os started H enc)
/-- THE STATEMENT, proved. -/
theorem proved : Rows.MerkleClashCardSaid :=
  Claim7.holds_tied_plain_at .later [] _ true _ false
    over (fun _ h => by cases h) (by kernel_rfl) (fun _ h => by cases h) merkleClash_row_tie rfl ⟨rfl, rfl⟩ (by kernel_rfl) rfl
    (fun f fn hf hfn => by
      obtain rfl : f = 6 := Option.some.inj ((show Tryd.prog.funcNamed "keepsake/keepsakelaw15.MerkleClash" = some 6 by kernel_rfl).symm.trans hf) |>.symm
      obtain rfl : fn = Tryd.f6 := (Option.some.inj (Tryd.func6.symm.trans hfn)).symm
      exact ⟨by kernel_rfl, fun j t ht => by
        rw [Tryd.params6] at ht
        have hm : t ∈ [22, 3, 9, 22] := by simpa using Array.mem_of_getElem? ht
        have hall : ([22, 3, 9, 22].all fun u => !Tryd.prog.wantsStandIn u) = true := by kernel_rfl
        exact (show Tryd.prog.wantsStandIn t = false by simpa using List.all_eq_true.1 hall t hm)⟩)
    (by kernel_rfl)
#print axioms proved
end Go.Proofs.YtfjlpialblllgaaDoor.merkleClash
