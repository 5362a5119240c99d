/- ChnA ChnF ChnG: one behind the other. -/
import Derived.Test.YtkidehngleglnaaGreatDoorLChn
import Derived.Test.YtkidehngleglnaaGreatDoorRecQ
import Derived.Test.YtkidehngleglnaaGreatDoorOPut
/- chain.isWide, chain.Said: the walks of their texts. No conditions. -/
namespace Go.Proofs.YtkidehngleglnaaGreatDoor.ChnA
set_option linter.unusedVariables false
open Go.RowKit
open RecN RecC RecQ ChnN ChnM ChnC
theorem isWide (l : List UInt8) (w : World) : Calls Tryz.prog 55 #[.string ⟨l.toArray⟩] w fun e w' => e = .returned (.bool (decide (l.length = 32))) ∧ w = w' := by
  obtain ⟨b, hb⟩ : ∃ b : Bool, decide (l.length = 32) = b := ⟨_, rfl⟩
  rw [hb]
  have he : ((l.length : Int) == 32) = b := by
    rw [← hb]
    by_cases h : l.length = 32
    · rw [decide_eq_true h]; simp [h]
    · rw [decide_eq_false h]; simp; omega
  clear hb
  go_enter Tryz.func55, Tryz.ntmps55
  go_wp2
  go_ret
  exact ⟨rfl, rfl⟩
theorem four {n : Int} (h : 0 ≤ n ∧ n ≤ 4294967295) : put n 4 = (be 4 n.toNat, 0) := put_good n 4 (by omega) (by omega) h.1 (by simp only [Int.reduceToNat, Int.reducePow]; omega)
theorem four_no {n : Int} (h : ¬ (0 ≤ n ∧ n ≤ 4294967295)) : put n 4 = ([], 2) := put_bad n 4 (by simp only [Int.reduceToNat, Int.reducePow]; omega)
set_option maxRecDepth 100000 in
set_option maxHeartbeats 2000000 in
theorem Said_yes (was : List UInt8) (n : Int) (r : Rec) (w : World) (h : sayOk was n r) :
    Calls Tryz.prog 35 #[.string ⟨was.toArray⟩, .int .i64 n, .agg #[.int .i64 r.k, .int .i64 r.ep, .int .i64 r.tm, .int .i64 r.ct, .int .i64 r.tg, .int .i64 r.un, .string ⟨r.rt.toArray⟩, .string ⟨r.nm.toArray⟩]] w fun e w' => e = .returned (.tuple #[.string ⟨(say was n r).toArray⟩, .int .i64 0]) ∧ Below w.heap.size w w' := by
  obtain ⟨W1, hW1⟩ : ∃ W1, W1 = w.alloc (.cells #[.int .i64 r.k, .int .i64 r.ep, .int .i64 r.tm, .int .i64 r.ct, .int .i64 r.tg, .int .i64 r.un, .string ⟨r.rt.toArray⟩, .string ⟨r.nm.toArray⟩] 23) := ⟨_, rfl⟩
  have SS : Hid (Ws w r W1) := Lib.hid (by rw [hW1]; exact ws_new w r)
  obtain ⟨k0, k1, k2, k3, k4, k5, k6, k7⟩ := SS.out.k.cells
  have HI := Lib.hid (fun W => isWide was W)
  rw [decide_eq_true h.1] at HI
  have HP := Lib.hid (fun W => OPut.any n 4 W)
  rw [four h.2.1] at HP
  have HR := Lib.hid (fun W => RecQ.Put_yes r W h.2.2)
  have HE : Hid (say was n r = was ++ (be 4 n.toNat ++ RecN.bytes r)) := Lib.hid rfl
  have hl := say_len h
  have hb := bounds h.2.2
  have hbl := bytes_len h.2.2
  have h4 : (be 4 n.toNat).length = 4 := be_length _ _
  have h1 := h.1
  generalize be 4 n.toNat = b at *
  generalize RecN.bytes r = s at *
  generalize say was n r = o at *
  have a1 := add_l was b (by omega)
  have a2 := add_l (was ++ b) s (by rw [List.length_append]; omega)
  clear h hl hb hbl h4 h1
  go_enter Tryz.func35, Tryz.ntmps35
  go_upto_region 1 with (fail)
  rw [← hW1]
  clear hW1
  go_wp2_with (first
    | (go_at_call 55; refine (HI.out _).mono ?_; rintro e _ ⟨rfl, rfl⟩; clear HI)
    | (go_at_call 21; refine (HP.out _).mono ?_; rintro e w2 ⟨rfl, hb⟩; replace SS := Lib.hid (SS.out.step hb); clear hb k0 k1 k2 k3 k4 k5 k6 k7 HP; obtain ⟨k0, k1, k2, k3, k4, k5, k6, k7⟩ := SS.out.k.cells)
    | (go_at_call 22; refine (HR.out _).mono ?_; rintro e w3 ⟨rfl, hb⟩; replace SS := Lib.hid (SS.out.step hb); clear hb k0 k1 k2 k3 k4 k5 k6 k7 HR))
  go_ret2
  rw [HE.out]
  exact ⟨rfl, SS.out.bel⟩
set_option maxRecDepth 100000 in
set_option maxHeartbeats 2000000 in
theorem Said_no (was : List UInt8) (n : Int) (r : Rec) (w : World) (h : ¬ sayOk was n r) :
    Calls Tryz.prog 35 #[.string ⟨was.toArray⟩, .int .i64 n, .agg #[.int .i64 r.k, .int .i64 r.ep, .int .i64 r.tm, .int .i64 r.ct, .int .i64 r.tg, .int .i64 r.un, .string ⟨r.rt.toArray⟩, .string ⟨r.nm.toArray⟩]] w fun e w' => e = .returned (.tuple #[.string ⟨#[]⟩, .int .i64 2]) ∧ Below w.heap.size w w' := by
  obtain ⟨W1, hW1⟩ : ∃ W1, W1 = w.alloc (.cells #[.int .i64 r.k, .int .i64 r.ep, .int .i64 r.tm, .int .i64 r.ct, .int .i64 r.tg, .int .i64 r.un, .string ⟨r.rt.toArray⟩, .string ⟨r.nm.toArray⟩] 23) := ⟨_, rfl⟩
  have SS : Hid (Ws w r W1) := Lib.hid (by rw [hW1]; exact ws_new w r)
  obtain ⟨k0, k1, k2, k3, k4, k5, k6, k7⟩ := SS.out.k.cells
  have HI := Lib.hid (fun W => isWide was W)
  have HP := Lib.hid (fun W => OPut.any n 4 W)
  have HR := Lib.hid (fun W => RecQ.Put r W)
  have hq : was.length ≠ 32 ∨ (was.length = 32 ∧ ¬ (0 ≤ n ∧ n ≤ 4294967295)) ∨ (was.length = 32 ∧ (0 ≤ n ∧ n ≤ 4294967295) ∧ ¬ right r) := by
    by_cases h1 : was.length = 32
    · by_cases h2 : 0 ≤ n ∧ n ≤ 4294967295
      · exact .inr (.inr ⟨h1, h2, fun hr => h ⟨h1, h2, hr⟩⟩)
      · exact .inr (.inl ⟨h1, h2⟩)
    · exact .inl h1
  clear h
  go_enter Tryz.func35, Tryz.ntmps35
  go_upto_region 1 with (fail)
  rw [← hW1]
  clear hW1
  rcases hq with h1 | ⟨h1, h2⟩ | ⟨h1, h2, h3⟩
  · rw [decide_eq_false h1] at HI
    clear h1
    go_wp2_with (go_at_call 55; refine (HI.out _).mono ?_; rintro e _ ⟨rfl, rfl⟩; clear HI)
    go_ret2
    exact ⟨rfl, SS.out.bel⟩
  · rw [decide_eq_true h1] at HI
    rw [four_no h2] at HP
    clear h1 h2
    go_wp2_with (first
      | (go_at_call 55; refine (HI.out _).mono ?_; rintro e _ ⟨rfl, rfl⟩; clear HI)
      | (go_at_call 21; refine (HP.out _).mono ?_; rintro e w2 ⟨rfl, hb⟩; replace SS := Lib.hid (SS.out.step hb); clear hb HP))
    go_ret2
    exact ⟨rfl, SS.out.bel⟩
  · rw [decide_eq_true h1] at HI
    rw [four h2] at HP
    rw [RecQ.put_no h3] at HR
    clear h1 h2 h3
    go_wp2_with (first
      | (go_at_call 55; refine (HI.out _).mono ?_; rintro e _ ⟨rfl, rfl⟩; clear HI)
      | (go_at_call 21; refine (HP.out _).mono ?_; rintro e w2 ⟨rfl, hb⟩; replace SS := Lib.hid (SS.out.step hb); clear hb k0 k1 k2 k3 k4 k5 k6 k7 HP; obtain ⟨k0, k1, k2, k3, k4, k5, k6, k7⟩ := SS.out.k.cells)
      | (go_at_call 22; refine (HR.out _).mono ?_; rintro e w3 ⟨rfl, hb⟩; replace SS := Lib.hid (SS.out.step hb); clear hb k0 k1 k2 k3 k4 k5 k6 k7 HR))
    go_ret2
    exact ⟨rfl, SS.out.bel⟩
def code (b : Bool) : Int := if b then 0 else 2
/-- THE CONTRACT of Said. -/
theorem Said (was : List UInt8) (n : Int) (r : Rec) (w : World) :
    Calls Tryz.prog 35 #[.string ⟨was.toArray⟩, .int .i64 n, .agg #[.int .i64 r.k, .int .i64 r.ep, .int .i64 r.tm, .int .i64 r.ct, .int .i64 r.tg, .int .i64 r.un, .string ⟨r.rt.toArray⟩, .string ⟨r.nm.toArray⟩]] w fun e w' => e = .returned (.tuple #[.string ⟨(says was n r).1.toArray⟩, .int .i64 (code (says was n r).2)]) ∧ Below w.heap.size w w' := by
  by_cases h : sayOk was n r
  · rw [says_yes h]
    exact Said_yes was n r w h
  · rw [says_no h]
    exact Said_no was n r w h
end Go.Proofs.YtkidehngleglnaaGreatDoor.ChnA
/- chain.Follow: the walk of its text. No conditions but those that each lemma names. -/
namespace Go.Proofs.YtkidehngleglnaaGreatDoor.ChnF
set_option linter.unusedVariables false
open Go.RowKit
open RecN RecC RecK ChnN ChnM ChnC ChnA
def folE (b : Bool) : Int := if b then 0 else 16
def folR (f : Int) (l : List Rec) : Int × Int × Int := if 0 ≤ f ∧ f ≤ 4294967295 then ((fol f [] l).1, ((fol f [] l).2.1 : Int), folE (fol f [] l).2.2) else (0, 0, 2)
end Go.Proofs.YtkidehngleglnaaGreatDoor.ChnF
/- Plain mathematics of which records may be sealed; chain.may: the walk of its text. No conditions but those that each lemma names. -/
namespace Go.Proofs.YtkidehngleglnaaGreatDoor.ChnG
set_option linter.unusedVariables false
open Go.RowKit
open RecN RecC EvoN ChnN ChnM ChnC ChnA ChnF
theorem seal_snoc (root : List UInt8) (f : Int) : ∀ (l : List Rec) (p : List Sd) (r : Rec), sealR root f p (l ++ [r]) = sealR root f p l ++ [(r, tg root f (sealR root f p l) r)]
  | [], p, r => rfl
  | x :: l, p, r => by
    show sealR root f (p ++ [(x, tg root f p x)]) (l ++ [r]) = _
    rw [seal_snoc root f l _ r]
    rfl
theorem key_first (root : List UInt8) (f : Int) : keyAt root f f = macOf root (saidOf lSeal [f]) := by
  rw [keyAt, show (f - f).toNat = 0 from by omega]
  rfl
theorem key_next (root : List UInt8) {f e : Int} (h : f ≤ e) : made (keyAt root f e) lNext [] = (keyAt root f (e + 1), 0) := by
  rw [keyAt, keyAt, show (e + 1 - f).toNat = (e - f).toNat + 1 from by omega]
  exact made_next (first_length root f) _
/-- Is the last one more than 4096 epochs beyond the first one? -/
def farB (f : Int) (l : List Rec) : Bool := match l.getLast? with | none => false | some r => decide (4096 < r.ep - f)
theorem far_nil (f : Int) : farB f [] = false := rfl
theorem far_snoc (f : Int) (p : List Rec) (r : Rec) : farB f (p ++ [r]) = decide (4096 < r.ep - f) := by unfold farB; rw [List.getLast?_concat]
/-- Records that may be sealed. -/
def okR (root : List UInt8) (f : Int) (l : List Rec) : Prop := root.length = 32 ∧ (0 ≤ f ∧ f ≤ 4294967295) ∧ chainTo f l ∧ farB f l = false
def mayR (root : List UInt8) (f : Int) (l : List Rec) : Int × Int × Int := if root.length = 32 then (if (folR f l).2.2 = 0 ∧ farB f l = true then (f, 0, 6) else folR f l) else (0, 0, 2)
theorem fol_ok {f : Int} {l : List Rec} (hf : 0 ≤ f ∧ f ≤ 4294967295) (h : chainTo f l) : folR f l = (opn f l, (l.length : Int), 0) := by
  rw [folR, if_pos hf, fol_of_chain h]
  rfl
theorem fol_zero {f : Int} {l : List Rec} (h : (folR f l).2.2 = 0) : (0 ≤ f ∧ f ≤ 4294967295) ∧ chainTo f l := by
  unfold folR at h
  by_cases hf : 0 ≤ f ∧ f ≤ 4294967295
  · rw [if_pos hf] at h
    refine ⟨hf, chain_of ?_⟩
    cases hb : (fol f [] l).2.2 with
    | true => rfl
    | false =>
      rw [hb] at h
      exact absurd h (by simp [folE])
  · rw [if_neg hf] at h
    exact absurd h (by simp)
theorem may_ok {root : List UInt8} {f : Int} {l : List Rec} (h : okR root f l) : mayR root f l = (opn f l, (l.length : Int), 0) := by
  obtain ⟨h1, h2, h3, h4⟩ := h
  rw [mayR, if_pos h1, h4, if_neg (by simp), fol_ok h2 h3]
theorem may_zero {root : List UInt8} {f : Int} {l : List Rec} (h : (mayR root f l).2.2 = 0) : okR root f l := by
  unfold mayR at h
  by_cases h1 : root.length = 32
  · rw [if_pos h1] at h
    by_cases h2 : (folR f l).2.2 = 0 ∧ farB f l = true
    · rw [if_pos h2] at h
      exact absurd h (by simp)
    · rw [if_neg h2] at h
      obtain ⟨h3, h4⟩ := fol_zero h
      exact ⟨h1, h3, h4, by cases hb : farB f l with | false => rfl | true => exact absurd ⟨h, hb⟩ h2⟩
  · rw [if_neg h1] at h
    exact absurd h (by simp)
theorem chain_take {f : Int} {l : List Rec} (h : chainTo f l) (i : Nat) (hi : i < l.length) : right l[i] ∧ l[i].ep = opn f (l.take i) := ⟨(h i hi).1, (h i hi).2.1⟩
end Go.Proofs.YtkidehngleglnaaGreatDoor.ChnG
