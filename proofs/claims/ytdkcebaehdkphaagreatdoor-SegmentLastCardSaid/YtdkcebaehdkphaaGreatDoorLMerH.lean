/- MerH MerI: one behind the other. -/
import Derived.Test.YtdkcebaehdkphaaGreatDoorMerP
import Derived.LoopN
import Derived.Test.YtdkcebaehdkphaaGreatDoorLRsum
import Derived.Deep.RegionHeld3
/- The document's trees of hashes: Whole, Half, Long; two rows of texts held against each other: the walks of their texts. No conditions but those that each lemma names. -/
namespace Go.Proofs.YtdkcebaehdkphaaGreatDoor.MerH
open Go.RowKit SSum MerQ MerN MerM MerC MerP
theorem Half (n : Nat) (h2 : 2 ≤ n) (hn : n ≤ 1048576) (w : World) : Calls Tryz.prog 28 #[.int .i64 (n : Int)] w fun e w' => e = .returned (.int .i64 (MerN.half n : Nat)) ∧ w = w' := by
  go_enter Tryz.func28, Tryz.ntmps28
  go_wp2
  go_loop [3] (fun i => ∃ j m : Nat, Hid (2 ^ j = m) ∧ i = .int .i64 m ∧ m < n ∧ 1 ≤ m) (fun i => n - (intOf i).toNat)
  case atStart => exact ⟨0, 1, Lib.hid rfl, rfl, by omega, by omega⟩
  case round =>
    obtain ⟨j, m, hm, rfl, hlt, h1⟩ := hrel
    by_cases h : 2 * m < n
    · have q1 : 2 * (m : Int) < (n : Int) := by omega
      go_wp2
      go_round
      case rel => exact ⟨j + 1, 2 * m, Lib.hid (by rw [Nat.pow_succ, hm.out, Nat.mul_comm]), by go_num, h, by omega⟩
      case measure => simp [intOf]; omega
    · have HE := Lib.hid (half_is (n := n) (j := j) (by rw [hm.out]; exact hlt) (by rw [hm.out]; omega))
      have q1 : ¬ 2 * (m : Int) < (n : Int) := by omega
      go_wp2
      go_ret
      exact ⟨by rw [HE.out, hm.out]; rfl, rfl⟩
theorem longN_le {n i : Nat} (hi : i < n) (hn : n ≤ 1048576) : longN n i ≤ 20 := long_most hi (show n ≤ 2 ^ 20 by simpa using hn)
end Go.Proofs.YtdkcebaehdkphaaGreatDoor.MerH
/- The document's trees of hashes: Root: the walk of its text. No conditions but those that each lemma names. -/
namespace Go.Proofs.YtdkcebaehdkphaaGreatDoor.MerI
open Go.RowKit SSum MerQ MerN MerM MerC MerP MerH
theorem cut_h (q off n c k : Nat) (h0 : 0 < c) (hk : k ≤ c) (W : World) : (Instr.slice 42 (.slice (some ⟨q, off, none⟩) n c) none (some (.int .i64 (k : Int))) none).run Tryz.prog W = .ok (.slice (some ⟨q, off, none⟩) k c) W := by
  rw [run_slice_h (ht := by kernel_rfl) (h0 := by omega) (h2 := by omega)]
  simp [go_sem, sliced, show ¬ c = 0 by omega]
theorem cut_l (q off n c k : Nat) (hk : k ≤ n) (hc : k < c) (W : World) : (Instr.slice 42 (.slice (some ⟨q, off, none⟩) n c) (some (.int .i64 (k : Int))) none none).run Tryz.prog W = .ok (.slice (some ⟨q, off + k, none⟩) (n - k) (c - k)) W := by
  rw [run_slice_l (ht := by kernel_rfl) (h0 := by omega) (h1 := by omega)]
  simp [go_sem, sliced, show ¬ c = k by omega, add_off]
theorem add_l (a b c : L) (h : a ++ b = c) (ha : a.length ≤ 1000000) (hb : b.length ≤ 1000000) (W : World) : (Op.stringOp .add ⟨a.toArray⟩ ⟨b.toArray⟩).run Tryz.prog W = .ok (.string ⟨c.toArray⟩) W := by
  have hs : (⟨a.toArray⟩ : ByteArray).size + (⟨b.toArray⟩ : ByteArray).size ≤ 9223372036854775807 := by
    show a.toArray.size + b.toArray.size ≤ _
    simp
    omega
  have he : (⟨a.toArray⟩ ++ ⟨b.toArray⟩ : ByteArray) = ⟨c.toArray⟩ := by
    rw [← h]
    apply ByteArray.ext
    simp
  have := run_string_add_sum (P := Tryz.prog) (w := W) ⟨a.toArray⟩ ⟨b.toArray⟩ hs
  rw [he] at this
  exact this
theorem strs_take {w : World} {B q off n : Nat} {ls : List L} (h : Strs w B (some ⟨q, off, none⟩) n ls) (k : Nat) (hk : k ≤ n) : Strs w B (some ⟨q, off, none⟩) k (ls.take k) :=
  ⟨by rw [List.length_take, h.1]; omega, fun hn => by
    obtain ⟨b, o, e, hb, hc⟩ := h.2 (by omega)
    cases e
    refine ⟨q, off, rfl, hb, fun i hi => ?_⟩
    rw [hc i (by omega), List.getD_eq_getElem?_getD, List.getD_eq_getElem?_getD, List.getElem?_take_of_lt hi]⟩
theorem strs_drop {w : World} {B q off n : Nat} {ls : List L} (h : Strs w B (some ⟨q, off, none⟩) n ls) (k : Nat) (hk : k ≤ n) : Strs w B (some ⟨q, off + k, none⟩) (n - k) (ls.drop k) :=
  ⟨by rw [List.length_drop, h.1], fun hn => by
    obtain ⟨b, o, e, hb, hc⟩ := h.2 (by omega)
    cases e
    refine ⟨q, off + k, rfl, hb, fun i hi => ?_⟩
    rw [show off + k + i = off + (k + i) by omega, hc (k + i) (by omega), List.getD_eq_getElem?_getD, List.getD_eq_getElem?_getD, List.getElem?_drop]⟩
theorem root_length {ls : List L} (h : ∀ x ∈ ls, x.length = 32) : (MerN.root nd (sum []) ls).length = 32 := by
  unfold MerN.root
  have h1 := lvl_all (fun x : L => x.length = 32) nd_length ls.length ls h
  cases hl : lvl nd ls.length ls with
  | nil => exact sum_length _
  | cons x t => rw [hl] at h1; exact h1 x (by simp)
set_option maxHeartbeats 2000000 in
theorem Root : ∀ (n : Nat) (a : Option Addr) (c : Nat) (ls : List L) (w : World), ls.length = n → n ≤ c → n ≤ 1000000 → Strs w w.heap.size a n ls → (∀ x ∈ ls, x.length = 32) →
    Calls Tryz.prog 16 #[.slice a n c] w fun e w' => e = .returned (str (MerN.root nd (sum []) ls)) ∧ Below w.heap.size w w' := by
  intro n
  induction n using Nat.strongRecOn with
  | _ n ih =>
    intro a c ls w hln hnc hn h h32
    by_cases h0 : n = 0
    · subst h0
      obtain rfl : ls = [] := List.eq_nil_of_length_eq_zero hln
      have HS := Lib.hid (RSum.Sum [] w (by simp))
      rw [root_nil]
      clear ih h h32 hln hnc hn
      go_enter Tryz.func16, Tryz.ntmps16
      go_wp2_with (go_at_call 27; refine HS.out.mono ?_; rintro e w' ⟨rfl, hb⟩; have HB := Lib.hid hb; clear hb)
      go_ret
      exact ⟨rfl, HB.out⟩
    · obtain ⟨q, off, rfl, hq, hc⟩ := h.2 (by omega)
      by_cases h1 : n = 1
      · subst h1
        have hc0 := hc 0 (by omega)
        obtain ⟨x, rfl⟩ : ∃ x, ls = [x] := by
          match ls, hln with
          | [x], _ => exact ⟨x, rfl⟩
        rw [root_one]
        simp only [Nat.add_zero, List.getD_cons_zero] at hc0
        clear ih h h32 hln hnc hn hc h0
        rw [show ((1 : Nat)) = 1 from rfl]
        go_enter Tryz.func16, Tryz.ntmps16
        go_wp2
        go_ret
        exact ⟨rfl, Below.refl _ _⟩
      · have hs := half_spec (n := n) (by omega)
        have HH := Lib.hid (fun W => Half n (by omega) (by omega) W)
        have HSp := Lib.hid (root_split nd (sum []) n ls hln (by omega))
        generalize MerN.half n = k at *
        have ht := fun x hx => h32 x (List.mem_of_mem_take (i := k) hx)
        have hd := fun x hx => h32 x (List.mem_of_mem_drop (i := k) hx)
        have HL := Lib.hid (fun W (hb : Below w.heap.size w W) => ih k (by omega) (some ⟨q, off, none⟩) c (ls.take k) W (by rw [List.length_take, hln]; omega) (by omega) (by omega) (strs_take ((h.below hb).more hb.size) k (by omega)) ht)
        have HR := Lib.hid (fun W (hb : Below w.heap.size w W) => ih (n - k) (by omega) (some ⟨q, off + k, none⟩) (c - k) (ls.drop k) W (by rw [List.length_drop, hln]) (by omega) (by omega) (strs_drop ((h.below hb).more hb.size) k (by omega)) hd)
        have hc1 := cut_h q off n c k (by omega) (by omega)
        have hc2 := cut_l q off n c k (by omega) (by omega)
        have hl1 := root_length ht
        have hl2 := root_length hd
        have HS := Lib.hid (fun (u v : L) (hu : u.length = 32) (hv : v.length = 32) W => RSum.Sum (1 :: (u ++ v)) W (by simp [hu, hv]))
        rw [HSp.out]
        generalize MerN.root nd (sum []) (ls.take k) = u at *
        generalize MerN.root nd (sum []) (ls.drop k) = v at *
        have HSm := Lib.hid (HS.out u v hl1 hl2)
        obtain ⟨t1, ht1⟩ : ∃ t1, 1 :: u = t1 := ⟨_, rfl⟩
        obtain ⟨t2, ht2⟩ : ∃ t2, 1 :: (u ++ v) = t2 := ⟨_, rfl⟩
        have hA1 : ∀ W, (Op.stringOp .add ⟨#[1]⟩ ⟨u.toArray⟩).run Tryz.prog W = .ok (.string ⟨t1.toArray⟩) W := add_l [1] u t1 ht1 (by simp) (by omega)
        have hA2 : ∀ W, (Op.stringOp .add ⟨t1.toArray⟩ ⟨v.toArray⟩).run Tryz.prog W = .ok (.string ⟨t2.toArray⟩) W := add_l t1 v t2 (by rw [← ht1, ← ht2]; rfl) (by rw [← ht1]; simp; omega) (by omega)
        rw [ht2] at HSm
        have HT2 := Lib.hid ht2
        clear ht1 ht2
        have hu' : u.length ≤ 32 := by omega
        have hv' : v.length ≤ 32 := by omega
        have h0' : ((n : Int) == 0) = false := by rw [beq_eq_false_iff_ne]; omega
        have h1' : ((n : Int) == 1) = false := by rw [beq_eq_false_iff_ne]; omega
        clear ih h h32 hln hc ht hd hl1 hl2 HS HSp h0 h1
        have F1 : Hid True := Lib.hid trivial
        have F2 : Hid True := Lib.hid trivial
        have hB0 := Lib.hid (Below.refl w.heap.size w).drew
        go_enter Tryz.func16, Tryz.ntmps16
        go_wp2_with (go_at_call 28; refine (HH.out _).mono ?_; rintro e w' ⟨rfl, rfl⟩)
        go_region_held3 (fun _ => True) (trivial) (first
          | (clear F1; go_at_call 16; refine (HL.out _ hB0.out).mono ?_; rintro e w1 ⟨rfl, hb1⟩; have B1 := Lib.hid (hB0.out.trans (hb1.mono hB0.out.size)); have hS1 : True := trivial; clear hb1)
          | (clear F2; go_at_call 16; refine (HR.out _ B1.out).mono ?_; rintro e w2 ⟨rfl, hb2⟩; have B2 := Lib.hid (B1.out.trans (hb2.mono B1.out.size)); have hS2 : True := trivial; clear hb2)
          | (go_at_call 27; refine (HSm.out _).mono ?_; rintro e w3 ⟨rfl, hb3⟩; have B3 := Lib.hid (B2.out.trans (hb3.mono B2.out.size)); have hS3 : True := trivial; clear hb3))
        go_wp2
        go_ret
        exact ⟨by unfold nd; rw [HT2.out]; rfl, B3.out⟩
end Go.Proofs.YtdkcebaehdkphaaGreatDoor.MerI
