/- ctr.blocks: so many counters' blocks, encrypted one behind the other: the walk of its text. The conditions: a key of 16 bytes, an epoch and a slot that may be, numbers below 100,000. -/
import Derived.Test.YtjlepjnfacmieaaCCount
import Derived.Test.YtjlepjnfacmieaaAEnc
import Derived.Test.YtjlepjnfacmieaaBWrite
namespace Go.Proofs.Ytjlepjnfacmieaa.CBlk
open Go.RowKit
open CtrN ANew AesM
open BWrite (Holds)
theorem enc_blk (b : Nat) (k : List UInt8) (e s i : Nat) (w : World) (hc : Cip w b k) (hk : k.length = 16) :
    Calls Try.prog 22 #[.pointer (some ⟨b, 0, none⟩), .string ⟨(cntB e s i).toArray⟩] w fun x w' => x = .returned (.tuple #[.string ⟨(blk k e s i).toArray⟩, .int .i64 0]) ∧ Below w.heap.size w w' := by
  have h := AEnc.CEnc b k (cntB e s i) w hc hk
  rw [AEnc.enc, if_pos ⟨hk, cntB_length e s i⟩] at h
  exact h
theorem count_at (e s i : Nat) (w : World) (he : e < 4294967296) (hs : s < 4294967296) (hi : i < 4294967296) :
    Calls Try.prog 8 #[.int .i64 e, .int .i64 s, .int .i64 i] w fun x w' => x = .returned (.tuple #[.string ⟨(cntB e s i).toArray⟩, .int .i64 0]) ∧ Below w.heap.size w w' := by
  have h := CCount.any e s i w
  rw [cnt_good e s i he hs hi] at h
  exact h
set_option maxRecDepth 100000 in
theorem any (k : List UInt8) (e s f m : Nat) (w : World) (hk : k.length = 16) (he : e < 4294967296) (hs : s < 4294967296) (hf : f ≤ 50000) (hm : m ≤ 50000) :
    Calls Try.prog 17 #[.string ⟨k.toArray⟩, .int .i64 e, .int .i64 s, .int .i64 f, .int .i64 m] w fun x w' => x = .returned (.tuple #[.string ⟨(blks k e s f m).toArray⟩, .int .i64 0]) ∧ Below w.heap.size w w' := by
  have HN := Lib.hid (fun W => New k W hk)
  have HE := Lib.hid (fun b i W h => enc_blk b k e s i W h hk)
  have HC := Lib.hid (fun i W hi => count_at e s i W he hs hi)
  clear hk he hs
  go_enter Try.func17, Try.ntmps17
  go_wp2_with fail
  refine (HN.out _).mono ?_
  rintro x w1 ⟨b, rfl, hc1, _, hb1⟩
  have HLt := Lib.hid hc1.lt
  have HCp := Lib.hid (hc1.step ((Below.refl w1.heap.size w1).alloc (Nat.le_refl _) (.cells #[.pointer none, .slice none 0 0] 55)))
  have HB1 := Lib.hid hb1
  have HBe := Lib.hid (hb1.alloc hb1.size (.cells #[.pointer none, .slice none 0 0] 55))
  have HF := Lib.hid (BWrite.fresh w1)
  clear hc1 hb1
  go_wp2_with fail
  go_loopw [28] (fun i wr => ∃ j : Nat, j ≤ m ∧ i = .int .i64 j ∧ Holds w1.heap.size (blks k e s f j) wr ∧ Cip wr b k ∧ Below w.heap.size w wr ∧ w1.heap.size ≤ wr.heap.size) (fun i _ => m - (intOf i).toNat)
  case atStart => exact ⟨0, Nat.zero_le _, rfl, HF.out, HCp.out, HBe.out, by simp⟩
  case round =>
    obtain ⟨j, hj, rfl, hbu, hci, hbe, hsz⟩ := hrel
    have HBu := Lib.hid hbu
    have HCi := Lib.hid hci
    have HBw := Lib.hid hbe
    clear hbu hci hbe HF HCp HBe
    by_cases hlt : j < m
    · have HL : Hid ((blks k e s f j).length + (blk k e s (f + j)).length ≤ 1000000) := by show _ ≤ _; rw [blks_length, blk_length]; omega
      have HNx : Hid (blks k e s f (j + 1) = blks k e s f j ++ blk k e s (f + j)) := Lib.hid rfl
      have hfj : (f : Int) + (j : Int) = ((f + j : Nat) : Int) := by omega
      have HIdx : Hid (f + j < 4294967296) := by show _ < _; omega
      generalize f + j = p at *
      go_wp2_with fail
      refine (HC.out p _ HIdx.out).mono ?_
      rintro x w2 ⟨rfl, hb2⟩
      have HBu2 := Lib.hid (HBu.out.step hb2)
      have HCi2 := Lib.hid (HCi.out.step hb2)
      have HBw2 := Lib.hid (HBw.out.trans (hb2.mono HBw.out.size))
      have hsz2 : w1.heap.size ≤ w2.heap.size := Nat.le_trans hsz hb2.size
      clear hb2
      go_wp2_with fail
      refine (HE.out b p _ HCi2.out).mono ?_
      rintro x w3 ⟨rfl, hb3⟩
      have HBu3 := Lib.hid (HBu2.out.step hb3)
      have HCi3 := Lib.hid (HCi2.out.step hb3)
      have HBw3 := Lib.hid (HBw2.out.trans (hb3.mono HBw2.out.size))
      have hsz3 : w1.heap.size ≤ w3.heap.size := Nat.le_trans hsz2 hb3.size
      clear hb3
      go_wp2_with fail
      refine (BWrite.write w1.heap.size (blks k e s f j) (blk k e s p) _ HBu3.out HL.out hsz3).mono ?_
      rintro x w4 ⟨rfl, hbu4, hb4⟩
      rw [← HNx.out] at hbu4
      have HBu4 := Lib.hid hbu4
      have HCi4 : Hid (Cip w4 b k) := Lib.hid ((hb4.block b HLt.out).trans HCi3.out)
      have HBw4 := Lib.hid (HBw3.out.trans (hb4.mono HB1.out.size))
      have hsz4 : w1.heap.size ≤ w4.heap.size := Nat.le_trans hsz3 hb4.size
      clear hbu4 hb4
      go_wp2_with fail
      go_roundw
      case rel => exact ⟨j + 1, by omega, by go_num, HBu4.out, HCi4.out, HBw4.out, hsz4⟩
      case measure => simp [intOf]; omega
    · obtain rfl : j = m := by omega
      have HSt := Lib.hid (BWrite.text w1.heap.size (blks k e s f j) wr HBu.out hsz)
      clear HBu HCi
      go_wp2_with fail
      refine HSt.out.mono ?_
      rintro x w2 ⟨rfl, _, hb2⟩
      have HBe2 := Lib.hid (HBw.out.trans (hb2.mono HB1.out.size))
      clear hb2
      go_wp2_with fail
      go_ret2
      exact ⟨rfl, HBe2.out⟩
end Go.Proofs.Ytjlepjnfacmieaa.CBlk
