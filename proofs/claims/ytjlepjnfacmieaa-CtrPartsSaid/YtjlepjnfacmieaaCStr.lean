/- What ctr.Stream answers, at any key and numbers: the walk of its text. -/
import Derived.Test.YtjlepjnfacmieaaCBlk
import Derived.Test.YtjlepjnfacmieaaSlice
namespace Go.Proofs.Ytjlepjnfacmieaa.CStr
open Go.RowKit
open CtrN
theorem early (k : ByteArray) (e s f n : Int) (w : World) (hf : IsInt f) (h : (k.size : Int) ≠ 16 ∨ f < 0 ∨ n < 0 ∨ 65536 < f + n) :
    Calls Try.prog 10 #[.string k, .int .i64 e, .int .i64 s, .int .i64 f, .int .i64 n] w fun x w' => x = .returned (.tuple #[.string ⟨#[]⟩, .int .i64 2]) ∧ w = w' := by
  obtain ⟨hf1, hf2⟩ := hf
  by_cases h1 : (k.size : Int) = 16
  · have hk : ((k.size : Int) != 16) = false := by rw [h1]; rfl
    by_cases h2 : f < 0
    · clear h h1
      go_enter Try.func10, Try.ntmps10
      go_wp2
      go_ret2
      exact ⟨rfl, rfl⟩
    · by_cases h3 : n < 0
      · clear h h1
        go_enter Try.func10, Try.ntmps10
        go_wp2
        go_ret2
        exact ⟨rfl, rfl⟩
      · have h4 : 65536 - f < n := by omega
        clear h h1
        go_enter Try.func10, Try.ntmps10
        go_wp2
        go_ret2
        exact ⟨rfl, rfl⟩
  · have hk : ((k.size : Int) != 16) = true := by rw [bne_iff_ne]; exact h1
    clear h h1
    go_enter Try.func10, Try.ntmps10
    go_wp2
    go_ret2
    exact ⟨rfl, rfl⟩
theorem lacks (k : List UInt8) (e s : Int) (f n : Nat) (w : World) (hk : k.length = 16) (h : f + n ≤ 65536) (hc : ¬ (cnt e s 0).2 = 0) :
    Calls Try.prog 10 #[.string ⟨k.toArray⟩, .int .i64 e, .int .i64 s, .int .i64 f, .int .i64 n] w fun x w' => x = .returned (.tuple #[.string ⟨#[]⟩, .int .i64 2]) ∧ Below w.heap.size w w' := by
  have HC := Lib.hid (fun W => CCount.any e s 0 W)
  rw [cnt_no e s 0 hc] at HC
  have hk2 : ((k.length : Int) != 16) = false := by rw [hk]; rfl
  have h1 : ¬ (f : Int) < 0 := by omega
  have h2 : ¬ (n : Int) < 0 := by omega
  have h3 : ¬ 65536 - (f : Int) < n := by omega
  clear hc hk
  go_enter Try.func10, Try.ntmps10
  go_wp2_with fail
  refine (HC.out _).mono ?_
  rintro x w1 ⟨rfl, hb1⟩
  have HB1 := Lib.hid hb1
  clear hb1
  go_wp2
  go_ret2
  exact ⟨rfl, HB1.out⟩
set_option maxRecDepth 100000 in
theorem good (k : List UInt8) (e s f n : Nat) (w : World) (hk : k.length = 16) (h : f + n ≤ 65536) (he : e < 4294967296) (hs : s < 4294967296) :
    Calls Try.prog 10 #[.string ⟨k.toArray⟩, .int .i64 e, .int .i64 s, .int .i64 f, .int .i64 n] w fun x w' => x = .returned (.tuple #[.string ⟨(strm k e s f n).toArray⟩, .int .i64 0]) ∧ Below w.heap.size w w' := by
  have HC := Lib.hid (fun W => CBlk.count_at e s 0 W he hs (by omega))
  obtain ⟨m, hm⟩ : ∃ m, m = (f % 16 + n + 15) / 16 := ⟨_, rfl⟩
  obtain ⟨q, hq⟩ : ∃ q, q = f / 16 := ⟨_, rfl⟩
  obtain ⟨r, hr⟩ : ∃ r, r = f % 16 := ⟨_, rfl⟩
  have HD := Lib.hid (fun W => CBlk.any k e s q m W hk he hs (by omega) (by omega))
  have hlen := blks_length k e s q m
  have HCut : Hid (((blks k e s q m).drop r).take n = strm k e s f n) := by
    show _ = _
    rw [hq, hr]
    exact blks_cut k e s f n m (by omega)
  have hk2 : ((k.length : Int) != 16) = false := by rw [hk]; rfl
  have h1 : ¬ (f : Int) < 0 := by omega
  have h2 : ¬ (n : Int) < 0 := by omega
  have h3 : ¬ 65536 - (f : Int) < n := by omega
  have hfr : (f : Int) % 16 = (r : Int) := by omega
  have hfq : (f : Int) / 16 = (q : Int) := by omega
  have hmq : ((r : Int) + (n : Int) + 16 - 1) / 16 = (m : Int) := by omega
  have hrn : r + n ≤ (blks k e s q m).length := by omega
  have hr16 : r < 16 := by omega
  clear hm hq hr hk he hs
  generalize blks k e s q m = bs at *
  have HEx : Hid ((⟨bs.toArray⟩ : ByteArray).extract r (r + n) = ⟨(strm k e s f n).toArray⟩) := by
    show _ = _
    rw [ByteArray.extract_mk, Nat.add_sub_cancel_left, HCut.out]
  have hsl : ∀ W : World, (Instr.slice 9 (.string ⟨bs.toArray⟩) (some (.int .i64 (r : Int))) (some (.int .i64 ((r : Int) + (n : Int)))) none).run Try.prog W = .ok (.string ⟨(strm k e s f n).toArray⟩) W := by
    intro W
    have := run_slice_string (P := Try.prog) (w := W) 9 ⟨bs.toArray⟩ .i64 .i64 (r : Int) ((r : Int) + (n : Int)) Try.underlying9 (by omega) (by omega) (show (r : Int) + (n : Int) ≤ ((bs.length : Nat) : Int) by omega)
    rw [show ((r : Int) + (n : Int)).toNat = r + n from by omega, Int.toNat_natCast, HEx.out] at this
    exact this
  go_enter Try.func10, Try.ntmps10
  go_wp2_with fail
  refine (HC.out _).mono ?_
  rintro x w1 ⟨rfl, hb1⟩
  have HB1 := Lib.hid hb1
  clear hb1
  go_wp2_with fail
  refine (HD.out _).mono ?_
  rintro x w2 ⟨rfl, hb2⟩
  have HB2 := Lib.hid (HB1.out.trans (hb2.mono HB1.out.size))
  clear hb2
  go_wp2_with fail
  go_ret2
  exact ⟨rfl, HB2.out⟩
/-- THE CONTRACT of ctr.Stream. -/
theorem any (k : List UInt8) (e s f n : Int) (w : World) (hf : IsInt f) :
    Calls Try.prog 10 #[.string ⟨k.toArray⟩, .int .i64 e, .int .i64 s, .int .i64 f, .int .i64 n] w fun x w' => x = .returned (.tuple #[.string ⟨(stream k e s f n).1.toArray⟩, .int .i64 (stream k e s f n).2]) ∧ Below w.heap.size w w' := by
  by_cases h : k.length = 16 ∧ 0 ≤ f ∧ 0 ≤ n ∧ f + n ≤ 65536
  · obtain ⟨hk, h1, h2, h3⟩ := h
    obtain ⟨a, rfl⟩ := Int.eq_ofNat_of_zero_le h1
    obtain ⟨b, rfl⟩ := Int.eq_ofNat_of_zero_le h2
    by_cases hc : (cnt e s 0).2 = 0
    · obtain ⟨g1, g2, _⟩ := cnt_ok e s 0 hc
      obtain ⟨c, rfl⟩ := Int.eq_ofNat_of_zero_le g1.1
      obtain ⟨d, rfl⟩ := Int.eq_ofNat_of_zero_le g2.1
      rw [stream_good k c d a b hk (by omega) (by omega) (by omega)]
      exact good k c d a b w hk (by omega) (by omega) (by omega)
    · rw [stream_bad k e s _ _ (fun hh => hc (by rw [cnt, if_pos ⟨hh.2.2.2.2.1, hh.2.2.2.2.2, by omega, by omega⟩]))]
      exact lacks k e s a b w hk (by omega) hc
  · rw [stream_bad k e s f n (fun hh => h ⟨hh.1, hh.2.1, hh.2.2.1, hh.2.2.2.1⟩)]
    refine (early ⟨k.toArray⟩ e s f n w hf ?_).mono fun _ _ ⟨h1, h2⟩ => ⟨h1, h2 ▸ Below.refl _ _⟩
    show ((k.length : Nat) : Int) ≠ 16 ∨ _
    omega
end Go.Proofs.Ytjlepjnfacmieaa.CStr
