/- What keepsakeref06.Stream answers, at any key and numbers: the walk of its text. -/
import Derived.Test.YtjlepjnfacmieaaRCount
import Derived.Test.YtjlepjnfacmieaaAREnc
namespace Go.Proofs.Ytjlepjnfacmieaa.RStr
open Go.RowKit
open CtrN AesM
theorem early (k : ByteArray) (e s f n : Int) (w : World) (h : (k.size : Int) ≠ 16 ∨ f < 0 ∨ n < 0 ∨ 65536 < f + n) :
    Calls Try.prog 11 #[.string k, .int .i64 e, .int .i64 s, .int .i64 f, .int .i64 n] w fun x w' => x = .returned (.tuple #[.string ⟨#[]⟩, .bool false]) ∧ w = w' := by
  by_cases h1 : (k.size : Int) = 16
  · have hk : ((k.size : Int) != 16) = false := by rw [h1]; rfl
    by_cases h2 : f < 0
    · clear h h1
      go_enter Try.func11, Try.ntmps11
      go_wp2
      go_ret2
      exact ⟨rfl, rfl⟩
    · by_cases h3 : n < 0
      · clear h h1
        go_enter Try.func11, Try.ntmps11
        go_wp2
        go_ret2
        exact ⟨rfl, rfl⟩
      · by_cases h4 : 65536 < f
        · clear h h1
          go_enter Try.func11, Try.ntmps11
          go_wp2
          go_ret2
          exact ⟨rfl, rfl⟩
        · by_cases h5 : 65536 < n
          · clear h h1
            go_enter Try.func11, Try.ntmps11
            go_wp2
            go_ret2
            exact ⟨rfl, rfl⟩
          · have h6 : 65536 < f + n := by omega
            clear h h1
            go_enter Try.func11, Try.ntmps11
            go_wp2
            go_ret2
            exact ⟨rfl, rfl⟩
  · have hk : ((k.size : Int) != 16) = true := by rw [bne_iff_ne]; exact h1
    clear h h1
    go_enter Try.func11, Try.ntmps11
    go_wp2
    go_ret2
    exact ⟨rfl, rfl⟩
theorem lacks (k : List UInt8) (e s : Int) (f n : Nat) (w : World) (ie : IsInt e) (is : IsInt s) (hk : k.length = 16) (h : f + n ≤ 65536) (hc : ¬ (cnt e s 0).2 = 0) :
    Calls Try.prog 11 #[.string ⟨k.toArray⟩, .int .i64 e, .int .i64 s, .int .i64 f, .int .i64 n] w fun x w' => x = .returned (.tuple #[.string ⟨#[]⟩, .bool false]) ∧ Below w.heap.size w w' := by
  have HC := Lib.hid (fun W => RCount.bad e s 0 W ie is ⟨by omega, by omega⟩ hc)
  have hk2 : ((k.length : Int) != 16) = false := by rw [hk]; rfl
  clear hc hk ie is
  go_enter Try.func11, Try.ntmps11
  go_wp2_with fail
  refine (HC.out _).mono ?_
  rintro x w1 ⟨rfl, hb1⟩
  have HB1 := Lib.hid hb1
  clear hb1
  go_wp2
  go_ret2
  exact ⟨rfl, HB1.out⟩
theorem one_cut (l : List UInt8) (r : Nat) (h : r < l.length) (W : World) :
    (Instr.slice 9 (.string ⟨l.toArray⟩) (some (.int .i64 (r : Int))) (some (.int .i64 ((r : Int) + 1))) none).run Try.prog W = .ok (.string ⟨[l.getD r 0].toArray⟩) W := by
  have := run_slice_string (P := Try.prog) (w := W) 9 ⟨l.toArray⟩ .i64 .i64 (r : Int) ((r : Int) + 1) Try.underlying9 (by omega) (by omega) (show (r : Int) + 1 ≤ ((l.length : Nat) : Int) by omega)
  rw [show ((r : Int) + 1).toNat = r + 1 from by omega, Int.toNat_natCast, ByteArray.extract_mk, show r + 1 - r = 1 from by omega, List.drop_eq_getElem_cons h, List.take_succ_cons, List.take_zero] at this
  rw [this]
  simp [List.getD, h]
set_option maxRecDepth 100000 in
theorem good (k : List UInt8) (e s f n : Nat) (w : World) (hk : k.length = 16) (h : f + n ≤ 65536) (he : e < 4294967296) (hs : s < 4294967296) :
    Calls Try.prog 11 #[.string ⟨k.toArray⟩, .int .i64 e, .int .i64 s, .int .i64 f, .int .i64 n] w fun x w' => x = .returned (.tuple #[.string ⟨(strm k e s f n).toArray⟩, .bool true]) ∧ Below w.heap.size w w' := by
  have HC0 := Lib.hid (fun W => RCount.good e s 0 W he hs (by omega))
  have HC := Lib.hid (fun i W hi => RCount.good e s i W he hs hi)
  have HE : Hid (∀ i W, Calls Try.prog 18 #[.string ⟨k.toArray⟩, .string ⟨(cntB e s i).toArray⟩] W fun x w' => x = .returned (.string ⟨(blk k e s i).toArray⟩) ∧ Below W.heap.size W w') :=
    Lib.hid (fun i W => AREnc.Encrypt k (cntB e s i) W hk (cntB_length e s i))
  have hk2 : ((k.length : Int) != 16) = false := by rw [hk]; rfl
  clear hk he hs
  go_enter Try.func11, Try.ntmps11
  go_wp2_with fail
  refine (HC0.out _).mono ?_
  rintro x w1 ⟨rfl, hb1⟩
  have HB1 := Lib.hid hb1
  clear hb1
  go_wp2_with fail
  go_loopw [14, 15, 16, 17] (fun o a b i wr => ∃ j : Nat, j ≤ n ∧ i = .int .i64 (f + j : Nat) ∧ o = .string ⟨(strm k e s f j).toArray⟩ ∧ ((a = .int .i64 (-1) ∧ b = .string ⟨#[]⟩) ∨ ∃ q : Nat, a = .int .i64 q ∧ b = .string ⟨(blk k e s q).toArray⟩) ∧ Below w.heap.size w wr) (fun _ _ _ i _ => n + f - (intOf i).toNat)
  case atStart => exact ⟨0, Nat.zero_le _, rfl, rfl, .inl ⟨rfl, rfl⟩, HB1.out⟩
  case round =>
    obtain ⟨j, hj, rfl, rfl, hab, hbe⟩ := hrel
    have HBw := Lib.hid hbe
    clear hbe
    obtain ⟨p, hp⟩ : ∃ p, p = f + j := ⟨_, rfl⟩
    rw [← hp]
    by_cases hlt : j < n
    · obtain ⟨c, hc⟩ : ∃ c, c = p / 16 := ⟨_, rfl⟩
      obtain ⟨r, hr⟩ : ∃ r, r = p % 16 := ⟨_, rfl⟩
      have hpc : (p : Int) / 16 = (c : Int) := by omega
      have hpr : (p : Int) % 16 = (r : Int) := by omega
      have hr16 : r < 16 := by omega
      have HCl : Hid (c < 4294967296) := by show _ < _; omega
      have hsl := one_cut (blk k e s c) r (by rw [blk_length]; omega)
      have hbl := blk_length k e s c
      have HNx : Hid ((⟨(strm k e s f j).toArray⟩ : ByteArray) ++ ⟨[(blk k e s c).getD r 0].toArray⟩ = ⟨(strm k e s f (j + 1)).toArray⟩) := by
        show _ = _
        rw [ByteArray.mk_append_mk, strm_next, byteAt, ← hp, ← hc, ← hr]
      have hsj := strm_length k e s f j
      generalize (blk k e s c).getD r 0 = y at *
      have hpn : (p : Int) < (f : Int) + (n : Int) := by omega
      have hp6 : p < 65536 := by omega
      have HP := Lib.hid hp
      clear hc hr hp
      rcases hab with ⟨rfl, rfl⟩ | ⟨q, rfl, rfl⟩
      · have hne : ((c : Int) != -1) = true := by rw [bne_iff_ne]; omega
        go_wp2_with fail
        refine (HC.out c _ HCl.out).mono ?_
        rintro x w2 ⟨rfl, hb2⟩
        have HB2 := Lib.hid (HBw.out.trans (hb2.mono HBw.out.size))
        clear hb2
        go_wp2_with fail
        refine (HE.out c _).mono ?_
        rintro x w3 ⟨rfl, hb3⟩
        have HB3 := Lib.hid (HB2.out.trans (hb3.mono HB2.out.size))
        clear hb3
        go_wp2_with fail
        go_roundw
        case rel => exact ⟨j + 1, by omega, by rw [← Nat.add_assoc, ← HP.out]; go_num, by rw [HNx.out], .inr ⟨c, rfl, rfl⟩, HB3.out⟩
        case measure => have := HP.out; simp [intOf]; omega
      · by_cases hqc : c = q
        · subst hqc
          go_wp2_with fail
          go_roundw
          case rel => exact ⟨j + 1, by omega, by rw [← Nat.add_assoc, ← HP.out]; go_num, by rw [HNx.out], .inr ⟨c, rfl, rfl⟩, HBw.out⟩
          case measure => have := HP.out; simp [intOf]; omega
        · have hne : ((c : Int) != (q : Int)) = true := by rw [bne_iff_ne]; omega
          go_wp2_with fail
          refine (HC.out c _ HCl.out).mono ?_
          rintro x w2 ⟨rfl, hb2⟩
          have HB2 := Lib.hid (HBw.out.trans (hb2.mono HBw.out.size))
          clear hb2
          go_wp2_with fail
          refine (HE.out c _).mono ?_
          rintro x w3 ⟨rfl, hb3⟩
          have HB3 := Lib.hid (HB2.out.trans (hb3.mono HB2.out.size))
          clear hb3
          go_wp2_with fail
          go_roundw
          case rel => exact ⟨j + 1, by omega, by rw [← Nat.add_assoc, ← HP.out]; go_num, by rw [HNx.out], .inr ⟨c, rfl, rfl⟩, HB3.out⟩
          case measure => have := HP.out; simp [intOf]; omega
    · obtain rfl : j = n := by omega
      have hpn : ¬ (p : Int) < (f : Int) + (j : Int) := by omega
      clear hab hp
      go_wp2_with fail
      go_ret2
      exact ⟨rfl, HBw.out⟩
/-- Whether there is such a stream. -/
def has (k : List UInt8) (e s f n : Int) : Bool := (stream k e s f n).2 == 0
/-- THE CONTRACT of keepsakeref06.Stream. -/
theorem any (k : List UInt8) (e s f n : Int) (w : World) (he : IsInt e) (hs : IsInt s) :
    Calls Try.prog 11 #[.string ⟨k.toArray⟩, .int .i64 e, .int .i64 s, .int .i64 f, .int .i64 n] w fun x w' => x = .returned (.tuple #[.string ⟨(stream k e s f n).1.toArray⟩, .bool (has k e s f n)]) ∧ Below w.heap.size w w' := by
  unfold has
  by_cases h : k.length = 16 ∧ 0 ≤ f ∧ 0 ≤ n ∧ f + n ≤ 65536
  · obtain ⟨hk, h1, h2, h3⟩ := h
    obtain ⟨a, rfl⟩ := Int.eq_ofNat_of_zero_le h1
    obtain ⟨b, rfl⟩ := Int.eq_ofNat_of_zero_le h2
    by_cases hc : (cnt e s 0).2 = 0
    · obtain ⟨g1, g2, _⟩ := cnt_ok e s 0 hc
      obtain ⟨c, rfl⟩ := Int.eq_ofNat_of_zero_le g1.1
      obtain ⟨d, rfl⟩ := Int.eq_ofNat_of_zero_le g2.1
      rw [stream_good k c d a b hk (by omega) (by omega) (by omega)]
      exact good k c d a b w hk (by omega) (by omega) (by omega)
    · rw [stream_bad k e s _ _ (fun hh => hc (by rw [cnt, if_pos ⟨hh.2.2.2.2.1, hh.2.2.2.2.2, by omega, by omega⟩]))]
      exact lacks k e s a b w he hs hk (by omega) hc
  · rw [stream_bad k e s f n (fun hh => h ⟨hh.1, hh.2.1, hh.2.2.1, hh.2.2.2.1⟩)]
    refine (early ⟨k.toArray⟩ e s f n w ?_).mono fun _ _ ⟨h1, h2⟩ => ⟨h1, h2 ▸ Below.refl _ _⟩
    show ((k.length : Nat) : Int) ≠ 16 ∨ _
    omega
end Go.Proofs.Ytjlepjnfacmieaa.RStr
