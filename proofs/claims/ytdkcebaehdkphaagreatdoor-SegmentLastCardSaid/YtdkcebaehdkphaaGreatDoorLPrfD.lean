/- PrfS PrfD: one behind the other. -/
import Derived.Test.YtdkcebaehdkphaaGreatDoorLPrfA
import Derived.Test.YtdkcebaehdkphaaGreatDoorLRef
import Derived.Test.YtdkcebaehdkphaaGreatDoorLRsum
/- The document's Said of a leaf: the walk of its text. No conditions but those that each lemma names. -/
namespace Go.Proofs.YtdkcebaehdkphaaGreatDoor.PrfS
open Go.RowKit
open PrfL PrfM PrfB MerQ
set_option maxRecDepth 100000 in
theorem Said (x : Lf) (w : World) (hf : Fit x) : Calls Tryz.prog 29 #[.agg #[.int .i64 x.1, st x.2]] w fun e w' => e = .returned (st (said x)) ∧ Below w.heap.size w w' := by
  have HX := Lib.hid (box_new w x)
  have HB := Lib.hid (below_new w (.cells #[.int .i64 x.1, st x.2] 45))
  unfold Fit maxLen at hf
  by_cases hok : okL x = true
  · have HS := Lib.hid (said_yes hok)
    obtain ⟨h0, h1, h2⟩ := okL_spec hok
    have HP := Lib.hid (fun W => RPut.any x.1 4 W (by omega))
    rw [put4 ⟨h0, h1⟩] at HP
    obtain ⟨n, s⟩ := x
    dsimp only at HX HB HP HS h0 h1 h2 ⊢
    have hl : (be 4 n.toNat).length = 4 := be_length _ _
    generalize be 4 n.toNat = b at *
    rw [HS.out]
    have q0 : ¬ n < 0 := by omega
    have q1 : ¬ (4095 : Int) < n := by omega
    have q2 : ((s.length : Int) == 32) = true := by rw [h2]; rfl
    clear hok HS hf h0 h1
    go_enter Tryz.func29, Tryz.ntmps29
    go_upto_region 1 with (fail)
    generalize World.alloc w _ = W1 at *
    obtain ⟨k0, k1⟩ := HX.out
    clear HX
    dsimp only at k0 k1
    go_wp2_with (go_at_call 37; refine (HP.out _).mono ?_; rintro e w' ⟨rfl, hb⟩; have k1' := (hb.cell (p := ⟨w.heap.size, 1, none⟩) (World.block_lt_of_cell? _ _ k1)).trans k1; have HB2 := Lib.hid (HB.out.trans (hb.mono HB.out.size)); clear hb)
    go_ret
    exact ⟨by simp [ByteArray.mk_append_mk], HB2.out⟩
  · have HS := Lib.hid (said_no (by simpa using hok))
    obtain ⟨n, s⟩ := x
    dsimp only at HX HB HS ⊢
    rw [HS.out]
    have hno : ¬ (0 ≤ n ∧ n ≤ 4095 ∧ s.length = 32) := fun h => hok (by unfold okL; rw [decide_eq_true ⟨h.1, h.2.1⟩, decide_eq_true h.2.2]; rfl)
    by_cases h0 : n < 0
    · clear hok HS hno hf
      go_enter Tryz.func29, Tryz.ntmps29
      go_upto_region 1 with (fail)
      generalize World.alloc w _ = W1 at *
      obtain ⟨k0, k1⟩ := HX.out
      clear HX
      dsimp only at k0 k1
      go_wp2
      go_ret
      exact ⟨rfl, HB.out⟩
    · by_cases h1 : (4095 : Int) < n
      · clear hok HS hno hf
        go_enter Tryz.func29, Tryz.ntmps29
        go_upto_region 1 with (fail)
        generalize World.alloc w _ = W1 at *
        obtain ⟨k0, k1⟩ := HX.out
        clear HX
        dsimp only at k0 k1
        go_wp2
        go_ret
        exact ⟨rfl, HB.out⟩
      · have q2 : ((s.length : Int) == 32) = false := by rw [beq_eq_false_iff_ne]; omega
        clear hok HS hno
        go_enter Tryz.func29, Tryz.ntmps29
        go_upto_region 1 with (fail)
        generalize World.alloc w _ = W1 at *
        obtain ⟨k0, k1⟩ := HX.out
        clear HX
        dsimp only at k0 k1
        go_wp2
        go_ret
        exact ⟨rfl, HB.out⟩
end Go.Proofs.YtdkcebaehdkphaaGreatDoor.PrfS
/- The document's hash of data: the walk of its text. No conditions but those that each lemma names. -/
namespace Go.Proofs.YtdkcebaehdkphaaGreatDoor.PrfD
open Go.RowKit
open PrfL PrfM PrfB MerQ PrfS
/-- The hash of an epoch's, a slot's and a cipher's bytes, if there is one. -/
def dataR (ep sl : Int) (s : L) : L × Bool := if (0 ≤ ep ∧ ep ≤ 4294967295) ∧ 0 ≤ sl ∧ sl ≤ 4294967295 then (sum (be 4 ep.toNat ++ be 4 sl.toNat ++ s), true) else ([], false)
theorem put_in {n : Int} (h : 0 ≤ n ∧ n ≤ 4294967295) : put n 4 = (be 4 n.toNat, 0) := by
  unfold put
  have e : (256 : Int) ^ (4 : Int).toNat = 4294967296 := rfl
  rw [if_pos ⟨by omega, by omega, by omega, by rw [e]; omega⟩]
  rfl
theorem put_out {n : Int} (h : ¬ (0 ≤ n ∧ n ≤ 4294967295)) : put n 4 = ([], 2) := by
  unfold put
  have e : (256 : Int) ^ (4 : Int).toNat = 4294967296 := rfl
  rw [if_neg (by rw [e]; omega)]
set_option maxRecDepth 100000 in
theorem Data9 (ep sl : Int) (s : L) (w : World) (h1 : ep ≤ 9223372036854775807) (h2 : sl ≤ 9223372036854775807) (hs : s.length ≤ 140737488355328) :
    Calls Tryz.prog 23 #[.int .i64 ep, .int .i64 sl, st s] w fun e w' => e = .returned (.tuple #[st (dataR ep sl s).1, .bool (dataR ep sl s).2]) ∧ Below w.heap.size w w' := by
  have HP1 := Lib.hid (fun W => RPut.any ep 4 W h1)
  have HP2 := Lib.hid (fun W => RPut.any sl 4 W h2)
  have HB0 := Lib.hid (Below.refl w.heap.size w)
  by_cases c1 : 0 ≤ ep ∧ ep ≤ 4294967295
  · rw [put_in c1] at HP1
    by_cases c2 : 0 ≤ sl ∧ sl ≤ 4294967295
    · rw [put_in c2] at HP2
      have ha := be_length 4 ep.toNat
      have hb := be_length 4 sl.toNat
      have HR : Hid (dataR ep sl s = (sum (be 4 ep.toNat ++ be 4 sl.toNat ++ s), true)) := Lib.hid (if_pos ⟨c1, c2⟩)
      generalize be 4 ep.toNat = a at *
      generalize be 4 sl.toNat = b at *
      rw [HR.out]
      have HS : Hid (∀ W, Calls Tryz.prog 27 #[.string (⟨a.toArray⟩ ++ ⟨b.toArray⟩ ++ ⟨s.toArray⟩)] W fun e w' => e = .returned (st (sum (a ++ b ++ s))) ∧ Below W.heap.size W w') := Lib.hid fun W => by
        have e : (⟨a.toArray⟩ ++ ⟨b.toArray⟩ ++ ⟨s.toArray⟩ : ByteArray) = ⟨(a ++ b ++ s).toArray⟩ := by
          apply ByteArray.ext
          simp
        rw [e]
        exact RSum.Sum (a ++ b ++ s) W (by simp only [List.length_append]; omega)
      clear HR c1 c2
      go_enter Tryz.func23, Tryz.ntmps23
      have F1 : Hid True := Lib.hid trivial
      go_wp2_with (first
        | (clear F1; go_at_call 37; refine (HP1.out _).mono ?_; rintro e w1 ⟨rfl, hb1⟩; have B1 := Lib.hid (HB0.out.trans hb1); clear hb1)
        | (go_at_call 37; refine (HP2.out _).mono ?_; rintro e w2 ⟨rfl, hb2⟩; have B2 := Lib.hid (B1.out.trans (hb2.mono B1.out.size)); clear hb2)
        | (go_at_call 27; refine (HS.out _).mono ?_; rintro e w3 ⟨rfl, hb3⟩; have B3 := Lib.hid (B2.out.trans (hb3.mono B2.out.size)); clear hb3))
      go_ret2
      exact ⟨by rw [List.append_assoc]; rfl, B3.out⟩
    · rw [put_out c2] at HP2
      have HR : Hid (dataR ep sl s = ([], false)) := Lib.hid (if_neg fun h => c2 h.2)
      rw [HR.out]
      generalize be 4 ep.toNat = a at *
      clear HR c1 c2
      go_enter Tryz.func23, Tryz.ntmps23
      have F1 : Hid True := Lib.hid trivial
      go_wp2_with (first
        | (clear F1; go_at_call 37; refine (HP1.out _).mono ?_; rintro e w1 ⟨rfl, hb1⟩; have B1 := Lib.hid (HB0.out.trans hb1); clear hb1)
        | (go_at_call 37; refine (HP2.out _).mono ?_; rintro e w2 ⟨rfl, hb2⟩; have B2 := Lib.hid (B1.out.trans (hb2.mono B1.out.size)); clear hb2))
      go_ret2
      exact ⟨rfl, B2.out⟩
  · rw [put_out c1] at HP1
    have HR : Hid (dataR ep sl s = ([], false)) := Lib.hid (if_neg fun h => c1 h.1)
    rw [HR.out]
    obtain ⟨v, hv⟩ : ∃ v : Int, (put sl 4).2 = v ∧ (v = 0 ∨ v = 2) := by
      by_cases c2 : 0 ≤ sl ∧ sl ≤ 4294967295
      · exact ⟨0, by rw [put_in c2], .inl rfl⟩
      · exact ⟨2, by rw [put_out c2], .inr rfl⟩
    generalize (put sl 4).1 = b at *
    rw [hv.1] at HP2
    clear HR c1
    rcases hv.2 with rfl | rfl
    · clear hv
      go_enter Tryz.func23, Tryz.ntmps23
      have F1 : Hid True := Lib.hid trivial
      go_wp2_with (first
        | (clear F1; go_at_call 37; refine (HP1.out _).mono ?_; rintro e w1 ⟨rfl, hb1⟩; have B1 := Lib.hid (HB0.out.trans hb1); clear hb1)
        | (go_at_call 37; refine (HP2.out _).mono ?_; rintro e w2 ⟨rfl, hb2⟩; have B2 := Lib.hid (B1.out.trans (hb2.mono B1.out.size)); clear hb2))
      go_ret2
      exact ⟨rfl, B2.out⟩
    · clear hv
      go_enter Tryz.func23, Tryz.ntmps23
      have F1 : Hid True := Lib.hid trivial
      go_wp2_with (first
        | (clear F1; go_at_call 37; refine (HP1.out _).mono ?_; rintro e w1 ⟨rfl, hb1⟩; have B1 := Lib.hid (HB0.out.trans hb1); clear hb1)
        | (go_at_call 37; refine (HP2.out _).mono ?_; rintro e w2 ⟨rfl, hb2⟩; have B2 := Lib.hid (B1.out.trans (hb2.mono B1.out.size)); clear hb2))
      go_ret2
      exact ⟨rfl, B2.out⟩
theorem Data (ep sl : Int) (s : L) (w : World) (h1 : ep ≤ 9223372036854775807) (h2 : sl ≤ 9223372036854775807) (hs : s.length ≤ 1000) :
    Calls Tryz.prog 23 #[.int .i64 ep, .int .i64 sl, st s] w fun e w' => e = .returned (.tuple #[st (dataR ep sl s).1, .bool (dataR ep sl s).2]) ∧ Below w.heap.size w w' := Data9 ep sl s w h1 h2 (by omega)
end Go.Proofs.YtdkcebaehdkphaaGreatDoor.PrfD
