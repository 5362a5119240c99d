/- The main walk of the statement of making receipts. The conditions: a row of sealed records and a receipt that came in, of so few bytes as the statement goes through. -/
import Derived.Test.YtkidehngleglnaaRcpA
import Derived.Test.YtkidehngleglnaaLRcp
import Derived.Test.YtkidehngleglnaaRcpO
import Derived.Test.YtkidehngleglnaaRcpS
import Derived.Test.YtkidehngleglnaaChnE
import Derived.BigQuiet
namespace Go.Proofs.Ytkidehngleglnaa.RcpX
set_option linter.unusedVariables false
open Go.RowKit
open RecN RecC ChnN ChnM ChnC ChnD ChnE RcpN RcpC RcpQ RcpD
/-- The six ways behind the loop. -/
theorem ways (x y : Rcp) (z : Int) : (rok x ∧ z = 0 ∧ y = x) ∨ (rok x ∧ z = 0 ∧ ¬ y = x) ∨ (rok x ∧ ¬ z = 0) ∨ (¬ rok x ∧ z = 0 ∧ y = x) ∨ (¬ rok x ∧ z = 0 ∧ ¬ y = x) ∨ (¬ rok x ∧ ¬ z = 0) := by
  by_cases hr : rok x
  · by_cases hz : z = 0
    · by_cases hy : y = x
      · exact .inl ⟨hr, hz, hy⟩
      · exact .inr (.inl ⟨hr, hz, hy⟩)
    · exact .inr (.inr (.inl ⟨hr, hz⟩))
  · by_cases hz : z = 0
    · by_cases hy : y = x
      · exact .inr (.inr (.inr (.inl ⟨hr, hz, hy⟩)))
      · exact .inr (.inr (.inr (.inr (.inl ⟨hr, hz, hy⟩))))
    · exact .inr (.inr (.inr (.inr (.inr ⟨hr, hz⟩))))
theorem says_some (x : Rcp) (h : rok x) : says x.was x.q x.r = (say x.was x.q x.r, true) := says_yes (rok_say h)
set_option maxRecDepth 100000 in
set_option maxHeartbeats 8000000 in
theorem main (a : Option Addr) (n c : Nat) (s : List Sd) (i : Int) (x : Rcp) (w : World) (hs : Came w a n c s) (hx : Fit x) (few : fewB s = true) (fewx : fewR x = true) :
    Calls Try.prog 3 #[.slice a n c, .int .i64 i, .agg #[.int .i64 x.q, .int .i64 x.r.k, .int .i64 x.r.ep, .int .i64 x.r.tm, .int .i64 x.r.ct, .int .i64 x.r.tg, .int .i64 x.r.un, .string ⟨x.r.rt.toArray⟩, .string ⟨x.r.nm.toArray⟩, .string ⟨x.was.toArray⟩, .string ⟨x.tag.toArray⟩]] w fun e w' => e = .returned (.bool true) ∧ Below w.heap.size w w' := by
  obtain ⟨hn60, _⟩ := few_in few
  have hl := hs.1
  rw [hl] at hn60
  have hcap := hs.2.2.1
  have hL := hs.2.2.2.2
  obtain ⟨W1, hW1⟩ : ∃ W1, W1 = w.alloc (.cells #[.int .i64 x.q, .int .i64 x.r.k, .int .i64 x.r.ep, .int .i64 x.r.tm, .int .i64 x.r.ct, .int .i64 x.r.tg, .int .i64 x.r.un, .string ⟨x.r.rt.toArray⟩, .string ⟨x.r.nm.toArray⟩, .string ⟨x.was.toArray⟩, .string ⟨x.tag.toArray⟩] 26) := ⟨_, rfl⟩
  have SS : Hid (Rs w x W1) := Lib.hid (by rw [hW1]; exact rs_new w x)
  obtain ⟨k0, k1, k2, k3, k4, k5, k6, k7, k8, k9, k10⟩ := SS.out.k.cells
  have HFew := Lib.hid (fun W (hb : Below w.heap.size w W) => ChnE.Few a n c s W (hL.step hb) hl hs.2.1 hs.2.2.2.1)
  rw [few] at HFew
  have HFewx := Lib.hid (fun W => RcpD.Few x W)
  rw [fewx] at HFewx
  have hm1 := fun W (hb : Below w.heap.size w W) => RcpM.Make a n c s i W (hL.step hb) hl (by unfold maxLen; omega) hcap
  have hm2 := fun W (hb : Below w.heap.size w W) => RcpO.Make a n c s i W (hL.step hb) hl (by unfold maxLen; omega) hcap
  generalize make s i = m at hm1 hm2
  obtain ⟨y, z⟩ := m
  dsimp only at hm1 hm2
  have HM1 := Lib.hid hm1
  have HM2 := Lib.hid hm2
  have HK := Lib.hid (fun (k : Nat) W (hb : Below w.heap.size w W) => RcpO.Make a n c s (k : Int) W (hL.step hb) hl (by unfold maxLen; omega) hcap)
  have hm3 := fun W (hb : Below w.heap.size w W) => RcpO.Make a n c s x.q W (hL.step hb) hl (by unfold maxLen; omega) hcap
  obtain ⟨y2, z2, hmq⟩ : ∃ y2 z2, make s x.q = (y2, z2) := ⟨_, _, rfl⟩
  rw [hmq] at hm3
  dsimp only at hm3
  have HOf : Hid (ofB s x = (decide (z2 = 0) && decide (y2 = x))) := Lib.hid (by rw [ofB, hmq])
  have HA := Lib.hid (fun W (hb : Below w.heap.size w W) => RcpA.All a n c s W (hL.step hb) hl (by omega) hcap)
  have HF := Lib.hid (fun W (hb : Below w.heap.size w W) => RcpF.Forge a n c s x W (hL.step hb) hl (by unfold maxLen; omega) hcap)
  have HO := Lib.hid (fun W (hb : Below w.heap.size w W) => RcpF.Of a n c s x W (hL.step hb) hl (by unfold maxLen; omega) hcap)
  have HRt := Lib.hid (fun W => RcpD.Right x W)
  have HSd := Lib.hid (fun W => RcpS.Said x.was x.q x.r W hx.1.2)
  have HAl := Lib.hid (fun W => RcpF.alive W)
  have hny := fun W => run_neq_rcp y y true (by simp) W
  have hnz : (z != z) = false := by simp
  have HAA := Lib.hid (fun (k : Nat) (h : k < n) hg => all_at s (k := k) (n := n) h hg)
  have HM3 := Lib.hid hm3
  have hA60 : (allTo s n).length ≤ 60 := Nat.le_trans (all_len s n) hn60
  clear hm1 hm2 hm3 hmq hs hx few fewx hL hl hcap
  go_enter Try.func3, Try.ntmps3
  go_upto_region 1 with (fail)
  rw [← hW1]
  clear hW1
  go_upto_region 4 with (first
    | (go_at_call 4; refine (HFew.out _ SS.out.bel).mono ?_; rintro e w2 ⟨rfl, hb⟩; replace SS := Lib.hid (SS.out.step hb); clear hb HFew k0 k1 k2 k3 k4 k5 k6 k7 k8 k9 k10; obtain ⟨k0, k1, k2, k3, k4, k5, k6, k7, k8, k9, k10⟩ := SS.out.k.cells)
    | (go_at_call 5; refine (HFewx.out _).mono ?_; rintro e w3 ⟨rfl, hb⟩; replace SS := Lib.hid (SS.out.step hb); clear hb HFewx k0 k1 k2 k3 k4 k5 k6 k7 k8 k9 k10)
    | (go_at_call 7; refine (HM1.out _ SS.out.bel).mono ?_; rintro e w5 ⟨rfl, hb⟩; replace SS := Lib.hid (SS.out.step hb); clear hb HM1)
    | (refine wpList_store_row rfl 26 _ _ rfl w5.heap.size _ rfl rfl 26 _ (heap_alloc_new w5 _) infoP rfl (one11 y) ?_))
  have S6 := Lib.hid (SS.out.step (kept_new w5 #[.int .i64 0, .int .i64 0, .int .i64 0, .int .i64 0, .int .i64 0, .int .i64 0, .int .i64 0, .string ⟨#[]⟩, .string ⟨#[]⟩, .string ⟨#[]⟩, .string ⟨#[]⟩] #[.int .i64 y.q, .int .i64 y.r.k, .int .i64 y.r.ep, .int .i64 y.r.tm, .int .i64 y.r.ct, .int .i64 y.r.tg, .int .i64 y.r.un, .string ⟨y.r.rt.toArray⟩, .string ⟨y.r.nm.toArray⟩, .string ⟨y.was.toArray⟩, .string ⟨y.tag.toArray⟩] 26))
  have G6 : Hid (Br ((w5.alloc (.cells #[.int .i64 0, .int .i64 0, .int .i64 0, .int .i64 0, .int .i64 0, .int .i64 0, .int .i64 0, .string ⟨#[]⟩, .string ⟨#[]⟩, .string ⟨#[]⟩, .string ⟨#[]⟩] 26)).setRow w5.heap.size #[.int .i64 y.q, .int .i64 y.r.k, .int .i64 y.r.ep, .int .i64 y.r.tm, .int .i64 y.r.ct, .int .i64 y.r.tg, .int .i64 y.r.un, .string ⟨y.r.rt.toArray⟩, .string ⟨y.r.nm.toArray⟩, .string ⟨y.was.toArray⟩, .string ⟨y.tag.toArray⟩]) w5.heap.size y) := Lib.hid (has_new w5 _ _ _)
  clear SS
  generalize World.setRow _ _ _ = W6 at *
  generalize w5.heap.size = X7 at *
  go_upto_region 5 with (first
    | (go_at_call 8; refine (HM2.out _ S6.out.bel).mono ?_; rintro e w8 ⟨rfl, hb⟩; replace S6 := Lib.hid (S6.out.step hb); replace G6 := Lib.hid (G6.out.step hb); clear hb HM2)
    | (refine wpList_store_row rfl 26 _ _ rfl w8.heap.size _ rfl rfl 26 _ (heap_alloc_new w8 _) infoP rfl (one11 y) ?_))
  have SS := Lib.hid (S6.out.step (kept_new w8 #[.int .i64 0, .int .i64 0, .int .i64 0, .int .i64 0, .int .i64 0, .int .i64 0, .int .i64 0, .string ⟨#[]⟩, .string ⟨#[]⟩, .string ⟨#[]⟩, .string ⟨#[]⟩] #[.int .i64 y.q, .int .i64 y.r.k, .int .i64 y.r.ep, .int .i64 y.r.tm, .int .i64 y.r.ct, .int .i64 y.r.tg, .int .i64 y.r.un, .string ⟨y.r.rt.toArray⟩, .string ⟨y.r.nm.toArray⟩, .string ⟨y.was.toArray⟩, .string ⟨y.tag.toArray⟩] 26))
  have G7 := Lib.hid (G6.out.step (kept_new w8 #[.int .i64 0, .int .i64 0, .int .i64 0, .int .i64 0, .int .i64 0, .int .i64 0, .int .i64 0, .string ⟨#[]⟩, .string ⟨#[]⟩, .string ⟨#[]⟩, .string ⟨#[]⟩] #[.int .i64 y.q, .int .i64 y.r.k, .int .i64 y.r.ep, .int .i64 y.r.tm, .int .i64 y.r.ct, .int .i64 y.r.tg, .int .i64 y.r.un, .string ⟨y.r.rt.toArray⟩, .string ⟨y.r.nm.toArray⟩, .string ⟨y.was.toArray⟩, .string ⟨y.tag.toArray⟩] 26))
  have G9 : Hid (Br ((w8.alloc (.cells #[.int .i64 0, .int .i64 0, .int .i64 0, .int .i64 0, .int .i64 0, .int .i64 0, .int .i64 0, .string ⟨#[]⟩, .string ⟨#[]⟩, .string ⟨#[]⟩, .string ⟨#[]⟩] 26)).setRow w8.heap.size #[.int .i64 y.q, .int .i64 y.r.k, .int .i64 y.r.ep, .int .i64 y.r.tm, .int .i64 y.r.ct, .int .i64 y.r.tg, .int .i64 y.r.un, .string ⟨y.r.rt.toArray⟩, .string ⟨y.r.nm.toArray⟩, .string ⟨y.was.toArray⟩, .string ⟨y.tag.toArray⟩]) w8.heap.size y) := Lib.hid (has_new w8 _ _ _)
  clear S6 G6
  generalize World.setRow _ _ _ = W9 at *
  generalize w8.heap.size = X9 at *
  obtain ⟨m0, m1, m2, m3, m4, m5, m6, m7, m8, m9, m10⟩ := G7.out.cells
  obtain ⟨o0, o1, o2, o3, o4, o5, o6, o7, o8, o9, o10⟩ := G9.out.cells
  go_wp2_with (go_at_call 9; refine (HA.out _ SS.out.bel).mono ?_; rintro e w10 ⟨pA, cA, rfl, hown, hb⟩; have LA := Lib.hid (own_lies hown); replace SS := Lib.hid (SS.out.step hb); clear hb HA hown m0 m1 m2 m3 m4 m5 m6 m7 m8 m9 m10 o0 o1 o2 o3 o4 o5 o6 o7 o8 o9 o10 G7 G9 hny)
  obtain ⟨A, hA⟩ : ∃ A, allTo s n = A := ⟨_, rfl⟩
  rw [hA] at LA
  have HEn := Lib.hid hA
  have hA60' : A.length ≤ 60 := by rw [← hA]; exact hA60
  have HAA' : Hid (∀ k, k < n → good1 s k = true → ∃ hl : (allTo s k).length < A.length, A[(allTo s k).length] = mkR s k) := Lib.hid (by subst hA; exact fun k h hg => HAA.out k h hg)
  have HALL : Hid ((allTo s n).length = A.length) := Lib.hid (by rw [hA])
  rw [HALL.out]
  clear HAA hA60 hA
  go_loopw [12, 57] (fun nv kv wr => ∃ k : Nat, k ≤ n ∧ kv = .int .i64 k ∧ nv = .int .i64 ((allTo s k).length : Nat) ∧ Rs w x wr ∧ Lies wr pA (ps A)) (fun _ kv _ => n - (intOf kv).toNat)
  case atStart => exact ⟨0, Nat.zero_le _, rfl, rfl, SS.out, LA.out⟩
  case round =>
    clear SS LA
    obtain ⟨k, hk, rfl, rfl, hS, hLA⟩ := hrel
    have SS := Lib.hid hS
    have LA := Lib.hid hLA
    clear hS hLA
    by_cases hlt : k < n
    · have p0 : (k : Int) < (n : Int) := by omega
      have hkk := HK.out k
      clear HF HO HRt HSd HM3 HAl HK
      cases hgd : good1 s k with
      | true =>
        rw [make_yes1 hgd] at hkk
        dsimp only at hkk
        obtain ⟨hml, hmy⟩ := HAA'.out k hlt hgd
        have HKk := Lib.hid hkk
        have HE : Hid ((allTo s (k + 1)).length = (allTo s k).length + 1) := Lib.hid (by rw [all_succ, if_pos hgd])
        obtain ⟨gA, oA, rfl, hgA, hcA⟩ := lies_at11 LA.out (by omega)
        have h11 := hcA _ hml
        rw [hmy] at h11
        have HC11 := Lib.hid (fun W (hb : Below wr.heap.size wr W) => h11.step hgA hb)
        clear hkk hcA hmy hgd h11 HAA'
        generalize mkR s k = u at *
        generalize (allTo s k).length = m at *
        have pm0 : (0 : Int) ≤ (m : Int) := by omega
        have pm1 : (m : Int) < (A.length : Int) := by omega
        have pm2 : ¬ (A.length : Int) ≤ (m : Int) := by omega
        have pd : decide ((A.length : Int) ≤ (m : Int)) = false := decide_eq_false pm2
        have hm60 : m ≤ 60 := by omega
        have hnu := fun W => run_neq_rcp u u true (by simp) W
        go_upto_region 13 with (first
          | (go_at_call 8; refine (HKk.out _ SS.out.bel).mono ?_; rintro e w12 ⟨rfl, hb⟩; have B12 := Lib.hid hb; clear hb HKk)
          | (refine wpList_store_row rfl 26 _ _ rfl w12.heap.size _ rfl rfl 26 _ (heap_alloc_new w12 _) infoP rfl (one11 u) ?_))
        have B13 := Lib.hid (B12.out.trans ((kept_new w12 #[.int .i64 0, .int .i64 0, .int .i64 0, .int .i64 0, .int .i64 0, .int .i64 0, .int .i64 0, .string ⟨#[]⟩, .string ⟨#[]⟩, .string ⟨#[]⟩, .string ⟨#[]⟩] #[.int .i64 u.q, .int .i64 u.r.k, .int .i64 u.r.ep, .int .i64 u.r.tm, .int .i64 u.r.ct, .int .i64 u.r.tg, .int .i64 u.r.un, .string ⟨u.r.rt.toArray⟩, .string ⟨u.r.nm.toArray⟩, .string ⟨u.was.toArray⟩, .string ⟨u.tag.toArray⟩] 26).mono B12.out.size))
        have G13 : Hid (Br ((w12.alloc (.cells #[.int .i64 0, .int .i64 0, .int .i64 0, .int .i64 0, .int .i64 0, .int .i64 0, .int .i64 0, .string ⟨#[]⟩, .string ⟨#[]⟩, .string ⟨#[]⟩, .string ⟨#[]⟩] 26)).setRow w12.heap.size #[.int .i64 u.q, .int .i64 u.r.k, .int .i64 u.r.ep, .int .i64 u.r.tm, .int .i64 u.r.ct, .int .i64 u.r.tg, .int .i64 u.r.un, .string ⟨u.r.rt.toArray⟩, .string ⟨u.r.nm.toArray⟩, .string ⟨u.was.toArray⟩, .string ⟨u.tag.toArray⟩]) w12.heap.size u) := Lib.hid (has_new w12 _ _ _)
        revert B13 G13
        generalize World.setRow _ _ _ = W13
        generalize w12.heap.size = X12
        intro B13 G13
        replace SS := Lib.hid (SS.out.step B13.out)
        replace LA := Lib.hid (LA.out.step B13.out)
        obtain ⟨c0, c1, c2, c3, c4, c5, c6, c7, c8, c9, c10⟩ := HC11.out _ B13.out
        obtain ⟨u0, u1, u2, u3, u4, u5, u6, u7, u8, u9, u10⟩ := G13.out.cells
        clear B13 HC11
        go_upto_region 14 with (fail)
        go_quiet (fail)
        go_wp2
        go_roundw
        case rel => exact ⟨k + 1, by omega, by go_num, by rw [HE.out]; exact congrArg (Value.int .i64) (by omega), SS.out.step (below_drewN _ _), LA.out.step (below_drewN _ _)⟩
        case measure => simp [intOf]; omega
      | false =>
        obtain ⟨zc, hzc, hz0⟩ := make_no1 hgd
        rw [hzc] at hkk
        dsimp only [none_, RecN.zero] at hkk
        have HKk := Lib.hid hkk
        have HE : Hid ((allTo s (k + 1)).length = (allTo s k).length) := Lib.hid (by rw [all_no hgd])
        clear hkk hzc hgd HAA'
        generalize (allTo s k).length = m at *
        go_upto_region 13 with (first
          | (go_at_call 8; refine (HKk.out _ SS.out.bel).mono ?_; rintro e w12 ⟨rfl, hb⟩; have B12 := Lib.hid hb; clear hb HKk)
          | (refine wpList_store_row rfl 26 _ _ rfl w12.heap.size _ rfl rfl 26 _ (heap_alloc_new w12 _) infoP rfl (one11 none_) ?_))
        have B13 := Lib.hid (B12.out.trans ((kept_new w12 #[.int .i64 0, .int .i64 0, .int .i64 0, .int .i64 0, .int .i64 0, .int .i64 0, .int .i64 0, .string ⟨#[]⟩, .string ⟨#[]⟩, .string ⟨#[]⟩, .string ⟨#[]⟩] #[.int .i64 0, .int .i64 0, .int .i64 0, .int .i64 0, .int .i64 0, .int .i64 0, .int .i64 0, .string ⟨#[]⟩, .string ⟨#[]⟩, .string ⟨#[]⟩, .string ⟨#[]⟩] 26).mono B12.out.size))
        revert B13
        generalize World.setRow _ _ _ = W13
        intro B13
        replace SS := Lib.hid (SS.out.step B13.out)
        replace LA := Lib.hid (LA.out.step B13.out)
        clear B13
        go_wp2_with fail
        go_roundw
        case rel => exact ⟨k + 1, by omega, by go_num, by rw [HE.out], SS.out, LA.out⟩
        case measure => simp [intOf]; omega
    · obtain rfl : k = n := by omega
      have pk : ¬ (k : Int) < (k : Int) := by omega
      rw [HALL.out]
      obtain ⟨k0, k1, k2, k3, k4, k5, k6, k7, k8, k9, k10⟩ := SS.out.k.cells
      go_upto_region 19 with (first
        | (go_at_call 8; refine (HM3.out _ SS.out.bel).mono ?_; rintro e w18 ⟨rfl, hb⟩; have B18 := Lib.hid hb; clear hb HM3)
        | (refine wpList_store_row rfl 26 _ _ rfl w18.heap.size _ rfl rfl 26 _ (heap_alloc_new w18 _) infoP rfl (one11 y2) ?_))
      have B19 := Lib.hid (B18.out.trans ((kept_new w18 #[.int .i64 0, .int .i64 0, .int .i64 0, .int .i64 0, .int .i64 0, .int .i64 0, .int .i64 0, .string ⟨#[]⟩, .string ⟨#[]⟩, .string ⟨#[]⟩, .string ⟨#[]⟩] #[.int .i64 y2.q, .int .i64 y2.r.k, .int .i64 y2.r.ep, .int .i64 y2.r.tm, .int .i64 y2.r.ct, .int .i64 y2.r.tg, .int .i64 y2.r.un, .string ⟨y2.r.rt.toArray⟩, .string ⟨y2.r.nm.toArray⟩, .string ⟨y2.was.toArray⟩, .string ⟨y2.tag.toArray⟩] 26).mono B18.out.size))
      have GY : Hid (Br ((w18.alloc (.cells #[.int .i64 0, .int .i64 0, .int .i64 0, .int .i64 0, .int .i64 0, .int .i64 0, .int .i64 0, .string ⟨#[]⟩, .string ⟨#[]⟩, .string ⟨#[]⟩, .string ⟨#[]⟩] 26)).setRow w18.heap.size #[.int .i64 y2.q, .int .i64 y2.r.k, .int .i64 y2.r.ep, .int .i64 y2.r.tm, .int .i64 y2.r.ct, .int .i64 y2.r.tg, .int .i64 y2.r.un, .string ⟨y2.r.rt.toArray⟩, .string ⟨y2.r.nm.toArray⟩, .string ⟨y2.was.toArray⟩, .string ⟨y2.tag.toArray⟩]) w18.heap.size y2) := Lib.hid (has_new w18 _ _ _)
      revert B19 GY
      generalize World.setRow _ _ _ = W19
      generalize w18.heap.size = X18
      intro B19 GY
      replace SS := Lib.hid (SS.out.step B19.out)
      clear B19 k0 k1 k2 k3 k4 k5 k6 k7 k8 k9 k10 HAA' LA HK
      obtain ⟨k0, k1, k2, k3, k4, k5, k6, k7, k8, k9, k10⟩ := SS.out.k.cells
      obtain ⟨r0, r1, r2, r3, r4, r5, r6, r7, r8, r9, r10⟩ := GY.out.cells
      rcases ways x y2 z2 with ⟨hr, hz, hy⟩ | ⟨hr, hz, hy⟩ | ⟨hr, hz⟩ | ⟨hr, hz, hy⟩ | ⟨hr, hz, hy⟩ | ⟨hr, hz⟩
      · rw [dt hr] at HRt
        have hz1 : (z2 == 0) = true := by simpa using hz
        have hz2 : (z2 != 0) = false := by simpa using hz
        have ho : ofB s x = true := by rw [HOf.out, dt hz, dt hy]; rfl
        have hq1 := fun W => run_eql_rcp y2 x true (dt hy) W
        have hq2 := fun W => run_neq_rcp y2 x true (dt hy) W
        rw [ho] at HO
        rw [forge_of ho] at HF
        rw [says_some x hr] at HSd
        generalize say x.was x.q x.r = t at *
        dsimp only at HF HSd
        clear hr hz ho HOf hy
        go_wp2_with (first
          | (go_at_call 10; refine (HF.out _ SS.out.bel).mono ?_; rintro e w2 ⟨rfl, hb⟩; replace SS := Lib.hid (SS.out.step hb); replace GY := Lib.hid (GY.out.step hb); clear hb k0 k1 k2 k3 k4 k5 k6 k7 k8 k9 k10 r0 r1 r2 r3 r4 r5 r6 r7 r8 r9 r10; obtain ⟨k0, k1, k2, k3, k4, k5, k6, k7, k8, k9, k10⟩ := SS.out.k.cells; obtain ⟨r0, r1, r2, r3, r4, r5, r6, r7, r8, r9, r10⟩ := GY.out.cells)
          | (go_at_call 11; refine (HRt.out _).mono ?_; rintro e w2 ⟨rfl, hb⟩; replace SS := Lib.hid (SS.out.step hb); replace GY := Lib.hid (GY.out.step hb); clear hb k0 k1 k2 k3 k4 k5 k6 k7 k8 k9 k10 r0 r1 r2 r3 r4 r5 r6 r7 r8 r9 r10; obtain ⟨k0, k1, k2, k3, k4, k5, k6, k7, k8, k9, k10⟩ := SS.out.k.cells; obtain ⟨r0, r1, r2, r3, r4, r5, r6, r7, r8, r9, r10⟩ := GY.out.cells)
          | (go_at_call 12; refine (HSd.out _).mono ?_; rintro e w2 ⟨rfl, hb⟩; replace SS := Lib.hid (SS.out.step hb); replace GY := Lib.hid (GY.out.step hb); clear hb k0 k1 k2 k3 k4 k5 k6 k7 k8 k9 k10 r0 r1 r2 r3 r4 r5 r6 r7 r8 r9 r10; obtain ⟨k0, k1, k2, k3, k4, k5, k6, k7, k8, k9, k10⟩ := SS.out.k.cells; obtain ⟨r0, r1, r2, r3, r4, r5, r6, r7, r8, r9, r10⟩ := GY.out.cells)
          | (go_at_call 13; refine (HO.out _ SS.out.bel).mono ?_; rintro e w2 ⟨rfl, hb⟩; replace SS := Lib.hid (SS.out.step hb); replace GY := Lib.hid (GY.out.step hb); clear hb k0 k1 k2 k3 k4 k5 k6 k7 k8 k9 k10 r0 r1 r2 r3 r4 r5 r6 r7 r8 r9 r10; obtain ⟨k0, k1, k2, k3, k4, k5, k6, k7, k8, k9, k10⟩ := SS.out.k.cells; obtain ⟨r0, r1, r2, r3, r4, r5, r6, r7, r8, r9, r10⟩ := GY.out.cells)
          | (go_at_call 6; refine (HAl.out _).mono ?_; rintro e w2 ⟨rfl, hb⟩; replace SS := Lib.hid (SS.out.step hb); replace GY := Lib.hid (GY.out.step hb); clear hb k0 k1 k2 k3 k4 k5 k6 k7 k8 k9 k10 r0 r1 r2 r3 r4 r5 r6 r7 r8 r9 r10; obtain ⟨k0, k1, k2, k3, k4, k5, k6, k7, k8, k9, k10⟩ := SS.out.k.cells; obtain ⟨r0, r1, r2, r3, r4, r5, r6, r7, r8, r9, r10⟩ := GY.out.cells))
        go_ret
        exact ⟨rfl, SS.out.bel⟩
      · rw [dt hr] at HRt
        have hz1 : (z2 == 0) = true := by simpa using hz
        have hz2 : (z2 != 0) = false := by simpa using hz
        have ho : ofB s x = false := by rw [HOf.out, dt hz, df hy]; rfl
        have hq1 := fun W => run_eql_rcp y2 x false (df hy) W
        have hq2 := fun W => run_neq_rcp y2 x false (df hy) W
        rw [ho] at HO
        rw [forge_yes hr ho] at HF
        rw [says_some x hr] at HSd
        generalize say x.was x.q x.r = t at *
        have het : (t == t) = true := by simp
        have hnt : (t != t) = false := by simp
        have heg : (x.tag == x.tag) = true := by simp
        have hng : (x.tag != x.tag) = false := by simp
        dsimp only at HF HSd
        clear hr hz ho HOf hy
        go_wp2_with (first
          | (go_at_call 10; refine (HF.out _ SS.out.bel).mono ?_; rintro e w2 ⟨rfl, hb⟩; replace SS := Lib.hid (SS.out.step hb); replace GY := Lib.hid (GY.out.step hb); clear hb k0 k1 k2 k3 k4 k5 k6 k7 k8 k9 k10 r0 r1 r2 r3 r4 r5 r6 r7 r8 r9 r10; obtain ⟨k0, k1, k2, k3, k4, k5, k6, k7, k8, k9, k10⟩ := SS.out.k.cells; obtain ⟨r0, r1, r2, r3, r4, r5, r6, r7, r8, r9, r10⟩ := GY.out.cells)
          | (go_at_call 11; refine (HRt.out _).mono ?_; rintro e w2 ⟨rfl, hb⟩; replace SS := Lib.hid (SS.out.step hb); replace GY := Lib.hid (GY.out.step hb); clear hb k0 k1 k2 k3 k4 k5 k6 k7 k8 k9 k10 r0 r1 r2 r3 r4 r5 r6 r7 r8 r9 r10; obtain ⟨k0, k1, k2, k3, k4, k5, k6, k7, k8, k9, k10⟩ := SS.out.k.cells; obtain ⟨r0, r1, r2, r3, r4, r5, r6, r7, r8, r9, r10⟩ := GY.out.cells)
          | (go_at_call 12; refine (HSd.out _).mono ?_; rintro e w2 ⟨rfl, hb⟩; replace SS := Lib.hid (SS.out.step hb); replace GY := Lib.hid (GY.out.step hb); clear hb k0 k1 k2 k3 k4 k5 k6 k7 k8 k9 k10 r0 r1 r2 r3 r4 r5 r6 r7 r8 r9 r10; obtain ⟨k0, k1, k2, k3, k4, k5, k6, k7, k8, k9, k10⟩ := SS.out.k.cells; obtain ⟨r0, r1, r2, r3, r4, r5, r6, r7, r8, r9, r10⟩ := GY.out.cells)
          | (go_at_call 13; refine (HO.out _ SS.out.bel).mono ?_; rintro e w2 ⟨rfl, hb⟩; replace SS := Lib.hid (SS.out.step hb); replace GY := Lib.hid (GY.out.step hb); clear hb k0 k1 k2 k3 k4 k5 k6 k7 k8 k9 k10 r0 r1 r2 r3 r4 r5 r6 r7 r8 r9 r10; obtain ⟨k0, k1, k2, k3, k4, k5, k6, k7, k8, k9, k10⟩ := SS.out.k.cells; obtain ⟨r0, r1, r2, r3, r4, r5, r6, r7, r8, r9, r10⟩ := GY.out.cells)
          | (go_at_call 6; refine (HAl.out _).mono ?_; rintro e w2 ⟨rfl, hb⟩; replace SS := Lib.hid (SS.out.step hb); replace GY := Lib.hid (GY.out.step hb); clear hb k0 k1 k2 k3 k4 k5 k6 k7 k8 k9 k10 r0 r1 r2 r3 r4 r5 r6 r7 r8 r9 r10; obtain ⟨k0, k1, k2, k3, k4, k5, k6, k7, k8, k9, k10⟩ := SS.out.k.cells; obtain ⟨r0, r1, r2, r3, r4, r5, r6, r7, r8, r9, r10⟩ := GY.out.cells))
        go_ret
        exact ⟨rfl, SS.out.bel⟩
      · rw [dt hr] at HRt
        have hz1 : (z2 == 0) = false := by simpa using hz
        have hz2 : (z2 != 0) = true := by simpa using hz
        have ho : ofB s x = false := by rw [HOf.out, df hz]; rfl
        rw [ho] at HO
        rw [forge_yes hr ho] at HF
        rw [says_some x hr] at HSd
        generalize say x.was x.q x.r = t at *
        have het : (t == t) = true := by simp
        have hnt : (t != t) = false := by simp
        have heg : (x.tag == x.tag) = true := by simp
        have hng : (x.tag != x.tag) = false := by simp
        dsimp only at HF HSd
        clear hr hz ho HOf
        go_wp2_with (first
          | (go_at_call 10; refine (HF.out _ SS.out.bel).mono ?_; rintro e w2 ⟨rfl, hb⟩; replace SS := Lib.hid (SS.out.step hb); replace GY := Lib.hid (GY.out.step hb); clear hb k0 k1 k2 k3 k4 k5 k6 k7 k8 k9 k10 r0 r1 r2 r3 r4 r5 r6 r7 r8 r9 r10; obtain ⟨k0, k1, k2, k3, k4, k5, k6, k7, k8, k9, k10⟩ := SS.out.k.cells; obtain ⟨r0, r1, r2, r3, r4, r5, r6, r7, r8, r9, r10⟩ := GY.out.cells)
          | (go_at_call 11; refine (HRt.out _).mono ?_; rintro e w2 ⟨rfl, hb⟩; replace SS := Lib.hid (SS.out.step hb); replace GY := Lib.hid (GY.out.step hb); clear hb k0 k1 k2 k3 k4 k5 k6 k7 k8 k9 k10 r0 r1 r2 r3 r4 r5 r6 r7 r8 r9 r10; obtain ⟨k0, k1, k2, k3, k4, k5, k6, k7, k8, k9, k10⟩ := SS.out.k.cells; obtain ⟨r0, r1, r2, r3, r4, r5, r6, r7, r8, r9, r10⟩ := GY.out.cells)
          | (go_at_call 12; refine (HSd.out _).mono ?_; rintro e w2 ⟨rfl, hb⟩; replace SS := Lib.hid (SS.out.step hb); replace GY := Lib.hid (GY.out.step hb); clear hb k0 k1 k2 k3 k4 k5 k6 k7 k8 k9 k10 r0 r1 r2 r3 r4 r5 r6 r7 r8 r9 r10; obtain ⟨k0, k1, k2, k3, k4, k5, k6, k7, k8, k9, k10⟩ := SS.out.k.cells; obtain ⟨r0, r1, r2, r3, r4, r5, r6, r7, r8, r9, r10⟩ := GY.out.cells)
          | (go_at_call 13; refine (HO.out _ SS.out.bel).mono ?_; rintro e w2 ⟨rfl, hb⟩; replace SS := Lib.hid (SS.out.step hb); replace GY := Lib.hid (GY.out.step hb); clear hb k0 k1 k2 k3 k4 k5 k6 k7 k8 k9 k10 r0 r1 r2 r3 r4 r5 r6 r7 r8 r9 r10; obtain ⟨k0, k1, k2, k3, k4, k5, k6, k7, k8, k9, k10⟩ := SS.out.k.cells; obtain ⟨r0, r1, r2, r3, r4, r5, r6, r7, r8, r9, r10⟩ := GY.out.cells)
          | (go_at_call 6; refine (HAl.out _).mono ?_; rintro e w2 ⟨rfl, hb⟩; replace SS := Lib.hid (SS.out.step hb); replace GY := Lib.hid (GY.out.step hb); clear hb k0 k1 k2 k3 k4 k5 k6 k7 k8 k9 k10 r0 r1 r2 r3 r4 r5 r6 r7 r8 r9 r10; obtain ⟨k0, k1, k2, k3, k4, k5, k6, k7, k8, k9, k10⟩ := SS.out.k.cells; obtain ⟨r0, r1, r2, r3, r4, r5, r6, r7, r8, r9, r10⟩ := GY.out.cells))
        go_ret
        exact ⟨rfl, SS.out.bel⟩
      · rw [df hr] at HRt
        have hz1 : (z2 == 0) = true := by simpa using hz
        have hz2 : (z2 != 0) = false := by simpa using hz
        have ho : ofB s x = true := by rw [HOf.out, dt hz, dt hy]; rfl
        have hq1 := fun W => run_eql_rcp y2 x true (dt hy) W
        have hq2 := fun W => run_neq_rcp y2 x true (dt hy) W
        rw [ho] at HO
        rw [forge_bad hr] at HF
        generalize says x.was x.q x.r = sd at HSd
        obtain ⟨t0, b0⟩ := sd
        dsimp only at HF HSd
        clear hr hz ho HOf hy
        go_wp2_with (first
          | (go_at_call 10; refine (HF.out _ SS.out.bel).mono ?_; rintro e w2 ⟨rfl, hb⟩; replace SS := Lib.hid (SS.out.step hb); replace GY := Lib.hid (GY.out.step hb); clear hb k0 k1 k2 k3 k4 k5 k6 k7 k8 k9 k10 r0 r1 r2 r3 r4 r5 r6 r7 r8 r9 r10; obtain ⟨k0, k1, k2, k3, k4, k5, k6, k7, k8, k9, k10⟩ := SS.out.k.cells; obtain ⟨r0, r1, r2, r3, r4, r5, r6, r7, r8, r9, r10⟩ := GY.out.cells)
          | (go_at_call 11; refine (HRt.out _).mono ?_; rintro e w2 ⟨rfl, hb⟩; replace SS := Lib.hid (SS.out.step hb); replace GY := Lib.hid (GY.out.step hb); clear hb k0 k1 k2 k3 k4 k5 k6 k7 k8 k9 k10 r0 r1 r2 r3 r4 r5 r6 r7 r8 r9 r10; obtain ⟨k0, k1, k2, k3, k4, k5, k6, k7, k8, k9, k10⟩ := SS.out.k.cells; obtain ⟨r0, r1, r2, r3, r4, r5, r6, r7, r8, r9, r10⟩ := GY.out.cells)
          | (go_at_call 12; refine (HSd.out _).mono ?_; rintro e w2 ⟨rfl, hb⟩; replace SS := Lib.hid (SS.out.step hb); replace GY := Lib.hid (GY.out.step hb); clear hb k0 k1 k2 k3 k4 k5 k6 k7 k8 k9 k10 r0 r1 r2 r3 r4 r5 r6 r7 r8 r9 r10; obtain ⟨k0, k1, k2, k3, k4, k5, k6, k7, k8, k9, k10⟩ := SS.out.k.cells; obtain ⟨r0, r1, r2, r3, r4, r5, r6, r7, r8, r9, r10⟩ := GY.out.cells)
          | (go_at_call 13; refine (HO.out _ SS.out.bel).mono ?_; rintro e w2 ⟨rfl, hb⟩; replace SS := Lib.hid (SS.out.step hb); replace GY := Lib.hid (GY.out.step hb); clear hb k0 k1 k2 k3 k4 k5 k6 k7 k8 k9 k10 r0 r1 r2 r3 r4 r5 r6 r7 r8 r9 r10; obtain ⟨k0, k1, k2, k3, k4, k5, k6, k7, k8, k9, k10⟩ := SS.out.k.cells; obtain ⟨r0, r1, r2, r3, r4, r5, r6, r7, r8, r9, r10⟩ := GY.out.cells)
          | (go_at_call 6; refine (HAl.out _).mono ?_; rintro e w2 ⟨rfl, hb⟩; replace SS := Lib.hid (SS.out.step hb); replace GY := Lib.hid (GY.out.step hb); clear hb k0 k1 k2 k3 k4 k5 k6 k7 k8 k9 k10 r0 r1 r2 r3 r4 r5 r6 r7 r8 r9 r10; obtain ⟨k0, k1, k2, k3, k4, k5, k6, k7, k8, k9, k10⟩ := SS.out.k.cells; obtain ⟨r0, r1, r2, r3, r4, r5, r6, r7, r8, r9, r10⟩ := GY.out.cells))
        go_ret
        exact ⟨rfl, SS.out.bel⟩
      · rw [df hr] at HRt
        have hz1 : (z2 == 0) = true := by simpa using hz
        have hz2 : (z2 != 0) = false := by simpa using hz
        have ho : ofB s x = false := by rw [HOf.out, dt hz, df hy]; rfl
        have hq1 := fun W => run_eql_rcp y2 x false (df hy) W
        have hq2 := fun W => run_neq_rcp y2 x false (df hy) W
        rw [ho] at HO
        rw [forge_bad hr] at HF
        generalize says x.was x.q x.r = sd at HSd
        obtain ⟨t0, b0⟩ := sd
        dsimp only at HF HSd
        clear hr hz ho HOf hy
        go_wp2_with (first
          | (go_at_call 10; refine (HF.out _ SS.out.bel).mono ?_; rintro e w2 ⟨rfl, hb⟩; replace SS := Lib.hid (SS.out.step hb); replace GY := Lib.hid (GY.out.step hb); clear hb k0 k1 k2 k3 k4 k5 k6 k7 k8 k9 k10 r0 r1 r2 r3 r4 r5 r6 r7 r8 r9 r10; obtain ⟨k0, k1, k2, k3, k4, k5, k6, k7, k8, k9, k10⟩ := SS.out.k.cells; obtain ⟨r0, r1, r2, r3, r4, r5, r6, r7, r8, r9, r10⟩ := GY.out.cells)
          | (go_at_call 11; refine (HRt.out _).mono ?_; rintro e w2 ⟨rfl, hb⟩; replace SS := Lib.hid (SS.out.step hb); replace GY := Lib.hid (GY.out.step hb); clear hb k0 k1 k2 k3 k4 k5 k6 k7 k8 k9 k10 r0 r1 r2 r3 r4 r5 r6 r7 r8 r9 r10; obtain ⟨k0, k1, k2, k3, k4, k5, k6, k7, k8, k9, k10⟩ := SS.out.k.cells; obtain ⟨r0, r1, r2, r3, r4, r5, r6, r7, r8, r9, r10⟩ := GY.out.cells)
          | (go_at_call 12; refine (HSd.out _).mono ?_; rintro e w2 ⟨rfl, hb⟩; replace SS := Lib.hid (SS.out.step hb); replace GY := Lib.hid (GY.out.step hb); clear hb k0 k1 k2 k3 k4 k5 k6 k7 k8 k9 k10 r0 r1 r2 r3 r4 r5 r6 r7 r8 r9 r10; obtain ⟨k0, k1, k2, k3, k4, k5, k6, k7, k8, k9, k10⟩ := SS.out.k.cells; obtain ⟨r0, r1, r2, r3, r4, r5, r6, r7, r8, r9, r10⟩ := GY.out.cells)
          | (go_at_call 13; refine (HO.out _ SS.out.bel).mono ?_; rintro e w2 ⟨rfl, hb⟩; replace SS := Lib.hid (SS.out.step hb); replace GY := Lib.hid (GY.out.step hb); clear hb k0 k1 k2 k3 k4 k5 k6 k7 k8 k9 k10 r0 r1 r2 r3 r4 r5 r6 r7 r8 r9 r10; obtain ⟨k0, k1, k2, k3, k4, k5, k6, k7, k8, k9, k10⟩ := SS.out.k.cells; obtain ⟨r0, r1, r2, r3, r4, r5, r6, r7, r8, r9, r10⟩ := GY.out.cells)
          | (go_at_call 6; refine (HAl.out _).mono ?_; rintro e w2 ⟨rfl, hb⟩; replace SS := Lib.hid (SS.out.step hb); replace GY := Lib.hid (GY.out.step hb); clear hb k0 k1 k2 k3 k4 k5 k6 k7 k8 k9 k10 r0 r1 r2 r3 r4 r5 r6 r7 r8 r9 r10; obtain ⟨k0, k1, k2, k3, k4, k5, k6, k7, k8, k9, k10⟩ := SS.out.k.cells; obtain ⟨r0, r1, r2, r3, r4, r5, r6, r7, r8, r9, r10⟩ := GY.out.cells))
        go_ret
        exact ⟨rfl, SS.out.bel⟩
      · rw [df hr] at HRt
        have hz1 : (z2 == 0) = false := by simpa using hz
        have hz2 : (z2 != 0) = true := by simpa using hz
        have ho : ofB s x = false := by rw [HOf.out, df hz]; rfl
        rw [ho] at HO
        rw [forge_bad hr] at HF
        generalize says x.was x.q x.r = sd at HSd
        obtain ⟨t0, b0⟩ := sd
        dsimp only at HF HSd
        clear hr hz ho HOf
        go_wp2_with (first
          | (go_at_call 10; refine (HF.out _ SS.out.bel).mono ?_; rintro e w2 ⟨rfl, hb⟩; replace SS := Lib.hid (SS.out.step hb); replace GY := Lib.hid (GY.out.step hb); clear hb k0 k1 k2 k3 k4 k5 k6 k7 k8 k9 k10 r0 r1 r2 r3 r4 r5 r6 r7 r8 r9 r10; obtain ⟨k0, k1, k2, k3, k4, k5, k6, k7, k8, k9, k10⟩ := SS.out.k.cells; obtain ⟨r0, r1, r2, r3, r4, r5, r6, r7, r8, r9, r10⟩ := GY.out.cells)
          | (go_at_call 11; refine (HRt.out _).mono ?_; rintro e w2 ⟨rfl, hb⟩; replace SS := Lib.hid (SS.out.step hb); replace GY := Lib.hid (GY.out.step hb); clear hb k0 k1 k2 k3 k4 k5 k6 k7 k8 k9 k10 r0 r1 r2 r3 r4 r5 r6 r7 r8 r9 r10; obtain ⟨k0, k1, k2, k3, k4, k5, k6, k7, k8, k9, k10⟩ := SS.out.k.cells; obtain ⟨r0, r1, r2, r3, r4, r5, r6, r7, r8, r9, r10⟩ := GY.out.cells)
          | (go_at_call 12; refine (HSd.out _).mono ?_; rintro e w2 ⟨rfl, hb⟩; replace SS := Lib.hid (SS.out.step hb); replace GY := Lib.hid (GY.out.step hb); clear hb k0 k1 k2 k3 k4 k5 k6 k7 k8 k9 k10 r0 r1 r2 r3 r4 r5 r6 r7 r8 r9 r10; obtain ⟨k0, k1, k2, k3, k4, k5, k6, k7, k8, k9, k10⟩ := SS.out.k.cells; obtain ⟨r0, r1, r2, r3, r4, r5, r6, r7, r8, r9, r10⟩ := GY.out.cells)
          | (go_at_call 13; refine (HO.out _ SS.out.bel).mono ?_; rintro e w2 ⟨rfl, hb⟩; replace SS := Lib.hid (SS.out.step hb); replace GY := Lib.hid (GY.out.step hb); clear hb k0 k1 k2 k3 k4 k5 k6 k7 k8 k9 k10 r0 r1 r2 r3 r4 r5 r6 r7 r8 r9 r10; obtain ⟨k0, k1, k2, k3, k4, k5, k6, k7, k8, k9, k10⟩ := SS.out.k.cells; obtain ⟨r0, r1, r2, r3, r4, r5, r6, r7, r8, r9, r10⟩ := GY.out.cells)
          | (go_at_call 6; refine (HAl.out _).mono ?_; rintro e w2 ⟨rfl, hb⟩; replace SS := Lib.hid (SS.out.step hb); replace GY := Lib.hid (GY.out.step hb); clear hb k0 k1 k2 k3 k4 k5 k6 k7 k8 k9 k10 r0 r1 r2 r3 r4 r5 r6 r7 r8 r9 r10; obtain ⟨k0, k1, k2, k3, k4, k5, k6, k7, k8, k9, k10⟩ := SS.out.k.cells; obtain ⟨r0, r1, r2, r3, r4, r5, r6, r7, r8, r9, r10⟩ := GY.out.cells))
        go_ret
        exact ⟨rfl, SS.out.bel⟩
end Go.Proofs.Ytkidehngleglnaa.RcpX
