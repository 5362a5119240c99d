/- The main walk of the statement of right receipts. The condition: the rounds' numbers lie in the program's variable. -/
import Derived.Test.YtkidehngleglnaaDoorRcpA
import Derived.Test.YtkidehngleglnaaDoorLRcp
import Derived.Test.YtkidehngleglnaaDoorRcpK
import Derived.Test.YtkidehngleglnaaDoorChnE
import Derived.Test.YtkidehngleglnaaDoorLChs
namespace Go.Proofs.YtkidehngleglnaaDoor.RcpY
set_option linter.unusedVariables false
open Go.RowKit
open RecN RecC STurn ChnN ChnM ChnC ChnD ChnE ChnG ChnK RcpN RcpC RcpQ
section
variable (root : List UInt8) (f : Int) (a : Option Addr) (n c : Nat) (s : List Sd) (w : World) (hf : f ≤ 9223372036854775807) (hs : Came w a n c s) (hr : Rds w)
include hs hr
omit hr in
set_option maxRecDepth 100000 in
set_option maxHeartbeats 4000000 in
theorem long (few : fewB s = false) : Calls Tryd.prog 3 #[.string ⟨root.toArray⟩, .int .i64 f, .slice a n c] w fun e w' => e = .returned (.bool true) ∧ Below w.heap.size w w' := by
  have HFew := Lib.hid (ChnE.Few a n c s w hs.2.2.2.2 hs.1 hs.2.1 hs.2.2.2.1)
  rw [few] at HFew
  clear hs few
  go_enter Tryd.func3, Tryd.ntmps3
  go_wp2_with (first
    | (go_at_call 5; refine HFew.out.mono ?_; rintro e w2 ⟨rfl, hb⟩; have B := Lib.hid hb; clear hb HFew)
    | (go_at_call 6; refine (RcpF.alive _).mono ?_; rintro e w3 ⟨rfl, hb⟩; replace B := Lib.hid (B.out.trans (hb.mono B.out.size)); clear hb))
  go_ret
  exact ⟨rfl, B.out⟩
set_option maxRecDepth 100000 in
set_option maxHeartbeats 4000000 in
theorem wrong (few : fewB s = true) (h : ¬ (checkR root f s).2.2 = 0) : Calls Tryd.prog 3 #[.string ⟨root.toArray⟩, .int .i64 f, .slice a n c] w fun e w' => e = .returned (.bool true) ∧ Below w.heap.size w w' := by
  obtain ⟨hn60, _⟩ := few_in few
  rw [hs.1] at hn60
  have HFew := Lib.hid (ChnE.Few a n c s w hs.2.2.2.2 hs.1 hs.2.1 hs.2.2.2.1)
  rw [few] at HFew
  have HC := Lib.hid (fun W (hb : Below w.heap.size w W) => ChnV.Check root f a n c s W (hs.2.2.2.2.step hb) hs.1 (by omega) (hr.step hb))
  generalize checkR root f s = m at *
  obtain ⟨m0, m1, z⟩ := m
  dsimp only at h HC
  have hz : (z != 0) = true := by simpa using h
  clear hs hr few h
  go_enter Tryd.func3, Tryd.ntmps3
  go_wp2_with (first
    | (go_at_call 5; refine HFew.out.mono ?_; rintro e w2 ⟨rfl, hb⟩; have B := Lib.hid hb; clear hb HFew)
    | (go_at_call 7; refine (HC.out _ B.out).mono ?_; rintro e w3 ⟨rfl, hb⟩; replace B := Lib.hid (B.out.trans (hb.mono B.out.size)); clear hb HC)
    | (go_at_call 6; refine (RcpF.alive _).mono ?_; rintro e w4 ⟨rfl, hb⟩; replace B := Lib.hid (B.out.trans (hb.mono B.out.size)); clear hb))
  go_ret
  exact ⟨rfl, B.out⟩
include hf
set_option maxRecDepth 100000 in
set_option maxHeartbeats 8000000 in
theorem main (few : fewB s = true) (ho : okR root f (recs s)) (ht : tagsOk root f s) : Calls Tryd.prog 3 #[.string ⟨root.toArray⟩, .int .i64 f, .slice a n c] w fun e w' => e = .returned (.bool true) ∧ Below w.heap.size w w' := by
  obtain ⟨hn60, _⟩ := few_in few
  have hl := hs.1
  rw [hl] at hn60
  have HFew := Lib.hid (ChnE.Few a n c s w hs.2.2.2.2 hs.1 hs.2.1 hs.2.2.2.1)
  rw [few] at HFew
  have HC := Lib.hid (fun W (hb : Below w.heap.size w W) => ChnV.Check root f a n c s W (hs.2.2.2.2.step hb) hs.1 (by omega) (hr.step hb))
  rw [check_good ho ht, hl] at HC
  have HA := Lib.hid (fun W (hb : Below w.heap.size w W) => RcpA.All a n c s W (hs.2.2.2.2.step hb) hl (by omega) hs.2.2.1)
  have HK := Lib.hid (fun (x : Rcp) W (hb : Below w.heap.size w W) => RcpK.Check root f x W (hr.step hb) hf)
  have HO := Lib.hid (fun (x : Rcp) W (hb : Below w.heap.size w W) => RcpF.Of a n c s x W (hs.2.2.2.2.step hb) hl (by unfold maxLen; omega) hs.2.2.1)
  have hmany := all_many ho ht (by omega)
  have hall := fun (i : Nat) (hi : i < (allTo s s.length).length) => all_right (s := s) ho ht (by omega) hi
  have hA60 : (allTo s n).length ≤ 60 := Nat.le_trans (all_len s n) hn60
  have hf0 := ho.2.1
  rw [hl] at hmany hall
  have HR := Lib.hid hr
  clear hs hr few ht hf ho hl
  generalize opn f (recs s) = X at *
  generalize allTo s n = A at *
  have HX : Hid (∀ i (hi : i < A.length), checkC root f A[i] = 0 ∧ ofB s A[i] = true ∧ A[i].r.ep = f + (i : Int)) := Lib.hid hall
  have HMany := Lib.hid hmany
  clear hall hmany
  go_enter Tryd.func3, Tryd.ntmps3
  go_wp2_with (first
    | (go_at_call 5; refine HFew.out.mono ?_; rintro e w2 ⟨rfl, hb⟩; have B := Lib.hid hb; clear hb HFew)
    | (go_at_call 7; refine (HC.out _ B.out).mono ?_; rintro e w3 ⟨rfl, hb⟩; replace B := Lib.hid (B.out.trans (hb.mono B.out.size)); clear hb HC)
    | (go_at_call 8; refine (HA.out _ B.out).mono ?_; rintro e w4 ⟨pA, cA, rfl, hown, hb⟩; have LA := Lib.hid (own_lies hown); replace B := Lib.hid (B.out.trans (hb.mono B.out.size)); clear hb HA hown))
  go_loopw [32] (fun iv wr => ∃ k : Nat, k ≤ A.length ∧ iv = .int .i64 k ∧ Below w.heap.size w wr ∧ Lies wr pA (ps A)) (fun iv _ => A.length - (intOf iv).toNat)
  case atStart => exact ⟨0, Nat.zero_le _, rfl, B.out, LA.out⟩
  case round =>
    clear B LA
    obtain ⟨k, hk, rfl, hb, hla⟩ := hrel
    have B := Lib.hid hb
    have LA := Lib.hid hla
    clear hb hla
    by_cases hlt : k < A.length
    · obtain ⟨gA, oA, rfl, hgA, hcA⟩ := lies_at11 LA.out (by omega)
      obtain ⟨q0, q1, q2, q3, q4, q5, q6, q7, q8, q9, q10⟩ := hcA k hlt
      obtain ⟨e1, e2, e3⟩ := HX.out k hlt
      have HKk := Lib.hid (HK.out A[k])
      have HOk := Lib.hid (HO.out A[k])
      rw [e1] at HKk
      rw [e2] at HOk
      have he : (A[k].r.ep != f + (k : Int)) = false := by rw [e3]; simp
      clear hcA HK HO HX HMany e1 e2 e3
      generalize A[k] = y at *
      have p0 : (0 : Int) ≤ (k : Int) := by omega
      have p1 : (k : Int) < (A.length : Int) := by omega
      go_upto_region 10 with (refine wpList_store_row rfl 33 _ _ rfl wr.heap.size _ rfl rfl 33 _ (heap_alloc_new wr _) infoP rfl (one11 y) ?_)
      have B4 := Lib.hid (B.out.trans ((kept_new wr #[.int .i64 0, .int .i64 0, .int .i64 0, .int .i64 0, .int .i64 0, .int .i64 0, .int .i64 0, .string ⟨#[]⟩, .string ⟨#[]⟩, .string ⟨#[]⟩, .string ⟨#[]⟩] #[.int .i64 y.q, .int .i64 y.r.k, .int .i64 y.r.ep, .int .i64 y.r.tm, .int .i64 y.r.ct, .int .i64 y.r.tg, .int .i64 y.r.un, .string ⟨y.r.rt.toArray⟩, .string ⟨y.r.nm.toArray⟩, .string ⟨y.was.toArray⟩, .string ⟨y.tag.toArray⟩] 33).mono B.out.size))
      have L4 := Lib.hid (LA.out.step (kept_new wr #[.int .i64 0, .int .i64 0, .int .i64 0, .int .i64 0, .int .i64 0, .int .i64 0, .int .i64 0, .string ⟨#[]⟩, .string ⟨#[]⟩, .string ⟨#[]⟩, .string ⟨#[]⟩] #[.int .i64 y.q, .int .i64 y.r.k, .int .i64 y.r.ep, .int .i64 y.r.tm, .int .i64 y.r.ct, .int .i64 y.r.tg, .int .i64 y.r.un, .string ⟨y.r.rt.toArray⟩, .string ⟨y.r.nm.toArray⟩, .string ⟨y.was.toArray⟩, .string ⟨y.tag.toArray⟩] 33))
      have G4 : Hid (Br ((wr.alloc (.cells #[.int .i64 0, .int .i64 0, .int .i64 0, .int .i64 0, .int .i64 0, .int .i64 0, .int .i64 0, .string ⟨#[]⟩, .string ⟨#[]⟩, .string ⟨#[]⟩, .string ⟨#[]⟩] 33)).setRow wr.heap.size #[.int .i64 y.q, .int .i64 y.r.k, .int .i64 y.r.ep, .int .i64 y.r.tm, .int .i64 y.r.ct, .int .i64 y.r.tg, .int .i64 y.r.un, .string ⟨y.r.rt.toArray⟩, .string ⟨y.r.nm.toArray⟩, .string ⟨y.was.toArray⟩, .string ⟨y.tag.toArray⟩]) wr.heap.size y) := Lib.hid (has_new wr _ _ _)
      clear q0 q1 q2 q3 q4 q5 q6 q7 q8 q9 q10
      revert B4 L4 G4
      generalize World.setRow _ _ _ = W4
      generalize wr.heap.size = X4
      intro B4 L4 G4
      obtain ⟨k0, k1, k2, k3, k4, k5, k6, k7, k8, k9, k10⟩ := G4.out.cells
      go_wp2_with (first
        | (go_at_call 9; refine (HKk.out _ B4.out).mono ?_; rintro e w5 ⟨rfl, hb⟩; replace B4 := Lib.hid (B4.out.trans (hb.mono B4.out.size)); replace L4 := Lib.hid (L4.out.step hb); replace G4 := Lib.hid (G4.out.step hb); clear hb HKk k0 k1 k2 k3 k4 k5 k6 k7 k8 k9 k10; obtain ⟨k0, k1, k2, k3, k4, k5, k6, k7, k8, k9, k10⟩ := G4.out.cells)
        | (go_at_call 10; refine (HOk.out _ B4.out).mono ?_; rintro e w6 ⟨rfl, hb⟩; replace B4 := Lib.hid (B4.out.trans (hb.mono B4.out.size)); replace L4 := Lib.hid (L4.out.step hb); replace G4 := Lib.hid (G4.out.step hb); clear hb HOk k0 k1 k2 k3 k4 k5 k6 k7 k8 k9 k10; obtain ⟨k0, k1, k2, k3, k4, k5, k6, k7, k8, k9, k10⟩ := G4.out.cells))
      go_roundw
      case rel => exact ⟨k + 1, by omega, by go_num, B4.out, L4.out⟩
      case measure => simp [intOf]; omega
    · obtain rfl : k = A.length := by omega
      have pk : ¬ (A.length : Int) < (A.length : Int) := by omega
      have hm := HMany.out
      have hX0 : 0 ≤ X := by omega
      have hX1 : X ≤ 4294968000 := by omega
      clear hm
      have hq : ((A.length : Int) == X - f) = true := by rw [← HMany.out]; simp
      go_wp2_with (go_at_call 6; refine (RcpF.alive _).mono ?_; rintro e w7 ⟨rfl, hb⟩; replace B := Lib.hid (B.out.trans (hb.mono B.out.size)); clear hb)
      go_ret
      exact ⟨rfl, B.out⟩
end
end Go.Proofs.YtkidehngleglnaaDoor.RcpY
