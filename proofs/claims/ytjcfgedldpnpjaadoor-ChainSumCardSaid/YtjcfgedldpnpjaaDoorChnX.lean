/- The main walk of the statement of sums: two rows that are gone through. The condition: the rounds' numbers lie in the program's variable. -/
import Derived.Test.YtjcfgedldpnpjaaDoorLChy
import Derived.Test.YtjcfgedldpnpjaaDoorChnE
import Derived.Test.YtjcfgedldpnpjaaDoorLHky
import Derived.Test.YtjcfgedldpnpjaaDoorRecQ
import Derived.Deep.RegionHeld3
import Derived.BigQuiet
namespace Go.Proofs.YtjcfgedldpnpjaaDoor.ChnX
set_option linter.unusedVariables false
open Go.RowKit
open RecN RecC RecQ STurn SSum ChnN ChnM ChnC ChnD ChnL ChnU ChnE
theorem tags_next {A B : List Sd} {k : Nat} {x y : Sd} (hx : A[k]? = some x) (hy : B[k]? = some y) : tagsB A B (k + 1) = (tagsB A B k && (x.2 == y.2)) := by
  rw [tagsB_succ, hx, hy]
  congr 1
  by_cases h : x.2 = y.2
  · simp [h]
  · simp [h]
theorem met_next (A B : List Sd) (k : Nat) : metB A B (k + 1) = (metB A B k || (!(msg A k == msg B k) && (sum (msg A k) == sum (msg B k)))) := by
  rw [metB_succ]
  congr 1
  by_cases h : msg A k = msg B k
  · simp [h]
  · by_cases h2 : sum (msg A k) = sum (msg B k)
    · simp [h, h2]
    · simp [h, h2]
theorem summed_one (x : List UInt8) (w : World) (hr : Rds w) (hl : x.length ≤ 1000000) :
    Calls Tryd.prog 24 #[.slice (some ⟨w.heap.size, 0, none⟩) 1 1] (w.alloc (.cells #[.string ⟨x.toArray⟩] 9)) fun e w' => e = .returned (.string ⟨(sum x).toArray⟩) ∧ Below w.heap.size w w' := by
  have h := sums (some ⟨w.heap.size, 0, none⟩) 1 1 [x] (w.alloc (.cells #[.string ⟨x.toArray⟩] 9)) (HPart.own_strs (HPart.own_first x w)) (hr.step ((Below.refl _ _).alloc (Nat.le_refl _) _)) (by simp; omega) (by omega)
  rw [show ([x] : List (List UInt8)).flatten = x from by simp] at h
  exact h.mono fun e w' ⟨h1, h2⟩ => ⟨h1, ((Below.refl w.heap.size w).alloc (Nat.le_refl _) _).trans (h2.mono (by simp))⟩
set_option maxRecDepth 100000 in
set_option maxHeartbeats 8000000 in
theorem short (a : Option Addr) (n c : Nat) (A : List Sd) (b : Option Addr) (d : Nat) (B : List Sd) (w : World) (hA : Came w a n c A) (hB : Came w b n d B) (hr : Rds w) (fA : fewB A = true) (fB : fewB B = true) :
    Calls Tryd.prog 6 #[.slice a n c, .slice b n d] w fun e w' => e = .returned (.bool true) ∧ Below w.heap.size w w' := by
  have F1 : Hid True := Lib.hid trivial
  have FA := Lib.hid (Few a n c A w hA.2.2.2.2 hA.1 hA.2.1 hA.2.2.2.1)
  have FB := Lib.hid (fun W (hb : Below w.heap.size w W) => Few b n d B W (hB.2.2.2.2.step hb) hB.1 hB.2.1 hB.2.2.2.1)
  rw [fA] at FA
  rw [fB] at FB
  obtain ⟨hn60, htA⟩ := few_in fA
  obtain ⟨_, htB⟩ := few_in fB
  have hAl := hA.1
  have hBl := hB.1
  rw [hAl] at hn60
  have HLA := Lib.hid hA.2.2.2.2
  have HLB := Lib.hid hB.2.2.2.2
  have hcA := hA.2.2.1
  have hcB := hB.2.2.1
  have HR := Lib.hid hr
  have HTA := Lib.hid htA
  have HTB := Lib.hid htB
  have hq : ((n : Int) != (n : Int)) = false := by simp
  have HSa := Lib.hid (fun W (hb : Below w.heap.size w W) => Sum a n c A W (hA.2.2.2.2.step hb) hA.1 hA.2.1 (fun x hx => by have := htA x hx; omega) (hr.step hb))
  have HSb := Lib.hid (fun W (hb : Below w.heap.size w W) => Sum b n d B W (hB.2.2.2.2.step hb) hB.1 hB.2.1 (fun x hx => by have := htB x hx; omega) (hr.step hb))
  clear hr hA hB fA fB htA htB
  have F2 : Hid True := Lib.hid trivial
  go_enter Tryd.func6, Tryd.ntmps6
  go_wp2_with (first
    | (clear F1; go_at_call 13; refine FA.out.mono ?_; rintro e w2 ⟨rfl, hb⟩; have B2 := Lib.hid hb; clear hb FA)
    | (go_at_call 13; refine (FB.out _ B2.out).mono ?_; rintro e w3 ⟨rfl, hb⟩; have B3 := Lib.hid (B2.out.trans (hb.mono B2.out.size)); clear hb FB))
  go_loopw [5, 6, 28] (fun ev fv iv wr => ∃ k : Nat, k ≤ n ∧ iv = .int .i64 k ∧ ev = .bool (tagsB A B k) ∧ fv = .bool (metB A B k) ∧ Below w.heap.size w wr) (fun _ _ iv _ => n - (intOf iv).toNat)
  case atStart => exact ⟨0, Nat.zero_le _, rfl, rfl, rfl, B3.out⟩
  case round =>
    obtain ⟨k, hk, rfl, rfl, rfl, hb⟩ := hrel
    have HB := Lib.hid hb
    clear hb
    by_cases hlt : k < n
    · have hkA : k < A.length := by omega
      have hkB : k < B.length := by omega
      obtain ⟨g1, o1, rfl, hg1, hc1⟩ := HLA.out.at9 (by omega)
      obtain ⟨g2, o2, rfl, hg2, hc2⟩ := HLB.out.at9 (by omega)
      have HT := Lib.hid (tags_next (A := A) (B := B) (k := k) (List.getElem?_eq_getElem hkA) (List.getElem?_eq_getElem hkB))
      have HM := Lib.hid (met_next A B k)
      have H9A := Lib.hid (fun W (hb : Below w.heap.size w W) => ((hc1 k hkA).step hg1 hb).2.2.2.2.2.2.2.2)
      have H9B := Lib.hid (fun W (hb : Below w.heap.size w W) => ((hc2 k hkB).step hg2 hb).2.2.2.2.2.2.2.2)
      have hmA := msg_at A hkA
      have hmB := msg_at B hkB
      have hxA := HTA.out _ (List.getElem_mem hkA)
      have hxB := HTB.out _ (List.getElem_mem hkB)
      have hsA := sums_len (A.take k)
      have hsB := sums_len (B.take k)
      have HSA := Lib.hid (fun W (hb : Below w.heap.size w W) => Sum (some ⟨g1, o1, none⟩) k c (A.take k) W ((HLA.out.step hb).take k) (by rw [List.length_take]; omega) (by unfold maxLen; omega) (fun x hx => by have := HTA.out x (List.mem_of_mem_take hx); omega) (HR.out.step hb))
      have HSB := Lib.hid (fun W (hb : Below w.heap.size w W) => Sum (some ⟨g2, o2, none⟩) k d (B.take k) W ((HLB.out.step hb).take k) (by rw [List.length_take]; omega) (by unfold maxLen; omega) (fun x hx => by have := HTB.out x (List.mem_of_mem_take hx); omega) (HR.out.step hb))
      generalize A[k] = x at *
      generalize B[k] = y at *
      generalize ChnM.sums (A.take k) = ua at *
      generalize ChnM.sums (B.take k) = ub at *
      have aA := add_l ua x.2 (by omega)
      have aB := add_l ub y.2 (by omega)
      rw [← hmA] at aA
      rw [← hmB] at aB
      have hlA : (msg A k).length ≤ 1000000 := by rw [hmA, List.length_append]; omega
      have hlB : (msg B k).length ≤ 1000000 := by rw [hmB, List.length_append]; omega
      have HUA := Lib.hid (fun W hr => summed_one (msg A k) W hr hlA)
      have HUB := Lib.hid (fun W hr => summed_one (msg B k) W hr hlB)
      have cA := cut_s g1 o1 n c k (by omega) (by omega)
      have cB := cut_s g2 o2 n d k (by omega) (by omega)
      have p0 : (0 : Int) ≤ (k : Int) := by omega
      have p1 : (k : Int) < (n : Int) := by omega
      generalize msg A k = ma at *
      generalize msg B k = mb at *
      generalize sum ma = va at *
      generalize sum mb = vb at *
      generalize hqe : (x.2 == y.2) = qe at *
      generalize hqm : (ma == mb) = qm at *
      generalize hqv : (va == vb) = qv at *
      generalize tagsB A B k = te at *
      generalize metB A B k = me at *
      have t8 := H9A.out _ HB.out
      have u8 := H9B.out _ HB.out
      have F3 : Hid True := Lib.hid trivial
      clear hc1 hc2 hmA hmB hxA hxB hsA hsB hlA hlB HSa HSb
      have hw : te = true ∨ te = false := by cases te <;> simp
      have hv : me = true ∨ (me = false ∧ qm = true) ∨ (me = false ∧ qm = false) := by cases me <;> cases qm <;> simp
      rcases hw with rfl | rfl <;> rcases hv with rfl | ⟨rfl, rfl⟩ | ⟨rfl, rfl⟩
      all_goals
        go_upto_region 7 with (fail)
        go_quiet (fail)
        go_upto_region 8 with (fail)
        have B5 := Lib.hid ((HB.out.trans (below_drewN wr nq)).drew)
        have hS : (wr.drewN nq).drew.cell? ⟨g1, o1 + k * 9 + 8, none⟩ = some (.string ⟨x.2.toArray⟩) ∧ (wr.drewN nq).drew.cell? ⟨g2, o2 + k * 9 + 8, none⟩ = some (.string ⟨y.2.toArray⟩) := ⟨H9A.out _ B5.out, H9B.out _ B5.out⟩
        clear t8 u8
        go_region_held3 (fun W' => W'.cell? ⟨g1, o1 + k * 9 + 8, none⟩ = some (.string ⟨x.2.toArray⟩) ∧ W'.cell? ⟨g2, o2 + k * 9 + 8, none⟩ = some (.string ⟨y.2.toArray⟩))
          (exact hS)
          (first
            | (clear F2; go_at_call 23; refine (HSA.out _ B5.out).mono ?_; rintro e5 w5 ⟨rfl, hb⟩; replace B5 := Lib.hid (B5.out.trans (hb.mono B5.out.size)); replace hS := And.intro (H9A.out _ B5.out) (H9B.out _ B5.out); clear hb HSA)
            | (go_at_call 23; refine (HSB.out _ B5.out).mono ?_; rintro e5 w5 ⟨rfl, hb⟩; replace B5 := Lib.hid (B5.out.trans (hb.mono B5.out.size)); replace hS := And.intro (H9A.out _ B5.out) (H9B.out _ B5.out); clear hb HSB))
        go_wp2_with (first
          | (clear F3; go_at_call 24; refine (HUA.out _ (HR.out.step B5.out)).mono ?_; rintro e6 w6 ⟨rfl, hb⟩; replace B5 := Lib.hid (B5.out.trans (hb.mono B5.out.size)); clear hb HUA)
          | (go_at_call 24; refine (HUB.out _ (HR.out.step B5.out)).mono ?_; rintro e7 w7 ⟨rfl, hb⟩; replace B5 := Lib.hid (B5.out.trans (hb.mono B5.out.size)); clear hb HUB))
        go_roundw
        case rel => exact ⟨k + 1, by omega, by go_num, by rw [HT.out]; rfl, by rw [HM.out]; rfl, B5.out⟩
        case measure => simp [intOf]; omega
    · obtain rfl : k = n := by omega
      have pk : ¬ (k : Int) < (k : Int) := by omega
      have hl2 : A.length = B.length := by omega
      have hsm := sums_same (a := A) (b := B) hl2 k (by omega)
      have hap := sums_apart (a := A) (b := B) hl2 k (by omega)
      rw [List.take_of_length_le (by omega), List.take_of_length_le (by omega)] at hsm hap
      have ha2 := HSa.out _ HB.out
      have HSA := Lib.hid ha2
      have HSB := Lib.hid (fun W (hb : Below w.heap.size w W) => HSb.out W hb)
      clear HSa HSb ha2
      generalize ChnM.sums A = ua at *
      generalize ChnM.sums B = ub at *
      have hw : (tagsB A B k = true ∧ (ua == ub) = true) ∨ (tagsB A B k = false ∧ metB A B k = true) ∨ (tagsB A B k = false ∧ metB A B k = false ∧ (ua == ub) = false) := by
        cases ht : tagsB A B k with
        | true => exact .inl ⟨rfl, by rw [hsm ht]; simp⟩
        | false =>
          cases hm : metB A B k with
          | true => exact .inr (.inl ⟨rfl, rfl⟩)
          | false =>
            refine .inr (.inr ⟨rfl, rfl, ?_⟩)
            rw [beq_eq_false_iff_ne]
            intro e
            have := hap hm e
            rw [ht] at this
            cases this
      clear hsm hap
      generalize tagsB A B k = te at *
      generalize metB A B k = me at *
      rcases hw with ⟨rfl, hq1⟩ | ⟨rfl, rfl⟩ | ⟨rfl, rfl, hq1⟩
      · go_wp2_with (first
          | (clear F2; go_at_call 23; refine HSA.out.mono ?_; rintro e5 w5 ⟨rfl, hb⟩; replace HB := Lib.hid (HB.out.trans (hb.mono HB.out.size)); clear hb HSA)
          | (go_at_call 23; refine (HSB.out _ HB.out).mono ?_; rintro e5 w5 ⟨rfl, hb⟩; replace HB := Lib.hid (HB.out.trans (hb.mono HB.out.size)); clear hb HSB)
          | (go_at_call 8; refine (ChnY.alive _ (HR.out.step HB.out)).mono ?_; rintro e w4 ⟨rfl, hb⟩; replace HB := Lib.hid (HB.out.trans (hb.mono HB.out.size)); clear hb))
        go_ret
        exact ⟨rfl, HB.out⟩
      · go_wp2_with (go_at_call 8; refine (ChnY.alive _ (HR.out.step HB.out)).mono ?_; rintro e w4 ⟨rfl, hb⟩; replace HB := Lib.hid (HB.out.trans (hb.mono HB.out.size)); clear hb)
        go_ret
        exact ⟨rfl, HB.out⟩
      · go_wp2_with (first
          | (clear F2; go_at_call 23; refine HSA.out.mono ?_; rintro e5 w5 ⟨rfl, hb⟩; replace HB := Lib.hid (HB.out.trans (hb.mono HB.out.size)); clear hb HSA)
          | (go_at_call 23; refine (HSB.out _ HB.out).mono ?_; rintro e5 w5 ⟨rfl, hb⟩; replace HB := Lib.hid (HB.out.trans (hb.mono HB.out.size)); clear hb HSB)
          | (go_at_call 8; refine (ChnY.alive _ (HR.out.step HB.out)).mono ?_; rintro e w4 ⟨rfl, hb⟩; replace HB := Lib.hid (HB.out.trans (hb.mono HB.out.size)); clear hb))
        go_ret
        exact ⟨rfl, HB.out⟩
end Go.Proofs.YtjcfgedldpnpjaaDoor.ChnX
