/- receipt.Put: the walk of its text; what Take tells, in four ways. No conditions but those that each lemma names. -/
import Derived.Test.YtkidehngleglnaaGreatDoorLRcp
import Derived.Test.YtkidehngleglnaaGreatDoorLChf
import Derived.Test.YtkidehngleglnaaGreatDoorRecU
import Derived.Test.YtkidehngleglnaaGreatDoorOGet
namespace Go.Proofs.YtkidehngleglnaaGreatDoor.RcpT
set_option linter.unusedVariables false
open Go.RowKit
open RecN RecC RecQ RecU ChnN ChnM ChnC ChnA RcpN RcpC
def pcode (x : Rcp) : Int := if rok x then 0 else 2
theorem pcode_yes {x : Rcp} (h : rok x) : pcode x = 0 := if_pos h
theorem pcode_no {x : Rcp} (h : ¬ rok x) : pcode x = 2 := if_neg h
set_option maxRecDepth 100000 in
set_option maxHeartbeats 4000000 in
/-- THE CONTRACT of Put. -/
theorem Put (x : Rcp) (w : World) : Calls Tryz.prog 8 #[.agg #[.int .i64 x.q, .int .i64 x.r.k, .int .i64 x.r.ep, .int .i64 x.r.tm, .int .i64 x.r.ct, .int .i64 x.r.tg, .int .i64 x.r.un, .string ⟨x.r.rt.toArray⟩, .string ⟨x.r.nm.toArray⟩, .string ⟨x.was.toArray⟩, .string ⟨x.tag.toArray⟩]] w fun e w' => e = .returned (.tuple #[.string ⟨(putR x).1.toArray⟩, .int .i64 (pcode x)]) ∧ Below w.heap.size w w' := by
  obtain ⟨W1, hW1⟩ : ∃ W1, W1 = w.alloc (.cells #[.int .i64 x.q, .int .i64 x.r.k, .int .i64 x.r.ep, .int .i64 x.r.tm, .int .i64 x.r.ct, .int .i64 x.r.tg, .int .i64 x.r.un, .string ⟨x.r.rt.toArray⟩, .string ⟨x.r.nm.toArray⟩, .string ⟨x.was.toArray⟩, .string ⟨x.tag.toArray⟩] 25) := ⟨_, rfl⟩
  have SS : Hid (Rs w x W1) := Lib.hid (by rw [hW1]; exact rs_new w x)
  obtain ⟨k0, k1, k2, k3, k4, k5, k6, k7, k8, k9, k10⟩ := SS.out.k.cells
  have HM := Lib.hid (fun W => RcpP.may x W)
  by_cases hr : rok x
  · rw [dt hr] at HM
    rw [putR_yes hr, pcode_yes hr]
    have HP := Lib.hid (fun W => OPut.any x.q 4 W)
    rw [four hr.2.2.1] at HP
    have HR := Lib.hid (fun W => RecQ.Put_yes x.r W hr.1)
    have HE : Hid (bytesR x = be 4 x.q.toNat ++ (x.was ++ (x.tag ++ RecN.bytes x.r))) := Lib.hid rfl
    have hb := bounds hr.1
    have hbl := bytes_len hr.1
    have h4 : (be 4 x.q.toNat).length = 4 := be_length _ _
    have h5 := hr.2.2.2.1
    have h6 := hr.2.2.2.2
    dsimp only at HP ⊢
    generalize be 4 x.q.toNat = b at *
    generalize RecN.bytes x.r = s at *
    generalize bytesR x = o at *
    have a1 := add_l b x.was (by omega)
    have a2 := add_l (b ++ x.was) x.tag (by rw [List.length_append]; omega)
    rw [List.append_assoc b x.was x.tag] at a2
    have a3 := add_l (b ++ (x.was ++ x.tag)) s (by rw [List.length_append, List.length_append]; omega)
    rw [show (b ++ (x.was ++ x.tag)) ++ s = b ++ (x.was ++ (x.tag ++ s)) by simp only [List.append_assoc]] at a3
    clear hr hb hbl h4 h5 h6
    go_enter Tryz.func8, Tryz.ntmps8
    go_upto_region 1 with (fail)
    rw [← hW1]
    clear hW1
    go_wp2_with (first
      | (go_at_call 15; refine (HM.out _).mono ?_; rintro e w5 ⟨rfl, hb⟩; replace SS := Lib.hid (SS.out.step hb); clear hb HM k0 k1 k2 k3 k4 k5 k6 k7 k8 k9 k10; obtain ⟨k0, k1, k2, k3, k4, k5, k6, k7, k8, k9, k10⟩ := SS.out.k.cells)
      | (go_at_call 21; refine (HP.out _).mono ?_; rintro e w6 ⟨rfl, hb⟩; replace SS := Lib.hid (SS.out.step hb); clear hb HP k0 k1 k2 k3 k4 k5 k6 k7 k8 k9 k10; obtain ⟨k0, k1, k2, k3, k4, k5, k6, k7, k8, k9, k10⟩ := SS.out.k.cells)
      | (go_at_call 22; refine (HR.out _).mono ?_; rintro e w7 ⟨rfl, hb⟩; replace SS := Lib.hid (SS.out.step hb); clear hb HR k0 k1 k2 k3 k4 k5 k6 k7 k8 k9 k10; obtain ⟨k0, k1, k2, k3, k4, k5, k6, k7, k8, k9, k10⟩ := SS.out.k.cells))
    go_ret2
    rw [HE.out]
    exact ⟨rfl, SS.out.bel⟩
  · rw [df hr] at HM
    rw [putR_no hr, pcode_no hr]
    clear hr
    go_enter Tryz.func8, Tryz.ntmps8
    go_upto_region 1 with (fail)
    rw [← hW1]
    clear hW1
    go_wp2_with (go_at_call 15; refine (HM.out _).mono ?_; rintro e w5 ⟨rfl, hb⟩; replace SS := Lib.hid (SS.out.step hb); clear hb HM k0 k1 k2 k3 k4 k5 k6 k7 k8 k9 k10)
    go_ret2
    exact ⟨rfl, SS.out.bel⟩
/-- What Take tells, in four ways. -/
theorem take_ways (s : List UInt8) : (¬ 68 ≤ s.length ∧ ¬ tookR s) ∨ (68 ≤ s.length ∧ ¬ took (s.drop 68) ∧ ¬ tookR s) ∨ (68 ≤ s.length ∧ took (s.drop 68) ∧ ¬ (take_ (s.drop 68)).1.k = 1 ∧ ¬ tookR s) ∨ (68 ≤ s.length ∧ took (s.drop 68) ∧ (take_ (s.drop 68)).1.k = 1 ∧ tookR s) := by
  by_cases h : 68 ≤ s.length
  · by_cases h2 : took (s.drop 68)
    · by_cases h3 : (take_ (s.drop 68)).1.k = 1
      · refine .inr (.inr (.inr ⟨h, h2, h3, h, by rw [take_yes h2], ?_⟩))
        have hq := (get_four s (by omega)).2
        refine ⟨?_, h3, ⟨?_, ?_⟩, ?_, ?_⟩
        · show right (take_ (s.drop 68)).1
          rw [take_yes h2]
          exact h2.2.2.2.2
        · show (0 : Int) ≤ (num (s.take 4) : Int)
          omega
        · show (num (s.take 4) : Int) ≤ 4294967295
          omega
        · show ((s.drop 4).take 32).length = 32
          rw [List.length_take, List.length_drop]
          omega
        · show ((s.drop 36).take 32).length = 32
          rw [List.length_take, List.length_drop]
          omega
      · exact .inr (.inr (.inl ⟨h, h2, h3, fun hh => h3 hh.2.2.2.1⟩))
    · refine .inr (.inl ⟨h, h2, fun hh => ?_⟩)
      have := hh.2.1
      rw [take_no h2] at this
      cases this
  · exact .inl ⟨h, fun hh => h hh.1⟩
/-- The slices that Take makes. -/
theorem slices (s : List UInt8) (h : 68 ≤ s.length) : (∀ W, (Instr.slice 9 (.string ⟨s.toArray⟩) none (some (.int .i64 4)) none).run Tryz.prog W = .ok (.string ⟨(s.take 4).toArray⟩) W) ∧
    (∀ W, (Instr.slice 9 (.string ⟨s.toArray⟩) (some (.int .i64 68)) none none).run Tryz.prog W = .ok (.string ⟨(s.drop 68).toArray⟩) W) ∧
    (∀ W, (Instr.slice 9 (.string ⟨s.toArray⟩) (some (.int .i64 4)) (some (.int .i64 36)) none).run Tryz.prog W = .ok (.string ⟨((s.drop 4).take 32).toArray⟩) W) ∧
    (∀ W, (Instr.slice 9 (.string ⟨s.toArray⟩) (some (.int .i64 36)) (some (.int .i64 68)) none).run Tryz.prog W = .ok (.string ⟨((s.drop 36).take 32).toArray⟩) W) := by
  have s0 := fun W => run_slice_string_h (P := Tryz.prog) (w := W) 9 ⟨s.toArray⟩ Tryz.underlying9 .i64 4 (by omega) (show (4 : Int) ≤ ((s.length : Nat) : Int) by omega)
  rw [show (⟨s.toArray⟩ : ByteArray).extract 0 (4 : Int).toNat = ⟨(s.take 4).toArray⟩ from ext_at s 0 4] at s0
  have s1 := fun W => run_slice_string_l (P := Tryz.prog) (w := W) 9 ⟨s.toArray⟩ Tryz.underlying9 .i64 68 (by omega) (show (68 : Int) ≤ ((s.length : Nat) : Int) by omega)
  rw [show (⟨s.toArray⟩ : ByteArray).extract (68 : Int).toNat (⟨s.toArray⟩ : ByteArray).size = ⟨(s.drop 68).toArray⟩ from by
    rw [ext_at, size_mk, show (68 : Int).toNat = 68 from rfl, List.take_of_length_le (by simp)]] at s1
  have s2 := fun W => run_slice_string (P := Tryz.prog) W 9 ⟨s.toArray⟩ .i64 .i64 4 36 Tryz.underlying9 (by omega) (by omega) (show (36 : Int) ≤ ((s.length : Nat) : Int) by omega)
  rw [show (⟨s.toArray⟩ : ByteArray).extract (4 : Int).toNat (36 : Int).toNat = ⟨((s.drop 4).take 32).toArray⟩ from ext_at s 4 36] at s2
  have s3 := fun W => run_slice_string (P := Tryz.prog) W 9 ⟨s.toArray⟩ .i64 .i64 36 68 Tryz.underlying9 (by omega) (by omega) (show (68 : Int) ≤ ((s.length : Nat) : Int) by omega)
  rw [show (⟨s.toArray⟩ : ByteArray).extract (36 : Int).toNat (68 : Int).toNat = ⟨((s.drop 36).take 32).toArray⟩ from ext_at s 36 68] at s3
  exact ⟨s0, s1, s2, s3⟩
end Go.Proofs.YtkidehngleglnaaGreatDoor.RcpT
