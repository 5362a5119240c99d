/- receipt.Check: the walk of its text. The condition: the rounds' numbers lie in the program's variable. -/
import Derived.Test.YtkidehngleglnaaGreatDoorLRcp
import Derived.Test.YtkidehngleglnaaGreatDoorLEvo
import Derived.Test.YtkidehngleglnaaGreatDoorChnT
namespace Go.Proofs.YtkidehngleglnaaGreatDoor.RcpK
set_option linter.unusedVariables false
open Go.RowKit
open RecN RecC STurn EvoN ChnN ChnM ChnC RcpN RcpC
theorem at_zero2 {k : List UInt8} {f e : Int} (h : (at_ k f e).2 = 0) : k.length = 32 ∧ (0 ≤ f ∧ f ≤ 4294967295) := by
  by_cases h1 : k.length = 32 ∧ 0 ≤ f ∧ f ≤ e ∧ e ≤ 4294967295
  · exact ⟨h1.1, h1.2.1, by omega⟩
  · rw [at_bad h1] at h
    exact absurd h (by simp)
/-- What Check answers, in three ways. -/
theorem check_ways (root : List UInt8) (f : Int) (x : Rcp) : (¬ rok x ∧ checkC root f x = 2) ∨ (rok x ∧ ¬ (at_ root f x.r.ep).2 = 0 ∧ checkC root f x = (at_ root f x.r.ep).2) ∨
    (rok x ∧ at_ root f x.r.ep = (keyAt root f x.r.ep, 0) ∧ root.length = 32 ∧ (0 ≤ f ∧ f ≤ 4294967295) ∧ checkC root f x = if tagOf (keyAt root f x.r.ep) x.was x.q x.r = x.tag then 0 else 15) := by
  by_cases hr : rok x
  · by_cases hz : (at_ root f x.r.ep).2 = 0
    · obtain ⟨h1, h2⟩ := at_zero2 hz
      obtain ⟨e, _⟩ := at_zero hz
      refine .inr (.inr ⟨hr, e, h1, h2, ?_⟩)
      rw [checkC, if_pos ⟨h1, h2, hr⟩, if_pos hz, e]
    · refine .inr (.inl ⟨hr, hz, ?_⟩)
      by_cases h : root.length = 32 ∧ (0 ≤ f ∧ f ≤ 4294967295)
      · rw [checkC, if_pos ⟨h.1, h.2, hr⟩, if_neg hz]
      · rw [checkC, if_neg (fun hh => h ⟨hh.1, hh.2.1⟩), at_bad (fun hh => h ⟨hh.1, hh.2.1, by omega⟩)]
  · exact .inl ⟨hr, if_neg (fun hh => hr hh.2.2)⟩
set_option maxRecDepth 100000 in
set_option maxHeartbeats 4000000 in
/-- THE CONTRACT of Check. -/
theorem Check (root : List UInt8) (f : Int) (x : Rcp) (w : World) (hrd : Rds w) (hf : f ≤ 9223372036854775807) :
    Calls Tryz.prog 6 #[.string ⟨root.toArray⟩, .int .i64 f, .agg #[.int .i64 x.q, .int .i64 x.r.k, .int .i64 x.r.ep, .int .i64 x.r.tm, .int .i64 x.r.ct, .int .i64 x.r.tg, .int .i64 x.r.un, .string ⟨x.r.rt.toArray⟩, .string ⟨x.r.nm.toArray⟩, .string ⟨x.was.toArray⟩, .string ⟨x.tag.toArray⟩]] w fun e w' => e = .returned (.int .i64 (checkC root f x)) ∧ Below w.heap.size w w' := by
  obtain ⟨W1, hW1⟩ : ∃ W1, W1 = w.alloc (.cells #[.int .i64 x.q, .int .i64 x.r.k, .int .i64 x.r.ep, .int .i64 x.r.tm, .int .i64 x.r.ct, .int .i64 x.r.tg, .int .i64 x.r.un, .string ⟨x.r.rt.toArray⟩, .string ⟨x.r.nm.toArray⟩, .string ⟨x.was.toArray⟩, .string ⟨x.tag.toArray⟩] 25) := ⟨_, rfl⟩
  have SS : Hid (Rs w x W1) := Lib.hid (by rw [hW1]; exact rs_new w x)
  obtain ⟨k0, k1, k2, k3, k4, k5, k6, k7, k8, k9, k10⟩ := SS.out.k.cells
  have HM := Lib.hid (fun W => RcpP.may x W)
  have HA := Lib.hid (fun W (hb : Below w.heap.size w W) => EvoA.At root f x.r.ep W (hrd.step hb) hf)
  rcases check_ways root f x with ⟨hr, he⟩ | ⟨hr, hz, he⟩ | ⟨hr, ha, _, _, he⟩
  · rw [df hr] at HM
    rw [he]
    clear hr he HA hf hrd
    go_enter Tryz.func6, Tryz.ntmps6
    go_upto_region 1 with (fail)
    rw [← hW1]
    clear hW1
    go_wp2_with (go_at_call 15; refine (HM.out _).mono ?_; rintro e w5 ⟨rfl, hb⟩; replace SS := Lib.hid (SS.out.step hb); clear hb HM k0 k1 k2 k3 k4 k5 k6 k7 k8 k9 k10)
    go_ret
    exact ⟨rfl, SS.out.bel⟩
  · rw [dt hr] at HM
    rw [he]
    generalize at_ root f x.r.ep = m at *
    obtain ⟨key, z⟩ := m
    dsimp only at hz HA ⊢
    have hz1 : (z != 0) = true := by simpa using hz
    clear hr he hf hrd hz
    go_enter Tryz.func6, Tryz.ntmps6
    go_upto_region 1 with (fail)
    rw [← hW1]
    clear hW1
    go_wp2_with (first
      | (go_at_call 15; refine (HM.out _).mono ?_; rintro e w5 ⟨rfl, hb⟩; replace SS := Lib.hid (SS.out.step hb); clear hb HM k0 k1 k2 k3 k4 k5 k6 k7 k8 k9 k10; obtain ⟨k0, k1, k2, k3, k4, k5, k6, k7, k8, k9, k10⟩ := SS.out.k.cells)
      | (go_at_call 16; refine (HA.out _ SS.out.bel).mono ?_; rintro e w6 ⟨rfl, hb⟩; replace SS := Lib.hid (SS.out.step hb); clear hb HA k0 k1 k2 k3 k4 k5 k6 k7 k8 k9 k10))
    go_ret
    exact ⟨rfl, SS.out.bel⟩
  · rw [dt hr] at HM
    rw [ha] at HA
    have HT := Lib.hid (fun W (hb : Below w.heap.size w W) => ChnT.Tag_yes (keyAt root f x.r.ep) x.was x.q x.r W (hrd.step hb) (key_len _ _ _) (rok_say hr))
    have HCk := Lib.hid he
    generalize checkC root f x = ck at *
    dsimp only at HA
    clear hr he ha hf hrd
    generalize tagOf (keyAt root f x.r.ep) x.was x.q x.r = t at *
    generalize keyAt root f x.r.ep = key at *
    go_enter Tryz.func6, Tryz.ntmps6
    go_upto_region 1 with (fail)
    rw [← hW1]
    clear hW1
    by_cases hq : t = x.tag
    · obtain rfl : ck = 0 := by rw [HCk.out, if_pos hq]
      clear HCk
      subst hq
      have he : (x.tag == x.tag) = true := by simp
      have hne : (x.tag != x.tag) = false := by simp
      go_wp2_with (first
        | (go_at_call 15; refine (HM.out _).mono ?_; rintro e w5 ⟨rfl, hb⟩; replace SS := Lib.hid (SS.out.step hb); clear hb HM k0 k1 k2 k3 k4 k5 k6 k7 k8 k9 k10; obtain ⟨k0, k1, k2, k3, k4, k5, k6, k7, k8, k9, k10⟩ := SS.out.k.cells)
        | (go_at_call 16; refine (HA.out _ SS.out.bel).mono ?_; rintro e w6 ⟨rfl, hb⟩; replace SS := Lib.hid (SS.out.step hb); clear hb HA k0 k1 k2 k3 k4 k5 k6 k7 k8 k9 k10; obtain ⟨k0, k1, k2, k3, k4, k5, k6, k7, k8, k9, k10⟩ := SS.out.k.cells)
        | (go_at_call 17; refine (HT.out _ SS.out.bel).mono ?_; rintro e w7 ⟨rfl, hb⟩; replace SS := Lib.hid (SS.out.step hb); clear hb HT k0 k1 k2 k3 k4 k5 k6 k7 k8 k9 k10; obtain ⟨k0, k1, k2, k3, k4, k5, k6, k7, k8, k9, k10⟩ := SS.out.k.cells))
      go_ret
      exact ⟨rfl, SS.out.bel⟩
    · obtain rfl : ck = 15 := by rw [HCk.out, if_neg hq]
      clear HCk
      have he : (t == x.tag) = false := by simpa using hq
      have hne : (t != x.tag) = true := by simpa using hq
      clear hq
      go_wp2_with (first
        | (go_at_call 15; refine (HM.out _).mono ?_; rintro e w5 ⟨rfl, hb⟩; replace SS := Lib.hid (SS.out.step hb); clear hb HM k0 k1 k2 k3 k4 k5 k6 k7 k8 k9 k10; obtain ⟨k0, k1, k2, k3, k4, k5, k6, k7, k8, k9, k10⟩ := SS.out.k.cells)
        | (go_at_call 16; refine (HA.out _ SS.out.bel).mono ?_; rintro e w6 ⟨rfl, hb⟩; replace SS := Lib.hid (SS.out.step hb); clear hb HA k0 k1 k2 k3 k4 k5 k6 k7 k8 k9 k10; obtain ⟨k0, k1, k2, k3, k4, k5, k6, k7, k8, k9, k10⟩ := SS.out.k.cells)
        | (go_at_call 17; refine (HT.out _ SS.out.bel).mono ?_; rintro e w7 ⟨rfl, hb⟩; replace SS := Lib.hid (SS.out.step hb); clear hb HT k0 k1 k2 k3 k4 k5 k6 k7 k8 k9 k10; obtain ⟨k0, k1, k2, k3, k4, k5, k6, k7, k8, k9, k10⟩ := SS.out.k.cells))
      go_ret
      exact ⟨rfl, SS.out.bel⟩
end Go.Proofs.YtkidehngleglnaaGreatDoor.RcpK
