/- The document's Check and Put: the walks of their texts. No conditions but those that each lemma names. -/
import Derived.Test.YtkidehngleglnaaGreatDoorRcpK
import Derived.Test.YtkidehngleglnaaGreatDoorRcpD
import Derived.Test.YtkidehngleglnaaGreatDoorRcpT
import Derived.Test.YtkidehngleglnaaGreatDoorEvoR
import Derived.Test.YtkidehngleglnaaGreatDoorChnR
namespace Go.Proofs.YtkidehngleglnaaGreatDoor.RcpV
set_option linter.unusedVariables false
open Go.RowKit
open RecN RecC RecQ EvoN ChnN ChnM ChnC ChnA RcpN RcpC RcpK RcpT
theorem n32 {l : List UInt8} (h : l.length = 32) : (((l.length : Nat) : Int) != 32) = false := by simp [h]
theorem i32 {l : List UInt8} (h : ¬ l.length = 32) : (((l.length : Nat) : Int) != 32) = true := by simp; omega
theorem doc_ways (root : List UInt8) (f : Int) (x : Rcp) : (checkC root f x = 2 ∧ (¬ root.length = 32 ∨ (root.length = 32 ∧ f < 0) ∨ (root.length = 32 ∧ ¬ f < 0 ∧ 4294967295 < f) ∨ (root.length = 32 ∧ ¬ f < 0 ∧ ¬ 4294967295 < f ∧ ¬ rok x))) ∨
    (root.length = 32 ∧ ¬ f < 0 ∧ ¬ 4294967295 < f ∧ rok x ∧ ¬ (at_ root f x.r.ep).2 = 0 ∧ checkC root f x = (at_ root f x.r.ep).2) ∨
    (root.length = 32 ∧ ¬ f < 0 ∧ ¬ 4294967295 < f ∧ rok x ∧ at_ root f x.r.ep = (keyAt root f x.r.ep, 0) ∧ checkC root f x = if tagOf (keyAt root f x.r.ep) x.was x.q x.r = x.tag then 0 else 15) := by
  by_cases h1 : root.length = 32
  · by_cases h2 : f < 0
    · exact .inl ⟨if_neg (fun hh => by omega), .inr (.inl ⟨h1, h2⟩)⟩
    · by_cases h3 : 4294967295 < f
      · exact .inl ⟨if_neg (fun hh => by omega), .inr (.inr (.inl ⟨h1, h2, h3⟩))⟩
      · rcases check_ways root f x with ⟨hr, he⟩ | ⟨hr, hz, he⟩ | ⟨hr, ha, _, _, he⟩
        · exact .inl ⟨he, .inr (.inr (.inr ⟨h1, h2, h3, hr⟩))⟩
        · exact .inr (.inl ⟨h1, h2, h3, hr, hz, he⟩)
        · exact .inr (.inr ⟨h1, h2, h3, hr, ha, he⟩)
  · exact .inl ⟨if_neg (fun hh => h1 hh.1), .inl h1⟩
set_option maxRecDepth 100000 in
set_option maxHeartbeats 4000000 in
/-- What the document's Check answers. -/
theorem Check (root : List UInt8) (f : Int) (x : Rcp) (w : World) (hx : x.q ≤ 9223372036854775807) :
    Calls Tryz.prog 7 #[.string ⟨root.toArray⟩, .int .i64 f, .agg #[.int .i64 x.q, .int .i64 x.r.k, .int .i64 x.r.ep, .int .i64 x.r.tm, .int .i64 x.r.ct, .int .i64 x.r.tg, .int .i64 x.r.un, .string ⟨x.r.rt.toArray⟩, .string ⟨x.r.nm.toArray⟩, .string ⟨x.was.toArray⟩, .string ⟨x.tag.toArray⟩]] w fun e w' => e = .returned (.int .i64 (checkC root f x)) ∧ Below w.heap.size w w' := by
  obtain ⟨W1, hW1⟩ : ∃ W1, W1 = w.alloc (.cells #[.int .i64 x.q, .int .i64 x.r.k, .int .i64 x.r.ep, .int .i64 x.r.tm, .int .i64 x.r.ct, .int .i64 x.r.tg, .int .i64 x.r.un, .string ⟨x.r.rt.toArray⟩, .string ⟨x.r.nm.toArray⟩, .string ⟨x.was.toArray⟩, .string ⟨x.tag.toArray⟩] 25) := ⟨_, rfl⟩
  have SS : Hid (Rs w x W1) := Lib.hid (by rw [hW1]; exact rs_new w x)
  obtain ⟨k0, k1, k2, k3, k4, k5, k6, k7, k8, k9, k10⟩ := SS.out.k.cells
  have HM := Lib.hid (fun W => RcpD.Right x W)
  have HA := Lib.hid (fun W => EvoR.At root f x.r.ep W)
  have hz := size_mk root
  rcases doc_ways root f x with ⟨he, hc⟩ | ⟨h1, h2, h3, hr, hz, he⟩ | ⟨h1, h2, h3, hr, ha, he⟩
  · rw [he]
    clear he HA hx
    go_enter Tryz.func7, Tryz.ntmps7
    go_upto_region 1 with (fail)
    rw [← hW1]
    clear hW1
    rcases hc with h1 | ⟨h1, h2⟩ | ⟨h1, h2, h3⟩ | ⟨h1, h2, h3, hr⟩
    · have hn := i32 h1
      clear h1 HM
      go_wp2_with fail
      go_ret
      exact ⟨rfl, SS.out.bel⟩
    · have hn := n32 h1
      clear h1 HM
      go_wp2_with fail
      go_ret
      exact ⟨rfl, SS.out.bel⟩
    · have hn := n32 h1
      clear h1 HM
      go_wp2_with fail
      go_ret
      exact ⟨rfl, SS.out.bel⟩
    · have hn := n32 h1
      rw [df hr] at HM
      clear h1 hr
      go_wp2_with (go_at_call 18; refine (HM.out _).mono ?_; rintro e w5 ⟨rfl, hb⟩; replace SS := Lib.hid (SS.out.step hb); clear hb HM k0 k1 k2 k3 k4 k5 k6 k7 k8 k9 k10)
      go_ret
      exact ⟨rfl, SS.out.bel⟩
  · rw [dt hr] at HM
    rw [he]
    have hn := n32 h1
    generalize at_ root f x.r.ep = m at *
    obtain ⟨key, z⟩ := m
    dsimp only at hz HA ⊢
    have hz1 : (z != 0) = true := by simpa using hz
    clear hr he hz hx h1
    go_enter Tryz.func7, Tryz.ntmps7
    go_upto_region 1 with (fail)
    rw [← hW1]
    clear hW1
    go_wp2_with (first
      | (go_at_call 18; refine (HM.out _).mono ?_; rintro e w5 ⟨rfl, hb⟩; replace SS := Lib.hid (SS.out.step hb); clear hb HM k0 k1 k2 k3 k4 k5 k6 k7 k8 k9 k10; obtain ⟨k0, k1, k2, k3, k4, k5, k6, k7, k8, k9, k10⟩ := SS.out.k.cells)
      | (go_at_call 19; refine (HA.out _).mono ?_; rintro e w6 ⟨rfl, hb⟩; replace SS := Lib.hid (SS.out.step hb); clear hb HA k0 k1 k2 k3 k4 k5 k6 k7 k8 k9 k10))
    go_ret
    exact ⟨rfl, SS.out.bel⟩
  · rw [dt hr] at HM
    rw [ha] at HA
    have hn := n32 h1
    have HT := Lib.hid (fun W => ChnR.Tag (keyAt root f x.r.ep) x.was x.q x.r W hx)
    rw [tagged_yes (key_len _ _ _) (rok_say hr)] at HT
    have HCk := Lib.hid he
    generalize checkC root f x = ck at *
    dsimp only at HA HT
    clear hr he ha hx h1
    generalize tagOf (keyAt root f x.r.ep) x.was x.q x.r = t at *
    generalize keyAt root f x.r.ep = key at *
    go_enter Tryz.func7, Tryz.ntmps7
    go_upto_region 1 with (fail)
    rw [← hW1]
    clear hW1
    by_cases hq : t = x.tag
    · obtain rfl : ck = 0 := by rw [HCk.out, if_pos hq]
      clear HCk
      subst hq
      have he : (x.tag == x.tag) = true := by simp
      have hne : (x.tag != x.tag) = false := by simp
      go_wp2_with (first
        | (go_at_call 18; refine (HM.out _).mono ?_; rintro e w5 ⟨rfl, hb⟩; replace SS := Lib.hid (SS.out.step hb); clear hb HM k0 k1 k2 k3 k4 k5 k6 k7 k8 k9 k10; obtain ⟨k0, k1, k2, k3, k4, k5, k6, k7, k8, k9, k10⟩ := SS.out.k.cells)
        | (go_at_call 19; refine (HA.out _).mono ?_; rintro e w6 ⟨rfl, hb⟩; replace SS := Lib.hid (SS.out.step hb); clear hb HA k0 k1 k2 k3 k4 k5 k6 k7 k8 k9 k10; obtain ⟨k0, k1, k2, k3, k4, k5, k6, k7, k8, k9, k10⟩ := SS.out.k.cells)
        | (go_at_call 20; refine (HT.out _).mono ?_; rintro e w7 ⟨rfl, hb⟩; replace SS := Lib.hid (SS.out.step hb); clear hb HT k0 k1 k2 k3 k4 k5 k6 k7 k8 k9 k10; obtain ⟨k0, k1, k2, k3, k4, k5, k6, k7, k8, k9, k10⟩ := SS.out.k.cells))
      go_ret
      exact ⟨rfl, SS.out.bel⟩
    · obtain rfl : ck = 15 := by rw [HCk.out, if_neg hq]
      clear HCk
      have he : (t == x.tag) = false := by simpa using hq
      have hne : (t != x.tag) = true := by simpa using hq
      clear hq
      go_wp2_with (first
        | (go_at_call 18; refine (HM.out _).mono ?_; rintro e w5 ⟨rfl, hb⟩; replace SS := Lib.hid (SS.out.step hb); clear hb HM k0 k1 k2 k3 k4 k5 k6 k7 k8 k9 k10; obtain ⟨k0, k1, k2, k3, k4, k5, k6, k7, k8, k9, k10⟩ := SS.out.k.cells)
        | (go_at_call 19; refine (HA.out _).mono ?_; rintro e w6 ⟨rfl, hb⟩; replace SS := Lib.hid (SS.out.step hb); clear hb HA k0 k1 k2 k3 k4 k5 k6 k7 k8 k9 k10; obtain ⟨k0, k1, k2, k3, k4, k5, k6, k7, k8, k9, k10⟩ := SS.out.k.cells)
        | (go_at_call 20; refine (HT.out _).mono ?_; rintro e w7 ⟨rfl, hb⟩; replace SS := Lib.hid (SS.out.step hb); clear hb HT k0 k1 k2 k3 k4 k5 k6 k7 k8 k9 k10; obtain ⟨k0, k1, k2, k3, k4, k5, k6, k7, k8, k9, k10⟩ := SS.out.k.cells))
      go_ret
      exact ⟨rfl, SS.out.bel⟩
set_option maxRecDepth 100000 in
set_option maxHeartbeats 4000000 in
/-- What the document's Put answers. -/
theorem Put (x : Rcp) (w : World) : Calls Tryz.prog 9 #[.agg #[.int .i64 x.q, .int .i64 x.r.k, .int .i64 x.r.ep, .int .i64 x.r.tm, .int .i64 x.r.ct, .int .i64 x.r.tg, .int .i64 x.r.un, .string ⟨x.r.rt.toArray⟩, .string ⟨x.r.nm.toArray⟩, .string ⟨x.was.toArray⟩, .string ⟨x.tag.toArray⟩]] w fun e w' => e = .returned (.tuple #[.string ⟨(putR x).1.toArray⟩, .bool (decide (rok x))]) ∧ Below w.heap.size w w' := by
  obtain ⟨W1, hW1⟩ : ∃ W1, W1 = w.alloc (.cells #[.int .i64 x.q, .int .i64 x.r.k, .int .i64 x.r.ep, .int .i64 x.r.tm, .int .i64 x.r.ct, .int .i64 x.r.tg, .int .i64 x.r.un, .string ⟨x.r.rt.toArray⟩, .string ⟨x.r.nm.toArray⟩, .string ⟨x.was.toArray⟩, .string ⟨x.tag.toArray⟩] 25) := ⟨_, rfl⟩
  have SS : Hid (Rs w x W1) := Lib.hid (by rw [hW1]; exact rs_new w x)
  obtain ⟨k0, k1, k2, k3, k4, k5, k6, k7, k8, k9, k10⟩ := SS.out.k.cells
  have HM := Lib.hid (fun W => RcpD.Right x W)
  by_cases hr : rok x
  · rw [dt hr] at HM ⊢
    rw [putR_yes hr]
    have h2 := hr.2.2.1
    have HP := Lib.hid (fun W => RPut.any x.q 4 W (by omega))
    rw [four hr.2.2.1] at HP
    have HR := Lib.hid (fun W => RecV.Put_yes x.r W hr.1)
    have HE : Hid (bytesR x = be 4 x.q.toNat ++ (x.was ++ (x.tag ++ RecN.bytes x.r))) := Lib.hid rfl
    have hb := bounds hr.1
    have hbl := bytes_len hr.1
    have h4 : (be 4 x.q.toNat).length = 4 := be_length _ _
    have h5 := hr.2.2.2.1
    have h6 := hr.2.2.2.2
    dsimp only at HP ⊢
    generalize be 4 x.q.toNat = b at *
    generalize RecN.bytes x.r = s at *
    generalize bytesR x = o at *
    have a1 := add_l b x.was (by omega)
    have a2 := add_l (b ++ x.was) x.tag (by rw [List.length_append]; omega)
    rw [List.append_assoc b x.was x.tag] at a2
    have a3 := add_l (b ++ (x.was ++ x.tag)) s (by rw [List.length_append, List.length_append]; omega)
    rw [show (b ++ (x.was ++ x.tag)) ++ s = b ++ (x.was ++ (x.tag ++ s)) by simp only [List.append_assoc]] at a3
    clear hr hb hbl h4 h5 h6 h2
    go_enter Tryz.func9, Tryz.ntmps9
    go_upto_region 1 with (fail)
    rw [← hW1]
    clear hW1
    go_wp2_with (first
      | (go_at_call 18; refine (HM.out _).mono ?_; rintro e w5 ⟨rfl, hb⟩; replace SS := Lib.hid (SS.out.step hb); clear hb HM k0 k1 k2 k3 k4 k5 k6 k7 k8 k9 k10; obtain ⟨k0, k1, k2, k3, k4, k5, k6, k7, k8, k9, k10⟩ := SS.out.k.cells)
      | (go_at_call 23; refine (HP.out _).mono ?_; rintro e w6 ⟨rfl, hb⟩; replace SS := Lib.hid (SS.out.step hb); clear hb HP k0 k1 k2 k3 k4 k5 k6 k7 k8 k9 k10; obtain ⟨k0, k1, k2, k3, k4, k5, k6, k7, k8, k9, k10⟩ := SS.out.k.cells)
      | (go_at_call 24; refine (HR.out _).mono ?_; rintro e w7 ⟨rfl, hb⟩; replace SS := Lib.hid (SS.out.step hb); clear hb HR k0 k1 k2 k3 k4 k5 k6 k7 k8 k9 k10; obtain ⟨k0, k1, k2, k3, k4, k5, k6, k7, k8, k9, k10⟩ := SS.out.k.cells))
    go_ret2
    rw [HE.out]
    exact ⟨rfl, SS.out.bel⟩
  · rw [df hr] at HM ⊢
    rw [putR_no hr]
    clear hr
    go_enter Tryz.func9, Tryz.ntmps9
    go_upto_region 1 with (fail)
    rw [← hW1]
    clear hW1
    go_wp2_with (go_at_call 18; refine (HM.out _).mono ?_; rintro e w5 ⟨rfl, hb⟩; replace SS := Lib.hid (SS.out.step hb); clear hb HM k0 k1 k2 k3 k4 k5 k6 k7 k8 k9 k10)
    go_ret2
    exact ⟨rfl, SS.out.bel⟩
end Go.Proofs.YtkidehngleglnaaGreatDoor.RcpV
