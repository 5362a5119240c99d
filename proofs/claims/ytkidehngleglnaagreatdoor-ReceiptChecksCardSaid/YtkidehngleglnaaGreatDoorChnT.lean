/- chain.Tag: the walk of its text. The condition: the rounds' numbers lie in the program's variable. -/
import Derived.Test.YtkidehngleglnaaGreatDoorLChf
import Derived.Test.YtkidehngleglnaaGreatDoorLEvo
import Derived.Test.YtkidehngleglnaaGreatDoorLHky
namespace Go.Proofs.YtkidehngleglnaaGreatDoor.ChnT
set_option linter.unusedVariables false
open Go.RowKit
open RecN RecC STurn EvoN ChnN ChnM ChnC ChnA
theorem mac_yes {k : List UInt8} (h : k.length = 32) : made k lMac [] = (mkey k, 0) := made_good h ok_mac
theorem mac_no {k : List UInt8} (h : ¬ k.length = 32) : made k lMac [] = ([], 2) := made_short h
set_option maxRecDepth 100000 in
set_option maxHeartbeats 2000000 in
theorem Tag_yes (k was : List UInt8) (n : Int) (r : Rec) (w : World) (hr : Rds w) (hk : k.length = 32) (h : sayOk was n r) :
    Calls Tryz.prog 17 #[.string ⟨k.toArray⟩, .string ⟨was.toArray⟩, .int .i64 n, .agg #[.int .i64 r.k, .int .i64 r.ep, .int .i64 r.tm, .int .i64 r.ct, .int .i64 r.tg, .int .i64 r.un, .string ⟨r.rt.toArray⟩, .string ⟨r.nm.toArray⟩]] w fun e w' => e = .returned (.tuple #[.string ⟨(tagOf k was n r).toArray⟩, .int .i64 0]) ∧ Below w.heap.size w w' := by
  obtain ⟨W1, hW1⟩ : ∃ W1, W1 = w.alloc (.cells #[.int .i64 r.k, .int .i64 r.ep, .int .i64 r.tm, .int .i64 r.ct, .int .i64 r.tg, .int .i64 r.un, .string ⟨r.rt.toArray⟩, .string ⟨r.nm.toArray⟩] 23) := ⟨_, rfl⟩
  have SS : Hid (Ws w r W1) := Lib.hid (by rw [hW1]; exact ws_new w r)
  obtain ⟨k0, k1, k2, k3, k4, k5, k6, k7⟩ := SS.out.k.cells
  have HM := Lib.hid (fun W hr => EvoP.Mac k W hr)
  rw [mac_yes hk] at HM
  have HS := Lib.hid (fun W => Said_yes was n r W h)
  have hl := say_len h
  have hb := bounds h.2.2
  have hm : (mkey k).length = 32 := mac_length _ _
  have HT := Lib.hid (fun W hr => HPart.Mac (mkey k) (say was n r) W hr (by omega) (by omega))
  have HR := Lib.hid hr
  clear hr hk h hl hb hm
  rw [show tagOf k was n r = macOf (mkey k) (say was n r) from rfl]
  generalize macOf (mkey k) (say was n r) = o at *
  generalize mkey k = mk at *
  generalize say was n r = s at *
  go_enter Tryz.func17, Tryz.ntmps17
  go_upto_region 1 with (fail)
  rw [← hW1]
  clear hW1
  go_wp2_with (first
    | (go_at_call 34; refine (HM.out _ (HR.out.step SS.out.bel)).mono ?_; rintro e w2 ⟨rfl, hb⟩; replace SS := Lib.hid (SS.out.step hb); clear hb k0 k1 k2 k3 k4 k5 k6 k7 HM; obtain ⟨k0, k1, k2, k3, k4, k5, k6, k7⟩ := SS.out.k.cells)
    | (go_at_call 35; refine (HS.out _).mono ?_; rintro e w3 ⟨rfl, hb⟩; replace SS := Lib.hid (SS.out.step hb); clear hb k0 k1 k2 k3 k4 k5 k6 k7 HS)
    | (go_at_call 36; refine (HT.out _ (HR.out.step SS.out.bel)).mono ?_; rintro e w4 ⟨rfl, hb⟩; replace SS := Lib.hid (SS.out.step hb); clear hb HT))
  go_ret2
  exact ⟨rfl, SS.out.bel⟩
set_option maxRecDepth 100000 in
set_option maxHeartbeats 2000000 in
theorem Tag_no (k was : List UInt8) (n : Int) (r : Rec) (w : World) (hr : Rds w) (h : ¬ (k.length = 32 ∧ sayOk was n r)) :
    Calls Tryz.prog 17 #[.string ⟨k.toArray⟩, .string ⟨was.toArray⟩, .int .i64 n, .agg #[.int .i64 r.k, .int .i64 r.ep, .int .i64 r.tm, .int .i64 r.ct, .int .i64 r.tg, .int .i64 r.un, .string ⟨r.rt.toArray⟩, .string ⟨r.nm.toArray⟩]] w fun e w' => e = .returned (.tuple #[.string ⟨#[]⟩, .int .i64 2]) ∧ Below w.heap.size w w' := by
  obtain ⟨W1, hW1⟩ : ∃ W1, W1 = w.alloc (.cells #[.int .i64 r.k, .int .i64 r.ep, .int .i64 r.tm, .int .i64 r.ct, .int .i64 r.tg, .int .i64 r.un, .string ⟨r.rt.toArray⟩, .string ⟨r.nm.toArray⟩] 23) := ⟨_, rfl⟩
  have SS : Hid (Ws w r W1) := Lib.hid (by rw [hW1]; exact ws_new w r)
  obtain ⟨k0, k1, k2, k3, k4, k5, k6, k7⟩ := SS.out.k.cells
  have HM := Lib.hid (fun W hr => EvoP.Mac k W hr)
  have HR := Lib.hid hr
  clear hr
  by_cases hk : k.length = 32
  · rw [mac_yes hk] at HM
    have HS := Lib.hid (fun W => Said_no was n r W (fun h' => h ⟨hk, h'⟩))
    clear h hk
    generalize mkey k = mk at *
    go_enter Tryz.func17, Tryz.ntmps17
    go_upto_region 1 with (fail)
    rw [← hW1]
    clear hW1
    go_wp2_with (first
      | (go_at_call 34; refine (HM.out _ (HR.out.step SS.out.bel)).mono ?_; rintro e w2 ⟨rfl, hb⟩; replace SS := Lib.hid (SS.out.step hb); clear hb k0 k1 k2 k3 k4 k5 k6 k7 HM; obtain ⟨k0, k1, k2, k3, k4, k5, k6, k7⟩ := SS.out.k.cells)
      | (go_at_call 35; refine (HS.out _).mono ?_; rintro e w3 ⟨rfl, hb⟩; replace SS := Lib.hid (SS.out.step hb); clear hb k0 k1 k2 k3 k4 k5 k6 k7 HS))
    go_ret2
    exact ⟨rfl, SS.out.bel⟩
  · rw [mac_no hk] at HM
    clear h hk
    go_enter Tryz.func17, Tryz.ntmps17
    go_upto_region 1 with (fail)
    rw [← hW1]
    clear hW1
    go_wp2_with (go_at_call 34; refine (HM.out _ (HR.out.step SS.out.bel)).mono ?_; rintro e w2 ⟨rfl, hb⟩; replace SS := Lib.hid (SS.out.step hb); clear hb HM)
    go_ret2
    exact ⟨rfl, SS.out.bel⟩
/-- THE CONTRACT of Tag. -/
theorem Tag (k was : List UInt8) (n : Int) (r : Rec) (w : World) (hr : Rds w) :
    Calls Tryz.prog 17 #[.string ⟨k.toArray⟩, .string ⟨was.toArray⟩, .int .i64 n, .agg #[.int .i64 r.k, .int .i64 r.ep, .int .i64 r.tm, .int .i64 r.ct, .int .i64 r.tg, .int .i64 r.un, .string ⟨r.rt.toArray⟩, .string ⟨r.nm.toArray⟩]] w fun e w' => e = .returned (.tuple #[.string ⟨(tagged k was n r).1.toArray⟩, .int .i64 (code (tagged k was n r).2)]) ∧ Below w.heap.size w w' := by
  by_cases h : k.length = 32 ∧ sayOk was n r
  · rw [tagged_yes h.1 h.2]
    exact Tag_yes k was n r w hr h.1 h.2
  · rw [tagged_no h]
    exact Tag_no k was n r w hr h
end Go.Proofs.YtkidehngleglnaaGreatDoor.ChnT
