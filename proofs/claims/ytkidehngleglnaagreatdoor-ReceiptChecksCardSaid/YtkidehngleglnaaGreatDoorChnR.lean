/- The document's Said and Tag: the walks of their texts. No conditions but those that each lemma names. -/
import Derived.Test.YtkidehngleglnaaGreatDoorLChf
import Derived.Test.YtkidehngleglnaaGreatDoorChnT
import Derived.Test.YtkidehngleglnaaGreatDoorRecV
import Derived.Test.YtkidehngleglnaaGreatDoorLRef
import Derived.Test.YtkidehngleglnaaGreatDoorLRsum
import Derived.Test.YtkidehngleglnaaGreatDoorEvoR
namespace Go.Proofs.YtkidehngleglnaaGreatDoor.ChnR
set_option linter.unusedVariables false
open Go.RowKit
open RecN RecC RecQ STurn EvoN EvoR ChnN ChnM ChnC ChnA ChnT
set_option maxRecDepth 100000 in
set_option maxHeartbeats 2000000 in
theorem Said_yes (was : List UInt8) (n : Int) (r : Rec) (w : World) (h : sayOk was n r) :
    Calls Tryz.prog 39 #[.string ⟨was.toArray⟩, .int .i64 n, .agg #[.int .i64 r.k, .int .i64 r.ep, .int .i64 r.tm, .int .i64 r.ct, .int .i64 r.tg, .int .i64 r.un, .string ⟨r.rt.toArray⟩, .string ⟨r.nm.toArray⟩]] w fun e w' => e = .returned (.tuple #[.string ⟨(say was n r).toArray⟩, .bool true]) ∧ Below w.heap.size w w' := by
  obtain ⟨W1, hW1⟩ : ∃ W1, W1 = w.alloc (.cells #[.int .i64 r.k, .int .i64 r.ep, .int .i64 r.tm, .int .i64 r.ct, .int .i64 r.tg, .int .i64 r.un, .string ⟨r.rt.toArray⟩, .string ⟨r.nm.toArray⟩] 23) := ⟨_, rfl⟩
  have SS : Hid (Ws w r W1) := Lib.hid (by rw [hW1]; exact ws_new w r)
  obtain ⟨k0, k1, k2, k3, k4, k5, k6, k7⟩ := SS.out.k.cells
  have h2 := h.2.1
  have HP := Lib.hid (fun W => RPut.any n 4 W (by omega))
  rw [four h.2.1] at HP
  have HR := Lib.hid (fun W => RecV.Put_yes r W h.2.2)
  have HE : Hid (say was n r = was ++ (be 4 n.toNat ++ RecN.bytes r)) := Lib.hid rfl
  have hbl := bytes_len h.2.2
  have hb := bounds h.2.2
  have h4 : (be 4 n.toNat).length = 4 := be_length _ _
  have h1 := h.1
  have hq := ne32 h.1
  generalize be 4 n.toNat = b at *
  generalize RecN.bytes r = s at *
  generalize say was n r = o at *
  have a1 := add_l was b (by omega)
  have a2 := add_l (was ++ b) s (by rw [List.length_append]; omega)
  clear h h2 hb hbl h4 h1
  go_enter Tryz.func39, Tryz.ntmps39
  go_upto_region 1 with (fail)
  rw [← hW1]
  clear hW1
  go_wp2_with (first
    | (go_at_call 23; refine (HP.out _).mono ?_; rintro e w2 ⟨rfl, hb⟩; replace SS := Lib.hid (SS.out.step hb); clear hb k0 k1 k2 k3 k4 k5 k6 k7 HP; obtain ⟨k0, k1, k2, k3, k4, k5, k6, k7⟩ := SS.out.k.cells)
    | (go_at_call 24; refine (HR.out _).mono ?_; rintro e w3 ⟨rfl, hb⟩; replace SS := Lib.hid (SS.out.step hb); clear hb k0 k1 k2 k3 k4 k5 k6 k7 HR))
  go_ret2
  rw [HE.out]
  exact ⟨rfl, SS.out.bel⟩
set_option maxRecDepth 100000 in
set_option maxHeartbeats 2000000 in
theorem Said_no (was : List UInt8) (n : Int) (r : Rec) (w : World) (hn : n ≤ 9223372036854775807) (h : ¬ sayOk was n r) :
    Calls Tryz.prog 39 #[.string ⟨was.toArray⟩, .int .i64 n, .agg #[.int .i64 r.k, .int .i64 r.ep, .int .i64 r.tm, .int .i64 r.ct, .int .i64 r.tg, .int .i64 r.un, .string ⟨r.rt.toArray⟩, .string ⟨r.nm.toArray⟩]] w fun e w' => e = .returned (.tuple #[.string ⟨#[]⟩, .bool false]) ∧ Below w.heap.size w w' := by
  obtain ⟨W1, hW1⟩ : ∃ W1, W1 = w.alloc (.cells #[.int .i64 r.k, .int .i64 r.ep, .int .i64 r.tm, .int .i64 r.ct, .int .i64 r.tg, .int .i64 r.un, .string ⟨r.rt.toArray⟩, .string ⟨r.nm.toArray⟩] 23) := ⟨_, rfl⟩
  have SS : Hid (Ws w r W1) := Lib.hid (by rw [hW1]; exact ws_new w r)
  obtain ⟨k0, k1, k2, k3, k4, k5, k6, k7⟩ := SS.out.k.cells
  have HP := Lib.hid (fun W => RPut.any n 4 W hn)
  have HR := Lib.hid (fun W => RecV.Put r W)
  have hq : ¬ (0 ≤ n ∧ n ≤ 4294967295) ∨ ((0 ≤ n ∧ n ≤ 4294967295) ∧ ¬ right r) ∨ ((0 ≤ n ∧ n ≤ 4294967295) ∧ right r ∧ was.length ≠ 32) := by
    by_cases h2 : 0 ≤ n ∧ n ≤ 4294967295
    · by_cases h3 : right r
      · exact .inr (.inr ⟨h2, h3, fun h1 => h ⟨h1, h2, h3⟩⟩)
      · exact .inr (.inl ⟨h2, h3⟩)
    · exact .inl h2
  clear h hn
  generalize hdr : decide (right r) = dr at *
  generalize (put_ r).1 = pr at *
  go_enter Tryz.func39, Tryz.ntmps39
  go_upto_region 1 with (fail)
  rw [← hW1]
  clear hW1
  rcases hq with h2 | ⟨h2, h3⟩ | ⟨h2, h3, h1⟩
  · rw [four_no h2] at HP
    clear h2 hdr
    go_wp2_with (first
      | (go_at_call 23; refine (HP.out _).mono ?_; rintro e w2 ⟨rfl, hb⟩; replace SS := Lib.hid (SS.out.step hb); clear hb k0 k1 k2 k3 k4 k5 k6 k7 HP; obtain ⟨k0, k1, k2, k3, k4, k5, k6, k7⟩ := SS.out.k.cells)
      | (go_at_call 24; refine (HR.out _).mono ?_; rintro e w3 ⟨rfl, hb⟩; replace SS := Lib.hid (SS.out.step hb); clear hb k0 k1 k2 k3 k4 k5 k6 k7 HR))
    go_ret2
    exact ⟨rfl, SS.out.bel⟩
  · rw [four h2] at HP
    obtain rfl : dr = false := by rw [← hdr]; exact df h3
    clear h2 h3 hdr
    go_wp2_with (first
      | (go_at_call 23; refine (HP.out _).mono ?_; rintro e w2 ⟨rfl, hb⟩; replace SS := Lib.hid (SS.out.step hb); clear hb k0 k1 k2 k3 k4 k5 k6 k7 HP; obtain ⟨k0, k1, k2, k3, k4, k5, k6, k7⟩ := SS.out.k.cells)
      | (go_at_call 24; refine (HR.out _).mono ?_; rintro e w3 ⟨rfl, hb⟩; replace SS := Lib.hid (SS.out.step hb); clear hb k0 k1 k2 k3 k4 k5 k6 k7 HR))
    go_ret2
    exact ⟨rfl, SS.out.bel⟩
  · rw [four h2] at HP
    obtain rfl : dr = true := by rw [← hdr]; exact dt h3
    have hi := is32 h1
    clear h2 h3 hdr h1
    go_wp2_with (first
      | (go_at_call 23; refine (HP.out _).mono ?_; rintro e w2 ⟨rfl, hb⟩; replace SS := Lib.hid (SS.out.step hb); clear hb k0 k1 k2 k3 k4 k5 k6 k7 HP; obtain ⟨k0, k1, k2, k3, k4, k5, k6, k7⟩ := SS.out.k.cells)
      | (go_at_call 24; refine (HR.out _).mono ?_; rintro e w3 ⟨rfl, hb⟩; replace SS := Lib.hid (SS.out.step hb); clear hb k0 k1 k2 k3 k4 k5 k6 k7 HR))
    go_ret2
    exact ⟨rfl, SS.out.bel⟩
/-- What the document's Said answers. -/
theorem Said (was : List UInt8) (n : Int) (r : Rec) (w : World) (hn : n ≤ 9223372036854775807) :
    Calls Tryz.prog 39 #[.string ⟨was.toArray⟩, .int .i64 n, .agg #[.int .i64 r.k, .int .i64 r.ep, .int .i64 r.tm, .int .i64 r.ct, .int .i64 r.tg, .int .i64 r.un, .string ⟨r.rt.toArray⟩, .string ⟨r.nm.toArray⟩]] w fun e w' => e = .returned (.tuple #[.string ⟨(says was n r).1.toArray⟩, .bool (says was n r).2]) ∧ Below w.heap.size w w' := by
  by_cases h : sayOk was n r
  · rw [says_yes h]
    exact Said_yes was n r w h
  · rw [says_no h]
    exact Said_no was n r w hn h
set_option maxRecDepth 100000 in
set_option maxHeartbeats 2000000 in
/-- What the document's Tag answers. -/
theorem Tag (k was : List UInt8) (n : Int) (r : Rec) (w : World) (hn : n ≤ 9223372036854775807) :
    Calls Tryz.prog 20 #[.string ⟨k.toArray⟩, .string ⟨was.toArray⟩, .int .i64 n, .agg #[.int .i64 r.k, .int .i64 r.ep, .int .i64 r.tm, .int .i64 r.ct, .int .i64 r.tg, .int .i64 r.un, .string ⟨r.rt.toArray⟩, .string ⟨r.nm.toArray⟩]] w fun e w' => e = .returned (.tuple #[.string ⟨(tagged k was n r).1.toArray⟩, .bool (tagged k was n r).2]) ∧ Below w.heap.size w w' := by
  obtain ⟨W1, hW1⟩ : ∃ W1, W1 = w.alloc (.cells #[.int .i64 r.k, .int .i64 r.ep, .int .i64 r.tm, .int .i64 r.ct, .int .i64 r.tg, .int .i64 r.un, .string ⟨r.rt.toArray⟩, .string ⟨r.nm.toArray⟩] 23) := ⟨_, rfl⟩
  have SS : Hid (Ws w r W1) := Lib.hid (by rw [hW1]; exact ws_new w r)
  obtain ⟨k0, k1, k2, k3, k4, k5, k6, k7⟩ := SS.out.k.cells
  have HM : Hid (∀ W, Calls Tryz.prog 38 #[.string ⟨k.toArray⟩, .string ⟨#[109, 97, 99]⟩, .slice none 0 0] W fun e w' => e = .returned (.tuple #[.string ⟨(made k lMac []).1.toArray⟩, .bool (okB (made k lMac []).2)]) ∧ Below W.heap.size W w') := Lib.hid (fun W => EvoR.Made k lMac none 0 0 [] W (EvoP.row0 W) (by simp))
  have HS := Lib.hid (fun W => Said was n r W hn)
  clear hn
  by_cases hk : k.length = 32
  · rw [mac_yes hk, show okB 0 = true from rfl] at HM
    by_cases h : sayOk was n r
    · rw [says_yes h] at HS
      have hl := say_len h
      have hb := bounds h.2.2
      have hm : (mkey k).length = 32 := mac_length _ _
      have HT := Lib.hid (fun W => RMacs.Mac (mkey k) (say was n r) W (by omega) (by omega))
      rw [tagged_yes hk h, show tagOf k was n r = macOf (mkey k) (say was n r) from rfl]
      clear hk h hl hb hm
      generalize macOf (mkey k) (say was n r) = o at *
      generalize mkey k = mk at *
      generalize say was n r = s at *
      go_enter Tryz.func20, Tryz.ntmps20
      go_upto_region 1 with (fail)
      rw [← hW1]
      clear hW1
      go_wp2_with (first
        | (go_at_call 38; refine (HM.out _).mono ?_; rintro e w2 ⟨rfl, hb⟩; replace SS := Lib.hid (SS.out.step hb); clear hb k0 k1 k2 k3 k4 k5 k6 k7 HM; obtain ⟨k0, k1, k2, k3, k4, k5, k6, k7⟩ := SS.out.k.cells)
        | (go_at_call 39; refine (HS.out _).mono ?_; rintro e w3 ⟨rfl, hb⟩; replace SS := Lib.hid (SS.out.step hb); clear hb k0 k1 k2 k3 k4 k5 k6 k7 HS)
        | (go_at_call 40; refine (HT.out _).mono ?_; rintro e w4 ⟨rfl, hb⟩; replace SS := Lib.hid (SS.out.step hb); clear hb HT))
      go_ret2
      exact ⟨rfl, SS.out.bel⟩
    · rw [says_no h] at HS
      rw [tagged_no (fun hh => h hh.2)]
      clear hk h
      generalize mkey k = mk at *
      go_enter Tryz.func20, Tryz.ntmps20
      go_upto_region 1 with (fail)
      rw [← hW1]
      clear hW1
      go_wp2_with (first
        | (go_at_call 38; refine (HM.out _).mono ?_; rintro e w2 ⟨rfl, hb⟩; replace SS := Lib.hid (SS.out.step hb); clear hb k0 k1 k2 k3 k4 k5 k6 k7 HM; obtain ⟨k0, k1, k2, k3, k4, k5, k6, k7⟩ := SS.out.k.cells)
        | (go_at_call 39; refine (HS.out _).mono ?_; rintro e w3 ⟨rfl, hb⟩; replace SS := Lib.hid (SS.out.step hb); clear hb k0 k1 k2 k3 k4 k5 k6 k7 HS))
      go_ret2
      exact ⟨rfl, SS.out.bel⟩
  · rw [mac_no hk, show okB 2 = false from rfl] at HM
    rw [tagged_no (fun hh => hk hh.1)]
    clear hk
    generalize says was n r = z at *
    obtain ⟨z1, z2⟩ := z
    go_enter Tryz.func20, Tryz.ntmps20
    go_upto_region 1 with (fail)
    rw [← hW1]
    clear hW1
    go_wp2_with (first
      | (go_at_call 38; refine (HM.out _).mono ?_; rintro e w2 ⟨rfl, hb⟩; replace SS := Lib.hid (SS.out.step hb); clear hb k0 k1 k2 k3 k4 k5 k6 k7 HM; obtain ⟨k0, k1, k2, k3, k4, k5, k6, k7⟩ := SS.out.k.cells)
      | (go_at_call 39; refine (HS.out _).mono ?_; rintro e w3 ⟨rfl, hb⟩; replace SS := Lib.hid (SS.out.step hb); clear hb k0 k1 k2 k3 k4 k5 k6 k7 HS))
    go_ret2
    exact ⟨rfl, SS.out.bel⟩
end Go.Proofs.YtkidehngleglnaaGreatDoor.ChnR
