/- The document's Said (stage 20), where no sums are reached: the walk of its text. No conditions but those that each lemma names. -/
import Derived.Test.YtkidehngleglnaaLChf
import Derived.Test.YtkidehngleglnaaRecV
import Derived.Test.YtkidehngleglnaaLRef
namespace Go.Proofs.Ytkidehngleglnaa.RcpS
set_option linter.unusedVariables false
open Go.RowKit
open RecN RecC RecQ ChnN ChnM ChnC ChnA
theorem ne32 {l : List UInt8} (h : l.length = 32) : (((l.length : Nat) : Int) != 32) = false := by simp [h]
theorem is32 {l : List UInt8} (h : ¬ l.length = 32) : (((l.length : Nat) : Int) != 32) = true := by simp; omega
set_option maxRecDepth 100000 in
set_option maxHeartbeats 2000000 in
theorem Said_yes (was : List UInt8) (n : Int) (r : Rec) (w : World) (h : sayOk was n r) :
    Calls Try.prog 12 #[.string ⟨was.toArray⟩, .int .i64 n, .agg #[.int .i64 r.k, .int .i64 r.ep, .int .i64 r.tm, .int .i64 r.ct, .int .i64 r.tg, .int .i64 r.un, .string ⟨r.rt.toArray⟩, .string ⟨r.nm.toArray⟩]] w fun e w' => e = .returned (.tuple #[.string ⟨(say was n r).toArray⟩, .bool true]) ∧ Below w.heap.size w w' := by
  obtain ⟨W1, hW1⟩ : ∃ W1, W1 = w.alloc (.cells #[.int .i64 r.k, .int .i64 r.ep, .int .i64 r.tm, .int .i64 r.ct, .int .i64 r.tg, .int .i64 r.un, .string ⟨r.rt.toArray⟩, .string ⟨r.nm.toArray⟩] 24) := ⟨_, rfl⟩
  have SS : Hid (Ws w r W1) := Lib.hid (by rw [hW1]; exact ws_new w r)
  obtain ⟨k0, k1, k2, k3, k4, k5, k6, k7⟩ := SS.out.k.cells
  have h2 := h.2.1
  have HP := Lib.hid (fun W => RPut.any n 4 W (by omega))
  rw [four h.2.1] at HP
  have HR := Lib.hid (fun W => RecV.Put_yes r W h.2.2)
  have HE : Hid (say was n r = was ++ (be 4 n.toNat ++ RecN.bytes r)) := Lib.hid rfl
  have hbl := bytes_len h.2.2
  have hb := bounds h.2.2
  have h4 : (be 4 n.toNat).length = 4 := be_length _ _
  have h1 := h.1
  have hq := ne32 h.1
  generalize be 4 n.toNat = b at *
  generalize RecN.bytes r = s at *
  generalize say was n r = o at *
  have a1 := add_l was b (by omega)
  have a2 := add_l (was ++ b) s (by rw [List.length_append]; omega)
  clear h h2 hb hbl h4 h1
  go_enter Try.func12, Try.ntmps12
  go_upto_region 1 with (fail)
  rw [← hW1]
  clear hW1
  go_wp2_with (first
    | (go_at_call 22; refine (HP.out _).mono ?_; rintro e w2 ⟨rfl, hb⟩; replace SS := Lib.hid (SS.out.step hb); clear hb k0 k1 k2 k3 k4 k5 k6 k7 HP; obtain ⟨k0, k1, k2, k3, k4, k5, k6, k7⟩ := SS.out.k.cells)
    | (go_at_call 23; refine (HR.out _).mono ?_; rintro e w3 ⟨rfl, hb⟩; replace SS := Lib.hid (SS.out.step hb); clear hb k0 k1 k2 k3 k4 k5 k6 k7 HR))
  go_ret2
  rw [HE.out]
  exact ⟨rfl, SS.out.bel⟩
set_option maxRecDepth 100000 in
set_option maxHeartbeats 2000000 in
theorem Said_no (was : List UInt8) (n : Int) (r : Rec) (w : World) (hn : n ≤ 9223372036854775807) (h : ¬ sayOk was n r) :
    Calls Try.prog 12 #[.string ⟨was.toArray⟩, .int .i64 n, .agg #[.int .i64 r.k, .int .i64 r.ep, .int .i64 r.tm, .int .i64 r.ct, .int .i64 r.tg, .int .i64 r.un, .string ⟨r.rt.toArray⟩, .string ⟨r.nm.toArray⟩]] w fun e w' => e = .returned (.tuple #[.string ⟨#[]⟩, .bool false]) ∧ Below w.heap.size w w' := by
  obtain ⟨W1, hW1⟩ : ∃ W1, W1 = w.alloc (.cells #[.int .i64 r.k, .int .i64 r.ep, .int .i64 r.tm, .int .i64 r.ct, .int .i64 r.tg, .int .i64 r.un, .string ⟨r.rt.toArray⟩, .string ⟨r.nm.toArray⟩] 24) := ⟨_, rfl⟩
  have SS : Hid (Ws w r W1) := Lib.hid (by rw [hW1]; exact ws_new w r)
  obtain ⟨k0, k1, k2, k3, k4, k5, k6, k7⟩ := SS.out.k.cells
  have HP := Lib.hid (fun W => RPut.any n 4 W hn)
  have HR := Lib.hid (fun W => RecV.Put r W)
  have hq : ¬ (0 ≤ n ∧ n ≤ 4294967295) ∨ ((0 ≤ n ∧ n ≤ 4294967295) ∧ ¬ right r) ∨ ((0 ≤ n ∧ n ≤ 4294967295) ∧ right r ∧ was.length ≠ 32) := by
    by_cases h2 : 0 ≤ n ∧ n ≤ 4294967295
    · by_cases h3 : right r
      · exact .inr (.inr ⟨h2, h3, fun h1 => h ⟨h1, h2, h3⟩⟩)
      · exact .inr (.inl ⟨h2, h3⟩)
    · exact .inl h2
  clear h hn
  generalize hdr : decide (right r) = dr at *
  generalize (put_ r).1 = pr at *
  go_enter Try.func12, Try.ntmps12
  go_upto_region 1 with (fail)
  rw [← hW1]
  clear hW1
  rcases hq with h2 | ⟨h2, h3⟩ | ⟨h2, h3, h1⟩
  · rw [four_no h2] at HP
    clear h2 hdr
    go_wp2_with (first
      | (go_at_call 22; refine (HP.out _).mono ?_; rintro e w2 ⟨rfl, hb⟩; replace SS := Lib.hid (SS.out.step hb); clear hb k0 k1 k2 k3 k4 k5 k6 k7 HP; obtain ⟨k0, k1, k2, k3, k4, k5, k6, k7⟩ := SS.out.k.cells)
      | (go_at_call 23; refine (HR.out _).mono ?_; rintro e w3 ⟨rfl, hb⟩; replace SS := Lib.hid (SS.out.step hb); clear hb k0 k1 k2 k3 k4 k5 k6 k7 HR))
    go_ret2
    exact ⟨rfl, SS.out.bel⟩
  · rw [four h2] at HP
    obtain rfl : dr = false := by rw [← hdr]; exact df h3
    clear h2 h3 hdr
    go_wp2_with (first
      | (go_at_call 22; refine (HP.out _).mono ?_; rintro e w2 ⟨rfl, hb⟩; replace SS := Lib.hid (SS.out.step hb); clear hb k0 k1 k2 k3 k4 k5 k6 k7 HP; obtain ⟨k0, k1, k2, k3, k4, k5, k6, k7⟩ := SS.out.k.cells)
      | (go_at_call 23; refine (HR.out _).mono ?_; rintro e w3 ⟨rfl, hb⟩; replace SS := Lib.hid (SS.out.step hb); clear hb k0 k1 k2 k3 k4 k5 k6 k7 HR))
    go_ret2
    exact ⟨rfl, SS.out.bel⟩
  · rw [four h2] at HP
    obtain rfl : dr = true := by rw [← hdr]; exact dt h3
    have hi := is32 h1
    clear h2 h3 hdr h1
    go_wp2_with (first
      | (go_at_call 22; refine (HP.out _).mono ?_; rintro e w2 ⟨rfl, hb⟩; replace SS := Lib.hid (SS.out.step hb); clear hb k0 k1 k2 k3 k4 k5 k6 k7 HP; obtain ⟨k0, k1, k2, k3, k4, k5, k6, k7⟩ := SS.out.k.cells)
      | (go_at_call 23; refine (HR.out _).mono ?_; rintro e w3 ⟨rfl, hb⟩; replace SS := Lib.hid (SS.out.step hb); clear hb k0 k1 k2 k3 k4 k5 k6 k7 HR))
    go_ret2
    exact ⟨rfl, SS.out.bel⟩
/-- What the document's Said answers. -/
theorem Said (was : List UInt8) (n : Int) (r : Rec) (w : World) (hn : n ≤ 9223372036854775807) :
    Calls Try.prog 12 #[.string ⟨was.toArray⟩, .int .i64 n, .agg #[.int .i64 r.k, .int .i64 r.ep, .int .i64 r.tm, .int .i64 r.ct, .int .i64 r.tg, .int .i64 r.un, .string ⟨r.rt.toArray⟩, .string ⟨r.nm.toArray⟩]] w fun e w' => e = .returned (.tuple #[.string ⟨(says was n r).1.toArray⟩, .bool (says was n r).2]) ∧ Below w.heap.size w w' := by
  by_cases h : sayOk was n r
  · rw [says_yes h]
    exact Said_yes was n r w h
  · rw [says_no h]
    exact Said_no was n r w hn h
end Go.Proofs.Ytkidehngleglnaa.RcpS
