/- The document's Put and Hold: the walks of their texts. The condition: the Cipher, or the text, has fewer than 2^32 bytes. -/
import Derived.Test.YteobimhibhfokaaCelR
import Derived.Test.YteobimhibhfokaaRPut
namespace Go.Proofs.Yteobimhibhfokaa.CelQ
open Go.RowKit
open CelN CelC CelR
theorem told (g : Bool) (k a b d t : List UInt8) (h : kb g = k) : (⟨k.toArray⟩ : ByteArray) ++ ⟨a.toArray⟩ ++ ⟨b.toArray⟩ ++ ⟨d.toArray⟩ ++ ⟨t.toArray⟩ = ⟨(kb g ++ a ++ b ++ d ++ t).toArray⟩ := by
  rw [h, mk_append, mk_append, mk_append, mk_append]
/-- What Text answers. -/
theorem texted (s : List UInt8) (h : s.length < 4294967296) (w : World) :
    Calls Try.prog 28 #[.string ⟨s.toArray⟩] w fun r w' => r = .returned (.string ⟨(txt s).toArray⟩) ∧ Below w.heap.size w w' := by
  have := RText.any ⟨s.toArray⟩ w (by rw [size_mk]; exact h)
  rw [text_mk] at this
  exact this
/-- What Noughts answers of what lacks to a block. -/
theorem lacked (n : Nat) (h : n ≤ 4096) (w : World) :
    Calls Try.prog 20 #[.int .i64 (4096 - (n : Int))] w fun r w' => r = .returned (.string ⟨(List.replicate (4096 - n) 0).toArray⟩) ∧ Below w.heap.size w w' := by
  have := RNou.noughts (4096 - n) w (by omega)
  rw [show (((4096 - n : Nat) : Int)) = 4096 - (n : Int) from by omega] at this
  exact this
theorem put_at (n : Int) (p : List UInt8) (h : put n 4 = (p, 0)) (hn : n ≤ 4294967295) (w : World) :
    Calls Try.prog 27 #[.int .i64 n, .int .i64 4] w fun r w' => r = .returned (.tuple #[.string ⟨p.toArray⟩, .int .i64 0]) ∧ Below w.heap.size w w' := by
  have := RPut.any n 4 w (by omega)
  rw [h] at this
  exact this
set_option maxRecDepth 100000 in
set_option maxHeartbeats 2000000 in
theorem Put_yes (ep sl lb : Int) (gn : Bool) (ci : List UInt8) (w : World) (h : may ⟨ep, sl, lb, gn, ci⟩) :
    Calls Try.prog 9 #[.agg #[.int .i64 ep, .int .i64 sl, .int .i64 lb, .bool gn, .string ⟨ci.toArray⟩]] w fun r w' => r = .returned (.tuple #[.string ⟨(blk ⟨ep, sl, lb, gn, ci⟩).toArray⟩, .bool true]) ∧ Below w.heap.size w w' := by
  obtain ⟨W1, hW1⟩ : ∃ W1, W1 = w.alloc (.cells #[.int .i64 ep, .int .i64 sl, .int .i64 lb, .bool gn, .string ⟨ci.toArray⟩] 23) := ⟨_, rfl⟩
  have SS : Hid (Ws w ep sl lb gn ci W1) := Lib.hid (by rw [hW1]; exact ws_new w ep sl lb gn ci)
  obtain ⟨k0, k1, k2, k3, k4⟩ := SS.out.k.cells
  have HR := Lib.hid (fun W => Right ep sl lb gn ci W)
  rw [dt h] at HR
  obtain ⟨p1, p2, p3⟩ := may_nums h
  have P1 := Lib.hid (fun W => put_at ep _ p1 h.1.2 W)
  have P2 := Lib.hid (fun W => put_at sl _ p2 h.2.1.2 W)
  have P3 := Lib.hid (fun W => put_at lb _ p3 (by have := h.2.2.1.2; dsimp only at this; omega) W)
  have HT := Lib.hid (fun W => texted ci (by have := h.2.2.2.1; dsimp only at this; omega) W)
  have hl := head_len ⟨ep, sl, lb, gn, ci⟩
  have hle : (head ⟨ep, sl, lb, gn, ci⟩).length ≤ 4096 := by have := h.2.2.2.1; dsimp only at this hl; omega
  have HN := Lib.hid (fun W => lacked _ hle W)
  have HE : Hid (blk ⟨ep, sl, lb, gn, ci⟩ = head ⟨ep, sl, lb, gn, ci⟩ ++ List.replicate (4096 - (head ⟨ep, sl, lb, gn, ci⟩).length) 0) := rfl
  have HH : Hid (head ⟨ep, sl, lb, gn, ci⟩ = kb gn ++ be 4 ep.toNat ++ be 4 sl.toNat ++ be 4 lb.toNat ++ txt ci) := rfl
  have q1 := be_length 4 ep.toNat
  have q2 := be_length 4 sl.toNat
  have q3 := be_length 4 lb.toNat
  have q4 := txt_len ci
  have q5 : ci.length ≤ 4000 := h.2.2.2.1
  clear hl p1 p2 p3 h
  dsimp only at P1 P2 P3
  generalize be 4 ep.toNat = na at *
  generalize be 4 sl.toNat = nb at *
  generalize be 4 lb.toNat = nd at *
  generalize txt ci = t at *
  generalize blk ⟨ep, sl, lb, gn, ci⟩ = bk at *
  generalize head ⟨ep, sl, lb, gn, ci⟩ = hd at *
  go_enter Try.func9, Try.ntmps9
  go_upto_region 1 with (fail)
  rw [← hW1]
  clear hW1
  cases gn
  · have HD := Lib.hid (fun a b d t => told false [1] a b d t rfl)
    go_upto_region 10 with (first
      | (go_at_call 26; refine (HR.out _).mono ?_; rintro r w2 ⟨rfl, hb⟩; replace SS := Lib.hid (SS.out.step hb); clear hb k0 k1 k2 k3 k4; obtain ⟨k0, k1, k2, k3, k4⟩ := SS.out.k.cells)
      | (go_at_call 27; refine (P1.out _).mono ?_; rintro r w3 ⟨rfl, hb⟩; replace SS := Lib.hid (SS.out.step hb); clear P1 hb k0 k1 k2 k3 k4; obtain ⟨k0, k1, k2, k3, k4⟩ := SS.out.k.cells)
      | (go_at_call 27; refine (P2.out _).mono ?_; rintro r w4 ⟨rfl, hb⟩; replace SS := Lib.hid (SS.out.step hb); clear P2 hb k0 k1 k2 k3 k4; obtain ⟨k0, k1, k2, k3, k4⟩ := SS.out.k.cells)
      | (go_at_call 27; refine (P3.out _).mono ?_; rintro r w5 ⟨rfl, hb⟩; replace SS := Lib.hid (SS.out.step hb); clear P3 hb k0 k1 k2 k3 k4; obtain ⟨k0, k1, k2, k3, k4⟩ := SS.out.k.cells)
      | (go_at_call 28; refine (HT.out _).mono ?_; rintro r w6 ⟨rfl, hb⟩; replace SS := Lib.hid (SS.out.step hb); clear HT hb k0 k1 k2 k3 k4))
    rw [HD.out, ← HH.out]
    clear HD HH q1 q2 q3 q4 q5
    have hz := size_mk hd
    have HZ : Hid ((⟨hd.toArray⟩ : ByteArray) ++ ⟨(List.replicate (4096 - hd.length) 0).toArray⟩ = ⟨bk.toArray⟩) := Lib.hid (by rw [HE.out, mk_append])
    have hy : (List.replicate (4096 - hd.length) (0 : UInt8)).length = 4096 - hd.length := List.length_replicate
    generalize List.replicate (4096 - hd.length) (0 : UInt8) = z at *
    go_wp2_with (go_at_call 20; refine (HN.out _).mono ?_; rintro r w7 ⟨rfl, hb⟩; have S7 := Lib.hid (SS.out.step hb); clear hb)
    go_ret2
    exact ⟨by rw [← HZ.out] <;> rfl, S7.out.bel⟩
  · have HD := Lib.hid (fun a b d t => told true [2] a b d t rfl)
    go_upto_region 10 with (first
      | (go_at_call 26; refine (HR.out _).mono ?_; rintro r w2 ⟨rfl, hb⟩; replace SS := Lib.hid (SS.out.step hb); clear hb k0 k1 k2 k3 k4; obtain ⟨k0, k1, k2, k3, k4⟩ := SS.out.k.cells)
      | (go_at_call 27; refine (P1.out _).mono ?_; rintro r w3 ⟨rfl, hb⟩; replace SS := Lib.hid (SS.out.step hb); clear P1 hb k0 k1 k2 k3 k4; obtain ⟨k0, k1, k2, k3, k4⟩ := SS.out.k.cells)
      | (go_at_call 27; refine (P2.out _).mono ?_; rintro r w4 ⟨rfl, hb⟩; replace SS := Lib.hid (SS.out.step hb); clear P2 hb k0 k1 k2 k3 k4; obtain ⟨k0, k1, k2, k3, k4⟩ := SS.out.k.cells)
      | (go_at_call 27; refine (P3.out _).mono ?_; rintro r w5 ⟨rfl, hb⟩; replace SS := Lib.hid (SS.out.step hb); clear P3 hb k0 k1 k2 k3 k4; obtain ⟨k0, k1, k2, k3, k4⟩ := SS.out.k.cells)
      | (go_at_call 28; refine (HT.out _).mono ?_; rintro r w6 ⟨rfl, hb⟩; replace SS := Lib.hid (SS.out.step hb); clear HT hb k0 k1 k2 k3 k4))
    rw [HD.out, ← HH.out]
    clear HD HH q1 q2 q3 q4 q5
    have hz := size_mk hd
    have HZ : Hid ((⟨hd.toArray⟩ : ByteArray) ++ ⟨(List.replicate (4096 - hd.length) 0).toArray⟩ = ⟨bk.toArray⟩) := Lib.hid (by rw [HE.out, mk_append])
    have hy : (List.replicate (4096 - hd.length) (0 : UInt8)).length = 4096 - hd.length := List.length_replicate
    generalize List.replicate (4096 - hd.length) (0 : UInt8) = z at *
    go_wp2_with (go_at_call 20; refine (HN.out _).mono ?_; rintro r w7 ⟨rfl, hb⟩; have S7 := Lib.hid (SS.out.step hb); clear hb)
    go_ret2
    exact ⟨by rw [← HZ.out] <;> rfl, S7.out.bel⟩
theorem Put_no (ep sl lb : Int) (gn : Bool) (ci : List UInt8) (w : World) (h : ¬ may ⟨ep, sl, lb, gn, ci⟩) :
    Calls Try.prog 9 #[.agg #[.int .i64 ep, .int .i64 sl, .int .i64 lb, .bool gn, .string ⟨ci.toArray⟩]] w fun r w' => r = .returned (.tuple #[.string ⟨#[]⟩, .bool false]) ∧ Below w.heap.size w w' := by
  obtain ⟨W1, hW1⟩ : ∃ W1, W1 = w.alloc (.cells #[.int .i64 ep, .int .i64 sl, .int .i64 lb, .bool gn, .string ⟨ci.toArray⟩] 23) := ⟨_, rfl⟩
  have SS : Hid (Ws w ep sl lb gn ci W1) := Lib.hid (by rw [hW1]; exact ws_new w ep sl lb gn ci)
  obtain ⟨k0, k1, k2, k3, k4⟩ := SS.out.k.cells
  have HR := Lib.hid (fun W => Right ep sl lb gn ci W)
  rw [df h] at HR
  clear h
  go_enter Try.func9, Try.ntmps9
  go_upto_region 1 with (fail)
  rw [← hW1]
  clear hW1
  go_wp2_with (go_at_call 26; refine (HR.out _).mono ?_; rintro r w2 ⟨rfl, hb⟩; replace SS := Lib.hid (SS.out.step hb); clear hb)
  go_ret2
  exact ⟨rfl, SS.out.bel⟩
/-- What the document's Put answers. -/
theorem Put (ep sl lb : Int) (gn : Bool) (ci : List UInt8) (w : World) :
    Calls Try.prog 9 #[.agg #[.int .i64 ep, .int .i64 sl, .int .i64 lb, .bool gn, .string ⟨ci.toArray⟩]] w fun r w' => r = .returned (.tuple #[.string ⟨(put_ ⟨ep, sl, lb, gn, ci⟩).1.toArray⟩, .bool (decide (may ⟨ep, sl, lb, gn, ci⟩))]) ∧ Below w.heap.size w w' := by
  by_cases h : may ⟨ep, sl, lb, gn, ci⟩
  · rw [CelN.put_yes h, dt h]
    exact Put_yes ep sl lb gn ci w h
  · rw [CelN.put_no h, df h]
    exact Put_no ep sl lb gn ci w h
theorem told3 (t : List UInt8) : (⟨#[3]⟩ : ByteArray) ++ ⟨t.toArray⟩ = ⟨([3] ++ t).toArray⟩ := by
  rw [show (⟨#[3]⟩ : ByteArray) = ⟨([3] : List UInt8).toArray⟩ from rfl, mk_append]
set_option maxRecDepth 100000 in
theorem Hold_yes (s : List UInt8) (w : World) (h : hmay s) :
    Calls Try.prog 11 #[.string ⟨s.toArray⟩] w fun r w' => r = .returned (.tuple #[.string ⟨(hblk s).toArray⟩, .bool true]) ∧ Below w.heap.size w w' := by
  have hz := size_mk s
  have HT := Lib.hid (fun W => texted s (by have := h.2; omega) W)
  have hl := hhead_len s
  have hle : (hhead s).length ≤ 4096 := by have := h.2; omega
  have HN := Lib.hid (fun W => lacked _ hle W)
  have HE : Hid (hblk s = hhead s ++ List.replicate (4096 - (hhead s).length) 0) := rfl
  have HH : Hid (hhead s = [3] ++ txt s) := rfl
  have q4 := txt_len s
  have h0 : 1 ≤ s.length := h.1
  have h1 : s.length ≤ 4000 := h.2
  clear hl h
  generalize txt s = t at *
  generalize hblk s = bk at *
  generalize hhead s = hd at *
  go_enter Try.func11, Try.ntmps11
  go_upto_region 4 with (go_at_call 28; refine (HT.out _).mono ?_; rintro r w6 ⟨rfl, hb⟩; have B6 := Lib.hid hb; clear HT hb)
  rw [told3, ← HH.out]
  clear HH q4 h0 h1 hz
  have hz := size_mk hd
  have HZ : Hid ((⟨hd.toArray⟩ : ByteArray) ++ ⟨(List.replicate (4096 - hd.length) 0).toArray⟩ = ⟨bk.toArray⟩) := Lib.hid (by rw [HE.out, mk_append])
  have hy : (List.replicate (4096 - hd.length) (0 : UInt8)).length = 4096 - hd.length := List.length_replicate
  generalize List.replicate (4096 - hd.length) (0 : UInt8) = z at *
  go_wp2_with (go_at_call 20; refine (HN.out _).mono ?_; rintro r w7 ⟨rfl, hb⟩; have B7 := Lib.hid (B6.out.trans (hb.mono B6.out.size)); clear hb)
  go_ret2
  exact ⟨by rw [← HZ.out] <;> rfl, B7.out⟩
theorem Hold_no (s : List UInt8) (w : World) (h : ¬ hmay s) :
    Calls Try.prog 11 #[.string ⟨s.toArray⟩] w fun r w' => r = .returned (.tuple #[.string ⟨#[]⟩, .bool false]) ∧ w = w' := by
  have hz := size_mk s
  by_cases h0 : 1 ≤ s.length
  · have h1 : 4000 < s.length := by
      unfold hmay at h
      omega
    clear h
    go_enter Try.func11, Try.ntmps11
    go_wp2
    go_ret2
    exact ⟨rfl, rfl⟩
  · clear h
    go_enter Try.func11, Try.ntmps11
    go_wp2
    go_ret2
    exact ⟨rfl, rfl⟩
/-- What the document's Hold answers. -/
theorem Hold (s : List UInt8) (w : World) :
    Calls Try.prog 11 #[.string ⟨s.toArray⟩] w fun r w' => r = .returned (.tuple #[.string ⟨(hold s).1.toArray⟩, .bool (decide (hmay s))]) ∧ Below w.heap.size w w' := by
  by_cases h : hmay s
  · rw [CelN.hold_yes h, dt h]
    exact Hold_yes s w h
  · rw [CelN.hold_no h, df h]
    exact (Hold_no s w h).mono fun r w' ⟨h1, h2⟩ => ⟨h1, h2 ▸ Below.refl _ _⟩
end Go.Proofs.Yteobimhibhfokaa.CelQ
