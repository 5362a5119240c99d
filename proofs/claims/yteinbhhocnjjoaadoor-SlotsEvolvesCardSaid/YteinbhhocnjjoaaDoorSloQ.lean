/- keepsakeref11.Put, Take: the walks of their texts. No conditions. -/
import Derived.Test.YteinbhhocnjjoaaDoorSloC
import Derived.Test.YteinbhhocnjjoaaDoorRSum
import Derived.Test.YteinbhhocnjjoaaDoorRNou
import Derived.Test.YteinbhhocnjjoaaDoorRPut
import Derived.Test.YteinbhhocnjjoaaDoorRGet
import Derived.Deep.RegionHeld3
import Derived.BigQuiet
import Derived.Deep.DeepCutAuto
namespace Go.Proofs.YteinbhhocnjjoaaDoor.SloQ
open Go.RowKit
open SloN SloC
theorem told (n k : List UInt8) : (⟨#[107, 101, 121]⟩ : ByteArray) ++ ⟨n.toArray⟩ ++ ⟨k.toArray⟩ = ⟨(SloN.mark ++ n ++ k).toArray⟩ := by
  rw [show (⟨#[107, 101, 121]⟩ : ByteArray) = ⟨SloN.mark.toArray⟩ from rfl, mk_append, mk_append]
theorem Put_yes (e : Int) (k : List UInt8) (w : World) (h : may e) (hk : k.length = 32) :
    Calls Tryd.prog 9 #[.int .i64 e, .string ⟨k.toArray⟩] w fun r w' => r = .returned (.tuple #[.string ⟨(blk e k).toArray⟩, .bool true]) ∧ Below w.heap.size w w' := by
  have hz := size_mk k
  have HR := Lib.hid (fun W => Right e W)
  rw [dt h] at HR
  have P0 := Lib.hid (fun W => RPut.any e 4 W (by have := h.2; omega))
  rw [put4 h] at P0
  have HH : Hid (head e k = SloN.mark ++ be 4 e.toNat ++ k) := rfl
  have HHL := Lib.hid (head_len e hk)
  have HE : Hid (blk e k = head e k ++ sum (head e k) ++ tail) := rfl
  have la := be_length 4 e.toNat
  generalize be 4 e.toNat = na at *
  generalize blk e k = bk at *
  generalize head e k = hd at *
  clear h
  go_enter Tryd.func9, Tryd.ntmps9
  go_upto_region 5 with (first
    | (go_at_call 25; refine (HR.out _).mono ?_; rintro r _ ⟨rfl, rfl⟩)
    | (go_at_call 26; refine (P0.out _).mono ?_; rintro r w3 ⟨rfl, hb3⟩; have B3 := Lib.hid hb3; clear hb3))
  clear P0 HR
  rw [told, ← HH.out]
  have HS := Lib.hid (fun W => RSum.Sum hd W (by rw [HHL.out]; omega))
  have HN : Hid (∀ W, Calls Tryd.prog 13 #[.int .i64 4025] W fun r w' => r = .returned (.string ⟨tail.toArray⟩) ∧ Below W.heap.size W w') := Lib.hid (fun W => RNou.noughts 4025 W (by omega))
  have hs := sum_length hd
  have hh := HHL.out
  have HE2 : Hid (((⟨hd.toArray⟩ : ByteArray) ++ ⟨(sum hd).toArray⟩) ++ ⟨tail.toArray⟩ = ⟨bk.toArray⟩) := Lib.hid (by rw [HE.out, mk_append, mk_append])
  clear HE HH HHL la hz
  have htl := tail_len
  generalize tail = z at *
  generalize sum hd = sm at *
  go_wp2_with (first
    | (go_at_call 27; refine (HS.out _).mono ?_; rintro r w8 ⟨rfl, hb8⟩; have B8 := Lib.hid (B3.out.trans (hb8.mono B3.out.size)); clear hb8)
    | (go_at_call 13; refine (HN.out _).mono ?_; rintro r w9 ⟨rfl, hb9⟩; have B9 := Lib.hid (B8.out.trans (hb9.mono B8.out.size)); clear hb9))
  go_ret2
  exact ⟨by rw [← HE2.out] <;> rfl, B9.out⟩
theorem Put_no (e : Int) (k : List UInt8) (w : World) (h : ¬ may e ∨ (may e ∧ (((k.length : Nat) : Int) != 32) = true)) :
    Calls Tryd.prog 9 #[.int .i64 e, .string ⟨k.toArray⟩] w fun r w' => r = .returned (.tuple #[.string ⟨#[]⟩, .bool false]) ∧ Below w.heap.size w w' := by
  have hz := size_mk k
  have HR := Lib.hid (fun W => Right e W)
  rcases h with h | ⟨h, hk⟩
  · rw [df h] at HR
    clear h
    go_enter Tryd.func9, Tryd.ntmps9
    go_wp2_with (go_at_call 25; refine (HR.out _).mono ?_; rintro r _ ⟨rfl, rfl⟩)
    go_ret2
    exact ⟨rfl, Below.refl _ _⟩
  · rw [dt h] at HR
    clear h
    go_enter Tryd.func9, Tryd.ntmps9
    go_wp2_with (go_at_call 25; refine (HR.out _).mono ?_; rintro r _ ⟨rfl, rfl⟩)
    go_ret2
    exact ⟨rfl, Below.refl _ _⟩
/-- What the document's Put answers. -/
theorem Put (e : Int) (k : List UInt8) (w : World) :
    Calls Tryd.prog 9 #[.int .i64 e, .string ⟨k.toArray⟩] w fun r w' => r = .returned (.tuple #[.string ⟨(put_ e k).1.toArray⟩, .bool (decide (may e ∧ k.length = 32))]) ∧ Below w.heap.size w w' := by
  by_cases h : may e
  · by_cases hk : k.length = 32
    · rw [SloN.put_yes h hk, dt (show may e ∧ k.length = 32 from ⟨h, hk⟩)]
      exact Put_yes e k w h hk
    · rw [SloN.put_no (fun hh => hk hh.2), df (fun hh => hk hh.2)]
      exact Put_no e k w (.inr ⟨h, by rw [bne_iff_ne]; omega⟩)
  · rw [SloN.put_no (fun hh => h hh.1), df (fun hh => h hh.1)]
    exact Put_no e k w (.inl h)
theorem beq_str {s t : List UInt8} {r : Bool} (h : decide (s = t) = r) : (s == t) = r := by rw [← h]; by_cases hh : s = t <;> simp [hh]
theorem Take_empty (s : List UInt8) (w : World) (h : s = empty) :
    Calls Tryd.prog 11 #[.string ⟨s.toArray⟩] w fun r w' => r = .returned (.tuple #[.int .i64 0, .string ⟨#[]⟩, .int .i64 7]) ∧ Below w.heap.size w w' := by
  have HN : Hid (∀ W, Calls Tryd.prog 13 #[.int .i64 4096] W fun r w' => r = .returned (.string ⟨empty.toArray⟩) ∧ Below W.heap.size W w') := Lib.hid (fun W => RNou.noughts 4096 W (by omega))
  rw [← h] at HN
  clear h
  go_enter Tryd.func11, Tryd.ntmps11
  go_wp2_with (go_at_call 13; refine (HN.out _).mono ?_; rintro r w9 ⟨rfl, hb9⟩; have B9 := Lib.hid hb9; clear hb9)
  go_ret3
  exact ⟨rfl, B9.out⟩
theorem Take_len (s : List UInt8) (w : World) (h : (s == empty) = false) (hl : (((s.length : Nat) : Int) != 4096) = true) :
    Calls Tryd.prog 11 #[.string ⟨s.toArray⟩] w fun r w' => r = .returned (.tuple #[.int .i64 0, .string ⟨#[]⟩, .int .i64 3]) ∧ Below w.heap.size w w' := by
  have hz := size_mk s
  have HN : Hid (∀ W, Calls Tryd.prog 13 #[.int .i64 4096] W fun r w' => r = .returned (.string ⟨empty.toArray⟩) ∧ Below W.heap.size W w') := Lib.hid (fun W => RNou.noughts 4096 W (by omega))
  generalize empty = z at *
  go_enter Tryd.func11, Tryd.ntmps11
  go_wp2_with (go_at_call 13; refine (HN.out _).mono ?_; rintro r w9 ⟨rfl, hb9⟩; have B9 := Lib.hid hb9; clear hb9)
  go_ret3
  exact ⟨rfl, B9.out⟩
theorem get_at (p : List UInt8) (x c : Int) (h : get p = (x, c)) (w : World) :
    Calls Tryd.prog 31 #[.string ⟨p.toArray⟩] w fun r w' => r = .returned (.tuple #[.int .i64 x, .int .i64 c]) ∧ w = w' := by
  have := RGet.any ⟨p.toArray⟩ w
  rw [show (⟨p.toArray⟩ : ByteArray).data.toList = p from rfl, h] at this
  exact this
theorem slices (s : List UInt8) (h : s.length = 4096) : (∀ W, (Instr.slice 9 (.string ⟨s.toArray⟩) (some (.int .i64 3)) (some (.int .i64 7)) none).run Tryd.prog W = .ok (.string ⟨(num_ s).toArray⟩) W) ∧
    (∀ W, (Instr.slice 9 (.string ⟨s.toArray⟩) (some (.int .i64 7)) (some (.int .i64 39)) none).run Tryd.prog W = .ok (.string ⟨(key_ s).toArray⟩) W) := by
  have s0 := fun W => run_slice_string (P := Tryd.prog) (w := W) 9 ⟨s.toArray⟩ .i64 .i64 3 7 Tryd.underlying9 (by omega) (by omega) (show (7 : Int) ≤ ((s.length : Nat) : Int) by omega)
  rw [show (⟨s.toArray⟩ : ByteArray).extract (3 : Int).toNat (7 : Int).toNat = ⟨(num_ s).toArray⟩ from ext_at s 3 7] at s0
  have s1 := fun W => run_slice_string (P := Tryd.prog) (w := W) 9 ⟨s.toArray⟩ .i64 .i64 7 39 Tryd.underlying9 (by omega) (by omega) (show (39 : Int) ≤ ((s.length : Nat) : Int) by omega)
  rw [show (⟨s.toArray⟩ : ByteArray).extract (7 : Int).toNat (39 : Int).toNat = ⟨(key_ s).toArray⟩ from ext_at s 7 39] at s1
  exact ⟨s0, s1⟩
theorem Take_other (s p : List UInt8) (w : World) (h : (s == empty) = false) (hl : s.length = 4096) (hp : put_ (of_ s) (key_ s) = (p, 0)) (hn : (p == s) = false) :
    Calls Tryd.prog 11 #[.string ⟨s.toArray⟩] w fun r w' => r = .returned (.tuple #[.int .i64 0, .string ⟨#[]⟩, .int .i64 3]) ∧ Below w.heap.size w w' := by
  have hz := size_mk s
  have HN : Hid (∀ W, Calls Tryd.prog 13 #[.int .i64 4096] W fun r w' => r = .returned (.string ⟨empty.toArray⟩) ∧ Below W.heap.size W w') := Lib.hid (fun W => RNou.noughts 4096 W (by omega))
  have HG := Lib.hid (fun W => get_at (num_ s) (of_ s) 0 (get4 _ (num_len hl)) W)
  have HP := Lib.hid (fun W => Put (of_ s) (key_ s) W)
  rw [hp] at HP
  obtain ⟨s0, s1⟩ := slices s hl
  generalize empty = z at *
  generalize num_ s = q0 at *
  generalize key_ s = q1 at *
  generalize of_ s = n at *
  generalize decide (may n ∧ q1.length = 32) = is at *
  clear hp
  go_enter Tryd.func11, Tryd.ntmps11
  go_wp2_with (first
    | (go_at_call 13; refine (HN.out _).mono ?_; rintro r w9 ⟨rfl, hb9⟩; have B9 := Lib.hid hb9; clear hb9)
    | (go_at_call 31; refine (HG.out _).mono ?_; rintro r _ ⟨rfl, rfl⟩)
    | (go_at_call 9; refine (HP.out _).mono ?_; rintro r w8 ⟨rfl, hb8⟩; have B8 := Lib.hid (B9.out.trans (hb8.mono B9.out.size)); clear hb8))
  go_ret3
  exact ⟨rfl, B8.out⟩
theorem Take_same (s : List UInt8) (w : World) (h : (s == empty) = false) (hl : s.length = 4096) (hp : put_ (of_ s) (key_ s) = (s, 0)) :
    Calls Tryd.prog 11 #[.string ⟨s.toArray⟩] w fun r w' => r = .returned (.tuple #[.int .i64 (of_ s), .string ⟨(key_ s).toArray⟩, .int .i64 0]) ∧ Below w.heap.size w w' := by
  have hz := size_mk s
  have HN : Hid (∀ W, Calls Tryd.prog 13 #[.int .i64 4096] W fun r w' => r = .returned (.string ⟨empty.toArray⟩) ∧ Below W.heap.size W w') := Lib.hid (fun W => RNou.noughts 4096 W (by omega))
  have HG := Lib.hid (fun W => get_at (num_ s) (of_ s) 0 (get4 _ (num_len hl)) W)
  have HP := Lib.hid (fun W => Put (of_ s) (key_ s) W)
  rw [hp] at HP
  obtain ⟨s0, s1⟩ := slices s hl
  generalize empty = z at *
  generalize num_ s = q0 at *
  generalize key_ s = q1 at *
  generalize of_ s = n at *
  generalize decide (may n ∧ q1.length = 32) = is at *
  clear hp
  go_enter Tryd.func11, Tryd.ntmps11
  go_upto_region 9 with (first
    | (go_at_call 13; refine (HN.out _).mono ?_; rintro r w9 ⟨rfl, hb9⟩; have B9 := Lib.hid hb9; clear hb9)
    | (go_at_call 31; refine (HG.out _).mono ?_; rintro r _ ⟨rfl, rfl⟩)
    | (go_at_call 9; refine (HP.out _).mono ?_; rintro r w8 ⟨rfl, hb8⟩; have B8 := Lib.hid (B9.out.trans (hb8.mono B9.out.size)); clear hb8))
  go_quiet (fail)
  go_wp2_with fail
  go_ret3
  exact ⟨rfl, B8.out.trans (below_drewN _ _)⟩
/-- What the document's Take answers. -/
theorem Take (s : List UInt8) (w : World) :
    Calls Tryd.prog 11 #[.string ⟨s.toArray⟩] w fun r w' => r = .returned (.tuple #[.int .i64 (take s).1, .string ⟨(take s).2.1.toArray⟩, .int .i64 (take s).2.2]) ∧ Below w.heap.size w w' := by
  by_cases he : s = empty
  · rw [take_none he]
    exact Take_empty s w he
  · have hb := beq_str (df he)
    by_cases hl : s.length = 4096
    · by_cases hg : good s
      · rw [take_yes hg]
        exact Take_same s w hb hl (by rw [put_take hl, hg.2])
      · rw [take_no he hg]
        exact Take_other s _ w hb hl (put_take hl) (beq_str (df (fun e => hg ⟨hl, e⟩)))
    · rw [take_no he (fun hg => hl hg.1)]
      exact Take_len s w hb (by rw [bne_iff_ne]; omega)
end Go.Proofs.YteinbhhocnjjoaaDoor.SloQ
