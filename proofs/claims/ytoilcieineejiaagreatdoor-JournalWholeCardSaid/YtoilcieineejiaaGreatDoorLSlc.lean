/- SloC SloP: one behind the other. -/
import Derived.Test.YtoilcieineejiaaGreatDoorLShn
import Derived.Test.YtoilcieineejiaaGreatDoorLSas
import Derived.Test.YtoilcieineejiaaGreatDoorLPut
import Derived.Test.YtoilcieineejiaaGreatDoorLPut
import Derived.Test.YtoilcieineejiaaGreatDoorOFill
import Derived.Test.YtoilcieineejiaaGreatDoorLHash
import Derived.Deep.DeepCutAuto
/- isEpoch, place, isEmpty of slots, and the document's Right: the walks of their texts. No conditions but those that each lemma names. -/
namespace Go.Proofs.YtoilcieineejiaaGreatDoor.SloC
open Go.RowKit
open SloN
theorem mk_append (l m : List UInt8) : (⟨l.toArray⟩ : ByteArray) ++ ⟨m.toArray⟩ = ⟨(l ++ m).toArray⟩ := by
  apply ByteArray.ext
  simp [ByteArray.data_append]
theorem size_mk (s : List UInt8) : (⟨s.toArray⟩ : ByteArray).size = s.length := by simp [ByteArray.size]
theorem ext_at (s : List UInt8) (n m : Nat) : (⟨s.toArray⟩ : ByteArray).extract n m = ⟨((s.drop n).take (m - n)).toArray⟩ := by rw [ByteArray.extract_mk]
theorem dt {p : Prop} [Decidable p] (h : p) : decide p = true := decide_eq_true h
theorem df {p : Prop} [Decidable p] (h : ¬ p) : decide p = false := decide_eq_false h
/-- What isEpoch answers. -/
theorem isEpoch (n : Int) (w : World) :
    Calls Tryz.prog 74 #[.int .i64 n] w fun r w' => r = .returned (.bool (decide (may n))) ∧ w = w' := by
  by_cases h0 : 0 ≤ n
  · by_cases h1 : n ≤ 4294967295
    · have HD := Lib.hid (dt (show may n from ⟨h0, h1⟩))
      go_enter Tryz.func74, Tryz.ntmps74
      go_wp2
      go_ret
      exact ⟨by rw [HD.out] <;> rfl, rfl⟩
    · have HD := Lib.hid (df (fun h : may n => h1 h.2))
      go_enter Tryz.func74, Tryz.ntmps74
      go_wp2
      go_ret
      exact ⟨by rw [HD.out] <;> rfl, rfl⟩
  · have HD := Lib.hid (df (fun h : may n => h0 h.1))
    go_enter Tryz.func74, Tryz.ntmps74
    go_wp2
    go_ret
    exact ⟨by rw [HD.out] <;> rfl, rfl⟩
/-- What place answers of a number that is not below 0. -/
theorem place (n : Int) (w : World) (h0 : 0 ≤ n) :
    Calls Tryz.prog 124 #[.int .i64 n] w fun r w' => r = .returned (.int .i64 (n % 2)) ∧ w = w' := by
  have ht : Int.tmod n 2 = n % 2 := Int.tmod_eq_emod_of_nonneg h0
  have HT := Lib.hid ht
  clear ht
  go_enter Tryz.func124, Tryz.ntmps124
  go_wp2
  go_ret
  exact ⟨by first | rfl | rw [HT.out], rfl⟩
/-- What isEmpty answers of a text. -/
theorem isEmpty_len (s : List UInt8) (w : World) (h : (((s.length : Nat) : Int) == 4096) = false) :
    Calls Tryz.prog 144 #[.string ⟨s.toArray⟩] w fun r w' => r = .returned (.bool false) ∧ Below w.heap.size w w' := by
  have hz := size_mk s
  go_enter Tryz.func144, Tryz.ntmps144
  go_wp2
  go_ret
  exact ⟨rfl, Below.refl _ _⟩
theorem isEmpty_any (s : List UInt8) (n : Int) (r : Bool) (w : World) (h : s.length = 4096) (hn : SamN.any s = n) (hr : (n == 0) = r) :
    Calls Tryz.prog 144 #[.string ⟨s.toArray⟩] w fun e w' => e = .returned (.bool r) ∧ Below w.heap.size w w' := by
  have hz := size_mk s
  have HA := Lib.hid (fun W => SBit.Any s W (by simp [maxLen]; omega))
  rw [hn] at HA
  clear hn
  go_enter Tryz.func144, Tryz.ntmps144
  go_wp2_with (go_at_call 155; refine (HA.out _).mono ?_; rintro e w1 ⟨rfl, hb1⟩)
  go_ret
  exact ⟨by rw [← hr] <;> rfl, hb1⟩
theorem isEmpty (s : List UInt8) (w : World) :
    Calls Tryz.prog 144 #[.string ⟨s.toArray⟩] w fun e w' => e = .returned (.bool (decide (s = empty))) ∧ Below w.heap.size w w' := by
  by_cases h : s.length = 4096
  · have hn : SamN.any s = if s = empty then 0 else 1 := by unfold SamN.any; rw [h]; rfl
    by_cases he : s = empty
    · rw [dt he]
      rw [if_pos he] at hn
      exact isEmpty_any s 0 true w h hn rfl
    · rw [df he]
      rw [if_neg he] at hn
      exact isEmpty_any s 1 false w h hn rfl
  · rw [df (fun e : s = empty => h (by rw [e]; exact empty_len))]
    exact isEmpty_len s w (by rw [beq_eq_false_iff_ne]; omega)
end Go.Proofs.YtoilcieineejiaaGreatDoor.SloC
/- slots.Put, Empty, Take: the walks of their texts. The condition: that the rounds' numbers lie in the program's variable. -/
namespace Go.Proofs.YtoilcieineejiaaGreatDoor.SloP
open Go.RowKit
open SloN SloC STurn
theorem told (n k : List UInt8) : (⟨#[107, 101, 121]⟩ : ByteArray) ++ ⟨n.toArray⟩ ++ ⟨k.toArray⟩ = ⟨(SloN.mark ++ n ++ k).toArray⟩ := by
  rw [show (⟨#[107, 101, 121]⟩ : ByteArray) = ⟨SloN.mark.toArray⟩ from rfl, mk_append, mk_append]
/-- What Empty answers. -/
theorem Empty (w : World) :
    Calls Tryz.prog 78 #[] w fun r w' => r = .returned (.string ⟨empty.toArray⟩) ∧ Below w.heap.size w w' := by
  have HF : Hid (∀ W : World, Calls Tryz.prog 76 #[.string ⟨#[]⟩, .int .i64 4096] W fun r w' => r = .returned (.tuple #[.string ⟨empty.toArray⟩, .int .i64 0]) ∧ Below W.heap.size W w') := Lib.hid (by
    intro W
    have := OFill.any ⟨#[]⟩ 4096 W
    have e := fill_good ⟨#[]⟩ 4096 (by simp [ByteArray.size])
    rw [show (((⟨#[]⟩ : ByteArray).size + 4096 : Nat) : Int) = 4096 from rfl] at e
    rw [e, show (⟨#[]⟩ : ByteArray) ++ ⟨(List.replicate 4096 0).toArray⟩ = ⟨(List.replicate 4096 0).toArray⟩ from mk_append [] _] at this
    exact this)
  generalize empty = z at *
  go_enter Tryz.func78, Tryz.ntmps78
  go_wp2_with (go_at_call 76; refine (HF.out _).mono ?_; rintro r w1 ⟨rfl, hb1⟩)
  go_ret
  exact ⟨rfl, hb1⟩
/-- What Fill answers of what is told and its sum. -/
theorem filled (hd : List UInt8) (h : hd.length = 39) (w : World) :
    Calls Tryz.prog 76 #[.string (⟨hd.toArray⟩ ++ ⟨(sum hd).toArray⟩), .int .i64 4096] w fun r w' => r = .returned (.tuple #[.string ⟨(hd ++ sum hd ++ tail).toArray⟩, .int .i64 0]) ∧ Below w.heap.size w w' := by
  have := OFill.any (⟨hd.toArray⟩ ++ ⟨(sum hd).toArray⟩) 4096 w
  rw [mk_append] at this
  have hz : (⟨(hd ++ sum hd).toArray⟩ : ByteArray).size = 71 := by rw [size_mk, List.length_append, h, sum_length]
  have e := fill_good ⟨(hd ++ sum hd).toArray⟩ 4025 (by omega)
  rw [hz] at e
  rw [show ((71 + 4025 : Nat) : Int) = 4096 from rfl] at e
  rw [e, mk_append] at this
  rw [mk_append]
  exact this
/-- What Sum answers of one text, behind its row's making. -/
theorem summed (hd : List UInt8) (h : hd.length = 39) (w : World) (hr : Rds w) :
    Calls Tryz.prog 77 #[.slice (some ⟨w.heap.size, 0, none⟩) 1 1] (w.alloc (.cells #[.string ⟨hd.toArray⟩] 9)) fun r w' => r = .returned (.string ⟨(sum hd).toArray⟩) ∧ Below w.heap.size w w' := by
  have hb : Below w.heap.size w (w.alloc (.cells #[.string ⟨hd.toArray⟩] 9)) := (Below.refl _ _).alloc (Nat.le_refl _) _
  have hs : SSum.Strs (w.alloc (.cells #[.string ⟨hd.toArray⟩] 9)) (w.alloc (.cells #[.string ⟨hd.toArray⟩] 9)).heap.size (some ⟨w.heap.size, 0, none⟩) 1 [hd] :=
    ⟨rfl, fun _ => ⟨_, _, rfl, by simp, fun i hi => by
      obtain rfl : i = 0 := by omega
      exact blk_cell (heap_alloc_new w _) rfl⟩⟩
  have := SSum.sums _ 1 1 [hd] _ hs (hr.step hb) (by simp [h]) (by omega)
  rw [show [hd].flatten = hd from by simp] at this
  exact this.mono fun r w' ⟨h1, h2⟩ => ⟨h1, hb.trans (h2.mono hb.size)⟩
theorem Put_yes (e : Int) (k : List UInt8) (w : World) (hr : Rds w) (h : may e) (hk : k.length = 32) :
    Calls Tryz.prog 37 #[.int .i64 e, .string ⟨k.toArray⟩] w fun r w' => r = .returned (.tuple #[.string ⟨(blk e k).toArray⟩, .int .i64 0]) ∧ Below w.heap.size w w' := by
  have hz := size_mk k
  have HR := Lib.hid (fun W => isEpoch e W)
  rw [dt h] at HR
  have GG := Lib.hid hr
  have P0 := Lib.hid (fun W => OPut.any e 4 W)
  rw [put4 h] at P0
  have HH : Hid (head e k = SloN.mark ++ be 4 e.toNat ++ k) := rfl
  have HHL := Lib.hid (head_len e hk)
  have HE : Hid (blk e k = head e k ++ sum (head e k) ++ tail) := rfl
  have la := be_length 4 e.toNat
  generalize be 4 e.toNat = na at *
  generalize blk e k = bk at *
  generalize head e k = hd at *
  clear h hr
  go_enter Tryz.func37, Tryz.ntmps37
  go_upto_region 5 with (first
    | (go_at_call 74; refine (HR.out _).mono ?_; rintro r _ ⟨rfl, rfl⟩)
    | (go_at_call 75; refine (P0.out _).mono ?_; rintro r w3 ⟨rfl, hb3⟩; have B3 := Lib.hid hb3; clear hb3))
  clear P0 HR
  rw [told, ← HH.out]
  have HF := Lib.hid (fun W => filled hd HHL.out W)
  rw [← HE.out] at HF
  have HS := Lib.hid (fun W (h : Rds W) => summed hd HHL.out W h)
  have hs := sum_length hd
  have hh := HHL.out
  clear HHL HH HE la hz
  generalize sum hd = sm at *
  go_wp2_with (first
    | (go_at_call 77; refine (HS.out _ (GG.out.step B3.out)).mono ?_; rintro r w8 ⟨rfl, hb8⟩; have B8 := Lib.hid (B3.out.trans (hb8.mono B3.out.size)); clear hb8)
    | (go_at_call 76; refine (HF.out _).mono ?_; rintro r w9 ⟨rfl, hb9⟩; have B9 := Lib.hid (B8.out.trans (hb9.mono B8.out.size)); clear hb9))
  go_ret2
  exact ⟨rfl, B9.out⟩
theorem Put_no (e : Int) (k : List UInt8) (w : World) (h : ¬ may e ∨ (may e ∧ (((k.length : Nat) : Int) != 32) = true)) :
    Calls Tryz.prog 37 #[.int .i64 e, .string ⟨k.toArray⟩] w fun r w' => r = .returned (.tuple #[.string ⟨#[]⟩, .int .i64 2]) ∧ Below w.heap.size w w' := by
  have hz := size_mk k
  have HR := Lib.hid (fun W => isEpoch e W)
  rcases h with h | ⟨h, hk⟩
  · rw [df h] at HR
    clear h
    go_enter Tryz.func37, Tryz.ntmps37
    go_wp2_with (go_at_call 74; refine (HR.out _).mono ?_; rintro r _ ⟨rfl, rfl⟩)
    go_ret2
    exact ⟨rfl, Below.refl _ _⟩
  · rw [dt h] at HR
    clear h
    go_enter Tryz.func37, Tryz.ntmps37
    go_wp2_with (go_at_call 74; refine (HR.out _).mono ?_; rintro r _ ⟨rfl, rfl⟩)
    go_ret2
    exact ⟨rfl, Below.refl _ _⟩
/-- What slots.Put answers. -/
theorem Put (e : Int) (k : List UInt8) (w : World) (hr : Rds w) :
    Calls Tryz.prog 37 #[.int .i64 e, .string ⟨k.toArray⟩] w fun r w' => r = .returned (.tuple #[.string ⟨(put_ e k).1.toArray⟩, .int .i64 (put_ e k).2]) ∧ Below w.heap.size w w' := by
  by_cases h : may e
  · by_cases hk : k.length = 32
    · rw [SloN.put_yes h hk]
      exact Put_yes e k w hr h hk
    · rw [SloN.put_no (fun hh => hk hh.2)]
      exact Put_no e k w (.inr ⟨h, by rw [bne_iff_ne]; omega⟩)
  · rw [SloN.put_no (fun hh => h hh.1)]
    exact Put_no e k w (.inl h)
theorem get_at (p : List UInt8) (x c : Int) (h : get p = (x, c)) (w : World) :
    Calls Tryz.prog 145 #[.string ⟨p.toArray⟩] w fun r w' => r = .returned (.tuple #[.int .i64 x, .int .i64 c]) ∧ w = w' := by
  have := OGet.any ⟨p.toArray⟩ w
  rw [show (⟨p.toArray⟩ : ByteArray).data.toList = p from rfl, h] at this
  exact this
theorem slices (s : List UInt8) (h : s.length = 4096) : (∀ W, (Instr.slice 9 (.string ⟨s.toArray⟩) (some (.int .i64 3)) (some (.int .i64 7)) none).run Tryz.prog W = .ok (.string ⟨(num_ s).toArray⟩) W) ∧
    (∀ W, (Instr.slice 9 (.string ⟨s.toArray⟩) (some (.int .i64 7)) (some (.int .i64 39)) none).run Tryz.prog W = .ok (.string ⟨(key_ s).toArray⟩) W) := by
  have s0 := fun W => run_slice_string (P := Tryz.prog) (w := W) 9 ⟨s.toArray⟩ .i64 .i64 3 7 Tryz.underlying9 (by omega) (by omega) (show (7 : Int) ≤ ((s.length : Nat) : Int) by omega)
  rw [show (⟨s.toArray⟩ : ByteArray).extract (3 : Int).toNat (7 : Int).toNat = ⟨(num_ s).toArray⟩ from ext_at s 3 7] at s0
  have s1 := fun W => run_slice_string (P := Tryz.prog) (w := W) 9 ⟨s.toArray⟩ .i64 .i64 7 39 Tryz.underlying9 (by omega) (by omega) (show (39 : Int) ≤ ((s.length : Nat) : Int) by omega)
  rw [show (⟨s.toArray⟩ : ByteArray).extract (7 : Int).toNat (39 : Int).toNat = ⟨(key_ s).toArray⟩ from ext_at s 7 39] at s1
  exact ⟨s0, s1⟩
theorem beq_str {s t : List UInt8} {r : Bool} (h : decide (s = t) = r) : (s == t) = r := by rw [← h]; by_cases hh : s = t <;> simp [hh]
theorem Take_empty (s : List UInt8) (w : World) (h : s = empty) :
    Calls Tryz.prog 123 #[.string ⟨s.toArray⟩] w fun r w' => r = .returned (.tuple #[.int .i64 0, .string ⟨#[]⟩, .int .i64 7]) ∧ Below w.heap.size w w' := by
  have HI := Lib.hid (fun W => isEmpty s W)
  rw [dt h] at HI
  clear h
  go_enter Tryz.func123, Tryz.ntmps123
  go_wp2_with (go_at_call 144; refine (HI.out _).mono ?_; rintro r w9 ⟨rfl, hb9⟩; have B9 := Lib.hid hb9; clear hb9)
  go_ret3
  exact ⟨rfl, B9.out⟩
theorem Take_len (s : List UInt8) (w : World) (h : ¬ s = empty) (hl : (((s.length : Nat) : Int) != 4096) = true) :
    Calls Tryz.prog 123 #[.string ⟨s.toArray⟩] w fun r w' => r = .returned (.tuple #[.int .i64 0, .string ⟨#[]⟩, .int .i64 3]) ∧ Below w.heap.size w w' := by
  have hz := size_mk s
  have HI := Lib.hid (fun W => isEmpty s W)
  rw [df h] at HI
  clear h
  go_enter Tryz.func123, Tryz.ntmps123
  go_wp2_with (go_at_call 144; refine (HI.out _).mono ?_; rintro r w9 ⟨rfl, hb9⟩; have B9 := Lib.hid hb9; clear hb9)
  go_ret3
  exact ⟨rfl, B9.out⟩
theorem Take_any (s p : List UInt8) (w : World) (hr : Rds w) (h : ¬ s = empty) (hl : s.length = 4096) (hp : put_ (of_ s) (key_ s) = (p, 0)) (hpl : p.length = 4096) (q : Bool) (hq : (p == s) = q) :
    Calls Tryz.prog 123 #[.string ⟨s.toArray⟩] w fun r w' => r = .returned (.tuple (if q then #[.int .i64 (of_ s), .string ⟨(key_ s).toArray⟩, .int .i64 0] else #[.int .i64 0, .string ⟨#[]⟩, .int .i64 3])) ∧ Below w.heap.size w w' := by
  have hz := size_mk s
  have HI := Lib.hid (fun W => isEmpty s W)
  rw [df h] at HI
  have HG := Lib.hid (fun W => get_at (num_ s) (of_ s) 0 (get4 _ (num_len hl)) W)
  have HP := Lib.hid (fun W h => Put (of_ s) (key_ s) W h)
  rw [hp] at HP
  have HE := Lib.hid (fun W => SSame.Equal p s W (by rw [hpl]; simp [maxLen]))
  rw [hq] at HE
  have GG := Lib.hid hr
  obtain ⟨s0, s1⟩ := slices s hl
  generalize num_ s = q0 at *
  generalize key_ s = q1 at *
  generalize of_ s = n at *
  clear hp hr hq h
  go_enter Tryz.func123, Tryz.ntmps123
  cases q
  all_goals
    go_wp2_with (first
      | (go_at_call 144; refine (HI.out _).mono ?_; rintro r w9 ⟨rfl, hb9⟩; have B9 := Lib.hid hb9; clear hb9)
      | (go_at_call 145; refine (HG.out _).mono ?_; rintro r _ ⟨rfl, rfl⟩)
      | (go_at_call 37; refine (HP.out _ (GG.out.step B9.out)).mono ?_; rintro r w8 ⟨rfl, hb8⟩; have B8 := Lib.hid (B9.out.trans (hb8.mono B9.out.size)); clear hb8)
      | (go_at_call 146; refine (HE.out _).mono ?_; rintro r w7 ⟨rfl, hb7⟩; have B7 := Lib.hid (B8.out.trans (hb7.mono B8.out.size)); clear hb7))
    go_ret3
    exact ⟨rfl, B7.out⟩
/-- What slots.Take answers. -/
theorem Take (s : List UInt8) (w : World) (hr : Rds w) :
    Calls Tryz.prog 123 #[.string ⟨s.toArray⟩] w fun r w' => r = .returned (.tuple #[.int .i64 (take s).1, .string ⟨(take s).2.1.toArray⟩, .int .i64 (take s).2.2]) ∧ Below w.heap.size w w' := by
  by_cases he : s = empty
  · rw [take_none he]
    exact Take_empty s w he
  · by_cases hl : s.length = 4096
    · by_cases hg : good s
      · rw [take_yes hg]
        exact Take_any s s w hr he hl (by rw [put_take hl, hg.2]) hl true (beq_str (dt rfl))
      · rw [take_no he hg]
        exact Take_any s _ w hr he hl (put_take hl) (blk_len _ (key_len hl)) false (beq_str (df (fun e => hg ⟨hl, e⟩)))
    · rw [take_no he (fun hg => hl hg.1)]
      exact Take_len s w he (by rw [bne_iff_ne]; omega)
end Go.Proofs.YtoilcieineejiaaGreatDoor.SloP
