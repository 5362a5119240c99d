/- A disk that is none, and one that no call made: what each call answers: the walks of their texts. No conditions but those that each lemma names. -/
import Derived.Test.YtofpflkkbkodaaaDkC
namespace Go.Proofs.Ytofpflkkbkodaaa.DkU
open Go.RowKit
open DkN DkM DkQ
/-- None, or one that no call made. -/
def Un (w : World) (p : Option Addr) : Prop := p = none ∨ ∃ b, p = some ⟨b, 0, none⟩ ∧ w.cell? ⟨b, 0, none⟩ = some (.slice none 0 0)
theorem Un.step {w w' : World} {p : Option Addr} (h : Un w p) (hb : Below w.heap.size w w') : Un w' p := by
  rcases h with rfl | ⟨b, rfl, hc⟩
  · exact .inl rfl
  · exact .inr ⟨b, rfl, (hb.cell (p := ⟨b, 0, none⟩) (World.block_lt_of_cell? w _ hc)).trans hc⟩
theorem isNone {w : World} {p : Option Addr} (h : Un w p) : Calls Try.prog 46 #[.pointer p] w fun e w' => e = .returned (.bool true) ∧ w = w' := by
  rcases h with rfl | ⟨b, rfl, hc⟩
  · exact isNone_nil w
  · exact isNone_un b w hc
theorem ready {w : World} {p : Option Addr} (h : Un w p) : Calls Try.prog 47 #[.pointer p] w fun e w' => e = .returned (.int .i64 1) ∧ w = w' := by
  rcases h with rfl | ⟨b, rfl, hc⟩
  · exact ready_nil w
  · exact ready_un b w hc
theorem Read {w : World} {p : Option Addr} (h : Un w p) (i : Int) : Calls Try.prog 25 #[.pointer p, .int .i64 i] w fun e w' => e = .returned (.tuple #[.string ⟨#[]⟩, .int .i64 1]) ∧ w = w' := by
  have H := Lib.hid (ready h)
  clear h
  go_enter Try.func25, Try.ntmps25
  go_wp2_with (go_at_call 47; refine (H.out).mono ?_; rintro e w' ⟨rfl, rfl⟩)
  go_ret2
  exact ⟨rfl, rfl⟩
theorem Write {w : World} {p : Option Addr} (h : Un w p) (i : Int) (s : ByteArray) : Calls Try.prog 21 #[.pointer p, .int .i64 i, .string s] w fun e w' => e = .returned (.int .i64 1) ∧ w = w' := by
  have H := Lib.hid (ready h)
  clear h
  go_enter Try.func21, Try.ntmps21
  go_wp2_with (go_at_call 47; refine (H.out).mono ?_; rintro e w' ⟨rfl, rfl⟩)
  go_ret
  exact ⟨rfl, rfl⟩
theorem Flush {w : World} {p : Option Addr} (h : Un w p) : Calls Try.prog 19 #[.pointer p] w fun e w' => e = .returned (.int .i64 1) ∧ w = w' := by
  have H := Lib.hid (ready h)
  clear h
  go_enter Try.func19, Try.ntmps19
  go_wp2_with (go_at_call 47; refine (H.out).mono ?_; rintro e w' ⟨rfl, rfl⟩)
  go_ret
  exact ⟨rfl, rfl⟩
theorem Arm {w : World} {p : Option Addr} (h : Un w p) (n : Int) : Calls Try.prog 26 #[.pointer p, .int .i64 n] w fun e w' => e = .returned (.int .i64 1) ∧ w = w' := by
  have H := Lib.hid (ready h)
  clear h
  go_enter Try.func26, Try.ntmps26
  go_wp2_with (go_at_call 47; refine (H.out).mono ?_; rintro e w' ⟨rfl, rfl⟩)
  go_ret
  exact ⟨rfl, rfl⟩
theorem Crash {w : World} {p : Option Addr} (h : Un w p) (v : Value) : Calls Try.prog 23 #[.pointer p, v] w fun e w' => e = .returned (.int .i64 1) ∧ w = w' := by
  have H := Lib.hid (isNone h)
  clear h
  go_enter Try.func23, Try.ntmps23
  go_wp2_with (go_at_call 46; refine (H.out).mono ?_; rintro e w' ⟨rfl, rfl⟩)
  go_ret
  exact ⟨rfl, rfl⟩
theorem Boot {w : World} {p : Option Addr} (h : Un w p) : Calls Try.prog 18 #[.pointer p] w fun e w' => e = .returned (.int .i64 1) ∧ w = w' := by
  have H := Lib.hid (isNone h)
  clear h
  go_enter Try.func18, Try.ntmps18
  go_wp2_with (go_at_call 46; refine (H.out).mono ?_; rintro e w' ⟨rfl, rfl⟩)
  go_ret
  exact ⟨rfl, rfl⟩
theorem Over {w : World} {p : Option Addr} (h : Un w p) (i : Int) (s : ByteArray) : Calls Try.prog 27 #[.pointer p, .int .i64 i, .string s] w fun e w' => e = .returned (.int .i64 1) ∧ w = w' := by
  have H := Lib.hid (isNone h)
  clear h
  go_enter Try.func27, Try.ntmps27
  go_wp2_with (go_at_call 46; refine (H.out).mono ?_; rintro e w' ⟨rfl, rfl⟩)
  go_ret
  exact ⟨rfl, rfl⟩
theorem Size {w : World} {p : Option Addr} (h : Un w p) : Calls Try.prog 28 #[.pointer p] w fun e w' => e = .returned (.int .i64 0) ∧ w = w' := by
  have H := Lib.hid (isNone h)
  clear h
  go_enter Try.func28, Try.ntmps28
  go_wp2_with (go_at_call 46; refine (H.out).mono ?_; rintro e w' ⟨rfl, rfl⟩)
  go_ret
  exact ⟨rfl, rfl⟩
theorem Down {w : World} {p : Option Addr} (h : Un w p) : Calls Try.prog 24 #[.pointer p] w fun e w' => e = .returned (.bool false) ∧ w = w' := by
  have H := Lib.hid (isNone h)
  clear h
  go_enter Try.func24, Try.ntmps24
  go_wp2_with (go_at_call 46; refine (H.out).mono ?_; rintro e w' ⟨rfl, rfl⟩)
  go_ret
  exact ⟨rfl, rfl⟩
theorem Seize {w : World} {p : Option Addr} (h : Un w p) : Calls Try.prog 20 #[.pointer p] w fun e w' => e = .returned (.agg #[.slice none 0 0, .slice none 0 0]) ∧ Below w.heap.size w w' := by
  have H := Lib.hid (isNone (h.step ((Below.refl _ _).alloc (Nat.le_refl _) (.cells #[.slice none 0 0, .slice none 0 0] 39))))
  clear h
  go_enter Try.func20, Try.ntmps20
  go_wp2_with (go_at_call 46; refine (H.out).mono ?_; rintro e w' ⟨rfl, rfl⟩)
  exact bodyPost_ret (v := .agg #[.slice none 0 0, .slice none 0 0]) (by simp [results, Try.results20, go_sem]) rfl ⟨rfl, (Below.refl _ _).alloc (Nat.le_refl _) _⟩
/-! An act, as it is handed over. -/
structure RawAct where
  kind : Int
  at_ : Int
  n : Int
  text : ByteArray
  raw : Bool
  ka : Option Addr
  kn : Nat
  kc : Nat
def RawAct.cells (a : RawAct) : Array Value := #[.int .i64 a.kind, .int .i64 a.at_, .int .i64 a.n, .string a.text, .bool a.raw, .slice a.ka a.kn a.kc]
def RawAct.txt (a : RawAct) : ByteArray := if a.raw then a.text else full4 a.text
/-- THE CONTRACT of text. -/
theorem text (a : RawAct) (w : World) : Calls Try.prog 22 #[.agg a.cells] w fun e w' => e = .returned (.string a.txt) ∧ Below w.heap.size w w' := by
  obtain ⟨kind, at_, n, s, raw, ka, kn, kc⟩ := a
  have HF := Lib.hid (fun W => DkA.Full4 s W)
  simp only [RawAct.cells, RawAct.txt]
  cases raw
  · rw [if_neg Bool.false_ne_true]
    generalize full4 s = t at *
    go_enter Try.func22, Try.ntmps22
    go_wp2_with fail
    refine (HF.out _).mono ?_
    rintro e w1 ⟨rfl, hb1⟩
    have HB := Lib.hid (((Below.refl w.heap.size w).alloc (Nat.le_refl _) _).trans (hb1.mono (by simp)))
    clear hb1
    go_wp2
    go_ret
    exact ⟨rfl, HB.out⟩
  · rw [if_pos rfl]
    go_enter Try.func22, Try.ntmps22
    go_wp2
    go_ret
    exact ⟨rfl, (Below.refl _ _).alloc (Nat.le_refl _) _⟩
end Go.Proofs.Ytofpflkkbkodaaa.DkU
