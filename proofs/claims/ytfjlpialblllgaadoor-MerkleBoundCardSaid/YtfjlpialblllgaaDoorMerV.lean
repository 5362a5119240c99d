/- The program's package merkle: Up, Check: contracts. No conditions but those that each lemma names. -/
import Derived.Test.YtfjlpialblllgaaDoorMerU
namespace Go.Proofs.YtfjlpialblllgaaDoor.MerV
open Go.RowKit Go.Shelf STurn SSum MerG MerQ MerN MerM MerC MerS MerB MerA MerP MerE MerK MerR MerU
section
variable (a : Option Addr) (n i : Int) (x : L) (c : Nat) (p : List L) (w : World) (h : Strs w w.heap.size a p.length p) (hp : p.length ≤ 1000000) (hx : x.length ≤ 9223372036854775807) (hl : ∀ l ∈ p, l.length ≤ 9223372036854775807) (hr : Rds w)
include h hp hx hl hr
/-- THE CONTRACT of up. -/
theorem up_any : Calls Tryd.prog 32 #[sv, .int .i64 n, .int .i64 i, str x, .slice a p.length c] w fun e w' => e = .returned (.tuple #[str (upR n i x p).1, .int .i64 ((upR n i x p).2 : Nat)]) ∧ Below w.heap.size w w' := by
  unfold upR
  cases hm : mayBe n i with
  | false => exact (up_arg a n i x p.length c w hm).mono fun e w' ⟨h1, h2⟩ => ⟨h1, h2 ▸ Below.refl _ _⟩
  | true =>
    have hm' := hm
    unfold mayBe at hm'
    rw [Bool.and_eq_true, decide_eq_true_eq, decide_eq_true_eq] at hm'
    obtain ⟨k, rfl⟩ : ∃ k : Nat, n = (k : Int) := ⟨n.toNat, by omega⟩
    obtain ⟨j, rfl⟩ : ∃ j : Nat, i = (j : Int) := ⟨i.toNat, by omega⟩
    simp only [Int.toNat_natCast, Bool.true_eq_false, if_false]
    cases hf : fitB k j x p with
    | true => exact up_yes a k j (by omega) (by omega) x c p w h hr hf
    | false => exact up_proof a k j (by omega) (by omega) x c p w h hp hx hl hf
theorem Up : Calls Tryd.prog 19 #[.int .i64 n, .int .i64 i, str x, .slice a p.length c] w fun e w' => e = .returned (.tuple #[str (upR n i x p).1, .int .i64 ((upR n i x p).2 : Nat)]) ∧ Below w.heap.size w w' := by
  have HU := Lib.hid (up_any a n i x c p w h hp hx hl hr)
  clear h hp hx hl hr
  generalize upR n i x p = r at *
  go_enter Tryd.func19, Tryd.ntmps19
  go_wp2_with (go_at_call 32; refine HU.out.mono ?_; rintro e w' ⟨rfl, hb⟩; have HB := Lib.hid hb; clear hb)
  go_ret2
  exact ⟨rfl, HB.out⟩
end
/-- What check answers. -/
def checkB (r : L) (n i : Int) (x : L) (p : List L) : Bool := decide ((upR n i x p).2 = 0) && decide ((upR n i x p).1 = r)
section
variable (r : L) (a : Option Addr) (n i : Int) (x : L) (c : Nat) (p : List L) (w : World) (h : Strs w w.heap.size a p.length p) (hp : p.length ≤ 1000000) (hx : x.length ≤ 9223372036854775807) (hl : ∀ l ∈ p, l.length ≤ 9223372036854775807) (hr : Rds w)
include h hp hx hl hr
/-- THE CONTRACT of check. -/
theorem check_any : Calls Tryd.prog 33 #[sv, str r, .int .i64 n, .int .i64 i, str x, .slice a p.length c] w fun e w' => e = .returned (.bool (checkB r n i x p)) ∧ Below w.heap.size w w' := by
  have HU := Lib.hid (up_any a n i x c p w h hp hx hl hr)
  clear h hp hx hl hr
  unfold checkB
  generalize upR n i x p = t at *
  obtain ⟨u, v⟩ := t
  dsimp only at HU ⊢
  by_cases hv : v = 0
  · subst hv
    by_cases hu : u = r
    · subst hu
      rw [decide_eq_true rfl, decide_eq_true rfl]
      have he : (u == u) = true := by simp
      go_enter Tryd.func33, Tryd.ntmps33
      go_wp2_with (go_at_call 32; refine HU.out.mono ?_; rintro e w' ⟨rfl, hb⟩; have HB := Lib.hid hb; clear hb)
      go_ret
      exact ⟨rfl, HB.out⟩
    · rw [decide_eq_true rfl, decide_eq_false hu]
      have he : (u == r) = false := by simp [hu]
      clear hu
      go_enter Tryd.func33, Tryd.ntmps33
      go_wp2_with (go_at_call 32; refine HU.out.mono ?_; rintro e w' ⟨rfl, hb⟩; have HB := Lib.hid hb; clear hb)
      go_ret
      exact ⟨rfl, HB.out⟩
  · rw [decide_eq_false hv]
    have he : ((v : Int) == 0) = false := by rw [beq_eq_false_iff_ne]; omega
    clear hv
    go_enter Tryd.func33, Tryd.ntmps33
    go_wp2_with (go_at_call 32; refine HU.out.mono ?_; rintro e w' ⟨rfl, hb⟩; have HB := Lib.hid hb; clear hb)
    go_ret
    exact ⟨rfl, HB.out⟩
theorem Check : Calls Tryd.prog 20 #[str r, .int .i64 n, .int .i64 i, str x, .slice a p.length c] w fun e w' => e = .returned (.bool (checkB r n i x p)) ∧ Below w.heap.size w w' := by
  have HU := Lib.hid (check_any r a n i x c p w h hp hx hl hr)
  clear h hp hx hl hr
  generalize checkB r n i x p = t at *
  go_enter Tryd.func20, Tryd.ntmps20
  go_wp2_with (go_at_call 33; refine HU.out.mono ?_; rintro e w' ⟨rfl, hb⟩; have HB := Lib.hid hb; clear hb)
  go_ret
  exact ⟨rfl, HB.out⟩
end
end Go.Proofs.YtfjlpialblllgaaDoor.MerV
