/- Open, isFull, isOver and Back's closure: the walks of their texts. The condition: that the least and the most numbers lie in the program's two variables. -/
import Derived.Test.YtmghkacbphdakaaDoorSpaE
namespace Go.Proofs.YtmghkacbphdakaaDoor.SpaF
open Go.RowKit
open GeoN GeoC GeoS SpaN SpaC SpaE
theorem quiet_eq {P : Program} {f : FuncId} {args : Array Value} {w : World} {n : Nat} {v : Value}
    (h : Calls P f args (w.drewN n) fun e w' => e = .returned v ∧ w.drewN n = w') : Calls P f args (w.drewN n) fun e w'' => e = .returned v ∧ ∃ m, w'' = w.drewN m :=
  h.mono fun _ _ ⟨he, hm⟩ => ⟨he, n, hm.symm⟩
set_option maxRecDepth 100000 in
theorem Open_none (s : Option Addr) (w : World) (h : Non w s) :
    Calls Tryd.prog 16 #[.pointer s] w fun e w' => e = .returned (.bool false) ∧ Below w.heap.size w w' := by
  have HN := Lib.hid (fun n => isNone_yes s (w.drewN n) (h.step (below_drewN w n)))
  clear h
  go_enter Tryd.func16, Tryd.ntmps16
  go_wp2_with fail
  go_quiet ((go_at_call 24; exact quiet_eq (HN.out _)))
  go_wp2
  go_ret
  exact ⟨rfl, below_drewN w _⟩
set_option maxRecDepth 100000 in
theorem Open (B : Nat) (b l f u : Int) (w : World) (h : Sp w B b l f u) (hb : (b == 0) = false) (hg : Bnd w) :
    Calls Tryd.prog 16 #[.pointer (some ⟨B, 0, none⟩)] w fun e w' => e = .returned (.bool (opened b l f u)) ∧ Below w.heap.size w w' := by
  have HN := Lib.hid (isNone_no B b l f u w.drew (h.step (Below.refl _ _).drew) hb)
  have HG := Lib.hid (fun W h => geo B b l f u W h)
  have HD := Lib.hid (fun W h => GeoD.Data b l f W h)
  have HO : Hid (opened b l f u = decide (u < data b l f)) := Lib.hid rfl
  have HS := Lib.hid h
  have HB := Lib.hid hg
  obtain ⟨k0, k1, k2, k3⟩ := h.cells
  clear h hb hg
  generalize data b l f = n at *
  generalize opened b l f u = q at *
  go_enter Tryd.func16, Tryd.ntmps16
  go_wp2_with fail
  go_region_held3 (fun w' => w'.cell? ⟨B, 3, none⟩ = some (.int .i64 u))
    (first | exact hS | exact k3)
    (first
      | (go_at_call 24; refine HN.out.mono ?_; rintro e _ ⟨rfl, rfl⟩; have hS := (HS.out.step (Below.refl w.heap.size w).drew).cells.2.2.2)
      | (go_at_call 26; refine (HG.out _ (HS.out.step (Below.refl _ _).drew)).mono ?_; rintro e w1 ⟨rfl, hb1⟩; have B1 := Lib.hid ((Below.refl w.heap.size w).drew.trans hb1); have hS := (HS.out.step B1.out).cells.2.2.2; clear hb1)
      | (go_at_call 18; refine (HD.out _ (HB.out.step B1.out)).mono ?_; rintro e w2 ⟨rfl, hb2⟩; have B2 := Lib.hid (B1.out.trans (hb2.mono B1.out.size)); have hS := (HS.out.step B2.out).cells.2.2.2; clear hb2))
  rw [← HO.out]
  go_wp2
  go_ret
  exact ⟨rfl, B2.out⟩
theorem isFull (B : Nat) (b l f u : Int) (w : World) (h : Sp w B b l f u) (hb : (b == 0) = false) (hg : Bnd w) (hu : u ≤ 9223372036854775807) :
    Calls Tryd.prog 20 #[.pointer (some ⟨B, 0, none⟩)] w fun e w' => e = .returned (.bool (full b l f u)) ∧ Below w.heap.size w w' := by
  have HR := Lib.hid (Room B b l f u w h hb hg hu)
  have HF := Lib.hid (show full b l f u = decide (room b l f u = 0) from rfl)
  clear h hb hg hu
  generalize full b l f u = q at *
  generalize room b l f u = n at *
  go_enter Tryd.func20, Tryd.ntmps20
  by_cases h : n = 0
  · subst h
    go_wp2_with (go_at_call 15; refine HR.out.mono ?_; rintro e w1 ⟨rfl, hb1⟩; have B1 := Lib.hid hb1; clear hb1)
    go_ret
    exact ⟨by rw [HF.out] <;> rfl, B1.out⟩
  · have HH := Lib.hid h
    have hz : (n == 0) = false := by rw [beq_eq_false_iff_ne]; exact h
    clear h
    go_wp2_with (go_at_call 15; refine HR.out.mono ?_; rintro e w1 ⟨rfl, hb1⟩; have B1 := Lib.hid hb1; clear hb1)
    go_ret
    exact ⟨by rw [HF.out, decide_eq_false HH.out] <;> rfl, B1.out⟩
theorem isOver (B : Nat) (b l f u : Int) (w : World) (h : Sp w B b l f u) (hb : (b == 0) = false) (hg : Bnd w) :
    Calls Tryd.prog 21 #[.pointer (some ⟨B, 0, none⟩)] w fun e w' => e = .returned (.bool (!opened b l f u)) ∧ Below w.heap.size w w' := by
  have HR := Lib.hid (Open B b l f u w h hb hg)
  clear h hb hg
  generalize opened b l f u = q at *
  go_enter Tryd.func21, Tryd.ntmps21
  go_wp2_with (go_at_call 16; refine HR.out.mono ?_; rintro e w1 ⟨rfl, hb1⟩; have B1 := Lib.hid hb1; clear hb1)
  go_ret
  exact ⟨rfl, B1.out⟩
/-- What Back's closure answers: is the number none that may be given back to? Its two boxes hold the number and the space. -/
def out (n u : Int) : Bool := decide (n < 0 ∨ u < n)
theorem out_yes {n u : Int} (h : n < 0 ∨ u < n) : out n u = true := decide_eq_true h
theorem out_no {n u : Int} (h0 : ¬ n < 0) (h1 : ¬ u < n) : out n u = false := decide_eq_false (fun h => h.elim h0 h1)
set_option maxRecDepth 100000 in
theorem asked (n : Int) (E X B : Nat) (b l f u : Int) (w : World) (hn : w.cell? ⟨E, 0, none⟩ = some (.int .i64 n)) (hs : w.cell? ⟨X, 0, none⟩ = some (.pointer (some ⟨B, 0, none⟩))) (h : Sp w B b l f u) :
    Calls Tryd.prog 22 #[.pointer (some ⟨E, 0, none⟩), .pointer (some ⟨X, 0, none⟩)] w fun e w' => e = .returned (.bool (out n u)) ∧ Below w.heap.size w w' := by
  obtain ⟨k0, k1, k2, k3⟩ := h.cells
  clear h
  by_cases h0 : n < 0
  · rw [out_yes (.inl h0)]
    have hd : decide (n < 0) = true := decide_eq_true h0
    clear h0
    go_enter Tryd.func22, Tryd.ntmps22
    go_wp2_with fail
    go_quiet (fail)
    go_wp2
    go_ret
    exact ⟨rfl, below_drewN w _⟩
  · have hd : decide (n < 0) = false := decide_eq_false h0
    by_cases h1 : u < n
    · rw [out_yes (.inr h1)]
      have hd1 : decide (u < n) = true := decide_eq_true h1
      clear h0 h1
      go_enter Tryd.func22, Tryd.ntmps22
      go_wp2_with fail
      go_quiet (fail)
      go_wp2
      go_ret
      exact ⟨rfl, below_drewN w _⟩
    · rw [out_no h0 h1]
      have hd1 : decide (u < n) = false := decide_eq_false h1
      clear h0 h1
      go_enter Tryd.func22, Tryd.ntmps22
      go_wp2_with fail
      go_quiet (fail)
      go_wp2
      go_ret
      exact ⟨rfl, below_drewN w _⟩
end Go.Proofs.YtmghkacbphdakaaDoor.SpaF
