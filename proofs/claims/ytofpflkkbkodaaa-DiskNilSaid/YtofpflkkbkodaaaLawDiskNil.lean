/- DiskNil: a disk that is none, or that no call made, has nothing, and takes nothing: whatever the act (of at most 20,000 bytes and numbers; else the chapter's example alone). No condition but that the arguments are a Go program's (a text of at most 2^47 bytes). -/
import Derived.Test.YtofpflkkbkodaaaDkO
import Derived.Deep.RegionHeld3
import Derived.Test.YtofpflkkbkodaaaRows
import Derived.WalkKit
import Derived.ProofKit
import Derived.OpenShut
import Derived.ShutString
import Derived.ChangeOld
import Derived.Below
namespace Go.Proofs.Ytofpflkkbkodaaa.diskNil
open Go.ChangeShapes Go.WideShapes Go.ChangeAt Go.RowKit
open Go.ChangeMaps (open_string shut_string)
set_option linter.unusedVariables false
open DkN DkM DkU DkL
theorem one_row (a : RawAct) (w : World) (B : Nat) (h : w.heap[B]? = some (.cells a.cells 33 (0, 0))) : ActRow w (some ⟨B, 0, none⟩) [a] := by
  intro _
  refine ⟨B, 0, rfl, (Array.getElem?_eq_some_iff.1 h).1, fun k hk j v hv => ?_⟩
  obtain rfl : k = 0 := by simpa using hk
  rw [show 0 + 0 * 6 + j = j from by omega]
  exact blk_cell h hv
/-- The act's cells. -/
def Six (w : World) (B : Nat) (kind at_ n : Int) (s : ByteArray) (raw : Bool) (v : Value) : Prop :=
  w.cell? ⟨B, 0, none⟩ = some (.int .i64 kind) ∧ w.cell? ⟨B, 1, none⟩ = some (.int .i64 at_) ∧ w.cell? ⟨B, 2, none⟩ = some (.int .i64 n) ∧ w.cell? ⟨B, 3, none⟩ = some (.string s) ∧ w.cell? ⟨B, 4, none⟩ = some (.bool raw) ∧ w.cell? ⟨B, 5, none⟩ = some v
theorem six_of {w : World} {B : Nat} {kind at_ n : Int} {s : ByteArray} {raw : Bool} {v : Value} (h : w.heap[B]? = some (.cells #[.int .i64 kind, .int .i64 at_, .int .i64 n, .string s, .bool raw, v] 33 (0, 0))) : Six w B kind at_ n s raw v :=
  ⟨blk_cell h rfl, blk_cell h rfl, blk_cell h rfl, blk_cell h rfl, blk_cell h rfl, blk_cell h rfl⟩
set_option maxRecDepth 100000 in
set_option maxHeartbeats 4000000 in
theorem walk_ (a : RawAct) (there : Bool) (w : World) (ht : a.text.size ≤ maxLen) (hk : a.kn ≤ maxLen) :
    Calls Try.prog 7 #[.agg a.cells, .bool there] w fun e w' => e = .returned (.bool true) ∧ Below w.heap.size w w' := by
  have HT := Lib.hid (fun W => DkU.text a W)
  obtain ⟨W1, hW1⟩ : ∃ W1, W1 = (w.alloc (.cells a.cells 33)).alloc (.cells a.cells 33) := ⟨_, rfl⟩
  have hb1 : Below w.heap.size w W1 := by rw [hW1]; exact ((Below.refl _ _).alloc (Nat.le_refl _) _).alloc (by simp) _
  have hk0 : W1.heap[w.heap.size]? = some (.cells a.cells 33 (0, 0)) := by rw [hW1]; exact heap_alloc2_old w _ _
  have hk1 : W1.heap[w.heap.size + 1]? = some (.cells a.cells 33 (0, 0)) := by rw [hW1]; exact heap_alloc2_new w _ _
  have HF := Lib.hid (DkL.Few (some ⟨w.heap.size + 1, 0, none⟩) 1 [a] W1 (one_row a W1 _ hk1) (by simp [maxLen]) (fun x hx => by rw [List.mem_singleton.1 hx]; exact ⟨ht, hk⟩))
  have HB1 := Lib.hid hb1
  have HK0 := Lib.hid hk0
  have HW1 := Lib.hid hW1
  clear hb1 hk0 hk1 hW1 ht hk
  generalize fewB [a] = q at *
  obtain ⟨kind, at_, n, s, raw, ka, kn, kc⟩ := a
  simp only [RawAct.cells] at *
  generalize RawAct.txt ⟨kind, at_, n, s, raw, ka, kn, kc⟩ = t at *
  go_enter Try.func7, Try.ntmps7
  go_wp2_with fail
  rw [← HW1.out]
  refine (HF.out).mono ?_
  rintro e W2 ⟨rfl, hb2⟩
  have HB2 := Lib.hid (HB1.out.trans (hb2.mono HB1.out.size))
  have HK2 := Lib.hid ((hb2.block _ (Array.getElem?_eq_some_iff.1 HK0.out).1).trans HK0.out)
  clear hb2 HB1 HK0 HW1 HF
  cases q
  · go_wp2_with fail
    refine (DkA.alive _).mono ?_
    rintro e W3 ⟨rfl, hb3⟩
    have HB3 := Lib.hid (HB2.out.trans (hb3.mono HB2.out.size))
    clear hb3
    go_wp2
    go_ret
    exact ⟨rfl, HB3.out⟩
  · cases there
    · have HU : Hid (Un W2 none) := Lib.hid (.inl rfl)
      have hBW := (Array.getElem?_eq_some_iff.1 HK2.out).1
      have HUD : Hid (Un W2.drew none) := Lib.hid (HU.out.step (Below.refl _ _).drew)
      obtain ⟨a0, a1, a2, a3, a4, a5⟩ := six_of HK2.out
      go_wp2_with fail
      refine (DkU.Read HU.out _).mono ?_
      rintro e _ ⟨rfl, rfl⟩
      go_wp2_with fail
      go_region_held3 (fun w' => w'.cell? ⟨w.heap.size, 0, none⟩ = some (.int .i64 kind) ∧ w'.cell? ⟨w.heap.size, 1, none⟩ = some (.int .i64 at_) ∧ w'.cell? ⟨w.heap.size, 2, none⟩ = some (.int .i64 n) ∧ w'.cell? ⟨w.heap.size, 3, none⟩ = some (.string s) ∧ w'.cell? ⟨w.heap.size, 4, none⟩ = some (.bool raw) ∧ w'.cell? ⟨w.heap.size, 5, none⟩ = some (.slice ka kn kc))
        (first | exact ⟨a0, a1, a2, a3, a4, a5⟩ | exact hS1)
        (first
          | (go_at_call 22; refine (HT.out _).mono ?_; rintro e W3 ⟨rfl, hb3⟩; have HB3 := Lib.hid hb3; have HK3 := Lib.hid ((hb3.block _ hBW).trans HK2.out); have HU3 := Lib.hid (HUD.out.step hb3); have hS1 := six_of HK3.out; clear hb3)
          | (go_at_call 21; refine (DkU.Write HU3.out _ _).mono ?_; rintro e _ ⟨rfl, rfl⟩)
          | (go_at_call 19; refine (DkU.Flush HU3.out).mono ?_; rintro e _ ⟨rfl, rfl⟩)
          | (go_at_call 26; refine (DkU.Arm HU3.out _).mono ?_; rintro e _ ⟨rfl, rfl⟩)
          | (go_at_call 23; refine (DkU.Crash HU3.out _).mono ?_; rintro e _ ⟨rfl, rfl⟩))
      rename_i hHeld
      have HB3' : Hid (Below w.heap.size w W3) := Lib.hid (HB2.out.drew.trans (HB3.out.mono HB2.out.size))
      have hBW3 := (Array.getElem?_eq_some_iff.1 HK3.out).1
      clear hHeld hS1 a0 a1 a2 a3 a4 a5 HB3 HB2 HU HUD HK2 hBW
      go_wp2_with fail
      refine (DkU.Seize HU3.out).mono ?_
      rintro e W4 ⟨rfl, hb4⟩
      obtain ⟨W5, hW5⟩ : ∃ W5, W5 = W4.alloc (.cells #[.slice none 0 0, .slice none 0 0] 39) := ⟨_, rfl⟩
      have hb5 : Below W3.heap.size W3 W5 := by rw [hW5]; exact hb4.alloc hb4.size _
      have hx5 : W5.heap[W4.heap.size]? = some (.cells #[.slice none 0 0, .slice none 0 0] 39 (0, 0)) := by rw [hW5]; exact heap_alloc_new _ _
      have HX5 := Lib.hid hx5
      have HK5 := Lib.hid ((hb5.block _ hBW3).trans HK3.out)
      have HU5 := Lib.hid (HU3.out.step hb5)
      have HB5 := Lib.hid (HB3'.out.trans (hb5.mono HB3'.out.size))
      have HW5 := Lib.hid hW5
      have hBW5 := (Array.getElem?_eq_some_iff.1 HK5.out).1
      have hBX5 := (Array.getElem?_eq_some_iff.1 HX5.out).1
      have HUD : Hid (Un W5.drew none) := Lib.hid (HU5.out.step (Below.refl _ _).drew)
      clear hb4 hb5 hx5 hW5 HK3 HU3 HB3' hBW3
      go_wp2_with fail
      rw [← HW5.out]
      clear HW5
      generalize W4.heap.size = X at *
      obtain ⟨a0, a1, a2, a3, a4, a5⟩ := six_of HK5.out
      have x0 : W5.cell? ⟨X, 0, none⟩ = some (.slice none 0 0) := blk_cell HX5.out rfl
      have x1 : W5.cell? ⟨X, 1, none⟩ = some (.slice none 0 0) := blk_cell HX5.out rfl
      go_region_held3 (fun w' => (w'.cell? ⟨w.heap.size, 0, none⟩ = some (.int .i64 kind) ∧ w'.cell? ⟨w.heap.size, 1, none⟩ = some (.int .i64 at_) ∧ w'.cell? ⟨w.heap.size, 2, none⟩ = some (.int .i64 n) ∧ w'.cell? ⟨w.heap.size, 3, none⟩ = some (.string s) ∧ w'.cell? ⟨w.heap.size, 4, none⟩ = some (.bool raw) ∧ w'.cell? ⟨w.heap.size, 5, none⟩ = some (.slice ka kn kc)) ∧ w'.cell? ⟨X, 0, none⟩ = some (.slice none 0 0) ∧ w'.cell? ⟨X, 1, none⟩ = some (.slice none 0 0))
        (first | exact ⟨⟨a0, a1, a2, a3, a4, a5⟩, x0, x1⟩ | exact hS7 | exact hS6)
        (first
          | (go_at_call 18; refine (DkU.Boot HUD.out).mono ?_; rintro e _ ⟨rfl, rfl⟩)
          | (go_at_call 22; refine (HT.out _).mono ?_; rintro e W6 ⟨rfl, hb6⟩; have HB6 := Lib.hid hb6; have HK6 := Lib.hid ((hb6.block _ hBW5).trans HK5.out); have HX6 := Lib.hid ((hb6.block _ hBX5).trans HX5.out); have HU6 := Lib.hid (HUD.out.step hb6); have hS6 := And.intro (six_of HK6.out) (And.intro (blk_cell (i := 0) (u := .slice none 0 0) HX6.out rfl) (blk_cell (i := 1) (u := .slice none 0 0) HX6.out rfl)); clear hb6)
          | (go_at_call 27; refine (DkU.Over HU6.out _ _).mono ?_; rintro e _ ⟨rfl, rfl⟩)
          | (go_at_call 28; refine (DkU.Size HU6.out).mono ?_; rintro e _ ⟨rfl, rfl⟩)
          | (go_at_call 24; refine (DkU.Down HU6.out).mono ?_; rintro e _ ⟨rfl, rfl⟩)
          | (go_at_call 9; refine (DkA.alive _).mono ?_; rintro e W7 ⟨rfl, hb7⟩; have HB7 := Lib.hid hb7; have hK7 := (hb7.block _ (Array.getElem?_eq_some_iff.1 HK6.out).1).trans HK6.out; have hX7 := (hb7.block _ (Array.getElem?_eq_some_iff.1 HX6.out).1).trans HX6.out; have hS7 := And.intro (six_of hK7) (And.intro (blk_cell (i := 0) (u := .slice none 0 0) hX7 rfl) (blk_cell (i := 1) (u := .slice none 0 0) hX7 rfl)); clear hb7 hK7 hX7))
      have HBe : Hid (Below w.heap.size w W7) := Lib.hid ((HB5.out.drew.trans (HB6.out.mono HB5.out.size)).trans (HB7.out.mono (Nat.le_trans HB5.out.size HB6.out.size)))
      clear hS7 hS6
      go_wp2
      go_ret
      exact ⟨rfl, HBe.out⟩
    · go_upto_region 6 with (fail)
      obtain ⟨V, hV⟩ : ∃ V, V = W2.alloc (.cells #[.slice none 0 0, .slice none 0 0, .int .i64 0, .bool false] 58) := ⟨_, rfl⟩
      have hbV : Below W2.heap.size W2 V := by rw [hV]; exact (Below.refl _ _).alloc (Nat.le_refl _) _
      have HU : Hid (Un V (some ⟨W2.heap.size, 0, none⟩)) := by rw [hV]; exact Lib.hid (.inr ⟨_, rfl, blk_cell (heap_alloc_new _ _) rfl⟩)
      have HK := Lib.hid ((hbV.block _ (Array.getElem?_eq_some_iff.1 HK2.out).1).trans HK2.out)
      have HB := Lib.hid (HB2.out.trans (hbV.mono HB2.out.size))
      rw [← hV]
      clear hV hbV HK2 HB2
      generalize W2.heap.size = P at *
      clear W2
      have hBW := (Array.getElem?_eq_some_iff.1 HK.out).1
      have HUD : Hid (Un V.drew (some ⟨P, 0, none⟩)) := Lib.hid (HU.out.step (Below.refl _ _).drew)
      obtain ⟨a0, a1, a2, a3, a4, a5⟩ := six_of HK.out
      go_wp2_with fail
      refine (DkU.Read HU.out _).mono ?_
      rintro e _ ⟨rfl, rfl⟩
      go_wp2_with fail
      go_region_held3 (fun w' => w'.cell? ⟨w.heap.size, 0, none⟩ = some (.int .i64 kind) ∧ w'.cell? ⟨w.heap.size, 1, none⟩ = some (.int .i64 at_) ∧ w'.cell? ⟨w.heap.size, 2, none⟩ = some (.int .i64 n) ∧ w'.cell? ⟨w.heap.size, 3, none⟩ = some (.string s) ∧ w'.cell? ⟨w.heap.size, 4, none⟩ = some (.bool raw) ∧ w'.cell? ⟨w.heap.size, 5, none⟩ = some (.slice ka kn kc))
        (first | exact ⟨a0, a1, a2, a3, a4, a5⟩ | exact hS1)
        (first
          | (go_at_call 22; refine (HT.out _).mono ?_; rintro e W3 ⟨rfl, hb3⟩; have HB3 := Lib.hid hb3; have HK3 := Lib.hid ((hb3.block _ hBW).trans HK.out); have HU3 := Lib.hid (HUD.out.step hb3); have hS1 := six_of HK3.out; clear hb3)
          | (go_at_call 21; refine (DkU.Write HU3.out _ _).mono ?_; rintro e _ ⟨rfl, rfl⟩)
          | (go_at_call 19; refine (DkU.Flush HU3.out).mono ?_; rintro e _ ⟨rfl, rfl⟩)
          | (go_at_call 26; refine (DkU.Arm HU3.out _).mono ?_; rintro e _ ⟨rfl, rfl⟩)
          | (go_at_call 23; refine (DkU.Crash HU3.out _).mono ?_; rintro e _ ⟨rfl, rfl⟩))
      rename_i hHeld
      have HB3' : Hid (Below w.heap.size w W3) := Lib.hid (HB.out.drew.trans (HB3.out.mono HB.out.size))
      have hBW3 := (Array.getElem?_eq_some_iff.1 HK3.out).1
      clear hHeld hS1 a0 a1 a2 a3 a4 a5 HB3 HB HU HUD HK hBW
      go_wp2_with fail
      refine (DkU.Seize HU3.out).mono ?_
      rintro e W4 ⟨rfl, hb4⟩
      obtain ⟨W5, hW5⟩ : ∃ W5, W5 = W4.alloc (.cells #[.slice none 0 0, .slice none 0 0] 39) := ⟨_, rfl⟩
      have hb5 : Below W3.heap.size W3 W5 := by rw [hW5]; exact hb4.alloc hb4.size _
      have hx5 : W5.heap[W4.heap.size]? = some (.cells #[.slice none 0 0, .slice none 0 0] 39 (0, 0)) := by rw [hW5]; exact heap_alloc_new _ _
      have HX5 := Lib.hid hx5
      have HK5 := Lib.hid ((hb5.block _ hBW3).trans HK3.out)
      have HU5 := Lib.hid (HU3.out.step hb5)
      have HB5 := Lib.hid (HB3'.out.trans (hb5.mono HB3'.out.size))
      have HW5 := Lib.hid hW5
      have hBW5 := (Array.getElem?_eq_some_iff.1 HK5.out).1
      have hBX5 := (Array.getElem?_eq_some_iff.1 HX5.out).1
      have HUD : Hid (Un W5.drew (some ⟨P, 0, none⟩)) := Lib.hid (HU5.out.step (Below.refl _ _).drew)
      clear hb4 hb5 hx5 hW5 HK3 HU3 HB3' hBW3
      go_wp2_with fail
      rw [← HW5.out]
      clear HW5
      generalize W4.heap.size = X at *
      obtain ⟨a0, a1, a2, a3, a4, a5⟩ := six_of HK5.out
      have x0 : W5.cell? ⟨X, 0, none⟩ = some (.slice none 0 0) := blk_cell HX5.out rfl
      have x1 : W5.cell? ⟨X, 1, none⟩ = some (.slice none 0 0) := blk_cell HX5.out rfl
      go_region_held3 (fun w' => (w'.cell? ⟨w.heap.size, 0, none⟩ = some (.int .i64 kind) ∧ w'.cell? ⟨w.heap.size, 1, none⟩ = some (.int .i64 at_) ∧ w'.cell? ⟨w.heap.size, 2, none⟩ = some (.int .i64 n) ∧ w'.cell? ⟨w.heap.size, 3, none⟩ = some (.string s) ∧ w'.cell? ⟨w.heap.size, 4, none⟩ = some (.bool raw) ∧ w'.cell? ⟨w.heap.size, 5, none⟩ = some (.slice ka kn kc)) ∧ w'.cell? ⟨X, 0, none⟩ = some (.slice none 0 0) ∧ w'.cell? ⟨X, 1, none⟩ = some (.slice none 0 0))
        (first | exact ⟨⟨a0, a1, a2, a3, a4, a5⟩, x0, x1⟩ | exact hS7 | exact hS6)
        (first
          | (go_at_call 18; refine (DkU.Boot HUD.out).mono ?_; rintro e _ ⟨rfl, rfl⟩)
          | (go_at_call 22; refine (HT.out _).mono ?_; rintro e W6 ⟨rfl, hb6⟩; have HB6 := Lib.hid hb6; have HK6 := Lib.hid ((hb6.block _ hBW5).trans HK5.out); have HX6 := Lib.hid ((hb6.block _ hBX5).trans HX5.out); have HU6 := Lib.hid (HUD.out.step hb6); have hS6 := And.intro (six_of HK6.out) (And.intro (blk_cell (i := 0) (u := .slice none 0 0) HX6.out rfl) (blk_cell (i := 1) (u := .slice none 0 0) HX6.out rfl)); clear hb6)
          | (go_at_call 27; refine (DkU.Over HU6.out _ _).mono ?_; rintro e _ ⟨rfl, rfl⟩)
          | (go_at_call 28; refine (DkU.Size HU6.out).mono ?_; rintro e _ ⟨rfl, rfl⟩)
          | (go_at_call 24; refine (DkU.Down HU6.out).mono ?_; rintro e _ ⟨rfl, rfl⟩)
          | (go_at_call 9; refine (DkA.alive _).mono ?_; rintro e W7 ⟨rfl, hb7⟩; have HB7 := Lib.hid hb7; have hK7 := (hb7.block _ (Array.getElem?_eq_some_iff.1 HK6.out).1).trans HK6.out; have hX7 := (hb7.block _ (Array.getElem?_eq_some_iff.1 HX6.out).1).trans HX6.out; have hS7 := And.intro (six_of hK7) (And.intro (blk_cell (i := 0) (u := .slice none 0 0) hX7 rfl) (blk_cell (i := 1) (u := .slice none 0 0) hX7 rfl)); clear hb7 hK7 hX7))
      have HBe : Hid (Below w.heap.size w W7) := Lib.hid ((HB5.out.drew.trans (HB6.out.mono HB5.out.size)).trans (HB7.out.mono (Nat.le_trans HB5.out.size HB6.out.size)))
      clear hS7 hS6
      go_wp2
      go_ret
      exact ⟨rfl, HBe.out⟩
theorem walk (a : RawAct) (there : Bool) (w : World) (w0 : ∃ keep, DkO.Good w a keep) :
    Calls Try.prog 7 #[.agg a.cells, .bool there] w fun e w' => e = .returned (.bool true) ∧ Below w.heap.size w w' := by
  obtain ⟨keep, _, _, h1, h2, _⟩ := w0
  exact walk_ a there w h2 h1
theorem own : ownKnob Try.prog.godebug = none := by kernel_rfl
theorem laidOut : laidOutB Try.prog = true := by kernel_rfl
set_option maxRecDepth 100000 in
theorem lifted (os : Os) (started : os.Started) (H : Type) (enc : TypeId × Value → H) :
    ReturnsInHanded {} Try.checked os 7 .any (Rows.diskNilSpec.pre6 enc Try.prog Try.f7 Rows.diskNilRow.domain false) (Rows.diskNilSpec.post enc Try.prog Try.f7 false true false false) := by
  refine returnsInHanded_of_change (C := Try.checked) own started (by kernel_rfl) Try.func7
    (ChangeSpec.witness6 (enc := enc) (C := Try.checked) false ⟨#[], #[.agg #[.int .i64 0, .int .i64 0, .int .i64 0, .string ByteArray.empty, .bool false, .slice none 0 0], .bool false], []⟩ 8 (by kernel_rfl) (by kernel_rfl) (by kernel_rfl) (by kernel_rfl)) ?_
  intro W base args ds gs before hval0 hW hcnd _
  have hval : ∀ (j : Nat) t v, Try.f7.params[j]? = some t → args[j]? = some v → Value.okWide Try.prog W .any base t v := hval0
  have hW' := hW
  obtain ⟨p, q, hA0, hV, rfl, hfz, hnd⟩ := hW
  have hA : DataW.TrodAll enc Try.prog W 0 (fun _ => true) true Try.f7.params.toList args.toList ds p := hA0
  rw [Try.params7] at hA hval
  obtain ⟨v0, vs0, d0, ds0, p0, q0, hargs, rfl, rfl, h0, r0⟩ := trodAll_cons hA
  obtain ⟨v1, vs1, d1, ds1, p1, q1, rfl, rfl, rfl, h1, r1⟩ := trodAll_cons r0
  obtain ⟨rfl, rfl, rfl⟩ := trodAll_nil r1
  obtain rfl : args = #[v0, v1] := by cases args; simp_all
  obtain ⟨rfl, rfl⟩ := trodVars_none hV
  have k0 := h0
  have lt0 : ∀ x ∈ p0, x.block < W.heap.size := by obtain ⟨m, hm⟩ := k0; exact DataW.trod_lt m _ _ _ hm
  obtain ⟨a0, rfl, w0⟩ := DkO.open_act (hval 0 33 v0 rfl rfl) h0
  obtain ⟨a1, rfl, rfl, rfl⟩ := open_bool Try.underlying4 (hval 1 4 v1 rfl rfl) h1
  clear hA0 hval0
  refine (walk a0 a1 W w0).mono fun e W' ⟨he, bel⟩ => ?_
  subst he
  exact ⟨_, rfl, _, _, _, [], _, [], hW', trodAll_mk1 (shut_bool Try.underlying4 _), (trodAll_cons_mk (Below.trod laidOut (by kernel_rfl) (of_decide_eq_true (by kernel_rfl)) k0 bel lt0) (trodAll_cons_mk (shut_bool Try.underlying4 a1) trodAll_mk0)), rfl, bel.frame _, fun h => by cases h⟩
theorem over : Rows.diskNilRow.holds Try.pinned (OpenSpec.ofChange Rows.diskNilSpec) :=
  OpenClaim.holds_of_wide 7 Try.f7 rfl rfl rfl rfl rfl rfl rfl ⟨rfl, rfl, rfl, rfl, rfl⟩ rfl rfl rfl rfl rfl (by kernel_rfl) Try.func7 (by kernel_rfl)
    (of_decide_eq_true (by kernel_rfl)) (by unfold Func.isWrapper; first | (rw [if_pos (by decide +kernel)]; kernel_rfl) | (rw [if_neg (by decide +kernel)]; exact ⟨rfl, rfl⟩))
    (fun os started H enc _ => lifted os started H enc)
/-- THE STATEMENT, proved. -/
theorem proved : Rows.DiskNilSaid := over
#print axioms proved
end Go.Proofs.Ytofpflkkbkodaaa.diskNil
