/- MerkleBound: at any leaves (at most 70 texts, of at most 5,000 bytes together; else: the chapter's example alone, as the statement has it) and any two numbers: a path that leads a leaf to the root at one place leads it there at another one only if that one has it, too, or two unlike texts are told that have one sum. The condition: the rounds' numbers lie in the program's variable (the card ties it to the program's text). -/
import Derived.Test.YtfjlpialblllgaaDoorMerW
import Derived.Test.YtfjlpialblllgaaDoorMerF
import Derived.SliceStrings
import Derived.Deep.RegionHeld3
import Derived.StillTailTactics
import Derived.Test.YtfjlpialblllgaaDoorRows
import Derived.Test.YtfjlpialblllgaaDoorTie
import Derived.Test.YtfjlpialblllgaaDoorCards
import Derived.Test.YtfjlpialblllgaaDoorSLaid
import Derived.WalkKit
import Derived.ProofKit
import Derived.OpenShut
import Derived.ShutString
import Derived.ChangeOld
import Derived.Below
import Derived.LaidMore
import Derived.SevenTiedAt
import Derived.Stop.Joined
namespace Go.Proofs.YtfjlpialblllgaaDoor.merkleBound
open Go.ChangeShapes Go.WideShapes Go.ChangeAt Go.RowKit
open Go.ChangeMaps (open_string shut_string)
set_option linter.unusedVariables false
open STurn SSum MerQ MerN MerM MerC MerR MerU MerV MerX MerZ MerW
section
variable (i j : Int) (a : Option Addr) (n c : Nat) (ls : List L) (w : World) (h : Strs w w.heap.size a n ls) (hn : n ≤ 9223372036854775807) (hr : Rds w)
include h hn hr
theorem out (hf : fewB ls = false ∨ j < 0 ∨ (n : Int) ≤ j) :
    Calls Tryd.prog 7 #[.slice a n c, .int .i64 i, .int .i64 j] w fun e w' => e = .returned (.bool true) ∧ Below w.heap.size w w' := by
  have F1 := Lib.hid (few a n c ls w h hn)
  have HA := Lib.hid (alive w hr)
  have hn' : n ≤ 9223372036854775807 := hn
  cases hb : fewB ls with
  | false =>
    rw [hb] at F1
    clear h hr hf hn hb
    go_enter Tryd.func7, Tryd.ntmps7
    go_wp2_with (first | (go_at_call 8; refine F1.out.mono ?_; rintro e w' ⟨rfl, rfl⟩) | (go_at_call 9; refine HA.out.mono ?_; rintro e w' ⟨rfl, hb⟩; have HB := Lib.hid hb; clear hb))
    go_ret
    exact ⟨rfl, HB.out⟩
  | true =>
    rw [hb] at F1 hf
    have hf := hf.resolve_left (by simp)
    clear h hr hn hb
    by_cases h1 : j < 0
    · clear hf
      go_enter Tryd.func7, Tryd.ntmps7
      go_wp2_with (first | (go_at_call 8; refine F1.out.mono ?_; rintro e w' ⟨rfl, rfl⟩) | (go_at_call 9; refine HA.out.mono ?_; rintro e w' ⟨rfl, hb⟩; have HB := Lib.hid hb; clear hb))
      go_ret
      exact ⟨rfl, HB.out⟩
    · have h2 := hf.resolve_left h1
      clear hf
      go_enter Tryd.func7, Tryd.ntmps7
      go_wp2_with (first | (go_at_call 8; refine F1.out.mono ?_; rintro e w' ⟨rfl, rfl⟩) | (go_at_call 9; refine HA.out.mono ?_; rintro e w' ⟨rfl, hb⟩; have HB := Lib.hid hb; clear hb))
      go_ret
      exact ⟨rfl, HB.out⟩
end
theorem none_ (i : Int) (j : Nat) (a : Option Addr) (c : Nat) (ls : List L) (w : World) (h : Strs w w.heap.size a ls.length ls) (hl : ∀ l ∈ ls, l.length ≤ 9223372036854775807) (hr : Rds w) (hf : fewB ls = true) (hj : j < ls.length) (hno : (all32 ls && decide (0 ≤ i ∧ i < (ls.length : Int))) = false) :
    Calls Tryd.prog 7 #[.slice a ls.length c, .int .i64 i, .int .i64 (j : Int)] w fun e w' => e = .returned (.bool true) ∧ Below w.heap.size w w' := by
  have h70 := few_len hf
  have HF := Lib.hid (few a ls.length c ls w h (by omega))
  rw [hf] at HF
  have HRo := Lib.hid (Root a ls.length c ls w h (by omega) hl hr)
  have HPa := Lib.hid (fun W (hb : Below w.heap.size w W) => (Path a c ls i W ((h.below hb).more hb.size) (by omega) hl (hr.step hb)).mono (R' := fun e w' => e = .returned (.tuple #[.slice none 0 0, .int .i64 2]) ∧ W = w') (fun e w' hp => by unfold PathAns at hp; rwa [if_neg (by rw [hno]; simp)] at hp))
  have HA := Lib.hid (fun W (hb : Below w.heap.size w W) => alive W (hr.step hb))
  generalize hrr : rootR ls = r at *
  obtain ⟨r1, r2⟩ := r
  have hr2 : r2 = 0 ∨ r2 = 2 := by
    unfold rootR at hrr
    split at hrr <;> cases hrr <;> simp
  dsimp only at HRo
  have q1 : ¬ (j : Int) < 0 := by omega
  have q2 : (j : Int) < (ls.length : Int) := by omega
  clear h hr hf hno hl hrr h70 hj
  rcases hr2 with rfl | rfl
  all_goals
    go_enter Tryd.func7, Tryd.ntmps7
    go_wp2_with (first
      | (go_at_call 8; refine HF.out.mono ?_; rintro e w' ⟨rfl, rfl⟩)
      | (go_at_call 10; refine HRo.out.mono ?_; rintro e w1 ⟨rfl, hb⟩; have B1 := Lib.hid hb; clear hb)
      | (go_at_call 11; refine (HPa.out _ B1.out).mono ?_; rintro e w2 ⟨rfl, rfl⟩)
      | (go_at_call 9; refine (HA.out _ B1.out).mono ?_; rintro e w3 ⟨rfl, hb⟩; have B3 := Lib.hid (B1.out.trans (hb.mono B1.out.size)); clear hb))
    go_ret
    exact ⟨rfl, B3.out⟩
/-- What Clash answers, by what it is asked. -/
def ClashOr (w : World) (g : Bool) (e : Ending) (w' : World) : Prop :=
  (g = true → ∃ u v, e = .returned (.tuple #[str u, str v, .bool true]) ∧ (u ≠ v ∧ sum u = sum v ∧ u.length = 65 ∧ v.length = 65) ∧ Below w.heap.size w w') ∧ (g = false → e = .returned (.tuple #[str [], str [], .bool false]) ∧ Below w.heap.size w w')
theorem clash_or {w : World} {ls : List L} {i : Int} {x : L} {p : List L} {e : Ending} {w' : World} (h : ClashAns w ls i x p e w') : ClashOr w (clashB ls i x p) e w' := by
  unfold ClashAns at h
  cases hg : clashB ls i x p with
  | true => rw [if_pos hg] at h; exact ⟨fun _ => h, fun e => (by cases e)⟩
  | false => rw [if_neg (by rw [hg]; simp)] at h; exact ⟨fun e => (by cases e), fun _ => h⟩
set_option maxRecDepth 100000 in
set_option maxHeartbeats 4000000 in
theorem some_ (k j : Nat) (a : Option Addr) (c : Nat) (ls : List L) (w : World) (h : Strs w w.heap.size a ls.length ls) (hr : Rds w) (hf : fewB ls = true) (hall : all32 ls = true) (hk : k < ls.length) (hj : j < ls.length) :
    Calls Tryd.prog 7 #[.slice a ls.length c, .int .i64 (k : Int), .int .i64 (j : Int)] w fun e w' => e = .returned (.bool true) ∧ Below w.heap.size w w' := by
  have h70 := few_len hf
  have hl : ∀ l ∈ ls, l.length ≤ 9223372036854775807 := fun l hl => by rw [all32_at hall l hl]; omega
  have HF := Lib.hid (few a ls.length c ls w h (by omega))
  rw [hf] at HF
  have HRo := Lib.hid (Root a ls.length c ls w h (by omega) hl hr)
  simp only [rootR, hall, if_true] at HRo
  have HPa := Lib.hid (fun W (hb : Below w.heap.size w W) => (Path a c ls (k : Int) W ((h.below hb).more hb.size) (by omega) hl (hr.step hb)).mono (R' := PathOk W (pathN nd ls k)) (fun e w' hp => by
    unfold PathAns at hp
    rw [if_pos (by rw [hall, Bool.true_and, decide_eq_true_eq]; omega)] at hp
    exact hp))
  have HA := Lib.hid (fun W (hb : Below w.heap.size w W) => alive W (hr.step hb))
  have hp32 := path_32 (k := k) hall
  have hyl : (ls.getD k []).length = 32 := all32_at hall _ (by rw [getD_at _ _ hk]; exact List.getElem_mem hk)
  have hpn : (pathN nd ls k).length ≤ 1000000 := by rw [pathN_length nd hk]; exact Nat.le_trans (long_le _ _ _) (by omega)
  have HCk := Lib.hid (fun a' c' W (hb : Below w.heap.size w W) (hs : Strs W W.heap.size a' (pathN nd ls k).length (pathN nd ls k)) => Check (MerN.root nd (sum []) ls) a' (ls.length : Int) (j : Int) (ls.getD k []) c' (pathN nd ls k) W hs hpn (by omega) (fun l hl => by rw [hp32 l hl]; omega) (hr.step hb))
  have HCl := Lib.hid (fun a' c' W (hb : Below w.heap.size w W) (hs : Strs W W.heap.size a' (pathN nd ls k).length (pathN nd ls k)) => Clash a ls c (j : Int) (ls.getD k []) a' (pathN nd ls k) c' W ((h.below hb).more hb.size) (by omega) hl hs hpn (by omega) (fun l hl => by rw [hp32 l hl]; omega) (hr.step hb) |>.mono (R' := ClashOr W (clashB ls (j : Int) (ls.getD k []) (pathN nd ls k))) (fun e w' hp => clash_or hp))
  have HSm := Lib.hid (fun u W (hu : u.length = 65) (hb : Below w.heap.size w W) => summed_one u (by omega) W (hr.step hb))
  have HRw := Lib.hid (fun (u : L) B W (hu : u.length = 65) (hb : Below w.heap.size w W) (hB : W.heap[B]? = some (.cells #[str u] 9 (0, 0))) => (show Calls Tryd.prog 13 #[.slice (some ⟨B, 0, none⟩) 1 1] W fun r w' => r = .returned (str (sum u)) ∧ Below W.heap.size W w' from by
    have := SSum.sums (some ⟨B, 0, none⟩) 1 1 [u] W ⟨rfl, fun _ => ⟨B, 0, rfl, (Array.getElem?_eq_some_iff.1 hB).1, fun i hi => by
      obtain rfl : i = 0 := by omega
      exact blk_cell hB rfl⟩⟩ (hr.step hb) (by simp; omega) (by omega)
    rwa [show [u].flatten = u by simp] at this))
  obtain ⟨q, off, rfl, hq, hc⟩ := h.2 (by omega)
  have hck := hc k hk
  have hcj := hc j hj
  have HCel := Lib.hid (fun W (hb : Below w.heap.size w W) => (⟨(hb.cell (p := ⟨q, off + k, none⟩) hq).trans hck, (hb.cell (p := ⟨q, off + j, none⟩) hq).trans hcj⟩ : W.cell? ⟨q, off + k, none⟩ = some (str (ls.getD k [])) ∧ W.cell? ⟨q, off + j, none⟩ = some (str (ls.getD j []))))
  have q0 : (0 : Int) ≤ (k : Int) := by omega
  have q1 : (k : Int) < (ls.length : Int) := by omega
  have q2 : (0 : Int) ≤ (j : Int) := by omega
  have q3 : (j : Int) < (ls.length : Int) := by omega
  have hn70 : ls.length ≤ 70 := h70
  have hclB : clashB ls (j : Int) (ls.getD k []) (pathN nd ls k) = (checkB (MerN.root nd (sum []) ls) (ls.length : Int) (j : Int) (ls.getD k []) (pathN nd ls k) && !decide (ls.getD k [] = ls.getD j [])) := by
    unfold clashB
    rw [hall, Bool.true_and, Int.toNat_natCast]
  rw [hclB] at HCl
  generalize checkB (MerN.root nd (sum []) ls) (ls.length : Int) (j : Int) (ls.getD k []) (pathN nd ls k) = t at *
  generalize MerN.root nd (sum []) ls = rt at *
  generalize ls.getD k [] = x at *
  generalize ls.getD j [] = y at *
  generalize pathN nd ls k = ps at *
  clear h hr hf hall hl hp32 hyl hc hck hcj hq hk hj h70 hclB
  cases t with
  | false =>
    clear HCl
    go_enter Tryd.func7, Tryd.ntmps7
    go_wp2_with (first
      | (go_at_call 8; refine HF.out.mono ?_; rintro e w' ⟨rfl, rfl⟩)
      | (go_at_call 10; refine HRo.out.mono ?_; rintro e w1 ⟨rfl, hb⟩; have B1 := Lib.hid hb; clear hb)
      | (go_at_call 11; refine (HPa.out _ B1.out).mono ?_; rintro e w2 ⟨a', c', rfl, hs, hb⟩; have B2 := Lib.hid (B1.out.trans (hb.mono B1.out.size)); have HS2 := Lib.hid hs; have cx := (HCel.out _ B2.out).1; clear hb hs)
      | (go_at_call 20; refine (HCk.out _ _ _ B2.out HS2.out).mono ?_; rintro e w3 ⟨rfl, hb⟩; have B3 := Lib.hid (B2.out.trans (hb.mono B2.out.size)); clear hb)
      | (go_at_call 9; refine (HA.out _ B3.out).mono ?_; rintro e w4 ⟨rfl, hb⟩; have B4 := Lib.hid (B3.out.trans (hb.mono B3.out.size)); clear hb))
    go_ret
    exact ⟨rfl, B4.out⟩
  | true =>
    by_cases hxy : x = y
    · subst hxy
      simp only [decide_true, Bool.not_true, Bool.and_false] at HCl
      have HCf := Lib.hid (fun a' c' W hb hs => (HCl.out a' c' W hb hs).mono (R' := fun e w' => e = .returned (.tuple #[str [], str [], .bool false]) ∧ Below W.heap.size W w') (fun e w' hp => hp.2 rfl))
      clear HCl
      have e1 : (x == x) = true := beq_self_eq_true _
      go_enter Tryd.func7, Tryd.ntmps7
      go_wp2_with (first
        | (go_at_call 8; refine HF.out.mono ?_; rintro e w' ⟨rfl, rfl⟩)
        | (go_at_call 10; refine HRo.out.mono ?_; rintro e w1 ⟨rfl, hb⟩; have B1 := Lib.hid hb; clear hb)
        | (go_at_call 11; refine (HPa.out _ B1.out).mono ?_; rintro e w2 ⟨a', c', rfl, hs, hb⟩; have B2 := Lib.hid (B1.out.trans (hb.mono B1.out.size)); have HS2 := Lib.hid hs; have cx := (HCel.out _ B2.out).1; clear hb hs)
        | (go_at_call 20; refine (HCk.out _ _ _ B2.out HS2.out).mono ?_; rintro e w3 ⟨rfl, hb⟩; have B3 := Lib.hid (B2.out.trans (hb.mono B2.out.size)); have HS3 := Lib.hid ((HS2.out.below hb).more hb.size); have cx3 := (HCel.out _ B3.out).1; clear hb)
        | (go_at_call 23; refine (HCf.out _ _ _ B3.out HS3.out).mono ?_; rintro e w4 ⟨rfl, hb⟩; have B4 := Lib.hid (B3.out.trans (hb.mono B3.out.size)); clear hb))
      have hS0 := HCel.out _ (B4.out.drew)
      obtain ⟨c0, c1⟩ := hS0
      have BD := Lib.hid B4.out.drew
      clear cx cx3
      refine wp_region_still_tail 27 (by kernel_rfl) (by kernel_rfl) ?_
      simp only [List.take_succ_cons, List.take_zero, List.drop_succ_cons, List.drop_zero]
      change wpStill _ _ w4.drew (fun a' => wpList _ _ _ _ a' w4.drew) _ _
      generalize w4.drew = WD at *
      refine MerF.Box.use ?_
      refine MerF.box_step (fun K hK => ?_)
      go_simp
      refine hK _ ?_
      clear hK K
      refine MerF.box_step (fun K hK => ?_)
      go_simp
      refine hK _ ?_
      clear hK K
      refine MerF.box_step (fun K hK => ?_)
      go_simp
      refine hK _ ?_
      clear hK K
      refine MerF.box_step (fun K hK => ?_)
      go_simp
      refine hK _ ?_
      clear hK K
      refine MerF.box_step (fun K hK => ?_)
      go_simp
      refine hK _ ?_
      clear hK K
      refine MerF.box_step (fun K hK => ?_)
      go_simp
      refine hK _ ?_
      clear hK K
      refine MerF.box_step (fun K hK => ?_)
      go_simp
      refine hK _ ?_
      clear hK K
      refine MerF.box_step (fun K hK => ?_)
      go_simp
      refine hK _ ?_
      clear hK K
      refine MerF.box_step (fun K hK => ?_)
      go_simp
      refine hK _ ?_
      clear hK K
      refine MerF.box_step (fun K hK => ?_)
      go_simp
      refine hK _ ?_
      clear hK K
      refine MerF.box_skip (by rfl) ?_
      simp only [Act.put, List.setIfInBounds_toArray, List.set_cons_zero, List.set_cons_succ]
      refine MerF.box_skip (by rfl) ?_
      simp only [Act.put, List.setIfInBounds_toArray, List.set_cons_zero, List.set_cons_succ]
      refine MerF.box_skip (by rfl) ?_
      simp only [Act.put, List.setIfInBounds_toArray, List.set_cons_zero, List.set_cons_succ]
      refine MerF.box_skip (by rfl) ?_
      simp only [Act.put, List.setIfInBounds_toArray, List.set_cons_zero, List.set_cons_succ]
      refine MerF.box_skip (by rfl) ?_
      simp only [Act.put, List.setIfInBounds_toArray, List.set_cons_zero, List.set_cons_succ]
      refine MerF.box_skip (by rfl) ?_
      simp only [Act.put, List.setIfInBounds_toArray, List.set_cons_zero, List.set_cons_succ]
      refine MerF.box_skip (by rfl) ?_
      simp only [Act.put, List.setIfInBounds_toArray, List.set_cons_zero, List.set_cons_succ]
      refine MerF.box_skip (by rfl) ?_
      simp only [Act.put, List.setIfInBounds_toArray, List.set_cons_zero, List.set_cons_succ]
      refine MerF.box_skip (by rfl) ?_
      simp only [Act.put, List.setIfInBounds_toArray, List.set_cons_zero, List.set_cons_succ]
      refine MerF.box_skip (by rfl) ?_
      simp only [Act.put, List.setIfInBounds_toArray, List.set_cons_zero, List.set_cons_succ]
      refine MerF.box_skip (by rfl) ?_
      simp only [Act.put, List.setIfInBounds_toArray, List.set_cons_zero, List.set_cons_succ]
      refine MerF.box_skip (by rfl) ?_
      simp only [Act.put, List.setIfInBounds_toArray, List.set_cons_zero, List.set_cons_succ]
      refine MerF.box_skip (by rfl) ?_
      simp only [Act.put, List.setIfInBounds_toArray, List.set_cons_zero, List.set_cons_succ]
      refine MerF.box_skip (by rfl) ?_
      simp only [Act.put, List.setIfInBounds_toArray, List.set_cons_zero, List.set_cons_succ]
      refine MerF.box_skip (by rfl) ?_
      simp only [Act.put, List.setIfInBounds_toArray, List.set_cons_zero, List.set_cons_succ]
      refine MerF.box_step (fun K hK => ?_)
      go_simp
      refine hK _ ?_
      clear hK K
      refine MerF.box_step (fun K hK => ?_)
      go_simp
      refine hK _ ?_
      clear hK K
      refine MerF.box_nil ?_
      go_wp2_with (go_at_call 9; refine (HA.out _ BD.out).mono ?_; rintro e w5 ⟨rfl, hb⟩; have B5 := Lib.hid (BD.out.trans (hb.mono BD.out.size)); clear hb)
      go_ret
      exact ⟨rfl, B5.out⟩
    · have e1 : (x == y) = false := beq_eq_false_iff_ne.2 hxy
      simp only [decide_eq_false hxy, Bool.not_false, Bool.and_true] at HCl
      have HCt := Lib.hid (fun a' c' W hb hs => (HCl.out a' c' W hb hs).mono (R' := fun e w' => ∃ u v, e = .returned (.tuple #[str u, str v, .bool true]) ∧ (u ≠ v ∧ sum u = sum v ∧ u.length = 65 ∧ v.length = 65) ∧ Below W.heap.size W w') (fun e w' hp => hp.1 rfl))
      clear HCl hxy
      go_enter Tryd.func7, Tryd.ntmps7
      go_upto_region 8 with (first
        | (go_at_call 8; refine HF.out.mono ?_; rintro e w' ⟨rfl, rfl⟩)
        | (go_at_call 10; refine HRo.out.mono ?_; rintro e w1 ⟨rfl, hb⟩; have B1 := Lib.hid hb; clear hb)
        | (go_at_call 11; refine (HPa.out _ B1.out).mono ?_; rintro e w2 ⟨a', c', rfl, hs, hb⟩; have B2 := Lib.hid (B1.out.trans (hb.mono B1.out.size)); have HS2 := Lib.hid hs; have cx := (HCel.out _ B2.out).1; clear hb hs)
        | (go_at_call 20; refine (HCk.out _ _ _ B2.out HS2.out).mono ?_; rintro e w3 ⟨rfl, hb⟩; have B3 := Lib.hid (B2.out.trans (hb.mono B2.out.size)); have HS3 := Lib.hid ((HS2.out.below hb).more hb.size); have cx3 := (HCel.out _ B3.out).1; clear hb)
        | (go_at_call 23; refine (HCt.out _ _ _ B3.out HS3.out).mono ?_; rintro e w4 ⟨u, v, rfl, huv, hb⟩; have B4 := Lib.hid (B3.out.trans (hb.mono B3.out.size)); have HUV := Lib.hid huv; clear hb huv))
      clear cx cx3
      obtain ⟨hu1, hu2, hu3, hu4⟩ := HUV.out
      have euv : (u == v) = false := beq_eq_false_iff_ne.2 hu1
      have ess : (sum u == sum v) = true := by rw [hu2]; exact beq_self_eq_true _
      have hB1 : ∀ o, Below w4.heap.size w4 (w4.alloc o).drew := fun o => ((Below.refl _ w4).alloc (Nat.le_refl _) o).drew
      have hB2 : ∀ o o', Below w4.heap.size w4 ((w4.alloc o).alloc o').drew := fun o o' => (((Below.refl _ w4).alloc (Nat.le_refl _) o).alloc (by simp only [World.size_alloc]; omega) o').drew
      have hX1 : ∀ o : Obj, ((w4.alloc o).drew).heap[w4.heap.size]? = some o := fun o => World.alloc_heap_new w4 o
      have hX2 : ∀ o o' : Obj, (((w4.alloc o).alloc o').drew).heap[w4.heap.size]? = some o := fun o o' => (Below.heap_alloc _ _ _ (by simp only [World.size_alloc]; omega)).trans (World.alloc_heap_new w4 o)
      have hX3 : ∀ o o' : Obj, (((w4.alloc o).alloc o').drew).heap[w4.heap.size + 1]? = some o' := fun o o' => by
        have := World.alloc_heap_new (w4.alloc o) o'
        rwa [World.size_alloc] at this
      have T4 := fun W (hb : Below w4.heap.size w4 W) => B4.out.trans (hb.mono B4.out.size)
      have K1 := Lib.hid (fun o => HCel.out _ (T4 _ (hB1 o)))
      have K2 := Lib.hid (fun o o' => HCel.out _ (T4 _ (hB2 o o')))
      have A1 := Lib.hid (HRw.out u w4.heap.size _ hu3 (T4 _ (hB1 (.cells #[str u] 9))) (hX1 _))
      have A2 := Lib.hid (HRw.out u w4.heap.size _ hu3 (T4 _ (hB2 (.cells #[str u] 9) (.cells #[str v] 9))) (hX2 _ _))
      have A3 := Lib.hid (HRw.out u (w4.heap.size + 1) _ hu3 (T4 _ (hB2 (.cells #[str v] 9) (.cells #[str u] 9))) (hX3 _ _))
      have L1 := Lib.hid (fun V (hb : Below ((w4.alloc (.cells #[str u] 9)).drew).heap.size ((w4.alloc (.cells #[str u] 9)).drew) V) => (T4 _ (hB1 _)).trans (hb.mono (T4 _ (hB1 _)).size))
      have L2 := Lib.hid (fun V (hb : Below (((w4.alloc (.cells #[str u] 9)).alloc (.cells #[str v] 9)).drew).heap.size (((w4.alloc (.cells #[str u] 9)).alloc (.cells #[str v] 9)).drew) V) => (⟨(T4 _ (hB2 _ _)).trans (hb.mono (T4 _ (hB2 _ _)).size), (hb.block (w4.heap.size + 1) (Array.getElem?_eq_some_iff.1 (hX3 _ _)).1).trans (hX3 _ _)⟩ : Below w.heap.size w V ∧ V.heap[w4.heap.size + 1]? = some (.cells #[str v] 9 (0, 0))))
      have L3 := Lib.hid (fun V (hb : Below (((w4.alloc (.cells #[str v] 9)).alloc (.cells #[str u] 9)).drew).heap.size (((w4.alloc (.cells #[str v] 9)).alloc (.cells #[str u] 9)).drew) V) => (⟨(T4 _ (hB2 _ _)).trans (hb.mono (T4 _ (hB2 _ _)).size), (hb.block w4.heap.size (Array.getElem?_eq_some_iff.1 (hX2 _ _)).1).trans (hX2 _ _)⟩ : Below w.heap.size w V ∧ V.heap[w4.heap.size]? = some (.cells #[str v] 9 (0, 0))))
      have HV := Lib.hid (fun B V hb hB => HRw.out v B V hu4 hb hB)
      have HVn := Lib.hid (fun V hb => HSm.out v V hu4 hb)
      have hS0 := HCel.out _ B4.out.drew
      have G1 : Hid True := Lib.hid trivial
      clear hB1 hB2 hX1 hX2 hX3 T4 hu1 hu2 hu3 hu4 HUV HRw HSm
      go_region_held3 (fun w' => w'.cell? ⟨q, off + k, none⟩ = some (str x) ∧ w'.cell? ⟨q, off + j, none⟩ = some (str y))
        (first | exact hS0 | exact K1.out _ | exact K2.out _ _ | exact hS5 | exact hS6 | exact hS7 | exact hS8)
        (first
          | (clear G1; go_at_call 13; ((with_reducible refine A1.out.mono ?_); rintro e V1 ⟨rfl, hb⟩; have BV := Lib.hid (L1.out _ hb); have HSv := Lib.hid (HVn.out V1 BV.out); have hS5 := HCel.out _ BV.out; have hS6 := HCel.out _ (BV.out.alloc BV.out.size (.cells #[str v] 9)); clear hb))
          | (clear G1; go_at_call 13; ((with_reducible refine A2.out.mono ?_); rintro e V1 ⟨rfl, hb⟩; have BV := Lib.hid (L2.out _ hb).1; have HSv := Lib.hid (HV.out _ V1 BV.out (L2.out _ hb).2); have hS5 := HCel.out _ BV.out; clear hb))
          | (clear G1; go_at_call 13; ((with_reducible refine A3.out.mono ?_); rintro e V1 ⟨rfl, hb⟩; have BV := Lib.hid (L3.out _ hb).1; have HSv := Lib.hid (HV.out _ V1 BV.out (L3.out _ hb).2); have hS5 := HCel.out _ BV.out; clear hb))
          | (go_at_call 13; ((with_reducible refine HSv.out.mono ?_); rintro e V2 ⟨rfl, hb⟩; have BW := Lib.hid (BV.out.trans (hb.mono BV.out.size)); have hS7 := HCel.out _ BW.out; clear hb))
          | (go_at_call 9; refine (HA.out _ BW.out).mono ?_; rintro e V3 ⟨rfl, hb⟩; have BF := Lib.hid (BW.out.trans (hb.mono BW.out.size)); have hS8 := HCel.out _ BF.out; clear hb))
      all_goals
        go_wp2
        go_ret
        exact ⟨rfl, BF.out⟩
theorem walk (a : Option Addr) (len cap : Nat) (z : List ByteArray) (i j : Int) (w : World) (w0 : StrsAt w a len cap z) (w1 : (Lit.int .i64 i).wf = true) (w2 : (Lit.int .i64 j).wf = true) (hr : Rds w) :
    Calls Tryd.prog 7 #[.slice a len cap, .int .i64 i, .int .i64 j] w fun e w' => e = .returned (.bool true) ∧ Below w.heap.size w w' := by
  obtain ⟨ls, hs, hl, hn⟩ := strs_at w0
  unfold maxLen at hl hn
  by_cases hf : fewB ls = false ∨ j < 0 ∨ (len : Int) ≤ j
  · exact out i j a len cap ls w hs hn hr hf
  · have hf1 : fewB ls = true := by
      cases h : fewB ls with
      | true => rfl
      | false => exact absurd (.inl h) hf
    have hj : 0 ≤ j ∧ j < (len : Int) := by omega
    obtain rfl := hs.1
    obtain ⟨m, rfl⟩ : ∃ m : Nat, j = (m : Int) := ⟨j.toNat, by omega⟩
    cases hc : (all32 ls && decide (0 ≤ i ∧ i < (ls.length : Int))) with
    | false => exact none_ i m a cap ls w hs hl hr hf1 (by omega) hc
    | true =>
      rw [Bool.and_eq_true, decide_eq_true_eq] at hc
      obtain ⟨k, rfl⟩ : ∃ k : Nat, i = (k : Int) := ⟨i.toNat, by omega⟩
      exact some_ k m a cap ls w hs hr hf1 hc.1 (by omega) (by omega)
theorem own : ownKnob Tryd.prog.godebug = none := by kernel_rfl
theorem laidOut : laidOutB Tryd.prog = true := by kernel_rfl
set_option maxRecDepth 100000 in
theorem lifted (os : Os) (started : os.Started) (H : Type) (enc : TypeId × Value → H) :
    ReturnsInHanded {} Tryd.checked os 7 .any (fun w args => (Rows.merkleBoundSpec.pre enc Tryd.prog Tryd.f7 Rows.merkleBoundRow.domain false w args ∧ laidMetH Tryd.prog Rows.merkleBoundRow.laid w) ∧ sizedMet enc Tryd.prog Tryd.f7 (OpenSpec.ofChange Rows.merkleBoundSpec) false w args) (Rows.merkleBoundSpec.post enc Tryd.prog Tryd.f7 false true false false) := by
  refine returnsInHanded_of_change_and (C := Tryd.checked) (X := fun w _ => laidMetH Tryd.prog Rows.merkleBoundRow.laid w) (fun _ _ _ hh h => h.of_heap hh) own started (by kernel_rfl) Tryd.func7
    (ChangeSpec.witness_shaped (enc := enc) (C := Tryd.checked) (os := os) (X := fun w _ => laidMetH Tryd.prog Rows.merkleBoundRow.laid w) false (World.doorLaid Tryd.prog 400 os) #[.slice none 0 0, .int .i64 0, .int .i64 0] 8 rfl (World.shaped_of_RefB (by kernel_rfl) (by kernel_rfl)) (by kernel_rfl) (by kernel_rfl) (by kernel_rfl) (SLaid.door_met os _)) ?_
  intro W base args ds gs before hval0 hW _ _ hL _
  have hr := SLaid.of_laid hL
  have hval : ∀ (j : Nat) t v, Tryd.f7.params[j]? = some t → args[j]? = some v → Value.okWide Tryd.prog W .any base t v := hval0
  have hW' := hW
  obtain ⟨p, q, hA0, hV, rfl, hfz, hnd⟩ := hW
  have hA : DataW.TrodAll enc Tryd.prog W 0 (fun _ => true) true Tryd.f7.params.toList args.toList ds p := hA0
  rw [Tryd.params7] at hA hval
  obtain ⟨v0, vs0, d0, ds0, p0, q0, hargs, rfl, rfl, h0, r0⟩ := trodAll_cons hA
  obtain ⟨v1, vs1, d1, ds1, p1, q1, rfl, rfl, rfl, h1, r1⟩ := trodAll_cons r0
  obtain ⟨v2, vs2, d2, ds2, p2, q2, rfl, rfl, rfl, h2, r2⟩ := trodAll_cons r1
  obtain ⟨rfl, rfl, rfl⟩ := trodAll_nil r2
  obtain rfl : args = #[v0, v1, v2] := by cases args; simp_all
  obtain ⟨rfl, rfl⟩ := trodVars_none hV
  obtain ⟨a0, len0, cap0, rfl⟩ := okWide_slice Tryd.underlying22 (hval 0 22 v0 rfl rfl)
  have k0 := h0
  have lt0 : ∀ x ∈ p0, x.block < W.heap.size := by obtain ⟨m, hm⟩ := k0; exact DataW.trod_lt m _ _ _ hm
  obtain ⟨z0, w0⟩ : ∃ zs, StrsAt W a0 len0 cap0 zs := by
    obtain ⟨fuel, hf⟩ := h0
    rcases open_strings Tryd.underlying22 Tryd.underlying9 (by kernel_rfl) hf with ⟨hcs, _⟩ | ⟨x, l, c, zs, hcs, _, hl, hm, hz, _, hcell, hwz⟩
    · simp [Value.cells] at hcs
      obtain ⟨rfl, rfl, rfl⟩ := hcs
      exact ⟨[], .inl ⟨rfl, rfl, rfl, rfl⟩⟩
    · simp [Value.cells] at hcs
      obtain ⟨rfl, rfl, rfl⟩ := hcs
      exact ⟨zs, .inr ⟨_, rfl, hl, hm, by simpa using hz, hcell, hwz⟩⟩
  obtain ⟨a1, rfl, rfl, rfl, w1⟩ := open_int Tryd.underlying3 (hval 1 3 v1 rfl rfl) h1
  obtain ⟨a2, rfl, rfl, rfl, w2⟩ := open_int Tryd.underlying3 (hval 2 3 v2 rfl rfl) h2
  clear hA0 hval0
  refine (walk a0 len0 cap0 z0 a1 a2 W w0 w1 w2 hr).mono fun e W' ⟨he, bel⟩ => ?_
  subst he
  exact ⟨_, rfl, _, _, _, [], _, [], hW', trodAll_mk1 (shut_bool Tryd.underlying4 _), (trodAll_cons_mk (Below.trod laidOut (by kernel_rfl) (of_decide_eq_true (by kernel_rfl)) k0 bel lt0) (trodAll_cons_mk (shut_int Tryd.underlying3 w1) (trodAll_cons_mk (shut_int Tryd.underlying3 w2) trodAll_mk0))), rfl, bel.frame _, fun h => by cases h⟩
theorem over : Rows.merkleBoundRow.holds Tryd.pinned (OpenSpec.ofChange Rows.merkleBoundSpec) :=
  OpenClaim.holds_of_wide 7 Tryd.f7 rfl rfl rfl rfl rfl rfl rfl ⟨rfl, rfl, rfl, rfl, rfl⟩ rfl rfl rfl rfl rfl (by kernel_rfl) Tryd.func7 (by kernel_rfl)
    (of_decide_eq_true (by kernel_rfl)) (by unfold Func.isWrapper; first | (rw [if_pos (by decide +kernel)]; kernel_rfl) | (rw [if_neg (by decide +kernel)]; exact ⟨rfl, rfl⟩))
    (fun os started H enc _ => lifted os started H enc)
/-- THE STATEMENT, proved. -/
theorem proved : Rows.MerkleBoundCardSaid :=
  Claim7.holds_tied_plain_at .later [] _ true _ false
    over (fun _ h => by cases h) (by kernel_rfl) (fun _ h => by cases h) merkleBound_row_tie rfl ⟨rfl, rfl⟩ (by kernel_rfl) rfl
    (fun f fn hf hfn => by
      obtain rfl : f = 7 := Option.some.inj ((show Tryd.prog.funcNamed "keepsake/keepsakelaw15.MerkleBound" = some 7 by kernel_rfl).symm.trans hf) |>.symm
      obtain rfl : fn = Tryd.f7 := (Option.some.inj (Tryd.func7.symm.trans hfn)).symm
      exact ⟨by kernel_rfl, fun j t ht => by
        rw [Tryd.params7] at ht
        have hm : t ∈ [22, 3, 3] := by simpa using Array.mem_of_getElem? ht
        have hall : ([22, 3, 3].all fun u => !Tryd.prog.wantsStandIn u) = true := by kernel_rfl
        exact (show Tryd.prog.wantsStandIn t = false by simpa using List.all_eq_true.1 hall t hm)⟩)
    (by kernel_rfl)
#print axioms proved
end Go.Proofs.YtfjlpialblllgaaDoor.merkleBound
