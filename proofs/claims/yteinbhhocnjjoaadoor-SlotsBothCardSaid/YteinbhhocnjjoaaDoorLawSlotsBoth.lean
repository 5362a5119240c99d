/- SlotsBoth: at any epoch but the last one, and any two keys, the keys of both epochs are picked behind Evolve; once what is stale of the next one is wiped, the next one's alone is, and the one ahead stands in neither block. The condition: the rounds' numbers lie in the program's variable (the card ties it to the program's text). -/
import Derived.Test.YteinbhhocnjjoaaDoorSloY
import Derived.Test.YteinbhhocnjjoaaDoorSloT
import Derived.BigQuiet
import Derived.Test.YteinbhhocnjjoaaDoorRows
import Derived.Test.YteinbhhocnjjoaaDoorTie
import Derived.Test.YteinbhhocnjjoaaDoorCards
import Derived.Test.YteinbhhocnjjoaaDoorSLaid
import Derived.WalkKit
import Derived.ProofKit
import Derived.OpenShut
import Derived.ShutString
import Derived.ChangeOld
import Derived.Below
import Derived.LaidMore
import Derived.SevenTiedAt
import Derived.Stop.Joined
namespace Go.Proofs.YteinbhhocnjjoaaDoor.slotsBoth
open Go.ChangeShapes Go.WideShapes Go.ChangeAt Go.RowKit
open Go.ChangeMaps (open_string shut_string)
set_option linter.unusedVariables false
open SloN SloC STurn SloY SloV
set_option maxRecDepth 100000 in
theorem other (e : Int) (k n : List UInt8) (w : World) (hr : Rds w) (h : e < 0 ∨ (¬ e < 0 ∧ 4294967295 ≤ e) ∨ (¬ e < 0 ∧ ¬ 4294967295 ≤ e ∧ (((k.length : Nat) : Int) != 32) = true) ∨ (¬ e < 0 ∧ ¬ 4294967295 ≤ e ∧ (((k.length : Nat) : Int) != 32) = false ∧ (((n.length : Nat) : Int) != 32) = true)) :
    Calls Tryd.prog 6 #[.int .i64 e, .string ⟨k.toArray⟩, .string ⟨n.toArray⟩] w fun r w' => r = .returned (.bool true) ∧ Below w.heap.size w w' := by
  have hzk := size_mk k
  have hzn := size_mk n
  have GG := Lib.hid hr
  clear hr
  go_enter Tryd.func6, Tryd.ntmps6
  rcases h with h | ⟨h1, h⟩ | ⟨h1, h2, h⟩ | ⟨h1, h2, h3, h⟩
  all_goals
    go_wp2_with (go_at_call 7; refine (SloY.alive _ GG.out).mono ?_; rintro r w7 ⟨rfl, hb⟩; have HE := Lib.hid hb; clear hb)
    go_ret
    exact ⟨rfl, HE.out⟩
theorem sx_set {w W : World} {X i : Nat} {v : Value} (h : Sx w W) (hX : w.heap.size ≤ X) (hr : 0 < w.heap.size) : Sx w (W.setCell ⟨X, i, none⟩ v) := by
  have hb := h.bel.setCell hX v (p := ⟨X, i, none⟩)
  exact ⟨hb, fun j hj => (World.cell?_setCell_other W ⟨X, i, none⟩ ⟨_, j, none⟩ v (fun e => by injection e; omega)).trans (h.gl j hj)⟩
set_option maxRecDepth 100000 in
set_option maxHeartbeats 4000000 in
theorem even (e : Int) (k n o x : List UInt8) (w : World) (hr : Rds w) (h0 : ¬ e < 0) (h1 : ¬ 4294967295 ≤ e) (hk : (((k.length : Nat) : Int) != 32) = false) (hn : (((n.length : Nat) : Int) != 32) = false) (hP : e % 2 = 0)
    (hput : put_ e k = (o, 0)) (hev : evolve o SloN.empty e n = (o, x, 0)) (hp0 : pick o x e = (k, 0)) (hp1 : pick o x (e + 1) = (n, 0)) (hst : stale o x (e + 1) = [0])
    (hp2 : pick SloN.empty x e = ([], 7)) (hp3 : pick SloN.empty x (e + 1) = (n, 0)) (hs2 : stale SloN.empty x (e + 1) = []) :
    Calls Tryd.prog 6 #[.int .i64 e, .string ⟨k.toArray⟩, .string ⟨n.toArray⟩] w fun r w' => r = .returned (.bool true) ∧ Below w.heap.size w w' := by
  have hzk := size_mk k
  have hzn := size_mk n
  have hg : 0 < w.heap.size := hr.lt
  have SS : Hid (Sx w w) := Lib.hid ⟨Below.refl _ _, hr⟩
  have ht : e.tmod 2 = 0 := by rw [Int.tmod_eq_emod_of_nonneg (by omega)]; exact hP
  have HPut := Lib.hid (fun W h => SloP.Put e k W h)
  rw [hput] at HPut
  have HE := Lib.hid (fun W => SloP.Empty W)
  have HV := Lib.hid (fun W h => SloV.Evolve o SloN.empty n e W h)
  rw [hev] at HV
  have H0 := Lib.hid (fun W h => SloV.Pick o x e W h)
  rw [hp0] at H0
  have H1 := Lib.hid (fun W h => SloV.Pick o x (e + 1) W h)
  rw [hp1] at H1
  have HS := Lib.hid (fun W => SloT.Stale o x (e + 1) W)
  unfold SloS.Says at HS
  rw [hst] at HS
  have H2 := Lib.hid (fun W h => SloV.Pick SloN.empty x e W h)
  rw [hp2] at H2
  have H3 := Lib.hid (fun W h => SloV.Pick SloN.empty x (e + 1) W h)
  rw [hp3] at H3
  have HT := Lib.hid (fun W => SloT.Stale SloN.empty x (e + 1) W)
  unfold SloS.Says at HT
  rw [hs2] at HT
  clear hr hput hev hp0 hp1 hst hp2 hp3 hs2 hP
  generalize SloN.empty = z at *
  go_enter Tryd.func6, Tryd.ntmps6
  go_upto_region 3 with (fail)
  go_upto_region 4 with (first
    | (go_at_call 12; refine (HE.out _).mono ?_; rintro r w1 ⟨rfl, hb⟩; replace SS := Lib.hid (SS.out.step hb); clear hb))
  have hX : w.heap.size ≤ w1.heap.size := SS.out.bel.size
  generalize hW4 : World.alloc w1 _ = W4
  replace SS : Hid (Sx w W4) := Lib.hid (by rw [← hW4]; exact SS.out.step ((Below.refl _ _).alloc (Nat.le_refl _) _))
  have KK : Hid (Bk W4 w1.heap.size 47 z z) := Lib.hid (by rw [← hW4]; exact heap_alloc_new w1 _)
  clear hW4
  generalize w1.heap.size = X at *
  go_upto_region 5 with (go_at_call 8; refine (HPut.out _ SS.out.gl).mono ?_; rintro r w2 ⟨rfl, hb⟩; replace SS := Lib.hid (SS.out.step hb); replace KK := Lib.hid (KK.out.step hb); clear hb)
  clear HPut
  obtain ⟨k0, k1⟩ := KK.out.cells
  have fr := blk_free (i := 0) KK.out
  go_upto_region 6 with (fail)
  generalize hW5 : World.setCell w2 _ _ = W5
  replace SS : Hid (Sx w W5) := Lib.hid (by rw [← hW5]; exact sx_set SS.out hX hg)
  replace KK : Hid (Bk W5 X 47 o z) := Lib.hid (by rw [← hW5]; exact blk_set KK.out)
  clear hW5 k0 k1 fr
  obtain ⟨k0, k1⟩ := KK.out.cells
  go_upto_region 7 with (go_at_call 19; refine (HV.out _ SS.out.gl).mono ?_; rintro r w3 ⟨rfl, hb⟩; replace SS := Lib.hid (SS.out.step hb); clear hb)
  clear HV k0 k1 KK hX
  generalize X = X0 at *
  go_upto_region 8 with (go_at_call 14; refine (H0.out _ SS.out.gl).mono ?_; rintro r w4 ⟨rfl, hb⟩; replace SS := Lib.hid (SS.out.step hb); clear hb)
  clear H0
  go_upto_region 9 with (go_at_call 14; refine (H1.out _ SS.out.gl).mono ?_; rintro r w5 ⟨rfl, hb⟩; replace SS := Lib.hid (SS.out.step hb); clear hb)
  clear H1
  go_upto_region 12 with (fail)
  have hY : w.heap.size ≤ w5.heap.size := SS.out.bel.size
  generalize hW6 : World.alloc w5 _ = W6
  replace SS : Hid (Sx w W6) := Lib.hid (by rw [← hW6]; exact SS.out.step ((Below.refl _ _).alloc (Nat.le_refl _) _))
  have KY : Hid (Bk W6 w5.heap.size 47 o x) := Lib.hid (by rw [← hW6]; exact heap_alloc_new w5 _)
  clear hW6
  generalize w5.heap.size = Y at *
  go_upto_region 13 with (go_at_call 17; refine (HS.out _).mono ?_; rintro r w7 ⟨⟨ad, m, cc, rfl, hrow⟩, hb⟩; replace SS := Lib.hid (SS.out.step hb); replace KY := Lib.hid (KY.out.step hb); have RR := Lib.hid hrow; clear hb hrow)
  clear HS
  obtain rfl : m = 1 := RR.out.1.symm
  obtain ⟨g, off, rfl, _, hcell⟩ := RR.out.2 (by omega)
  have hc0 : w7.cell? ⟨g, off, none⟩ = some (.int .i64 0) := hcell 0 (by omega)
  clear hcell RR
  go_upto_region 15 with (fail)
  clear hc0
  obtain ⟨k0, k1⟩ := KY.out.cells
  go_upto_region 16 with (go_at_call 12; refine (HE.out _).mono ?_; rintro r w8 ⟨rfl, hb⟩; replace SS := Lib.hid (SS.out.step hb); replace KY := Lib.hid (KY.out.step hb); have fr := blk_free (i := 0) KY.out; clear hb k0 k1; obtain ⟨k0, k1⟩ := KY.out.cells)
  generalize hW9 : World.setCell w8 _ _ = W9
  replace SS : Hid (Sx w W9) := Lib.hid (by rw [← hW9]; exact sx_set SS.out hY hg)
  replace KY : Hid (Bk W9 Y 47 z x) := Lib.hid (by rw [← hW9]; exact blk_set KY.out)
  clear hW9 k0 k1 fr HE
  obtain ⟨k0, k1⟩ := KY.out.cells
  go_upto_region 17 with (go_at_call 14; refine (H2.out _ SS.out.gl).mono ?_; rintro r w10 ⟨rfl, hb⟩; replace SS := Lib.hid (SS.out.step hb); replace KY := Lib.hid (KY.out.step hb); clear hb k0 k1; obtain ⟨k0, k1⟩ := KY.out.cells)
  clear H2
  go_upto_region 18 with (go_at_call 14; refine (H3.out _ SS.out.gl).mono ?_; rintro r w11 ⟨rfl, hb⟩; replace SS := Lib.hid (SS.out.step hb); replace KY := Lib.hid (KY.out.step hb); clear hb k0 k1; obtain ⟨k0, k1⟩ := KY.out.cells)
  clear H3
  go_wp2_with (first
    | (go_at_call 17; refine (HT.out _).mono ?_; rintro r w12 ⟨⟨ad, m, cc, rfl, hrow⟩, hb⟩; replace SS := Lib.hid (SS.out.step hb); obtain rfl : m = 0 := hrow.1.symm; clear hb hrow k0 k1)
    | (go_at_call 7; refine (SloY.alive _ SS.out.gl).mono ?_; rintro r w13 ⟨rfl, hb⟩; replace SS := Lib.hid (SS.out.step hb); clear hb))
  go_ret
  exact ⟨rfl, SS.out.bel⟩
set_option maxRecDepth 100000 in
set_option maxHeartbeats 4000000 in
theorem odd (e : Int) (k n o x : List UInt8) (w : World) (hr : Rds w) (h0 : ¬ e < 0) (h1 : ¬ 4294967295 ≤ e) (hk : (((k.length : Nat) : Int) != 32) = false) (hn : (((n.length : Nat) : Int) != 32) = false) (hP : e % 2 = 1)
    (hput : put_ e k = (o, 0)) (hev : evolve SloN.empty o e n = (x, o, 0)) (hp0 : pick x o e = (k, 0)) (hp1 : pick x o (e + 1) = (n, 0)) (hst : stale x o (e + 1) = [1])
    (hp2 : pick x SloN.empty e = ([], 7)) (hp3 : pick x SloN.empty (e + 1) = (n, 0)) (hs2 : stale x SloN.empty (e + 1) = []) :
    Calls Tryd.prog 6 #[.int .i64 e, .string ⟨k.toArray⟩, .string ⟨n.toArray⟩] w fun r w' => r = .returned (.bool true) ∧ Below w.heap.size w w' := by
  have hzk := size_mk k
  have hzn := size_mk n
  have hg : 0 < w.heap.size := hr.lt
  have SS : Hid (Sx w w) := Lib.hid ⟨Below.refl _ _, hr⟩
  have ht : e.tmod 2 = 1 := by rw [Int.tmod_eq_emod_of_nonneg (by omega)]; exact hP
  have HPut := Lib.hid (fun W h => SloP.Put e k W h)
  rw [hput] at HPut
  have HE := Lib.hid (fun W => SloP.Empty W)
  have HV := Lib.hid (fun W h => SloV.Evolve SloN.empty o n e W h)
  rw [hev] at HV
  have H0 := Lib.hid (fun W h => SloV.Pick x o e W h)
  rw [hp0] at H0
  have H1 := Lib.hid (fun W h => SloV.Pick x o (e + 1) W h)
  rw [hp1] at H1
  have HS := Lib.hid (fun W => SloT.Stale x o (e + 1) W)
  unfold SloS.Says at HS
  rw [hst] at HS
  have H2 := Lib.hid (fun W h => SloV.Pick x SloN.empty e W h)
  rw [hp2] at H2
  have H3 := Lib.hid (fun W h => SloV.Pick x SloN.empty (e + 1) W h)
  rw [hp3] at H3
  have HT := Lib.hid (fun W => SloT.Stale x SloN.empty (e + 1) W)
  unfold SloS.Says at HT
  rw [hs2] at HT
  clear hr hput hev hp0 hp1 hst hp2 hp3 hs2 hP
  generalize SloN.empty = z at *
  go_enter Tryd.func6, Tryd.ntmps6
  go_upto_region 3 with (fail)
  go_upto_region 4 with (first
    | (go_at_call 12; refine (HE.out _).mono ?_; rintro r w1 ⟨rfl, hb⟩; replace SS := Lib.hid (SS.out.step hb); clear hb))
  have hX : w.heap.size ≤ w1.heap.size := SS.out.bel.size
  generalize hW4 : World.alloc w1 _ = W4
  replace SS : Hid (Sx w W4) := Lib.hid (by rw [← hW4]; exact SS.out.step ((Below.refl _ _).alloc (Nat.le_refl _) _))
  have KK : Hid (Bk W4 w1.heap.size 47 z z) := Lib.hid (by rw [← hW4]; exact heap_alloc_new w1 _)
  clear hW4
  generalize w1.heap.size = X at *
  go_upto_region 5 with (go_at_call 8; refine (HPut.out _ SS.out.gl).mono ?_; rintro r w2 ⟨rfl, hb⟩; replace SS := Lib.hid (SS.out.step hb); replace KK := Lib.hid (KK.out.step hb); clear hb)
  clear HPut
  obtain ⟨k0, k1⟩ := KK.out.cells
  have fr := blk_free (i := 1) KK.out
  go_upto_region 6 with (fail)
  generalize hW5 : World.setCell w2 _ _ = W5
  replace SS : Hid (Sx w W5) := Lib.hid (by rw [← hW5]; exact sx_set SS.out hX hg)
  replace KK : Hid (Bk W5 X 47 z o) := Lib.hid (by rw [← hW5]; exact blk_set KK.out)
  clear hW5 k0 k1 fr
  obtain ⟨k0, k1⟩ := KK.out.cells
  go_upto_region 7 with (go_at_call 19; refine (HV.out _ SS.out.gl).mono ?_; rintro r w3 ⟨rfl, hb⟩; replace SS := Lib.hid (SS.out.step hb); clear hb)
  clear HV k0 k1 KK hX
  generalize X = X0 at *
  go_upto_region 8 with (go_at_call 14; refine (H0.out _ SS.out.gl).mono ?_; rintro r w4 ⟨rfl, hb⟩; replace SS := Lib.hid (SS.out.step hb); clear hb)
  clear H0
  go_upto_region 9 with (go_at_call 14; refine (H1.out _ SS.out.gl).mono ?_; rintro r w5 ⟨rfl, hb⟩; replace SS := Lib.hid (SS.out.step hb); clear hb)
  clear H1
  go_upto_region 12 with (fail)
  have hY : w.heap.size ≤ w5.heap.size := SS.out.bel.size
  generalize hW6 : World.alloc w5 _ = W6
  replace SS : Hid (Sx w W6) := Lib.hid (by rw [← hW6]; exact SS.out.step ((Below.refl _ _).alloc (Nat.le_refl _) _))
  have KY : Hid (Bk W6 w5.heap.size 47 x o) := Lib.hid (by rw [← hW6]; exact heap_alloc_new w5 _)
  clear hW6
  generalize w5.heap.size = Y at *
  go_upto_region 13 with (go_at_call 17; refine (HS.out _).mono ?_; rintro r w7 ⟨⟨ad, m, cc, rfl, hrow⟩, hb⟩; replace SS := Lib.hid (SS.out.step hb); replace KY := Lib.hid (KY.out.step hb); have RR := Lib.hid hrow; clear hb hrow)
  clear HS
  obtain rfl : m = 1 := RR.out.1.symm
  obtain ⟨g, off, rfl, _, hcell⟩ := RR.out.2 (by omega)
  have hc0 : w7.cell? ⟨g, off, none⟩ = some (.int .i64 1) := hcell 0 (by omega)
  clear hcell RR
  go_upto_region 15 with (fail)
  clear hc0
  obtain ⟨k0, k1⟩ := KY.out.cells
  go_upto_region 16 with (go_at_call 12; refine (HE.out _).mono ?_; rintro r w8 ⟨rfl, hb⟩; replace SS := Lib.hid (SS.out.step hb); replace KY := Lib.hid (KY.out.step hb); have fr := blk_free (i := 1) KY.out; clear hb k0 k1; obtain ⟨k0, k1⟩ := KY.out.cells)
  generalize hW9 : World.setCell w8 _ _ = W9
  replace SS : Hid (Sx w W9) := Lib.hid (by rw [← hW9]; exact sx_set SS.out hY hg)
  replace KY : Hid (Bk W9 Y 47 x z) := Lib.hid (by rw [← hW9]; exact blk_set KY.out)
  clear hW9 k0 k1 fr HE
  obtain ⟨k0, k1⟩ := KY.out.cells
  go_upto_region 17 with (go_at_call 14; refine (H2.out _ SS.out.gl).mono ?_; rintro r w10 ⟨rfl, hb⟩; replace SS := Lib.hid (SS.out.step hb); replace KY := Lib.hid (KY.out.step hb); clear hb k0 k1; obtain ⟨k0, k1⟩ := KY.out.cells)
  clear H2
  go_upto_region 18 with (go_at_call 14; refine (H3.out _ SS.out.gl).mono ?_; rintro r w11 ⟨rfl, hb⟩; replace SS := Lib.hid (SS.out.step hb); replace KY := Lib.hid (KY.out.step hb); clear hb k0 k1; obtain ⟨k0, k1⟩ := KY.out.cells)
  clear H3
  go_wp2_with (first
    | (go_at_call 17; refine (HT.out _).mono ?_; rintro r w12 ⟨⟨ad, m, cc, rfl, hrow⟩, hb⟩; replace SS := Lib.hid (SS.out.step hb); obtain rfl : m = 0 := hrow.1.symm; clear hb hrow k0 k1)
    | (go_at_call 7; refine (SloY.alive _ SS.out.gl).mono ?_; rintro r w13 ⟨rfl, hb⟩; replace SS := Lib.hid (SS.out.step hb); clear hb))
  go_ret
  exact ⟨rfl, SS.out.bel⟩
theorem walk (e : Int) (tk tn : ByteArray) (w : World) (we : (Lit.int .i64 e).wf = true) (wk : tk.size ≤ maxLen) (wn : tn.size ≤ maxLen) (hr : Rds w) :
    Calls Tryd.prog 6 #[.int .i64 e, .string tk, .string tn] w fun r w' => r = .returned (.bool true) ∧ Below w.heap.size w w' := by
  obtain ⟨⟨k⟩⟩ := tk
  obtain ⟨⟨n⟩⟩ := tn
  by_cases h0 : e < 0
  · exact other e k n w hr (.inl h0)
  · by_cases h1 : 4294967295 ≤ e
    · exact other e k n w hr (.inr (.inl ⟨h0, h1⟩))
    · by_cases hk : k.length = 32
      · have bk : (((k.length : Nat) : Int) != 32) = false := by rw [hk]; rfl
        by_cases hn : n.length = 32
        · have bn : (((n.length : Nat) : Int) != 32) = false := by rw [hn]; rfl
          have m0 : may e := ⟨by omega, by omega⟩
          have m1 : may (e + 1) := ⟨by omega, by omega⟩
          by_cases ho : e % 2 = 1
          · have o1 : ¬ (e + 1) % 2 = 1 := by omega
            have hp : pick SloN.empty (blk e k) e = (k, 0) := by rw [pick_odd m0 ho]; exact pick1_blk m0 hk
            exact odd e k n (blk e k) (blk (e + 1) n) w hr h0 h1 bk bn ho (SloN.put_yes m0 hk) (evolve_odd (by rw [hp]) (by omega) hn ho)
              (by rw [pick_odd m0 ho]; exact pick1_blk m0 hk) (by rw [pick_even m1 o1]; exact pick1_blk m1 hn) (by rw [stale_even m1 o1, if_neg (blk_not e k)])
              (by rw [pick_odd m0 ho]; exact pick1_empty e) (by rw [pick_even m1 o1]; exact pick1_blk m1 hn) (by rw [stale_even m1 o1, if_pos rfl])
          · have o1 : (e + 1) % 2 = 1 := by omega
            have hp : pick (blk e k) SloN.empty e = (k, 0) := by rw [pick_even m0 ho]; exact pick1_blk m0 hk
            exact even e k n (blk e k) (blk (e + 1) n) w hr h0 h1 bk bn (by omega) (SloN.put_yes m0 hk) (evolve_even (by rw [hp]) (by omega) hn ho)
              (by rw [pick_even m0 ho]; exact pick1_blk m0 hk) (by rw [pick_odd m1 o1]; exact pick1_blk m1 hn) (by rw [stale_odd m1 o1, if_neg (blk_not e k)])
              (by rw [pick_even m0 ho]; exact pick1_empty e) (by rw [pick_odd m1 o1]; exact pick1_blk m1 hn) (by rw [stale_odd m1 o1, if_pos rfl])
        · exact other e k n w hr (.inr (.inr (.inr ⟨h0, h1, bk, by rw [bne_iff_ne]; omega⟩)))
      · exact other e k n w hr (.inr (.inr (.inl ⟨h0, h1, by rw [bne_iff_ne]; omega⟩)))
theorem own : ownKnob Tryd.prog.godebug = none := by kernel_rfl
theorem laidOut : laidOutB Tryd.prog = true := by kernel_rfl
set_option maxRecDepth 100000 in
theorem lifted (os : Os) (started : os.Started) (H : Type) (enc : TypeId × Value → H) :
    ReturnsInHanded {} Tryd.checked os 6 .any (fun w args => (Rows.slotsBothSpec.pre enc Tryd.prog Tryd.f6 Rows.slotsBothRow.domain false w args ∧ laidMetH Tryd.prog Rows.slotsBothRow.laid w) ∧ sizedMet enc Tryd.prog Tryd.f6 (OpenSpec.ofChange Rows.slotsBothSpec) false w args) (Rows.slotsBothSpec.post enc Tryd.prog Tryd.f6 false true false false) := by
  refine returnsInHanded_of_change_and (C := Tryd.checked) (X := fun w _ => laidMetH Tryd.prog Rows.slotsBothRow.laid w) (fun _ _ _ hh h => h.of_heap hh) own started (by kernel_rfl) Tryd.func6
    (ChangeSpec.witness_shaped (enc := enc) (C := Tryd.checked) (os := os) (X := fun w _ => laidMetH Tryd.prog Rows.slotsBothRow.laid w) false (World.doorLaid Tryd.prog 400 os) #[.int .i64 0, .string ByteArray.empty, .string ByteArray.empty] 8 rfl (World.shaped_of_RefB (by kernel_rfl) (by kernel_rfl)) (by kernel_rfl) (by kernel_rfl) (by kernel_rfl) (SLaid.door_met os _)) ?_
  intro W base args ds gs before hval0 hW _ _ hL _
  have hr := SLaid.of_laid hL
  have hval : ∀ (j : Nat) t v, Tryd.f6.params[j]? = some t → args[j]? = some v → Value.okWide Tryd.prog W .any base t v := hval0
  have hW' := hW
  obtain ⟨p, q, hA0, hV, rfl, hfz, hnd⟩ := hW
  have hA : DataW.TrodAll enc Tryd.prog W 0 (fun _ => true) true Tryd.f6.params.toList args.toList ds p := hA0
  rw [Tryd.params6] at hA hval
  obtain ⟨v0, vs0, d0, ds0, p0, q0, hargs, rfl, rfl, h0, r0⟩ := trodAll_cons hA
  obtain ⟨v1, vs1, d1, ds1, p1, q1, rfl, rfl, rfl, h1, r1⟩ := trodAll_cons r0
  obtain ⟨v2, vs2, d2, ds2, p2, q2, rfl, rfl, rfl, h2, r2⟩ := trodAll_cons r1
  obtain ⟨rfl, rfl, rfl⟩ := trodAll_nil r2
  obtain rfl : args = #[v0, v1, v2] := by cases args; simp_all
  obtain ⟨rfl, rfl⟩ := trodVars_none hV
  obtain ⟨a0, rfl, rfl, rfl, w0⟩ := open_int Tryd.underlying3 (hval 0 3 v0 rfl rfl) h0
  obtain ⟨a1, rfl, rfl, rfl, w1⟩ := open_string Tryd.underlying9 (hval 1 9 v1 rfl rfl) h1
  obtain ⟨a2, rfl, rfl, rfl, w2⟩ := open_string Tryd.underlying9 (hval 2 9 v2 rfl rfl) h2
  clear hA0 hval0
  refine (walk a0 a1 a2 W w0 w1 w2 hr).mono fun e W' ⟨he, bel⟩ => ?_
  subst he
  exact ⟨_, rfl, _, _, _, [], _, [], hW', trodAll_mk1 (shut_bool Tryd.underlying4 _), (trodAll_cons_mk (shut_int Tryd.underlying3 w0) (trodAll_cons_mk (shut_string Tryd.underlying9 w1) (trodAll_cons_mk (shut_string Tryd.underlying9 w2) trodAll_mk0))), rfl, bel.frame _, fun h => by cases h⟩
theorem over : Rows.slotsBothRow.holds Tryd.pinned (OpenSpec.ofChange Rows.slotsBothSpec) :=
  OpenClaim.holds_of_wide 6 Tryd.f6 rfl rfl rfl rfl rfl rfl rfl ⟨rfl, rfl, rfl, rfl, rfl⟩ rfl rfl rfl rfl rfl (by kernel_rfl) Tryd.func6 (by kernel_rfl)
    (of_decide_eq_true (by kernel_rfl)) (by unfold Func.isWrapper; first | (rw [if_pos (by decide +kernel)]; kernel_rfl) | (rw [if_neg (by decide +kernel)]; exact ⟨rfl, rfl⟩))
    (fun os started H enc _ => lifted os started H enc)
/-- THE STATEMENT, proved. -/
theorem proved : Rows.SlotsBothCardSaid :=
  Claim7.holds_tied_plain_at .later [] _ true _ false
    over (fun _ h => by cases h) (by kernel_rfl) (fun _ h => by cases h) slotsBoth_row_tie rfl ⟨rfl, rfl⟩ (by kernel_rfl) rfl
    (fun f fn hf hfn => by
      obtain rfl : f = 6 := Option.some.inj ((show Tryd.prog.funcNamed "keepsake/keepsakelaw11.SlotsBoth" = some 6 by kernel_rfl).symm.trans hf) |>.symm
      obtain rfl : fn = Tryd.f6 := (Option.some.inj (Tryd.func6.symm.trans hfn)).symm
      exact ⟨by kernel_rfl, fun j t ht => by
        rw [Tryd.params6] at ht
        have hm : t ∈ [3, 9, 9] := by simpa using Array.mem_of_getElem? ht
        have hall : ([3, 9, 9].all fun u => !Tryd.prog.wantsStandIn u) = true := by kernel_rfl
        exact (show Tryd.prog.wantsStandIn t = false by simpa using List.all_eq_true.1 hall t hm)⟩)
    (by kernel_rfl)
#print axioms proved
end Go.Proofs.YteinbhhocnjjoaaDoor.slotsBoth
