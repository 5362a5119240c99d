/- The document's Show: the walk of its text. No conditions. -/
import Derived.Test.YtpnmhfaenmeimaaDoorRecD
namespace Go.Proofs.YtpnmhfaenmeimaaDoor.RecE
open Go.RowKit
open RecN RecC RecM RecD
theorem told_1 {r : Rec} (hk : r.k = 1) : told r = (((([99, 108, 111, 115, 101, 32] ++ dec r.ep) ++ [32]) ++ dec r.ct) ++ [32, 97, 116, 32]) ++ dec r.tm := by
  rw [told_front, front, if_pos hk]
  rfl
set_option maxRecDepth 100000 in
set_option maxHeartbeats 2000000 in
theorem Show_1 (r : Rec) (h : right r) (hk : r.k = 1) (w : World) :
    Calls Tryd.prog 13 #[.agg #[.int .i64 r.k, .int .i64 r.ep, .int .i64 r.tm, .int .i64 r.ct, .int .i64 r.tg, .int .i64 r.un, .string ⟨r.rt.toArray⟩, .string ⟨r.nm.toArray⟩]] w fun e w' => e = .returned (.string ⟨(told r).toArray⟩) ∧ Below w.heap.size w w' := by
  obtain ⟨W1, hW1⟩ : ∃ W1, W1 = w.alloc (.cells #[.int .i64 r.k, .int .i64 r.ep, .int .i64 r.tm, .int .i64 r.ct, .int .i64 r.tg, .int .i64 r.un, .string ⟨r.rt.toArray⟩, .string ⟨r.nm.toArray⟩] 23) := ⟨_, rfl⟩
  have SS : Hid (Ws w r W1) := Lib.hid (by rw [hW1]; exact ws_new w r)
  obtain ⟨k0, k1, k2, k3, k4, k5, k6, k7⟩ := SS.out.k.cells
  have hb := bounds h
  have HR := Lib.hid (fun W => RecZ.Right r W)
  rw [dt h] at HR
  have A1 := Lib.hid (fun W => Digits r.tg hb.2.2.2.2.1.1 (by omega) W)
  have A2 := Lib.hid (fun W => Digits r.un hb.2.2.2.2.2.1.1 (by omega) W)
  have B1 := Lib.hid (fun W => Digits r.ep hb.2.1.1 (by omega) W)
  have B2 := Lib.hid (fun W => Digits r.ct hb.2.2.2.1.1 (by omega) W)
  have C1 := Lib.hid (fun W => Digits r.tm hb.2.2.1.1 hb.2.2.1.2 W)
  have lTG : (dec r.tg).length ≤ 13 := dec_len hb.2.2.2.2.1.1 (by omega)
  have lUN : (dec r.un).length ≤ 13 := dec_len hb.2.2.2.2.2.1.1 (by omega)
  have lTM : (dec r.tm).length ≤ 13 := dec_len hb.2.2.1.1 hb.2.2.1.2
  have lEP : (dec r.ep).length ≤ 13 := dec_len hb.2.1.1 (by omega)
  have lCT : (dec r.ct).length ≤ 13 := dec_len hb.2.2.2.1.1 (by omega)
  have hk0 := hk
  have HT := Lib.hid (told_1 hk)
  generalize dec r.tg = gTG at *
  generalize dec r.un = gUN at *
  generalize dec r.tm = gTM at *
  generalize dec r.ep = gEP at *
  generalize dec r.ct = gCT at *
  obtain ⟨p1, ep1⟩ : ∃ c, c = ([112, 117, 114, 103, 101, 32] : List UInt8) ++ gTG := ⟨_, rfl⟩
  have lp1 : p1.length ≤ 100 := by rw [ep1, List.length_append]; simp only [List.length_cons, List.length_nil]; omega
  have dp1 := fun W => add_l [112, 117, 114, 103, 101, 32] gTG p1 ep1.symm (by first | omega | decide) (by first | omega | decide) W
  obtain ⟨p2, ep2⟩ : ∃ c, c = p1 ++ ([32] : List UInt8) := ⟨_, rfl⟩
  have lp2 : p2.length ≤ 200 := by rw [ep2, List.length_append]; simp only [List.length_cons, List.length_nil]; omega
  have dp2 := fun W => add_l p1 [32] p2 ep2.symm (by first | omega | decide) (by first | omega | decide) W
  obtain ⟨p3, ep3⟩ : ∃ c, c = p2 ++ gUN := ⟨_, rfl⟩
  have lp3 : p3.length ≤ 300 := by rw [ep3, List.length_append]; omega
  have dp3 := fun W => add_l p2 gUN p3 ep3.symm (by first | omega | decide) (by first | omega | decide) W
  obtain ⟨q1, eq1⟩ : ∃ c, c = ([99, 108, 111, 115, 101, 32] : List UInt8) ++ gEP := ⟨_, rfl⟩
  have lq1 : q1.length ≤ 100 := by rw [eq1, List.length_append]; simp only [List.length_cons, List.length_nil]; omega
  have dq1 := fun W => add_l [99, 108, 111, 115, 101, 32] gEP q1 eq1.symm (by first | omega | decide) (by first | omega | decide) W
  obtain ⟨q2, eq2⟩ : ∃ c, c = q1 ++ ([32] : List UInt8) := ⟨_, rfl⟩
  have lq2 : q2.length ≤ 200 := by rw [eq2, List.length_append]; simp only [List.length_cons, List.length_nil]; omega
  have dq2 := fun W => add_l q1 [32] q2 eq2.symm (by first | omega | decide) (by first | omega | decide) W
  obtain ⟨q3, eq3⟩ : ∃ c, c = q2 ++ gCT := ⟨_, rfl⟩
  have lq3 : q3.length ≤ 300 := by rw [eq3, List.length_append]; omega
  have dq3 := fun W => add_l q2 gCT q3 eq3.symm (by first | omega | decide) (by first | omega | decide) W
  obtain ⟨z1, ez1⟩ : ∃ c, c = q3 ++ ([32, 97, 116, 32] : List UInt8) := ⟨_, rfl⟩
  have lz1 : z1.length ≤ 400 := by rw [ez1, List.length_append]; simp only [List.length_cons, List.length_nil]; omega
  have dz1 := fun W => add_l q3 [32, 97, 116, 32] z1 ez1.symm (by first | omega | decide) (by first | omega | decide) W
  obtain ⟨z2, ez2⟩ : ∃ c, c = z1 ++ gTM := ⟨_, rfl⟩
  have lz2 : z2.length ≤ 500 := by rw [ez2, List.length_append]; omega
  have dz2 := fun W => add_l z1 gTM z2 ez2.symm (by first | omega | decide) (by first | omega | decide) W
  have HZ : Hid (told r = z2) := Lib.hid (by rw [HT.out, ez2, ez1, eq3, eq2, eq1])
  have t1 : (r.k == 1) = true := by rw [hk]; rfl
  clear h hk hk0 hb HT ep1 ep2 ep3 eq1 eq2 eq3 ez1 ez2 lp1 lp2 lp3 lq1 lq2 lq3 lz1 lz2 lTG lUN lTM lEP lCT
  generalize told r = tr at *
  go_enter Tryd.func13, Tryd.ntmps13
  go_upto_region 1 with (fail)
  rw [← hW1]
  clear hW1
  go_upto_region 3 with (go_at_call 21; refine (HR.out _).mono ?_; rintro e w2 ⟨rfl, hb⟩; replace SS := Lib.hid (SS.out.step hb); clear hb HR k0 k1 k2 k3 k4 k5 k6 k7)
  replace SS := Lib.hid SS.out.drew
  have hS := SS.out.k.cells
  go_region_held3 (fun W' => W'.cell? ⟨w.heap.size, 0, none⟩ = some (.int .i64 r.k) ∧ W'.cell? ⟨w.heap.size, 1, none⟩ = some (.int .i64 r.ep) ∧ W'.cell? ⟨w.heap.size, 2, none⟩ = some (.int .i64 r.tm) ∧ W'.cell? ⟨w.heap.size, 3, none⟩ = some (.int .i64 r.ct) ∧ W'.cell? ⟨w.heap.size, 4, none⟩ = some (.int .i64 r.tg) ∧ W'.cell? ⟨w.heap.size, 5, none⟩ = some (.int .i64 r.un) ∧ W'.cell? ⟨w.heap.size, 6, none⟩ = some (.string ⟨r.rt.toArray⟩) ∧ W'.cell? ⟨w.heap.size, 7, none⟩ = some (.string ⟨r.nm.toArray⟩))
    (exact hS)
    (first
      | (go_at_call 29; refine (A1.out _).mono ?_; rintro e wA1 ⟨rfl, hb⟩; replace SS := Lib.hid (SS.out.step hb); replace hS := SS.out.k.cells; clear hb A1)
      | (go_at_call 29; refine (A2.out _).mono ?_; rintro e wA2 ⟨rfl, hb⟩; replace SS := Lib.hid (SS.out.step hb); replace hS := SS.out.k.cells; clear hb A2))
  obtain ⟨k0, k1, k2, k3, k4, k5, k6, k7⟩ := hS
  go_upto_region 6 with (fail)
  replace SS := Lib.hid SS.out.drew
  clear k0 k1 k2 k3 k4 k5 k6 k7
  have hS := SS.out.k.cells
  go_region_held3 (fun W' => W'.cell? ⟨w.heap.size, 0, none⟩ = some (.int .i64 r.k) ∧ W'.cell? ⟨w.heap.size, 1, none⟩ = some (.int .i64 r.ep) ∧ W'.cell? ⟨w.heap.size, 2, none⟩ = some (.int .i64 r.tm) ∧ W'.cell? ⟨w.heap.size, 3, none⟩ = some (.int .i64 r.ct) ∧ W'.cell? ⟨w.heap.size, 4, none⟩ = some (.int .i64 r.tg) ∧ W'.cell? ⟨w.heap.size, 5, none⟩ = some (.int .i64 r.un) ∧ W'.cell? ⟨w.heap.size, 6, none⟩ = some (.string ⟨r.rt.toArray⟩) ∧ W'.cell? ⟨w.heap.size, 7, none⟩ = some (.string ⟨r.nm.toArray⟩))
    (exact hS)
    (first
      | (go_at_call 29; refine (B1.out _).mono ?_; rintro e wB1 ⟨rfl, hb⟩; replace SS := Lib.hid (SS.out.step hb); replace hS := SS.out.k.cells; clear hb B1)
      | (go_at_call 29; refine (B2.out _).mono ?_; rintro e wB2 ⟨rfl, hb⟩; replace SS := Lib.hid (SS.out.step hb); replace hS := SS.out.k.cells; clear hb B2))
  obtain ⟨k0, k1, k2, k3, k4, k5, k6, k7⟩ := hS
  go_wp2_with (go_at_call 29; refine (C1.out _).mono ?_; rintro e wC ⟨rfl, hb⟩; replace SS := Lib.hid (SS.out.step hb); clear hb C1 k0 k1 k2 k3 k4 k5 k6 k7)
  go_ret
  rw [HZ.out]
  exact ⟨rfl, SS.out.bel⟩
theorem told_2 {r : Rec} (hk : r.k = 2) : told r = (((([114, 101, 116, 97, 105, 110, 32] ++ dec r.tg) ++ [32]) ++ dec r.un) ++ [32, 97, 116, 32]) ++ dec r.tm := by
  rw [told_front, front, if_neg (by omega), if_pos hk]
  rfl
set_option maxRecDepth 100000 in
set_option maxHeartbeats 2000000 in
theorem Show_2 (r : Rec) (h : right r) (hk : r.k = 2) (w : World) :
    Calls Tryd.prog 13 #[.agg #[.int .i64 r.k, .int .i64 r.ep, .int .i64 r.tm, .int .i64 r.ct, .int .i64 r.tg, .int .i64 r.un, .string ⟨r.rt.toArray⟩, .string ⟨r.nm.toArray⟩]] w fun e w' => e = .returned (.string ⟨(told r).toArray⟩) ∧ Below w.heap.size w w' := by
  obtain ⟨W1, hW1⟩ : ∃ W1, W1 = w.alloc (.cells #[.int .i64 r.k, .int .i64 r.ep, .int .i64 r.tm, .int .i64 r.ct, .int .i64 r.tg, .int .i64 r.un, .string ⟨r.rt.toArray⟩, .string ⟨r.nm.toArray⟩] 23) := ⟨_, rfl⟩
  have SS : Hid (Ws w r W1) := Lib.hid (by rw [hW1]; exact ws_new w r)
  obtain ⟨k0, k1, k2, k3, k4, k5, k6, k7⟩ := SS.out.k.cells
  have hb := bounds h
  have HR := Lib.hid (fun W => RecZ.Right r W)
  rw [dt h] at HR
  have A1 := Lib.hid (fun W => Digits r.tg hb.2.2.2.2.1.1 (by omega) W)
  have A2 := Lib.hid (fun W => Digits r.un hb.2.2.2.2.2.1.1 (by omega) W)
  have B1 := Lib.hid (fun W => Digits r.tg hb.2.2.2.2.1.1 (by omega) W)
  have B2 := Lib.hid (fun W => Digits r.un hb.2.2.2.2.2.1.1 (by omega) W)
  have C1 := Lib.hid (fun W => Digits r.tm hb.2.2.1.1 hb.2.2.1.2 W)
  have lTG : (dec r.tg).length ≤ 13 := dec_len hb.2.2.2.2.1.1 (by omega)
  have lUN : (dec r.un).length ≤ 13 := dec_len hb.2.2.2.2.2.1.1 (by omega)
  have lTM : (dec r.tm).length ≤ 13 := dec_len hb.2.2.1.1 hb.2.2.1.2
  have hk0 := hk
  have HT := Lib.hid (told_2 hk)
  generalize dec r.tg = gTG at *
  generalize dec r.un = gUN at *
  generalize dec r.tm = gTM at *
  obtain ⟨p1, ep1⟩ : ∃ c, c = ([112, 117, 114, 103, 101, 32] : List UInt8) ++ gTG := ⟨_, rfl⟩
  have lp1 : p1.length ≤ 100 := by rw [ep1, List.length_append]; simp only [List.length_cons, List.length_nil]; omega
  have dp1 := fun W => add_l [112, 117, 114, 103, 101, 32] gTG p1 ep1.symm (by first | omega | decide) (by first | omega | decide) W
  obtain ⟨p2, ep2⟩ : ∃ c, c = p1 ++ ([32] : List UInt8) := ⟨_, rfl⟩
  have lp2 : p2.length ≤ 200 := by rw [ep2, List.length_append]; simp only [List.length_cons, List.length_nil]; omega
  have dp2 := fun W => add_l p1 [32] p2 ep2.symm (by first | omega | decide) (by first | omega | decide) W
  obtain ⟨p3, ep3⟩ : ∃ c, c = p2 ++ gUN := ⟨_, rfl⟩
  have lp3 : p3.length ≤ 300 := by rw [ep3, List.length_append]; omega
  have dp3 := fun W => add_l p2 gUN p3 ep3.symm (by first | omega | decide) (by first | omega | decide) W
  obtain ⟨q1, eq1⟩ : ∃ c, c = ([114, 101, 116, 97, 105, 110, 32] : List UInt8) ++ gTG := ⟨_, rfl⟩
  have lq1 : q1.length ≤ 100 := by rw [eq1, List.length_append]; simp only [List.length_cons, List.length_nil]; omega
  have dq1 := fun W => add_l [114, 101, 116, 97, 105, 110, 32] gTG q1 eq1.symm (by first | omega | decide) (by first | omega | decide) W
  obtain ⟨q2, eq2⟩ : ∃ c, c = q1 ++ ([32] : List UInt8) := ⟨_, rfl⟩
  have lq2 : q2.length ≤ 200 := by rw [eq2, List.length_append]; simp only [List.length_cons, List.length_nil]; omega
  have dq2 := fun W => add_l q1 [32] q2 eq2.symm (by first | omega | decide) (by first | omega | decide) W
  obtain ⟨q3, eq3⟩ : ∃ c, c = q2 ++ gUN := ⟨_, rfl⟩
  have lq3 : q3.length ≤ 300 := by rw [eq3, List.length_append]; omega
  have dq3 := fun W => add_l q2 gUN q3 eq3.symm (by first | omega | decide) (by first | omega | decide) W
  obtain ⟨z1, ez1⟩ : ∃ c, c = q3 ++ ([32, 97, 116, 32] : List UInt8) := ⟨_, rfl⟩
  have lz1 : z1.length ≤ 400 := by rw [ez1, List.length_append]; simp only [List.length_cons, List.length_nil]; omega
  have dz1 := fun W => add_l q3 [32, 97, 116, 32] z1 ez1.symm (by first | omega | decide) (by first | omega | decide) W
  obtain ⟨z2, ez2⟩ : ∃ c, c = z1 ++ gTM := ⟨_, rfl⟩
  have lz2 : z2.length ≤ 500 := by rw [ez2, List.length_append]; omega
  have dz2 := fun W => add_l z1 gTM z2 ez2.symm (by first | omega | decide) (by first | omega | decide) W
  have HZ : Hid (told r = z2) := Lib.hid (by rw [HT.out, ez2, ez1, eq3, eq2, eq1])
  have t1 : (r.k == 1) = false := by rw [hk]; rfl
  have t2 : (r.k == 2) = true := by rw [hk]; rfl
  clear h hk hk0 hb HT ep1 ep2 ep3 eq1 eq2 eq3 ez1 ez2 lp1 lp2 lp3 lq1 lq2 lq3 lz1 lz2 lTG lUN lTM
  generalize told r = tr at *
  go_enter Tryd.func13, Tryd.ntmps13
  go_upto_region 1 with (fail)
  rw [← hW1]
  clear hW1
  go_upto_region 3 with (go_at_call 21; refine (HR.out _).mono ?_; rintro e w2 ⟨rfl, hb⟩; replace SS := Lib.hid (SS.out.step hb); clear hb HR k0 k1 k2 k3 k4 k5 k6 k7)
  replace SS := Lib.hid SS.out.drew
  have hS := SS.out.k.cells
  go_region_held3 (fun W' => W'.cell? ⟨w.heap.size, 0, none⟩ = some (.int .i64 r.k) ∧ W'.cell? ⟨w.heap.size, 1, none⟩ = some (.int .i64 r.ep) ∧ W'.cell? ⟨w.heap.size, 2, none⟩ = some (.int .i64 r.tm) ∧ W'.cell? ⟨w.heap.size, 3, none⟩ = some (.int .i64 r.ct) ∧ W'.cell? ⟨w.heap.size, 4, none⟩ = some (.int .i64 r.tg) ∧ W'.cell? ⟨w.heap.size, 5, none⟩ = some (.int .i64 r.un) ∧ W'.cell? ⟨w.heap.size, 6, none⟩ = some (.string ⟨r.rt.toArray⟩) ∧ W'.cell? ⟨w.heap.size, 7, none⟩ = some (.string ⟨r.nm.toArray⟩))
    (exact hS)
    (first
      | (go_at_call 29; refine (A1.out _).mono ?_; rintro e wA1 ⟨rfl, hb⟩; replace SS := Lib.hid (SS.out.step hb); replace hS := SS.out.k.cells; clear hb A1)
      | (go_at_call 29; refine (A2.out _).mono ?_; rintro e wA2 ⟨rfl, hb⟩; replace SS := Lib.hid (SS.out.step hb); replace hS := SS.out.k.cells; clear hb A2))
  obtain ⟨k0, k1, k2, k3, k4, k5, k6, k7⟩ := hS
  go_upto_region 8 with (fail)
  replace SS := Lib.hid SS.out.drew
  clear k0 k1 k2 k3 k4 k5 k6 k7
  have hS := SS.out.k.cells
  go_region_held3 (fun W' => W'.cell? ⟨w.heap.size, 0, none⟩ = some (.int .i64 r.k) ∧ W'.cell? ⟨w.heap.size, 1, none⟩ = some (.int .i64 r.ep) ∧ W'.cell? ⟨w.heap.size, 2, none⟩ = some (.int .i64 r.tm) ∧ W'.cell? ⟨w.heap.size, 3, none⟩ = some (.int .i64 r.ct) ∧ W'.cell? ⟨w.heap.size, 4, none⟩ = some (.int .i64 r.tg) ∧ W'.cell? ⟨w.heap.size, 5, none⟩ = some (.int .i64 r.un) ∧ W'.cell? ⟨w.heap.size, 6, none⟩ = some (.string ⟨r.rt.toArray⟩) ∧ W'.cell? ⟨w.heap.size, 7, none⟩ = some (.string ⟨r.nm.toArray⟩))
    (exact hS)
    (first
      | (go_at_call 29; refine (B1.out _).mono ?_; rintro e wB1 ⟨rfl, hb⟩; replace SS := Lib.hid (SS.out.step hb); replace hS := SS.out.k.cells; clear hb B1)
      | (go_at_call 29; refine (B2.out _).mono ?_; rintro e wB2 ⟨rfl, hb⟩; replace SS := Lib.hid (SS.out.step hb); replace hS := SS.out.k.cells; clear hb B2))
  obtain ⟨k0, k1, k2, k3, k4, k5, k6, k7⟩ := hS
  go_wp2_with (go_at_call 29; refine (C1.out _).mono ?_; rintro e wC ⟨rfl, hb⟩; replace SS := Lib.hid (SS.out.step hb); clear hb C1 k0 k1 k2 k3 k4 k5 k6 k7)
  go_ret
  rw [HZ.out]
  exact ⟨rfl, SS.out.bel⟩
theorem told_3 {r : Rec} (hk : r.k = 3) : told r = (((([104, 111, 108, 100, 32] ++ r.nm) ++ [32]) ++ dec r.tg) ++ [32, 97, 116, 32]) ++ dec r.tm := by
  rw [told_front, front, if_neg (by omega), if_neg (by omega), if_pos hk]
  rfl
set_option maxRecDepth 100000 in
set_option maxHeartbeats 2000000 in
theorem Show_3 (r : Rec) (h : right r) (hk : r.k = 3) (w : World) :
    Calls Tryd.prog 13 #[.agg #[.int .i64 r.k, .int .i64 r.ep, .int .i64 r.tm, .int .i64 r.ct, .int .i64 r.tg, .int .i64 r.un, .string ⟨r.rt.toArray⟩, .string ⟨r.nm.toArray⟩]] w fun e w' => e = .returned (.string ⟨(told r).toArray⟩) ∧ Below w.heap.size w w' := by
  obtain ⟨W1, hW1⟩ : ∃ W1, W1 = w.alloc (.cells #[.int .i64 r.k, .int .i64 r.ep, .int .i64 r.tm, .int .i64 r.ct, .int .i64 r.tg, .int .i64 r.un, .string ⟨r.rt.toArray⟩, .string ⟨r.nm.toArray⟩] 23) := ⟨_, rfl⟩
  have SS : Hid (Ws w r W1) := Lib.hid (by rw [hW1]; exact ws_new w r)
  obtain ⟨k0, k1, k2, k3, k4, k5, k6, k7⟩ := SS.out.k.cells
  have hb := bounds h
  have HR := Lib.hid (fun W => RecZ.Right r W)
  rw [dt h] at HR
  have A1 := Lib.hid (fun W => Digits r.tg hb.2.2.2.2.1.1 (by omega) W)
  have A2 := Lib.hid (fun W => Digits r.un hb.2.2.2.2.2.1.1 (by omega) W)
  have B1 := Lib.hid (fun W => Digits r.tg hb.2.2.2.2.1.1 (by omega) W)
  have C1 := Lib.hid (fun W => Digits r.tm hb.2.2.1.1 hb.2.2.1.2 W)
  have lTG : (dec r.tg).length ≤ 13 := dec_len hb.2.2.2.2.1.1 (by omega)
  have lUN : (dec r.un).length ≤ 13 := dec_len hb.2.2.2.2.2.1.1 (by omega)
  have lTM : (dec r.tm).length ≤ 13 := dec_len hb.2.2.1.1 hb.2.2.1.2
  have lNM : r.nm.length ≤ 16 := hb.2.2.2.2.2.2.2
  have hk0 := hk
  have HT := Lib.hid (told_3 hk)
  generalize dec r.tg = gTG at *
  generalize dec r.un = gUN at *
  generalize dec r.tm = gTM at *
  obtain ⟨p1, ep1⟩ : ∃ c, c = ([112, 117, 114, 103, 101, 32] : List UInt8) ++ gTG := ⟨_, rfl⟩
  have lp1 : p1.length ≤ 100 := by rw [ep1, List.length_append]; simp only [List.length_cons, List.length_nil]; omega
  have dp1 := fun W => add_l [112, 117, 114, 103, 101, 32] gTG p1 ep1.symm (by first | omega | decide) (by first | omega | decide) W
  obtain ⟨p2, ep2⟩ : ∃ c, c = p1 ++ ([32] : List UInt8) := ⟨_, rfl⟩
  have lp2 : p2.length ≤ 200 := by rw [ep2, List.length_append]; simp only [List.length_cons, List.length_nil]; omega
  have dp2 := fun W => add_l p1 [32] p2 ep2.symm (by first | omega | decide) (by first | omega | decide) W
  obtain ⟨p3, ep3⟩ : ∃ c, c = p2 ++ gUN := ⟨_, rfl⟩
  have lp3 : p3.length ≤ 300 := by rw [ep3, List.length_append]; omega
  have dp3 := fun W => add_l p2 gUN p3 ep3.symm (by first | omega | decide) (by first | omega | decide) W
  obtain ⟨q1, eq1⟩ : ∃ c, c = ([104, 111, 108, 100, 32] : List UInt8) ++ r.nm := ⟨_, rfl⟩
  have lq1 : q1.length ≤ 100 := by rw [eq1, List.length_append]; simp only [List.length_cons, List.length_nil]; omega
  have dq1 := fun W => add_l [104, 111, 108, 100, 32] r.nm q1 eq1.symm (by first | omega | decide) (by first | omega | decide) W
  obtain ⟨q2, eq2⟩ : ∃ c, c = q1 ++ ([32] : List UInt8) := ⟨_, rfl⟩
  have lq2 : q2.length ≤ 200 := by rw [eq2, List.length_append]; simp only [List.length_cons, List.length_nil]; omega
  have dq2 := fun W => add_l q1 [32] q2 eq2.symm (by first | omega | decide) (by first | omega | decide) W
  obtain ⟨q3, eq3⟩ : ∃ c, c = q2 ++ gTG := ⟨_, rfl⟩
  have lq3 : q3.length ≤ 300 := by rw [eq3, List.length_append]; omega
  have dq3 := fun W => add_l q2 gTG q3 eq3.symm (by first | omega | decide) (by first | omega | decide) W
  obtain ⟨z1, ez1⟩ : ∃ c, c = q3 ++ ([32, 97, 116, 32] : List UInt8) := ⟨_, rfl⟩
  have lz1 : z1.length ≤ 400 := by rw [ez1, List.length_append]; simp only [List.length_cons, List.length_nil]; omega
  have dz1 := fun W => add_l q3 [32, 97, 116, 32] z1 ez1.symm (by first | omega | decide) (by first | omega | decide) W
  obtain ⟨z2, ez2⟩ : ∃ c, c = z1 ++ gTM := ⟨_, rfl⟩
  have lz2 : z2.length ≤ 500 := by rw [ez2, List.length_append]; omega
  have dz2 := fun W => add_l z1 gTM z2 ez2.symm (by first | omega | decide) (by first | omega | decide) W
  have HZ : Hid (told r = z2) := Lib.hid (by rw [HT.out, ez2, ez1, eq3, eq2, eq1])
  have t1 : (r.k == 1) = false := by rw [hk]; rfl
  have t2 : (r.k == 2) = false := by rw [hk]; rfl
  have t3 : (r.k == 3) = true := by rw [hk]; rfl
  clear h hk hk0 hb HT ep1 ep2 ep3 eq1 eq2 eq3 ez1 ez2 lp1 lp2 lp3 lq1 lq2 lq3 lz1 lz2 lTG lUN lTM lNM
  generalize told r = tr at *
  go_enter Tryd.func13, Tryd.ntmps13
  go_upto_region 1 with (fail)
  rw [← hW1]
  clear hW1
  go_upto_region 3 with (go_at_call 21; refine (HR.out _).mono ?_; rintro e w2 ⟨rfl, hb⟩; replace SS := Lib.hid (SS.out.step hb); clear hb HR k0 k1 k2 k3 k4 k5 k6 k7)
  replace SS := Lib.hid SS.out.drew
  have hS := SS.out.k.cells
  go_region_held3 (fun W' => W'.cell? ⟨w.heap.size, 0, none⟩ = some (.int .i64 r.k) ∧ W'.cell? ⟨w.heap.size, 1, none⟩ = some (.int .i64 r.ep) ∧ W'.cell? ⟨w.heap.size, 2, none⟩ = some (.int .i64 r.tm) ∧ W'.cell? ⟨w.heap.size, 3, none⟩ = some (.int .i64 r.ct) ∧ W'.cell? ⟨w.heap.size, 4, none⟩ = some (.int .i64 r.tg) ∧ W'.cell? ⟨w.heap.size, 5, none⟩ = some (.int .i64 r.un) ∧ W'.cell? ⟨w.heap.size, 6, none⟩ = some (.string ⟨r.rt.toArray⟩) ∧ W'.cell? ⟨w.heap.size, 7, none⟩ = some (.string ⟨r.nm.toArray⟩))
    (exact hS)
    (first
      | (go_at_call 29; refine (A1.out _).mono ?_; rintro e wA1 ⟨rfl, hb⟩; replace SS := Lib.hid (SS.out.step hb); replace hS := SS.out.k.cells; clear hb A1)
      | (go_at_call 29; refine (A2.out _).mono ?_; rintro e wA2 ⟨rfl, hb⟩; replace SS := Lib.hid (SS.out.step hb); replace hS := SS.out.k.cells; clear hb A2))
  obtain ⟨k0, k1, k2, k3, k4, k5, k6, k7⟩ := hS
  go_upto_region 10 with (fail)
  replace SS := Lib.hid SS.out.drew
  clear k0 k1 k2 k3 k4 k5 k6 k7
  have hS := SS.out.k.cells
  go_region_held3 (fun W' => W'.cell? ⟨w.heap.size, 0, none⟩ = some (.int .i64 r.k) ∧ W'.cell? ⟨w.heap.size, 1, none⟩ = some (.int .i64 r.ep) ∧ W'.cell? ⟨w.heap.size, 2, none⟩ = some (.int .i64 r.tm) ∧ W'.cell? ⟨w.heap.size, 3, none⟩ = some (.int .i64 r.ct) ∧ W'.cell? ⟨w.heap.size, 4, none⟩ = some (.int .i64 r.tg) ∧ W'.cell? ⟨w.heap.size, 5, none⟩ = some (.int .i64 r.un) ∧ W'.cell? ⟨w.heap.size, 6, none⟩ = some (.string ⟨r.rt.toArray⟩) ∧ W'.cell? ⟨w.heap.size, 7, none⟩ = some (.string ⟨r.nm.toArray⟩))
    (exact hS)
    (first
      | (go_at_call 29; refine (B1.out _).mono ?_; rintro e wB1 ⟨rfl, hb⟩; replace SS := Lib.hid (SS.out.step hb); replace hS := SS.out.k.cells; clear hb B1))
  obtain ⟨k0, k1, k2, k3, k4, k5, k6, k7⟩ := hS
  go_wp2_with (go_at_call 29; refine (C1.out _).mono ?_; rintro e wC ⟨rfl, hb⟩; replace SS := Lib.hid (SS.out.step hb); clear hb C1 k0 k1 k2 k3 k4 k5 k6 k7)
  go_ret
  rw [HZ.out]
  exact ⟨rfl, SS.out.bel⟩
theorem told_4 {r : Rec} (hk : r.k = 4) : told r = (([114, 101, 108, 101, 97, 115, 101, 32] ++ r.nm) ++ [32, 97, 116, 32]) ++ dec r.tm := by
  rw [told_front, front, if_neg (by omega), if_neg (by omega), if_neg (by omega), if_pos hk]
  rfl
set_option maxRecDepth 100000 in
set_option maxHeartbeats 2000000 in
theorem Show_4 (r : Rec) (h : right r) (hk : r.k = 4) (w : World) :
    Calls Tryd.prog 13 #[.agg #[.int .i64 r.k, .int .i64 r.ep, .int .i64 r.tm, .int .i64 r.ct, .int .i64 r.tg, .int .i64 r.un, .string ⟨r.rt.toArray⟩, .string ⟨r.nm.toArray⟩]] w fun e w' => e = .returned (.string ⟨(told r).toArray⟩) ∧ Below w.heap.size w w' := by
  obtain ⟨W1, hW1⟩ : ∃ W1, W1 = w.alloc (.cells #[.int .i64 r.k, .int .i64 r.ep, .int .i64 r.tm, .int .i64 r.ct, .int .i64 r.tg, .int .i64 r.un, .string ⟨r.rt.toArray⟩, .string ⟨r.nm.toArray⟩] 23) := ⟨_, rfl⟩
  have SS : Hid (Ws w r W1) := Lib.hid (by rw [hW1]; exact ws_new w r)
  obtain ⟨k0, k1, k2, k3, k4, k5, k6, k7⟩ := SS.out.k.cells
  have hb := bounds h
  have HR := Lib.hid (fun W => RecZ.Right r W)
  rw [dt h] at HR
  have A1 := Lib.hid (fun W => Digits r.tg hb.2.2.2.2.1.1 (by omega) W)
  have A2 := Lib.hid (fun W => Digits r.un hb.2.2.2.2.2.1.1 (by omega) W)
  have C1 := Lib.hid (fun W => Digits r.tm hb.2.2.1.1 hb.2.2.1.2 W)
  have lTG : (dec r.tg).length ≤ 13 := dec_len hb.2.2.2.2.1.1 (by omega)
  have lUN : (dec r.un).length ≤ 13 := dec_len hb.2.2.2.2.2.1.1 (by omega)
  have lTM : (dec r.tm).length ≤ 13 := dec_len hb.2.2.1.1 hb.2.2.1.2
  have lNM : r.nm.length ≤ 16 := hb.2.2.2.2.2.2.2
  have hk0 := hk
  have HT := Lib.hid (told_4 hk)
  generalize dec r.tg = gTG at *
  generalize dec r.un = gUN at *
  generalize dec r.tm = gTM at *
  obtain ⟨p1, ep1⟩ : ∃ c, c = ([112, 117, 114, 103, 101, 32] : List UInt8) ++ gTG := ⟨_, rfl⟩
  have lp1 : p1.length ≤ 100 := by rw [ep1, List.length_append]; simp only [List.length_cons, List.length_nil]; omega
  have dp1 := fun W => add_l [112, 117, 114, 103, 101, 32] gTG p1 ep1.symm (by first | omega | decide) (by first | omega | decide) W
  obtain ⟨p2, ep2⟩ : ∃ c, c = p1 ++ ([32] : List UInt8) := ⟨_, rfl⟩
  have lp2 : p2.length ≤ 200 := by rw [ep2, List.length_append]; simp only [List.length_cons, List.length_nil]; omega
  have dp2 := fun W => add_l p1 [32] p2 ep2.symm (by first | omega | decide) (by first | omega | decide) W
  obtain ⟨p3, ep3⟩ : ∃ c, c = p2 ++ gUN := ⟨_, rfl⟩
  have lp3 : p3.length ≤ 300 := by rw [ep3, List.length_append]; omega
  have dp3 := fun W => add_l p2 gUN p3 ep3.symm (by first | omega | decide) (by first | omega | decide) W
  obtain ⟨q1, eq1⟩ : ∃ c, c = ([114, 101, 108, 101, 97, 115, 101, 32] : List UInt8) ++ r.nm := ⟨_, rfl⟩
  have lq1 : q1.length ≤ 100 := by rw [eq1, List.length_append]; simp only [List.length_cons, List.length_nil]; omega
  have dq1 := fun W => add_l [114, 101, 108, 101, 97, 115, 101, 32] r.nm q1 eq1.symm (by first | omega | decide) (by first | omega | decide) W
  obtain ⟨z1, ez1⟩ : ∃ c, c = q1 ++ ([32, 97, 116, 32] : List UInt8) := ⟨_, rfl⟩
  have lz1 : z1.length ≤ 400 := by rw [ez1, List.length_append]; simp only [List.length_cons, List.length_nil]; omega
  have dz1 := fun W => add_l q1 [32, 97, 116, 32] z1 ez1.symm (by first | omega | decide) (by first | omega | decide) W
  obtain ⟨z2, ez2⟩ : ∃ c, c = z1 ++ gTM := ⟨_, rfl⟩
  have lz2 : z2.length ≤ 500 := by rw [ez2, List.length_append]; omega
  have dz2 := fun W => add_l z1 gTM z2 ez2.symm (by first | omega | decide) (by first | omega | decide) W
  have HZ : Hid (told r = z2) := Lib.hid (by rw [HT.out, ez2, ez1, eq1])
  have t1 : (r.k == 1) = false := by rw [hk]; rfl
  have t2 : (r.k == 2) = false := by rw [hk]; rfl
  have t3 : (r.k == 3) = false := by rw [hk]; rfl
  have t4 : (r.k == 4) = true := by rw [hk]; rfl
  clear h hk hk0 hb HT ep1 ep2 ep3 eq1 ez1 ez2 lp1 lp2 lp3 lq1 lz1 lz2 lTG lUN lTM lNM
  generalize told r = tr at *
  go_enter Tryd.func13, Tryd.ntmps13
  go_upto_region 1 with (fail)
  rw [← hW1]
  clear hW1
  go_upto_region 3 with (go_at_call 21; refine (HR.out _).mono ?_; rintro e w2 ⟨rfl, hb⟩; replace SS := Lib.hid (SS.out.step hb); clear hb HR k0 k1 k2 k3 k4 k5 k6 k7)
  replace SS := Lib.hid SS.out.drew
  have hS := SS.out.k.cells
  go_region_held3 (fun W' => W'.cell? ⟨w.heap.size, 0, none⟩ = some (.int .i64 r.k) ∧ W'.cell? ⟨w.heap.size, 1, none⟩ = some (.int .i64 r.ep) ∧ W'.cell? ⟨w.heap.size, 2, none⟩ = some (.int .i64 r.tm) ∧ W'.cell? ⟨w.heap.size, 3, none⟩ = some (.int .i64 r.ct) ∧ W'.cell? ⟨w.heap.size, 4, none⟩ = some (.int .i64 r.tg) ∧ W'.cell? ⟨w.heap.size, 5, none⟩ = some (.int .i64 r.un) ∧ W'.cell? ⟨w.heap.size, 6, none⟩ = some (.string ⟨r.rt.toArray⟩) ∧ W'.cell? ⟨w.heap.size, 7, none⟩ = some (.string ⟨r.nm.toArray⟩))
    (exact hS)
    (first
      | (go_at_call 29; refine (A1.out _).mono ?_; rintro e wA1 ⟨rfl, hb⟩; replace SS := Lib.hid (SS.out.step hb); replace hS := SS.out.k.cells; clear hb A1)
      | (go_at_call 29; refine (A2.out _).mono ?_; rintro e wA2 ⟨rfl, hb⟩; replace SS := Lib.hid (SS.out.step hb); replace hS := SS.out.k.cells; clear hb A2))
  obtain ⟨k0, k1, k2, k3, k4, k5, k6, k7⟩ := hS
  go_wp2_with (go_at_call 29; refine (C1.out _).mono ?_; rintro e wC ⟨rfl, hb⟩; replace SS := Lib.hid (SS.out.step hb); clear hb C1 k0 k1 k2 k3 k4 k5 k6 k7)
  go_ret
  rw [HZ.out]
  exact ⟨rfl, SS.out.bel⟩
theorem told_5 {r : Rec} (hk : r.k = 5) : told r = (((([112, 117, 114, 103, 101, 32] ++ dec r.tg) ++ [32]) ++ dec r.un) ++ [32, 97, 116, 32]) ++ dec r.tm := by
  rw [told_front, front, if_neg (by omega), if_neg (by omega), if_neg (by omega), if_neg (by omega)]
  rfl
set_option maxRecDepth 100000 in
set_option maxHeartbeats 2000000 in
theorem Show_5 (r : Rec) (h : right r) (hk : r.k = 5) (w : World) :
    Calls Tryd.prog 13 #[.agg #[.int .i64 r.k, .int .i64 r.ep, .int .i64 r.tm, .int .i64 r.ct, .int .i64 r.tg, .int .i64 r.un, .string ⟨r.rt.toArray⟩, .string ⟨r.nm.toArray⟩]] w fun e w' => e = .returned (.string ⟨(told r).toArray⟩) ∧ Below w.heap.size w w' := by
  obtain ⟨W1, hW1⟩ : ∃ W1, W1 = w.alloc (.cells #[.int .i64 r.k, .int .i64 r.ep, .int .i64 r.tm, .int .i64 r.ct, .int .i64 r.tg, .int .i64 r.un, .string ⟨r.rt.toArray⟩, .string ⟨r.nm.toArray⟩] 23) := ⟨_, rfl⟩
  have SS : Hid (Ws w r W1) := Lib.hid (by rw [hW1]; exact ws_new w r)
  obtain ⟨k0, k1, k2, k3, k4, k5, k6, k7⟩ := SS.out.k.cells
  have hb := bounds h
  have HR := Lib.hid (fun W => RecZ.Right r W)
  rw [dt h] at HR
  have A1 := Lib.hid (fun W => Digits r.tg hb.2.2.2.2.1.1 (by omega) W)
  have A2 := Lib.hid (fun W => Digits r.un hb.2.2.2.2.2.1.1 (by omega) W)
  have C1 := Lib.hid (fun W => Digits r.tm hb.2.2.1.1 hb.2.2.1.2 W)
  have lTG : (dec r.tg).length ≤ 13 := dec_len hb.2.2.2.2.1.1 (by omega)
  have lUN : (dec r.un).length ≤ 13 := dec_len hb.2.2.2.2.2.1.1 (by omega)
  have lTM : (dec r.tm).length ≤ 13 := dec_len hb.2.2.1.1 hb.2.2.1.2
  have hk0 := hk
  have HT := Lib.hid (told_5 hk)
  generalize dec r.tg = gTG at *
  generalize dec r.un = gUN at *
  generalize dec r.tm = gTM at *
  obtain ⟨p1, ep1⟩ : ∃ c, c = ([112, 117, 114, 103, 101, 32] : List UInt8) ++ gTG := ⟨_, rfl⟩
  have lp1 : p1.length ≤ 100 := by rw [ep1, List.length_append]; simp only [List.length_cons, List.length_nil]; omega
  have dp1 := fun W => add_l [112, 117, 114, 103, 101, 32] gTG p1 ep1.symm (by first | omega | decide) (by first | omega | decide) W
  obtain ⟨p2, ep2⟩ : ∃ c, c = p1 ++ ([32] : List UInt8) := ⟨_, rfl⟩
  have lp2 : p2.length ≤ 200 := by rw [ep2, List.length_append]; simp only [List.length_cons, List.length_nil]; omega
  have dp2 := fun W => add_l p1 [32] p2 ep2.symm (by first | omega | decide) (by first | omega | decide) W
  obtain ⟨p3, ep3⟩ : ∃ c, c = p2 ++ gUN := ⟨_, rfl⟩
  have lp3 : p3.length ≤ 300 := by rw [ep3, List.length_append]; omega
  have dp3 := fun W => add_l p2 gUN p3 ep3.symm (by first | omega | decide) (by first | omega | decide) W
  obtain ⟨z1, ez1⟩ : ∃ c, c = p3 ++ ([32, 97, 116, 32] : List UInt8) := ⟨_, rfl⟩
  have lz1 : z1.length ≤ 400 := by rw [ez1, List.length_append]; simp only [List.length_cons, List.length_nil]; omega
  have dz1 := fun W => add_l p3 [32, 97, 116, 32] z1 ez1.symm (by first | omega | decide) (by first | omega | decide) W
  obtain ⟨z2, ez2⟩ : ∃ c, c = z1 ++ gTM := ⟨_, rfl⟩
  have lz2 : z2.length ≤ 500 := by rw [ez2, List.length_append]; omega
  have dz2 := fun W => add_l z1 gTM z2 ez2.symm (by first | omega | decide) (by first | omega | decide) W
  have HZ : Hid (told r = z2) := Lib.hid (by rw [HT.out, ez2, ez1, ep3, ep2, ep1])
  have t1 : (r.k == 1) = false := by rw [hk]; rfl
  have t2 : (r.k == 2) = false := by rw [hk]; rfl
  have t3 : (r.k == 3) = false := by rw [hk]; rfl
  have t4 : (r.k == 4) = false := by rw [hk]; rfl
  clear h hk hk0 hb HT ep1 ep2 ep3 ez1 ez2 lp1 lp2 lp3 lz1 lz2 lTG lUN lTM
  generalize told r = tr at *
  go_enter Tryd.func13, Tryd.ntmps13
  go_upto_region 1 with (fail)
  rw [← hW1]
  clear hW1
  go_upto_region 3 with (go_at_call 21; refine (HR.out _).mono ?_; rintro e w2 ⟨rfl, hb⟩; replace SS := Lib.hid (SS.out.step hb); clear hb HR k0 k1 k2 k3 k4 k5 k6 k7)
  replace SS := Lib.hid SS.out.drew
  have hS := SS.out.k.cells
  go_region_held3 (fun W' => W'.cell? ⟨w.heap.size, 0, none⟩ = some (.int .i64 r.k) ∧ W'.cell? ⟨w.heap.size, 1, none⟩ = some (.int .i64 r.ep) ∧ W'.cell? ⟨w.heap.size, 2, none⟩ = some (.int .i64 r.tm) ∧ W'.cell? ⟨w.heap.size, 3, none⟩ = some (.int .i64 r.ct) ∧ W'.cell? ⟨w.heap.size, 4, none⟩ = some (.int .i64 r.tg) ∧ W'.cell? ⟨w.heap.size, 5, none⟩ = some (.int .i64 r.un) ∧ W'.cell? ⟨w.heap.size, 6, none⟩ = some (.string ⟨r.rt.toArray⟩) ∧ W'.cell? ⟨w.heap.size, 7, none⟩ = some (.string ⟨r.nm.toArray⟩))
    (exact hS)
    (first
      | (go_at_call 29; refine (A1.out _).mono ?_; rintro e wA1 ⟨rfl, hb⟩; replace SS := Lib.hid (SS.out.step hb); replace hS := SS.out.k.cells; clear hb A1)
      | (go_at_call 29; refine (A2.out _).mono ?_; rintro e wA2 ⟨rfl, hb⟩; replace SS := Lib.hid (SS.out.step hb); replace hS := SS.out.k.cells; clear hb A2))
  obtain ⟨k0, k1, k2, k3, k4, k5, k6, k7⟩ := hS
  go_wp2_with (go_at_call 29; refine (C1.out _).mono ?_; rintro e wC ⟨rfl, hb⟩; replace SS := Lib.hid (SS.out.step hb); clear hb C1 k0 k1 k2 k3 k4 k5 k6 k7)
  go_ret
  rw [HZ.out]
  exact ⟨rfl, SS.out.bel⟩
theorem Show_no (r : Rec) (h : ¬ right r) (w : World) :
    Calls Tryd.prog 13 #[.agg #[.int .i64 r.k, .int .i64 r.ep, .int .i64 r.tm, .int .i64 r.ct, .int .i64 r.tg, .int .i64 r.un, .string ⟨r.rt.toArray⟩, .string ⟨r.nm.toArray⟩]] w fun e w' => e = .returned (.string ⟨#[]⟩) ∧ Below w.heap.size w w' := by
  obtain ⟨W1, hW1⟩ : ∃ W1, W1 = w.alloc (.cells #[.int .i64 r.k, .int .i64 r.ep, .int .i64 r.tm, .int .i64 r.ct, .int .i64 r.tg, .int .i64 r.un, .string ⟨r.rt.toArray⟩, .string ⟨r.nm.toArray⟩] 23) := ⟨_, rfl⟩
  have SS : Hid (Ws w r W1) := Lib.hid (by rw [hW1]; exact ws_new w r)
  obtain ⟨k0, k1, k2, k3, k4, k5, k6, k7⟩ := SS.out.k.cells
  have HR := Lib.hid (fun W => RecZ.Right r W)
  rw [df h] at HR
  clear h
  go_enter Tryd.func13, Tryd.ntmps13
  go_upto_region 1 with (fail)
  rw [← hW1]
  clear hW1
  go_wp2_with (go_at_call 21; refine (HR.out _).mono ?_; rintro e w2 ⟨rfl, hb⟩; replace SS := Lib.hid (SS.out.step hb); clear hb)
  go_ret
  exact ⟨rfl, SS.out.bel⟩
/-- What the document's Show answers. -/
theorem Show (r : Rec) (w : World) :
    Calls Tryd.prog 13 #[.agg #[.int .i64 r.k, .int .i64 r.ep, .int .i64 r.tm, .int .i64 r.ct, .int .i64 r.tg, .int .i64 r.un, .string ⟨r.rt.toArray⟩, .string ⟨r.nm.toArray⟩]] w fun e w' => e = .returned (.string ⟨(shown r).toArray⟩) ∧ Below w.heap.size w w' := by
  unfold shown
  by_cases h : right r
  · rw [if_pos h]
    have hk := (bounds h).1
    by_cases h1 : r.k = 1
    · exact Show_1 r h h1 w
    by_cases h2 : r.k = 2
    · exact Show_2 r h h2 w
    by_cases h3 : r.k = 3
    · exact Show_3 r h h3 w
    by_cases h4 : r.k = 4
    · exact Show_4 r h h4 w
    exact Show_5 r h (by omega) w
  · rw [if_neg h]
    exact Show_no r h w
end Go.Proofs.YtpnmhfaenmeimaaDoor.RecE
