/- The main walk of the statement of checked receipts and their bytes. The condition: the rounds' numbers lie in the program's variable. -/
import Derived.Test.YtkidehngleglnaaGreatDoorRcpV
import Derived.Test.YtkidehngleglnaaGreatDoorRcpU
import Derived.Test.YtkidehngleglnaaGreatDoorLRcp
import Derived.Deep.RegionHeld3
import Derived.Deep.DeepCutAuto
namespace Go.Proofs.YtkidehngleglnaaGreatDoor.RcpW
set_option linter.unusedVariables false
open Go.RowKit
open RecN RecC RecQ STurn EvoN ChnN ChnM ChnC RcpN RcpC RcpT RcpU RcpD
/-- What is put, in two ways; what is taken, in two. -/
structure Puts (x : Rcp) (pa : List UInt8) (z : Int) (g : Bool) : Prop where
  pz : pcode x = z
  pg : decide (rok x) = g
  pp : (putR x).1 = pa
theorem puts_ways (x : Rcp) : ∃ pa z g, Puts x pa z g ∧ ((z = 0 ∧ g = true ∧ rok x ∧ pa = bytesR x) ∨ (z = 2 ∧ g = false)) := by
  by_cases h : rok x
  · exact ⟨bytesR x, 0, true, ⟨pcode_yes h, dt h, by rw [putR_yes h]⟩, .inl ⟨rfl, rfl, h, rfl⟩⟩
  · exact ⟨[], 2, false, ⟨pcode_no h, df h, by rw [putR_no h]⟩, .inr ⟨rfl, rfl⟩⟩
structure Takes (s : List UInt8) (y : Rcp) (l : List UInt8) (z : Int) (g : Bool) : Prop where
  tz : tcode s = z
  tg : decide (tookR s) = g
  ty : (takeR s).1 = y
  tl : (takeR s).2.1 = l
theorem takes_ways (s : List UInt8) : ∃ y l z g, Takes s y l z g ∧ ((z = 0 ∧ g = true ∧ rok y ∧ bytesR y ++ l = s) ∨ (z = 3 ∧ g = false)) := by
  by_cases h : tookR s
  · exact ⟨gotR s, _, 0, true, ⟨tcode_yes h, dt h, by rw [takeR_yes h], by rw [takeR_yes h]⟩, .inl ⟨rfl, rfl, h.2.2, put_take h⟩⟩
  · exact ⟨none_, [], 3, false, ⟨tcode_no h, df h, by rw [takeR_no h], by rw [takeR_no h]⟩, .inr ⟨rfl, rfl⟩⟩
theorem took_put {x : Rcp} (h : rok x) (l : List UInt8) : tookR (bytesR x ++ l) := by
  by_cases hh : tookR (bytesR x ++ l)
  · exact hh
  · have := take_put h l
    rw [takeR_no hh] at this
    cases this
theorem bytesR_len {x : Rcp} (h : rok x) : (bytesR x).length ≤ 1000000 := by
  have h1 := bytes_len h.1
  have h2 := bounds h.1
  have h3 : (be 4 x.q.toNat).length = 4 := be_length _ _
  have h4 := h.2.2.2.1
  have h5 := h.2.2.2.2
  simp only [bytesR, List.length_append]
  omega
set_option maxRecDepth 100000 in
set_option maxHeartbeats 8000000 in
theorem main (root : List UInt8) (f : Int) (x : Rcp) (s : List UInt8) (w : World) (hrd : Rds w) (hf : f ≤ 9223372036854775807) (hx : Fit x) (h1 : ¬ (1000 : Int) < (root.length : Int)) (h2 : fewR x = true) (h3 : ¬ (10000 : Int) < (s.length : Int))
    (h4 : f < 0 ∨ (0 ≤ f ∧ x.r.ep < f) ∨ (0 ≤ f ∧ f ≤ x.r.ep ∧ ¬ 40 < x.r.ep - f) ∨ (0 ≤ f ∧ f ≤ x.r.ep ∧ 40 < x.r.ep - f ∧ ¬ x.r.ep - f ≤ 4096)) :
    Calls Tryz.prog 3 #[.string ⟨root.toArray⟩, .int .i64 f, .agg #[.int .i64 x.q, .int .i64 x.r.k, .int .i64 x.r.ep, .int .i64 x.r.tm, .int .i64 x.r.ct, .int .i64 x.r.tg, .int .i64 x.r.un, .string ⟨x.r.rt.toArray⟩, .string ⟨x.r.nm.toArray⟩, .string ⟨x.was.toArray⟩, .string ⟨x.tag.toArray⟩], .string ⟨s.toArray⟩] w fun e w' => e = .returned (.bool true) ∧ Below w.heap.size w w' := by
  obtain ⟨W1, hW1⟩ : ∃ W1, W1 = w.alloc (.cells #[.int .i64 x.q, .int .i64 x.r.k, .int .i64 x.r.ep, .int .i64 x.r.tm, .int .i64 x.r.ct, .int .i64 x.r.tg, .int .i64 x.r.un, .string ⟨x.r.rt.toArray⟩, .string ⟨x.r.nm.toArray⟩, .string ⟨x.was.toArray⟩, .string ⟨x.tag.toArray⟩] 25) := ⟨_, rfl⟩
  have SS : Hid (Rs w x W1) := Lib.hid (by rw [hW1]; exact rs_new w x)
  obtain ⟨k0, k1, k2, k3, k4, k5, k6, k7, k8, k9, k10⟩ := SS.out.k.cells
  have hsl : s.length ≤ 10000 := by omega
  have hz1 := size_mk root
  have hz2 := size_mk s
  have HF := Lib.hid (fun W => RcpD.Few x W)
  rw [h2] at HF
  have HC1 := Lib.hid (fun W (hb : Below w.heap.size w W) => RcpK.Check root f x W (hrd.step hb) hf)
  have HC2 := Lib.hid (fun W => RcpV.Check root f x W hx.1.2)
  have HP1 := Lib.hid (fun W => RcpT.Put x W)
  have HP2 := Lib.hid (fun W => RcpV.Put x W)
  have HT1 := Lib.hid (fun W => RcpU.Take s W (by unfold maxLen; omega))
  have HT2 := Lib.hid (fun W => RcpU.TakeR s W (by unfold maxLen; omega))
  obtain ⟨pa, z1, g1, hP, hpw⟩ := puts_ways x
  obtain ⟨y, l, z2, g2, hT, htw⟩ := takes_ways s
  rw [hP.pp, hP.pz] at HP1
  rw [hP.pp, hP.pg] at HP2
  rw [hT.ty, hT.tl, hT.tz] at HT1
  rw [hT.ty, hT.tl, hT.tg] at HT2
  have HPy := Lib.hid (fun W => RcpT.Put y W)
  have HTp := Lib.hid (fun W (h : (pa ++ s).length ≤ maxLen) => RcpU.Take (pa ++ s) W h)
  have HAl := Lib.hid (fun W => RcpF.alive W)
  have HTW := Lib.hid htw
  have HPW := Lib.hid hpw
  have hmax := hx.2.1.2
  generalize checkC root f x = ck at *
  have hck : (ck != ck) = false := by simp
  clear hP hT hpw htw hx hrd hf h2
  go_enter Tryz.func3, Tryz.ntmps3
  go_upto_region 1 with (fail)
  rw [← hW1]
  clear hW1
  go_cut [63] (fun s63 wx => s63 = .bool false ∧ Rs w x wx)
  case first =>
    clear HC1 HC2 HP1 HP2 HT1 HT2 HPy HTp HAl HTW HPW hck
    rcases h4 with h4 | ⟨h4, h5⟩ | ⟨h4, h5, h6⟩ | ⟨h4, h5, h6, h7⟩
    · have p1 : ¬ 0 ≤ f := by omega
      go_wp2_with (go_at_call 4; refine (HF.out _).mono ?_; rintro e w2 ⟨rfl, hb⟩; replace SS := Lib.hid (SS.out.step hb); clear hb HF k0 k1 k2 k3 k4 k5 k6 k7 k8 k9 k10; obtain ⟨k0, k1, k2, k3, k4, k5, k6, k7, k8, k9, k10⟩ := SS.out.k.cells)
      go_meet
      exact ⟨by simp [*], SS.out⟩
    · have p1 : ¬ f ≤ x.r.ep := by omega
      go_wp2_with (go_at_call 4; refine (HF.out _).mono ?_; rintro e w2 ⟨rfl, hb⟩; replace SS := Lib.hid (SS.out.step hb); clear hb HF k0 k1 k2 k3 k4 k5 k6 k7 k8 k9 k10; obtain ⟨k0, k1, k2, k3, k4, k5, k6, k7, k8, k9, k10⟩ := SS.out.k.cells)
      go_meet
      exact ⟨by simp [*], SS.out⟩
    · go_wp2_with (go_at_call 4; refine (HF.out _).mono ?_; rintro e w2 ⟨rfl, hb⟩; replace SS := Lib.hid (SS.out.step hb); clear hb HF k0 k1 k2 k3 k4 k5 k6 k7 k8 k9 k10; obtain ⟨k0, k1, k2, k3, k4, k5, k6, k7, k8, k9, k10⟩ := SS.out.k.cells)
      go_meet
      exact ⟨by simp [*], SS.out⟩
    · go_wp2_with (go_at_call 4; refine (HF.out _).mono ?_; rintro e w2 ⟨rfl, hb⟩; replace SS := Lib.hid (SS.out.step hb); clear hb HF k0 k1 k2 k3 k4 k5 k6 k7 k8 k9 k10; obtain ⟨k0, k1, k2, k3, k4, k5, k6, k7, k8, k9, k10⟩ := SS.out.k.cells)
      go_meet
      exact ⟨by simp [*], SS.out⟩
  case rest =>
    obtain ⟨rfl, hss⟩ := hcut
    clear SS k0 k1 k2 k3 k4 k5 k6 k7 k8 k9 k10 HF h4
    have SS := Lib.hid hss
    clear hss
    go_upto_region 3 with (fail)
    go_cut [73] (fun s73 wx => s73 = .bool false ∧ Rs w x wx)
    case first =>
      clear HP1 HP2 HT1 HT2 HPy HTp HAl HTW HPW
      replace SS := Lib.hid (SS.out.step (Below.refl _ _).drew)
      have hS := SS.out.k.cells
      go_region_held3 (fun W' => W'.cell? ⟨w.heap.size, 0, none⟩ = some (.int .i64 x.q) ∧ W'.cell? ⟨w.heap.size, 1, none⟩ = some (.int .i64 x.r.k) ∧ W'.cell? ⟨w.heap.size, 2, none⟩ = some (.int .i64 x.r.ep) ∧ W'.cell? ⟨w.heap.size, 3, none⟩ = some (.int .i64 x.r.tm) ∧ W'.cell? ⟨w.heap.size, 4, none⟩ = some (.int .i64 x.r.ct) ∧ W'.cell? ⟨w.heap.size, 5, none⟩ = some (.int .i64 x.r.tg) ∧ W'.cell? ⟨w.heap.size, 6, none⟩ = some (.int .i64 x.r.un) ∧ W'.cell? ⟨w.heap.size, 7, none⟩ = some (.string ⟨x.r.rt.toArray⟩) ∧ W'.cell? ⟨w.heap.size, 8, none⟩ = some (.string ⟨x.r.nm.toArray⟩) ∧ W'.cell? ⟨w.heap.size, 9, none⟩ = some (.string ⟨x.was.toArray⟩) ∧ W'.cell? ⟨w.heap.size, 10, none⟩ = some (.string ⟨x.tag.toArray⟩))
        (exact hS)
        (first
          | (go_at_call 6; refine (HC1.out _ SS.out.bel).mono ?_; rintro e w3 ⟨rfl, hb⟩; replace SS := Lib.hid (SS.out.step hb); replace hS := SS.out.k.cells; clear hb HC1)
          | (go_at_call 7; refine (HC2.out _).mono ?_; rintro e w4 ⟨rfl, hb⟩; replace SS := Lib.hid (SS.out.step hb); replace hS := SS.out.k.cells; clear hb HC2))
      all_goals
        clear hS
        go_wp2_with fail
        go_meet
        exact ⟨by simp, SS.out⟩
    case rest =>
      obtain ⟨rfl, hss⟩ := hcut
      clear SS HC1 HC2 hck
      have SS := Lib.hid hss
      clear hss
      obtain ⟨k0, k1, k2, k3, k4, k5, k6, k7, k8, k9, k10⟩ := SS.out.k.cells
      go_upto_region 8 with (first
        | (go_at_call 8; refine (HP1.out _).mono ?_; rintro e w5 ⟨rfl, hb⟩; replace SS := Lib.hid (SS.out.step hb); clear hb HP1 k0 k1 k2 k3 k4 k5 k6 k7 k8 k9 k10; obtain ⟨k0, k1, k2, k3, k4, k5, k6, k7, k8, k9, k10⟩ := SS.out.k.cells)
        | (go_at_call 9; refine (HP2.out _).mono ?_; rintro e w6 ⟨rfl, hb⟩; replace SS := Lib.hid (SS.out.step hb); clear hb HP2 k0 k1 k2 k3 k4 k5 k6 k7 k8 k9 k10)
        | (go_at_call 10; refine (HT1.out _).mono ?_; rintro e w7 ⟨rfl, hb⟩; replace SS := Lib.hid (SS.out.step hb); clear hb HT1)
        | (refine wpList_store_row rfl 25 _ _ rfl w7.heap.size _ rfl rfl 25 _ (heap_alloc_new w7 _) infoP rfl (one11 y) ?_))
      have S8 := Lib.hid (SS.out.step (kept_new w7 #[.int .i64 0, .int .i64 0, .int .i64 0, .int .i64 0, .int .i64 0, .int .i64 0, .int .i64 0, .string ⟨#[]⟩, .string ⟨#[]⟩, .string ⟨#[]⟩, .string ⟨#[]⟩] #[.int .i64 y.q, .int .i64 y.r.k, .int .i64 y.r.ep, .int .i64 y.r.tm, .int .i64 y.r.ct, .int .i64 y.r.tg, .int .i64 y.r.un, .string ⟨y.r.rt.toArray⟩, .string ⟨y.r.nm.toArray⟩, .string ⟨y.was.toArray⟩, .string ⟨y.tag.toArray⟩] 25))
      have G13 : Hid (Br ((w7.alloc (.cells #[.int .i64 0, .int .i64 0, .int .i64 0, .int .i64 0, .int .i64 0, .int .i64 0, .int .i64 0, .string ⟨#[]⟩, .string ⟨#[]⟩, .string ⟨#[]⟩, .string ⟨#[]⟩] 25)).setRow w7.heap.size #[.int .i64 y.q, .int .i64 y.r.k, .int .i64 y.r.ep, .int .i64 y.r.tm, .int .i64 y.r.ct, .int .i64 y.r.tg, .int .i64 y.r.un, .string ⟨y.r.rt.toArray⟩, .string ⟨y.r.nm.toArray⟩, .string ⟨y.was.toArray⟩, .string ⟨y.tag.toArray⟩]) w7.heap.size y) := Lib.hid (has_new w7 _ _ _)
      clear SS
      revert S8 G13
      generalize World.setRow _ _ _ = W8
      generalize w7.heap.size = X13
      intro SS G13
      go_upto_region 9 with (first
        | (go_at_call 11; refine (HT2.out _).mono ?_; rintro e w8 ⟨rfl, hb⟩; replace SS := Lib.hid (SS.out.step hb); replace G13 := Lib.hid (G13.out.step hb); clear hb HT2)
        | (refine wpList_store_row rfl 25 _ _ rfl w8.heap.size _ rfl rfl 25 _ (heap_alloc_new w8 _) infoP rfl (one11 y) ?_))
      have S9 := Lib.hid (SS.out.step (kept_new w8 #[.int .i64 0, .int .i64 0, .int .i64 0, .int .i64 0, .int .i64 0, .int .i64 0, .int .i64 0, .string ⟨#[]⟩, .string ⟨#[]⟩, .string ⟨#[]⟩, .string ⟨#[]⟩] #[.int .i64 y.q, .int .i64 y.r.k, .int .i64 y.r.ep, .int .i64 y.r.tm, .int .i64 y.r.ct, .int .i64 y.r.tg, .int .i64 y.r.un, .string ⟨y.r.rt.toArray⟩, .string ⟨y.r.nm.toArray⟩, .string ⟨y.was.toArray⟩, .string ⟨y.tag.toArray⟩] 25))
      have H13 := Lib.hid (G13.out.step (kept_new w8 #[.int .i64 0, .int .i64 0, .int .i64 0, .int .i64 0, .int .i64 0, .int .i64 0, .int .i64 0, .string ⟨#[]⟩, .string ⟨#[]⟩, .string ⟨#[]⟩, .string ⟨#[]⟩] #[.int .i64 y.q, .int .i64 y.r.k, .int .i64 y.r.ep, .int .i64 y.r.tm, .int .i64 y.r.ct, .int .i64 y.r.tg, .int .i64 y.r.un, .string ⟨y.r.rt.toArray⟩, .string ⟨y.r.nm.toArray⟩, .string ⟨y.was.toArray⟩, .string ⟨y.tag.toArray⟩] 25))
      have G16 : Hid (Br ((w8.alloc (.cells #[.int .i64 0, .int .i64 0, .int .i64 0, .int .i64 0, .int .i64 0, .int .i64 0, .int .i64 0, .string ⟨#[]⟩, .string ⟨#[]⟩, .string ⟨#[]⟩, .string ⟨#[]⟩] 25)).setRow w8.heap.size #[.int .i64 y.q, .int .i64 y.r.k, .int .i64 y.r.ep, .int .i64 y.r.tm, .int .i64 y.r.ct, .int .i64 y.r.tg, .int .i64 y.r.un, .string ⟨y.r.rt.toArray⟩, .string ⟨y.r.nm.toArray⟩, .string ⟨y.was.toArray⟩, .string ⟨y.tag.toArray⟩]) w8.heap.size y) := Lib.hid (has_new w8 _ _ _)
      clear SS G13
      revert S9 H13 G16
      generalize World.setRow _ _ _ = W9
      generalize w8.heap.size = X16
      intro SS G13 G16
      obtain ⟨m0, m1, m2, m3, m4, m5, m6, m7, m8, m9, m10⟩ := G13.out.cells
      obtain ⟨n0, n1, n2, n3, n4, n5, n6, n7, n8, n9, n10⟩ := G16.out.cells
      go_cut [136] (fun s136 wx => s136 = .bool false ∧ Rs w x wx ∧ Br wx X13 y)
      case first =>
        have hny := fun W => run_neq_rcp y y true (by simp) W
        have e1 : (pa != pa) = false := by simp
        have e2 : (l != l) = false := by simp
        have ht := HTW.out
        have hp := HPW.out
        clear HTW HPW HPy HTp HAl
        rcases ht with ⟨rfl, rfl, _, _⟩ | ⟨rfl, rfl⟩
        all_goals
          rcases hp with ⟨rfl, rfl, _, _⟩ | ⟨rfl, rfl⟩
          all_goals
            go_wp2_with fail
            go_meet
            exact ⟨by simp, SS.out, G13.out⟩
      case rest =>
        obtain ⟨rfl, hss, hg⟩ := hcut
        clear SS G13 G16 m0 m1 m2 m3 m4 m5 m6 m7 m8 m9 m10 n0 n1 n2 n3 n4 n5 n6 n7 n8 n9 n10
        have SS := Lib.hid hss
        have G13 := Lib.hid hg
        clear hss hg
        go_upto_if 137 with (fail)
        go_cut [] (fun wx => Rs w x wx)
        case first =>
          have ht := HTW.out
          clear HTW HPW HTp HAl
          rcases ht with ⟨rfl, rfl, hy, hcat⟩ | ⟨rfl, rfl⟩
          · rw [putR_yes hy, pcode_yes hy] at HPy
            dsimp only at HPy
            have hll := congrArg List.length hcat
            rw [List.length_append] at hll
            have ad := add_l (bytesR y) l (by omega)
            rw [hcat] at ad
            clear hcat hll hy
            generalize bytesR y = by_ at *
            have e1 : (s != s) = false := by simp
            obtain ⟨m0, m1, m2, m3, m4, m5, m6, m7, m8, m9, m10⟩ := G13.out.cells
            go_wp2_with (go_at_call 8; refine (HPy.out _).mono ?_; rintro e w10 ⟨rfl, hb⟩; replace SS := Lib.hid (SS.out.step hb); clear hb HPy m0 m1 m2 m3 m4 m5 m6 m7 m8 m9 m10)
            go_meet
            exact SS.out
          · go_wp2_with fail
            go_meet
            exact SS.out
        case rest =>
          clear SS G13 HPy HTW
          have SS := Lib.hid hcut
          clear hcut
          have hp := HPW.out
          clear HPW
          rcases hp with ⟨rfl, rfl, hr, rfl⟩ | ⟨rfl, rfl⟩
          · have hbl := bytesR_len hr
            have ht := fun W => HTp.out W (by rw [List.length_append]; unfold maxLen; omega)
            rw [take_put hr, tcode_yes (took_put hr s)] at ht
            dsimp only at ht
            have HT := Lib.hid ht
            have ad := add_l (bytesR x) s (by omega)
            have heq := fun W => run_eql_rcp x x true (by simp) W
            have e1 : (s == s) = true := by simp
            clear ht hr hbl HTp
            generalize bytesR x ++ s = u at *
            go_upto_region 18 with (first
              | (go_at_call 10; refine (HT.out _).mono ?_; rintro e w11 ⟨rfl, hb⟩; replace SS := Lib.hid (SS.out.step hb); clear hb HT)
              | (refine wpList_store_row rfl 25 _ _ rfl w11.heap.size _ rfl rfl 25 _ (heap_alloc_new w11 _) infoP rfl (one11 x) ?_))
            have S12 := Lib.hid (SS.out.step (kept_new w11 #[.int .i64 0, .int .i64 0, .int .i64 0, .int .i64 0, .int .i64 0, .int .i64 0, .int .i64 0, .string ⟨#[]⟩, .string ⟨#[]⟩, .string ⟨#[]⟩, .string ⟨#[]⟩] #[.int .i64 x.q, .int .i64 x.r.k, .int .i64 x.r.ep, .int .i64 x.r.tm, .int .i64 x.r.ct, .int .i64 x.r.tg, .int .i64 x.r.un, .string ⟨x.r.rt.toArray⟩, .string ⟨x.r.nm.toArray⟩, .string ⟨x.was.toArray⟩, .string ⟨x.tag.toArray⟩] 25))
            have G21 : Hid (Br ((w11.alloc (.cells #[.int .i64 0, .int .i64 0, .int .i64 0, .int .i64 0, .int .i64 0, .int .i64 0, .int .i64 0, .string ⟨#[]⟩, .string ⟨#[]⟩, .string ⟨#[]⟩, .string ⟨#[]⟩] 25)).setRow w11.heap.size #[.int .i64 x.q, .int .i64 x.r.k, .int .i64 x.r.ep, .int .i64 x.r.tm, .int .i64 x.r.ct, .int .i64 x.r.tg, .int .i64 x.r.un, .string ⟨x.r.rt.toArray⟩, .string ⟨x.r.nm.toArray⟩, .string ⟨x.was.toArray⟩, .string ⟨x.tag.toArray⟩]) w11.heap.size x) := Lib.hid (has_new w11 _ _ _)
            clear SS
            revert S12 G21
            generalize World.setRow _ _ _ = W12
            generalize w11.heap.size = X21
            intro SS G21
            obtain ⟨k0, k1, k2, k3, k4, k5, k6, k7, k8, k9, k10⟩ := SS.out.k.cells
            obtain ⟨m0, m1, m2, m3, m4, m5, m6, m7, m8, m9, m10⟩ := G21.out.cells
            go_wp2_with (go_at_call 5; refine (HAl.out _).mono ?_; rintro e w13 ⟨rfl, hb⟩; replace SS := Lib.hid (SS.out.step hb); clear hb HAl)
            go_ret
            exact ⟨rfl, SS.out.bel⟩
          · clear HTp
            go_wp2_with (go_at_call 5; refine (HAl.out _).mono ?_; rintro e w13 ⟨rfl, hb⟩; replace SS := Lib.hid (SS.out.step hb); clear hb HAl)
            go_ret
            exact ⟨rfl, SS.out.bel⟩
end Go.Proofs.YtkidehngleglnaaGreatDoor.RcpW
