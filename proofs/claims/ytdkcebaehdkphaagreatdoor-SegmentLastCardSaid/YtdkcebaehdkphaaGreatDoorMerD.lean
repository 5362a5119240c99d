/- The program's package merkle: beside: the walk of its text; the contract of what it iterates over. No conditions but those that each lemma names. -/
import Derived.Test.YtdkcebaehdkphaaGreatDoorLMerS
import Derived.Test.YtdkcebaehdkphaaGreatDoorMerF
import Derived.Test.YtdkcebaehdkphaaGreatDoorMerP
namespace Go.Proofs.YtdkcebaehdkphaaGreatDoor.MerD
open Go.RowKit Go.Shelf STurn SSum MerG MerQ MerN MerM MerC MerS MerB MerA MerL MerP
attribute [local go_sem] Oper.semAt_some
theorem beside_in (a : Option Addr) (n c : Nat) (i : Int) (w : World) : Calls Tryz.prog 94 #[sv, .slice a n c, .int .i64 i] w fun e w' =>
    e = .returned (.func (.func 115) #[] #[.pointer (some ⟨w.heap.size + 2, 0, none⟩), .pointer (some ⟨w.heap.size, 0, none⟩), .pointer (some ⟨w.heap.size + 1, 0, none⟩)]) ∧ w' = ((w.alloc (.cells #[sv] 125)).alloc (.cells #[.slice a n c] 42)).alloc (.cells #[.int .i64 i] 3) := by
  go_enter Tryz.func94, Tryz.ntmps94
  go_wp2
  go_ret
  exact ⟨rfl, rfl⟩
theorem alloc4 (w : World) (o0 o1 o2 o3 : Obj) : ((((w.alloc o0).alloc o1).alloc o2).alloc o3).heap.size = w.heap.size + 4 ∧ ((((w.alloc o0).alloc o1).alloc o2).alloc o3).heap[w.heap.size]? = some o0 ∧ ((((w.alloc o0).alloc o1).alloc o2).alloc o3).heap[w.heap.size + 1]? = some o1 ∧
    ((((w.alloc o0).alloc o1).alloc o2).alloc o3).heap[w.heap.size + 1 + 1]? = some o2 ∧ ((((w.alloc o0).alloc o1).alloc o2).alloc o3).heap[w.heap.size + 1 + 1 + 1]? = some o3 ∧ Below w.heap.size w ((((w.alloc o0).alloc o1).alloc o2).alloc o3) := by
  have h0 := World.alloc_heap_new w o0
  have h1 := World.alloc_heap_new (w.alloc o0) o1
  have h2 := World.alloc_heap_new ((w.alloc o0).alloc o1) o2
  have h3 := World.alloc_heap_new (((w.alloc o0).alloc o1).alloc o2) o3
  simp only [World.size_alloc] at h1 h2 h3
  refine ⟨by simp only [World.size_alloc], ?_, ?_, ?_, h3, (((((Below.refl _ w).alloc (Nat.le_refl _) _).alloc (by simp only [World.size_alloc]; omega) _).alloc (by simp only [World.size_alloc]; omega) _).alloc (by simp only [World.size_alloc]; omega) _)⟩
  · rw [Below.heap_alloc _ _ _ (by simp only [World.size_alloc]; omega), Below.heap_alloc _ _ _ (by simp only [World.size_alloc]; omega), Below.heap_alloc _ _ _ (by simp only [World.size_alloc]; omega), h0]
  · rw [Below.heap_alloc _ _ _ (by simp only [World.size_alloc]; omega), Below.heap_alloc _ _ _ (by simp only [World.size_alloc]; omega), h1]
  · rw [Below.heap_alloc _ _ _ (by simp only [World.size_alloc]; omega), h2]
/-- What lies while it runs: the function that it tells, and its place. -/
structure Sd (J : (Nat → Prop) → List L → World → Prop) (RO RI OB : Nat → Prop) (Xt Xa : Nat) (tv : Value) (T : Nat → Prop) (p : List L) (at_ : Nat) (W : World) : Prop where
  pass : Pass J RO RI OB T p W
  tell : W.heap[Xt]? = some (.cells #[tv] 172 (0, 0))
  box : Boxed W Xa 3 (.int .i64 (at_ : Int))
theorem Sd.turns {J : (Nat → Prop) → List L → World → Prop} {RO RI OB : Nat → Prop} {Xt Xa : Nat} {tv : Value} {T T' : Nat → Prop} {p : List L} {at_ : Nat} {A B : World} (h : Sd J RO RI OB Xt Xa tv T p at_ A) (hJ : Abide false J) (ht : OB Xt) (ha : OB Xa) (hT : Turns T T' A B) : Sd J RO RI OB Xt Xa tv T' p at_ B := by
  obtain ⟨U, h1, h2, h3, h4⟩ := h.pass
  exact ⟨h.pass.turns hJ hT, (hT.block _ (h3 _ ht).2.2.2 (h3 _ ht).2.1).trans h.tell, (hT.block _ (h3 _ ha).2.2.2 (h3 _ ha).2.1).trans h.box⟩
theorem Sd.went {J J' : (Nat → Prop) → List L → World → Prop} {RO RI OB : Nat → Prop} {Xt Xa : Nat} {tv : Value} {T : Nat → Prop} {p p' : List L} {at_ : Nat} {A B : World} (h : Sd J RO RI OB Xt Xa tv T p at_ A) (ht : OB Xt) (ha : OB Xa) (hk : Kept (fun b => (T b ∨ RI b) ∨ OB b) A B) (hP : Pass J' RO RI OB T p' B) : Sd J' RO RI OB Xt Xa tv T p' at_ B :=
  ⟨hP, hk.heap h.tell (.inr ht), hk.heap h.box (.inr ha)⟩
theorem Sd.set {J : (Nat → Prop) → List L → World → Prop} {RO RI OB : Nat → Prop} {Xt Xa : Nat} {tv : Value} {T : Nat → Prop} {p : List L} {at_ : Nat} {A : World} (h : Sd J RO RI OB Xt Xa tv T p at_ A) (hJ : Abide false J) (ha : OB Xa) (hne : Xt ≠ Xa) (n : Nat) (v : Int) (hv : (n : Int) = v) :
    Sd J RO RI OB Xt Xa tv T p n (A.setCell ⟨Xa, 0, none⟩ (.int .i64 v)) ∧ Kept (fun b => T b ∨ RI b) A (A.setCell ⟨Xa, 0, none⟩ (.int .i64 v)) := by
  subst hv
  obtain ⟨h1, h2⟩ := h.pass.own hJ (Turns.setCell (p := ⟨Xa, 0, none⟩) ha (.int .i64 (n : Int)))
  exact ⟨⟨h1, (Below.heap_setCell A ⟨Xa, 0, none⟩ _ Xt hne).trans h.tell, h.box.set _⟩, h2⟩
set_option maxRecDepth 100000 in
set_option maxHeartbeats 4000000 in
theorem beside1 (ls : List L) (hlen : ls.length ≤ 100000) (h32 : ∀ x ∈ ls, x.length = 32) (i : Nat) (hi : i < ls.length) (a : Option Addr) (c n₀ Bi Bs Bl : Nat) (RO : Nat → Prop) (hRO : ∀ b, b < n₀ → RO b) (hRi : RO Bi) (hRs : RO Bs) (hRl : RO Bl) (w : World) (hRw : ∀ b, RO b → b < w.heap.size)
    (hrow : Strs w n₀ a ls.length ls) (hrd : Rds w) (hgn : 0 < n₀) (h0 : w.cell? ⟨Bi, 0, none⟩ = some (.int .i64 (i : Int))) (h1 : w.cell? ⟨Bs, 0, none⟩ = some sv) (h2 : w.cell? ⟨Bl, 0, none⟩ = some (.slice a ls.length c)) :
    Seq false Fence.wide 5 Tryz.prog 115 #[.pointer (some ⟨Bi, 0, none⟩), .pointer (some ⟨Bs, 0, none⟩), .pointer (some ⟨Bl, 0, none⟩)] (fun x : L => #[str x]) (Nxt (pathN nd ls i)) (fun ys => ys = pathN nd ls i) (fun _ => True) RO w := by
  intro l J Jx W hW hJ hJx hY hJ0
  have c0 := hW.cell h0 hRi
  have c1 := hW.cell h1 hRs
  have c2 := hW.cell h2 hRl
  have hs0 := hW.size
  have HR := Lib.hid (rds_kept hrd hW (hRO _ hgn))
  have HW0 := Lib.hid (strs_kept hrow hW hRO)
  have HRW : Hid (∀ b, RO b → b < W.heap.size) := Lib.hid (fun b hb => Nat.lt_of_lt_of_le (hRw b hb) hs0)
  have HY := Lib.hid hY
  have HJ := Lib.hid hJ
  have HJx := Lib.hid hJx
  have HJ0 := Lib.hid hJ0
  have HL := Lib.hid hlen
  have HRO := Lib.hid hRO
  have hil : (i : Int) ≤ 100000 := by omega
  have b0 : Bi < W.heap.size := HRW.out _ hRi
  have b1 : Bs < W.heap.size := HRW.out _ hRs
  have b2 : Bl < W.heap.size := HRW.out _ hRl
  clear hW hJ hJx hY h0 h1 h2 hJ0 hrow hrd hlen hRO hRw
  refine callsIn_of_wp_marks Tryz.func115 rfl trivial ?_ rfl
  simp only [Tryz.ntmps115, List.size_toArray, List.length_cons, List.length_nil, Nat.reduceAdd, Nat.reduceSub, Array.replicate_succ, Array.replicate_zero, List.push_toArray, List.append_toArray, List.nil_append, List.cons_append]
  gi_wp2_with (refine ⟨trivial, ?_⟩; gi_at_call 91; refine (callsIn_wide.2 (levels_in _ _ _ _)).mono ?_; rintro e w' ⟨rfl, rfl⟩)
  obtain ⟨hsz, hX0, hX1, hX2, hX3, hB⟩ := alloc4 W (.cells #[.func (.yield l) #[] #[]] 172) (.cells #[.int .i64 (i : Int)] 3) (.cells #[sv] 125) (.cells #[.slice a ls.length c] 42)
  obtain ⟨W0, hW0⟩ : ∃ W0, (((W.alloc (.cells #[.func (.yield l) #[] #[]] 172)).alloc (.cells #[.int .i64 (i : Int)] 3)).alloc (.cells #[sv] 125)).alloc (.cells #[.slice a ls.length c] 42) = W0 := ⟨_, rfl⟩
  rw [hW0] at hsz hX0 hX1 hX2 hX3 hB ⊢
  clear hW0
  obtain ⟨RI, hRI⟩ : ∃ RI : Nat → Prop, RI = fun b => RO b ∨ b = W.heap.size + 1 + 1 ∨ b = W.heap.size + 1 + 1 + 1 := ⟨_, rfl⟩
  obtain ⟨OB, hOB⟩ : ∃ OB : Nat → Prop, OB = fun b => b = W.heap.size ∨ b = W.heap.size + 1 := ⟨_, rfl⟩
  have hOt : OB W.heap.size := by rw [hOB]; exact .inl rfl
  have hOa : OB (W.heap.size + 1) := by rw [hOB]; exact .inr rfl
  have hkb : Kept RO W W0 := ⟨hB.size, fun b hb _ => hB.block b hb⟩
  have hseq := levels1 4 (by omega) ls HL.out h32 a c n₀ (W.heap.size + 1 + 1 + 1) (W.heap.size + 1 + 1) RI (fun b hb => by rw [hRI]; exact .inl (HRO.out b hb)) (by rw [hRI]; exact .inr (.inr rfl)) (by rw [hRI]; exact .inr (.inl rfl)) W0
    (strs_kept HW0.out hkb HRO.out) (rds_kept HR.out hkb (HRO.out _ hgn)) hgn (blk_cell hX3 rfl) (blk_cell hX2 rfl)
  have h0 : Sd J RO RI OB W.heap.size (W.heap.size + 1) (.func (.yield l) #[] #[]) Non [] i W0 := by
    refine ⟨⟨fun b => W.heap.size ≤ b ∧ b < W0.heap.size, fun b hb => hb.elim, fun b hb => ?_, fun b hb => ?_, HJ.out _ _ _ _ _ HJ0.out ((Turns.of_below hB).less fun b hb => .inr hb) (.no _ _)⟩, hX0, hX1⟩
    · rw [hRI] at hb
      rcases hb with hb | hb | hb
      · exact .inr hb
      · exact .inl ⟨by omega, by omega⟩
      · exact .inl ⟨by omega, by omega⟩
    · rw [hOB] at hb
      rw [hRI]
      refine ⟨⟨by omega, by omega⟩, fun e => e, fun e => ?_, by omega⟩
      rcases e with e | e | e
      · have := HRW.out _ e; omega
      · omega
      · omega
  have hRIw : ∀ b, RI b → b < W0.heap.size := fun b hb => by
    rw [hRI] at hb
    rcases hb with hb | hb | hb
    · have := HRW.out _ hb; omega
    · omega
    · omega
  clear hRI hOB
  refine range rfl (show 1 ≤ 5 by omega) (gf := 113) (lb := #[.pointer (some ⟨W.heap.size + 1 + 1 + 1, 0, none⟩), .pointer (some ⟨W.heap.size + 1 + 1, 0, none⟩)]) rfl trivial (enters_of Tryz.func113 (by kernel_rfl) rfl)
    hseq hRIw (fun _ => rfl)
    (fun T pre W' => Sd J RO RI OB W.heap.size (W.heap.size + 1) (.func (.yield l) #[] #[]) T (path nd pre.length ls i) (i / 2 ^ pre.length) W') (fun j T pre W' => j = .ret ∧ ∃ p, Pass Jx RO RI OB T p W')
    (fun s T T' A B h ht _ => h.turns HJ.out hOt hOa ht) (fun j s T T' A B h ht _ => ⟨h.1, MerG.some_of h.2 fun p hp => hp.turns HJx.out ht⟩) (by simpa [MerN.path] using h0)
    (fun T s W' => Sd J RO RI OB W.heap.size (W.heap.size + 1) (.func (.yield l) #[] #[]) T (path nd s.1.length ls i) (i / 2 ^ s.1.length) W' ∧ RowK (fun b => T b ∨ RI b) W' s.2.1.1 s.2.1.2.1 s.2.1.2.2.2 ∧ s.2.1.2.2.2 = lvl nd s.1.length ls ∧
      s.2.2 = { tmps := #[.func (.yield l) #[] #[], .pointer (some ⟨Bi, 0, none⟩), .pointer (some ⟨Bs, 0, none⟩), .pointer (some ⟨Bl, 0, none⟩), .pointer (some ⟨W.heap.size, 0, none⟩), .pointer (some ⟨W.heap.size + 1, 0, none⟩), .slice s.2.1.1 s.2.1.2.1 s.2.1.2.2.1, undef, .int .i64 (i : Int), sv, .slice a ls.length c, .func (.func 113) #[] #[.pointer (some ⟨W.heap.size + 1 + 1 + 1, 0, none⟩), .pointer (some ⟨W.heap.size + 1 + 1, 0, none⟩)], .slice s.2.1.1 s.2.1.2.1 s.2.1.2.2.1, undef, undef, undef, undef, undef, undef, undef, undef, undef, undef, undef, undef, undef, undef, undef, undef, undef], defers := [] })
    (fun T s W' l' r r' ⟨hs, hr, h2⟩ hl ho => ⟨hs.turns HJ.out hOt hOa (Turns.putObj hl _), hr.putObj ho rfl _, h2⟩) ?assign ?body ?done ?stop
  case assign =>
    rintro l' T pre x W' K hI ⟨K0, hK0, hg, hgl⟩ hK
    simp only [encs]
    gi_wp2
    exact hK _ _ (Kept.refl _ _) ⟨hI, hg.mono hK0, hgl, rfl⟩
  case body =>
    rintro l' T pre ⟨a', n', c', lv⟩ a'' W' ⟨hS, hRow, hlv, ha⟩
    dsimp only at hS hRow hlv ha
    subst ha
    have hle := lvl_lt pre.length ls i hi
    rw [← hlv] at hle
    have HN := Lib.hid (path_snoc pre.length ls i)
    rw [← hlv] at HN
    have hqi : i / 2 ^ pre.length ≤ 100000 := Nat.le_trans (Nat.div_le_self _ _) (by omega)
    have hq2 : i / 2 ^ pre.length / 2 = i / 2 ^ (pre.length + 1) := by rw [Nat.div_div_eq_div_mul, Nat.pow_succ]
    have HQ2 := Lib.hid hq2
    have HPre := Lib.hid (path_pathN hi (pre.length + 1))
    have hnl := hRow.1
    clear hlv hq2
    generalize i / 2 ^ pre.length = q at *
    have HSib := Lib.hid (sib_oth lv q hle)
    rw [HSib.out] at HN
    clear HSib
    have HO := Lib.hid (fun W => other q (by omega) W)
    have cA := hS.box.cell
    have cF := hS.box.frozen
    have HS := Lib.hid hS
    have HRow := Lib.hid hRow
    have hol : oth q ≤ q + 1 := by unfold oth; split <;> omega
    obtain ⟨U, hU1, hU2, hU3, hU4⟩ := hS.pass
    have hlA := (hU3 _ hOa).2.2.2
    have hlT := (hU3 _ hOt).2.2.2
    rw [hnl] at hle HN
    clear hS hRow hU1 hU2 hU3 hU4 hnl
    generalize oth q = o at *
    gi_wp2_with (refine ⟨trivial, ?_⟩; gi_at_call 116; refine (CallsIn.inRound l' (callsIn_wide.2 (HO.out _))).mono ?_; rintro e w' ⟨rfl, rfl⟩)
    have HSd := Lib.hid (HS.out.turns HJ.out hOt hOa (Turns.drew W'))
    have HRd : Hid (RowK (fun b => T b ∨ RI b) W'.drew a' n' lv) := HRow
    have HKd : Hid (∀ K A, Kept K W'.drew A → Kept K W' A) := Lib.hid fun K A h => ⟨h.size, h.block⟩
    have hsD : W'.drew.heap.size = W'.heap.size := rfl
    have hpan : ∀ (o : Oper) (h : o = o), True := fun _ _ => trivial
    clear hpan HRow
    by_cases hlt : o < n'
    · obtain ⟨qb, off, rfl, hqb, hc⟩ := HRd.out.2 (by omega)
      have hcx := hc o hlt
      rw [if_pos hlt] at HN
      clear hc hqb
      generalize lv.getD o [] = x at *
      refine MerF.still_tail 10 (by kernel_rfl) (by kernel_rfl) (by kernel_rfl) ?_
      obtain ⟨WD, hWD⟩ : ∃ WD, W'.drew = WD := ⟨_, rfl⟩
      rw [hWD] at HSd HRd HKd hcx hsD ⊢
      have cT := blk_cell (i := 0) HSd.out.tell rfl
      have cA' := HSd.out.box.cell
      have cF' := HSd.out.box.frozen
      have q1 : (o : Int) < (n' : Int) := by omega
      have q0 : (0 : Int) ≤ (o : Int) := by omega
      clear cA cF hWD
      have HX := HSd.out.pass.yield HY.out x (fun K => by show _ <+: _; rw [← HN.out]; exact HPre.out)
      obtain ⟨fn, tmps, assign, body, hy, hR⟩ := yield_round l' (yield_any rfl (5 - 1 - 1 - 1) HX)
      simp only [List.take_succ_cons, List.take_zero, List.drop_succ_cons, List.drop_zero]
      repeat still_step
      refine wpStill_nil ?_
      gi_wp2
      refine hR.mono ?_
      rintro e W3 ⟨⟨rfl, hP3⟩ | ⟨rfl, hP3⟩, hk3⟩
      · have HS3 := Lib.hid (HSd.out.went hOt hOa hk3 hP3)
        have HK3 := Lib.hid (HKd.out _ _ (hk3.mono (T' := fun b => T b ∨ RI b) fun b hb => .inl hb) |>.trans (HS3.out.set HJ.out hOa (by omega) (q / 2) ((q : Int) / 2) (by omega)).2)
        have c3 := HS3.out.box.cell
        have f3 := HS3.out.box.frozen
        clear cT cA' cF' hcx hP3 hk3 hy hR HX
        gi_wp2
        refine ⟨HK3.out, ?_⟩
        have HZ := (HS3.out.set HJ.out hOa (by omega) (q / 2) ((q : Int) / 2) (by omega)).1
        rw [← HN.out, HQ2.out] at HZ
        dsimp only
        rw [List.length_append, List.length_singleton]
        exact HZ
      · gi_wp2
        exact ⟨HKd.out _ _ (hk3.mono fun b hb => .inl hb), rfl, _, hP3⟩
    · rw [if_neg hlt, List.append_nil] at HN
      refine MerF.still_tail 10 (by kernel_rfl) (by kernel_rfl) (by kernel_rfl) ?_
      obtain ⟨WD, hWD⟩ : ∃ WD, W'.drew = WD := ⟨_, rfl⟩
      rw [hWD] at HSd HRd HKd hsD ⊢
      have cA' := HSd.out.box.cell
      have cF' := HSd.out.box.frozen
      have q1 : ¬ (o : Int) < (n' : Int) := by omega
      have HK3 := Lib.hid (HKd.out _ _ (HSd.out.set HJ.out hOa (by omega) (q / 2) ((q : Int) / 2) (by omega)).2)
      clear cA cF hWD
      simp only [List.take_succ_cons, List.take_zero, List.drop_succ_cons, List.drop_zero]
      repeat still_step
      refine wpStill_nil ?_
      refine MerF.skip (by rfl) ?_
      refine MerF.skip (by rfl) ?_
      gi_wp2
      refine ⟨HK3.out, ?_⟩
      have HZ := (HSd.out.set HJ.out hOa (by omega) (q / 2) ((q : Int) / 2) (by omega)).1
      rw [← HN.out, HQ2.out] at HZ
      dsimp only
      rw [List.length_append, List.length_singleton]
      exact HZ
  case done =>
    rintro D T ys W' hD hT ⟨m, hm, hfew⟩ hS hK
    have HP := Lib.hid hS.pass
    rw [hm, path_end hi hfew] at HP
    clear hS
    gi_wp2
    refine ⟨by simp, .inl ⟨_, _, rfl, run_takeDeferred hK, ?_⟩⟩
    obtain ⟨U, hU⟩ := (HP.out.turns HJ.out (Turns.putObj hT (.deferred none))).last
    exact ⟨_, results_none rfl _ _ _, ⟨_, rfl⟩, U, .inl ⟨_, rfl, hU⟩⟩
  case stop =>
    rintro D j T pre W' hD hT _ ⟨rfl, p, hp⟩ hK
    gi_wp2
    refine ⟨by simp, .inl ⟨_, _, rfl, run_takeDeferred hK, ?_⟩⟩
    obtain ⟨U, hU⟩ := (hp.turns HJx.out (Turns.putObj hT (.deferred none))).last
    exact ⟨_, results_none rfl _ _ _, ⟨_, rfl⟩, U, .inr ⟨_, trivial, hU⟩⟩
end Go.Proofs.YtdkcebaehdkphaaGreatDoor.MerD
