/- The document's Right, less, In, Same: the walks of their texts. No conditions but those that each lemma names. -/
import Derived.Test.YtnebbbloipdnbaaIdxI
namespace Go.Proofs.Ytnebbbloipdnbaa.IdxQ
open Go.RowKit
open IdxN IdxM IdxC IdxD IdxH IdxI
set_option maxRecDepth 100000 in
theorem Right (v : V) (w : World) : Calls Try.prog 24 #[.agg #[.int .i64 v.1, .int .i64 v.2.1, .int .i64 v.2.2]] w fun e w' => e = .returned (.bool (may v)) ∧ Below w.heap.size w w' := by
  have HM := Lib.hid (may_iff v)
  have HX := Lib.hid (box_new w v)
  have HB := Lib.hid (below_new w (.cells #[.int .i64 v.1, .int .i64 v.2.1, .int .i64 v.2.2] 27))
  have hno : ∀ q : Prop, (may v = true ↔ q) → ¬ q → may v = false := fun q h hq => by
    cases hm : may v with
    | false => rfl
    | true => exact absurd (h.1 hm) hq
  have HN := Lib.hid (hno _ HM.out)
  clear hno
  obtain ⟨a, b, c⟩ := v
  dsimp only at HM HX HB HN ⊢
  generalize may (a, b, c) = q at *
  go_enter Try.func24, Try.ntmps24
  go_upto_region 1 with (fail)
  generalize World.alloc w _ = W1 at *
  obtain ⟨k0, k1, k2⟩ := HX.out
  dsimp only at k0 k1 k2
  clear HX
  by_cases h0 : 0 ≤ a
  · by_cases h1 : a ≤ 4095
    · by_cases h2 : 0 ≤ b
      · by_cases h3 : b ≤ 4294967295
        · by_cases h4 : 0 ≤ c
          · by_cases h5 : c ≤ 4294967295
            · have HQ := Lib.hid (HM.out.2 ⟨h0, h1, h2, h3, h4, h5⟩)
              clear HM HN
              go_wp2
              go_ret
              exact ⟨by rw [HQ.out] <;> rfl, HB.out⟩
            · have HQ := Lib.hid (HN.out (fun h => h5 h.2.2.2.2.2))
              clear HM HN
              go_wp2
              go_ret
              exact ⟨by rw [HQ.out] <;> rfl, HB.out⟩
          · have HQ := Lib.hid (HN.out (fun h => h4 h.2.2.2.2.1))
            clear HM HN
            go_wp2
            go_ret
            exact ⟨by rw [HQ.out] <;> rfl, HB.out⟩
        · have HQ := Lib.hid (HN.out (fun h => h3 h.2.2.2.1))
          clear HM HN
          go_wp2
          go_ret
          exact ⟨by rw [HQ.out] <;> rfl, HB.out⟩
      · have HQ := Lib.hid (HN.out (fun h => h2 h.2.2.1))
        clear HM HN
        go_wp2
        go_ret
        exact ⟨by rw [HQ.out] <;> rfl, HB.out⟩
    · have HQ := Lib.hid (HN.out (fun h => h1 h.2.1))
      clear HM HN
      go_wp2
      go_ret
      exact ⟨by rw [HQ.out] <;> rfl, HB.out⟩
  · have HQ := Lib.hid (HN.out (fun h => h0 h.1))
    clear HM HN
    go_wp2
    go_ret
    exact ⟨by rw [HQ.out] <;> rfl, HB.out⟩
theorem lt_l {a b : V} (h : ¬ a.1 = b.1) : lt a b = decide (a.1 < b.1) := by
  unfold lt
  rw [decide_eq_decide]
  unfold Lt
  omega
theorem lt_e {a b : V} (h : a.1 = b.1) (k : ¬ a.2.1 = b.2.1) : lt a b = decide (a.2.1 < b.2.1) := by
  unfold lt
  rw [decide_eq_decide]
  unfold Lt
  omega
theorem lt_s {a b : V} (h : a.1 = b.1) (k : a.2.1 = b.2.1) : lt a b = decide (a.2.2 < b.2.2) := by
  unfold lt
  rw [decide_eq_decide]
  unfold Lt
  omega
set_option maxRecDepth 100000 in
theorem less (a b : V) (w : World) : Calls Try.prog 33 #[.agg #[.int .i64 a.1, .int .i64 a.2.1, .int .i64 a.2.2], .agg #[.int .i64 b.1, .int .i64 b.2.1, .int .i64 b.2.2]] w fun e w' => e = .returned (.bool (lt a b)) ∧ Below w.heap.size w w' := by
  have HT := Lib.hid (IdxL.two_new w a b)
  have HB := Lib.hid (show Below w.heap.size w ((w.alloc (.cells #[.int .i64 a.1, .int .i64 a.2.1, .int .i64 a.2.2] 27)).alloc (.cells #[.int .i64 b.1, .int .i64 b.2.1, .int .i64 b.2.2] 27)) from ((Below.refl _ _).alloc (Nat.le_refl _) _).alloc (by simp) _)
  have h0 := @lt_l a b
  have h1 := @lt_e a b
  have h2 := @lt_s a b
  obtain ⟨a0, a1, a2⟩ := a
  obtain ⟨b0, b1, b2⟩ := b
  dsimp only at HT HB h0 h1 h2 ⊢
  have H0 := Lib.hid h0
  have H1 := Lib.hid h1
  have H2 := Lib.hid h2
  clear h0 h1 h2
  generalize lt (a0, a1, a2) (b0, b1, b2) = q at *
  go_enter Try.func33, Try.ntmps33
  go_upto_region 1 with (fail)
  generalize World.alloc (World.alloc w _) _ = W1 at *
  obtain ⟨k0, k1, k2, k3, k4, k5⟩ := HT.out
  dsimp only at k0 k1 k2 k3 k4 k5
  clear HT
  by_cases e0 : a0 = b0
  · subst e0
    by_cases e1 : a1 = b1
    · subst e1
      have HQ := Lib.hid (H2.out rfl rfl)
      clear H0 H1 H2
      go_wp2
      go_ret
      exact ⟨by rw [HQ.out] <;> rfl, HB.out⟩
    · have HQ := Lib.hid (H1.out rfl e1)
      have e1' : (a1 == b1) = false := by rw [beq_eq_false_iff_ne]; exact e1
      clear H0 H1 H2 e1
      go_wp2
      go_ret
      exact ⟨by rw [HQ.out] <;> rfl, HB.out⟩
  · have HQ := Lib.hid (H0.out e0)
    have e0' : (a0 == b0) = false := by rw [beq_eq_false_iff_ne]; exact e0
    clear H0 H1 H2 e0
    go_wp2
    go_ret
    exact ⟨by rw [HQ.out] <;> rfl, HB.out⟩
theorem mem_take_succ (l : List V) (v : V) (j : Nat) (h : j < l.length) : v ∈ l.take (j + 1) ↔ v ∈ l.take j ∨ l[j] = v := by
  rw [List.take_succ_eq_append_getElem h, List.mem_append, List.mem_singleton]
  exact or_congr Iff.rfl eq_comm
set_option maxRecDepth 100000 in
set_option maxHeartbeats 1000000 in
theorem In (a : Option Addr) (c : Nat) (l : List V) (v : V) (w : World) (h : Lies w a l) (hl : l.length ≤ 100000) :
    Calls Try.prog 23 #[.slice a l.length c, .agg #[.int .i64 v.1, .int .i64 v.2.1, .int .i64 v.2.2]] w fun e w' => e = .returned (.bool (decide (v ∈ l))) ∧ Below w.heap.size w w' := by
  have HX := Lib.hid (box_new w v)
  have HB := Lib.hid (below_new w (.cells #[.int .i64 v.1, .int .i64 v.2.1, .int .i64 v.2.2] 27))
  have HL := Lib.hid (h.step HB.out)
  have HQ := Lib.hid (fun (j : Nat) (hj : j < l.length) W => run_eql_ver W l[j] v)
  clear h
  go_enter Try.func23, Try.ntmps23
  go_upto_region 1 with (fail)
  generalize World.alloc w _ = W1 at *
  go_wp2_with fail
  go_loopw [5] (fun i wr => ∃ j : Nat, j ≤ l.length ∧ i = .int .i64 j ∧ ¬ v ∈ l.take j ∧ Below W1.heap.size W1 wr) (fun i _ => l.length - (intOf i).toNat)
  case atStart => exact ⟨0, Nat.zero_le _, rfl, by simp, Below.refl _ _⟩
  case round =>
    obtain ⟨j, hj, rfl, hn, hb⟩ := hrel
    have BW := Lib.hid hb
    have HN := Lib.hid hn
    clear hb hn
    by_cases hlt : j < l.length
    · obtain ⟨g, o, rfl, hg, hat⟩ := (HL.out.step BW.out).at_ (by omega)
      obtain ⟨m0, m1, m2⟩ := hat j hlt
      obtain ⟨k0, k1, k2⟩ := HX.out.step BW.out
      have hjl : (j : Int) < (l.length : Int) := by omega
      have hQ := HQ.out j hlt
      have HM := Lib.hid (mem_take_succ l v j hlt)
      clear hat
      have hne : ∀ {u}, l[j] = u → ¬ u = v → ¬ v ∈ l.take (j + 1) := fun {u} e he hm => (HM.out.1 hm).elim HN.out (fun h => he (e ▸ h))
      have hyes : l[j] = v → v ∈ l := fun he => List.mem_of_mem_take (HM.out.2 (.inr he))
      generalize hu : l[j] = u at *
      have HNE := Lib.hid (hne rfl)
      have HY := Lib.hid hyes
      clear hne hyes HM hu HQ
      by_cases he : u = v
      · rw [decide_eq_true he] at hQ
        have HV := Lib.hid (decide_eq_true (HY.out he))
        clear he
        obtain ⟨u0, u1, u2⟩ := u
        obtain ⟨v0, v1, v2⟩ := v
        dsimp only at *
        go_wp2_with fail
        go_quiet (fail)
        go_wp2
        go_ret
        exact ⟨by rw [HV.out] <;> rfl, (HB.out.trans (BW.out.mono HB.out.size)).trans (below_drewN _ _)⟩
      · rw [decide_eq_false he] at hQ
        have HV := Lib.hid (HNE.out he)
        clear he
        obtain ⟨u0, u1, u2⟩ := u
        obtain ⟨v0, v1, v2⟩ := v
        dsimp only at *
        go_wp2_with fail
        go_quiet (fail)
        go_wp2
        go_roundw
        case rel => exact ⟨j + 1, by omega, by go_num, HV.out, BW.out.trans (below_drewN _ _)⟩
        case measure => simp [intOf]; omega
    · obtain rfl : j = l.length := by omega
      have HV := Lib.hid (decide_eq_false (by have := HN.out; rwa [List.take_length] at this))
      go_wp2
      go_ret
      exact ⟨by rw [HV.out] <;> rfl, HB.out.trans (BW.out.mono HB.out.size)⟩
theorem eq_take (a b : List V) (h : a.length = b.length) (k : a.take a.length = b.take a.length) : a = b := by
  rw [List.take_length, h, List.take_length] at k
  exact k
theorem take_eq_succ (a b : List V) (j : Nat) (ha : j < a.length) (hb : j < b.length) (h : a.take j = b.take j) (k : a[j] = b[j]) : a.take (j + 1) = b.take (j + 1) := by
  rw [List.take_succ_eq_append_getElem ha, List.take_succ_eq_append_getElem hb, h, k]
set_option maxRecDepth 100000 in
set_option maxHeartbeats 1000000 in
theorem Same (a b : Option Addr) (c d : Nat) (l m : List V) (w : World) (h : Lies w a l) (k : Lies w b m) (hl : l.length ≤ 100000) (hm : m.length ≤ 100000) :
    Calls Try.prog 14 #[.slice a l.length c, .slice b m.length d] w fun e w' => e = .returned (.bool (decide (l = m))) ∧ Below w.heap.size w w' := by
  by_cases hlm : l.length = m.length
  · have HL := Lib.hid h
    have HM := Lib.hid k
    have HQ := Lib.hid (fun (j : Nat) (hj : j < l.length) (hk : j < m.length) W => run_neq_ver W l[j] m[j])
    have HLM := Lib.hid hlm
    clear h k
    have hli : (l.length : Int) = (m.length : Int) := by omega
    go_enter Try.func14, Try.ntmps14
    go_wp2_with fail
    go_loopw [5] (fun i wr => ∃ j : Nat, j ≤ l.length ∧ i = .int .i64 j ∧ l.take j = m.take j ∧ Below w.heap.size w wr) (fun i _ => l.length - (intOf i).toNat)
    case atStart => exact ⟨0, Nat.zero_le _, rfl, by simp, Below.refl _ _⟩
    case round =>
      obtain ⟨j, hj, rfl, hn, hb⟩ := hrel
      have BW := Lib.hid hb
      have HN := Lib.hid hn
      clear hb hn
      by_cases hlt : j < l.length
      · have hlt2 : j < m.length := by omega
        obtain ⟨g, o, rfl, hg, hat⟩ := (HL.out.step BW.out).at_ (by omega)
        obtain ⟨m0, m1, m2⟩ := hat j hlt
        obtain ⟨g', o', rfl, hg', hat'⟩ := (HM.out.step BW.out).at_ (by omega)
        obtain ⟨k0, k1, k2⟩ := hat' j hlt2
        have hjl : (j : Int) < (l.length : Int) := by omega
        have hjm : (j : Int) < (m.length : Int) := by omega
        have hQ := HQ.out j hlt hlt2
        have HT := Lib.hid (take_eq_succ l m j hlt hlt2 HN.out)
        have HF : Hid (¬ l[j] = m[j] → ¬ l = m) := Lib.hid fun h1 h2 => h1 (by subst h2; rfl)
        clear hat hat' HQ
        generalize l[j] = u at *
        generalize m[j] = v at *
        by_cases he : u = v
        · rw [decide_eq_true he] at hQ
          have HV := Lib.hid (HT.out he)
          clear he
          obtain ⟨u0, u1, u2⟩ := u
          obtain ⟨v0, v1, v2⟩ := v
          dsimp only at *
          go_wp2_with fail
          go_region
          go_wp2
          go_roundw
          case rel => exact ⟨j + 1, by omega, by go_num, HV.out, BW.out.trans (below_drewN _ _)⟩
          case measure => simp [intOf]; omega
        · rw [decide_eq_false he] at hQ
          have HV := Lib.hid (decide_eq_false (HF.out he))
          clear he
          obtain ⟨u0, u1, u2⟩ := u
          obtain ⟨v0, v1, v2⟩ := v
          dsimp only at *
          go_wp2_with fail
          go_region
          go_wp2
          go_ret
          exact ⟨by rw [HV.out] <;> rfl, BW.out.trans (below_drewN _ _)⟩
      · obtain rfl : j = l.length := by omega
        have HV := Lib.hid (decide_eq_true (eq_take l m HLM.out HN.out))
        go_wp2
        go_ret
        exact ⟨by rw [HV.out] <;> rfl, BW.out⟩
  · have HV := Lib.hid (decide_eq_false (show ¬ l = m from fun e => hlm (by rw [e])))
    have hne : ((l.length : Int) == (m.length : Int)) = false := by rw [beq_eq_false_iff_ne]; omega
    clear hlm h k
    go_enter Try.func14, Try.ntmps14
    go_wp2
    go_ret
    exact ⟨by rw [HV.out] <;> rfl, Below.refl _ _⟩
end Go.Proofs.Ytnebbbloipdnbaa.IdxQ
