/- The document's disk: Over, Write: the walks of their texts. No conditions but those that each lemma names. -/
import Derived.Test.YtofpflkkbkodaaaDkRA
namespace Go.Proofs.Ytofpflkkbkodaaa.DkRW
open Go.RowKit
open DkN DkM DkB DkW DkRA
/-- The three ways to be refused, and the one to be taken. -/
inductive Way (D : Dk) (i : Int) (s : ByteArray) : Prop
  | low (h : i < 0) (e : D.no i s = 4)
  | high (h0 : ¬ i < 0) (h : ¬ i < (D.bl.length : Int)) (e : D.no i s = 4)
  | size (h0 : ¬ i < 0) (h : i < (D.bl.length : Int)) (hs : s.size ≠ 4096) (e : D.no i s = 2)
  | good (h0 : ¬ i < 0) (h : i < (D.bl.length : Int)) (hs : s.size = 4096) (e : D.no i s = 0)
theorem way (D : Dk) (i : Int) (s : ByteArray) : Way D i s := by
  by_cases h0 : i < 0
  · exact .low h0 (by unfold Dk.no Dk.has; rw [if_neg (by simp; omega)])
  by_cases h1 : i < (D.bl.length : Int)
  · by_cases hs : s.size = 4096
    · exact .good h0 h1 hs (by unfold Dk.no Dk.has; rw [if_pos (by simp; omega), if_pos hs])
    · exact .size h0 h1 hs (by unfold Dk.no Dk.has; rw [if_pos (by simp; omega), if_neg hs])
  · exact .high h0 h1 (by unfold Dk.no Dk.has; rw [if_neg (by simp; omega)])
set_option maxRecDepth 100000 in
/-- THE CONTRACT of Over. -/
theorem Over {w : World} {b : Nat} {bv cv : Value} {D : Dk} (h : Has true w b bv cv D) (i : Int) (s : ByteArray) :
    Calls Try.prog 40 #[.pointer (some ⟨b, 0, none⟩), .int .i64 i, .string s] w fun e w' => e = .returned (.int .i64 ((D.over i s).1 : Nat)) ∧ Did true w b bv cv (D.over i s).2 w' := by
  have HD := Lib.hid h.same
  rcases way D i s with ⟨h0, e⟩ | ⟨h0, h1, e⟩ | ⟨h0, h1, hs, e⟩ | ⟨h0, h1, hs, e⟩
  · have e' : D.over i s = (4, D) := by unfold Dk.over; rw [e, if_neg (by omega)]
    rw [e']
    clear h e e'
    go_enter Try.func40, Try.ntmps40
    go_wp2
    go_ret
    exact ⟨rfl, HD.out⟩
  · have e' : D.over i s = (4, D) := by unfold Dk.over; rw [e, if_neg (by omega)]
    rw [e']
    obtain ⟨g, c, rfl⟩ := h.bv_eq
    have c0 := h.c0
    have h1' : (D.bl.length : Int) ≤ i := by omega
    clear h e e'
    generalize D.bl.length = m at *
    go_enter Try.func40, Try.ntmps40
    go_wp2
    go_ret
    exact ⟨rfl, HD.out⟩
  · have e' : D.over i s = (2, D) := by unfold Dk.over; rw [e, if_neg (by omega)]
    rw [e']
    obtain ⟨g, c, rfl⟩ := h.bv_eq
    have c0 := h.c0
    have h1' : ¬ (D.bl.length : Int) ≤ i := by omega
    have hne : ((s.size : Int) != 4096) = true := by rw [bne_iff_ne]; omega
    clear h e e' hs
    generalize D.bl.length = m at *
    go_enter Try.func40, Try.ntmps40
    go_wp2
    go_ret
    exact ⟨rfl, HD.out⟩
  · have ho := over_ok h.ok i s
    have e' : D.over i s = (0, { D with bl := D.bl.set i.toNat s }) := by unfold Dk.over; rw [if_pos e]
    rw [e'] at ho ⊢
    obtain ⟨k, rfl⟩ : ∃ k : Nat, i = (k : Int) := ⟨i.toNat, by omega⟩
    rw [Int.toNat_natCast] at *
    obtain ⟨g, c, rfl⟩ := h.bv_eq
    have c0 := h.c0
    have hk : k < D.bl.length := by omega
    have hc := h.block k hk
    have hf := h.block_free k
    have HD : Hid (Did true w b (.slice (some ⟨g, 0, none⟩) D.bl.length c) cv { D with bl := D.bl.set k s } _) := did_rehead (Has.setBlock h k s ho) ((Kept.refl _ w).set_ (.inr (.inl rfl)) _ _)
    have h1' : ¬ (D.bl.length : Int) ≤ (k : Int) := by omega
    have hne : ((s.size : Int) != 4096) = false := by rw [hs]; rfl
    clear h e e' ho hs
    generalize D.bl[k] = x at *
    generalize D.bl.length = m at *
    go_enter Try.func40, Try.ntmps40
    go_wp2
    go_ret
    exact ⟨rfl, HD.out⟩
theorem Write_down {w : World} {b : Nat} {bv cv : Value} {D : Dk} (h : Has true w b bv cv D) (i : Int) (s : ByteArray) (hd : D.down = true) :
    Calls Try.prog 34 #[.pointer (some ⟨b, 0, none⟩), .int .i64 i, .string s] w fun e w' => e = .returned (.int .i64 ((D.wr i s).1 : Nat)) ∧ Did true w b bv cv (D.wr i s).2 w' := by
  have h2 := h.r2
  rw [hd] at h2
  have e : D.wr i s = (14, D) := by unfold Dk.wr; rw [if_pos hd]
  rw [e]
  have HD := Lib.hid h.same
  clear h hd e
  go_enter Try.func34, Try.ntmps34
  go_wp2
  go_ret
  exact ⟨rfl, HD.out⟩
set_option maxRecDepth 100000 in
set_option maxHeartbeats 2000000 in
theorem Write_up {w : World} {b : Nat} {bv cv : Value} {D : Dk} (h : Has true w b bv cv D) (i : Int) (s : ByteArray) (hd : D.down = false) :
    Calls Try.prog 34 #[.pointer (some ⟨b, 0, none⟩), .int .i64 i, .string s] w fun e w' => e = .returned (.int .i64 ((D.wr i s).1 : Nat)) ∧ Did true w b bv cv (D.wr i s).2 w' := by
  have h2 := h.r2
  rw [hd] at h2
  have hd' : ¬ D.down = true := by rw [hd]; exact Bool.false_ne_true
  have HD := Lib.hid h.same
  rcases way D i s with ⟨h0, e⟩ | ⟨h0, h1, e⟩ | ⟨h0, h1, hs, e⟩ | ⟨h0, h1, hs, e⟩
  · have e' : D.wr i s = (4, D) := by unfold Dk.wr; rw [if_neg hd', e, if_neg (by omega)]
    rw [e']
    clear h e e' hd hd'
    go_enter Try.func34, Try.ntmps34
    go_wp2
    go_ret
    exact ⟨rfl, HD.out⟩
  · have e' : D.wr i s = (4, D) := by unfold Dk.wr; rw [if_neg hd', e, if_neg (by omega)]
    rw [e']
    obtain ⟨g, c, rfl⟩ := h.bv_eq
    have c0 := h.c0
    have h1' : (D.bl.length : Int) ≤ i := by omega
    clear h e e' hd hd'
    generalize D.bl.length = m at *
    go_enter Try.func34, Try.ntmps34
    go_wp2
    go_ret
    exact ⟨rfl, HD.out⟩
  · have e' : D.wr i s = (2, D) := by unfold Dk.wr; rw [if_neg hd', e, if_neg (by omega)]
    rw [e']
    obtain ⟨g, c, rfl⟩ := h.bv_eq
    have c0 := h.c0
    have h1' : ¬ (D.bl.length : Int) ≤ i := by omega
    have hne : ((s.size : Int) != 4096) = true := by rw [bne_iff_ne]; omega
    clear h e e' hs hd hd'
    generalize D.bl.length = m at *
    go_enter Try.func34, Try.ntmps34
    go_wp2
    go_ret
    exact ⟨rfl, HD.out⟩
  · have c0 := h.c0
    have c1 := h.c1
    have h1' : ¬ (D.bl.length : Int) ≤ i := by omega
    have hne : ((s.size : Int) != 4096) = false := by rw [hs]; rfl
    by_cases hf : 4096 ≤ D.ca.length
    · have e' : D.wr i s = (5, D) := by unfold Dk.wr; rw [if_neg hd', if_pos e, if_pos hf]
      rw [e']
      have hf' : ((D.ca.length : Int) == 4096) = true := by rw [beq_iff_eq]; have := h.ok.few; omega
      obtain ⟨g, c, rfl⟩ := h.bv_eq
      obtain ⟨a, c', rfl⟩ := h.cv_eq
      clear h e e' hs hd hd' hf
      generalize D.bl.length = m at *
      generalize D.ca.length = n at *
      go_enter Try.func34, Try.ntmps34
      go_wp2
      go_ret
      exact ⟨rfl, HD.out⟩
    · have hf' : ((D.ca.length : Int) == 4096) = false := by rw [beq_eq_false_iff_ne]; omega
      have HS := Lib.hid (DkRA.last h hd)
      obtain ⟨g, c, rfl⟩ := h.bv_eq
      obtain ⟨a, c', rfl⟩ := h.cv_eq
      by_cases ha : D.armed = 1
      · have e' : D.wr i s = (14, D.tick) := by unfold Dk.wr; rw [if_neg hd', if_pos e, if_neg hf, if_pos ha]
        rw [e']
        rw [decide_eq_true ha] at HS
        clear h e e' hs hd hd' hf ha HD
        generalize D.bl.length = m at *
        generalize D.ca.length = n at *
        generalize D.tick = T at *
        go_enter Try.func34, Try.ntmps34
        go_wp2_with (go_at_call 61; refine (HS.out).mono ?_; rintro e w1 ⟨rfl, hd1⟩; have HD := Lib.hid hd1; clear hd1)
        go_ret
        exact ⟨rfl, HD.out⟩
      · have hok := wr_ok h.ok i s
        have e' : D.wr i s = (0, { D.tick with ca := D.tick.ca ++ [(i.toNat, s)] }) := by unfold Dk.wr; rw [if_neg hd', if_pos e, if_neg hf, if_neg ha]; rfl
        rw [e'] at hok ⊢
        rw [decide_eq_false ha] at HS
        obtain ⟨k, rfl⟩ : ∃ k : Nat, i = (k : Int) := ⟨i.toNat, by omega⟩
        rw [Int.toNat_natCast] at *
        have hl4 : D.tick.ca.length < 4096 := by show D.ca.length < 4096; omega
        clear h e e' hs hd hd' hf ha HD
        generalize D.bl.length = m at *
        generalize D.ca.length = n at *
        generalize D.tick = T at *
        have HO := Lib.hid hok
        clear hok
        obtain ⟨i0, hi, hz0, hz1, hz2⟩ := info_parts info_put
        go_enter Try.func34, Try.ntmps34
        go_wp2_with (first
          | (go_at_call 61; refine (HS.out).mono ?_; rintro e w1 ⟨rfl, cv1, hh1, hn1, hk1⟩; have HN := Lib.hid hn1; have HK := Lib.hid hk1; have HH := Lib.hid hh1; have cc1 := hh1.c1; have hrc := hh1.rc; clear hn1 hk1 hh1)
          | (at_builtin; refine wpList_append_own_at _ rfl _ _ 37 rfl 0 76 i0 (.agg #[.int .i64 0, .string ⟨#[]⟩]) 2 24 Try.underlying37 hi hz0 hz1 hz2 rfl (by decide) _ _ _ rfl (hrc.alloc _) ⟨w1.heap.size, 0, none⟩ 1 1 [.int .i64 (k : Int), .string s] rfl rfl (new_put _ _ _ _) (by simp [Value.oneCell']) (by unfold maxLen; omega) (by omega) (by omega) ?_; intro v' w2 hown hgrow _ hloc; obtain ⟨hc2, hf2, hd2⟩ := appended HH.out k s _ HO.out hown hgrow hloc; obtain ⟨a2, l2, c2, rfl⟩ := own_slice hown; have HD := Lib.hid hd2; clear hd2 hgrow hloc hown hrc cc1))
        go_ret
        exact ⟨rfl, Did.then_ HH.out HN.out HK.out HD.out⟩
/-- THE CONTRACT of Write. -/
theorem Write {w : World} {b : Nat} {bv cv : Value} {D : Dk} (h : Has true w b bv cv D) (i : Int) (s : ByteArray) :
    Calls Try.prog 34 #[.pointer (some ⟨b, 0, none⟩), .int .i64 i, .string s] w fun e w' => e = .returned (.int .i64 ((D.wr i s).1 : Nat)) ∧ Did true w b bv cv (D.wr i s).2 w' := by
  cases hd : D.down with
  | true => exact Write_down h i s hd
  | false => exact Write_up h i s hd
end Go.Proofs.Ytofpflkkbkodaaa.DkRW
