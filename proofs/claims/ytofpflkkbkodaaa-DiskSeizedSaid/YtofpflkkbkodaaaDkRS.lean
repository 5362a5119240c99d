/- The document's disk: Shown, Read, Flush: the walks of their texts. No conditions but those that each lemma names. -/
import Derived.Test.YtofpflkkbkodaaaDkRW
import Derived.Deep.RegionHeld3
namespace Go.Proofs.Ytofpflkkbkodaaa.DkRS
open Go.RowKit
open DkN DkM DkB DkT DkRA DkRW
set_option maxRecDepth 100000 in
theorem Shown_k {w : World} {b : Nat} {bv cv : Value} {D : Dk} (h : Has true w b bv cv D) (i : Nat) (hi : i < D.bl.length) :
    Calls Try.prog 62 #[.pointer (some ⟨b, 0, none⟩), .int .i64 i] w fun e w' => e = .returned (.string (D.shown i)) ∧ w = w' := by
  have hv : D.shown (i : Int) = DkN.seen i D.ca D.bl[i] := by unfold Dk.shown; rw [Int.toNat_natCast]; simp [List.getD, hi]
  have HV := Lib.hid hv
  obtain ⟨a, c, rfl⟩ := h.cv_eq
  obtain ⟨g, cg, rfl⟩ := h.bv_eq
  have c0 := h.c0
  have c1 := h.c1
  have cb := h.block i hi
  have hfew := h.ok.few
  have HP := Lib.hid h.puts
  have hib : (i : Int) < (D.bl.length : Int) := by omega
  clear h hv
  generalize D.bl[i] = s0 at *
  generalize D.bl.length = m at *
  obtain ⟨n, hn⟩ : ∃ n, D.ca.length = n := ⟨_, rfl⟩
  rw [hn] at c1 hfew
  have HN := Lib.hid hn
  clear hn
  go_enter Try.func62, Try.ntmps62
  go_wp2_with fail
  go_loop [5, 6] (fun s k => ∃ j : Nat, j ≤ n ∧ k = .int .i64 j ∧ s = .string (DkN.seen i (D.ca.take j) s0)) (fun _ k => n - (intOf k).toNat)
  case atStart => exact ⟨0, Nat.zero_le _, rfl, rfl⟩
  case round =>
    obtain ⟨j, hj, rfl, rfl⟩ := hrel
    by_cases hlt : j < n
    · have hjl : j < D.ca.length := by rw [HN.out]; exact hlt
      obtain ⟨gc, oc, rfl, hgc, hcs⟩ := HP.out (by omega)
      obtain ⟨q0, q1⟩ := hcs j hjl
      have HX := Lib.hid (seen_next i D.ca s0 j hjl)
      have hjn : (j : Int) < (n : Int) := by omega
      clear hcs
      generalize D.ca[j] = x at *
      obtain ⟨p, t⟩ := x
      simp only at q0 q1 HX
      clear hjl
      generalize DkN.seen i (D.ca.take j) s0 = sv at *
      by_cases hp : p = i
      · rw [if_pos hp] at HX
        have he : ((p : Int) == (i : Int)) = true := by rw [beq_iff_eq]; omega
        clear hp
        go_wp2
        go_round
        case rel => exact ⟨j + 1, by omega, by go_num, by rw [HX.out]⟩
        case measure => simp [intOf]; omega
      · rw [if_neg hp] at HX
        have he : ((p : Int) == (i : Int)) = false := by rw [beq_eq_false_iff_ne]; omega
        clear hp
        go_wp2
        go_round
        case rel => exact ⟨j + 1, by omega, by go_num, by rw [HX.out]⟩
        case measure => simp [intOf]; omega
    · obtain rfl : j = n := by omega
      have ht : D.ca.take j = D.ca := List.take_of_length_le (by rw [HN.out]; exact Nat.le_refl _)
      rw [ht]
      go_wp2
      go_ret
      rw [HV.out]
      exact ⟨rfl, rfl⟩
theorem Shown {w : World} {b : Nat} {bv cv : Value} {D : Dk} (h : Has true w b bv cv D) (i : Int) (hi : D.has i = true) :
    Calls Try.prog 62 #[.pointer (some ⟨b, 0, none⟩), .int .i64 i] w fun e w' => e = .returned (.string (D.shown i)) ∧ w = w' := by
  have hi' : 0 ≤ i ∧ i < (D.bl.length : Int) := of_decide_eq_true hi
  obtain ⟨k, rfl⟩ : ∃ k : Nat, i = (k : Int) := ⟨i.toNat, by omega⟩
  exact Shown_k h k (by omega)
set_option maxRecDepth 100000 in
/-- THE CONTRACT of Read. -/
theorem Read {w : World} {b : Nat} {bv cv : Value} {D : Dk} (h : Has true w b bv cv D) (i : Int) :
    Calls Try.prog 35 #[.pointer (some ⟨b, 0, none⟩), .int .i64 i] w fun e w' => e = .returned (.tuple #[.string (D.rd i).1, .int .i64 ((D.rd i).2 : Nat)]) ∧ w = w' := by
  have h2 := h.r2
  cases hd : D.down with
  | true =>
    have e : D.rd i = (ByteArray.empty, 14) := by unfold Dk.rd; rw [if_pos hd]
    rw [e]
    rw [hd] at h2
    clear h hd e
    go_enter Try.func35, Try.ntmps35
    go_wp2
    go_ret2
    exact ⟨rfl, rfl⟩
  | false =>
    have hd' : ¬ D.down = true := by rw [hd]; exact Bool.false_ne_true
    rw [hd] at h2
    by_cases hi : D.has i = true
    · have HS := Lib.hid (Shown h i hi)
      have e : D.rd i = (D.shown i, 0) := by unfold Dk.rd; rw [if_neg hd', if_pos hi]
      rw [e]
      have hi' : 0 ≤ i ∧ i < (D.bl.length : Int) := of_decide_eq_true hi
      obtain ⟨g, cg, rfl⟩ := h.bv_eq
      have c0 := h.c0
      have h0 : ¬ i < 0 := by omega
      have h1 : ¬ (D.bl.length : Int) ≤ i := by omega
      clear h hd e hi hi' hd'
      generalize D.shown i = v at *
      generalize D.bl.length = m at *
      go_enter Try.func35, Try.ntmps35
      go_wp2_with (go_at_call 62; refine (HS.out).mono ?_; rintro e w1 ⟨rfl, rfl⟩)
      go_ret2
      exact ⟨rfl, rfl⟩
    · have e : D.rd i = (ByteArray.empty, 4) := by unfold Dk.rd; rw [if_neg hd', if_neg hi]
      rw [e]
      by_cases h0 : i < 0
      · clear h hd e hi hd'
        go_enter Try.func35, Try.ntmps35
        go_wp2
        go_ret2
        exact ⟨rfl, rfl⟩
      · obtain ⟨g, cg, rfl⟩ := h.bv_eq
        have c0 := h.c0
        have h1 : (D.bl.length : Int) ≤ i := by
          have hx : ¬ (0 ≤ i ∧ i < (D.bl.length : Int)) := fun q => hi (decide_eq_true q)
          omega
        clear h hd e hi hd'
        generalize D.bl.length = m at *
        go_enter Try.func35, Try.ntmps35
        go_wp2
        go_ret2
        exact ⟨rfl, rfl⟩
/-- The blocks when the first j are laid as they are shown. -/
def fl (ca : List (Nat × ByteArray)) (bl : List ByteArray) : Nat → List ByteArray
  | 0 => bl
  | j + 1 => (fl ca bl j).set j (DkN.seen j ca ((fl ca bl j).getD j ByteArray.empty))
theorem fl_length (ca : List (Nat × ByteArray)) (bl : List ByteArray) (j : Nat) : (fl ca bl j).length = bl.length := by
  induction j with
  | zero => rfl
  | succ j ih => rw [fl, List.length_set, ih]
theorem fl_ge (ca : List (Nat × ByteArray)) (bl : List ByteArray) (j k : Nat) (h : j ≤ k) : (fl ca bl j)[k]? = bl[k]? := by
  induction j with
  | zero => rfl
  | succ j ih => rw [fl, List.getElem?_set_ne (by omega), ih (by omega)]
theorem fl_lt (ca : List (Nat × ByteArray)) (bl : List ByteArray) (j k : Nat) (h : k < j) (hk : k < bl.length) : (fl ca bl j)[k]? = some (DkN.seen k ca bl[k]) := by
  induction j with
  | zero => omega
  | succ j ih =>
    by_cases hkj : k = j
    · subst hkj
      rw [fl, List.getElem?_set_self (by rw [fl_length]; exact hk), List.getD, fl_ge ca bl k k (Nat.le_refl _)]
      simp [hk]
    · rw [fl, List.getElem?_set_ne (by omega)]
      exact ih (by omega)
theorem fl_all (ca : List (Nat × ByteArray)) (bl : List ByteArray) : fl ca bl bl.length = kset (fun _ => true) 0 ca bl :=
  kset_seen ca bl _ (fl_length ca bl _) fun i hi => fl_lt ca bl _ i hi hi
theorem fl_full (ca : List (Nat × ByteArray)) (bl : List ByteArray) (p : ByteArray → Prop) (hb : ∀ s ∈ bl, p s) (hc : ∀ x ∈ ca, p x.2) (j : Nat) (hj : j ≤ bl.length) : ∀ s ∈ fl ca bl j, p s := by
  have seen_p : ∀ (l : List (Nat × ByteArray)) (k : Nat) (s : ByteArray), (∀ x ∈ l, p x.2) → p s → p (DkN.seen k l s) := by
    intro l
    induction l with
    | nil => intro k s _ h; exact h
    | cons x l ih =>
      intro k s hl hs
      rw [DkN.seen]
      refine ih k _ (fun y hy => hl y (List.mem_cons_of_mem _ hy)) ?_
      split
      · exact hl x (List.mem_cons_self ..)
      · exact hs
  induction j with
  | zero => exact hb
  | succ j ih =>
    intro s hs
    have ihj := ih (by omega)
    rcases List.mem_or_eq_of_mem_set hs with h | rfl
    · exact ihj s h
    · refine seen_p ca j _ hc ?_
      have hjl : j < (fl ca bl j).length := by rw [fl_length]; omega
      rw [show (fl ca bl j).getD j ByteArray.empty = (fl ca bl j)[j] by simp [List.getD, hjl]]
      exact ihj _ (List.getElem_mem hjl)
theorem fl_ok {D : Dk} (h : D.ok) (j : Nat) (hj : j ≤ D.bl.length) : Dk.ok { D with bl := fl D.ca D.bl j } :=
  ⟨by simpa [fl_length] using h.lo, by simpa [fl_length] using h.hi, fl_full D.ca D.bl _ h.full (fun x hx => (h.good x hx).2) j hj, h.few, fun x hx => by simpa [fl_length] using h.good x hx, h.arm⟩
/-- The loop of Flush. -/
theorem fl_shown (D : Dk) (j : Nat) : Dk.shown { D with bl := fl D.ca D.bl j } (j : Int) = DkN.seen j D.ca ((fl D.ca D.bl j).getD j ByteArray.empty) := by
  unfold Dk.shown
  rw [Int.toNat_natCast]
theorem far1 {w : World} {b g i j : Nat} (hne : b ≠ g) (u : Value) : (w.setCell ⟨g, j, none⟩ u).cell? ⟨b, i, none⟩ = w.cell? ⟨b, i, none⟩ := World.cell?_of_block (a := ⟨b, i, none⟩) (set_cell_block hne)
set_option maxRecDepth 100000 in
set_option maxHeartbeats 2000000 in
/-- THE CONTRACT of Flush. -/
theorem Flush {w : World} {b : Nat} {bv cv : Value} {D : Dk} (h : Has true w b bv cv D) :
    Calls Try.prog 36 #[.pointer (some ⟨b, 0, none⟩)] w fun e w' => e = .returned (.int .i64 (D.flush.1 : Nat)) ∧ Did true w b bv cv D.flush.2 w' := by
  have h2 := h.r2
  cases hd : D.down with
  | true =>
    have e : D.flush = (14, D) := by unfold Dk.flush; rw [if_pos hd]
    rw [e]
    rw [hd] at h2
    have HD := Lib.hid h.same
    clear h hd e
    go_enter Try.func36, Try.ntmps36
    go_wp2
    go_ret
    exact ⟨rfl, HD.out⟩
  | false =>
    have hd' : ¬ D.down = true := by rw [hd]; exact Bool.false_ne_true
    rw [hd] at h2
    have HS := Lib.hid (DkRA.last h hd)
    by_cases ha : D.armed = 1
    · have e : D.flush = (14, D.tick) := by unfold Dk.flush; rw [if_neg hd', if_pos ha]
      rw [e]
      rw [decide_eq_true ha] at HS
      clear h hd e ha hd'
      generalize D.tick = T at *
      go_enter Try.func36, Try.ntmps36
      go_wp2_with (go_at_call 61; refine (HS.out).mono ?_; rintro e w1 ⟨rfl, hd1⟩; have HD := Lib.hid hd1; clear hd1)
      go_ret
      exact ⟨rfl, HD.out⟩
    · have e : D.flush = (0, { D.tick with bl := kset (fun _ => true) 0 D.tick.ca D.tick.bl, ca := [] }) := by unfold Dk.flush; rw [if_neg hd', if_neg ha]; rfl
      rw [e]
      rw [decide_eq_false ha] at HS
      clear h hd e ha hd'
      generalize D.tick = T at *
      go_enter Try.func36, Try.ntmps36
      go_wp2_with fail
      refine (HS.out).mono ?_
      rintro e w1 ⟨rfl, cv1, hh1, hn1, hk1⟩
      have HN := Lib.hid hn1
      have HK := Lib.hid hk1
      have HH := Lib.hid hh1
      obtain ⟨g, cg, rfl⟩ := hh1.bv_eq
      have hhi := hh1.ok.hi
      have hbg : b ≠ g := fun e => hh1.bne (by rw [e]; rfl)
      obtain ⟨m, hm⟩ : ∃ m, T.bl.length = m := ⟨_, rfl⟩
      rw [hm] at HH HK hhi
      have HM := Lib.hid hm
      clear hn1 hk1 hh1 hm h2 HS
      go_wp2_with fail
      go_loopw [3] (fun i wr => ∃ j : Nat, j ≤ m ∧ i = .int .i64 j ∧ Has true wr b (.slice (some ⟨g, 0, none⟩) m cg) cv1 { T with bl := fl T.ca T.bl j } ∧ Kept (Foot b (.slice (some ⟨g, 0, none⟩) m cg) cv1) w1 wr) (fun i _ => m - (intOf i).toNat)
      case atStart => exact ⟨0, Nat.zero_le _, rfl, HH.out, Kept.refl _ _⟩
      case round =>
        obtain ⟨j, hj, rfl, hh, hkept⟩ := hrel
        by_cases hlt : j < m
        · have hjl : j < (fl T.ca T.bl j).length := by rw [fl_length, HM.out]; exact hlt
          have hs := Shown_k hh.drew j hjl
          rw [fl_shown] at hs
          have hset := Has.setBlock hh.drew j (DkN.seen j T.ca ((fl T.ca T.bl j).getD j ByteArray.empty)) (fl_ok HH.out.ok (j + 1) (by rw [HM.out]; omega))
          have hk3 := hkept.drew.set_ (b := g) (.inr (.inl rfl)) j (.string (DkN.seen j T.ca ((fl T.ca T.bl j).getD j ByteArray.empty)))
          have hcell := hh.drew.block j hjl
          have hfree := hh.drew.block_free j
          have k0 := hh.drew.c0
          have c0 := hh.c0
          simp only at hcell
          generalize (fl T.ca T.bl j)[j] = old at hcell
          have HSH := Lib.hid hs
          have HSET := Lib.hid hset
          have HK3 := Lib.hid hk3
          have hfl : fl T.ca T.bl (j + 1) = (fl T.ca T.bl j).set j (DkN.seen j T.ca ((fl T.ca T.bl j).getD j ByteArray.empty)) := rfl
          have HFL := Lib.hid hfl
          clear hs hset hk3 hh hkept hjl hfl
          generalize DkN.seen j T.ca ((fl T.ca T.bl j).getD j ByteArray.empty) = x at *
          have hjm : (j : Int) < (m : Int) := by omega
          have hj0 : (0 : Int) ≤ (j : Int) := by omega
          go_wp2_with fail
          go_region_held3 (fun w' => w'.cell? ⟨b, 0, none⟩ = some (.slice (some ⟨g, 0, none⟩) m cg))
            (first | exact k0 | exact (far1 hbg _).trans k0)
            (first | (go_at_call 62; refine (HSH.out).mono ?_; rintro e _ ⟨rfl, rfl⟩))
          rename_i hHeld
          clear hHeld k0 c0 hcell hfree
          go_wp2
          go_roundw
          case rel => exact ⟨j + 1, by omega, by go_num, by rw [HFL.out]; exact HSET.out, HK3.out⟩
          case measure => simp [intOf]; omega
        · obtain rfl : j = m := by omega
          have hfa : fl T.ca T.bl j = kset (fun _ => true) 0 T.ca T.bl := by rw [← HM.out]; exact fl_all T.ca T.bl
          rw [hfa] at hh
          have HD : Hid (Did true w1 b (.slice (some ⟨g, 0, none⟩) j cg) cv1 _ _) := did_nil (Has.nil1 hh) (hkept.set_ (.inl rfl) _ _)
          have c0 := hh.c0
          have c1 := hh.c1
          have f1 := hh.free 1
          obtain ⟨a, c, rfl⟩ := hh.cv_eq
          clear hh hkept hfa
          go_wp2
          go_ret
          exact ⟨rfl, by rw [HM.out]; exact Did.then_ HH.out HN.out HK.out HD.out⟩
end Go.Proofs.Ytofpflkkbkodaaa.DkRS
