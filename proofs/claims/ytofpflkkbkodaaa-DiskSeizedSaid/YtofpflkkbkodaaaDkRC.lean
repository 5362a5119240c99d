/- The document's disk: in, Crash: the walks of their texts. No conditions but those that each lemma names. -/
import Derived.Test.YtofpflkkbkodaaaDkRS
import Derived.BigRegion
namespace Go.Proofs.Ytofpflkkbkodaaa.DkRC
open Go.RowKit
open DkN DkM DkB DkT DkRA DkRW DkRS
set_option maxRecDepth 100000 in
theorem in_any (w : World) (B : Nat) (a : Option Addr) (n c : Nat) (l : List Int) (i : Int) (h : Row w B a n l) (hn : n ≤ maxLen) :
    Calls Try.prog 63 #[.slice a n c, .int .i64 i] w fun e w' => e = .returned (.bool (decide (i ∈ l))) ∧ w = w' := by
  have HR := Lib.hid h
  unfold maxLen at hn
  clear h
  go_enter Try.func63, Try.ntmps63
  go_wp2_with fail
  go_loop [5] (fun k => ∃ j : Nat, j ≤ n ∧ k = .int .i64 j ∧ i ∉ l.take j) (fun k => n - (intOf k).toNat)
  case atStart => exact ⟨0, Nat.zero_le _, rfl, by simp⟩
  case round =>
    obtain ⟨j, hj, rfl, hno⟩ := hrel
    by_cases hlt : j < n
    · obtain ⟨g, o, rfl, hg, hc⟩ := HR.out.2 (by omega)
      have hcell := hc j hlt
      have hjl : j < l.length := by rw [HR.out.1]; exact hlt
      have hx : l.getD j 0 = l[j] := by simp [List.getD, hjl]
      have ht : l.take (j + 1) = l.take j ++ [l[j]] := List.take_succ_eq_append_getElem hjl
      have hm := List.getElem_mem hjl
      rw [← hx] at ht hm
      have HT := Lib.hid ht
      have HM := Lib.hid hm
      have HNo := Lib.hid hno
      have hjn : (j : Int) < (n : Int) := by omega
      clear hc hx ht hm hno hjl
      generalize l.getD j 0 = x at *
      by_cases he : x = i
      · have he' : (x == i) = true := by rw [beq_iff_eq]; exact he
        have HV := Lib.hid (decide_eq_true (show i ∈ l by rw [← he]; exact HM.out))
        clear he
        go_wp2
        go_ret
        rw [HV.out]
        exact ⟨rfl, rfl⟩
      · have he' : (x == i) = false := by rw [beq_eq_false_iff_ne]; exact he
        have HE := Lib.hid he
        clear he
        go_wp2
        go_round
        case rel => exact ⟨j + 1, by omega, by go_num, by rw [HT.out]; intro q; rcases List.mem_append.1 q with q | q; exact HNo.out q; exact HE.out (List.mem_singleton.1 q).symm⟩
        case measure => simp [intOf]; omega
    · obtain rfl : j = n := by omega
      rw [List.take_of_length_le (by rw [HR.out.1]; exact Nat.le_refl _)] at hno
      have HV := Lib.hid (decide_eq_false hno)
      clear hno
      go_wp2
      go_ret
      rw [HV.out]
      exact ⟨rfl, rfl⟩
theorem setC {w : World} {b : Nat} {bv cv : Value} {D : Dk} (h : Has true w b bv cv D) :
    Has true (((w.setCell ⟨b, 1, none⟩ (.slice none 0 0)).setCell ⟨b, 2, none⟩ (.bool true)).setCell ⟨b, 3, none⟩ (.int .i64 0)) b bv (.slice none 0 0) { D with ca := [], armed := 0, down := true } := by
  refine h.renil ?_ (fun k hk => ((set_cell_block hk).trans (set_cell_block hk)).trans (set_cell_block hk)) rfl rfl ⟨h.ok.lo, h.ok.hi, h.ok.full, Nat.zero_le _, (fun x hx => by cases hx), by show 0 ≤ _; omega⟩
  exact (blk_set (blk_set (blk_set h.head))).trans rfl
set_option maxRecDepth 100000 in
set_option maxHeartbeats 4000000 in
/-- THE CONTRACT of Crash. -/
theorem Crash {w : World} {b : Nat} {bv cv : Value} {D : Dk} (h : Has true w b bv cv D) (B : Nat) (hB : B ≤ w.heap.size) (hF : ∀ k, Foot b bv cv k → B ≤ k) (ka : Option Addr) (kn kc : Nat) (keep : List Int) (hr : Row w B ka kn keep) (hn : kn ≤ maxLen) :
    Calls Try.prog 38 #[.pointer (some ⟨b, 0, none⟩), .slice ka kn kc] w fun e w' => e = .returned (.tuple #[]) ∧ Did true w b bv cv (D.crashR keep) w' := by
  have HH := Lib.hid h
  obtain ⟨a, c, rfl⟩ := h.cv_eq
  obtain ⟨g, cg, rfl⟩ := h.bv_eq
  have hfew := h.ok.few
  have hhi := h.ok.hi
  have hbg : b ≠ g := fun e => h.bne (by rw [e]; rfl)
  clear h
  obtain ⟨n, hnn⟩ : ∃ n, D.ca.length = n := ⟨_, rfl⟩
  rw [hnn] at hfew HH hF ⊢
  have HN := Lib.hid hnn
  clear hnn
  obtain ⟨m, hm⟩ : ∃ m, D.bl.length = m := ⟨_, rfl⟩
  rw [hm] at HH hhi hF ⊢
  have HM := Lib.hid hm
  clear hm
  have HI : Hid (∀ (W : World) (i : Nat), Kept (Foot b (.slice (some ⟨g, 0, none⟩) m cg) (.slice a n c)) w W → Calls Try.prog 63 #[.slice ka kn kc, .int .i64 i] W fun e w' => e = .returned (.bool (keepB keep i)) ∧ W = w') := Lib.hid fun W i hW => in_any W B ka kn kc keep i (hr.keep (hW.below hF hB).block) hn
  clear hr hn hF hB
  go_enter Try.func38, Try.ntmps38
  go_wp2_with fail
  go_loopw [4] (fun i wr => ∃ k : Nat, k ≤ n ∧ i = .int .i64 k ∧ Has true wr b (.slice (some ⟨g, 0, none⟩) m cg) (.slice a n c) { D with bl := kset (keepB keep) 0 (D.ca.take k) D.bl } ∧ Kept (Foot b (.slice (some ⟨g, 0, none⟩) m cg) (.slice a n c)) w wr) (fun i _ => n - (intOf i).toNat)
  case atStart => exact ⟨0, Nat.zero_le _, rfl, HH.out, Kept.refl _ _⟩
  case round =>
    obtain ⟨k, hk, rfl, hh, hkept⟩ := hrel
    by_cases hlt : k < n
    · have hlt' : k < D.ca.length := by rw [HN.out]; exact hlt
      obtain ⟨gc, oc, rfl, hgc, hcs⟩ := hh.puts (by exact Nat.lt_of_le_of_lt (Nat.zero_le k) hlt')
      obtain ⟨q0, q1⟩ := hcs k hlt'
      have HX := Lib.hid (kset_next (keepB keep) D.ca D.bl k hlt')
      have hgood := HH.out.ok.good _ (List.getElem_mem hlt')
      generalize hx : D.ca[k] = x at *
      obtain ⟨j, s⟩ := x
      simp only at q0 q1 hgood HX
      rw [HM.out] at hgood
      have HGood := Lib.hid hgood
      have hjm : (j : Int) < (m : Int) := by omega
      have hkn : (k : Int) < (n : Int) := by omega
      have HHR := Lib.hid hh
      have HK := Lib.hid hkept
      have c0 := hh.c0
      have c1 := hh.c1
      have HIk := Lib.hid (HI.out wr k hkept)
      have hjl : j < (kset (keepB keep) 0 (D.ca.take k) D.bl).length := by rw [kset_length, HM.out]; exact HGood.out.1
      have hcell := hh.block j hjl
      have hfree := hh.block_free j
      clear hcs hx hgood hh hkept hgc hlt'
      generalize hq : keepB keep k = q at HX HIk
      clear hq
      simp only at hcell
      generalize (kset (keepB keep) 0 (D.ca.take k) D.bl)[j] = old at hcell
      cases q
      · rw [if_neg Bool.false_ne_true] at HX
        have HE : Hid (Has true wr b (.slice (some ⟨g, 0, none⟩) m cg) (.slice (some ⟨gc, oc, none⟩) n c) { D with bl := kset (keepB keep) 0 (D.ca.take (k + 1)) D.bl }) := by rw [HX.out]; exact HHR.out
        clear hcell hfree hjl HX
        go_wp2_with fail
        refine (HIk.out).mono ?_
        rintro e _ ⟨rfl, rfl⟩
        go_wp2
        go_roundw
        case rel => exact ⟨k + 1, by omega, by go_num, HE.out, HK.out⟩
        case measure => simp [intOf]; omega
      · rw [if_pos rfl] at HX
        have HE : Hid (Has true (wr.setCell ⟨g, j, none⟩ (.string s)) b (.slice (some ⟨g, 0, none⟩) m cg) (.slice (some ⟨gc, oc, none⟩) n c) { D with bl := kset (keepB keep) 0 (D.ca.take (k + 1)) D.bl }) := by
          have hset := Has.setBlock HHR.out j s (by
            have := take_ok HH.out.ok (keepB keep) (k + 1)
            rw [HX.out] at this
            exact this)
          rw [HX.out]; exact hset
        have HK3 : Hid (Kept (Foot b (.slice (some ⟨g, 0, none⟩) m cg) (.slice (some ⟨gc, oc, none⟩) n c)) w (wr.setCell ⟨g, j, none⟩ (.string s))) := HK.out.set_ (.inr (.inl rfl)) _ _
        clear hjl HX
        go_wp2_with fail
        refine (HIk.out).mono ?_
        rintro e _ ⟨rfl, rfl⟩
        go_wp2_with fail
        go_region
        all_goals
          go_wp2
          go_roundw
          case rel => exact ⟨k + 1, by omega, by go_num, HE.out.drew, HK3.out.drew⟩
          case measure => simp [intOf]; omega
    · obtain rfl : k = n := by omega
      rw [List.take_of_length_le (by rw [HN.out]; exact Nat.le_refl _)] at hh
      have HD : Hid (Did true w b (.slice (some ⟨g, 0, none⟩) m cg) (.slice a k c) _ _) := did_nil (setC hh) (((hkept.set_ (.inl rfl) _ _).set_ (.inl rfl) _ _).set_ (.inl rfl) _ _)
      have c1 := hh.c1
      have c2 := hh.r2
      have c3 := hh.r3
      have f1 := hh.free 1
      have f2 := hh.free 2
      have f3 := hh.free 3
      clear hh hkept HH HI
      go_wp2
      go_end0
      exact ⟨rfl, HD.out⟩
end Go.Proofs.Ytofpflkkbkodaaa.DkRC
