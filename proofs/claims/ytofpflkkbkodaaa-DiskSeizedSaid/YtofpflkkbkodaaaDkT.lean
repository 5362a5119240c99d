/- The program's disk: settle, over any closure that tells which numbers are kept: the walk of its text. No conditions but those that each lemma names. -/
import Derived.Test.YtofpflkkbkodaaaDkNew
import Derived.BigRegion
namespace Go.Proofs.Ytofpflkkbkodaaa.DkT
open Go.RowKit
open DkN DkM DkB
theorem take_ok {D : Dk} (h : D.ok) (keep : Nat → Bool) (k : Nat) : Dk.ok { D with bl := kset keep 0 (D.ca.take k) D.bl } :=
  ⟨by simpa [kset_length] using h.lo, by simpa [kset_length] using h.hi, kset_all keep _ 0 _ D.bl h.full (fun x hx => (h.good x (List.mem_of_mem_take hx)).2), h.few, fun x hx => by simpa [kset_length] using h.good x hx, h.arm⟩
/-- The cache is none. -/
theorem Has.nil1 {r : Bool} {w : World} {b : Nat} {bv cv : Value} {D : Dk} (h : Has r w b bv cv D) : Has r (w.setCell ⟨b, 1, none⟩ (.slice none 0 0)) b bv (.slice none 0 0) { D with ca := [] } := by
  refine h.renil ?_ (fun k hk => set_cell_block hk) rfl rfl ⟨h.ok.lo, h.ok.hi, h.ok.full, Nat.zero_le _, (fun x hx => by cases hx), h.ok.arm⟩
  cases r
  · exact (blk_set h.head).trans rfl
  · exact (blk_set h.head).trans rfl
theorem _root_.Go.Proofs.Ytofpflkkbkodaaa.DkM.Has.drew {r : Bool} {w : World} {b : Nat} {bv cv : Value} {D : Dk} (h : Has r w b bv cv D) : Has r w.drew b bv cv D := h.kept fun _ _ => rfl
theorem _root_.Go.Proofs.Ytofpflkkbkodaaa.DkM.Kept.drew {S : Nat → Prop} {u w : World} (h : Kept S u w) : Kept S u w.drew := ⟨h.os, h.tape, h.output, h.size, h.block⟩
theorem info_put2 : (Try.prog.info? 76).map (·.size) = some 2 := by kernel_rfl
set_option maxRecDepth 100000 in
set_option maxHeartbeats 1000000 in
theorem settle_any {w : World} {b : Nat} {bv cv : Value} {D : Dk} (h : Has false w b bv cv D) (K : Nat) (cap : Array Value) (keep : Nat → Bool) (hK : ∀ (args : Array Value) (W : World), (callFunc K args).run Try.prog W = .ok (.enter K args) W)
    (hc : ∀ (i : Nat) (W : World), i < D.ca.length → Kept (Foot b bv cv) w W → Calls Try.prog K (#[.int .i64 i] ++ cap) W fun e w' => e = .returned (.bool (keep i)) ∧ Below W.heap.size W w') :
    Calls Try.prog 49 #[.pointer (some ⟨b, 0, none⟩), .func (.func K) #[] cap] w fun e w' => e = .returned (.tuple #[]) ∧ Did false w b bv cv { D with bl := kset keep 0 D.ca D.bl, ca := [] } w' := by
  have HC := Lib.hid hc
  have HH := Lib.hid h
  obtain ⟨a, c, rfl⟩ := h.cv_eq
  obtain ⟨g, cg, rfl⟩ := h.bv_eq
  have c1 := h.c1
  have hfew := h.ok.few
  have hhi := h.ok.hi
  clear hc h
  obtain ⟨n, hn⟩ : ∃ n, D.ca.length = n := ⟨_, rfl⟩
  rw [hn] at c1 hfew HH HC ⊢
  have HN := Lib.hid hn
  clear hn
  obtain ⟨m, hm⟩ : ∃ m, D.bl.length = m := ⟨_, rfl⟩
  rw [hm] at HH HC hhi ⊢
  have HM := Lib.hid hm
  clear hm
  go_enter Try.func49, Try.ntmps49
  go_wp2_with fail
  clear c1
  go_loopw [11] (fun i wr => ∃ k : Nat, k ≤ n ∧ i = .int .i64 k ∧ Has false wr b (.slice (some ⟨g, 0, none⟩) m cg) (.slice a n c) { D with bl := kset keep 0 (D.ca.take k) D.bl } ∧ Kept (Foot b (.slice (some ⟨g, 0, none⟩) m cg) (.slice a n c)) w wr) (fun i _ => n - (intOf i).toNat)
  case atStart => exact ⟨0, Nat.zero_le _, rfl, HH.out, Kept.refl _ _⟩
  case round =>
    obtain ⟨k, hk, rfl, hh, hkept⟩ := hrel
    by_cases hlt : k < n
    · have hlt' : k < D.ca.length := by rw [HN.out]; exact hlt
      obtain ⟨gc, oc, rfl, hgc, hcs⟩ := hh.puts (by exact Nat.lt_of_le_of_lt (Nat.zero_le k) hlt')
      obtain ⟨q0, q1⟩ := hcs k hlt'
      have HX := Lib.hid (kset_next keep D.ca D.bl k hlt')
      have hgood := HH.out.ok.good _ (List.getElem_mem hlt')
      generalize hx : D.ca[k] = x at *
      obtain ⟨j, s⟩ := x
      simp only at q0 q1 hgood HX
      rw [HM.out] at hgood
      have HGood := Lib.hid hgood
      have hjm : (j : Int) < (m : Int) := by omega
      have HHR := Lib.hid hh
      have HK := Lib.hid hkept
      clear hcs hx hgood hh hkept hgc hlt'
      go_wp2_with fail
      refine (HC.out k _ hlt ?kept).mono ?_
      case kept => exact HK.out.step ((Below.refl _ _).alloc (Nat.le_refl _) _)
      rintro e w2 ⟨rfl, hb2⟩
      have hbw : Below wr.heap.size wr w2 := ((Below.refl _ _).alloc (Nat.le_refl _) _).trans (hb2.mono (by simp))
      have p0 : w2.cell? ⟨wr.heap.size, 0, none⟩ = some (.int .i64 j) := (hb2.cell (p := ⟨wr.heap.size, 0, none⟩) (by simp)).trans (blk_cell (heap_alloc_new wr _) rfl)
      have p1 : w2.cell? ⟨wr.heap.size, 1, none⟩ = some (.string s) := (hb2.cell (p := ⟨wr.heap.size, 1, none⟩) (by simp)).trans (blk_cell (heap_alloc_new wr _) rfl)
      have HH2 := Lib.hid (HHR.out.step hbw)
      have HK2 := Lib.hid (HK.out.step hbw)
      clear q0 q1 hb2 hbw
      have c0 := HH2.out.c0
      have hjl : j < (kset keep 0 (D.ca.take k) D.bl).length := by rw [kset_length, HM.out]; exact HGood.out.1
      have hcell := HH2.out.block j hjl
      have hfree := HH2.out.block_free j
      generalize hq : keep k = q at HX ⊢
      clear hq
      simp only at hcell
      generalize (kset keep 0 (D.ca.take k) D.bl)[j] = old at hcell
      cases q
      · rw [if_neg Bool.false_ne_true] at HX
        have HE : Hid (Has false w2 b (.slice (some ⟨g, 0, none⟩) m cg) (.slice (some ⟨gc, oc, none⟩) n c) { D with bl := kset keep 0 (D.ca.take (k + 1)) D.bl }) := by rw [HX.out]; exact HH2.out
        clear p0 p1 c0 hcell hfree hjl HX
        go_wp2
        go_roundw
        case rel => exact ⟨k + 1, by omega, by go_num, HE.out, HK2.out⟩
        case measure => simp [intOf]; omega
      · rw [if_pos rfl] at HX
        have HE : Hid (Has false (w2.setCell ⟨g, j, none⟩ (.string s)) b (.slice (some ⟨g, 0, none⟩) m cg) (.slice (some ⟨gc, oc, none⟩) n c) { D with bl := kset keep 0 (D.ca.take (k + 1)) D.bl }) := by
          have hset := Has.setBlock HH2.out j s (by
            have := take_ok HH.out.ok keep (k + 1)
            rw [HX.out] at this
            exact this)
          rw [HX.out]; exact hset
        have HK3 : Hid (Kept (Foot b (.slice (some ⟨g, 0, none⟩) m cg) (.slice (some ⟨gc, oc, none⟩) n c)) w (w2.setCell ⟨g, j, none⟩ (.string s))) := HK2.out.set_ (.inr (.inl rfl)) _ _
        clear hjl HX
        go_wp2_with fail
        go_region
        all_goals
          go_wp2
          go_roundw
          case rel => exact ⟨k + 1, by omega, by go_num, HE.out.drew, HK3.out.drew⟩
          case measure => simp [intOf]; omega
    · obtain rfl : k = n := by omega
      rw [List.take_of_length_le (by rw [HN.out]; exact Nat.le_refl _)] at hh
      have HD : Hid (Did false w b (.slice (some ⟨g, 0, none⟩) m cg) (.slice a k c) _ _) := did_nil (Has.nil1 hh) (hkept.set_ (.inl rfl) _ _)
      have c1 := hh.c1
      have f1 := hh.free 1
      clear hh hkept HH HC
      go_wp2
      go_end0
      exact ⟨rfl, HD.out⟩
end Go.Proofs.Ytofpflkkbkodaaa.DkT
