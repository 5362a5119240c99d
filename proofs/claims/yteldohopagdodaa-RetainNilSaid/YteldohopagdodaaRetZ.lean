/- The chapter's example; the calls of a book that is none: the walks of their texts. No conditions but those that each lemma names. -/
import Derived.Test.YteldohopagdodaaRetY
namespace Go.Proofs.Yteldohopagdodaa.RetZ
set_option linter.unusedVariables false
open Go.RowKit Go.Maps
open RecN RecC RetN RetC RetH RetP RetB RetR RetW RetY
def e1 (t : L) : Rec := ⟨1, 0, 0, 0, 0, 0, t, []⟩
def e2 : Rec := ⟨2, 1, 0, 0, 0, 9, [], []⟩
def e3 : Rec := ⟨5, 1, 5, 0, 0, 9, [], []⟩
theorem e1_ok {t : L} (ht : t.length = 32) : may (new 0) (e1 t) = 0 := by
  have hr : right (e1 t) := ⟨⟨Int.le_refl 0, (by decide : (0 : Int) ≤ 4294967295), Int.le_refl 0, (by decide : (0 : Int) ≤ 1099511627776)⟩, .inl ⟨rfl, Int.le_refl 0, (by decide : (0 : Int) ≤ 4096), ht, rfl, rfl, rfl⟩⟩
  have hc : ¬ ((e1 t).ep ≠ (new 0).ep ∨ (e1 t).tm < (new 0).now) := fun h => h.elim (fun h => h rfl) (fun h => absurd h (Int.lt_irrefl 0))
  unfold may
  rw [if_neg (fun h => h hr), if_neg hc]
  rfl
theorem e2_ok (t : L) : may (take (new 0) (e1 t)) e2 = 0 := by
  have hr : right e2 := by decide
  have hc : ¬ (e2.ep ≠ (take (new 0) (e1 t)).ep ∨ e2.tm < (take (new 0) (e1 t)).now) := fun h => h.elim (fun h => h rfl) (fun h => absurd h (Int.lt_irrefl 0))
  unfold may
  rw [if_neg (fun h => h hr), if_neg hc]
  rfl
theorem st2 (t : L) : st (new 0) [e1 t, e2] = ⟨0, 1, 0, upd (fun _ => 0) 0 9, [], fun _ => false⟩ := rfl
theorem e3_no (t : L) : may (st (new 0) [e1 t, e2]) e3 = 9 := by
  have hr : right e3 := by decide
  rw [st2]
  unfold may
  rw [if_neg (fun h => h hr), if_neg (by decide)]
  rfl
theorem ans2 {t : L} (ht : t.length = 32) {j : Nat} {x : Int} (h : Ans (new 0) [e1 t, e2] j x) : j = 2 ∧ x = 0 := by
  rcases h.2 with ⟨h1, h2⟩ | ⟨hj, h1, h2⟩
  · exact ⟨h1, h2⟩
  · have hj2 : j = 0 ∨ j = 1 := by have : j < 2 := hj; omega
    rcases hj2 with rfl | rfl
    · exact absurd (h1.trans (e1_ok ht)) h2
    · exact absurd (h1.trans (e2_ok t)) h2
theorem lies_block {W : World} {b : Nat} {cs : Array Value} {t : TypeId} {l : List Rec} (h : W.heap[b]? = some (.cells cs t (0, 0))) (e : cs.toList = rr l) : Lies W (some ⟨b, 0, none⟩) (rr l) := fun _ =>
  ⟨b, 0, rfl, (Array.getElem?_eq_some_iff.1 h).1, fun j u hj => by rw [Nat.zero_add]; exact blk_cell h (by rw [← Array.getElem?_toList, e]; exact hj)⟩
abbrev ex (t : L) : St := st (new 0) [e1 t, e2]
theorem replay_ex (t : L) (ht : t.length = 32) (w : World) :
    Calls Try.prog 18 #[.int .i64 0, .slice (some ⟨w.heap.size, 0, none⟩) 2 2] (w.alloc (.cells #[.int .i64 1, .int .i64 0, .int .i64 0, .int .i64 0, .int .i64 0, .int .i64 0, .string ⟨t.toArray⟩, .string ⟨#[]⟩, .int .i64 2, .int .i64 1, .int .i64 0, .int .i64 0, .int .i64 0, .int .i64 9, .string ⟨#[]⟩, .string ⟨#[]⟩] 30))
      fun e w' => ∃ A, e = .returned (.tuple #[.pointer (some ⟨A.b, 0, none⟩), .int .i64 2, .int .i64 0]) ∧ Run w A (ex t) w' := by
  refine (Replay_yes 0 _ 2 2 [e1 t, e2] _ (by decide) (by decide) (lies_block (heap_alloc_new w _) rfl) rfl (by decide) ?_).mono ?_
  · intro x hx
    simp only [List.mem_cons, List.not_mem_nil, or_false] at hx
    rcases hx with rfl | rfl <;> exact wf_of ⟨(by decide : (-9223372036854775808 : Int) ≤ 0), (by decide : (0 : Int) ≤ 9223372036854775807)⟩
  · rintro e w' ⟨A, j, x, rfl, hm, ha⟩
    obtain ⟨rfl, rfl⟩ := ans2 ht ha
    have hb := below_new w (.cells #[.int .i64 1, .int .i64 0, .int .i64 0, .int .i64 0, .int .i64 0, .int .i64 0, .string ⟨t.toArray⟩, .string ⟨#[]⟩, .int .i64 2, .int .i64 1, .int .i64 0, .int .i64 0, .int .i64 0, .int .i64 9, .string ⟨#[]⟩, .string ⟨#[]⟩] 30)
    obtain ⟨h1, h2, h3⟩ := hm
    have hs := hb.size
    exact ⟨A, rfl, hb.trans (h3.mono hs), h2, Nat.le_trans hs h1.1, Nat.le_trans hs h1.2.1, Nat.le_trans hs h1.2.2.1, Nat.le_trans hs h1.2.2.2.1, Nat.le_trans hs h1.2.2.2.2.1, Nat.le_trans hs h1.2.2.2.2.2⟩
theorem may_ex (t : L) {A : Pl} {w : World} (h : Book A (ex t) w) : Calls Try.prog 12 #[.pointer (some ⟨A.b, 0, none⟩), .agg #[.int .i64 5, .int .i64 1, .int .i64 5, .int .i64 0, .int .i64 0, .int .i64 9, .string ⟨#[]⟩, .string ⟨#[]⟩]] w fun e w' => e = .returned (.int .i64 9) ∧ Below w.heap.size w w' := by
  have := May h e3 (wf_of ⟨(by decide : (-9223372036854775808 : Int) ≤ 0), (by decide : (0 : Int) ≤ 9223372036854775807)⟩)
  rw [e3_no] at this
  exact this
theorem until_ex (t : L) {A : Pl} {w : World} (h : Book A (ex t) w) : Calls Try.prog 8 #[.pointer (some ⟨A.b, 0, none⟩), .int .i64 0] w fun e w' => e = .returned (.int .i64 9) ∧ w = w' :=
  Until h 0 (wf_of ⟨(by decide : (-9223372036854775808 : Int) ≤ 0), (by decide : (0 : Int) ≤ 9223372036854775807)⟩)
set_option maxRecDepth 100000 in
set_option maxHeartbeats 2000000 in
theorem alive (w : World) : Calls Try.prog 7 #[] w fun e w' => e = .returned (.bool true) ∧ Below w.heap.size w w' := by
  have HT := Lib.hid (RNou.noughts 32 w (by decide))
  obtain ⟨t, ht⟩ : ∃ t : L, t = List.replicate 32 0 := ⟨_, rfl⟩
  have hl : t.length = 32 := by rw [ht]; rfl
  rw [← ht] at HT
  clear ht
  have HR := Lib.hid (replay_ex t hl)
  have HM := Lib.hid (fun A W (h : Book A (ex t) W) => may_ex t h)
  have HU := Lib.hid (fun A W (h : Book A (ex t) W) => until_ex t h)
  generalize ex t = s at *
  clear hl
  go_enter Try.func7, Try.ntmps7
  go_wp2_with (first
    | (go_at_call 19; refine HT.out.mono ?_; rintro e w1 ⟨rfl, hb⟩; have BB := Lib.hid hb; clear hb HT)
    | (go_at_call 18; refine (HR.out _).mono ?_; rintro e w2 ⟨A, rfl, hr⟩; have R := Lib.hid hr; clear hr HR)
    | (go_at_call 12; refine (HM.out _ _ R.out.b).mono ?_; rintro e w3 ⟨rfl, hb⟩; replace R := Lib.hid (R.out.step hb); clear hb HM)
    | (go_at_call 8; refine (HU.out _ _ R.out.b).mono ?_; rintro e _ ⟨rfl, rfl⟩; clear HU))
  go_ret
  exact ⟨rfl, BB.out.trans (R.out.bel.mono BB.out.size)⟩
/-! Of a book that is none. -/
theorem May_none {p : Option Addr} {w : World} (h : Non w p) (r : Rec) : Calls Try.prog 12 #[.pointer p, .agg #[.int .i64 r.k, .int .i64 r.ep, .int .i64 r.tm, .int .i64 r.ct, .int .i64 r.tg, .int .i64 r.un, .string ⟨r.rt.toArray⟩, .string ⟨r.nm.toArray⟩]] w fun e w' => e = .returned (.int .i64 1) ∧ Below w.heap.size w w' := by
  obtain ⟨W1, hW1⟩ : ∃ W1, W1 = w.alloc (.cells #[.int .i64 r.k, .int .i64 r.ep, .int .i64 r.tm, .int .i64 r.ct, .int .i64 r.tg, .int .i64 r.un, .string ⟨r.rt.toArray⟩, .string ⟨r.nm.toArray⟩] 30) := ⟨_, rfl⟩
  have BB : Hid (Below w.heap.size w W1) := Lib.hid (by rw [hW1]; exact below_new w _)
  have HN := Lib.hid (isNone_none (h.step BB.out))
  clear h
  go_enter Try.func12, Try.ntmps12
  go_upto_region 1 with (fail)
  rw [← hW1]
  clear hW1
  go_wp2_with (go_at_call 20; refine HN.out.mono ?_; rintro e _ ⟨rfl, rfl⟩)
  go_ret
  exact ⟨rfl, BB.out⟩
set_option maxRecDepth 100000 in
theorem Apply_none {p : Option Addr} {w : World} (h : Non w p) (r : Rec) : Calls Try.prog 11 #[.pointer p, .agg #[.int .i64 r.k, .int .i64 r.ep, .int .i64 r.tm, .int .i64 r.ct, .int .i64 r.tg, .int .i64 r.un, .string ⟨r.rt.toArray⟩, .string ⟨r.nm.toArray⟩]] w fun e w' => e = .returned (.int .i64 1) ∧ Below w.heap.size w w' := by
  obtain ⟨W1, hW1⟩ : ∃ W1, W1 = w.alloc (.cells #[.int .i64 r.k, .int .i64 r.ep, .int .i64 r.tm, .int .i64 r.ct, .int .i64 r.tg, .int .i64 r.un, .string ⟨r.rt.toArray⟩, .string ⟨r.nm.toArray⟩] 30) := ⟨_, rfl⟩
  have BB : Hid (Below w.heap.size w W1) := Lib.hid (by rw [hW1]; exact below_new w _)
  have HM := Lib.hid (May_none (h.step BB.out) r)
  have hk : Bk W1 w.heap.size r := by rw [hW1]; exact (ws_new w r).k
  obtain ⟨k0, k1, k2, k3, k4, k5, k6, k7⟩ := hk.cells
  clear h hk
  go_enter Try.func11, Try.ntmps11
  go_upto_region 1 with (fail)
  rw [← hW1]
  clear hW1
  go_wp2_with (go_at_call 12; refine HM.out.mono ?_; rintro e w2 ⟨rfl, hb⟩; replace BB := Lib.hid (BB.out.trans (hb.mono BB.out.size)); clear hb)
  go_ret
  exact ⟨rfl, BB.out⟩
theorem Epoch_none {p : Option Addr} {w : World} (h : Non w p) : Calls Try.prog 13 #[.pointer p] w fun e w' => e = .returned (.int .i64 0) ∧ w = w' := by
  have HN := Lib.hid (isNone_none h)
  clear h
  go_enter Try.func13, Try.ntmps13
  go_wp2_with (go_at_call 20; refine HN.out.mono ?_; rintro e _ ⟨rfl, rfl⟩)
  go_ret
  exact ⟨rfl, rfl⟩
theorem Now_none {p : Option Addr} {w : World} (h : Non w p) : Calls Try.prog 14 #[.pointer p] w fun e w' => e = .returned (.int .i64 0) ∧ w = w' := by
  have HN := Lib.hid (isNone_none h)
  clear h
  go_enter Try.func14, Try.ntmps14
  go_wp2_with (go_at_call 20; refine HN.out.mono ?_; rintro e _ ⟨rfl, rfl⟩)
  go_ret
  exact ⟨rfl, rfl⟩
theorem Until_none {p : Option Addr} {w : World} (h : Non w p) (t : Int) : Calls Try.prog 8 #[.pointer p, .int .i64 t] w fun e w' => e = .returned (.int .i64 0) ∧ w = w' := by
  have HN := Lib.hid (isNone_none h)
  clear h
  go_enter Try.func8, Try.ntmps8
  go_wp2_with (go_at_call 20; refine HN.out.mono ?_; rintro e _ ⟨rfl, rfl⟩)
  go_ret
  exact ⟨rfl, rfl⟩
theorem Held_none {p : Option Addr} {w : World} (h : Non w p) (t : Int) : Calls Try.prog 10 #[.pointer p, .int .i64 t] w fun e w' => e = .returned (.slice none 0 0) ∧ w = w' := by
  have HN := Lib.hid (isNone_none h)
  clear h
  go_enter Try.func10, Try.ntmps10
  go_wp2_with (go_at_call 20; refine HN.out.mono ?_; rintro e _ ⟨rfl, rfl⟩)
  go_ret
  exact ⟨rfl, rfl⟩
theorem Gone_none {p : Option Addr} {w : World} (h : Non w p) (t : Int) : Calls Try.prog 9 #[.pointer p, .int .i64 t] w fun e w' => e = .returned (.bool false) ∧ w = w' := by
  have HN := Lib.hid (isNone_none h)
  clear h
  go_enter Try.func9, Try.ntmps9
  go_wp2_with (go_at_call 20; refine HN.out.mono ?_; rintro e _ ⟨rfl, rfl⟩)
  go_ret
  exact ⟨rfl, rfl⟩
theorem Holds_none {p : Option Addr} {w : World} (h : Non w p) : Calls Try.prog 15 #[.pointer p] w fun e w' => e = .returned (.int .i64 0) ∧ w = w' := by
  have HN := Lib.hid (isNone_none h)
  clear h
  go_enter Try.func15, Try.ntmps15
  go_wp2_with (go_at_call 20; refine HN.out.mono ?_; rintro e _ ⟨rfl, rfl⟩)
  go_ret
  exact ⟨rfl, rfl⟩
theorem Copy_none {p : Option Addr} {w : World} (h : Non w p) : Calls Try.prog 16 #[.pointer p] w fun e w' => e = .returned (.pointer none) ∧ w = w' := by
  have HN := Lib.hid (isNone_none h)
  clear h
  go_enter Try.func16, Try.ntmps16
  go_wp2_with (go_at_call 20; refine HN.out.mono ?_; rintro e _ ⟨rfl, rfl⟩)
  go_ret
  exact ⟨rfl, rfl⟩
end Go.Proofs.Yteldohopagdodaa.RetZ
