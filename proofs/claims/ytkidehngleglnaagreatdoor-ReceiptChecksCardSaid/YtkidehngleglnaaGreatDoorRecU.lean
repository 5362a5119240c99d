/- record.Take: the walk of its text. No conditions but those that each lemma names. -/
import Derived.Test.YtkidehngleglnaaGreatDoorRecT
namespace Go.Proofs.YtkidehngleglnaaGreatDoor.RecU
open Go.RowKit
open RecN RecC RecM RecP RecK RecQ RecT
set_option maxRecDepth 100000 in
theorem Take_bad (s : List UInt8) (r : Rec) (rest : List UInt8) (c : Int) (w : World) (hr : ∀ W, Calls Tryz.prog 47 #[.string ⟨s.toArray⟩] W fun e w' => e = .returned (.tuple #[.agg #[.int .i64 r.k, .int .i64 r.ep, .int .i64 r.tm, .int .i64 r.ct, .int .i64 r.tg, .int .i64 r.un, .string ⟨r.rt.toArray⟩, .string ⟨r.nm.toArray⟩], .string ⟨rest.toArray⟩, .int .i64 c]) ∧ Below W.heap.size W w') (hc : (c == 0) = false) :
    Calls Tryz.prog 26 #[.string ⟨s.toArray⟩] w fun e w' => e = .returned (.tuple #[.agg #[.int .i64 0, .int .i64 0, .int .i64 0, .int .i64 0, .int .i64 0, .int .i64 0, .string ⟨#[]⟩, .string ⟨#[]⟩], .string ⟨#[]⟩, .int .i64 3]) ∧ Below w.heap.size w w' := by
  obtain ⟨W1, hW1⟩ : ∃ W1, W1 = w.alloc (.cells #[.int .i64 0, .int .i64 0, .int .i64 0, .int .i64 0, .int .i64 0, .int .i64 0, .string ⟨#[]⟩, .string ⟨#[]⟩] 23) := ⟨_, rfl⟩
  have TT : Hid (Tk w W1) := Lib.hid (by rw [hW1]; exact tk_new w)
  have HR := Lib.hid hr
  have hn : (c != 0) = true := by rw [bne, hc]; rfl
  clear hr hc
  go_enter Tryz.func26, Tryz.ntmps26
  go_upto_region 1 with (fail)
  rw [← hW1]
  clear hW1
  go_upto_region 2 with (first
    | (go_at_call 47; refine (HR.out _).mono ?_; rintro e w2 ⟨rfl, hb2⟩; replace TT := Lib.hid (TT.out.step hb2); clear hb2)
    | (refine wpList_store_row rfl 23 _ _ rfl w2.heap.size _ rfl rfl 23 _ (heap_alloc_new w2 _) infoR rfl (one8 r) ?_))
  generalize hW3 : World.setRow (World.alloc w2 _) _ _ = W3
  replace TT : Hid (Tk w W3) := Lib.hid (by rw [← hW3]; exact TT.out.step (kept_new _ _ _ _))
  clear hW3
  go_wp2_with (refine wpList_store_row rfl 23 _ _ rfl w.heap.size _ rfl rfl 23 _ TT.out.k infoR rfl one0 ?_)
  refine bodyPost_ret (v := .tuple #[.agg #[.int .i64 0, .int .i64 0, .int .i64 0, .int .i64 0, .int .i64 0, .int .i64 0, .string ⟨#[]⟩, .string ⟨#[]⟩], .string ⟨#[]⟩, .int .i64 3])
    (results_cell_two Tryz.results26 _ _ w.heap.size 23 _ (0, 0) _ rfl (setRow_same TT.out.k) Tryz.underlying23 rfl infoR) rfl
    ⟨rfl, below_setRow TT.out.bel (Nat.le_refl _) _⟩
set_option maxRecDepth 100000 in
theorem Take_any (s : List UInt8) (r : Rec) (rest : List UInt8) (w : World) (hr : ∀ W, Calls Tryz.prog 47 #[.string ⟨s.toArray⟩] W fun e w' => e = .returned (.tuple #[.agg #[.int .i64 r.k, .int .i64 r.ep, .int .i64 r.tm, .int .i64 r.ct, .int .i64 r.tg, .int .i64 r.un, .string ⟨r.rt.toArray⟩, .string ⟨r.nm.toArray⟩], .string ⟨rest.toArray⟩, .int .i64 0]) ∧ Below W.heap.size W w') (c : Int) (hc : check r = c) (out : Array Value)
    (ho : (c = 2 ∧ out = #[.agg #[.int .i64 0, .int .i64 0, .int .i64 0, .int .i64 0, .int .i64 0, .int .i64 0, .string ⟨#[]⟩, .string ⟨#[]⟩], .string ⟨#[]⟩, .int .i64 3]) ∨ (c = 0 ∧ out = #[.agg #[.int .i64 r.k, .int .i64 r.ep, .int .i64 r.tm, .int .i64 r.ct, .int .i64 r.tg, .int .i64 r.un, .string ⟨r.rt.toArray⟩, .string ⟨r.nm.toArray⟩], .string ⟨rest.toArray⟩, .int .i64 0])) :
    Calls Tryz.prog 26 #[.string ⟨s.toArray⟩] w fun e w' => e = .returned (.tuple out) ∧ Below w.heap.size w w' := by
  obtain ⟨W1, hW1⟩ : ∃ W1, W1 = w.alloc (.cells #[.int .i64 0, .int .i64 0, .int .i64 0, .int .i64 0, .int .i64 0, .int .i64 0, .string ⟨#[]⟩, .string ⟨#[]⟩] 23) := ⟨_, rfl⟩
  have TT : Hid (Tk w W1) := Lib.hid (by rw [hW1]; exact tk_new w)
  have HR := Lib.hid hr
  have HC := Lib.hid (fun W => Check r W)
  rw [hc] at HC
  clear hr hc
  go_enter Tryz.func26, Tryz.ntmps26
  go_upto_region 1 with (fail)
  rw [← hW1]
  clear hW1
  go_upto_region 2 with (first
    | (go_at_call 47; refine (HR.out _).mono ?_; rintro e w2 ⟨rfl, hb2⟩; replace TT := Lib.hid (TT.out.step hb2); clear hb2)
    | (refine wpList_store_row rfl 23 _ _ rfl w2.heap.size _ rfl rfl 23 _ (heap_alloc_new w2 _) infoR rfl (one8 r) ?_))
  generalize hW3 : World.setRow (World.alloc w2 _) _ _ = W3
  replace TT : Hid (Tk w W3) := Lib.hid (by rw [← hW3]; exact TT.out.step (kept_new _ _ _ _))
  have KK : Hid (Bk W3 w2.heap.size r) := Lib.hid (by rw [← hW3]; exact has_new _ _ _ _)
  clear hW3
  generalize w2.heap.size = X at *
  obtain ⟨k0, k1, k2, k3, k4, k5, k6, k7⟩ := KK.out.cells
  rcases ho with ⟨rfl, rfl⟩ | ⟨rfl, rfl⟩
  · go_upto_region 3 with (go_at_call 30; refine (HC.out _).mono ?_; rintro e w4 ⟨rfl, hb4⟩; replace TT := Lib.hid (TT.out.step hb4); clear hb4 k0 k1 k2 k3 k4 k5 k6 k7)
    go_wp2_with (refine wpList_store_row rfl 23 _ _ rfl w.heap.size _ rfl rfl 23 _ TT.out.k infoR rfl one0 ?_)
    refine bodyPost_ret (v := .tuple #[.agg #[.int .i64 0, .int .i64 0, .int .i64 0, .int .i64 0, .int .i64 0, .int .i64 0, .string ⟨#[]⟩, .string ⟨#[]⟩], .string ⟨#[]⟩, .int .i64 3])
      (results_cell_two Tryz.results26 _ _ w.heap.size 23 _ (0, 0) _ rfl (setRow_same TT.out.k) Tryz.underlying23 rfl infoR) rfl
      ⟨rfl, below_setRow TT.out.bel (Nat.le_refl _) _⟩
  · go_upto_region 4 with (go_at_call 30; refine (HC.out _).mono ?_; rintro e w4 ⟨rfl, hb4⟩; replace TT := Lib.hid (TT.out.step hb4); replace KK := Lib.hid (KK.out.step hb4); clear hb4 k0 k1 k2 k3 k4 k5 k6 k7)
    obtain ⟨k0, k1, k2, k3, k4, k5, k6, k7⟩ := KK.out.cells
    go_wp2_with (refine wpList_store_row rfl 23 _ _ rfl w.heap.size _ rfl rfl 23 _ TT.out.k infoR rfl (one8 r) ?_)
    refine bodyPost_ret (v := .tuple #[.agg #[.int .i64 r.k, .int .i64 r.ep, .int .i64 r.tm, .int .i64 r.ct, .int .i64 r.tg, .int .i64 r.un, .string ⟨r.rt.toArray⟩, .string ⟨r.nm.toArray⟩], .string ⟨rest.toArray⟩, .int .i64 0])
      (results_cell_two Tryz.results26 _ _ w.heap.size 23 _ (0, 0) _ rfl (setRow_same TT.out.k) Tryz.underlying23 rfl infoR) rfl
      ⟨rfl, below_setRow TT.out.bel (Nat.le_refl _) _⟩
theorem un_got {s : List UInt8} (h1 : 29 ≤ s.length) (h2 : (un_ s).2 = 0) : un_ s = (nums (got s), 0) := by
  have hl : (s.take 29).length = 29 := by rw [List.length_take]; omega
  have hu : un_ s = (numsTo RecN.ws (s.take 29) 6, 0) := by
    have hw : widthsTo RecN.ws RecN.ws.length := (by decide : ∀ j, j < 6 → 1 ≤ RecN.ws.getD j 0 ∧ RecN.ws.getD j 0 ≤ 8)
    by_cases hg : gotTo RecN.ws (s.take 29) RecN.ws.length
    · exact unpack_good RecN.ws _ hw (by rw [hl]; rfl) hg
    · have := unpack_bad RecN.ws (s.take 29) hw (by rw [hl]; rfl) hg
      rw [un_, this] at h2
      cases h2
  have e1 : nums (got s) = numsTo RecN.ws (s.take 29) 6 := by
    rw [got, hu]; rfl
  rw [hu, e1]
/-- The code that Take answers. -/
def tc (s : List UInt8) : Int := if took s then 0 else 3
theorem tc_yes {s : List UInt8} (h : took s) : tc s = 0 := if_pos h
theorem tc_no {s : List UInt8} (h : ¬ took s) : tc s = 3 := if_neg h
/-- What record.Take answers. -/
theorem Take (s : List UInt8) (w : World) (hm : s.length ≤ maxLen) :
    Calls Tryz.prog 26 #[.string ⟨s.toArray⟩] w fun e w' => e = .returned (.tuple #[.agg #[.int .i64 (take_ s).1.k, .int .i64 (take_ s).1.ep, .int .i64 (take_ s).1.tm, .int .i64 (take_ s).1.ct, .int .i64 (take_ s).1.tg, .int .i64 (take_ s).1.un, .string ⟨(take_ s).1.rt.toArray⟩, .string ⟨(take_ s).1.nm.toArray⟩], .string ⟨(take_ s).2.1.toArray⟩, .int .i64 (tc s)]) ∧ Below w.heap.size w w' := by
  have bad : ∀ {p : Prop}, (took s → p) → ¬ p → take_ s = (zero, [], false) ∧ tc s = 3 := fun h1 h2 => ⟨take_no (fun h => h2 (h1 h)), tc_no (fun h => h2 (h1 h))⟩
  by_cases h29 : 29 ≤ s.length
  · by_cases hu : (un_ s).2 = 0
    · have hug := un_got h29 hu
      by_cases hc : (c1 s).2.2 = 0
      · have hread := fun (out : Array Value) (ho : out = #[.agg #[.int .i64 (got s).k, .int .i64 (got s).ep, .int .i64 (got s).tm, .int .i64 (got s).ct, .int .i64 (got s).tg, .int .i64 (got s).un, .string ⟨(got s).rt.toArray⟩, .string ⟨(got s).nm.toArray⟩], .string ⟨(c2 s).2.1.toArray⟩, .int .i64 (c2 s).2.2]) W => read_any s (got s) (c1 s).2.1 (c2 s).2.1 0 (c2 s).2.2 W h29 hm hug (by show c1 s = _; rw [← hc]; rfl) rfl out (.inr ⟨rfl, ho⟩)
        by_cases hd : (c2 s).2.2 = 0
        · rw [hd] at hread
          by_cases hr : right (got s)
          · have ht : took s := ⟨h29, hu, hc, hd, hr⟩
            rw [take_yes ht, tc_yes ht]
            exact Take_any s (got s) _ w (fun W => hread _ rfl W) 0 (check_yes hr) _ (.inr ⟨rfl, rfl⟩)
          · rw [(bad (fun h => h.2.2.2.2) hr).1, (bad (fun h => h.2.2.2.2) hr).2]
            exact Take_any s (got s) _ w (fun W => hread _ rfl W) 2 (check_no hr) _ (.inl ⟨rfl, rfl⟩)
        · rw [(bad (fun h => h.2.2.2.1) hd).1, (bad (fun h => h.2.2.2.1) hd).2]
          exact Take_bad s (got s) _ _ w (fun W => hread _ rfl W) (beq_eq_false_iff_ne.2 hd)
      · rw [(bad (fun h => h.2.2.1) hc).1, (bad (fun h => h.2.2.1) hc).2]
        exact Take_bad s zero [] _ w (fun W => read_any s (got s) (c1 s).2.1 (c2 s).2.1 (c1 s).2.2 (c2 s).2.2 W h29 hm hug rfl rfl _ (.inl ⟨beq_eq_false_iff_ne.2 hc, rfl⟩)) (beq_eq_false_iff_ne.2 hc)
    · rw [(bad (fun h => h.2.1) hu).1, (bad (fun h => h.2.1) hu).2]
      exact Take_bad s zero [] _ w (fun W => read_un s (un_ s).1 (un_ s).2 W h29 rfl (beq_eq_false_iff_ne.2 hu)) (beq_eq_false_iff_ne.2 hu)
  · rw [(bad (fun h => h.1) h29).1, (bad (fun h => h.1) h29).2]
    exact Take_bad s zero [] 3 w (fun W => read_len s W h29) (by decide)
end Go.Proofs.YtkidehngleglnaaGreatDoor.RecU
