/- record.Show: the walk of its text; the chapter's example. The condition: the table of tens lies in its variable. -/
import Derived.Test.YtpnmhfaenmeimaaDoorRecW
import Derived.Test.YtpnmhfaenmeimaaDoorSlice
import Derived.Deep.RegionHeldLaw
import Derived.Deep.AppendLies
namespace Go.Proofs.YtpnmhfaenmeimaaDoor.RecF
open Go.RowKit
open RecN RecC RecM RecL RecK RecW
theorem info9 : (Tryd.prog.info? 9).map (fun i => (i.zero, i.size, i.bytes)) = some (some (.string ⟨#[]⟩), 1, 16) := by kernel_rfl
theorem news2 {W : World} {S : Nat} {a b : Value} {t : TypeId} (h : W.heap[S]? = some (.cells #[a, b] t (0, 0))) : ∀ j u, ([a, b] : List Value)[j]? = some u → W.cell? ((⟨S, 0, none⟩ : Addr).add j) = some u := by
  intro j u hu
  rcases j with _ | _ | j
  · simp at hu
    subst hu
    exact blk_cell h rfl
  · simp at hu
    subst hu
    exact blk_cell h rfl
  · simp at hu
theorem own_block {W : World} {base g : Nat} {l : List (List UInt8)} (hl : l.length ≤ 100) (hg : W.heap[g]? = some (.cells (wc l).toArray 9 (0, 0))) (hb : base ≤ g) : W.ownsRow base 9 1 (.slice (some ⟨g, 0, none⟩) l.length l.length) l.length (wc l) :=
  ⟨by simp [wc], .inr ⟨g, l.length, (wc l).toArray, rfl, hb, hg, Nat.le_refl _, by unfold maxLen; omega, by simp [wc], List.take_of_length_le (by simp [wc])⟩⟩
theorem own_reads {W : World} {base g n cap : Nat} {xs : List Value} (h : W.ownsRow base 9 1 (.slice (some ⟨g, 0, none⟩) n cap) n xs) : g < W.heap.size ∧ n ≤ cap ∧ base ≤ g ∧ ∀ j x, xs[j]? = some x → W.cell? ⟨g, 0 + j, none⟩ = some x := by
  rcases h.2 with ⟨e, _⟩ | ⟨g', c', cur, hv, hb, hg, hn, _, hsz, htk⟩
  · cases e
  · injection hv with e1 e2 e3
    injection e1 with e1
    injection e1 with e1
    subst e1 e3
    refine ⟨lt_of_some hg, hn, hb, fun j x hj => ?_⟩
    rw [Nat.zero_add]
    refine blk_cell hg ?_
    rw [← htk, List.getElem?_take] at hj
    split at hj
    · simpa using hj
    · cases hj
/-- What strings.Join answers of a row of the call's own. -/
theorem joined (l : List (List UInt8)) (n : Nat) (hn : n = l.length) (W : World) (base g cap : Nat) (h : W.ownsRow base 9 1 (.slice (some ⟨g, 0, none⟩) n cap) n (wc l)) (hl : l.length ≤ 100) (hj : (Lib.join l [32]).length ≤ 1000) :
    Calls Tryd.prog 26 #[.slice (some ⟨g, 0, none⟩) n cap, .string ⟨#[32]⟩] W fun e w' => e = .returned (.string ⟨(Lib.join l [32]).toArray⟩) ∧ Below W.heap.size W w' := by
  obtain ⟨hg, hc, _, hat⟩ := own_reads h
  have hm : (l.map fun s => (⟨s.toArray⟩ : ByteArray)).map (·.data.toList) = l := by
    rw [List.map_map]
    exact List.map_id' l
  have := Tryd.strings_Join g 0 cap (l.map fun s => (⟨s.toArray⟩ : ByteArray)) ⟨#[32]⟩ W (fun j x hx => by
    rw [List.getElem?_map] at hx
    refine hat j _ ?_
    unfold wc
    rw [List.getElem?_map]
    cases hlj : l[j]? with
    | none => rw [hlj] at hx; cases hx
    | some s =>
      rw [hlj] at hx
      cases hx
      rfl) hg (by rw [List.length_map]; omega) (by rw [List.length_map]; omega) (by rw [hm]; show (Lib.join l [32]).length ≤ _; omega)
  rw [hm, List.length_map, ← hn] at this
  exact this
theorem wc_app (l : List (List UInt8)) (a b : List UInt8) : wc l ++ [.string ⟨a.toArray⟩, .string ⟨b.toArray⟩] = wc (l ++ [a, b]) := by simp [wc]
set_option maxRecDepth 100000 in
set_option maxHeartbeats 4000000 in
theorem Show_yes (r : Rec) (h : right r) (w : World) (ht : Tens w) :
    Calls Tryd.prog 12 #[.agg #[.int .i64 r.k, .int .i64 r.ep, .int .i64 r.tm, .int .i64 r.ct, .int .i64 r.tg, .int .i64 r.un, .string ⟨r.rt.toArray⟩, .string ⟨r.nm.toArray⟩]] w fun e w' => e = .returned (.string ⟨(told r).toArray⟩) ∧ Below w.heap.size w w' := by
  obtain ⟨i0, hi, hz0, hz1, hz2⟩ := info_parts info9
  obtain ⟨W1, hW1⟩ : ∃ W1, W1 = w.alloc (.cells #[.int .i64 r.k, .int .i64 r.ep, .int .i64 r.tm, .int .i64 r.ct, .int .i64 r.tg, .int .i64 r.un, .string ⟨r.rt.toArray⟩, .string ⟨r.nm.toArray⟩] 23) := ⟨_, rfl⟩
  have SS : Hid (Wt w r W1) := Lib.hid (by rw [hW1]; exact wt_new w r ht)
  obtain ⟨k0, k1, k2, k3, k4, k5, k6, k7⟩ := SS.out.k.cells
  have HC := Lib.hid (fun W => Check r W)
  rw [check_yes h] at HC
  have HW := Lib.hid (fun W (hh : Tens W) => words r h W hh)
  have hb := bounds h
  have HI := Lib.hid (fun W (hh : Tens W) => itoa r.tm hb.2.2.1.1 hb.2.2.1.2 W hh)
  have hl : (RecM.words r).length ≤ 3 := words_count r
  have HJ : Hid ((Lib.join (RecM.words r ++ [[97, 116], dec r.tm]) [32]).length ≤ 1000) := Lib.hid (by have := told_len h; show (told r).length ≤ 1000; omega)
  have HZ : Hid (told r = Lib.join (RecM.words r ++ [[97, 116], dec r.tm]) [32]) := Lib.hid rfl
  clear h hb ht
  generalize told r = tr at *
  generalize RecM.words r = l at *
  generalize dec r.tm = d at *
  go_enter Tryd.func12, Tryd.ntmps12
  go_upto_region 1 with (fail)
  rw [← hW1]
  clear hW1
  go_upto_region 3 with (go_at_call 11; refine (HC.out _).mono ?_; rintro e w2 ⟨rfl, hb⟩; replace SS := Lib.hid (SS.out.step hb); clear hb HC k0 k1 k2 k3 k4 k5 k6 k7)
  replace SS := Lib.hid SS.out.drew
  have HX : Hid (w.heap.size < w2.drew.heap.size) := Lib.hid SS.out.k.lt
  have hS := SS.out.k.cells
  go_region_held_law (fun W' => W'.cell? ⟨w.heap.size, 0, none⟩ = some (.int .i64 r.k) ∧ W'.cell? ⟨w.heap.size, 1, none⟩ = some (.int .i64 r.ep) ∧ W'.cell? ⟨w.heap.size, 2, none⟩ = some (.int .i64 r.tm) ∧ W'.cell? ⟨w.heap.size, 3, none⟩ = some (.int .i64 r.ct) ∧ W'.cell? ⟨w.heap.size, 4, none⟩ = some (.int .i64 r.tg) ∧ W'.cell? ⟨w.heap.size, 5, none⟩ = some (.int .i64 r.un) ∧ W'.cell? ⟨w.heap.size, 6, none⟩ = some (.string ⟨r.rt.toArray⟩) ∧ W'.cell? ⟨w.heap.size, 7, none⟩ = some (.string ⟨r.nm.toArray⟩))
    (first | exact hS | exact hS1)
    (first
      | (go_at_call 27; refine (HW.out _ SS.out.tens).mono ?_; rintro e w3 ⟨g, rfl, hg, hc, hb⟩; have HG := Lib.hid hg; have HL := Lib.hid hc; replace SS := Lib.hid (SS.out.step hb); replace hS := SS.out.k.cells; clear hb HW hg hc)
      | (go_at_call 28; refine (HI.out _ SS.out.tens).mono ?_; rintro e w4 ⟨rfl, hb⟩; replace HL := Lib.hid ((hb.block _ (lt_of_some HL.out)).trans HL.out); replace SS := Lib.hid (SS.out.step hb); have SN := Lib.hid (SS.out.step (below_new w4 (.cells #[.string ⟨#[97, 116]⟩, .string ⟨d.toArray⟩] 9))); have LN := Lib.hid (((below_new w4 (.cells #[.string ⟨#[97, 116]⟩, .string ⟨d.toArray⟩] 9)).block _ (lt_of_some HL.out)).trans HL.out); have NN := Lib.hid (heap_alloc_new w4 (.cells #[.string ⟨#[97, 116]⟩, .string ⟨d.toArray⟩] 9)); have hS1 := SN.out.k.cells; replace hS := SS.out.k.cells; clear hb HI)
      | (refine step_append_lies _ (by rfl) _ _ _ (by rfl) w.heap.size 9 i0 (.string ⟨#[]⟩) 1 16 Tryd.underlying49 hi hz0 hz1 hz2 rfl (by omega) (.slice (some ⟨g, 0, none⟩) l.length l.length) l.length (wc l) (by rfl) (own_block (by omega) LN.out (by have := HG.out; have := HX.out; omega)) ⟨w4.heap.size, 0, none⟩ 2 2 [.string ⟨#[97, 116]⟩, .string ⟨d.toArray⟩] (by rfl) rfl (fun j u hu => news2 NN.out j u hu) (by simp [Value.oneCell']) (by omega) (by unfold maxLen; omega) (by omega) SN.out.bel.size (w4.alloc (.cells #[.string ⟨#[97, 116]⟩, .string ⟨d.toArray⟩] 9)).heap.size rfl ?_; intro gg cap w5 hown hgr hat hlt; rw [wc_app] at hown; have HO := Lib.hid hown; have hlw := SS.out.k.lt; have BB := Lib.hid (SN.out.bel.grown hgr SN.out.bel.size (fun k hk => by have e : g = k := Option.some.inj hk; have := HG.out; have := HX.out; omega)); have KB : Hid (Bk w5 w.heap.size r) := Lib.hid ((show Bk w5 w.heap.size r from (hgr.block w.heap.size SN.out.k.lt (fun e => by have e : w.heap.size = g := Option.some.inj e; have := HG.out; have := HX.out; omega)).trans SN.out.k)); have hS := KB.out.cells; clear hown hgr hat hlt hlw)
      | (go_at_call 26; refine (joined (l ++ [[97, 116], d]) _ (by simp) _ _ _ _ HO.out (by simp; omega) HJ.out).mono ?_; rintro e w6 ⟨rfl, hb⟩; have B6 := Lib.hid (BB.out.trans (hb.mono BB.out.size)); have hS := (KB.out.step hb).cells; clear hb))
  go_wp2_with fail
  go_ret
  rw [HZ.out]
  exact ⟨rfl, B6.out⟩
theorem Show_no (r : Rec) (h : ¬ right r) (w : World) :
    Calls Tryd.prog 12 #[.agg #[.int .i64 r.k, .int .i64 r.ep, .int .i64 r.tm, .int .i64 r.ct, .int .i64 r.tg, .int .i64 r.un, .string ⟨r.rt.toArray⟩, .string ⟨r.nm.toArray⟩]] w fun e w' => e = .returned (.string ⟨#[]⟩) ∧ Below w.heap.size w w' := by
  obtain ⟨W1, hW1⟩ : ∃ W1, W1 = w.alloc (.cells #[.int .i64 r.k, .int .i64 r.ep, .int .i64 r.tm, .int .i64 r.ct, .int .i64 r.tg, .int .i64 r.un, .string ⟨r.rt.toArray⟩, .string ⟨r.nm.toArray⟩] 23) := ⟨_, rfl⟩
  have SS : Hid (Ws w r W1) := Lib.hid (by rw [hW1]; exact ws_new w r)
  obtain ⟨k0, k1, k2, k3, k4, k5, k6, k7⟩ := SS.out.k.cells
  have HC := Lib.hid (fun W => Check r W)
  rw [check_no h] at HC
  clear h
  go_enter Tryd.func12, Tryd.ntmps12
  go_upto_region 1 with (fail)
  rw [← hW1]
  clear hW1
  go_wp2_with (go_at_call 11; refine (HC.out _).mono ?_; rintro e w2 ⟨rfl, hb⟩; replace SS := Lib.hid (SS.out.step hb); clear hb)
  go_ret
  exact ⟨rfl, SS.out.bel⟩
/-- What record.Show answers. -/
theorem Show (r : Rec) (w : World) (ht : Tens w) :
    Calls Tryd.prog 12 #[.agg #[.int .i64 r.k, .int .i64 r.ep, .int .i64 r.tm, .int .i64 r.ct, .int .i64 r.tg, .int .i64 r.un, .string ⟨r.rt.toArray⟩, .string ⟨r.nm.toArray⟩]] w fun e w' => e = .returned (.string ⟨(shown r).toArray⟩) ∧ Below w.heap.size w w' := by
  unfold shown
  by_cases h : right r
  · rw [if_pos h]
    exact Show_yes r h w ht
  · rw [if_neg h]
    exact Show_no r h w
theorem shown_ex (W : World) (ht : Tens W) : Calls Tryd.prog 12 #[.agg #[.int .i64 3, .int .i64 4, .int .i64 9, .int .i64 0, .int .i64 2, .int .i64 0, .string ⟨#[]⟩, .string ⟨#[97]⟩]] W fun e w' => e = .returned (.string ⟨([104, 111, 108, 100, 32, 97, 32, 50, 32, 97, 116, 32, 57] : List UInt8).toArray⟩) ∧ Below W.heap.size W w' := by
  have := Show_yes ex ex_right W ht
  rw [ex_told] at this
  exact this
/-- The chapter's example. -/
theorem alive (w : World) (ht : Tens w) :
    Calls Tryd.prog 8 #[] w fun e w' => e = .returned (.bool true) ∧ Below w.heap.size w w' := by
  have HS := Lib.hid (shown_ex w ht)
  go_enter Tryd.func8, Tryd.ntmps8
  go_wp2_with (go_at_call 12; refine HS.out.mono ?_; rintro e w2 ⟨rfl, hb⟩; have HB := Lib.hid hb; clear hb)
  go_ret
  exact ⟨rfl, HB.out⟩
end Go.Proofs.YtpnmhfaenmeimaaDoor.RecF
