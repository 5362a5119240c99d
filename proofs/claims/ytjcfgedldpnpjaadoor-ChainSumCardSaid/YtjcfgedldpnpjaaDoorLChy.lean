/- ChnL ChnU ChnY: one behind the other. -/
import Derived.Test.YtjcfgedldpnpjaaDoorLChn
import Derived.Test.YtjcfgedldpnpjaaDoorOFill
import Derived.Test.YtjcfgedldpnpjaaDoorLHky
import Derived.Test.YtjcfgedldpnpjaaDoorLChf
import Derived.Test.YtjcfgedldpnpjaaDoorLRef
/- chain.Begin, chain.Last, chain.Sum: the walks of their texts. The conditions: those that each lemma names. -/
namespace Go.Proofs.YtjcfgedldpnpjaaDoor.ChnL
set_option linter.unusedVariables false
open Go.RowKit
open RecN RecC STurn SSum ChnN ChnM ChnC
theorem Begin (w : World) : Calls Tryd.prog 26 #[] w fun e w' => e = .returned (.string ⟨zeros.toArray⟩) ∧ Below w.heap.size w w' := by
  have HB : Hid (∀ W, Calls Tryd.prog 45 #[.string ⟨#[0]⟩, .int .i64 32] W fun e w' => e = .returned (.string ⟨zeros.toArray⟩) ∧ Below W.heap.size W w') := Lib.hid (fun W => OFill.repeated 32 W (by omega))
  generalize zeros = z at *
  go_enter Tryd.func26, Tryd.ntmps26
  go_wp2_with (go_at_call 45; refine (HB.out _).mono ?_; rintro e w1 ⟨rfl, hb⟩; have HB1 := Lib.hid hb; clear hb)
  go_ret
  exact ⟨rfl, HB1.out⟩
set_option maxRecDepth 100000 in
/-- THE CONTRACT of Last. -/
theorem Last (a : Option Addr) (n c : Nat) (s : List Sd) (w : World) (h : Lies w a (ss s)) (hl : s.length = n) (hn : n ≤ maxLen) :
    Calls Tryd.prog 22 #[.slice a n c] w fun e w' => e = .returned (.string ⟨(lastT s).toArray⟩) ∧ Below w.heap.size w w' := by
  unfold maxLen at hn
  rcases List.eq_nil_or_concat s with rfl | ⟨p, x, rfl⟩
  · obtain rfl : n = 0 := by simpa using hl.symm
    have HB := Lib.hid (fun W => Begin W)
    rw [lastT_nil]
    clear h hl hn
    generalize zeros = z at *
    go_enter Tryd.func22, Tryd.ntmps22
    go_wp2_with (go_at_call 26; refine (HB.out _).mono ?_; rintro e w1 ⟨rfl, hb⟩; have HB1 := Lib.hid hb; clear hb)
    go_ret
    exact ⟨rfl, HB1.out⟩
  · rw [List.concat_eq_append] at h hl ⊢
    rw [lastT_snoc]
    have hln : p.length + 1 = n := by simpa using hl
    obtain ⟨g, o, rfl, hg, hc⟩ := h.at9 (by simp)
    have h9 := hc p.length (by simp)
    rw [List.getElem_append_right (Nat.le_refl _)] at h9
    simp only [Nat.sub_self, List.getElem_cons_zero] at h9
    obtain ⟨q0, q1, q2, q3, q4, q5, q6, q7, q8⟩ := h9
    clear h hl hc hg
    generalize p.length = k at *
    subst hln
    have p0 : (0 : Int) ≤ (k : Int) := by omega
    have p1 : (k : Int) < ((k + 1 : Nat) : Int) := by omega
    have p2 : (((k + 1 : Nat) : Int) == 0) = false := by simp; omega
    go_enter Tryd.func22, Tryd.ntmps22
    go_wp2_with fail
    go_ret
    exact ⟨rfl, Below.refl _ _⟩
end Go.Proofs.YtjcfgedldpnpjaaDoor.ChnL
/- chain.Sum: the walk of its text. The conditions: the rounds' numbers lie in the program's variable; a row that lies there, with tags of a bounded length. -/
namespace Go.Proofs.YtjcfgedldpnpjaaDoor.ChnU
set_option linter.unusedVariables false
open Go.RowKit
open RecN RecC STurn SSum ChnN ChnM ChnC
set_option maxRecDepth 100000 in
set_option maxHeartbeats 4000000 in
/-- THE CONTRACT of Sum. -/
theorem Sum (a : Option Addr) (n c : Nat) (s : List Sd) (w : World) (h : Lies w a (ss s)) (hl : s.length = n) (hn : n ≤ maxLen) (ht : ∀ x ∈ s, x.2.length ≤ 281474976710656) (hr : Rds w) :
    Calls Tryd.prog 23 #[.slice a n c] w fun e w' => e = .returned (.string ⟨(sums s).toArray⟩) ∧ Below w.heap.size w w' := by
  unfold maxLen at hn
  have HL := Lib.hid h
  have HR := Lib.hid hr
  have HT := Lib.hid ht
  have H0 : Hid (∀ W, Rds W → Calls Tryd.prog 24 #[.slice none 0 0] W fun e w' => e = .returned (.string ⟨(sums (s.take 0)).toArray⟩) ∧ Below W.heap.size W w') := Lib.hid (fun W hr => SSum.sums none 0 0 [] W ⟨rfl, fun h => absurd h (by omega)⟩ hr (by simp) (by omega))
  clear h hr ht
  go_enter Tryd.func23, Tryd.ntmps23
  go_wp2_with (go_at_call 24; refine (H0.out _ HR.out).mono ?_; rintro e w1 ⟨rfl, hb⟩; have B1 := Lib.hid hb; clear hb H0)
  go_loopw [3, 9] (fun sv iv wr => ∃ k : Nat, k ≤ n ∧ iv = .int .i64 k ∧ sv = .string ⟨(ChnM.sums (s.take k)).toArray⟩ ∧ Below w.heap.size w wr) (fun _ iv _ => n - (intOf iv).toNat)
  case atStart => exact ⟨0, Nat.zero_le _, rfl, rfl, B1.out⟩
  case round =>
    obtain ⟨k, hk, rfl, rfl, hb⟩ := hrel
    have HB := Lib.hid hb
    clear hb
    by_cases hlt : k < n
    · obtain ⟨g, o, rfl, hg, hc⟩ := HL.out.at9 (by omega)
      have hks : k < s.length := by omega
      have h9 := (hc k hks).step hg HB.out
      have hsu := sums_succ s hks
      have hsl := sums_len (s.take k)
      have htl := HT.out _ (List.getElem_mem hks)
      have HP := Lib.hid (fun W hr => HInn.pair (ChnM.sums (s.take k)) s[k].2 W hr (by omega))
      rw [← hsu] at HP
      generalize s[k] = x at *
      obtain ⟨q0, q1, q2, q3, q4, q5, q6, q7, q8⟩ := h9
      have p0 : (0 : Int) ≤ (k : Int) := by omega
      have p1 : (k : Int) < (n : Int) := by omega
      generalize hy : ChnM.sums (s.take (k + 1)) = y at *
      have HY := Lib.hid hy
      clear hc hsl htl hsu hy
      generalize ChnM.sums (s.take k) = u at *
      go_upto_region 5 with (refine wpList_store_row rfl 44 _ _ rfl wr.heap.size _ rfl rfl 44 _ (heap_alloc_new wr _) infoS rfl (one9 x) ?_)
      generalize hW : World.setRow _ _ _ = W4
      have b4 : Below wr.heap.size wr W4 := by rw [← hW]; exact kept_new wr _ _ _
      have g4 : Bs W4 wr.heap.size x := by rw [← hW]; exact has_new wr _ _ _
      clear hW q0 q1 q2 q3 q4 q5 q6 q7 q8
      have B4 := Lib.hid (HB.out.trans (b4.mono HB.out.size))
      obtain ⟨k0, k1, k2, k3, k4, k5, k6, k7, k8⟩ := g4.cells
      clear b4 g4
      go_wp2_with (go_at_call 24; refine (HP.out _ (HR.out.step B4.out)).mono ?_; rintro e w5 ⟨rfl, hb⟩; have B5 := Lib.hid (B4.out.trans (hb.mono B4.out.size)); clear hb)
      go_roundw
      case rel => exact ⟨k + 1, by omega, by go_num, by rw [HY.out], B5.out⟩
      case measure => simp [intOf]; omega
    · obtain rfl : k = n := by omega
      have pk : ¬ (k : Int) < (k : Int) := by omega
      have HE : Hid (s.take k = s) := Lib.hid (List.take_of_length_le (by omega))
      go_wp2_with fail
      go_ret
      rw [HE.out]
      exact ⟨rfl, HB.out⟩
end Go.Proofs.YtjcfgedldpnpjaaDoor.ChnU
/- The statements' 'records', the chapter's example: the walks of their texts. The condition: the rounds' numbers lie in the program's variable. -/
namespace Go.Proofs.YtjcfgedldpnpjaaDoor.ChnY
set_option linter.unusedVariables false
open Go.RowKit
open RecN RecC STurn SSum ChnN ChnM ChnC ChnD ChnA ChnF ChnL ChnU
set_option maxRecDepth 100000 in
set_option maxHeartbeats 4000000 in
/-- What 'records' answers: a row of its own. -/
theorem records (a : Option Addr) (n c : Nat) (s : List Sd) (w : World) (h : Lies w a (ss s)) (hl : s.length = n) (hn : n ≤ 100000) :
    Calls Tryd.prog 15 #[.slice a n c] w fun e w' => ∃ p cp, e = .returned (.slice p n cp) ∧ w'.ownsRow w.heap.size 23 8 (.slice p n cp) n (rr (recs s)) ∧ Below w.heap.size w w' := by
  have HL := Lib.hid h
  clear h
  go_enter Tryd.func15, Tryd.ntmps15
  go_wp2_with fail
  go_loopw [3, 8] (fun ov iv wr => ∃ (k : Nat) (p : Option Addr) (cp : Nat), k ≤ n ∧ iv = .int .i64 k ∧ ov = .slice p k cp ∧ wr.ownsRow w.heap.size 23 8 (.slice p k cp) k (rr (recs (s.take k))) ∧ Below w.heap.size w wr) (fun _ iv _ => n - (intOf iv).toNat)
  case atStart => exact ⟨0, none, 0, Nat.zero_le _, rfl, rfl, World.ownsRow_nil _ _ _ _, Below.refl _ _⟩
  case round =>
    obtain ⟨k, p, cp, hk, rfl, rfl, ho, hb⟩ := hrel
    have HB := Lib.hid hb
    have HO := Lib.hid ho
    clear hb ho
    by_cases hlt : k < n
    · obtain ⟨g, o, rfl, hg, hc⟩ := HL.out.at9 (by omega)
      have hks : k < s.length := by omega
      have h9 := (hc k hks).step hg HB.out
      have e : s.take (k + 1) = s.take k ++ [s[k]] := List.take_succ_eq_append_getElem hks
      have HT : Hid (recs (s.take (k + 1)) = recs (s.take k) ++ [s[k].1]) := Lib.hid (by rw [e]; unfold recs; rw [List.map_append]; rfl)
      have hlk : (recs (s.take k)).length = k := by rw [recs_len, List.length_take]; omega
      generalize s[k] = x at *
      obtain ⟨q0, q1, q2, q3, q4, q5, q6, q7, q8⟩ := h9
      have p0 : (0 : Int) ≤ (k : Int) := by omega
      have p1 : (k : Int) < (n : Int) := by omega
      clear hc e
      go_upto_region 5 with (refine wpList_store_row rfl 44 _ _ rfl wr.heap.size _ rfl rfl 44 _ (heap_alloc_new wr _) infoS rfl (one9 x) ?_)
      generalize hW : World.setRow _ _ _ = W4
      have b4 : Below wr.heap.size wr W4 := by rw [← hW]; exact kept_new wr _ _ _
      have g4 : Bs W4 wr.heap.size x := by rw [← hW]; exact has_new wr _ _ _
      clear hW q0 q1 q2 q3 q4 q5 q6 q7 q8
      have B4 := Lib.hid (HB.out.trans (b4.mono HB.out.size))
      have O4 := Lib.hid (own_step HO.out b4)
      obtain ⟨k0, k1, k2, k3, k4, k5, k6, k7, k8⟩ := g4.cells
      have B5 := Lib.hid (B4.out.trans ((below_new W4 (.cells #[.int .i64 x.1.k, .int .i64 x.1.ep, .int .i64 x.1.tm, .int .i64 x.1.ct, .int .i64 x.1.tg, .int .i64 x.1.un, .string ⟨x.1.rt.toArray⟩, .string ⟨x.1.nm.toArray⟩] 23)).mono B4.out.size))
      have O5 := Lib.hid (own_step O4.out (below_new W4 (.cells #[.int .i64 x.1.k, .int .i64 x.1.ep, .int .i64 x.1.tm, .int .i64 x.1.ct, .int .i64 x.1.tg, .int .i64 x.1.un, .string ⟨x.1.rt.toArray⟩, .string ⟨x.1.nm.toArray⟩] 23)))
      have G5 : Hid (Bk (W4.alloc (.cells #[.int .i64 x.1.k, .int .i64 x.1.ep, .int .i64 x.1.tm, .int .i64 x.1.ct, .int .i64 x.1.tg, .int .i64 x.1.un, .string ⟨x.1.rt.toArray⟩, .string ⟨x.1.nm.toArray⟩] 23)) W4.heap.size x.1) := Lib.hid (heap_alloc_new W4 _)
      clear b4 g4
      go_wp2_with (at_builtin; refine append_rec _ rfl _ _ rfl w.heap.size cp k p (recs (s.take k)) x.1 hlk rfl (by omega) B5.out.size W4.heap.size rfl G5.out O5.out ?_; intro p6 c6 w6 ho6 hb6; have O6 := Lib.hid ho6; have B6 := Lib.hid (B5.out.trans hb6); clear ho6 hb6)
      go_roundw
      case rel => exact ⟨k + 1, p6, c6, by omega, by go_num, rfl, by rw [HT.out]; exact O6.out, B6.out⟩
      case measure => simp [intOf]; omega
    · obtain rfl : k = n := by omega
      have pk : ¬ (k : Int) < (k : Int) := by omega
      have HE : Hid (s.take k = s) := Lib.hid (List.take_of_length_le (by omega))
      go_wp2_with fail
      go_ret
      have ho := HO.out
      rw [HE.out] at ho
      exact ⟨p, cp, rfl, ho, HB.out⟩
/-- The chapter's example. -/
def ex (z : List UInt8) : Rec := ⟨1, 5, 0, 0, 0, 0, z, []⟩
theorem ex_fol : folR 5 [ex zeros] = (6, 1, 0) := by
  have hf : fits 5 [] (ex zeros) := ⟨by decide, by rw [opn_nil]; rfl, by decide⟩
  rw [folR, if_pos (by decide), fol_yes hf, fol_nil]
  have : opn 5 ([] ++ [ex zeros]) = 6 := by rw [opn_snoc, if_pos (show (ex zeros).k = 1 from rfl), opn_nil]; rfl
  rw [this]
  rfl
set_option maxRecDepth 100000 in
set_option maxHeartbeats 2000000 in
theorem alive (w : World) (hr : Rds w) : Calls Tryd.prog 8 #[] w fun e w' => e = .returned (.bool true) ∧ Below w.heap.size w w' := by
  have HN : Hid (∀ W, Calls Tryd.prog 25 #[.int .i64 32] W fun e w' => e = .returned (.string ⟨zeros.toArray⟩) ∧ Below W.heap.size W w') := Lib.hid (fun W => (RNou.noughts 32 W (by omega)).mono fun e w' h => ⟨h.1, h.2⟩)
  have HB := Lib.hid (fun W => Begin W)
  have HF : Hid (∀ W, Calls Tryd.prog 17 #[.int .i64 5, .slice (some ⟨W.heap.size, 0, none⟩) 1 1] (W.alloc (.cells #[.int .i64 1, .int .i64 5, .int .i64 0, .int .i64 0, .int .i64 0, .int .i64 0, .string ⟨zeros.toArray⟩, .string ⟨#[]⟩] 23)) fun e w' => e = .returned (.tuple #[.int .i64 6, .int .i64 1, .int .i64 0]) ∧ Below W.heap.size W w') := Lib.hid (fun W => by
    have hlies : Lies (W.alloc (.cells #[.int .i64 (ex zeros).k, .int .i64 (ex zeros).ep, .int .i64 (ex zeros).tm, .int .i64 (ex zeros).ct, .int .i64 (ex zeros).tg, .int .i64 (ex zeros).un, .string ⟨(ex zeros).rt.toArray⟩, .string ⟨(ex zeros).nm.toArray⟩] 23)) (some ⟨W.heap.size, 0, none⟩) (rr [ex zeros]) := fun _ => by
      refine ⟨W.heap.size, 0, rfl, by simp, fun j u hj => ?_⟩
      rw [rr_one] at hj
      rw [Nat.zero_add]
      exact blk_cell (heap_alloc_new W _) (by rw [← Array.getElem?_toList]; exact hj)
    have := Follow 5 (some ⟨W.heap.size, 0, none⟩) 1 1 [ex zeros] (W.alloc (.cells #[.int .i64 (ex zeros).k, .int .i64 (ex zeros).ep, .int .i64 (ex zeros).tm, .int .i64 (ex zeros).ct, .int .i64 (ex zeros).tg, .int .i64 (ex zeros).un, .string ⟨(ex zeros).rt.toArray⟩, .string ⟨(ex zeros).nm.toArray⟩] 23)) hlies rfl (by unfold maxLen; omega)
    rw [ex_fol] at this
    exact this.mono fun e w' ⟨h1, h2⟩ => ⟨h1, (below_new W _).trans (h2.mono (by simp))⟩)
  have HS : Hid (∀ W, Rds W → Calls Tryd.prog 23 #[.slice none 0 0] W fun e w' => e = .returned (.string ⟨(ChnM.sums []).toArray⟩) ∧ Below W.heap.size W w') := Lib.hid (fun W hr => Sum none 0 0 [] W (Lies.nil _ _) rfl (by omega) (fun x hx => by simp at hx) hr)
  have hsl := sums_len []
  have HR := Lib.hid hr
  clear hr
  generalize ChnM.sums [] = u at *
  have hq : (((u.length : Nat) : Int) == 32) = true := by simp [hsl]
  generalize zeros = z at *
  clear hsl
  go_enter Tryd.func8, Tryd.ntmps8
  go_upto_region 2 with (first
    | (go_at_call 25; refine (HN.out _).mono ?_; rintro e w1 ⟨rfl, hb⟩; have B1 := Lib.hid hb; clear hb)
    | (go_at_call 17; refine (HF.out _).mono ?_; rintro e w2 ⟨rfl, hb⟩; have B2 := Lib.hid (B1.out.trans (hb.mono B1.out.size)); clear hb))
  have he : (z == z) = true := by simp
  go_wp2_with (first
    | (go_at_call 26; refine (HB.out _).mono ?_; rintro e w3 ⟨rfl, hb⟩; have B3 := Lib.hid (B2.out.trans (hb.mono B2.out.size)); clear hb HB)
    | (go_at_call 25; refine (HN.out _).mono ?_; rintro e w4 ⟨rfl, hb⟩; have B4 := Lib.hid (B3.out.trans (hb.mono B3.out.size)); clear hb)
    | (go_at_call 23; refine (HS.out _ (HR.out.step B4.out)).mono ?_; rintro e w5 ⟨rfl, hb⟩; have B5 := Lib.hid (B4.out.trans (hb.mono B4.out.size)); clear hb HS))
  go_ret
  exact ⟨rfl, B5.out⟩
end Go.Proofs.YtjcfgedldpnpjaaDoor.ChnY
