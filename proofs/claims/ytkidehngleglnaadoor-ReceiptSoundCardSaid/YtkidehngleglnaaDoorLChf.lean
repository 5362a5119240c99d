/- ChnA ChnF ChnG: one behind the other. -/
import Derived.Test.YtkidehngleglnaaDoorLChn
import Derived.Test.YtkidehngleglnaaDoorRecQ
import Derived.Test.YtkidehngleglnaaDoorOPut
/- chain.isWide, chain.Said: the walks of their texts. No conditions. -/
namespace Go.Proofs.YtkidehngleglnaaDoor.ChnA
set_option linter.unusedVariables false
open Go.RowKit
open RecN RecC RecQ ChnN ChnM ChnC
theorem isWide (l : List UInt8) (w : World) : Calls Tryd.prog 31 #[.string ⟨l.toArray⟩] w fun e w' => e = .returned (.bool (decide (l.length = 32))) ∧ w = w' := by
  obtain ⟨b, hb⟩ : ∃ b : Bool, decide (l.length = 32) = b := ⟨_, rfl⟩
  rw [hb]
  have he : ((l.length : Int) == 32) = b := by
    rw [← hb]
    by_cases h : l.length = 32
    · rw [decide_eq_true h]; simp [h]
    · rw [decide_eq_false h]; simp; omega
  clear hb
  go_enter Tryd.func31, Tryd.ntmps31
  go_wp2
  go_ret
  exact ⟨rfl, rfl⟩
theorem four {n : Int} (h : 0 ≤ n ∧ n ≤ 4294967295) : put n 4 = (be 4 n.toNat, 0) := put_good n 4 (by omega) (by omega) h.1 (by simp only [Int.reduceToNat, Int.reducePow]; omega)
theorem four_no {n : Int} (h : ¬ (0 ≤ n ∧ n ≤ 4294967295)) : put n 4 = ([], 2) := put_bad n 4 (by simp only [Int.reduceToNat, Int.reducePow]; omega)
set_option maxRecDepth 100000 in
set_option maxHeartbeats 2000000 in
theorem Said_yes (was : List UInt8) (n : Int) (r : Rec) (w : World) (h : sayOk was n r) :
    Calls Tryd.prog 16 #[.string ⟨was.toArray⟩, .int .i64 n, .agg #[.int .i64 r.k, .int .i64 r.ep, .int .i64 r.tm, .int .i64 r.ct, .int .i64 r.tg, .int .i64 r.un, .string ⟨r.rt.toArray⟩, .string ⟨r.nm.toArray⟩]] w fun e w' => e = .returned (.tuple #[.string ⟨(say was n r).toArray⟩, .int .i64 0]) ∧ Below w.heap.size w w' := by
  obtain ⟨W1, hW1⟩ : ∃ W1, W1 = w.alloc (.cells #[.int .i64 r.k, .int .i64 r.ep, .int .i64 r.tm, .int .i64 r.ct, .int .i64 r.tg, .int .i64 r.un, .string ⟨r.rt.toArray⟩, .string ⟨r.nm.toArray⟩] 31) := ⟨_, rfl⟩
  have SS : Hid (Ws w r W1) := Lib.hid (by rw [hW1]; exact ws_new w r)
  obtain ⟨k0, k1, k2, k3, k4, k5, k6, k7⟩ := SS.out.k.cells
  have HI := Lib.hid (fun W => isWide was W)
  rw [decide_eq_true h.1] at HI
  have HP := Lib.hid (fun W => OPut.any n 4 W)
  rw [four h.2.1] at HP
  have HR := Lib.hid (fun W => RecQ.Put_yes r W h.2.2)
  have HE : Hid (say was n r = was ++ (be 4 n.toNat ++ RecN.bytes r)) := Lib.hid rfl
  have hl := say_len h
  have hb := bounds h.2.2
  have hbl := bytes_len h.2.2
  have h4 : (be 4 n.toNat).length = 4 := be_length _ _
  have h1 := h.1
  generalize be 4 n.toNat = b at *
  generalize RecN.bytes r = s at *
  generalize say was n r = o at *
  have a1 := add_l was b (by omega)
  have a2 := add_l (was ++ b) s (by rw [List.length_append]; omega)
  clear h hl hb hbl h4 h1
  go_enter Tryd.func16, Tryd.ntmps16
  go_upto_region 1 with (fail)
  rw [← hW1]
  clear hW1
  go_wp2_with (first
    | (go_at_call 31; refine (HI.out _).mono ?_; rintro e _ ⟨rfl, rfl⟩; clear HI)
    | (go_at_call 32; refine (HP.out _).mono ?_; rintro e w2 ⟨rfl, hb⟩; replace SS := Lib.hid (SS.out.step hb); clear hb k0 k1 k2 k3 k4 k5 k6 k7 HP; obtain ⟨k0, k1, k2, k3, k4, k5, k6, k7⟩ := SS.out.k.cells)
    | (go_at_call 33; refine (HR.out _).mono ?_; rintro e w3 ⟨rfl, hb⟩; replace SS := Lib.hid (SS.out.step hb); clear hb k0 k1 k2 k3 k4 k5 k6 k7 HR))
  go_ret2
  rw [HE.out]
  exact ⟨rfl, SS.out.bel⟩
set_option maxRecDepth 100000 in
set_option maxHeartbeats 2000000 in
theorem Said_no (was : List UInt8) (n : Int) (r : Rec) (w : World) (h : ¬ sayOk was n r) :
    Calls Tryd.prog 16 #[.string ⟨was.toArray⟩, .int .i64 n, .agg #[.int .i64 r.k, .int .i64 r.ep, .int .i64 r.tm, .int .i64 r.ct, .int .i64 r.tg, .int .i64 r.un, .string ⟨r.rt.toArray⟩, .string ⟨r.nm.toArray⟩]] w fun e w' => e = .returned (.tuple #[.string ⟨#[]⟩, .int .i64 2]) ∧ Below w.heap.size w w' := by
  obtain ⟨W1, hW1⟩ : ∃ W1, W1 = w.alloc (.cells #[.int .i64 r.k, .int .i64 r.ep, .int .i64 r.tm, .int .i64 r.ct, .int .i64 r.tg, .int .i64 r.un, .string ⟨r.rt.toArray⟩, .string ⟨r.nm.toArray⟩] 31) := ⟨_, rfl⟩
  have SS : Hid (Ws w r W1) := Lib.hid (by rw [hW1]; exact ws_new w r)
  obtain ⟨k0, k1, k2, k3, k4, k5, k6, k7⟩ := SS.out.k.cells
  have HI := Lib.hid (fun W => isWide was W)
  have HP := Lib.hid (fun W => OPut.any n 4 W)
  have HR := Lib.hid (fun W => RecQ.Put r W)
  have hq : was.length ≠ 32 ∨ (was.length = 32 ∧ ¬ (0 ≤ n ∧ n ≤ 4294967295)) ∨ (was.length = 32 ∧ (0 ≤ n ∧ n ≤ 4294967295) ∧ ¬ right r) := by
    by_cases h1 : was.length = 32
    · by_cases h2 : 0 ≤ n ∧ n ≤ 4294967295
      · exact .inr (.inr ⟨h1, h2, fun hr => h ⟨h1, h2, hr⟩⟩)
      · exact .inr (.inl ⟨h1, h2⟩)
    · exact .inl h1
  clear h
  go_enter Tryd.func16, Tryd.ntmps16
  go_upto_region 1 with (fail)
  rw [← hW1]
  clear hW1
  rcases hq with h1 | ⟨h1, h2⟩ | ⟨h1, h2, h3⟩
  · rw [decide_eq_false h1] at HI
    clear h1
    go_wp2_with (go_at_call 31; refine (HI.out _).mono ?_; rintro e _ ⟨rfl, rfl⟩; clear HI)
    go_ret2
    exact ⟨rfl, SS.out.bel⟩
  · rw [decide_eq_true h1] at HI
    rw [four_no h2] at HP
    clear h1 h2
    go_wp2_with (first
      | (go_at_call 31; refine (HI.out _).mono ?_; rintro e _ ⟨rfl, rfl⟩; clear HI)
      | (go_at_call 32; refine (HP.out _).mono ?_; rintro e w2 ⟨rfl, hb⟩; replace SS := Lib.hid (SS.out.step hb); clear hb HP))
    go_ret2
    exact ⟨rfl, SS.out.bel⟩
  · rw [decide_eq_true h1] at HI
    rw [four h2] at HP
    rw [RecQ.put_no h3] at HR
    clear h1 h2 h3
    go_wp2_with (first
      | (go_at_call 31; refine (HI.out _).mono ?_; rintro e _ ⟨rfl, rfl⟩; clear HI)
      | (go_at_call 32; refine (HP.out _).mono ?_; rintro e w2 ⟨rfl, hb⟩; replace SS := Lib.hid (SS.out.step hb); clear hb k0 k1 k2 k3 k4 k5 k6 k7 HP; obtain ⟨k0, k1, k2, k3, k4, k5, k6, k7⟩ := SS.out.k.cells)
      | (go_at_call 33; refine (HR.out _).mono ?_; rintro e w3 ⟨rfl, hb⟩; replace SS := Lib.hid (SS.out.step hb); clear hb k0 k1 k2 k3 k4 k5 k6 k7 HR))
    go_ret2
    exact ⟨rfl, SS.out.bel⟩
def code (b : Bool) : Int := if b then 0 else 2
/-- THE CONTRACT of Said. -/
theorem Said (was : List UInt8) (n : Int) (r : Rec) (w : World) :
    Calls Tryd.prog 16 #[.string ⟨was.toArray⟩, .int .i64 n, .agg #[.int .i64 r.k, .int .i64 r.ep, .int .i64 r.tm, .int .i64 r.ct, .int .i64 r.tg, .int .i64 r.un, .string ⟨r.rt.toArray⟩, .string ⟨r.nm.toArray⟩]] w fun e w' => e = .returned (.tuple #[.string ⟨(says was n r).1.toArray⟩, .int .i64 (code (says was n r).2)]) ∧ Below w.heap.size w w' := by
  by_cases h : sayOk was n r
  · rw [says_yes h]
    exact Said_yes was n r w h
  · rw [says_no h]
    exact Said_no was n r w h
end Go.Proofs.YtkidehngleglnaaDoor.ChnA
/- chain.Follow: the walk of its text. No conditions but those that each lemma names. -/
namespace Go.Proofs.YtkidehngleglnaaDoor.ChnF
set_option linter.unusedVariables false
open Go.RowKit
open RecN RecC RecK ChnN ChnM ChnC ChnA
def folE (b : Bool) : Int := if b then 0 else 16
set_option maxRecDepth 100000 in
set_option maxHeartbeats 4000000 in
theorem in_ (f : Int) (a : Option Addr) (n c : Nat) (l : List Rec) (w : World) (h : Lies w a (rr l)) (hl : l.length = n) (hn : n ≤ maxLen) (h0 : 0 ≤ f) (h1 : f ≤ 4294967295) :
    Calls Tryd.prog 35 #[.int .i64 f, .slice a n c] w fun e w' => e = .returned (.tuple #[.int .i64 (fol f [] l).1, .int .i64 ((fol f [] l).2.1 : Int), .int .i64 (folE (fol f [] l).2.2)]) ∧ Below w.heap.size w w' := by
  have HL := Lib.hid h
  obtain ⟨R, hR⟩ : ∃ R, fol f [] l = R := ⟨_, rfl⟩
  rw [hR]
  have HR := Lib.hid hR
  unfold maxLen at hn
  clear h hR
  go_enter Tryd.func35, Tryd.ntmps35
  go_wp2_with fail
  go_loopw [7, 8, 20] (fun ov tv iv wr => ∃ k : Nat, k ≤ n ∧ iv = .int .i64 k ∧ ov = .int .i64 (opn f (l.take k)) ∧ tv = .int .i64 (lastTm (l.take k)) ∧ fol f (l.take k) (l.drop k) = R ∧ opn f (l.take k) ≤ 4294967296 ∧ Below w.heap.size w wr) (fun _ _ iv _ => n - (intOf iv).toNat)
  case atStart => exact ⟨0, Nat.zero_le _, rfl, by rw [List.take_zero, opn_nil], rfl, HR.out, by rw [List.take_zero, opn_nil]; omega, Below.refl _ _⟩
  case round =>
    obtain ⟨k, hk, rfl, rfl, rfl, hfo, hop, hb⟩ := hrel
    have HB := Lib.hid hb
    have HF := Lib.hid hfo
    have hge := opn_ge f (l.take k)
    clear hb hfo
    by_cases hlt : k < n
    · obtain ⟨g, o, rfl, hg, hc⟩ := HL.out.at8 (by omega)
      have hkl : k < l.length := by omega
      have hk8 := (hc k hkl).step hg HB.out
      have HS := Lib.hid (fol_step (f := f) hkl)
      have HT : Hid (l.take (k + 1) = l.take k ++ [l[k]]) := Lib.hid (List.take_succ_eq_append_getElem hkl)
      generalize l[k] = r at *
      obtain ⟨q0, q1, q2, q3, q4, q5, q6, q7⟩ := hk8
      have p0 : (0 : Int) ≤ (k : Int) := by omega
      have p1 : (k : Int) < (n : Int) := by omega
      have HCk := Lib.hid (fun W => RecK.Check r W)
      clear hc
      go_upto_region 7 with (refine wpList_store_row rfl 31 _ _ rfl wr.heap.size _ rfl rfl 31 _ (heap_alloc_new wr _) infoR rfl (one8 r) ?_)
      generalize hW : World.setRow _ _ _ = W4
      have b4 : Below wr.heap.size wr W4 := by rw [← hW]; exact kept_new wr _ _ _
      have g4 : Bk W4 wr.heap.size r := by rw [← hW]; exact has_new wr _ _ _
      clear hW q0 q1 q2 q3 q4 q5 q6 q7
      have B4 := Lib.hid (HB.out.trans (b4.mono HB.out.size))
      obtain ⟨k0, k1, k2, k3, k4, k5, k6, k7⟩ := g4.cells
      have G4 := Lib.hid g4
      clear b4 g4
      generalize l.take k = p at *
      by_cases hf : fits f p r
      · have hx := HF.out
        rw [HS.out, if_pos hf] at hx
        have HX := Lib.hid hx
        rw [check_yes hf.1] at HCk
        have HO := Lib.hid (opn_snoc f p r)
        have HM := Lib.hid (lastTm_snoc p r)
        have he := hf.2.1
        have hbn := (bounds hf.1).2.1
        have ht : ¬ r.tm < lastTm p := by have := hf.2.2; omega
        have hne : (r.ep != opn f p) = false := by rw [he]; simp
        have hoo : opn f p ≤ 4294967295 := by omega
        clear hf HS HF hx he hbn hop
        generalize lastTm p = t at *
        by_cases h1k : r.k = 1
        · have HO2 := HO.out
          rw [if_pos h1k] at HO2
          have HO3 := Lib.hid HO2
          have hk1 : (r.k == 1) = true := by simp [h1k]
          clear HO HO2 h1k
          generalize opn f p = e at *
          go_wp2_with (go_at_call 37; refine (HCk.out _).mono ?_; rintro e2 w5 ⟨rfl, hb⟩; have B5 := Lib.hid (B4.out.trans (hb.mono B4.out.size)); have G5 := Lib.hid (G4.out.step hb); clear hb k0 k1 k2 k3 k4 k5 k6 k7; obtain ⟨k0, k1, k2, k3, k4, k5, k6, k7⟩ := G5.out.cells)
          go_roundw
          case rel => exact ⟨k + 1, by omega, by go_num, by rw [HT.out, HO3.out], by rw [HT.out, HM.out], HX.out, by rw [HT.out, HO3.out]; omega, B5.out⟩
          case measure => simp [intOf]; omega
        · have HO2 := HO.out
          rw [if_neg h1k] at HO2
          have HO3 := Lib.hid HO2
          have hk1 : (r.k == 1) = false := by simp [h1k]
          clear HO HO2 h1k
          generalize opn f p = e at *
          go_wp2_with (go_at_call 37; refine (HCk.out _).mono ?_; rintro e2 w5 ⟨rfl, hb⟩; have B5 := Lib.hid (B4.out.trans (hb.mono B4.out.size)); have G5 := Lib.hid (G4.out.step hb); clear hb k0 k1 k2 k3 k4 k5 k6 k7; obtain ⟨k0, k1, k2, k3, k4, k5, k6, k7⟩ := G5.out.cells)
          go_roundw
          case rel => exact ⟨k + 1, by omega, by go_num, by rw [HT.out, HO3.out], by rw [HT.out, HM.out], HX.out, by rw [HT.out, HO3.out]; omega, B5.out⟩
          case measure => simp [intOf]; omega
      · have hx := HF.out
        rw [HS.out, if_neg hf] at hx
        have HX := Lib.hid hx
        have hq : ¬ right r ∨ (right r ∧ (r.ep != opn f p) = true) ∨ (right r ∧ (r.ep != opn f p) = false ∧ r.tm < lastTm p) := by
          by_cases hr : right r
          · by_cases he : r.ep = opn f p
            · refine .inr (.inr ⟨hr, by rw [he]; simp, ?_⟩)
              by_cases ht : r.tm < lastTm p
              · exact ht
              · exact absurd ⟨hr, he, by omega⟩ hf
            · exact .inr (.inl ⟨hr, by simpa using he⟩)
          · exact .inl hr
        clear hf HS HF hx HT
        generalize opn f p = e at *
        generalize lastTm p = t at *
        rcases hq with hr | ⟨hr, he⟩ | ⟨hr, he, ht⟩
        · rw [check_no hr] at HCk
          clear hr
          go_wp2_with (go_at_call 37; refine (HCk.out _).mono ?_; rintro e2 w5 ⟨rfl, hb⟩; have B5 := Lib.hid (B4.out.trans (hb.mono B4.out.size)); have G5 := Lib.hid (G4.out.step hb); clear hb k0 k1 k2 k3 k4 k5 k6 k7; obtain ⟨k0, k1, k2, k3, k4, k5, k6, k7⟩ := G5.out.cells)
          go_ret3
          rw [← HX.out]
          exact ⟨rfl, B5.out⟩
        · rw [check_yes hr] at HCk
          clear hr
          go_wp2_with (go_at_call 37; refine (HCk.out _).mono ?_; rintro e2 w5 ⟨rfl, hb⟩; have B5 := Lib.hid (B4.out.trans (hb.mono B4.out.size)); have G5 := Lib.hid (G4.out.step hb); clear hb k0 k1 k2 k3 k4 k5 k6 k7; obtain ⟨k0, k1, k2, k3, k4, k5, k6, k7⟩ := G5.out.cells)
          go_ret3
          rw [← HX.out]
          exact ⟨rfl, B5.out⟩
        · rw [check_yes hr] at HCk
          clear hr
          go_wp2_with (go_at_call 37; refine (HCk.out _).mono ?_; rintro e2 w5 ⟨rfl, hb⟩; have B5 := Lib.hid (B4.out.trans (hb.mono B4.out.size)); have G5 := Lib.hid (G4.out.step hb); clear hb k0 k1 k2 k3 k4 k5 k6 k7; obtain ⟨k0, k1, k2, k3, k4, k5, k6, k7⟩ := G5.out.cells)
          go_ret3
          rw [← HX.out]
          exact ⟨rfl, B5.out⟩
    · obtain rfl : k = n := by omega
      have hx := HF.out
      rw [← hl, fol_end] at hx
      have HX := Lib.hid hx
      have HE : Hid (opn f (l.take l.length) = opn f l) := Lib.hid (by rw [List.take_length])
      rw [hl] at HE
      have pk : ¬ (k : Int) < (k : Int) := by omega
      clear hx HF hop hge
      go_wp2_with fail
      go_ret3
      rw [← HX.out, HE.out]
      exact ⟨by rw [hl]; rfl, HB.out⟩
def folR (f : Int) (l : List Rec) : Int × Int × Int := if 0 ≤ f ∧ f ≤ 4294967295 then ((fol f [] l).1, ((fol f [] l).2.1 : Int), folE (fol f [] l).2.2) else (0, 0, 2)
/-- THE CONTRACT of Follow. -/
theorem Follow (f : Int) (a : Option Addr) (n c : Nat) (l : List Rec) (w : World) (h : Lies w a (rr l)) (hl : l.length = n) (hn : n ≤ maxLen) :
    Calls Tryd.prog 35 #[.int .i64 f, .slice a n c] w fun e w' => e = .returned (.tuple #[.int .i64 (folR f l).1, .int .i64 (folR f l).2.1, .int .i64 (folR f l).2.2]) ∧ Below w.heap.size w w' := by
  by_cases hf : 0 ≤ f ∧ f ≤ 4294967295
  · rw [folR, if_pos hf]
    exact in_ f a n c l w h hl hn hf.1 hf.2
  · rw [folR, if_neg hf]
    have hq : f < 0 ∨ (¬ f < 0 ∧ 4294967295 < f) := by omega
    clear hf h hl hn
    rcases hq with hq | ⟨hq, hq2⟩
    all_goals
      go_enter Tryd.func35, Tryd.ntmps35
      go_wp2_with fail
      go_ret3
      exact ⟨rfl, Below.refl _ _⟩
end Go.Proofs.YtkidehngleglnaaDoor.ChnF
/- Plain mathematics of which records may be sealed; chain.may: the walk of its text. No conditions but those that each lemma names. -/
namespace Go.Proofs.YtkidehngleglnaaDoor.ChnG
set_option linter.unusedVariables false
open Go.RowKit
open RecN RecC EvoN ChnN ChnM ChnC ChnA ChnF
theorem seal_snoc (root : List UInt8) (f : Int) : ∀ (l : List Rec) (p : List Sd) (r : Rec), sealR root f p (l ++ [r]) = sealR root f p l ++ [(r, tg root f (sealR root f p l) r)]
  | [], p, r => rfl
  | x :: l, p, r => by
    show sealR root f (p ++ [(x, tg root f p x)]) (l ++ [r]) = _
    rw [seal_snoc root f l _ r]
    rfl
theorem key_first (root : List UInt8) (f : Int) : keyAt root f f = macOf root (saidOf lSeal [f]) := by
  rw [keyAt, show (f - f).toNat = 0 from by omega]
  rfl
theorem key_next (root : List UInt8) {f e : Int} (h : f ≤ e) : made (keyAt root f e) lNext [] = (keyAt root f (e + 1), 0) := by
  rw [keyAt, keyAt, show (e + 1 - f).toNat = (e - f).toNat + 1 from by omega]
  exact made_next (first_length root f) _
/-- Is the last one more than 4096 epochs beyond the first one? -/
def farB (f : Int) (l : List Rec) : Bool := match l.getLast? with | none => false | some r => decide (4096 < r.ep - f)
theorem far_nil (f : Int) : farB f [] = false := rfl
theorem far_snoc (f : Int) (p : List Rec) (r : Rec) : farB f (p ++ [r]) = decide (4096 < r.ep - f) := by unfold farB; rw [List.getLast?_concat]
/-- Records that may be sealed. -/
def okR (root : List UInt8) (f : Int) (l : List Rec) : Prop := root.length = 32 ∧ (0 ≤ f ∧ f ≤ 4294967295) ∧ chainTo f l ∧ farB f l = false
def mayR (root : List UInt8) (f : Int) (l : List Rec) : Int × Int × Int := if root.length = 32 then (if (folR f l).2.2 = 0 ∧ farB f l = true then (f, 0, 6) else folR f l) else (0, 0, 2)
theorem fol_ok {f : Int} {l : List Rec} (hf : 0 ≤ f ∧ f ≤ 4294967295) (h : chainTo f l) : folR f l = (opn f l, (l.length : Int), 0) := by
  rw [folR, if_pos hf, fol_of_chain h]
  rfl
theorem fol_zero {f : Int} {l : List Rec} (h : (folR f l).2.2 = 0) : (0 ≤ f ∧ f ≤ 4294967295) ∧ chainTo f l := by
  unfold folR at h
  by_cases hf : 0 ≤ f ∧ f ≤ 4294967295
  · rw [if_pos hf] at h
    refine ⟨hf, chain_of ?_⟩
    cases hb : (fol f [] l).2.2 with
    | true => rfl
    | false =>
      rw [hb] at h
      exact absurd h (by simp [folE])
  · rw [if_neg hf] at h
    exact absurd h (by simp)
theorem may_ok {root : List UInt8} {f : Int} {l : List Rec} (h : okR root f l) : mayR root f l = (opn f l, (l.length : Int), 0) := by
  obtain ⟨h1, h2, h3, h4⟩ := h
  rw [mayR, if_pos h1, h4, if_neg (by simp), fol_ok h2 h3]
theorem may_zero {root : List UInt8} {f : Int} {l : List Rec} (h : (mayR root f l).2.2 = 0) : okR root f l := by
  unfold mayR at h
  by_cases h1 : root.length = 32
  · rw [if_pos h1] at h
    by_cases h2 : (folR f l).2.2 = 0 ∧ farB f l = true
    · rw [if_pos h2] at h
      exact absurd h (by simp)
    · rw [if_neg h2] at h
      obtain ⟨h3, h4⟩ := fol_zero h
      exact ⟨h1, h3, h4, by cases hb : farB f l with | false => rfl | true => exact absurd ⟨h, hb⟩ h2⟩
  · rw [if_neg h1] at h
    exact absurd h (by simp)
theorem chain_take {f : Int} {l : List Rec} (h : chainTo f l) (i : Nat) (hi : i < l.length) : right l[i] ∧ l[i].ep = opn f (l.take i) := ⟨(h i hi).1, (h i hi).2.1⟩
set_option maxRecDepth 100000 in
set_option maxHeartbeats 2000000 in
/-- THE CONTRACT of may. -/
theorem may (root : List UInt8) (f : Int) (a : Option Addr) (n c : Nat) (l : List Rec) (w : World) (h : Lies w a (rr l)) (hl : l.length = n) (hn : n ≤ maxLen) :
    Calls Tryd.prog 20 #[.string ⟨root.toArray⟩, .int .i64 f, .slice a n c] w fun e w' => e = .returned (.tuple #[.int .i64 (mayR root f l).1, .int .i64 (mayR root f l).2.1, .int .i64 (mayR root f l).2.2]) ∧ Below w.heap.size w w' := by
  have HI := Lib.hid (fun W => isWide root W)
  have HF := Lib.hid (fun W (hb : Below w.heap.size w W) => Follow f a n c l W (h.step hb) hl hn)
  by_cases h1 : root.length = 32
  · rw [decide_eq_true h1] at HI
    rw [mayR, if_pos h1]
    by_cases hz : (folR f l).2.2 = 0
    · obtain ⟨h2, h3⟩ := fol_zero hz
      have hfo := fol_ok h2 h3
      rw [hfo] at HF hz ⊢
      rcases List.eq_nil_or_concat l with rfl | ⟨p, r, rfl⟩
      · rw [far_nil, if_neg (by simp)]
        obtain rfl : n = 0 := by simpa using hl.symm
        clear h hl hn h1 h2 h3 hz hfo
        simp only [List.length_nil, Int.natCast_zero] at HF ⊢
        generalize opn f [] = x at *
        go_enter Tryd.func20, Tryd.ntmps20
        go_wp2_with (first
          | (go_at_call 31; refine (HI.out _).mono ?_; rintro e _ ⟨rfl, rfl⟩; clear HI)
          | (go_at_call 35; refine (HF.out _ (Below.refl _ _)).mono ?_; rintro e w2 ⟨rfl, hb⟩; have B2 := Lib.hid hb; clear hb HF))
        go_ret3
        exact ⟨rfl, B2.out⟩
      · rw [List.concat_eq_append] at *
        have hln : p.length + 1 = n := by simpa using hl
        obtain ⟨g, o, rfl, hg, hc⟩ := h.at8 (by simp)
        have h8 := hc p.length (by simp)
        rw [List.getElem_append_right (Nat.le_refl _)] at h8
        simp only [Nat.sub_self, List.getElem_cons_zero] at h8
        have hr := (h3 p.length (by simp)).1
        rw [List.getElem_append_right (Nat.le_refl _)] at hr
        simp only [Nat.sub_self, List.getElem_cons_zero] at hr
        have hb := (bounds hr).2.1
        rw [far_snoc]
        have H8 := Lib.hid (fun W (hb : Below w.heap.size w W) => h8.step hg hb)
        have hll : (p ++ [r]).length = p.length + 1 := by simp
        rw [hll] at HF ⊢
        generalize opn f (p ++ [r]) = x at *
        unfold maxLen at hn
        clear h hl hc h8 h1 h3 hz hfo hr hll
        generalize p.length = k at *
        subst hln
        have p0 : (0 : Int) ≤ (k : Int) := by omega
        have p1 : (k : Int) < ((k + 1 : Nat) : Int) := by omega
        have p2 : (0 : Int) < ((k + 1 : Nat) : Int) := by omega
        by_cases hq : 4096 < r.ep - f
        · rw [dt hq, if_pos ⟨rfl, rfl⟩]
          go_enter Tryd.func20, Tryd.ntmps20
          go_wp2_with (first
            | (go_at_call 31; refine (HI.out _).mono ?_; rintro e _ ⟨rfl, rfl⟩; clear HI)
            | (go_at_call 35; refine (HF.out _ (Below.refl _ _)).mono ?_; rintro e w2 ⟨rfl, hb⟩; have B2 := Lib.hid hb; clear hb HF; obtain ⟨q0, q1, q2, q3, q4, q5, q6, q7⟩ := H8.out _ B2.out))
          go_ret3
          exact ⟨rfl, B2.out⟩
        · rw [df hq, if_neg (by simp)]
          go_enter Tryd.func20, Tryd.ntmps20
          go_wp2_with (first
            | (go_at_call 31; refine (HI.out _).mono ?_; rintro e _ ⟨rfl, rfl⟩; clear HI)
            | (go_at_call 35; refine (HF.out _ (Below.refl _ _)).mono ?_; rintro e w2 ⟨rfl, hb⟩; have B2 := Lib.hid hb; clear hb HF; obtain ⟨q0, q1, q2, q3, q4, q5, q6, q7⟩ := H8.out _ B2.out))
          go_ret3
          exact ⟨rfl, B2.out⟩
    · rw [if_neg (fun hh => hz hh.1)]
      have hz2 : ((folR f l).2.2 == 0) = false := by simpa using hz
      clear h hl hn h1 hz
      generalize folR f l = z at *
      obtain ⟨z1, z2, z3⟩ := z
      dsimp only at hz2 HF ⊢
      go_enter Tryd.func20, Tryd.ntmps20
      go_wp2_with (first
        | (go_at_call 31; refine (HI.out _).mono ?_; rintro e _ ⟨rfl, rfl⟩; clear HI)
        | (go_at_call 35; refine (HF.out _ (Below.refl _ _)).mono ?_; rintro e w2 ⟨rfl, hb⟩; have B2 := Lib.hid hb; clear hb HF))
      go_ret3
      exact ⟨rfl, B2.out⟩
  · rw [decide_eq_false h1] at HI
    rw [mayR, if_neg h1]
    clear h hl hn h1 HF
    go_enter Tryd.func20, Tryd.ntmps20
    go_wp2_with (go_at_call 31; refine (HI.out _).mono ?_; rintro e _ ⟨rfl, rfl⟩; clear HI)
    go_ret3
    exact ⟨rfl, Below.refl _ _⟩
end Go.Proofs.YtkidehngleglnaaDoor.ChnG
