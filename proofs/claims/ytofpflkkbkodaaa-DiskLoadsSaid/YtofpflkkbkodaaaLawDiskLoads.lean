/- DiskLoads: of any image of at most 60 blocks and 40 writes there is the disk that the document says, or none; what is done with it in at most 20 acts is answered so, and the image that came in stays; else the chapter's example alone. No condition but that the arguments are a Go program's. -/
import Derived.Test.YtofpflkkbkodaaaDkJ
import Derived.Test.YtofpflkkbkodaaaDkP
import Derived.Test.YtofpflkkbkodaaaRows
import Derived.WalkKit
import Derived.ProofKit
import Derived.OpenShut
import Derived.ShutString
import Derived.ChangeOld
import Derived.Below
namespace Go.Proofs.Ytofpflkkbkodaaa.diskLoads
open Go.ChangeShapes Go.WideShapes Go.ChangeAt Go.RowKit
open Go.ChangeMaps (open_string shut_string)
set_option linter.unusedVariables false
open DkN DkM DkU DkL DkD DkP DkG DkV DkX DkJ DkK DkC DkNew
theorem alive_ (w : World) : Calls Try.prog 9 #[] w fun e w' => e = .returned (.bool true) ∧ Below w.heap.size w w' := DkA.alive w
/-- The rows of an image in memory. -/
structure Pic (w : World) (a a' : Option Addr) (c c' : Nat) (bl : List ByteArray) (ca : List (Int × ByteArray)) : Prop where
  s : StrRow w a bl
  p : RRow w a' ca
  sn : a = none → bl = [] ∧ c = 0
  pn : a' = none → ca = [] ∧ c' = 0
theorem Pic.below {w w' : World} {a a' : Option Addr} {c c' : Nat} {bl : List ByteArray} {ca : List (Int × ByteArray)} (h : Pic w a a' c c' bl ca) (hb : Below w.heap.size w w') : Pic w' a a' c c' bl ca :=
  ⟨StrRow.below h.s hb, h.p.below hb, h.sn, h.pn⟩
theorem own_raw {w : World} {base : Nat} {e : TypeId} {a : Option Addr} {n c : Nat} {l : List (Int × ByteArray)} (h : w.ownsRow base e 2 (.slice a n c) n (rawCells l)) : RRow w a l := by
  intro hl
  rcases h.2 with ⟨hv, h0⟩ | ⟨g, cap, cur, hv, _, hg, _⟩
  · have := h.1; rw [rawCells_length] at this; omega
  · cases hv
    refine ⟨g, 0, rfl, (Array.getElem?_eq_some_iff.1 hg).1, fun k hk => ⟨?_, ?_⟩⟩
    · have := h.cells (g := g) rfl _ _ (rawCells_0 l k hk)
      rwa [add_off] at this
    · have := h.cells (g := g) rfl _ _ (rawCells_1 l k hk)
      rwa [add_off] at this
theorem own_none {w : World} {base : Nat} {e : TypeId} {size n c : Nat} {a : Option Addr} {xs : List Value} (h : w.ownsRow base e size (.slice a n c) n xs) (ha : a = none) : n = 0 ∧ c = 0 := by
  rcases h.2 with ⟨hv, h0⟩ | ⟨g, cap, cur, hv, _⟩
  · cases hv; exact ⟨h0, rfl⟩
  · cases hv; cases ha
/-- What Copy leaves reads as an image. -/
theorem pic_of {w : World} {base : Nat} {a a' : Option Addr} {c c' : Nat} {bl : List ByteArray} {ca : List (Int × ByteArray)} (h : w.ownsRow base 9 1 (.slice a bl.length c) bl.length (bl.map Value.string)) (h' : w.ownsRow base 76 2 (.slice a' ca.length c') ca.length (rawCells ca)) : Pic w a a' c c' bl ca :=
  ⟨own_strs h, own_raw h', fun e => ⟨List.eq_nil_of_length_eq_zero (own_none h e).1, (own_none h e).2⟩, fun e => ⟨List.eq_nil_of_length_eq_zero (own_none h' e).1, (own_none h' e).2⟩⟩
/-- Where all may be: it reads as one that is seized. -/
theorem Pic.img {w : World} {a a' : Option Addr} {c c' : Nat} {bl : List ByteArray} {ca : List (Int × ByteArray)} (h : Pic w a a' c c' bl ca) (hm : mayB bl ca = true) : DkE.ImgAt w a a' bl (natPuts ca) := by
  obtain ⟨⟨l1, l2, l3⟩, _, l5⟩ := may_parts hm
  exact ⟨h.s, puts_of h.p fun x hx => (l5 x hx).1, by omega, by rw [natPuts_length]; omega⟩
set_option maxRecDepth 100000 in
set_option maxHeartbeats 2000000 in
/-- Too many of anything. -/
theorem many (a a' : Option Addr) (c c' : Nat) (bl : List ByteArray) (ca : List (Int × ByteArray)) (b : Option Addr) (cl : Nat) (l : List RawAct) (w : World) (hP : Pic w a a' c c' bl ca) (h : ActRow w b l) (hl : l.length ≤ maxLen) (hg : ∀ x ∈ l, x.text.size ≤ maxLen ∧ x.kn ≤ maxLen) (hq : fewB l = false ∨ 20 < l.length) :
    Calls Try.prog 4 #[.agg #[.slice a bl.length c, .slice a' ca.length c'], .slice b l.length cl] w fun e w' => e = .returned (.bool true) ∧ Below w.heap.size w w' := by
  have hb1 : Below w.heap.size w (w.alloc (.cells #[.slice a bl.length c, .slice a' ca.length c'] 39)) := (Below.refl _ _).alloc (Nat.le_refl _) _
  have HX := Lib.hid (heap_alloc_new w (.cells #[.slice a bl.length c, .slice a' ca.length c'] 39))
  have HR := Lib.hid (DkY.Few a a' c c' bl ca _ (StrRow.below hP.s hb1) (hP.p.below hb1))
  have HF : Hid (∀ W, Below w.heap.size w W → Calls Try.prog 8 #[.slice b l.length cl] W fun e w' => e = .returned (.bool (fewB l)) ∧ Below W.heap.size W w') := Lib.hid fun W hW => DkL.Few b cl l W (h.below hW) hl hg
  have HB := Lib.hid hb1
  have HQ := Lib.hid hq
  clear hP h hl hg hb1 hq
  generalize bl.length = n at *
  generalize ca.length = m at *
  obtain ⟨k, hk⟩ : ∃ k, l.length = k := ⟨_, rfl⟩
  rw [hk] at HF HQ ⊢
  clear hk
  go_enter Try.func4, Try.ntmps4
  go_wp2_with fail
  refine (HR.out).mono ?_
  rintro e w1 ⟨⟨q, rfl, _⟩, hb1⟩
  have HB1 := Lib.hid (HB.out.trans (hb1.mono HB.out.size))
  clear hb1
  cases q with
  | false =>
    go_wp2_with fail
    refine (alive_ _).mono ?_
    rintro e w2 ⟨rfl, hb2⟩
    have HB2 := Lib.hid (HB1.out.trans (hb2.mono HB1.out.size))
    clear hb2
    go_wp2
    go_ret
    exact ⟨rfl, HB2.out⟩
  | true =>
    go_wp2_with fail
    refine (HF.out _ HB1.out).mono ?_
    rintro e w2 ⟨rfl, hb2⟩
    have HB2 := Lib.hid (HB1.out.trans (hb2.mono HB1.out.size))
    clear hb2
    cases hf : fewB l with
    | false =>
      go_wp2_with fail
      refine (alive_ _).mono ?_
      rintro e w3 ⟨rfl, hb3⟩
      have HB3 := Lib.hid (HB2.out.trans (hb3.mono HB2.out.size))
      clear hb3
      go_wp2
      go_ret
      exact ⟨rfl, HB3.out⟩
    | true =>
      have h20 : (20 : Int) < (k : Int) := by
        have := HQ.out
        rw [hf] at this
        have := this.resolve_left (by simp)
        omega
      clear hf
      go_wp2_with fail
      refine (alive_ _).mono ?_
      rintro e w3 ⟨rfl, hb3⟩
      have HB3 := Lib.hid (HB2.out.trans (hb3.mono HB2.out.size))
      clear hb3
      go_wp2
      go_ret
      exact ⟨rfl, HB3.out⟩
/-- The final act: seized. -/
def last8 : RawAct := ⟨8, 0, 0, ⟨#[]⟩, false, none, 0, 0⟩
theorem last_D (D : Dk) : actD D (actOf last8 []) = D := by simp [actD, actOf, last8]
theorem last_R (D : Dk) : actR D (actOf last8 []) = D := by simp [actR, actOf, last8]
set_option maxRecDepth 100000 in
set_option maxHeartbeats 8000000 in
theorem rest_ (a a' : Option Addr) (c c' : Nat) (bl : List ByteArray) (ca : List (Int × ByteArray)) (b : Option Addr) (cl : Nat) (l : List RawAct) (w : World) (hP : Pic w a a' c c' bl ca) (h : ActRow w b l) (hl : l.length ≤ maxLen) (hg : ∀ x ∈ l, ∃ keep, DkO.Good w x keep) (hq : fewB l = true) (h20 : l.length ≤ 20) :
    Calls Try.prog 4 #[.agg #[.slice a bl.length c, .slice a' ca.length c'], .slice b l.length cl] w fun e w' => e = .returned (.bool true) ∧ Below w.heap.size w w' := by
  have hb1 : Below w.heap.size w (w.alloc (.cells #[.slice a bl.length c, .slice a' ca.length c'] 39)) := (Below.refl _ _).alloc (Nat.le_refl _) _
  have HX := Lib.hid (heap_alloc_new w (.cells #[.slice a bl.length c, .slice a' ca.length c'] 39))
  have HZ : Hid ((w.alloc (.cells #[.slice a bl.length c, .slice a' ca.length c'] 39)).heap.size = w.heap.size + 1) := Lib.hid (by simp)
  have HR := Lib.hid (DkY.Few a a' c c' bl ca _ (StrRow.below hP.s hb1) (hP.p.below hb1))
  have HF : Hid (∀ W, Below w.heap.size w W → Calls Try.prog 8 #[.slice b l.length cl] W fun e w' => e = .returned (.bool true) ∧ Below W.heap.size W w') := Lib.hid fun W hW => by
    have := DkL.Few b cl l W (h.below hW) hl (fun x hx => by obtain ⟨k, hk⟩ := hg x hx; exact ⟨hk.2.2.2.1, hk.2.2.1⟩)
    rwa [hq] at this
  have HB := Lib.hid hb1
  obtain ⟨f, hf⟩ := pick hg
  have HG := Lib.hid hf
  have HA := Lib.hid h
  have HP := Lib.hid hP
  clear hP h hl hg hb1 hq hf
  obtain ⟨n, hn⟩ : ∃ n, bl.length = n := ⟨_, rfl⟩
  obtain ⟨m, hm⟩ : ∃ m, ca.length = m := ⟨_, rfl⟩
  obtain ⟨k, hk⟩ : ∃ k, l.length = k := ⟨_, rfl⟩
  rw [hn, hm] at HX HZ HR HB ⊢
  rw [hk] at HF h20 ⊢
  have HN := Lib.hid hn
  have HM := Lib.hid hm
  have HK := Lib.hid hk
  have h20' : ¬ (20 : Int) < (k : Int) := by omega
  clear hn hm hk
  go_enter Try.func4, Try.ntmps4
  go_wp2_with fail
  refine (HR.out).mono ?_
  rintro e w1 ⟨⟨q, rfl, hqs⟩, hb1⟩
  have HB1 := Lib.hid (HB.out.trans (hb1.mono HB.out.size))
  have HX1 := Lib.hid ((hb1.block _ (by rw [HZ.out]; omega)).trans HX.out)
  have hz1 : w.heap.size < w1.heap.size := by have := hb1.size; rw [HZ.out] at this; omega
  clear hb1 HR
  cases q with
  | false =>
    clear hqs
    go_wp2_with fail
    refine (alive_ _).mono ?_
    rintro e w2 ⟨rfl, hb2⟩
    have HB2 := Lib.hid (HB1.out.trans (hb2.mono HB1.out.size))
    clear hb2
    go_wp2
    go_ret
    exact ⟨rfl, HB2.out⟩
  | true =>
    obtain ⟨n60, m40⟩ := hqs rfl
    clear hqs
    go_wp2_with fail
    refine (HF.out _ HB1.out).mono ?_
    rintro e w2 ⟨rfl, hb2⟩
    have HB2 := Lib.hid (HB1.out.trans (hb2.mono HB1.out.size))
    have HX2 := Lib.hid ((hb2.block _ hz1).trans HX1.out)
    have hz2 : w.heap.size < w2.heap.size := Nat.lt_of_lt_of_le hz1 hb2.size
    have k0 : w2.cell? ⟨w.heap.size, 0, none⟩ = some (.slice a n c) := blk_cell HX2.out rfl
    have k1 : w2.cell? ⟨w.heap.size, 1, none⟩ = some (.slice a' m c') := blk_cell HX2.out rfl
    have HC := Lib.hid (DkJ.Copy a a' c c' bl ca w2 (HP.out.below HB2.out).s (HP.out.below HB2.out).p HP.out.sn HP.out.pn (by rw [HN.out]; omega) (by rw [HM.out]; omega))
    rw [HN.out, HM.out] at HC
    clear hb2 HX1 HB1 HF hz1
    go_wp2_with fail
    refine (HC.out).mono ?_
    rintro e w3 ⟨v, u, rfl, hv, hu, hb3⟩
    obtain ⟨va, vc, rfl⟩ := DkDb.own_n hv
    obtain ⟨ua, uc, rfl⟩ := DkDb.own_n hu
    have HQ : Hid (Pic w3 va ua vc uc bl ca) := Lib.hid (pic_of (base := w2.heap.size) (by rw [HN.out]; exact hv) (by rw [HM.out]; exact hu))
    have HB3 := Lib.hid (HB2.out.trans (hb3.mono HB2.out.size))
    have HX3 := Lib.hid ((hb3.block _ hz2).trans HX2.out)
    have hz3 : w.heap.size < w3.heap.size := Nat.lt_of_lt_of_le hz2 hb3.size
    clear hv hu hb3 k0 k1 HX2 HB2 HC hz2
    have hb4 : Below w3.heap.size w3 (w3.alloc (.cells #[.slice va n vc, .slice ua m uc] 39)) := (Below.refl _ _).alloc (Nat.le_refl _) _
    have HQ4 := Lib.hid (HQ.out.below hb4)
    have HB4 := Lib.hid (HB3.out.trans (hb4.mono HB3.out.size))
    have HX4 := Lib.hid ((hb4.block _ hz3).trans HX3.out)
    have HO4 := Lib.hid (heap_alloc_new w3 (.cells #[.slice va n vc, .slice ua m uc] 39))
    have hz4 : (w3.alloc (.cells #[.slice va n vc, .slice ua m uc] 39)).heap.size = w3.heap.size + 1 := by simp
    have HZ4 := Lib.hid hz4
    have HP4 := Lib.hid (HP.out.below HB4.out)
    clear hb4 HX3 HB3 HQ hz4
    cases hm : mayB bl ca with
    | false =>
      have HL := Lib.hid (DkX.Load_no vc uc va ua bl ca _ HQ4.out.s HQ4.out.p hm)
      rw [HN.out, HM.out] at HL
      have HLR : Hid (∀ W, Below w.heap.size w W → Calls Try.prog 16 #[.agg #[.slice a n c, .slice a' m c']] W fun e w' => e = .returned (.pointer none) ∧ Below W.heap.size W w') := Lib.hid fun W hW => by
        have := DkJ.Load_no a a' c c' bl ca W (HP.out.below hW).s (HP.out.below hW).p hm
        rwa [HN.out, HM.out] at this
      clear hm
      go_wp2_with fail
      refine (HL.out).mono ?_
      rintro e w5 ⟨rfl, hb5⟩
      have HB5 := Lib.hid (HB4.out.trans (hb5.mono HB4.out.size))
      have HX5 := Lib.hid ((hb5.block _ (by rw [HZ4.out]; omega)).trans HX4.out)
      have k0 : w5.cell? ⟨w.heap.size, 0, none⟩ = some (.slice a n c) := blk_cell HX5.out rfl
      have k1 : w5.cell? ⟨w.heap.size, 1, none⟩ = some (.slice a' m c') := blk_cell HX5.out rfl
      clear hb5
      go_wp2_with fail
      refine (HLR.out _ HB5.out).mono ?_
      rintro e w6 ⟨rfl, hb6⟩
      have HB6 := Lib.hid (HB5.out.trans (hb6.mono HB5.out.size))
      clear hb6 k0 k1
      go_wp2_with fail
      refine (alive_ _).mono ?_
      rintro e w7 ⟨rfl, hb7⟩
      have HB7 := Lib.hid (HB6.out.trans (hb7.mono HB6.out.size))
      clear hb7
      go_wp2
      go_ret
      exact ⟨rfl, HB7.out⟩
    | true =>
      have HL := Lib.hid (DkX.Load_yes vc uc va ua bl ca _ HQ4.out.s HQ4.out.p hm)
      rw [HN.out, HM.out] at HL
      have HLR : Hid (∀ W, Below w.heap.size w W → Calls Try.prog 16 #[.agg #[.slice a n c, .slice a' m c']] W (LoadedR (held bl ca) W)) := Lib.hid fun W hW => by
        have := DkJ.Load_yes a a' c c' bl ca W (HP.out.below hW).s (HP.out.below hW).p HP.out.sn HP.out.pn hm
        rwa [HN.out, HM.out] at this
      have HMay := Lib.hid hm
      clear hm
      go_wp2_with fail
      refine (HL.out).mono ?_
      rintro e w5 ⟨b5, bv, cv, rfl, hF5⟩
      obtain ⟨hd5, hb5, hf5⟩ := hF5
      have HB5 := Lib.hid (HB4.out.trans (hb5.mono HB4.out.size))
      have HX5 := Lib.hid ((hb5.block _ (by rw [HZ4.out]; omega)).trans HX4.out)
      have k0 : w5.cell? ⟨w.heap.size, 0, none⟩ = some (.slice a n c) := blk_cell HX5.out rfl
      have k1 : w5.cell? ⟨w.heap.size, 1, none⟩ = some (.slice a' m c') := blk_cell HX5.out rfl
      have HD5 := Lib.hid hd5
      have HBB5 := Lib.hid hb5
      have HF5 := Lib.hid hf5
      clear hd5 hb5 hf5 HL
      go_wp2_with fail
      refine (HLR.out _ HB5.out).mono ?_
      rintro e w6 ⟨b6, rv, ru, rfl, hF6⟩
      obtain ⟨hr6, hb6, hf6⟩ := hF6
      have hP : Play (w3.alloc (.cells #[.slice va n vc, .slice ua m uc] 39)) w6 b5 bv b6 rv cv ru (held bl ca) (held bl ca) := by
        have s2 := HBB5.out.size
        refine ⟨HD5.out.step hb6, hr6, fun k hk hr => ?_, HF5.out, fun k hk => Nat.le_trans s2 (hf6 k hk), HBB5.out.trans (hb6.mono s2)⟩
        have := HD5.out.foot_lt k hk
        have := hf6 k hr
        omega
      have HPl := Lib.hid hP
      clear hP hr6 hb6 hf6 k0 k1 HD5 HBB5 HF5 HX5 HB5 HLR
      generalize w3.alloc (.cells #[.slice va n vc, .slice ua m uc] 39) = W at *
      have HMW := Lib.hid HB4.out.size
      have HDo : Hid (Calls Try.prog 12 #[.pointer (some ⟨b5, 0, none⟩), .pointer (some ⟨b6, 0, none⟩), .agg last8.cells] w6 (DkP.Alike W b5 bv b6 rv _ _)) := Lib.hid (DkP.does HPl.out (.refl _) last8 [] ⟨rfl, fun h => absurd h (Nat.lt_irrefl 0)⟩ (fun x hx => by cases hx) (Nat.zero_le _) (by show (0 : Int) ≤ _; omega))
      rw [last_D, last_R] at HDo
      simp only [RawAct.cells, last8] at HDo
      go_wp2_with fail
      refine (HDo.out).mono ?_
      rintro e w7 ⟨rfl, cv7, ru7, hp7⟩
      have HP7 := Lib.hid hp7
      clear hp7 HPl HDo
      go_wp2_with fail
      go_loopw [60] (fun i wr => ∃ j : Nat, j ≤ k ∧ i = .int .i64 j ∧ ∃ cv ru, Play W wr b5 bv b6 rv cv ru (runD f (held bl ca) (l.take j)) (runR f (held bl ca) (l.take j))) (fun i _ => k - (intOf i).toNat)
      case atStart => exact ⟨0, Nat.zero_le _, rfl, _, _, HP7.out⟩
      case round =>
        obtain ⟨j, hj, rfl, cv', ru', hp⟩ := hrel
        have HPP := Lib.hid hp
        clear hp HP7
        have HLi := Lib.hid (run_like f (l.take j) (held bl ca) (held bl ca) (.refl _))
        by_cases hlt : j < k
        · have hjl : j < l.length := by rw [HK.out]; exact hlt
          obtain ⟨g, o, rfl, hg, hcs⟩ := HA.out (by omega)
          have HBW := Lib.hid (HB4.out.trans (HPP.out.below.mono HMW.out))
          have hcell : ∀ i v, l[j].cells[i]? = some v → wr.cell? ⟨g, o + j * 6 + i, none⟩ = some v := fun i v hv => (HBW.out.cell (p := ⟨g, o + j * 6 + i, none⟩) hg).trans (hcs j hjl i v hv)
          have HGo := Lib.hid (HG.out _ (List.getElem_mem hjl))
          have HXD := Lib.hid (runD_next f (held bl ca) l j hjl)
          have HXR := Lib.hid (runR_next f (held bl ca) l j hjl)
          generalize runD f (held bl ca) (l.take j) = Dj at *
          generalize runR f (held bl ca) (l.take j) = Rj at *
          clear hcs
          generalize l[j] = x at *
          have hjm : (j : Int) < (k : Int) := by omega
          clear hjl
          have HDo : Hid (∀ V : World, Play W V b5 bv b6 rv cv' ru' Dj Rj → Calls Try.prog 12 #[.pointer (some ⟨b5, 0, none⟩), .pointer (some ⟨b6, 0, none⟩), .agg x.cells] V (DkP.Alike W b5 bv b6 rv (actD Dj (actOf x (f x))) (actR Rj (actOf x (f x))))) := Lib.hid fun V hV =>
            DkP.does hV HLi.out x (f x) ((HGo.out.1.keep (HB4.out.trans (hV.below.mono HMW.out)).block).more HMW.out) HGo.out.2.1 HGo.out.2.2.1 HGo.out.2.2.2.2.2.2.2
          generalize actD Dj (actOf x (f x)) = Dn at *
          generalize actR Rj (actOf x (f x)) = Rn at *
          obtain ⟨kind, at_, nn, s, raw, ka, kn, kc⟩ := x
          have q0 : wr.cell? ⟨g, o + j * 6, none⟩ = some (.int .i64 kind) := hcell 0 _ rfl
          have q1 : wr.cell? ⟨g, o + j * 6 + 1, none⟩ = some (.int .i64 at_) := hcell 1 _ rfl
          have q2 : wr.cell? ⟨g, o + j * 6 + 2, none⟩ = some (.int .i64 nn) := hcell 2 _ rfl
          have q3 : wr.cell? ⟨g, o + j * 6 + 3, none⟩ = some (.string s) := hcell 3 _ rfl
          have q4 : wr.cell? ⟨g, o + j * 6 + 4, none⟩ = some (.bool raw) := hcell 4 _ rfl
          have q5 : wr.cell? ⟨g, o + j * 6 + 5, none⟩ = some (.slice ka kn kc) := hcell 5 _ rfl
          clear hcell
          simp only [RawAct.cells] at HDo
          go_wp2_with fail
          refine (HDo.out _ (HPP.out.step ((Below.refl _ _).alloc (Nat.le_refl _) _))).mono ?_
          rintro e w9 ⟨rfl, cv9, ru9, hp9⟩
          have HP9 := Lib.hid hp9
          clear hp9 q0 q1 q2 q3 q4 q5
          go_wp2
          go_roundw
          case rel => exact ⟨j + 1, by omega, by go_num, cv9, ru9, by rw [HXD.out, HXR.out]; exact HP9.out⟩
          case measure => simp [intOf]; omega
        · obtain rfl : j = k := by omega
          have HDo : Hid (∀ V : World, Play W V b5 bv b6 rv cv' ru' _ _ → Calls Try.prog 12 #[.pointer (some ⟨b5, 0, none⟩), .pointer (some ⟨b6, 0, none⟩), .agg last8.cells] V (DkP.Alike W b5 bv b6 rv _ _)) := Lib.hid fun V hV => DkP.does hV HLi.out last8 [] ⟨rfl, fun h => absurd h (Nat.lt_irrefl 0)⟩ (fun x hx => by cases hx) (Nat.zero_le _) (by show (0 : Int) ≤ _; omega)
          simp only [RawAct.cells, last8] at HDo
          have HZ3 := Lib.hid hz3
          clear hz3
          go_wp2_with fail
          refine (HDo.out _ HPP.out).mono ?_
          rintro e w8 ⟨rfl, cv8, ru8, hp8⟩
          have hbw := hp8.below
          have HX8 := Lib.hid ((hbw.block _ (by rw [HZ4.out]; exact Nat.lt_succ_of_lt HZ3.out)).trans HX4.out)
          have HO8 := Lib.hid ((hbw.block _ (by rw [HZ4.out]; exact Nat.lt_succ_self _)).trans HO4.out)
          have k0 : w8.cell? ⟨w.heap.size, 0, none⟩ = some (.slice a n c) := blk_cell HX8.out rfl
          have k1 : w8.cell? ⟨w.heap.size, 1, none⟩ = some (.slice a' m c') := blk_cell HX8.out rfl
          have o0 : w8.cell? ⟨w3.heap.size, 0, none⟩ = some (.slice va n vc) := blk_cell HO8.out rfl
          have o1 : w8.cell? ⟨w3.heap.size, 1, none⟩ = some (.slice ua m uc) := blk_cell HO8.out rfl
          have hS := DkE.Same va a ua a' vc c uc c' bl bl (natPuts ca) (natPuts ca) w8 ((HQ4.out.below hbw).img HMay.out) ((HP4.out.below hbw).img HMay.out)
          rw [natPuts_length, HN.out, HM.out, decide_eq_true ⟨rfl, rfl⟩] at hS
          have HS := Lib.hid hS
          have HB8 := Lib.hid (HB4.out.trans (hbw.mono HMW.out))
          clear hp8 hbw hS
          go_wp2_with fail
          refine (HS.out).mono ?_
          rintro e w9 ⟨rfl, hb9⟩
          have HB9 := Lib.hid (HB8.out.trans (hb9.mono HB8.out.size))
          clear hb9 k0 k1 o0 o1
          go_wp2_with fail
          refine (alive_ _).mono ?_
          rintro e w10 ⟨rfl, hb10⟩
          have HB10 := Lib.hid (HB9.out.trans (hb10.mono HB9.out.size))
          clear hb10
          go_wp2
          go_ret
          exact ⟨rfl, HB10.out⟩
theorem walk (x : RawImg) (b : Option Addr) (cl : Nat) (l : List RawAct) (w : World) (w0 : DkG.Good w x) (w1 : ActRow w b l ∧ l.length ≤ maxLen ∧ ∀ y ∈ l, ∃ keep, DkO.Good w y keep) :
    Calls Try.prog 4 #[.agg x.cells, .slice b l.length cl] w fun e w' => e = .returned (.bool true) ∧ Below w.heap.size w w' := by
  obtain ⟨h, hl, hg⟩ := w1
  have hg' : ∀ x ∈ l, x.text.size ≤ maxLen ∧ x.kn ≤ maxLen := fun x hx => by obtain ⟨k, hk⟩ := hg x hx; exact ⟨hk.2.2.2.1, hk.2.2.1⟩
  have hP : Pic w x.ba x.pa x.bc x.pc x.bl x.ca := ⟨w0.1, w0.2.1, w0.2.2.1, w0.2.2.2.1⟩
  by_cases hq : fewB l = false ∨ 20 < l.length
  · exact many _ _ _ _ _ _ _ _ _ w hP h hl hg' hq
  · exact rest_ _ _ _ _ _ _ _ _ _ w hP h hl hg (by simpa using fun h => hq (.inl h)) (by omega)
theorem own : ownKnob Try.prog.godebug = none := by kernel_rfl
theorem laidOut : laidOutB Try.prog = true := by kernel_rfl
set_option maxRecDepth 100000 in
theorem lifted (os : Os) (started : os.Started) (H : Type) (enc : TypeId × Value → H) :
    ReturnsInHanded {} Try.checked os 4 .any (Rows.diskLoadsSpec.pre6 enc Try.prog Try.f4 Rows.diskLoadsRow.domain false) (Rows.diskLoadsSpec.post enc Try.prog Try.f4 false true false false) := by
  refine returnsInHanded_of_change (C := Try.checked) own started (by kernel_rfl) Try.func4
    (ChangeSpec.witness6 (enc := enc) (C := Try.checked) false ⟨#[], #[.agg #[.slice none 0 0, .slice none 0 0], .slice none 0 0], []⟩ 8 (by kernel_rfl) (by kernel_rfl) (by kernel_rfl) (by kernel_rfl)) ?_
  intro W base args ds gs before hval0 hW hcnd _
  have hval : ∀ (j : Nat) t v, Try.f4.params[j]? = some t → args[j]? = some v → Value.okWide Try.prog W .any base t v := hval0
  have hW' := hW
  obtain ⟨p, q, hA0, hV, rfl, hfz, hnd⟩ := hW
  have hA : DataW.TrodAll enc Try.prog W 0 (fun _ => true) true Try.f4.params.toList args.toList ds p := hA0
  rw [Try.params4] at hA hval
  obtain ⟨v0, vs0, d0, ds0, p0, q0, hargs, rfl, rfl, h0, r0⟩ := trodAll_cons hA
  obtain ⟨v1, vs1, d1, ds1, p1, q1, rfl, rfl, rfl, h1, r1⟩ := trodAll_cons r0
  obtain ⟨rfl, rfl, rfl⟩ := trodAll_nil r1
  obtain rfl : args = #[v0, v1] := by cases args; simp_all
  obtain ⟨rfl, rfl⟩ := trodVars_none hV
  have k0 := h0
  have lt0 : ∀ x ∈ p0, x.block < W.heap.size := by obtain ⟨m, hm⟩ := k0; exact DataW.trod_lt m _ _ _ hm
  obtain ⟨a0, rfl, w0⟩ := DkG.open_image (hval 0 39 v0 rfl rfl) h0
  have k1 := h1
  have lt1 : ∀ x ∈ p1, x.block < W.heap.size := by obtain ⟨m, hm⟩ := k1; exact DataW.trod_lt m _ _ _ hm
  obtain ⟨b1, len1, ca1, rfl⟩ := okWide_slice Try.underlying22 (hval 1 22 v1 rfl rfl)
  obtain ⟨a1, cap1, z1, he1, w1⟩ := DkO.open_acts h1
  simp only [Value.cells, List.cons.injEq, Value.slice.injEq, and_true] at he1
  obtain ⟨rfl, rfl, rfl⟩ := he1
  clear hA0 hval0
  refine (walk a0 b1 ca1 z1 W w0 w1).mono fun e W' ⟨he, bel⟩ => ?_
  subst he
  exact ⟨_, rfl, _, _, _, [], _, [], hW', trodAll_mk1 (shut_bool Try.underlying4 _), (trodAll_cons_mk (Below.trod laidOut (by kernel_rfl) (of_decide_eq_true (by kernel_rfl)) k0 bel lt0) (trodAll_cons_mk (Below.trod laidOut (by kernel_rfl) (of_decide_eq_true (by kernel_rfl)) k1 bel lt1) trodAll_mk0)), rfl, bel.frame _, fun h => by cases h⟩
theorem over : Rows.diskLoadsRow.holds Try.pinned (OpenSpec.ofChange Rows.diskLoadsSpec) :=
  OpenClaim.holds_of_wide 4 Try.f4 rfl rfl rfl rfl rfl rfl rfl ⟨rfl, rfl, rfl, rfl, rfl⟩ rfl rfl rfl rfl rfl (by kernel_rfl) Try.func4 (by kernel_rfl)
    (of_decide_eq_true (by kernel_rfl)) (by unfold Func.isWrapper; first | (rw [if_pos (by decide +kernel)]; kernel_rfl) | (rw [if_neg (by decide +kernel)]; exact ⟨rfl, rfl⟩))
    (fun os started H enc _ => lifted os started H enc)
/-- THE STATEMENT, proved. -/
theorem proved : Rows.DiskLoadsSaid := over
#print axioms proved
end Go.Proofs.Ytofpflkkbkodaaa.diskLoads
