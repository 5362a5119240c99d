/- DiskFlushed: behind a crash each place has what was flushed, or the last one of those writes to it that were not flushed and were kept: any acts ahead, any writes behind (at most 60 acts each, of at most 20,000 bytes and numbers), at most 200 numbers kept; else the chapter's example alone. No condition but that the arguments are a Go program's (a text of at most 2^47 bytes). -/
import Derived.Test.YtofpflkkbkodaaaDkH
import Derived.Deep.RegionHeld3
import Derived.Deep.DeepMust
import Derived.Test.YtofpflkkbkodaaaRows
import Derived.WalkKit
import Derived.ProofKit
import Derived.OpenShut
import Derived.ShutString
import Derived.ChangeOld
import Derived.Below
namespace Go.Proofs.Ytofpflkkbkodaaa.diskFlushed
open Go.ChangeShapes Go.WideShapes Go.ChangeAt Go.RowKit
open Go.ChangeMaps (open_string shut_string)
set_option linter.unusedVariables false
open DkN DkM DkU DkL DkD DkP DkH
theorem alive_ (w : World) : Calls Try.prog 9 #[] w fun e w' => e = .returned (.bool true) ∧ Below w.heap.size w w' := DkA.alive w
set_option maxRecDepth 100000 in
theorem many1 (a1 a2 ka : Option Addr) (c1 c2 kn kc : Nat) (l more : List RawAct) (w : World) (h1 : ActRow w a1 l) (hl1 : l.length ≤ maxLen) (hg1 : ∀ x ∈ l, x.text.size ≤ maxLen ∧ x.kn ≤ maxLen) (hq : fewB l = false) :
    Calls Try.prog 5 #[.slice a1 l.length c1, .slice a2 more.length c2, .slice ka kn kc] w fun e w' => e = .returned (.bool true) ∧ Below w.heap.size w w' := by
  have HF := Lib.hid (DkL.Few a1 c1 l w h1 hl1 hg1)
  rw [hq] at HF
  clear h1 hl1 hg1 hq
  generalize l.length = m1 at *
  generalize more.length = m2 at *
  go_enter Try.func5, Try.ntmps5
  go_wp2_with fail
  refine (HF.out).mono ?_
  rintro e w1 ⟨rfl, hb1⟩
  have HB := Lib.hid hb1
  clear hb1
  go_wp2_with fail
  refine (alive_ _).mono ?_
  rintro e w2 ⟨rfl, hb2⟩
  have HB2 := Lib.hid (HB.out.trans (hb2.mono HB.out.size))
  clear hb2
  go_wp2
  go_ret
  exact ⟨rfl, HB2.out⟩
set_option maxRecDepth 100000 in
theorem many2 (a1 a2 ka : Option Addr) (c1 c2 kn kc : Nat) (l more : List RawAct) (w : World) (h1 : ActRow w a1 l) (hl1 : l.length ≤ maxLen) (hg1 : ∀ x ∈ l, x.text.size ≤ maxLen ∧ x.kn ≤ maxLen) (h2 : ActRow w a2 more) (hl2 : more.length ≤ maxLen) (hg2 : ∀ x ∈ more, x.text.size ≤ maxLen ∧ x.kn ≤ maxLen)
    (hq1 : fewB l = true) (hq : fewB more = false ∨ 200 < (kn : Int)) :
    Calls Try.prog 5 #[.slice a1 l.length c1, .slice a2 more.length c2, .slice ka kn kc] w fun e w' => e = .returned (.bool true) ∧ Below w.heap.size w w' := by
  have HF := Lib.hid (DkL.Few a1 c1 l w h1 hl1 hg1)
  have HG : Hid (∀ W, Below w.heap.size w W → Calls Try.prog 8 #[.slice a2 more.length c2] W fun e w' => e = .returned (.bool (fewB more)) ∧ Below W.heap.size W w') := Lib.hid fun W hW => DkL.Few a2 c2 more W (h2.below hW) hl2 hg2
  rw [hq1] at HF
  clear h1 hl1 hg1 h2 hl2 hg2 hq1
  generalize l.length = m1 at *
  generalize more.length = m2 at *
  generalize fewB more = q at *
  cases q
  · clear hq
    go_enter Try.func5, Try.ntmps5
    go_wp2_with fail
    refine (HF.out).mono ?_
    rintro e w1 ⟨rfl, hb1⟩
    have HB := Lib.hid hb1
    clear hb1
    go_wp2_with fail
    refine (HG.out _ HB.out).mono ?_
    rintro e w2 ⟨rfl, hb2⟩
    have HB2 := Lib.hid (HB.out.trans (hb2.mono HB.out.size))
    clear hb2
    go_wp2_with fail
    refine (alive_ _).mono ?_
    rintro e w3 ⟨rfl, hb3⟩
    have HB3 := Lib.hid (HB2.out.trans (hb3.mono HB2.out.size))
    clear hb3
    go_wp2
    go_ret
    exact ⟨rfl, HB3.out⟩
  · have hk := hq.resolve_left (fun e => Bool.noConfusion e)
    clear hq
    go_enter Try.func5, Try.ntmps5
    go_wp2_with fail
    refine (HF.out).mono ?_
    rintro e w1 ⟨rfl, hb1⟩
    have HB := Lib.hid hb1
    clear hb1
    go_wp2_with fail
    refine (HG.out _ HB.out).mono ?_
    rintro e w2 ⟨rfl, hb2⟩
    have HB2 := Lib.hid (HB.out.trans (hb2.mono HB.out.size))
    clear hb2
    go_wp2_with fail
    refine (alive_ _).mono ?_
    rintro e w3 ⟨rfl, hb3⟩
    have HB3 := Lib.hid (HB2.out.trans (hb3.mono HB2.out.size))
    clear hb3
    go_wp2
    go_ret
    exact ⟨rfl, HB3.out⟩
theorem strs_news {w : World} {base g n c : Nat} {xs : List Value} {e : TypeId} (h : w.ownsRow base e 1 (.slice (some ⟨g, 0, none⟩) n c) n xs) : ∀ j u, xs[j]? = some u → w.cell? ((⟨g, 0, none⟩ : Addr).add j) = some u := h.cells rfl
theorem own_some {w : World} {base : Nat} {e : TypeId} {size : Nat} {v : Value} {n : Nat} {xs : List Value} (h : w.ownsRow base e size v n xs) (hn : 0 < n) : ∃ g c, v = .slice (some ⟨g, 0, none⟩) n c := by
  rcases h.2 with ⟨_, h0⟩ | ⟨g, cap, cur, rfl, _⟩
  · omega
  · exact ⟨g, cap, rfl⟩
theorem strs_one (l : List ByteArray) : ∀ u ∈ l.map Value.string, u.oneCell' = true := by
  intro u hu
  obtain ⟨s, _, rfl⟩ := List.mem_map.1 hu
  rfl
theorem keep_next (keep : List Int) (k q : Nat) (h : q < keep.length) : keepB (keep.take (q + 1)) k = (keepB (keep.take q) k || decide (keep.getD q 0 = (k : Int))) := by
  unfold keepB
  have hg : keep.getD q 0 = keep[q] := by simp [h]
  rw [hg, ← Bool.decide_or, List.take_succ_eq_append_getElem h]
  refine decide_eq_decide.2 ?_
  rw [List.mem_append, List.mem_singleton]
  exact ⟨fun h => h.imp id Eq.symm, fun h => h.imp id Eq.symm⟩
set_option maxRecDepth 100000 in
set_option maxHeartbeats 8000000 in
theorem main (a1 a2 ka : Option Addr) (c1 c2 kn kc : Nat) (l more : List RawAct) (keep : List Int) (w : World) (h1 : ActRow w a1 l) (hl1 : l.length ≤ maxLen) (hg1 : ∀ x ∈ l, ∃ keep, DkO.Good w x keep) (h2 : ActRow w a2 more) (hl2 : more.length ≤ maxLen) (hg2 : ∀ x ∈ more, ∃ keep, DkO.Good w x keep)
    (hq1 : fewB l = true) (hq2 : fewB more = true) (hkn : ¬ 200 < (kn : Int)) (hr : Row w w.heap.size ka kn keep) (hi : ∀ x ∈ keep, IsInt x) :
    Calls Try.prog 5 #[.slice a1 l.length c1, .slice a2 more.length c2, .slice ka kn kc] w fun e w' => e = .returned (.bool true) ∧ Below w.heap.size w w' := by
  have HF := Lib.hid (DkL.Few a1 c1 l w h1 hl1 (fun x hx => by obtain ⟨k, hk⟩ := hg1 x hx; exact ⟨hk.2.2.2.1, hk.2.2.1⟩))
  have HFG : Hid (∀ W, Below w.heap.size w W → Calls Try.prog 8 #[.slice a2 more.length c2] W fun e w' => e = .returned (.bool (fewB more)) ∧ Below W.heap.size W w') := Lib.hid fun W hW => DkL.Few a2 c2 more W (h2.below hW) hl2 (fun x hx => by obtain ⟨k, hk⟩ := hg2 x hx; exact ⟨hk.2.2.2.1, hk.2.2.1⟩)
  rw [hq1] at HF
  rw [hq2] at HFG
  have hl60 : l.length ≤ 60 := (of_decide_eq_true hq1).1
  have hm60 : more.length ≤ 60 := (of_decide_eq_true hq2).1
  obtain ⟨f, hf⟩ := pick hg1
  have HG := Lib.hid hf
  have HA := Lib.hid h1
  have HA2 := Lib.hid h2
  have HRow := Lib.hid hr
  have HI := Lib.hid hi
  have HD := Lib.hid (fun W => DkNew.New_yes 9 W (by omega) (by omega))
  have HR := Lib.hid (fun W => DkRN.New_yes 9 W (by omega) (by omega))
  clear h1 hl1 hg1 h2 hl2 hg2 hq1 hq2 hf hr hi
  obtain ⟨m, hm⟩ : ∃ m, l.length = m := ⟨_, rfl⟩
  rw [hm] at HF hl60 ⊢
  have HM := Lib.hid hm
  obtain ⟨m2, hm2⟩ : ∃ m, more.length = m := ⟨_, rfl⟩
  rw [hm2] at HFG hm60 ⊢
  have HM2 := Lib.hid hm2
  clear hm hm2
  go_enter Try.func5, Try.ntmps5
  go_wp2_with fail
  refine (HF.out).mono ?_
  rintro e w1 ⟨rfl, hb1⟩
  have HB := Lib.hid hb1
  clear hb1 HF
  go_wp2_with fail
  refine (HFG.out _ HB.out).mono ?_
  rintro e w1' ⟨rfl, hb1⟩
  have HB := Lib.hid (HB.out.trans (hb1.mono HB.out.size))
  clear hb1 HFG
  go_wp2_with fail
  refine (HD.out _).mono ?_
  rintro e w2 ⟨b, bv, cv, rfl, hd2, hb2, hf2⟩
  go_wp2_with fail
  refine (HR.out _).mono ?_
  rintro e w3 ⟨rb, rv, ru, rfl, hr3, hb3, hf3⟩
  have hP : Play w w3 b bv rb rv cv ru (made 9) (made 9) := by
    have s1 := HB.out.size
    have s2 := hb2.size
    refine ⟨hd2.step hb3, hr3, fun k hk hr => ?_, fun k hk => Nat.le_trans s1 (hf2 k hk), fun k hk => Nat.le_trans s1 (Nat.le_trans s2 (hf3 k hk)), (HB.out.trans (hb2.mono s1)).trans (hb3.mono (Nat.le_trans s1 s2))⟩
    have := hd2.foot_lt k hk
    have := hf3 k hr
    omega
  have HP := Lib.hid hP
  clear hP hd2 hb2 hf2 hr3 hb3 hf3 HB HD HR
  go_wp2_with fail
  go_loopw [41] (fun i wr => ∃ j : Nat, j ≤ m ∧ i = .int .i64 j ∧ ∃ cv ru, Play w wr b bv rb rv cv ru (runD f (made 9) (l.take j)) (runR f (made 9) (l.take j))) (fun i _ => m - (intOf i).toNat)
  case atStart => exact ⟨0, Nat.zero_le _, rfl, _, _, HP.out⟩
  case round =>
    obtain ⟨j, hj, rfl, cv', ru', hp⟩ := hrel
    have HPP := Lib.hid hp
    clear hp
    have HLi := Lib.hid (run_like f (l.take j) (made 9) (made 9) (.refl _))
    by_cases hlt : j < m
    · have hjl : j < l.length := by rw [HM.out]; exact hlt
      obtain ⟨g, o, rfl, hg, hcs⟩ := HA.out (by omega)
      have hcell : ∀ i v, l[j].cells[i]? = some v → wr.cell? ⟨g, o + j * 6 + i, none⟩ = some v := fun i v hv => (HPP.out.below.cell (p := ⟨g, o + j * 6 + i, none⟩) hg).trans (hcs j hjl i v hv)
      have HGo := Lib.hid (HG.out _ (List.getElem_mem hjl))
      have HXD := Lib.hid (runD_next f (made 9) l j hjl)
      have HXR := Lib.hid (runR_next f (made 9) l j hjl)
      generalize runD f (made 9) (l.take j) = Dj at *
      generalize runR f (made 9) (l.take j) = Rj at *
      clear hcs
      generalize l[j] = x at *
      have hjm : (j : Int) < (m : Int) := by omega
      clear hjl
      have HDo : Hid (∀ W : World, Play w W b bv rb rv cv' ru' Dj Rj → Calls Try.prog 12 #[.pointer (some ⟨b, 0, none⟩), .pointer (some ⟨rb, 0, none⟩), .agg x.cells] W (DkP.Alike w b bv rb rv (actD Dj (actOf x (f x))) (actR Rj (actOf x (f x))))) := Lib.hid fun W hW =>
        DkP.does hW HLi.out x (f x) (HGo.out.1.keep hW.below.block) HGo.out.2.1 HGo.out.2.2.1 HGo.out.2.2.2.2.2.2.2
      generalize actD Dj (actOf x (f x)) = Dn at *
      generalize actR Rj (actOf x (f x)) = Rn at *
      obtain ⟨kind, at_, nn, s, raw, kka, kkn, kkc⟩ := x
      have q0 : wr.cell? ⟨g, o + j * 6, none⟩ = some (.int .i64 kind) := hcell 0 _ rfl
      have q1 : wr.cell? ⟨g, o + j * 6 + 1, none⟩ = some (.int .i64 at_) := hcell 1 _ rfl
      have q2 : wr.cell? ⟨g, o + j * 6 + 2, none⟩ = some (.int .i64 nn) := hcell 2 _ rfl
      have q3 : wr.cell? ⟨g, o + j * 6 + 3, none⟩ = some (.string s) := hcell 3 _ rfl
      have q4 : wr.cell? ⟨g, o + j * 6 + 4, none⟩ = some (.bool raw) := hcell 4 _ rfl
      have q5 : wr.cell? ⟨g, o + j * 6 + 5, none⟩ = some (.slice kka kkn kkc) := hcell 5 _ rfl
      clear hcell
      simp only [RawAct.cells] at HDo
      go_wp2_with fail
      refine (HDo.out _ (HPP.out.step ((Below.refl _ _).alloc (Nat.le_refl _) _))).mono ?_
      rintro e w5 ⟨rfl, cv5, ru5, hp5⟩
      have HP5 := Lib.hid hp5
      clear hp5 q0 q1 q2 q3 q4 q5
      go_wp2
      go_roundw
      case rel => exact ⟨j + 1, by omega, by go_num, cv5, ru5, by rw [HXD.out, HXR.out]; exact HP5.out⟩
      case measure => simp [intOf]; omega
    · have S1 : Hid (DkA.Solo false w wr b bv cv' (runD f (made 9) (l.take j))) := ⟨HPP.out.d, HPP.out.below, HPP.out.dl⟩
      have HL9 : Hid ((runD f (made 9) (l.take j)).bl.length = 9) := Lib.hid ((runD_length f (made 9) (l.take j)).trans List.length_replicate)
      clear HPP HLi HP HA HG HM hl60
      generalize runD f (made 9) (l.take j) = Dj at *
      go_wp2_with fail
      refine (DkB.Boot S1.out.has).mono ?_
      rintro e w5 ⟨rfl, hd5⟩
      obtain ⟨cv5, s5⟩ := S1.out.did hd5
      have S5 := Lib.hid s5
      clear hd5 s5 S1
      go_wp2_with fail
      refine (DkF.Flush S5.out.has).mono ?_
      rintro e w6 ⟨rfl, hd6⟩
      rw [boot_flush] at hd6 ⊢
      obtain ⟨cv6, s6⟩ := S5.out.did hd6
      have S6 := Lib.hid s6
      clear hd6 s6 S5
      go_wp2_with fail
      refine (DkC.Seize S6.out.has).mono ?_
      rintro e w7 ⟨v, u, rfl, hv, hu, _, hb7⟩
      obtain ⟨N, hN⟩ : ∃ N : Nat, Dj.bl.length = N := ⟨_, rfl⟩
      have HN9 : Hid (N = 9) := Lib.hid (hN ▸ HL9.out)
      have hNa : 8 < (N : Int) := by have := HN9.out; omega
      have hNb : (N : Int) < 10 := by have := HN9.out; omega
      have hv9 : w7.ownsRow w6.heap.size 9 1 v N (Dj.bl.map Value.string) := by have := hv; rw [show Dj.boot.bl = Dj.bl from rfl, hN] at this; exact this
      obtain ⟨gv, vc, rfl⟩ := own_some hv9 (by omega)
      obtain ⟨ua, ul, uc, rfl⟩ := own_slice hu
      have S7 := Lib.hid (S6.out.step hb7)
      obtain ⟨i0, hi, hz0, hz1, hz2⟩ := info_parts DkR.info9
      have hB8 : Below w7.heap.size w7 (w7.alloc (.cells #[.slice (some ⟨gv, 0, none⟩) N vc, .slice ua ul uc] 39)) := (Below.refl _ _).alloc (Nat.le_refl _) _
      have HX : Hid (∀ j u, (Dj.bl.map Value.string)[j]? = some u → ((w7.alloc (.cells #[.slice (some ⟨gv, 0, none⟩) N vc, .slice ua ul uc] 39)).alloc (.cells #[] 9)).cell? ((⟨gv, 0, none⟩ : Addr).add j) = some u) := Lib.hid (strs_news ((hv9.alloc _).alloc _))
      have HB9 : Hid (Below w7.heap.size w7 ((w7.alloc (.cells #[.slice (some ⟨gv, 0, none⟩) N vc, .slice ua ul uc] 39)).alloc (.cells #[] 9))) := Lib.hid (hB8.alloc hB8.size _)
      have HS8 := Lib.hid hB8.size
      have HX9 : Hid ((Dj.bl.map Value.string).length = N * 1) := Lib.hid (by rw [List.length_map, HL9.out, HN9.out])
      have HZ9 : Hid ((w7.alloc (.cells #[.slice (some ⟨gv, 0, none⟩) N vc, .slice ua ul uc] 39)).heap.size = w7.heap.size + 1) := Lib.hid (by simp)
      have hM0 : ((w7.alloc (.cells #[.slice (some ⟨gv, 0, none⟩) N vc, .slice ua ul uc] 39)).alloc (.cells #[] 9)).ownsRow w7.heap.size 9 1 (.slice (some ⟨(w7.alloc (.cells #[.slice (some ⟨gv, 0, none⟩) N vc, .slice ua ul uc] 39)).heap.size, 0, none⟩) 0 0) 0 [] := World.ownsRow_made _ #[] 0 HS8.out (Nat.zero_le _) rfl
      rw [HZ9.out] at hM0
      have HM0 := Lib.hid hM0
      clear hv hu hb7 hv9 S6 hB8 hN hM0
      go_wp2_with (at_builtin; go_must (refine wpList_append_own _ rfl _ _ 36 rfl w7.heap.size 9 i0 (.string ⟨#[]⟩) 1 16 Try.underlying36 hi hz0 hz1 hz2 rfl (by decide) (.slice (some ⟨w7.heap.size + 1, 0, none⟩) 0 0) 0 [] rfl (HM0.out) ⟨gv, 0, none⟩ N vc (Dj.bl.map Value.string) rfl HX9.out HX.out (strs_one _) (by unfold maxLen; omega) (by omega) (by simp; omega) ?_); intro v9 w9 hown hgrow hnil; rw [show 0 + N = 9 by omega] at hown; obtain ⟨gw, wc, rfl⟩ := own_some hown (by omega))
      have hs7 := S7.out.below.size
      have hb9 : Below w7.heap.size w7 w9 := HB9.out.grown hgrow (by simp; omega) (fun k hk => by have e : w7.heap.size + 1 = k := Option.some.inj hk; omega)
      have HH : Hid (Hold w w9 b bv cv6 Dj.boot gw 9 wc (kset (keepB keep) 0 [] Dj.bl)) := Lib.hid (Hold.mk (S7.out.step hb9) (DkC.own_base hown hs7) (fun hk => by have h1 := S7.out.has.foot_lt _ hk; have h2 := (hown.lt gw rfl).1; omega))
      clear hown hgrow hnil hs7 hb9 S7 HB9 HX HX9 HS8 HZ9 hi hz0 hz1 hz2
      have HL9' : Hid (Dj.boot.bl.length = 9) := HL9
      go_loopw [14, 68] (fun kk i wr => ∃ (j : Nat) (D : Dk) (cv : Value), j ≤ m2 ∧ i = .int .i64 j ∧ kk = .int .i64 (D.ca.length : Nat) ∧ D.down = false ∧ D.armed = 0 ∧ D.bl = Dj.bl ∧ Hold w wr b bv cv D gw 9 wc (kset (keepB keep) 0 D.ca Dj.bl)) (fun _ i _ => m2 - (intOf i).toNat)
      case atStart => exact ⟨0, Dj.boot, cv6, Nat.zero_le _, rfl, rfl, rfl, rfl, rfl, HH.out⟩
      case round =>
        obtain ⟨j, D, cvD, hj, rfl, rfl, hdn, har, hbl, hh⟩ := hrel
        have HO := Lib.hid hh
        clear hh HH
        have HLw : Hid ((kset (keepB keep) 0 D.ca Dj.bl).length = 9) := Lib.hid HO.out.len
        by_cases hlt : j < m2
        · have HWL := Lib.hid (fun (x : Nat × ByteArray) => kset_snoc (keepB keep) 0 D.ca x Dj.bl)
          have hjl : j < more.length := by rw [HM2.out]; exact hlt
          obtain ⟨g, o, rfl, hg, hcs⟩ := HA2.out (by omega)
          have hcell : ∀ i v, more[j].cells[i]? = some v → wr.cell? ⟨g, o + j * 6 + i, none⟩ = some v := fun i v hv => (HO.out.s.below.cell (p := ⟨g, o + j * 6 + i, none⟩) hg).trans (hcs j hjl i v hv)
          clear hcs
          generalize more[j] = x at *
          have hjm : (j : Int) < (m2 : Int) := by omega
          clear hjl
          have HT : Hid (∀ W : World, Calls Try.prog 22 #[.agg x.cells] W fun e w' => e = .returned (.string x.txt) ∧ Below W.heap.size W w') := Lib.hid (fun W => DkU.text x W)
          obtain ⟨kind, at_, nn, s, raw, kka, kkn, kkc⟩ := x
          have q0 : wr.cell? ⟨g, o + j * 6, none⟩ = some (.int .i64 kind) := hcell 0 _ rfl
          have q1 : wr.cell? ⟨g, o + j * 6 + 1, none⟩ = some (.int .i64 at_) := hcell 1 _ rfl
          have q2 : wr.cell? ⟨g, o + j * 6 + 2, none⟩ = some (.int .i64 nn) := hcell 2 _ rfl
          have q3 : wr.cell? ⟨g, o + j * 6 + 3, none⟩ = some (.string s) := hcell 3 _ rfl
          have q4 : wr.cell? ⟨g, o + j * 6 + 4, none⟩ = some (.bool raw) := hcell 4 _ rfl
          have q5 : wr.cell? ⟨g, o + j * 6 + 5, none⟩ = some (.slice kka kkn kkc) := hcell 5 _ rfl
          clear hcell
          simp only [RawAct.cells] at HT
          generalize RawAct.txt ⟨kind, at_, nn, s, raw, kka, kkn, kkc⟩ = t at *
          have HK : Hid ((wr.alloc (.cells #[.int .i64 kind, .int .i64 at_, .int .i64 nn, .string s, .bool raw, .slice kka kkn kkc] 33)).drew.heap[wr.heap.size]? = some (.cells #[.int .i64 kind, .int .i64 at_, .int .i64 nn, .string s, .bool raw, .slice kka kkn kkc] 33 (0, 0))) := Lib.hid (heap_alloc_new wr _)
          have HO1 : Hid (Hold w (wr.alloc (.cells #[.int .i64 kind, .int .i64 at_, .int .i64 nn, .string s, .bool raw, .slice kka kkn kkc] 33)).drew b bv cvD D gw 9 wc (kset (keepB keep) 0 D.ca Dj.bl)) := Lib.hid (HO.out.step ((Below.refl _ _).alloc (Nat.le_refl _) _)).drew
          have HLC := Lib.hid HO.out.s.has.ok.few
          clear HO
          obtain ⟨a0, a1, a2, a3, a4, a5⟩ := DkD.six_of HK.out
          by_cases hz : (D.wr at_ t).1 = 0
          · obtain ⟨he, h0, hp⟩ := wr_zero hdn har at_ t hz
            obtain ⟨p, rfl⟩ : ∃ p : Nat, at_ = (p : Int) := ⟨at_.toNat, by omega⟩
            rw [Int.toNat_natCast] at he hp
            have hp9 : p < 9 := by rw [hbl, HL9.out] at hp; exact hp
            have HW : Hid (∀ W : World, Hold w W b bv cvD D gw 9 wc (kset (keepB keep) 0 D.ca Dj.bl) → Calls Try.prog 21 #[.pointer (some ⟨b, 0, none⟩), .int .i64 (p : Int), .string t] W fun e w' => e = .returned (.int .i64 0) ∧ ∃ c, Hold w w' b bv c { D with ca := D.ca ++ [(p, t)] } gw 9 wc (kset (keepB keep) 0 D.ca Dj.bl) ∧ ∀ (A : Nat) (cs : Array Value), W.heap[A]? = some (.cells cs 33 (0, 0)) → w'.heap[A]? = some (.cells cs 33 (0, 0))) :=
              Lib.hid fun W hW => (DkW.Write hW.s.has (p : Int) t).mono fun e w' ⟨h1, h2⟩ => by
                obtain ⟨c, hc⟩ := hW.did h2
                exact ⟨by rw [h1, hz]; rfl, c, by rw [← he]; exact hc, fun A cs hA => DkD.did_block hW.s.has h2 hA⟩
            have HN1 : Hid (({ D with ca := D.ca ++ [(p, t)] } : Dk).ca.length = D.ca.length + 1) := Lib.hid (by simp)
            have HND : Hid (({ D with ca := D.ca ++ [(p, t)] } : Dk).down = false ∧ ({ D with ca := D.ca ++ [(p, t)] } : Dk).armed = 0 ∧ ({ D with ca := D.ca ++ [(p, t)] } : Dk).bl = Dj.bl) := Lib.hid ⟨hdn, har, hbl⟩
            have HWL2 : Hid (kset (keepB keep) 0 ({ D with ca := D.ca ++ [(p, t)] } : Dk).ca Dj.bl = if keepB keep D.ca.length then (kset (keepB keep) 0 D.ca Dj.bl).set p t else kset (keepB keep) 0 D.ca Dj.bl) := Lib.hid (by have := HWL.out (p, t); rw [Nat.zero_add] at this; exact this)
            generalize ({ D with ca := D.ca ++ [(p, t)] } : Dk) = Dn at *
            have hK := HLC.out
            clear hz he hp HWL HLC hdn har hbl
            generalize kset (keepB keep) 0 D.ca Dj.bl = wl at *
            generalize D.ca.length = K at *
            go_wp2_with fail
            go_region_held3 (fun w' => w'.cell? ⟨wr.heap.size, 0, none⟩ = some (.int .i64 kind) ∧ w'.cell? ⟨wr.heap.size, 1, none⟩ = some (.int .i64 (p : Int)) ∧ w'.cell? ⟨wr.heap.size, 2, none⟩ = some (.int .i64 nn) ∧ w'.cell? ⟨wr.heap.size, 3, none⟩ = some (.string s) ∧ w'.cell? ⟨wr.heap.size, 4, none⟩ = some (.bool raw) ∧ w'.cell? ⟨wr.heap.size, 5, none⟩ = some (.slice kka kkn kkc))
              (first | exact hS | exact ⟨a0, a1, a2, a3, a4, a5⟩)
              (first
                | (go_at_call 22; refine (HT.out _).mono ?_; rintro e W3 ⟨rfl, hb3⟩; replace HK := Lib.hid (DkD.below_block hb3 HK.out); replace HO1 := Lib.hid (HO1.out.step hb3); have hS := DkD.six_of HK.out; clear hb3)
                | (go_at_call 21; refine (HW.out _ HO1.out).mono ?_; rintro e W4 ⟨rfl, c4, h4, hA4⟩; have HK4 := Lib.hid (hA4 _ _ HK.out); have HO4 := Lib.hid h4; have hS := DkD.six_of HK4.out; clear h4 hA4))
            clear hS a0 a1 a2 a3 a4 a5 HO1 HK HW q0 q1 q2 q3 q4 q5
            generalize wr.heap.size = B at *
            go_wp2_with fail
            go_loopw [81] (fun i wr => ∃ q : Nat, q ≤ kn ∧ i = .int .i64 q ∧ Hold w wr b bv c4 Dn gw 9 wc (if keepB (keep.take q) K then wl.set p t else wl) ∧ wr.heap[B]? = some (.cells #[.int .i64 kind, .int .i64 (p : Int), .int .i64 nn, .string s, .bool raw, .slice kka kkn kkc] 33 (0, 0))) (fun i _ => kn - (intOf i).toNat)
            case atStart => exact ⟨0, Nat.zero_le _, rfl, by simpa [keepB] using HO4.out, HK4.out⟩
            case round =>
              obtain ⟨q, hq, rfl, hh2, hA2⟩ := hrel
              have HQ := Lib.hid hh2
              have HKQ := Lib.hid hA2
              clear hh2 hA2
              by_cases hlq : q < kn
              · obtain ⟨gk, ok, rfl, hgk, hck⟩ := HRow.out.2 (by omega)
                have hkc : wr.cell? ⟨gk, ok + q, none⟩ = some (.int .i64 (keep.getD q 0)) := (HQ.out.s.below.cell (p := ⟨gk, ok + q, none⟩) hgk).trans (hck q hlq)
                have HKN := Lib.hid (keep_next keep K q (by rw [HRow.out.1]; exact hlq))
                clear hck
                generalize keep.getD q 0 = x at *
                by_cases hx : x = (K : Int)
                · have HKT : Hid (keepB (keep.take (q + 1)) K = true) := Lib.hid (by rw [HKN.out, decide_eq_true hx, Bool.or_true])
                  clear HKN
                  subst hx
                  have hset : (if keepB (keep.take q) K then wl.set p t else wl).set p t = wl.set p t := by split <;> simp
                  have HST := Lib.hid hset
                  clear hset
                  generalize (if keepB (keep.take q) K then wl.set p t else wl) = wl1 at *
                  obtain ⟨a0, a1, a2, a3, a4, a5⟩ := DkD.six_of HKQ.out
                  have hAg : B ≠ gw := HQ.out.ne_act HKQ.out
                  have HKD : Hid (wr.drew.heap[B]? = _) := HKQ
                  have HQD := Lib.hid HQ.out.drew
                  have hp9i : (p : Int) < (9 : Int) := by omega
                  have hp0i : (0 : Int) ≤ (p : Int) := by omega
                  clear HKQ HQ
                  go_wp2_with fail
                  go_region_held3 (fun w' => w'.cell? ⟨B, 0, none⟩ = some (.int .i64 kind) ∧ w'.cell? ⟨B, 1, none⟩ = some (.int .i64 (p : Int)) ∧ w'.cell? ⟨B, 2, none⟩ = some (.int .i64 nn) ∧ w'.cell? ⟨B, 3, none⟩ = some (.string s) ∧ w'.cell? ⟨B, 4, none⟩ = some (.bool raw) ∧ w'.cell? ⟨B, 5, none⟩ = some (.slice kka kkn kkc))
                    (first | exact hS3 | exact ⟨a0, a1, a2, a3, a4, a5⟩ | exact ⟨(DkRS.far1 hAg _).trans hS3.1, (DkRS.far1 hAg _).trans hS3.2.1, (DkRS.far1 hAg _).trans hS3.2.2.1, (DkRS.far1 hAg _).trans hS3.2.2.2.1, (DkRS.far1 hAg _).trans hS3.2.2.2.2.1, (DkRS.far1 hAg _).trans hS3.2.2.2.2.2⟩)
                    (first
                      | (go_at_call 22; refine (HT.out _).mono ?_; rintro e W3 ⟨rfl, hb3⟩; have HKD3 := Lib.hid (DkD.below_block hb3 HKD.out); have HQ3 := Lib.hid (HQD.out.step hb3); have hS3 := DkD.six_of HKD3.out; have cw := HQ3.out.cell p (by rw [HQ3.out.len]; omega); have fw := HQ3.out.free p; clear hb3))
                  rename_i hHeld
                  have HR := Lib.hid (HQ3.out.set_ p t)
                  rw [HST.out] at HR
                  have HRA : Hid ((W3.setCell ⟨gw, p, none⟩ (.string t)).heap[B]? = _) := Lib.hid ((set_cell_block hAg).trans HKD3.out)
                  clear hHeld a0 a1 a2 a3 a4 a5 hS3 cw fw
                  go_wp2
                  go_roundw
                  case rel => exact ⟨q + 1, by omega, by go_num, by rw [if_pos HKT.out]; exact HR.out, HRA.out⟩
                  case measure => simp [intOf]; omega
                · have HKT : Hid (keepB (keep.take (q + 1)) K = keepB (keep.take q) K) := Lib.hid (by rw [HKN.out, decide_eq_false hx, Bool.or_false])
                  clear HKN
                  go_wp2
                  go_roundw
                  case rel => exact ⟨q + 1, by omega, by go_num, by rw [HKT.out]; exact HQ.out, HKQ.out⟩
                  case measure => simp [intOf]; omega
              · obtain rfl : q = kn := by omega
                have HE : Hid (Hold w wr b bv c4 Dn gw 9 wc (kset (keepB keep) 0 Dn.ca Dj.bl)) := Lib.hid (by have := HQ.out; rw [List.take_of_length_le (by rw [HRow.out.1]; exact Nat.le_refl _)] at this; rw [HWL2.out]; exact this)
                clear HQ HKQ
                go_wp2
                go_roundw
                case rel => exact ⟨j + 1, Dn, c4, by omega, by go_num, by rw [HN1.out]; go_num, HND.out.1, HND.out.2.1, HND.out.2.2, HE.out⟩
                case measure => simp [intOf]; omega
          · have HW : Hid (∀ W : World, Hold w W b bv cvD D gw 9 wc (kset (keepB keep) 0 D.ca Dj.bl) → Calls Try.prog 21 #[.pointer (some ⟨b, 0, none⟩), .int .i64 at_, .string t] W fun e w' => e = .returned (.int .i64 ((D.wr at_ t).1 : Nat)) ∧ ∃ c, Hold w w' b bv c D gw 9 wc (kset (keepB keep) 0 D.ca Dj.bl) ∧ ∀ (A : Nat) (cs : Array Value), W.heap[A]? = some (.cells cs 33 (0, 0)) → w'.heap[A]? = some (.cells cs 33 (0, 0))) :=
              Lib.hid fun W hW => (DkW.Write hW.s.has at_ t).mono fun e w' ⟨h1, h2⟩ => by
                obtain ⟨c, hc⟩ := hW.did h2
                rw [wr_not hdn har at_ t hz] at hc
                exact ⟨h1, c, hc, fun A cs hA => DkD.did_block hW.s.has h2 hA⟩
            have hz0 : 0 < ((D.wr at_ t).1 : Int) := by omega
            have HDF := Lib.hid (And.intro hdn (And.intro har hbl))
            clear hz HWL HLC hdn har hbl
            generalize (D.wr at_ t).1 = zc at *
            go_wp2_with fail
            go_region_held3 (fun w' => w'.cell? ⟨wr.heap.size, 0, none⟩ = some (.int .i64 kind) ∧ w'.cell? ⟨wr.heap.size, 1, none⟩ = some (.int .i64 at_) ∧ w'.cell? ⟨wr.heap.size, 2, none⟩ = some (.int .i64 nn) ∧ w'.cell? ⟨wr.heap.size, 3, none⟩ = some (.string s) ∧ w'.cell? ⟨wr.heap.size, 4, none⟩ = some (.bool raw) ∧ w'.cell? ⟨wr.heap.size, 5, none⟩ = some (.slice kka kkn kkc))
              (first | exact hS | exact ⟨a0, a1, a2, a3, a4, a5⟩)
              (first
                | (go_at_call 22; refine (HT.out _).mono ?_; rintro e W3 ⟨rfl, hb3⟩; replace HK := Lib.hid (DkD.below_block hb3 HK.out); replace HO1 := Lib.hid (HO1.out.step hb3); have hS := DkD.six_of HK.out; clear hb3)
                | (go_at_call 21; refine (HW.out _ HO1.out).mono ?_; rintro e W4 ⟨rfl, c4, h4, hA4⟩; have HK4 := Lib.hid (hA4 _ _ HK.out); have HO4 := Lib.hid h4; have hS := DkD.six_of HK4.out; clear h4 hA4))
            clear hS a0 a1 a2 a3 a4 a5 HO1 HK HW q0 q1 q2 q3 q4 q5
            go_wp2
            go_roundw
            case rel => exact ⟨j + 1, D, c4, by omega, by go_num, by go_num, HDF.out.1, HDF.out.2.1, HDF.out.2.2, HO4.out⟩
            case measure => simp [intOf]; omega
        · have HRW : Hid (Row wr wr.heap.size ka kn keep) := Lib.hid ((HRow.out.keep HO.out.s.below.block).more HO.out.s.below.size)
          have HCB : Hid ((D.crash keep).bl = kset (keepB keep) 0 D.ca Dj.bl) := Lib.hid (by rw [← hbl]; rfl)
          have hkm : kn ≤ maxLen := by unfold maxLen; omega
          clear HA2 HRow HL9 HL9' hdn har hbl hm60
          go_wp2_with fail
          refine (DkF.Crash HO.out.s.has ka kn kc keep HRW.out HI.out hkm).mono ?_
          rintro e w10 ⟨rfl, hd10⟩
          obtain ⟨c10, h10⟩ := HO.out.did hd10
          have HO10 := Lib.hid h10
          have HDW : Hid ((D.crash keep).down = true ∧ (D.crash keep).ca = []) := Lib.hid ⟨rfl, rfl⟩
          clear hd10 h10 HO HRW
          generalize D.crash keep = Dc at *
          generalize kset (keepB keep) 0 D.ca Dj.bl = wl at *
          go_wp2_with fail
          refine (DkC.Seize HO10.out.s.has).mono ?_
          rintro e w11 ⟨v, u, rfl, hv, hu, _, hb11⟩
          rw [HCB.out, HLw.out] at hv
          rw [HDW.out.2] at hu
          obtain ⟨va, vc', rfl⟩ := DkDb.own_n hv
          obtain ⟨ua', uc', rfl⟩ := DkDb.own_n hu
          have HO11 := Lib.hid (HO10.out.step hb11)
          have HIM : Hid (DkE.ImgAt w11 va ua' wl []) := Lib.hid ⟨own_strs hv, own_puts hu, by rw [HLw.out]; omega, Nat.zero_le _⟩
          have HIW : Hid (DkE.ImgAt w11 (some ⟨gw, 0, none⟩) none wl []) := Lib.hid ⟨own_strs HO11.out.own, fun h => absurd h (Nat.lt_irrefl 0), by rw [HLw.out]; omega, Nat.zero_le _⟩
          have HSm : Hid (∀ W, Below w11.heap.size w11 W → Calls Try.prog 17 #[.agg #[.slice va 9 vc', .slice ua' 0 uc'], .agg #[.slice (some ⟨gw, 0, none⟩) 9 wc, .slice none 0 0]] W fun e w' => e = .returned (.bool true) ∧ Below W.heap.size W w') := Lib.hid fun W hW => by
            have := DkE.Same va (some ⟨gw, 0, none⟩) ua' none vc' wc uc' 0 wl wl [] [] W (HIM.out.below hW) (HIW.out.below hW)
            rw [HLw.out, decide_eq_true ⟨rfl, rfl⟩] at this
            exact this
          clear hv hu hb11 HO10 HIM HIW
          have HO12 : Hid (∀ img : Obj, Hold w (w11.alloc img) b bv c10 Dc gw 9 wc wl) := Lib.hid fun img => HO11.out.step ((Below.refl _ _).alloc (Nat.le_refl _) img)
          clear HO11
          go_wp2_with fail
          refine (HSm.out _ ((Below.refl _ _).alloc (Nat.le_refl _) _)).mono ?_
          rintro e w12 ⟨rfl, hb12⟩
          have HO13 := Lib.hid ((HO12.out _).step hb12)
          clear hb12 HO12 HSm
          go_wp2_with fail
          refine (DkQ.Down HO13.out.s.has).mono ?_
          rintro e _ ⟨rfl, rfl⟩
          rw [HDW.out.1]
          go_wp2_with fail
          refine (alive_ _).mono ?_
          rintro e w13 ⟨rfl, hb13⟩
          have HB14 := Lib.hid (HO13.out.s.below.trans (hb13.mono HO13.out.s.below.size))
          clear hb13
          go_wp2
          go_ret
          exact ⟨rfl, HB14.out⟩
theorem walk (a1 : Option Addr) (c1 : Nat) (l : List RawAct) (a2 : Option Addr) (c2 : Nat) (more : List RawAct) (ka : Option Addr) (kn kc : Nat) (zs : List Int) (w : World) (w0 : ActRow w a1 l ∧ l.length ≤ maxLen ∧ ∀ x ∈ l, ∃ keep, DkO.Good w x keep) (w1 : ActRow w a2 more ∧ more.length ≤ maxLen ∧ ∀ x ∈ more, ∃ keep, DkO.Good w x keep) (w2 : IntsAt .i64 w ka kn kc zs) :
    Calls Try.prog 5 #[.slice a1 l.length c1, .slice a2 more.length c2, .slice ka kn kc] w fun e w' => e = .returned (.bool true) ∧ Below w.heap.size w w' := by
  obtain ⟨h1, hl1, hg1⟩ := w0
  obtain ⟨h2, hl2, hg2⟩ := w1
  have hg1' : ∀ x ∈ l, x.text.size ≤ maxLen ∧ x.kn ≤ maxLen := fun x hx => by obtain ⟨k, hk⟩ := hg1 x hx; exact ⟨hk.2.2.2.1, hk.2.2.1⟩
  have hg2' : ∀ x ∈ more, x.text.size ≤ maxLen ∧ x.kn ≤ maxLen := fun x hx => by obtain ⟨k, hk⟩ := hg2 x hx; exact ⟨hk.2.2.2.1, hk.2.2.1⟩
  obtain ⟨keep, hr, hi⟩ := row_at w2
  cases hq1 : fewB l with
  | false => exact many1 a1 a2 ka c1 c2 kn kc l more w h1 hl1 hg1' hq1
  | true =>
    cases hq2 : fewB more with
    | false => exact many2 a1 a2 ka c1 c2 kn kc l more w h1 hl1 hg1' h2 hl2 hg2' hq1 (.inl hq2)
    | true =>
      by_cases hkn : 200 < (kn : Int)
      · exact many2 a1 a2 ka c1 c2 kn kc l more w h1 hl1 hg1' h2 hl2 hg2' hq1 (.inr hkn)
      · exact main a1 a2 ka c1 c2 kn kc l more keep w h1 hl1 hg1 h2 hl2 hg2 hq1 hq2 hkn hr hi
theorem own : ownKnob Try.prog.godebug = none := by kernel_rfl
theorem laidOut : laidOutB Try.prog = true := by kernel_rfl
set_option maxRecDepth 100000 in
theorem lifted (os : Os) (started : os.Started) (H : Type) (enc : TypeId × Value → H) :
    ReturnsInHanded {} Try.checked os 5 .any (Rows.diskFlushedSpec.pre6 enc Try.prog Try.f5 Rows.diskFlushedRow.domain false) (Rows.diskFlushedSpec.post enc Try.prog Try.f5 false true false false) := by
  refine returnsInHanded_of_change (C := Try.checked) own started (by kernel_rfl) Try.func5
    (ChangeSpec.witness6 (enc := enc) (C := Try.checked) false ⟨#[], #[.slice none 0 0, .slice none 0 0, .slice none 0 0], []⟩ 8 (by kernel_rfl) (by kernel_rfl) (by kernel_rfl) (by kernel_rfl)) ?_
  intro W base args ds gs before hval0 hW hcnd _
  have hval : ∀ (j : Nat) t v, Try.f5.params[j]? = some t → args[j]? = some v → Value.okWide Try.prog W .any base t v := hval0
  have hW' := hW
  obtain ⟨p, q, hA0, hV, rfl, hfz, hnd⟩ := hW
  have hA : DataW.TrodAll enc Try.prog W 0 (fun _ => true) true Try.f5.params.toList args.toList ds p := hA0
  rw [Try.params5] at hA hval
  obtain ⟨v0, vs0, d0, ds0, p0, q0, hargs, rfl, rfl, h0, r0⟩ := trodAll_cons hA
  obtain ⟨v1, vs1, d1, ds1, p1, q1, rfl, rfl, rfl, h1, r1⟩ := trodAll_cons r0
  obtain ⟨v2, vs2, d2, ds2, p2, q2, rfl, rfl, rfl, h2, r2⟩ := trodAll_cons r1
  obtain ⟨rfl, rfl, rfl⟩ := trodAll_nil r2
  obtain rfl : args = #[v0, v1, v2] := by cases args; simp_all
  obtain ⟨rfl, rfl⟩ := trodVars_none hV
  have k0 := h0
  have lt0 : ∀ x ∈ p0, x.block < W.heap.size := by obtain ⟨m, hm⟩ := k0; exact DataW.trod_lt m _ _ _ hm
  obtain ⟨b0, len0, ca0, rfl⟩ := okWide_slice Try.underlying22 (hval 0 22 v0 rfl rfl)
  obtain ⟨a0, cap0, z0, he0, w0⟩ := DkO.open_acts h0
  simp only [Value.cells, List.cons.injEq, Value.slice.injEq, and_true] at he0
  obtain ⟨rfl, rfl, rfl⟩ := he0
  have k1 := h1
  have lt1 : ∀ x ∈ p1, x.block < W.heap.size := by obtain ⟨m, hm⟩ := k1; exact DataW.trod_lt m _ _ _ hm
  obtain ⟨b1, len1, ca1, rfl⟩ := okWide_slice Try.underlying22 (hval 1 22 v1 rfl rfl)
  obtain ⟨a1, cap1, z1, he1, w1⟩ := DkO.open_acts h1
  simp only [Value.cells, List.cons.injEq, Value.slice.injEq, and_true] at he1
  obtain ⟨rfl, rfl, rfl⟩ := he1
  obtain ⟨a2, len2, cap2, rfl⟩ := okWide_slice Try.underlying31 (hval 2 31 v2 rfl rfl)
  have k2 := h2
  have lt2 : ∀ x ∈ p2, x.block < W.heap.size := by obtain ⟨m, hm⟩ := k2; exact DataW.trod_lt m _ _ _ hm
  obtain ⟨z2, w2⟩ : ∃ zs, IntsAt .i64 W a2 len2 cap2 zs := by
    obtain ⟨fuel, hf⟩ := h2
    rcases open_ints Try.underlying31 Try.underlying3 (by kernel_rfl) hf with ⟨hcs, _⟩ | ⟨x, l, c, zs, hcs, _, hl, hm, hz, _, hcell, hwz⟩
    · simp [Value.cells] at hcs
      obtain ⟨rfl, rfl, rfl⟩ := hcs
      exact ⟨[], .inl ⟨rfl, rfl, rfl, rfl⟩⟩
    · simp [Value.cells] at hcs
      obtain ⟨rfl, rfl, rfl⟩ := hcs
      exact ⟨zs, .inr ⟨_, rfl, hl, hm, by simpa using hz, hcell, hwz⟩⟩
  clear hA0 hval0
  refine (walk b0 ca0 z0 b1 ca1 z1 a2 len2 cap2 z2 W w0 w1 w2).mono fun e W' ⟨he, bel⟩ => ?_
  subst he
  exact ⟨_, rfl, _, _, _, [], _, [], hW', trodAll_mk1 (shut_bool Try.underlying4 _), (trodAll_cons_mk (Below.trod laidOut (by kernel_rfl) (of_decide_eq_true (by kernel_rfl)) k0 bel lt0) (trodAll_cons_mk (Below.trod laidOut (by kernel_rfl) (of_decide_eq_true (by kernel_rfl)) k1 bel lt1) (trodAll_cons_mk (Below.trod laidOut (by kernel_rfl) (of_decide_eq_true (by kernel_rfl)) k2 bel lt2) trodAll_mk0))), rfl, bel.frame _, fun h => by cases h⟩
theorem over : Rows.diskFlushedRow.holds Try.pinned (OpenSpec.ofChange Rows.diskFlushedSpec) :=
  OpenClaim.holds_of_wide 5 Try.f5 rfl rfl rfl rfl rfl rfl rfl ⟨rfl, rfl, rfl, rfl, rfl⟩ rfl rfl rfl rfl rfl (by kernel_rfl) Try.func5 (by kernel_rfl)
    (of_decide_eq_true (by kernel_rfl)) (by unfold Func.isWrapper; first | (rw [if_pos (by decide +kernel)]; kernel_rfl) | (rw [if_neg (by decide +kernel)]; exact ⟨rfl, rfl⟩))
    (fun os started H enc _ => lifted os started H enc)
/-- THE STATEMENT, proved. -/
theorem proved : Rows.DiskFlushedSaid := over
#print axioms proved
end Go.Proofs.Ytofpflkkbkodaaa.diskFlushed
