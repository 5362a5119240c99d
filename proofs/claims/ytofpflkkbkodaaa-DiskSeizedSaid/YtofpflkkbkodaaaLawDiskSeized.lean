/- DiskSeized: a disk that is made of what was seized shows what the seized one does, and goes on as it does; seizing turns nothing: any acts ahead, any behind (at most 60 each, of at most 20,000 bytes and numbers), any place; else the chapter's example alone. No condition but that the arguments are a Go program's (a text of at most 2^47 bytes). -/
import Derived.Test.YtofpflkkbkodaaaDkTw
import Derived.Test.YtofpflkkbkodaaaDkG
import Derived.Deep.RegionHeld3
import Derived.Test.YtofpflkkbkodaaaRows
import Derived.WalkKit
import Derived.ProofKit
import Derived.OpenShut
import Derived.ShutString
import Derived.ChangeOld
import Derived.Below
namespace Go.Proofs.Ytofpflkkbkodaaa.diskSeized
open Go.ChangeShapes Go.WideShapes Go.ChangeAt Go.RowKit
open Go.ChangeMaps (open_string shut_string)
set_option linter.unusedVariables false
open DkN DkM DkU DkL DkD DkP DkA DkV DkX DkTw DkE
theorem alive_ (w : World) : Calls Try.prog 9 #[] w fun e w' => e = .returned (.bool true) ∧ Below w.heap.size w w' := DkA.alive w
set_option maxRecDepth 100000 in
theorem many1 (a1 a2 : Option Addr) (c1 c2 : Nat) (l more : List RawAct) (at_ : Int) (w : World) (h1 : ActRow w a1 l) (hl1 : l.length ≤ maxLen) (hg1 : ∀ x ∈ l, x.text.size ≤ maxLen ∧ x.kn ≤ maxLen) (hq : fewB l = false) :
    Calls Try.prog 6 #[.slice a1 l.length c1, .slice a2 more.length c2, .int .i64 at_] w fun e w' => e = .returned (.bool true) ∧ Below w.heap.size w w' := by
  have HF := Lib.hid (DkL.Few a1 c1 l w h1 hl1 hg1)
  rw [hq] at HF
  clear h1 hl1 hg1 hq
  generalize l.length = m1 at *
  generalize more.length = m2 at *
  go_enter Try.func6, Try.ntmps6
  go_wp2_with fail
  refine (HF.out).mono ?_
  rintro e w1 ⟨rfl, hb1⟩
  have HB := Lib.hid hb1
  clear hb1
  go_wp2_with fail
  refine (alive_ _).mono ?_
  rintro e w2 ⟨rfl, hb2⟩
  have HB2 := Lib.hid (HB.out.trans (hb2.mono HB.out.size))
  clear hb2
  go_wp2
  go_ret
  exact ⟨rfl, HB2.out⟩
set_option maxRecDepth 100000 in
theorem many2 (a1 a2 : Option Addr) (c1 c2 : Nat) (l more : List RawAct) (at_ : Int) (w : World) (h1 : ActRow w a1 l) (hl1 : l.length ≤ maxLen) (hg1 : ∀ x ∈ l, x.text.size ≤ maxLen ∧ x.kn ≤ maxLen) (h2 : ActRow w a2 more) (hl2 : more.length ≤ maxLen) (hg2 : ∀ x ∈ more, x.text.size ≤ maxLen ∧ x.kn ≤ maxLen)
    (hq1 : fewB l = true) (hq : fewB more = false) :
    Calls Try.prog 6 #[.slice a1 l.length c1, .slice a2 more.length c2, .int .i64 at_] w fun e w' => e = .returned (.bool true) ∧ Below w.heap.size w w' := by
  have HF := Lib.hid (DkL.Few a1 c1 l w h1 hl1 hg1)
  have HG : Hid (∀ W, Below w.heap.size w W → Calls Try.prog 8 #[.slice a2 more.length c2] W fun e w' => e = .returned (.bool (fewB more)) ∧ Below W.heap.size W w') := Lib.hid fun W hW => DkL.Few a2 c2 more W (h2.below hW) hl2 hg2
  rw [hq1] at HF
  rw [hq] at HG
  clear h1 hl1 hg1 h2 hl2 hg2 hq1 hq
  generalize l.length = m1 at *
  generalize more.length = m2 at *
  go_enter Try.func6, Try.ntmps6
  go_wp2_with fail
  refine (HF.out).mono ?_
  rintro e w1 ⟨rfl, hb1⟩
  have HB := Lib.hid hb1
  clear hb1
  go_wp2_with fail
  refine (HG.out _ HB.out).mono ?_
  rintro e w2 ⟨rfl, hb2⟩
  have HB2 := Lib.hid (HB.out.trans (hb2.mono HB.out.size))
  clear hb2
  go_wp2_with fail
  refine (alive_ _).mono ?_
  rintro e w3 ⟨rfl, hb3⟩
  have HB3 := Lib.hid (HB2.out.trans (hb3.mono HB2.out.size))
  clear hb3
  go_wp2
  go_ret
  exact ⟨rfl, HB3.out⟩
/-- What does leaves of the disk, and of the act's own block. -/
def SoleA (w0 : World) (b : Nat) (bv : Value) (D' : Dk) (A : Nat) (cs : Array Value) (e : Ending) (w' : World) : Prop :=
  ∃ (x : Bool) (c : Value), e = .returned (.bool x) ∧ Solo false w0 w' b bv c D' ∧ w'.heap[A]? = some (.cells cs 33 (0, 0))
set_option maxRecDepth 100000 in
set_option maxHeartbeats 8000000 in
theorem main (a1 a2 : Option Addr) (c1 c2 : Nat) (l more : List RawAct) (at_ : Int) (w : World) (h1 : ActRow w a1 l) (hl1 : l.length ≤ maxLen) (hg1 : ∀ x ∈ l, ∃ keep, DkO.Good w x keep) (h2 : ActRow w a2 more) (hl2 : more.length ≤ maxLen) (hg2 : ∀ x ∈ more, ∃ keep, DkO.Good w x keep)
    (hq1 : fewB l = true) (hq2 : fewB more = true) :
    Calls Try.prog 6 #[.slice a1 l.length c1, .slice a2 more.length c2, .int .i64 at_] w fun e w' => e = .returned (.bool true) ∧ Below w.heap.size w w' := by
  have HF := Lib.hid (DkL.Few a1 c1 l w h1 hl1 (fun x hx => by obtain ⟨k, hk⟩ := hg1 x hx; exact ⟨hk.2.2.2.1, hk.2.2.1⟩))
  have HFG : Hid (∀ W, Below w.heap.size w W → Calls Try.prog 8 #[.slice a2 more.length c2] W fun e w' => e = .returned (.bool (fewB more)) ∧ Below W.heap.size W w') := Lib.hid fun W hW => DkL.Few a2 c2 more W (h2.below hW) hl2 (fun x hx => by obtain ⟨k, hk⟩ := hg2 x hx; exact ⟨hk.2.2.2.1, hk.2.2.1⟩)
  rw [hq1] at HF
  rw [hq2] at HFG
  have hl60 : l.length ≤ 60 := (of_decide_eq_true hq1).1
  have hm60 : more.length ≤ 60 := (of_decide_eq_true hq2).1
  obtain ⟨f, hf⟩ := pick hg1
  obtain ⟨f2, hf2⟩ := pick hg2
  have HG := Lib.hid hf
  have HG2 := Lib.hid hf2
  have HA := Lib.hid h1
  have HA2 := Lib.hid h2
  have HD := Lib.hid (fun W => DkNew.New_yes 9 W (by omega) (by omega))
  have HR := Lib.hid (fun W => DkRN.New_yes 9 W (by omega) (by omega))
  clear h1 hl1 hg1 h2 hl2 hg2 hq1 hq2 hf hf2
  obtain ⟨m, hm⟩ : ∃ m, l.length = m := ⟨_, rfl⟩
  rw [hm] at HF hl60 ⊢
  have HM := Lib.hid hm
  obtain ⟨m2, hm2⟩ : ∃ m, more.length = m := ⟨_, rfl⟩
  rw [hm2] at HFG hm60 ⊢
  have HM2 := Lib.hid hm2
  clear hm hm2
  go_enter Try.func6, Try.ntmps6
  go_wp2_with fail
  refine (HF.out).mono ?_
  rintro e w1 ⟨rfl, hb1⟩
  have HB := Lib.hid hb1
  clear hb1 HF
  go_wp2_with fail
  refine (HFG.out _ HB.out).mono ?_
  rintro e w1' ⟨rfl, hb1⟩
  have HB := Lib.hid (HB.out.trans (hb1.mono HB.out.size))
  clear hb1 HFG
  go_wp2_with fail
  refine (HD.out _).mono ?_
  rintro e w2 ⟨b, bv, cv, rfl, hd2, hb2, hf2⟩
  have HS := Lib.hid (Solo.mk hd2 (HB.out.trans (hb2.mono HB.out.size)) (fun k hk => Nat.le_trans HB.out.size (hf2 k hk)))
  clear hd2 hb2 hf2 HB HD
  go_wp2_with fail
  go_loopw [38] (fun i wr => ∃ j : Nat, j ≤ m ∧ i = .int .i64 j ∧ ∃ cv, Solo false w wr b bv cv (runD f (made 9) (l.take j))) (fun i _ => m - (intOf i).toNat)
  case atStart => exact ⟨0, Nat.zero_le _, rfl, _, HS.out⟩
  case round =>
    obtain ⟨j, hj, rfl, cv', hp⟩ := hrel
    have HPP := Lib.hid hp
    clear hp HS
    by_cases hlt : j < m
    · have hjl : j < l.length := by rw [HM.out]; exact hlt
      obtain ⟨g, o, rfl, hg, hcs⟩ := HA.out (by omega)
      have hcell : ∀ i v, l[j].cells[i]? = some v → wr.cell? ⟨g, o + j * 6 + i, none⟩ = some v := fun i v hv => (HPP.out.below.cell (p := ⟨g, o + j * 6 + i, none⟩) hg).trans (hcs j hjl i v hv)
      have HGo := Lib.hid (HG.out _ (List.getElem_mem hjl))
      have HXD := Lib.hid (runD_next f (made 9) l j hjl)
      generalize runD f (made 9) (l.take j) = Dj at *
      clear hcs
      generalize l[j] = x at *
      have hjm : (j : Int) < (m : Int) := by omega
      clear hjl
      have HDo : Hid (∀ (W : World) (rb : Nat) (rv ru : Value), Solo false w W b bv cv' Dj → Has true W rb rv ru (made 9) → (∀ k, Foot rb rv ru k → wr.heap.size + 1 ≤ k) → (∀ k, Foot b bv cv' k → k < wr.heap.size) → W.heap[wr.heap.size]? = some (.cells x.cells 33 (0, 0)) → Calls Try.prog 12 #[.pointer (some ⟨b, 0, none⟩), .pointer (some ⟨rb, 0, none⟩), .agg x.cells] W (SoleA w b bv (actD Dj (actOf x (f x))) wr.heap.size x.cells)) := Lib.hid fun W rb rv ru hW hr hrl hdl hA => by
        have hs0 := HPP.out.below.size
        refine (does_sole hW hr (fun k hk => by have := hrl k hk; omega) (fun k hd hr' => by have := hrl k hr'; have := hdl k hd; omega) x (f x) (HGo.out.1.keep hW.below.block) HGo.out.2.1 HGo.out.2.2.1 HGo.out.2.2.2.2.2.2.2).mono ?_
        rintro e w' ⟨q, c, rfl, hs, _, hk⟩
        refine ⟨q, c, rfl, hs, (hk.block _ (Array.getElem?_eq_some_iff.1 hA).1 (fun h => h.elim (fun h => by have := hdl _ h; omega) (fun h => by have := hrl _ h; omega))).trans hA⟩
      generalize actD Dj (actOf x (f x)) = Dn at *
      have HFt : Hid (∀ k, Foot b bv cv' k → k < wr.heap.size) := Lib.hid fun k hk => HPP.out.has.foot_lt k hk
      obtain ⟨kind, aat, nn, s, raw, ka, kn, kc⟩ := x
      have q0 : wr.cell? ⟨g, o + j * 6, none⟩ = some (.int .i64 kind) := hcell 0 _ rfl
      have q1 : wr.cell? ⟨g, o + j * 6 + 1, none⟩ = some (.int .i64 aat) := hcell 1 _ rfl
      have q2 : wr.cell? ⟨g, o + j * 6 + 2, none⟩ = some (.int .i64 nn) := hcell 2 _ rfl
      have q3 : wr.cell? ⟨g, o + j * 6 + 3, none⟩ = some (.string s) := hcell 3 _ rfl
      have q4 : wr.cell? ⟨g, o + j * 6 + 4, none⟩ = some (.bool raw) := hcell 4 _ rfl
      have q5 : wr.cell? ⟨g, o + j * 6 + 5, none⟩ = some (.slice ka kn kc) := hcell 5 _ rfl
      clear hcell
      simp only [RawAct.cells] at HDo
      have KK : Hid ((wr.alloc (.cells #[.int .i64 kind, .int .i64 aat, .int .i64 nn, .string s, .bool raw, .slice ka kn kc] 33)).drew.heap[wr.heap.size]? = some (.cells #[.int .i64 kind, .int .i64 aat, .int .i64 nn, .string s, .bool raw, .slice ka kn kc] 33 (0, 0))) := Lib.hid (heap_alloc_new wr _)
      have HS1 : Hid (Solo false w (wr.alloc (.cells #[.int .i64 kind, .int .i64 aat, .int .i64 nn, .string s, .bool raw, .slice ka kn kc] 33)).drew b bv cv' Dj) := Lib.hid (HPP.out.step (((Below.refl _ _).alloc (Nat.le_refl _) _).drew))
      have HZ1 : Hid ((wr.alloc (.cells #[.int .i64 kind, .int .i64 aat, .int .i64 nn, .string s, .bool raw, .slice ka kn kc] 33)).drew.heap.size = wr.heap.size + 1) := Lib.hid (by simp)
      obtain ⟨y0, y1, y2, y3, y4, y5⟩ := six_of KK.out
      go_wp2_with fail
      go_region_held3 (fun w' => w'.cell? ⟨wr.heap.size, 0, none⟩ = some (.int .i64 kind) ∧ w'.cell? ⟨wr.heap.size, 1, none⟩ = some (.int .i64 aat) ∧ w'.cell? ⟨wr.heap.size, 2, none⟩ = some (.int .i64 nn) ∧ w'.cell? ⟨wr.heap.size, 3, none⟩ = some (.string s) ∧ w'.cell? ⟨wr.heap.size, 4, none⟩ = some (.bool raw) ∧ w'.cell? ⟨wr.heap.size, 5, none⟩ = some (.slice ka kn kc))
        (first | exact hS | exact ⟨y0, y1, y2, y3, y4, y5⟩)
        (first
          | (go_at_call 11; refine (HR.out _).mono ?_; rintro e W3 ⟨rb, rv, ru, rfl, hr3, hb3, hf3⟩; replace KK := Lib.hid (below_block hb3 KK.out); replace HS1 := Lib.hid (HS1.out.step hb3); have HRR := Lib.hid hr3; have HRF := Lib.hid hf3; rw [HZ1.out] at HRF; have hS := six_of KK.out; clear hb3 hr3 hf3)
          | (go_at_call 12; refine (HDo.out _ rb rv ru HS1.out HRR.out HRF.out HFt.out KK.out).mono ?_; rintro e W4 ⟨x4, c4, rfl, h4, k4⟩; have HS4 := Lib.hid h4; have hS := six_of k4; clear h4 k4))
      clear hS y0 y1 y2 y3 y4 y5 q0 q1 q2 q3 q4 q5
      go_wp2
      go_roundw
      case rel => exact ⟨j + 1, by omega, by go_num, c4, by rw [HXD.out]; exact HS4.out⟩
      case measure => simp [intOf]; omega
    · clear HA HG HM hl60
      generalize runD f (made 9) (l.take j) = D at *
      go_wp2_with fail
      refine (DkC.Seize HPP.out.has).mono ?_
      rintro e w3 ⟨v, u, rfl, hv, hu, _, hb3⟩
      obtain ⟨nb, hnb⟩ : ∃ nb, D.bl.length = nb := ⟨_, rfl⟩
      obtain ⟨nc, hnc⟩ : ∃ nc, D.ca.length = nc := ⟨_, rfl⟩
      have HNB := Lib.hid hnb
      have HNC := Lib.hid hnc
      have HOk := Lib.hid HPP.out.has.ok
      rw [hnb] at hv
      rw [hnc] at hu
      clear hnb hnc
      obtain ⟨va, vc, rfl⟩ := DkDb.own_n hv
      obtain ⟨ua, uc, rfl⟩ := DkDb.own_n hu
      have HI3 : Hid (ImgAt w3 va ua D.bl D.ca) := Lib.hid ⟨own_strs hv, own_puts hu, by have := HOk.out.hi; omega, by have := HOk.out.few; omega⟩
      have hb4 : Below w3.heap.size w3 (w3.alloc (.cells #[.slice va nb vc, .slice ua nc uc] 39)) := (Below.refl _ _).alloc (Nat.le_refl _) _
      have HS4 := Lib.hid ((HPP.out.step hb3).step hb4)
      have HI4 := Lib.hid (HI3.out.below hb4)
      have HX4 := Lib.hid (heap_alloc_new w3 (.cells #[.slice va nb vc, .slice ua nc uc] 39))
      have HZ4 : Hid ((w3.alloc (.cells #[.slice va nb vc, .slice ua nc uc] 39)).heap.size = w3.heap.size + 1) := Lib.hid (by simp)
      clear hv hu hb3 hb4 HI3 HPP
      go_wp2_with fail
      generalize w3.alloc (.cells #[.slice va nb vc, .slice ua nc uc] 39) = W4 at *
      have hx0 : w3.heap.size < W4.heap.size := by rw [HZ4.out]; omega
      clear HZ4
      generalize w3.heap.size = X at *
      refine (DkC.Seize HS4.out.has).mono ?_
      rintro e w5 ⟨v, u, rfl, hv, hu, _, hb5⟩
      rw [HNB.out] at hv
      rw [HNC.out] at hu
      obtain ⟨ya, yc, rfl⟩ := DkDb.own_n hv
      obtain ⟨za, zc, rfl⟩ := DkDb.own_n hu
      have HJ5 : Hid (ImgAt w5 ya za D.bl D.ca) := Lib.hid ⟨own_strs hv, own_puts hu, by have := HOk.out.hi; omega, by have := HOk.out.few; omega⟩
      have hb6 : Below w5.heap.size w5 (w5.alloc (.cells #[.slice ya nb yc, .slice za nc zc] 39)) := (Below.refl _ _).alloc (Nat.le_refl _) _
      have HS6 := Lib.hid ((HS4.out.step hb5).step hb6)
      have HI6 := Lib.hid ((HI4.out.below hb5).below hb6)
      have HJ6 := Lib.hid (HJ5.out.below hb6)
      have hx5 : X < w5.heap.size := Nat.lt_of_lt_of_le hx0 hb5.size
      have HX6 := Lib.hid ((hb6.block X hx5).trans ((hb5.block X hx0).trans HX4.out))
      have HY6 := Lib.hid (heap_alloc_new w5 (.cells #[.slice ya nb yc, .slice za nc zc] 39))
      have HZ6 : Hid ((w5.alloc (.cells #[.slice ya nb yc, .slice za nc zc] 39)).heap.size = w5.heap.size + 1) := Lib.hid (by simp)
      clear hv hu hb5 hb6 HJ5 HS4 HI4 HX4 hx0
      have HL := Lib.hid (DkX.Load_yes vc uc va ua D.bl (castPuts D.ca) (w5.alloc (.cells #[.slice ya nb yc, .slice za nc zc] 39)) HI6.out.strs (raw_of HI6.out.puts) (may_of HOk.out))
      rw [castPuts_length, HNB.out, HNC.out, held_of] at HL
      have HSm : Hid (∀ W, Below (w5.alloc (.cells #[.slice ya nb yc, .slice za nc zc] 39)).heap.size (w5.alloc (.cells #[.slice ya nb yc, .slice za nc zc] 39)) W → Calls Try.prog 17 #[.agg #[.slice va nb vc, .slice ua nc uc], .agg #[.slice ya nb yc, .slice za nc zc]] W fun e w' => e = .returned (.bool true) ∧ Below W.heap.size W w') := Lib.hid fun W hW => by
        have := DkE.Same va ya ua za vc yc uc zc D.bl D.bl D.ca D.ca W (HI6.out.below hW) (HJ6.out.below hW)
        rw [HNB.out, HNC.out, decide_eq_true ⟨rfl, rfl⟩] at this
        exact this
      have x0 : (w5.alloc (.cells #[.slice ya nb yc, .slice za nc zc] 39)).cell? ⟨X, 0, none⟩ = some (.slice va nb vc) := blk_cell HX6.out rfl
      have x1 : (w5.alloc (.cells #[.slice ya nb yc, .slice za nc zc] 39)).cell? ⟨X, 1, none⟩ = some (.slice ua nc uc) := blk_cell HX6.out rfl
      go_wp2_with fail
      refine (HL.out).mono ?_
      rintro e w7 ⟨b', bv', ce, rfl, hF7⟩
      obtain ⟨he7, hb7, hf7⟩ := hF7
      have HU7 : Hid (Duo w w7 b bv cv' b' bv' ce D { bl := D.bl, ca := D.ca, armed := 0, down := false }) := Lib.hid (by
        have s6 := HS6.out.below.size
        refine ⟨HS6.out.step hb7, ⟨he7, HS6.out.below.trans (hb7.mono s6), fun k hk => Nat.le_trans s6 (hf7 k hk)⟩, fun k hd he => ?_⟩
        have := HS6.out.has.foot_lt k hd
        have := hf7 k he
        omega)
      have HB7 := Lib.hid hb7
      have y0 : w7.cell? ⟨X, 0, none⟩ = some (.slice va nb vc) := blk_cell ((hb7.block X (by rw [HZ6.out]; omega)).trans HX6.out) rfl
      have y1 : w7.cell? ⟨X, 1, none⟩ = some (.slice ua nc uc) := blk_cell ((hb7.block X (by rw [HZ6.out]; omega)).trans HX6.out) rfl
      have y2 : w7.cell? ⟨w5.heap.size, 0, none⟩ = some (.slice ya nb yc) := blk_cell ((hb7.block w5.heap.size (by rw [HZ6.out]; omega)).trans HY6.out) rfl
      have y3 : w7.cell? ⟨w5.heap.size, 1, none⟩ = some (.slice za nc zc) := blk_cell ((hb7.block w5.heap.size (by rw [HZ6.out]; omega)).trans HY6.out) rfl
      clear he7 hb7 hf7 x0 x1 HL
      go_wp2_with fail
      refine (HSm.out _ HB7.out).mono ?_
      rintro e w8 ⟨rfl, hb8⟩
      have HU8 := Lib.hid (HU7.out.step hb8)
      clear hb8 y0 y1 y2 y3 HSm HB7 HU7 HX6 HY6 HZ6 HS6 HI6 HJ6 HNB HNC hx5
      go_wp2_with fail
      refine (DkQ.Down HU8.out.d.has).mono ?_
      rintro e _ ⟨rfl, rfl⟩
      have HRd := Lib.hid (fun h => rd_of D at_ h)
      rw [held_of] at HRd
      by_cases hdn : D.down = false
      case' pos =>
        have HRd' := Lib.hid (HRd.out hdn)
        rw [hdn]
        clear HRd hdn
        go_wp2_with fail
        refine (DkI.Read HU8.out.d.has at_).mono ?_
        rintro e w9 ⟨rfl, hb9⟩
        replace HU8 := Lib.hid (HU8.out.step hb9)
        clear hb9
        generalize hq : D.rd at_ = rr at *
        clear hq
        go_wp2_with fail
        refine (DkI.Read HU8.out.e.has at_).mono ?_
        rintro e w10 ⟨rfl, hb10⟩
        replace HU8 := Lib.hid (HU8.out.step hb10)
        rw [HRd'.out]
        clear hb10 HRd'
        obtain ⟨rs, rn⟩ := rr
        go_wp2_with fail
      case' neg =>
        rw [show D.down = true by simpa using hdn]
        clear HRd hdn
        go_wp2_with fail
      all_goals
        refine (DkF.Crash HU8.out.d.has none 0 0 [] ⟨rfl, fun h => absurd h (Nat.lt_irrefl 0)⟩ (fun x hx => by cases hx) (Nat.zero_le _)).mono ?_
        rintro e w11 ⟨rfl, hd11⟩
        obtain ⟨c11, u11⟩ := HU8.out.did hd11
        have HU11 := Lib.hid u11
        clear hd11 u11 HU8
        go_wp2_with fail
        refine (DkF.Crash HU11.out.e.has none 0 0 [] ⟨rfl, fun h => absurd h (Nat.lt_irrefl 0)⟩ (fun x hx => by cases hx) (Nat.zero_le _)).mono ?_
        rintro e w12 ⟨rfl, hd12⟩
        obtain ⟨c12, u12⟩ := HU11.out.did' hd12
        have HU12 := Lib.hid u12
        clear hd12 u12 HU11
        go_wp2_with fail
        refine (DkB.Boot HU12.out.d.has).mono ?_
        rintro e w13 ⟨rfl, hd13⟩
        obtain ⟨c13, u13⟩ := HU12.out.did hd13
        have HU13 := Lib.hid u13
        clear hd13 u13 HU12
        go_wp2_with fail
        refine (DkB.Boot HU13.out.e.has).mono ?_
        rintro e w14 ⟨rfl, hd14⟩
        obtain ⟨c14, u14⟩ := HU13.out.did' hd14
        rw [crash_none, crash_none] at u14
        have HU14 := Lib.hid u14
        clear hd14 u14 HU13
        generalize ({ bl := D.bl, ca := [], armed := 0, down := false } : Dk) = D0 at *
        go_wp2_with fail
        go_loopw [96] (fun i wr => ∃ j : Nat, j ≤ m2 ∧ i = .int .i64 j ∧ ∃ cv ce, Duo w wr b bv cv b' bv' ce (runD f2 D0 (more.take j)) (runD f2 D0 (more.take j))) (fun i _ => m2 - (intOf i).toNat)
        case atStart => exact ⟨0, Nat.zero_le _, rfl, _, _, HU14.out⟩
        case round =>
          obtain ⟨j, hj, rfl, cv', ce', hu⟩ := hrel
          have HU := Lib.hid hu
          clear hu HU14
          by_cases hlt : j < m2
          · have hjl : j < more.length := by rw [HM2.out]; exact hlt
            obtain ⟨g, o, rfl, hg, hcs⟩ := HA2.out (by omega)
            have hcell : ∀ i v, more[j].cells[i]? = some v → wr.cell? ⟨g, o + j * 6 + i, none⟩ = some v := fun i v hv => (HU.out.d.below.cell (p := ⟨g, o + j * 6 + i, none⟩) hg).trans (hcs j hjl i v hv)
            have HGo := Lib.hid (HG2.out _ (List.getElem_mem hjl))
            have HXD := Lib.hid (runD_next f2 D0 more j hjl)
            generalize runD f2 D0 (more.take j) = Dj at *
            clear hcs
            generalize more[j] = x at *
            have hjm : (j : Int) < (m2 : Int) := by omega
            clear hjl
            have HDo : Hid (∀ (W : World) (b : Nat) (bv : Value) (b' : Nat) (bv' : Value) (cd ce : Value) (D E : Dk) (rb : Nat) (rv ru : Value), Duo w W b bv cd b' bv' ce D E → Has true W rb rv ru (made 9) → (∀ k, Foot rb rv ru k → w.heap.size ≤ k) → (∀ k, Foot b bv cd k → ¬ Foot rb rv ru k) → (∀ k, Foot b' bv' ce k → ¬ Foot rb rv ru k) → Calls Try.prog 12 #[.pointer (some ⟨b, 0, none⟩), .pointer (some ⟨rb, 0, none⟩), .agg x.cells] W (DuoD w W b bv cd rb rv ru b' bv' ce (actD D (actOf x (f2 x))) E)) := Lib.hid fun W b bv b' bv' cd ce D E rb rv ru hW hr hrl h1 h2 =>
              hW.doesD hr hrl h1 h2 x (f2 x) (HGo.out.1.keep hW.d.below.block) HGo.out.2.1 HGo.out.2.2.1 HGo.out.2.2.2.2.2.2.2
            generalize actOf x (f2 x) = ax at *
            obtain ⟨kind, aat, nn, s, raw, ka, kn, kc⟩ := x
            have q0 : wr.cell? ⟨g, o + j * 6, none⟩ = some (.int .i64 kind) := hcell 0 _ rfl
            have q1 : wr.cell? ⟨g, o + j * 6 + 1, none⟩ = some (.int .i64 aat) := hcell 1 _ rfl
            have q2 : wr.cell? ⟨g, o + j * 6 + 2, none⟩ = some (.int .i64 nn) := hcell 2 _ rfl
            have q3 : wr.cell? ⟨g, o + j * 6 + 3, none⟩ = some (.string s) := hcell 3 _ rfl
            have q4 : wr.cell? ⟨g, o + j * 6 + 4, none⟩ = some (.bool raw) := hcell 4 _ rfl
            have q5 : wr.cell? ⟨g, o + j * 6 + 5, none⟩ = some (.slice ka kn kc) := hcell 5 _ rfl
            clear hcell
            simp only [RawAct.cells] at HDo
            have KK : Hid ((wr.alloc (.cells #[.int .i64 kind, .int .i64 aat, .int .i64 nn, .string s, .bool raw, .slice ka kn kc] 33)).heap[wr.heap.size]? = some (.cells #[.int .i64 kind, .int .i64 aat, .int .i64 nn, .string s, .bool raw, .slice ka kn kc] 33 (0, 0))) := Lib.hid (heap_alloc_new wr _)
            have hsw := HU.out.d.below.size
            replace HU := Lib.hid (HU.out.step ((Below.refl _ _).alloc (Nat.le_refl _) (.cells #[.int .i64 kind, .int .i64 aat, .int .i64 nn, .string s, .bool raw, .slice ka kn kc] 33)))
            have HFd : Hid (∀ k, Foot b bv cv' k ∨ Foot b' bv' ce' k → k < wr.heap.size + 1 ∧ k ≠ wr.heap.size) := Lib.hid fun k hk => by
              refine ⟨by have := hk.elim (HU.out.d.has.foot_lt k) (HU.out.e.has.foot_lt k); simpa using this, fun e => ?_⟩
              subst e
              exact hk.elim (fun h => DkD.not_foot HU.out.d.has KK.out h) (fun h => DkD.not_foot HU.out.e.has KK.out h)
            have HZ1 : Hid ((wr.alloc (.cells #[.int .i64 kind, .int .i64 aat, .int .i64 nn, .string s, .bool raw, .slice ka kn kc] 33)).heap.size = wr.heap.size + 1) := Lib.hid (by simp)
            go_wp2_with fail
            refine (HR.out _).mono ?_
            rintro e w20 ⟨rb, rv, ru, rfl, hr20, hb20, hf20⟩
            rw [HZ1.out] at hf20
            replace KK := Lib.hid (below_block hb20 KK.out)
            replace HU := Lib.hid (HU.out.step hb20)
            have HRr := Lib.hid hr20
            have HRf := Lib.hid hf20
            have hs20 : wr.heap.size + 1 ≤ w20.heap.size := by have := hb20.size; rwa [HZ1.out] at this
            clear hr20 hf20 hb20 HZ1 q0 q1 q2 q3 q4 q5
            go_wp2_with fail
            refine (HR.out _).mono ?_
            rintro e w21 ⟨qb, qv, qu, rfl, hr21, hb21, hf21⟩
            replace KK := Lib.hid (below_block hb21 KK.out)
            replace HU := Lib.hid (HU.out.step hb21)
            have HRl : Hid (∀ k, Foot rb rv ru k → k < w20.heap.size) := Lib.hid fun k hk => HRr.out.foot_lt k hk
            replace HRr := Lib.hid (HRr.out.step hb21)
            have HQr := Lib.hid hr21
            have HQf := Lib.hid hf21
            clear hr21 hf21 hb21
            have y0 : w21.cell? ⟨wr.heap.size, 0, none⟩ = some (.int .i64 kind) := blk_cell KK.out rfl
            have y1 : w21.cell? ⟨wr.heap.size, 1, none⟩ = some (.int .i64 aat) := blk_cell KK.out rfl
            have y2 : w21.cell? ⟨wr.heap.size, 2, none⟩ = some (.int .i64 nn) := blk_cell KK.out rfl
            have y3 : w21.cell? ⟨wr.heap.size, 3, none⟩ = some (.string s) := blk_cell KK.out rfl
            have y4 : w21.cell? ⟨wr.heap.size, 4, none⟩ = some (.bool raw) := blk_cell KK.out rfl
            have y5 : w21.cell? ⟨wr.heap.size, 5, none⟩ = some (.slice ka kn kc) := blk_cell KK.out rfl
            go_wp2_with fail
            refine (HDo.out _ _ _ _ _ _ _ _ _ _ _ _ HU.out HRr.out (fun k hk => by have := HRf.out k hk; omega) (fun k hd hk => by have := HRf.out k hk; have := HFd.out k (.inl hd); omega) (fun k hd hk => by have := HRf.out k hk; have := HFd.out k (.inr hd); omega)).mono ?_
            rintro e w22 ⟨x22, c22, rfl, u22, n22, k22⟩
            have HK22 := Lib.hid ((k22.block _ (Array.getElem?_eq_some_iff.1 KK.out).1 (fun h => h.elim (fun h => (HFd.out _ (.inl h)).2 rfl) (fun h => by have := HRf.out _ h; omega))).trans KK.out)
            have HQ22 := Lib.hid (HQr.out.kept fun k hk => k22.block k (HQr.out.foot_lt k hk) (fun h => h.elim (fun h => by have := HQf.out k hk; have := (HFd.out k (.inl h)).1; omega) (fun h => by have := HQf.out k hk; have := HRl.out k h; omega)))
            have HFc : Hid (∀ k, Foot b bv c22 k → ¬ Foot qb qv qu k) := Lib.hid fun k hk hq => by
              have h1 := HQf.out k hq
              have h2 := HQr.out.foot_lt k hq
              rcases hk with rfl | hk | hk
              · have := (HFd.out _ (.inl (.inl rfl))).1; omega
              · have := (HFd.out k (.inl (.inr (.inl hk)))).1; omega
              · rcases n22 k hk with h' | h'
                · have := (HFd.out k (.inl (.inr (.inr h')))).1; omega
                · omega
            have HU22 := Lib.hid u22
            clear u22 n22 k22 y0 y1 y2 y3 y4 y5 KK HQr HU HRr HRl HRf
            have y0 : w22.cell? ⟨wr.heap.size, 0, none⟩ = some (.int .i64 kind) := blk_cell HK22.out rfl
            have y1 : w22.cell? ⟨wr.heap.size, 1, none⟩ = some (.int .i64 aat) := blk_cell HK22.out rfl
            have y2 : w22.cell? ⟨wr.heap.size, 2, none⟩ = some (.int .i64 nn) := blk_cell HK22.out rfl
            have y3 : w22.cell? ⟨wr.heap.size, 3, none⟩ = some (.string s) := blk_cell HK22.out rfl
            have y4 : w22.cell? ⟨wr.heap.size, 4, none⟩ = some (.bool raw) := blk_cell HK22.out rfl
            have y5 : w22.cell? ⟨wr.heap.size, 5, none⟩ = some (.slice ka kn kc) := blk_cell HK22.out rfl
            go_wp2_with fail
            refine (HDo.out _ _ _ _ _ _ _ _ _ _ _ _ HU22.out.swap HQ22.out (fun k hk => by have := HQf.out k hk; omega) (fun k hd hk => by have := HQf.out k hk; have := HFd.out k (.inr hd); omega) HFc.out).mono ?_
            rintro e w23 ⟨x23, c23, rfl, u23, _, _⟩
            have HU23 := Lib.hid u23
            clear u23 y0 y1 y2 y3 y4 y5 HU22 HQ22
            go_wp2
            go_roundw
            case rel => exact ⟨j + 1, by omega, by go_num, c22, c23, by rw [HXD.out]; exact HU23.out.swap⟩
            case measure => simp [intOf]; omega
          · generalize runD f2 D0 (more.take j) = Dz at *
            go_wp2_with fail
            refine (DkC.Seize HU.out.d.has).mono ?_
            rintro e w30 ⟨v, u, rfl, hv, hu, _, hb30⟩
            obtain ⟨zb, hzb⟩ : ∃ zb, Dz.bl.length = zb := ⟨_, rfl⟩
            obtain ⟨zd, hzd⟩ : ∃ zd, Dz.ca.length = zd := ⟨_, rfl⟩
            have HOz := Lib.hid HU.out.d.has.ok
            rw [hzb] at hv
            rw [hzd] at hu
            have HZB := Lib.hid hzb
            have HZD := Lib.hid hzd
            clear hzb hzd
            obtain ⟨ga, gc, rfl⟩ := DkDb.own_n hv
            obtain ⟨ha, hc, rfl⟩ := DkDb.own_n hu
            have HI30 : Hid (ImgAt w30 ga ha Dz.bl Dz.ca) := Lib.hid ⟨own_strs hv, own_puts hu, by have := HOz.out.hi; omega, by have := HOz.out.few; omega⟩
            have HU30 := Lib.hid (HU.out.step hb30)
            clear hv hu hb30 HU
            go_wp2_with fail
            refine (DkC.Seize HU30.out.e.has).mono ?_
            rintro e w31 ⟨v, u, rfl, hv, hu, _, hb31⟩
            rw [HZB.out] at hv
            rw [HZD.out] at hu
            obtain ⟨ga', gc', rfl⟩ := DkDb.own_n hv
            obtain ⟨ha', hc', rfl⟩ := DkDb.own_n hu
            have hS := DkE.Same ga ga' ha ha' gc gc' hc hc' Dz.bl Dz.bl Dz.ca Dz.ca w31 (HI30.out.below hb31) ⟨own_strs hv, own_puts hu, by have := HOz.out.hi; omega, by have := HOz.out.few; omega⟩
            rw [HZB.out, HZD.out, decide_eq_true ⟨rfl, rfl⟩] at hS
            have HSa := Lib.hid hS
            have HU31 := Lib.hid (HU30.out.step hb31)
            clear hv hu hb31 hS HU30 HI30
            go_wp2_with fail
            refine (HSa.out).mono ?_
            rintro e w32 ⟨rfl, hb32⟩
            have HU32 := Lib.hid (HU31.out.step hb32)
            clear hb32 HSa HU31
            generalize hdz : Dz.down = dz at *
            have HDz := Lib.hid hdz
            clear hdz
            go_wp2_with fail
            refine (DkQ.Down HU32.out.d.has).mono ?_
            rintro e _ ⟨rfl, rfl⟩
            rw [HDz.out]
            go_wp2_with fail
            refine (DkQ.Down HU32.out.e.has).mono ?_
            rintro e _ ⟨rfl, rfl⟩
            rw [HDz.out]
            go_wp2_with fail
            refine (alive_ _).mono ?_
            rintro e w33 ⟨rfl, hb33⟩
            have HB33 := Lib.hid (HU32.out.d.below.trans (hb33.mono HU32.out.d.below.size))
            clear hb33
            go_wp2
            go_ret
            exact ⟨rfl, HB33.out⟩
theorem walk (a1 : Option Addr) (c1 : Nat) (l : List RawAct) (a2 : Option Addr) (c2 : Nat) (more : List RawAct) (at_ : Int) (w : World) (w0 : ActRow w a1 l ∧ l.length ≤ maxLen ∧ ∀ x ∈ l, ∃ keep, DkO.Good w x keep) (w1 : ActRow w a2 more ∧ more.length ≤ maxLen ∧ ∀ x ∈ more, ∃ keep, DkO.Good w x keep) (w2 : (Lit.int .i64 at_).wf = true) :
    Calls Try.prog 6 #[.slice a1 l.length c1, .slice a2 more.length c2, .int .i64 at_] w fun e w' => e = .returned (.bool true) ∧ Below w.heap.size w w' := by
  obtain ⟨h, hl, hg⟩ := w0
  obtain ⟨h', hl', hg'⟩ := w1
  have hgg : ∀ x ∈ l, x.text.size ≤ maxLen ∧ x.kn ≤ maxLen := fun x hx => by obtain ⟨k, hk⟩ := hg x hx; exact ⟨hk.2.2.2.1, hk.2.2.1⟩
  have hgg' : ∀ x ∈ more, x.text.size ≤ maxLen ∧ x.kn ≤ maxLen := fun x hx => by obtain ⟨k, hk⟩ := hg' x hx; exact ⟨hk.2.2.2.1, hk.2.2.1⟩
  cases hq1 : fewB l with
  | false => exact many1 a1 a2 c1 c2 l more at_ w h hl hgg hq1
  | true =>
    cases hq2 : fewB more with
    | false => exact many2 a1 a2 c1 c2 l more at_ w h hl hgg h' hl' hgg' hq1 hq2
    | true => exact main a1 a2 c1 c2 l more at_ w h hl hg h' hl' hg' hq1 hq2
theorem own : ownKnob Try.prog.godebug = none := by kernel_rfl
theorem laidOut : laidOutB Try.prog = true := by kernel_rfl
set_option maxRecDepth 100000 in
theorem lifted (os : Os) (started : os.Started) (H : Type) (enc : TypeId × Value → H) :
    ReturnsInHanded {} Try.checked os 6 .any (Rows.diskSeizedSpec.pre6 enc Try.prog Try.f6 Rows.diskSeizedRow.domain false) (Rows.diskSeizedSpec.post enc Try.prog Try.f6 false true false false) := by
  refine returnsInHanded_of_change (C := Try.checked) own started (by kernel_rfl) Try.func6
    (ChangeSpec.witness6 (enc := enc) (C := Try.checked) false ⟨#[], #[.slice none 0 0, .slice none 0 0, .int .i64 0], []⟩ 8 (by kernel_rfl) (by kernel_rfl) (by kernel_rfl) (by kernel_rfl)) ?_
  intro W base args ds gs before hval0 hW hcnd _
  have hval : ∀ (j : Nat) t v, Try.f6.params[j]? = some t → args[j]? = some v → Value.okWide Try.prog W .any base t v := hval0
  have hW' := hW
  obtain ⟨p, q, hA0, hV, rfl, hfz, hnd⟩ := hW
  have hA : DataW.TrodAll enc Try.prog W 0 (fun _ => true) true Try.f6.params.toList args.toList ds p := hA0
  rw [Try.params6] at hA hval
  obtain ⟨v0, vs0, d0, ds0, p0, q0, hargs, rfl, rfl, h0, r0⟩ := trodAll_cons hA
  obtain ⟨v1, vs1, d1, ds1, p1, q1, rfl, rfl, rfl, h1, r1⟩ := trodAll_cons r0
  obtain ⟨v2, vs2, d2, ds2, p2, q2, rfl, rfl, rfl, h2, r2⟩ := trodAll_cons r1
  obtain ⟨rfl, rfl, rfl⟩ := trodAll_nil r2
  obtain rfl : args = #[v0, v1, v2] := by cases args; simp_all
  obtain ⟨rfl, rfl⟩ := trodVars_none hV
  have k0 := h0
  have lt0 : ∀ x ∈ p0, x.block < W.heap.size := by obtain ⟨m, hm⟩ := k0; exact DataW.trod_lt m _ _ _ hm
  obtain ⟨b0, len0, ca0, rfl⟩ := okWide_slice Try.underlying22 (hval 0 22 v0 rfl rfl)
  obtain ⟨a0, cap0, z0, he0, w0⟩ := DkO.open_acts h0
  simp only [Value.cells, List.cons.injEq, Value.slice.injEq, and_true] at he0
  obtain ⟨rfl, rfl, rfl⟩ := he0
  have k1 := h1
  have lt1 : ∀ x ∈ p1, x.block < W.heap.size := by obtain ⟨m, hm⟩ := k1; exact DataW.trod_lt m _ _ _ hm
  obtain ⟨b1, len1, ca1, rfl⟩ := okWide_slice Try.underlying22 (hval 1 22 v1 rfl rfl)
  obtain ⟨a1, cap1, z1, he1, w1⟩ := DkO.open_acts h1
  simp only [Value.cells, List.cons.injEq, Value.slice.injEq, and_true] at he1
  obtain ⟨rfl, rfl, rfl⟩ := he1
  obtain ⟨a2, rfl, rfl, rfl, w2⟩ := open_int Try.underlying3 (hval 2 3 v2 rfl rfl) h2
  clear hA0 hval0
  refine (walk b0 ca0 z0 b1 ca1 z1 a2 W w0 w1 w2).mono fun e W' ⟨he, bel⟩ => ?_
  subst he
  exact ⟨_, rfl, _, _, _, [], _, [], hW', trodAll_mk1 (shut_bool Try.underlying4 _), (trodAll_cons_mk (Below.trod laidOut (by kernel_rfl) (of_decide_eq_true (by kernel_rfl)) k0 bel lt0) (trodAll_cons_mk (Below.trod laidOut (by kernel_rfl) (of_decide_eq_true (by kernel_rfl)) k1 bel lt1) (trodAll_cons_mk (shut_int Try.underlying3 w2) trodAll_mk0))), rfl, bel.frame _, fun h => by cases h⟩
theorem over : Rows.diskSeizedRow.holds Try.pinned (OpenSpec.ofChange Rows.diskSeizedSpec) :=
  OpenClaim.holds_of_wide 6 Try.f6 rfl rfl rfl rfl rfl rfl rfl ⟨rfl, rfl, rfl, rfl, rfl⟩ rfl rfl rfl rfl rfl (by kernel_rfl) Try.func6 (by kernel_rfl)
    (of_decide_eq_true (by kernel_rfl)) (by unfold Func.isWrapper; first | (rw [if_pos (by decide +kernel)]; kernel_rfl) | (rw [if_neg (by decide +kernel)]; exact ⟨rfl, rfl⟩))
    (fun os started H enc _ => lifted os started H enc)
/-- THE STATEMENT, proved. -/
theorem proved : Rows.DiskSeizedSaid := over
#print axioms proved
end Go.Proofs.Ytofpflkkbkodaaa.diskSeized
