/- DiskPlays: whatever is done with a disk of up to 60 blocks (or such as may not be), at most 60 acts of at most 20,000 bytes and numbers, all is answered as the document says; else the chapter's example alone. No condition but that the arguments are a Go program's (a text of at most 2^47 bytes). -/
import Derived.Test.YtofpflkkbkodaaaDkP
import Derived.Test.YtofpflkkbkodaaaRows
import Derived.WalkKit
import Derived.ProofKit
import Derived.OpenShut
import Derived.ShutString
import Derived.ChangeOld
import Derived.Below
namespace Go.Proofs.Ytofpflkkbkodaaa.diskPlays
open Go.ChangeShapes Go.WideShapes Go.ChangeAt Go.RowKit
open Go.ChangeMaps (open_string shut_string)
set_option linter.unusedVariables false
open DkN DkM DkU DkL DkD DkP
theorem alive_ (w : World) : Calls Try.prog 9 #[] w fun e w' => e = .returned (.bool true) ∧ Below w.heap.size w w' := DkA.alive w
set_option maxRecDepth 100000 in
theorem mid (n : Int) (a : Option Addr) (c : Nat) (l : List RawAct) (w : World) (h1 : 60 < n) (h2 : n ≤ 1024) :
    Calls Try.prog 3 #[.int .i64 n, .slice a l.length c] w fun e w' => e = .returned (.bool true) ∧ Below w.heap.size w w' := by
  generalize l.length = m
  go_enter Try.func3, Try.ntmps3
  go_wp2_with fail
  refine (alive_ _).mono ?_
  rintro e w1 ⟨rfl, hb1⟩
  go_wp2
  go_ret
  exact ⟨rfl, hb1⟩
set_option maxRecDepth 100000 in
theorem many (n : Int) (a : Option Addr) (c : Nat) (l : List RawAct) (w : World) (hn : ¬ 60 < n ∨ ¬ n ≤ 1024) (h : ActRow w a l) (hl : l.length ≤ maxLen) (hg : ∀ x ∈ l, x.text.size ≤ maxLen ∧ x.kn ≤ maxLen) (hq : fewB l = false) :
    Calls Try.prog 3 #[.int .i64 n, .slice a l.length c] w fun e w' => e = .returned (.bool true) ∧ Below w.heap.size w w' := by
  have HF := Lib.hid (DkL.Few a c l w h hl hg)
  rw [hq] at HF
  clear h hl hg hq
  generalize l.length = m at *
  by_cases h0 : 60 < n
  · have h1 := hn.resolve_left (fun x => x h0)
    clear hn
    go_enter Try.func3, Try.ntmps3
    go_wp2_with fail
    refine (HF.out).mono ?_
    rintro e w1 ⟨rfl, hb1⟩
    have HB := Lib.hid hb1
    clear hb1
    go_wp2_with fail
    refine (alive_ _).mono ?_
    rintro e w2 ⟨rfl, hb2⟩
    have HB2 := Lib.hid (HB.out.trans (hb2.mono HB.out.size))
    clear hb2
    go_wp2
    go_ret
    exact ⟨rfl, HB2.out⟩
  · clear hn
    go_enter Try.func3, Try.ntmps3
    go_wp2_with fail
    refine (HF.out).mono ?_
    rintro e w1 ⟨rfl, hb1⟩
    have HB := Lib.hid hb1
    clear hb1
    go_wp2_with fail
    refine (alive_ _).mono ?_
    rintro e w2 ⟨rfl, hb2⟩
    have HB2 := Lib.hid (HB.out.trans (hb2.mono HB.out.size))
    clear hb2
    go_wp2
    go_ret
    exact ⟨rfl, HB2.out⟩
set_option maxRecDepth 100000 in
set_option maxHeartbeats 1000000 in
theorem none_ (n : Int) (a : Option Addr) (c : Nat) (l : List RawAct) (w : World) (hn : n < 8 ∨ 1024 < n) (h : ActRow w a l) (hl : l.length ≤ maxLen) (hg : ∀ x ∈ l, x.text.size ≤ maxLen ∧ x.kn ≤ maxLen) (hq : fewB l = true) :
    Calls Try.prog 3 #[.int .i64 n, .slice a l.length c] w fun e w' => e = .returned (.bool true) ∧ Below w.heap.size w w' := by
  have HF := Lib.hid (DkL.Few a c l w h hl hg)
  rw [hq] at HF
  have HD := Lib.hid (fun W => DkNew.New_no n W hn)
  have HR := Lib.hid (fun W => DkRN.New_no n W hn)
  clear h hl hg hq
  generalize l.length = m at *
  by_cases h0 : 60 < n
  all_goals
    first
      | have h1 : ¬ n ≤ 1024 := by omega
      | skip
    clear hn
    go_enter Try.func3, Try.ntmps3
    go_wp2_with fail
    refine (HF.out).mono ?_
    rintro e w1 ⟨rfl, hb1⟩
    have HB := Lib.hid hb1
    clear hb1
    go_wp2_with fail
    refine (HD.out _).mono ?_
    rintro e _ ⟨rfl, rfl⟩
    go_wp2_with fail
    refine (HR.out _).mono ?_
    rintro e _ ⟨rfl, rfl⟩
    go_wp2_with fail
    refine (alive_ _).mono ?_
    rintro e w2 ⟨rfl, hb2⟩
    have HB2 := Lib.hid (HB.out.trans (hb2.mono HB.out.size))
    clear hb2
    go_wp2
    go_ret
    exact ⟨rfl, HB2.out⟩
/-- The final act: seized. -/
def last8 : RawAct := ⟨8, 0, 0, ⟨#[]⟩, false, none, 0, 0⟩
set_option maxRecDepth 100000 in
set_option maxHeartbeats 4000000 in
theorem some_ (n : Nat) (a : Option Addr) (c : Nat) (l : List RawAct) (w : World) (h8 : 8 ≤ n) (h60 : n ≤ 60) (h : ActRow w a l) (hl : l.length ≤ maxLen) (hg : ∀ x ∈ l, ∃ keep, DkO.Good w x keep) (hq : fewB l = true) :
    Calls Try.prog 3 #[.int .i64 n, .slice a l.length c] w fun e w' => e = .returned (.bool true) ∧ Below w.heap.size w w' := by
  have HF := Lib.hid (DkL.Few a c l w h hl (fun x hx => by obtain ⟨k, hk⟩ := hg x hx; exact ⟨hk.2.2.2.1, hk.2.2.1⟩))
  rw [hq] at HF
  have hl60 : l.length ≤ 60 := (of_decide_eq_true hq).1
  obtain ⟨f, hf⟩ := pick hg
  have HG := Lib.hid hf
  have HA := Lib.hid h
  have HD := Lib.hid (fun W => DkNew.New_yes n W h8 (by omega))
  have HR := Lib.hid (fun W => DkRN.New_yes n W h8 (by omega))
  clear h hl hg hq hf
  obtain ⟨m, hm⟩ : ∃ m, l.length = m := ⟨_, rfl⟩
  rw [hm] at HF hl60 ⊢
  have HM := Lib.hid hm
  have hn60 : ¬ 60 < (n : Int) := by omega
  clear hm
  go_enter Try.func3, Try.ntmps3
  go_wp2_with fail
  refine (HF.out).mono ?_
  rintro e w1 ⟨rfl, hb1⟩
  have HB := Lib.hid hb1
  clear hb1 HF
  go_wp2_with fail
  refine (HD.out _).mono ?_
  rintro e w2 ⟨b, bv, cv, rfl, hd2, hb2, hf2⟩
  go_wp2_with fail
  refine (HR.out _).mono ?_
  rintro e w3 ⟨rb, rv, ru, rfl, hr3, hb3, hf3⟩
  have hP : Play w w3 b bv rb rv cv ru (made n) (made n) := by
    have s1 := HB.out.size
    have s2 := hb2.size
    refine ⟨hd2.step hb3, hr3, fun k hk hr => ?_, fun k hk => Nat.le_trans s1 (hf2 k hk), fun k hk => Nat.le_trans s1 (Nat.le_trans s2 (hf3 k hk)), (HB.out.trans (hb2.mono s1)).trans (hb3.mono (Nat.le_trans s1 s2))⟩
    have := hd2.foot_lt k hk
    have := hf3 k hr
    omega
  have HP := Lib.hid hP
  clear hP hd2 hb2 hf2 hr3 hb3 hf3 HB HD HR
  go_wp2_with fail
  go_loopw [48] (fun i wr => ∃ j : Nat, j ≤ m ∧ i = .int .i64 j ∧ ∃ cv ru, Play w wr b bv rb rv cv ru (runD f (made n) (l.take j)) (runR f (made n) (l.take j))) (fun i _ => m - (intOf i).toNat)
  case atStart => exact ⟨0, Nat.zero_le _, rfl, _, _, HP.out⟩
  case round =>
    obtain ⟨j, hj, rfl, cv', ru', hp⟩ := hrel
    have HPP := Lib.hid hp
    clear hp
    have HLi := Lib.hid (run_like f (l.take j) (made n) (made n) (.refl _))
    by_cases hlt : j < m
    · have hjl : j < l.length := by rw [HM.out]; exact hlt
      obtain ⟨g, o, rfl, hg, hcs⟩ := HA.out (by omega)
      have hcell : ∀ i v, l[j].cells[i]? = some v → wr.cell? ⟨g, o + j * 6 + i, none⟩ = some v := fun i v hv => (HPP.out.below.cell (p := ⟨g, o + j * 6 + i, none⟩) hg).trans (hcs j hjl i v hv)
      have HGo := Lib.hid (HG.out _ (List.getElem_mem hjl))
      have HXD := Lib.hid (runD_next f (made n) l j hjl)
      have HXR := Lib.hid (runR_next f (made n) l j hjl)
      generalize runD f (made n) (l.take j) = Dj at *
      generalize runR f (made n) (l.take j) = Rj at *
      clear hcs
      generalize l[j] = x at *
      have hjm : (j : Int) < (m : Int) := by omega
      clear hjl
      have HDo : Hid (∀ W : World, Play w W b bv rb rv cv' ru' Dj Rj → Calls Try.prog 12 #[.pointer (some ⟨b, 0, none⟩), .pointer (some ⟨rb, 0, none⟩), .agg x.cells] W (DkP.Alike w b bv rb rv (actD Dj (actOf x (f x))) (actR Rj (actOf x (f x))))) := Lib.hid fun W hW =>
        DkP.does hW HLi.out x (f x) (HGo.out.1.keep hW.below.block) HGo.out.2.1 HGo.out.2.2.1 HGo.out.2.2.2.2.2.2.2
      generalize actD Dj (actOf x (f x)) = Dn at *
      generalize actR Rj (actOf x (f x)) = Rn at *
      obtain ⟨kind, at_, nn, s, raw, ka, kn, kc⟩ := x
      have q0 : wr.cell? ⟨g, o + j * 6, none⟩ = some (.int .i64 kind) := hcell 0 _ rfl
      have q1 : wr.cell? ⟨g, o + j * 6 + 1, none⟩ = some (.int .i64 at_) := hcell 1 _ rfl
      have q2 : wr.cell? ⟨g, o + j * 6 + 2, none⟩ = some (.int .i64 nn) := hcell 2 _ rfl
      have q3 : wr.cell? ⟨g, o + j * 6 + 3, none⟩ = some (.string s) := hcell 3 _ rfl
      have q4 : wr.cell? ⟨g, o + j * 6 + 4, none⟩ = some (.bool raw) := hcell 4 _ rfl
      have q5 : wr.cell? ⟨g, o + j * 6 + 5, none⟩ = some (.slice ka kn kc) := hcell 5 _ rfl
      clear hcell
      simp only [RawAct.cells] at HDo
      go_wp2_with fail
      refine (HDo.out _ (HPP.out.step ((Below.refl _ _).alloc (Nat.le_refl _) _))).mono ?_
      rintro e w5 ⟨rfl, cv5, ru5, hp5⟩
      have HP5 := Lib.hid hp5
      clear hp5 q0 q1 q2 q3 q4 q5
      go_wp2
      go_roundw
      case rel => exact ⟨j + 1, by omega, by go_num, cv5, ru5, by rw [HXD.out, HXR.out]; exact HP5.out⟩
      case measure => simp [intOf]; omega
    · obtain rfl : j = m := by omega
      have HDo : Hid (Calls Try.prog 12 #[.pointer (some ⟨b, 0, none⟩), .pointer (some ⟨rb, 0, none⟩), .agg last8.cells] wr (DkP.Alike w b bv rb rv _ _)) := Lib.hid (DkP.does HPP.out HLi.out last8 [] ⟨rfl, fun h => absurd h (Nat.lt_irrefl 0)⟩ (fun x hx => by cases hx) (Nat.zero_le _) (by show (0 : Int) ≤ _; omega))
      simp only [RawAct.cells, last8] at HDo
      go_wp2_with fail
      refine (HDo.out).mono ?_
      rintro e w5 ⟨rfl, cv5, ru5, hp5⟩
      have HP5 := Lib.hid hp5.below
      clear hp5
      go_wp2_with fail
      refine (alive_ _).mono ?_
      rintro e w6 ⟨rfl, hb6⟩
      have HB6 := Lib.hid (HP5.out.trans (hb6.mono HP5.out.size))
      clear hb6
      go_wp2
      go_ret
      exact ⟨rfl, HB6.out⟩
theorem walk (n : Int) (a : Option Addr) (c : Nat) (l : List RawAct) (w : World) (w0 : (Lit.int .i64 n).wf = true) (w1 : ActRow w a l ∧ l.length ≤ maxLen ∧ ∀ x ∈ l, ∃ keep, DkO.Good w x keep) :
    Calls Try.prog 3 #[.int .i64 n, .slice a l.length c] w fun e w' => e = .returned (.bool true) ∧ Below w.heap.size w w' := by
  obtain ⟨h, hl, hg⟩ := w1
  have hg' : ∀ x ∈ l, x.text.size ≤ maxLen ∧ x.kn ≤ maxLen := fun x hx => by obtain ⟨k, hk⟩ := hg x hx; exact ⟨hk.2.2.2.1, hk.2.2.1⟩
  by_cases hm : 60 < n ∧ n ≤ 1024
  · exact mid n a c l w hm.1 hm.2
  · cases hq : fewB l with
    | false => exact many n a c l w (by omega) h hl hg' hq
    | true =>
      by_cases h8 : n < 8 ∨ 1024 < n
      · exact none_ n a c l w h8 h hl hg' hq
      · obtain ⟨k, rfl⟩ : ∃ k : Nat, n = (k : Int) := ⟨n.toNat, by omega⟩
        exact some_ k a c l w (by omega) (by omega) h hl hg hq
theorem own : ownKnob Try.prog.godebug = none := by kernel_rfl
theorem laidOut : laidOutB Try.prog = true := by kernel_rfl
set_option maxRecDepth 100000 in
theorem lifted (os : Os) (started : os.Started) (H : Type) (enc : TypeId × Value → H) :
    ReturnsInHanded {} Try.checked os 3 .any (Rows.diskPlaysSpec.pre6 enc Try.prog Try.f3 Rows.diskPlaysRow.domain false) (Rows.diskPlaysSpec.post enc Try.prog Try.f3 false true false false) := by
  refine returnsInHanded_of_change (C := Try.checked) own started (by kernel_rfl) Try.func3
    (ChangeSpec.witness6 (enc := enc) (C := Try.checked) false ⟨#[], #[.int .i64 0, .slice none 0 0], []⟩ 8 (by kernel_rfl) (by kernel_rfl) (by kernel_rfl) (by kernel_rfl)) ?_
  intro W base args ds gs before hval0 hW hcnd _
  have hval : ∀ (j : Nat) t v, Try.f3.params[j]? = some t → args[j]? = some v → Value.okWide Try.prog W .any base t v := hval0
  have hW' := hW
  obtain ⟨p, q, hA0, hV, rfl, hfz, hnd⟩ := hW
  have hA : DataW.TrodAll enc Try.prog W 0 (fun _ => true) true Try.f3.params.toList args.toList ds p := hA0
  rw [Try.params3] at hA hval
  obtain ⟨v0, vs0, d0, ds0, p0, q0, hargs, rfl, rfl, h0, r0⟩ := trodAll_cons hA
  obtain ⟨v1, vs1, d1, ds1, p1, q1, rfl, rfl, rfl, h1, r1⟩ := trodAll_cons r0
  obtain ⟨rfl, rfl, rfl⟩ := trodAll_nil r1
  obtain rfl : args = #[v0, v1] := by cases args; simp_all
  obtain ⟨rfl, rfl⟩ := trodVars_none hV
  obtain ⟨a0, rfl, rfl, rfl, w0⟩ := open_int Try.underlying3 (hval 0 3 v0 rfl rfl) h0
  have k1 := h1
  have lt1 : ∀ x ∈ p1, x.block < W.heap.size := by obtain ⟨m, hm⟩ := k1; exact DataW.trod_lt m _ _ _ hm
  obtain ⟨b1, len1, ca1, rfl⟩ := okWide_slice Try.underlying22 (hval 1 22 v1 rfl rfl)
  obtain ⟨a1, cap1, z1, he1, w1⟩ := DkO.open_acts h1
  simp only [Value.cells, List.cons.injEq, Value.slice.injEq, and_true] at he1
  obtain ⟨rfl, rfl, rfl⟩ := he1
  clear hA0 hval0
  refine (walk a0 b1 ca1 z1 W w0 w1).mono fun e W' ⟨he, bel⟩ => ?_
  subst he
  exact ⟨_, rfl, _, _, _, [], _, [], hW', trodAll_mk1 (shut_bool Try.underlying4 _), (trodAll_cons_mk (shut_int Try.underlying3 w0) (trodAll_cons_mk (Below.trod laidOut (by kernel_rfl) (of_decide_eq_true (by kernel_rfl)) k1 bel lt1) trodAll_mk0)), rfl, bel.frame _, fun h => by cases h⟩
theorem over : Rows.diskPlaysRow.holds Try.pinned (OpenSpec.ofChange Rows.diskPlaysSpec) :=
  OpenClaim.holds_of_wide 3 Try.f3 rfl rfl rfl rfl rfl rfl rfl ⟨rfl, rfl, rfl, rfl, rfl⟩ rfl rfl rfl rfl rfl (by kernel_rfl) Try.func3 (by kernel_rfl)
    (of_decide_eq_true (by kernel_rfl)) (by unfold Func.isWrapper; first | (rw [if_pos (by decide +kernel)]; kernel_rfl) | (rw [if_neg (by decide +kernel)]; exact ⟨rfl, rfl⟩))
    (fun os started H enc _ => lifted os started H enc)
/-- THE STATEMENT, proved. -/
theorem proved : Rows.DiskPlaysSaid := over
#print axioms proved
end Go.Proofs.Ytofpflkkbkodaaa.diskPlays
