/- RetainLonger: at any first epoch, any row of at most 100 records of at most 20,000 bytes (others: only the chapter's example): until when an epoch must be kept never becomes less, what was purged stays so, and an epoch is purged only where the time is past that and no hold has it. No conditions. -/
import Derived.Test.YteldohopagdodaaRetZ
import Derived.Test.YteldohopagdodaaRetF
import Derived.Test.YteldohopagdodaaRows
import Derived.WalkKit
import Derived.ProofKit
import Derived.OpenShut
import Derived.ShutString
import Derived.ChangeOld
import Derived.Below
namespace Go.Proofs.Yteldohopagdodaa.retainLonger
open Go.ChangeShapes Go.WideShapes Go.ChangeAt Go.RowKit
open Go.ChangeMaps (open_string shut_string)
set_option linter.unusedVariables false
open RecN RecC RetN RetC RetH RetP RetB RetR RetF RetW RetY RetZ
set_option maxRecDepth 100000 in
theorem many (f : Int) (a : Option Addr) (n c : Nat) (l : List Rec) (w : World) (hl : Lies w a (rr l)) (hln : l.length = n) (hn : n ≤ maxLen) (h0 : 0 ≤ f) (h1 : f ≤ 4294967295) (hf : fewB l = false) :
    Calls Try.prog 3 #[.int .i64 f, .slice a n c] w fun e w' => e = .returned (.bool true) ∧ Below w.heap.size w w' := by
  have HN := Lib.hid (New_yes f w h0 h1)
  have HL := Lib.hid hl
  have HF := Lib.hid (fun W h => Few a n c l W h hln hn)
  rw [hf] at HF
  clear hf hl h0 h1 hln hn
  go_enter Try.func3, Try.ntmps3
  go_wp2_with (first
    | (go_at_call 5; refine HN.out.mono ?_; rintro e w1 ⟨A, rfl, hm⟩; have BB := Lib.hid hm.2.2; replace HL := Lib.hid (HL.out.step BB.out); clear hm HN)
    | (go_at_call 6; refine (HF.out _ HL.out).mono ?_; rintro e w2 ⟨rfl, hb⟩; replace BB := Lib.hid (BB.out.trans (hb.mono BB.out.size)); clear hb HF)
    | (go_at_call 7; refine (alive _).mono ?_; rintro e w3 ⟨rfl, hb⟩; replace BB := Lib.hid (BB.out.trans (hb.mono BB.out.size)); clear hb))
  go_ret
  exact ⟨rfl, BB.out⟩
set_option maxRecDepth 100000 in
theorem none_ (f : Int) (a : Option Addr) (n c : Nat) (l : List Rec) (w : World) (hl : Lies w a (rr l)) (hln : l.length = n) (hn : n ≤ maxLen) (h : f < 0 ∨ 4294967295 < f) :
    Calls Try.prog 3 #[.int .i64 f, .slice a n c] w fun e w' => e = .returned (.bool true) ∧ Below w.heap.size w w' := by
  have HN := Lib.hid (New_no f w h)
  have HF := Lib.hid (Few a n c l w hl hln hn)
  clear h hl hln hn
  generalize fewB l = q at *
  cases q
  all_goals
    go_enter Try.func3, Try.ntmps3
    go_wp2_with (first
      | (go_at_call 5; refine HN.out.mono ?_; rintro e _ ⟨rfl, rfl⟩; clear HN)
      | (go_at_call 6; refine HF.out.mono ?_; rintro e w2 ⟨rfl, hb⟩; have BB := Lib.hid hb; clear hb HF)
      | (go_at_call 7; refine (alive _).mono ?_; rintro e w3 ⟨rfl, hb⟩; replace BB := Lib.hid (BB.out.trans (hb.mono BB.out.size)); clear hb))
    go_ret
    exact ⟨rfl, BB.out⟩
/-- What stands in a round: the book, the record in its block. -/
structure Rnd (w : World) (A : Pl) (s : St) (X : Nat) (r : Rec) (W : World) : Prop where
  run : Run w A s W
  k : Bk W X r
  far : ¬ A.has X
theorem Rnd.step {w W W' : World} {A : Pl} {s : St} {X : Nat} {r : Rec} (h : Rnd w A s X r W) (hb : Below W.heap.size W W') : Rnd w A s X r W' := ⟨h.run.step hb, h.k.step hb, h.far⟩
theorem Rnd.drew {w W : World} {A : Pl} {s : St} {X : Nat} {r : Rec} (h : Rnd w A s X r W) : Rnd w A s X r W.drew := h.step ((Below.refl _ _).drew)
theorem Rnd.turn {w W W' : World} {A : Pl} {s s' : St} {X : Nat} {r : Rec} (h : Rnd w A s X r W) (hb : Book A s' W') (ht : Tu A W W') : Rnd w A s' X r W' := ⟨h.run.turn hb ht, (ht.block _ h.k.lt h.far).trans h.k, h.far⟩
theorem far_new {w W : World} {A : Pl} {s : St} (h : Run w A s W) : ¬ A.has W.heap.size := fun e => by
  have h1 := h.b.lt
  have h2 := h.b.in_.lt
  have h3 := h.b.in_.ck.lt
  have h4 := h.b.in_.u.lt
  have h5 := h.b.in_.h.lt
  have h6 := h.b.in_.g.lt
  rcases e with e | e | e | e | e | e <;> omega
set_option maxRecDepth 100000 in
set_option maxHeartbeats 8000000 in
theorem some_ (f : Int) (a : Option Addr) (n c : Nat) (l : List Rec) (w : World) (hl : Lies w a (rr l)) (hln : l.length = n) (hn : n ≤ maxLen) (hw : ∀ x ∈ l, Wf x.tg) (h0 : 0 ≤ f) (h1 : f ≤ 4294967295) (hf : fewB l = true) :
    Calls Try.prog 3 #[.int .i64 f, .slice a n c] w fun e w' => e = .returned (.bool true) ∧ Below w.heap.size w w' := by
  have HN := Lib.hid (New_yes f w h0 h1)
  have HL := Lib.hid hl
  have HF := Lib.hid (fun W h => Few a n c l W h hln hn)
  rw [hf] at HF
  have HW := Lib.hid hw
  have hnn : n ≤ 100 := by
    unfold fewB at hf
    rw [Bool.and_eq_true, decide_eq_true_eq] at hf
    omega
  clear hf hl h0 h1 hw hn
  go_enter Try.func3, Try.ntmps3
  go_upto_region 4 with (first
    | (go_at_call 5; refine HN.out.mono ?_; rintro e w1 ⟨A, rfl, hm⟩; have R := Lib.hid (run_made hm); have HL1 := Lib.hid (HL.out.step hm.2.2); clear hm HN)
    | (go_at_call 6; refine (HF.out _ HL1.out).mono ?_; rintro e w2 ⟨rfl, hb⟩; replace R := Lib.hid (R.out.step hb); clear hb HF HL1))
  generalize new f = s0 at *
  go_wp2_with fail
  go_loopw [28] (fun iv wr => ∃ k : Nat, k ≤ n ∧ iv = .int .i64 k ∧ ∃ s, Run w A s wr) (fun iv _ => n - (intOf iv).toNat)
  case atStart => exact ⟨0, Nat.zero_le _, rfl, s0, R.out⟩
  case round =>
    clear R
    obtain ⟨k, hk, rfl, s, hr⟩ := hrel
    have R := Lib.hid hr
    clear hr
    by_cases hlt : k < n
    · obtain ⟨g, o, rfl, hg, hc⟩ := HL.out.at8 (by omega)
      have hkl : k < l.length := by omega
      have hk8 := (hc k hkl).step hg R.out.bel
      have hwf : Wf l[k].tg := HW.out _ (List.getElem_mem hkl)
      generalize l[k] = r at *
      obtain ⟨q0, q1, q2, q3, q4, q5, q6, q7⟩ := hk8
      have p0 : (0 : Int) ≤ (k : Int) := by omega
      have p1 : (k : Int) < (n : Int) := by omega
      clear hc hkl
      go_upto_region 7 with (refine wpList_store_row rfl 30 _ _ rfl wr.heap.size _ rfl rfl 30 _ (heap_alloc_new wr _) infoR rfl (one8 r) ?_)
      generalize hW : World.setRow _ _ _ = W4
      have b4 : Below wr.heap.size wr W4 := by rw [← hW]; exact kept_new wr _ _ _
      have g4 : Bk W4 wr.heap.size r := by rw [← hW]; exact has_new wr _ _ _
      clear hW q0 q1 q2 q3 q4 q5 q6 q7
      have S0 : Hid (Rnd w A s wr.heap.size r W4) := Lib.hid ⟨R.out.step b4, g4, far_new R.out⟩
      clear b4 g4 R
      have H1 := Lib.hid (fun W (h : Book A s W) => Until h r.tg hwf)
      have H2 := Lib.hid (fun W (h : Book A s W) => Gone h r.tg hwf)
      have H3 := Lib.hid (fun W (h : Book A s W) => Held h r.tg)
      have H4 := Lib.hid (fun W (h : Book A s W) => Apply h r hwf)
      have H5 := Lib.hid (fun W (h : Book A (apply s r) W) => Until h r.tg hwf)
      have H6 := Lib.hid (fun W (h : Book A (apply s r) W) => Gone h r.tg hwf)
      have HK := Lib.hid (fun h hk => kept (s := s) (r := r) h hk)
      have HG := Lib.hid (longer s r r.tg)
      generalize apply s r = s1 at *
      generalize may s r = q at *
      clear hwf
      have S1 := Lib.hid S0.out.drew
      have hS := S1.out.k.cells
      clear S0
      go_region_held3 (fun W => W.cell? ⟨wr.heap.size, 0, none⟩ = some (.int .i64 r.k) ∧ W.cell? ⟨wr.heap.size, 1, none⟩ = some (.int .i64 r.ep) ∧ W.cell? ⟨wr.heap.size, 2, none⟩ = some (.int .i64 r.tm) ∧ W.cell? ⟨wr.heap.size, 3, none⟩ = some (.int .i64 r.ct) ∧ W.cell? ⟨wr.heap.size, 4, none⟩ = some (.int .i64 r.tg) ∧ W.cell? ⟨wr.heap.size, 5, none⟩ = some (.int .i64 r.un) ∧ W.cell? ⟨wr.heap.size, 6, none⟩ = some (.string ⟨r.rt.toArray⟩) ∧ W.cell? ⟨wr.heap.size, 7, none⟩ = some (.string ⟨r.nm.toArray⟩))
        (exact hS) (first
          | (go_at_call 8; refine (H1.out _ S1.out.run.b).mono ?_; rintro e _ ⟨rfl, rfl⟩; clear H1)
          | (go_at_call 9; refine (H2.out _ S1.out.run.b).mono ?_; rintro e w5 ⟨rfl, hb⟩; replace S1 := Lib.hid (S1.out.step hb); replace hS := S1.out.k.cells; clear hb H2)
          | (go_at_call 10; refine (H3.out _ S1.out.run.b).mono ?_; rintro e w6 ⟨⟨ga, gc, rfl, -⟩, hb⟩; replace S1 := Lib.hid (S1.out.step hb); replace hS := S1.out.k.cells; clear hb H3))
      obtain ⟨k0, k1, k2, k3, k4, k5, k6, k7⟩ := hS
      have hlo := HG.out.1
      have hl2 : ¬ s1.un r.tg < s.un r.tg := by omega
      have HG2 := Lib.hid HG.out.2
      clear HG hlo
      by_cases hq : q = 0
      · have hq0 : (q == 0) = true := by simp [hq]
        by_cases hk5 : r.k = 5
        · have t5 : (r.k == 5) = true := by simp [hk5]
          obtain ⟨z1, z2, z3, z4, z5⟩ := HK.out hq hk5
          have y1 : ¬ r.tm < s.un r.tg := by omega
          have y2 : ¬ (0 : Int) < ((heldL s.hs r.tg).length : Int) := by omega
          have y4 : (r.un != s.un r.tg) = false := by simp [z4]
          rw [z5] at H6
          generalize s.gone r.tg = g0 at *
          subst z3
          generalize (heldL s.hs r.tg).length = hn0 at *
          clear z1 z2 z4 z5 hk5 hq HK HG2
          go_wp2_with (first
            | (go_at_call 11; refine (H4.out _ S1.out.run.b).mono ?_; rintro e w7 ⟨rfl, hb, ht⟩; have S2 := Lib.hid (S1.out.turn hb ht); clear hb ht H4 k0 k1 k2 k3 k4 k5 k6 k7; obtain ⟨k0, k1, k2, k3, k4, k5, k6, k7⟩ := S2.out.k.cells)
            | (go_at_call 8; refine (H5.out _ S2.out.run.b).mono ?_; rintro e _ ⟨rfl, rfl⟩; clear H5)
            | (go_at_call 9; refine (H6.out _ S2.out.run.b).mono ?_; rintro e w8 ⟨rfl, hb⟩; replace S2 := Lib.hid (S2.out.step hb); clear hb H6 k0 k1 k2 k3 k4 k5 k6 k7; obtain ⟨k0, k1, k2, k3, k4, k5, k6, k7⟩ := S2.out.k.cells))
          go_roundw
          case rel => exact ⟨k + 1, by omega, by go_num, s1, S2.out.run⟩
          case measure => simp [intOf]; omega
        · have t5 : (r.k == 5) = false := by simp [hk5]
          generalize hg0 : s.gone r.tg = g0 at *
          generalize (heldL s.hs r.tg).length = hn0 at *
          cases g0
          · clear hk5 hq HK HG2 hg0
            go_wp2_with (first
              | (go_at_call 11; refine (H4.out _ S1.out.run.b).mono ?_; rintro e w7 ⟨rfl, hb, ht⟩; have S2 := Lib.hid (S1.out.turn hb ht); clear hb ht H4 k0 k1 k2 k3 k4 k5 k6 k7; obtain ⟨k0, k1, k2, k3, k4, k5, k6, k7⟩ := S2.out.k.cells)
              | (go_at_call 8; refine (H5.out _ S2.out.run.b).mono ?_; rintro e _ ⟨rfl, rfl⟩; clear H5)
              | (go_at_call 9; refine (H6.out _ S2.out.run.b).mono ?_; rintro e w8 ⟨rfl, hb⟩; replace S2 := Lib.hid (S2.out.step hb); clear hb H6 k0 k1 k2 k3 k4 k5 k6 k7; obtain ⟨k0, k1, k2, k3, k4, k5, k6, k7⟩ := S2.out.k.cells))
            go_roundw
            case rel => exact ⟨k + 1, by omega, by go_num, s1, S2.out.run⟩
            case measure => simp [intOf]; omega
          · rw [HG2.out rfl] at H6
            clear hk5 hq HK HG2 hg0
            go_wp2_with (first
              | (go_at_call 11; refine (H4.out _ S1.out.run.b).mono ?_; rintro e w7 ⟨rfl, hb, ht⟩; have S2 := Lib.hid (S1.out.turn hb ht); clear hb ht H4 k0 k1 k2 k3 k4 k5 k6 k7; obtain ⟨k0, k1, k2, k3, k4, k5, k6, k7⟩ := S2.out.k.cells)
              | (go_at_call 8; refine (H5.out _ S2.out.run.b).mono ?_; rintro e _ ⟨rfl, rfl⟩; clear H5)
              | (go_at_call 9; refine (H6.out _ S2.out.run.b).mono ?_; rintro e w8 ⟨rfl, hb⟩; replace S2 := Lib.hid (S2.out.step hb); clear hb H6 k0 k1 k2 k3 k4 k5 k6 k7; obtain ⟨k0, k1, k2, k3, k4, k5, k6, k7⟩ := S2.out.k.cells))
            go_roundw
            case rel => exact ⟨k + 1, by omega, by go_num, s1, S2.out.run⟩
            case measure => simp [intOf]; omega
      · have hq0 : (q == 0) = false := by simp [hq]
        generalize hg0 : s.gone r.tg = g0 at *
        generalize (heldL s.hs r.tg).length = hn0 at *
        cases g0
        · clear hq HK HG2 hg0
          go_wp2_with (first
            | (go_at_call 11; refine (H4.out _ S1.out.run.b).mono ?_; rintro e w7 ⟨rfl, hb, ht⟩; have S2 := Lib.hid (S1.out.turn hb ht); clear hb ht H4 k0 k1 k2 k3 k4 k5 k6 k7; obtain ⟨k0, k1, k2, k3, k4, k5, k6, k7⟩ := S2.out.k.cells)
            | (go_at_call 8; refine (H5.out _ S2.out.run.b).mono ?_; rintro e _ ⟨rfl, rfl⟩; clear H5)
            | (go_at_call 9; refine (H6.out _ S2.out.run.b).mono ?_; rintro e w8 ⟨rfl, hb⟩; replace S2 := Lib.hid (S2.out.step hb); clear hb H6 k0 k1 k2 k3 k4 k5 k6 k7; obtain ⟨k0, k1, k2, k3, k4, k5, k6, k7⟩ := S2.out.k.cells))
          go_roundw
          case rel => exact ⟨k + 1, by omega, by go_num, s1, S2.out.run⟩
          case measure => simp [intOf]; omega
        · rw [HG2.out rfl] at H6
          clear hq HK HG2 hg0
          go_wp2_with (first
            | (go_at_call 11; refine (H4.out _ S1.out.run.b).mono ?_; rintro e w7 ⟨rfl, hb, ht⟩; have S2 := Lib.hid (S1.out.turn hb ht); clear hb ht H4 k0 k1 k2 k3 k4 k5 k6 k7; obtain ⟨k0, k1, k2, k3, k4, k5, k6, k7⟩ := S2.out.k.cells)
            | (go_at_call 8; refine (H5.out _ S2.out.run.b).mono ?_; rintro e _ ⟨rfl, rfl⟩; clear H5)
            | (go_at_call 9; refine (H6.out _ S2.out.run.b).mono ?_; rintro e w8 ⟨rfl, hb⟩; replace S2 := Lib.hid (S2.out.step hb); clear hb H6 k0 k1 k2 k3 k4 k5 k6 k7; obtain ⟨k0, k1, k2, k3, k4, k5, k6, k7⟩ := S2.out.k.cells))
          go_roundw
          case rel => exact ⟨k + 1, by omega, by go_num, s1, S2.out.run⟩
          case measure => simp [intOf]; omega
    · obtain rfl : k = n := by omega
      have pk : ¬ (k : Int) < (k : Int) := by omega
      go_wp2_with (go_at_call 7; refine (alive _).mono ?_; rintro e w3 ⟨rfl, hb⟩; replace R := Lib.hid (R.out.step hb); clear hb)
      go_ret
      exact ⟨rfl, R.out.bel⟩
theorem walk (f : Int) (a : Option Addr) (n c : Nat) (l : List Rec) (w : World) (w0 : (Lit.int .i64 f).wf = true) (w1 : Came w a n c l) :
    Calls Try.prog 3 #[.int .i64 f, .slice a n c] w fun e w' => e = .returned (.bool true) ∧ Below w.heap.size w w' := by
  obtain ⟨hl, hn, _, hfit, hL⟩ := w1
  by_cases hf : 0 ≤ f ∧ f ≤ 4294967295
  · cases h : fewB l with
    | false => exact many f a n c l w hL hl hn hf.1 hf.2 h
    | true => exact some_ f a n c l w hL hl hn (fun x hx => (hfit x hx).1) hf.1 hf.2 h
  · exact none_ f a n c l w hL hl hn (by omega)
theorem own : ownKnob Try.prog.godebug = none := by kernel_rfl
theorem laidOut : laidOutB Try.prog = true := by kernel_rfl
set_option maxRecDepth 100000 in
theorem lifted (os : Os) (started : os.Started) (H : Type) (enc : TypeId × Value → H) :
    ReturnsInHanded {} Try.checked os 3 .any (Rows.retainLongerSpec.pre6 enc Try.prog Try.f3 Rows.retainLongerRow.domain false) (Rows.retainLongerSpec.post enc Try.prog Try.f3 false true false false) := by
  refine returnsInHanded_of_change (C := Try.checked) own started (by kernel_rfl) Try.func3
    (ChangeSpec.witness6 (enc := enc) (C := Try.checked) false ⟨#[], #[.int .i64 0, .slice none 0 0], []⟩ 8 (by kernel_rfl) (by kernel_rfl) (by kernel_rfl) (by kernel_rfl)) ?_
  intro W base args ds gs before hval0 hW hcnd _
  have hval : ∀ (j : Nat) t v, Try.f3.params[j]? = some t → args[j]? = some v → Value.okWide Try.prog W .any base t v := hval0
  have hW' := hW
  obtain ⟨p, q, hA0, hV, rfl, hfz, hnd⟩ := hW
  have hA : DataW.TrodAll enc Try.prog W 0 (fun _ => true) true Try.f3.params.toList args.toList ds p := hA0
  rw [Try.params3] at hA hval
  obtain ⟨v0, vs0, d0, ds0, p0, q0, hargs, rfl, rfl, h0, r0⟩ := trodAll_cons hA
  obtain ⟨v1, vs1, d1, ds1, p1, q1, rfl, rfl, rfl, h1, r1⟩ := trodAll_cons r0
  obtain ⟨rfl, rfl, rfl⟩ := trodAll_nil r1
  obtain rfl : args = #[v0, v1] := by cases args; simp_all
  obtain ⟨rfl, rfl⟩ := trodVars_none hV
  obtain ⟨a0, rfl, rfl, rfl, w0⟩ := open_int Try.underlying3 (hval 0 3 v0 rfl rfl) h0
  have k1 := h1
  have lt1 : ∀ x ∈ p1, x.block < W.heap.size := by obtain ⟨m, hm⟩ := k1; exact DataW.trod_lt m _ _ _ hm
  obtain ⟨b1, len1, ca1, rfl⟩ := okWide_slice Try.underlying22 (hval 1 22 v1 rfl rfl)
  obtain ⟨a1, n1, cap1, z1, he1, w1⟩ := RetR.open_recs h1
  simp only [Value.cells, List.cons.injEq, Value.slice.injEq, and_true] at he1
  obtain ⟨rfl, rfl, rfl⟩ := he1
  clear hA0 hval0
  refine (walk a0 b1 len1 ca1 z1 W w0 w1).mono fun e W' ⟨he, bel⟩ => ?_
  subst he
  exact ⟨_, rfl, _, _, _, [], _, [], hW', trodAll_mk1 (shut_bool Try.underlying4 _), (trodAll_cons_mk (shut_int Try.underlying3 w0) (trodAll_cons_mk (Below.trod laidOut (by kernel_rfl) (of_decide_eq_true (by kernel_rfl)) k1 bel lt1) trodAll_mk0)), rfl, bel.frame _, fun h => by cases h⟩
theorem over : Rows.retainLongerRow.holds Try.pinned (OpenSpec.ofChange Rows.retainLongerSpec) :=
  OpenClaim.holds_of_wide 3 Try.f3 rfl rfl rfl rfl rfl rfl rfl ⟨rfl, rfl, rfl, rfl, rfl⟩ rfl rfl rfl rfl rfl (by kernel_rfl) Try.func3 (by kernel_rfl)
    (of_decide_eq_true (by kernel_rfl)) (by unfold Func.isWrapper; first | (rw [if_pos (by decide +kernel)]; kernel_rfl) | (rw [if_neg (by decide +kernel)]; exact ⟨rfl, rfl⟩))
    (fun os started H enc _ => lifted os started H enc)
/-- THE STATEMENT, proved. -/
theorem proved : Rows.RetainLongerSaid := over
#print axioms proved
end Go.Proofs.Yteldohopagdodaa.retainLonger
