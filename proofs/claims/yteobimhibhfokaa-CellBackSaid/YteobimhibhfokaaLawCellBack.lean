/- CellBack: at any cell and any two texts of at most 2^47 bytes, what was put is taken as it was, what was held is; what was taken, put, is those bytes, and so of what was held. No conditions. -/
import Derived.Test.YteobimhibhfokaaCelV
import Derived.Test.YteobimhibhfokaaCelY
import Derived.Test.YteobimhibhfokaaRows
import Derived.WalkKit
import Derived.ProofKit
import Derived.OpenShut
import Derived.ShutString
import Derived.ChangeOld
import Derived.Below
namespace Go.Proofs.Yteobimhibhfokaa.cellBack
open Go.ChangeShapes Go.WideShapes Go.ChangeAt Go.RowKit
open Go.ChangeMaps (open_string shut_string)
set_option linter.unusedVariables false
open CelN CelC
set_option maxRecDepth 100000 in
theorem long (ep sl lb : Int) (gn : Bool) (ci : List UInt8) (s b : List UInt8) (w : World) (h : 10000 < ci.length ∨ (¬ 10000 < ci.length ∧ 10000 < s.length) ∨ (¬ 10000 < ci.length ∧ ¬ 10000 < s.length ∧ 10000 < b.length)) :
    Calls Try.prog 5 #[.agg #[.int .i64 ep, .int .i64 sl, .int .i64 lb, .bool gn, .string ⟨ci.toArray⟩], .string ⟨s.toArray⟩, .string ⟨b.toArray⟩] w fun r w' => r = .returned (.bool true) ∧ Below w.heap.size w w' := by
  obtain ⟨W1, hW1⟩ : ∃ W1, W1 = w.alloc (.cells #[.int .i64 ep, .int .i64 sl, .int .i64 lb, .bool gn, .string ⟨ci.toArray⟩] 23) := ⟨_, rfl⟩
  have SS : Hid (Ws w ep sl lb gn ci W1) := Lib.hid (by rw [hW1]; exact ws_new w ep sl lb gn ci)
  have hz := size_mk ci
  have hy := size_mk s
  have hx := size_mk b
  obtain ⟨k0, k1, k2, k3, k4⟩ := SS.out.k.cells
  go_enter Try.func5, Try.ntmps5
  go_upto_region 1 with (fail)
  rw [← hW1]
  clear hW1
  rcases h with h | ⟨h1, h⟩ | ⟨h1, h2, h⟩
  all_goals
    go_wp2_with (go_at_call 7; refine (CelY.alive _).mono ?_; rintro r w7 ⟨rfl, hb⟩; have HE := Lib.hid (SS.out.step hb); clear hb)
    go_ret
    exact ⟨rfl, HE.out.bel⟩
set_option maxRecDepth 100000 in
set_option maxHeartbeats 4000000 in
theorem short (ep sl lb : Int) (gn : Bool) (ci : List UInt8) (s b p x : List UInt8) (e f : Int) (ep2 sl2 lb2 : Int) (gn2 : Bool) (ci2 : List UInt8) (g : Int) (t : List UInt8) (k : Int) (w : World) (h : ¬ 10000 < ci.length) (h' : ¬ 10000 < s.length) (h'' : ¬ 10000 < b.length)
    (hp : put_ ⟨ep, sl, lb, gn, ci⟩ = (p, e)) (h1 : (e = 0 ∧ take p = (⟨ep, sl, lb, gn, ci⟩, 0) ∧ p.length = 4096) ∨ e = 2)
    (hh : hold s = (x, f)) (h2 : (f = 0 ∧ held x = (s, 0) ∧ x.length = 4096) ∨ f = 2)
    (ht : take b = (⟨ep2, sl2, lb2, gn2, ci2⟩, g)) (h3 : (g = 0 ∧ put_ ⟨ep2, sl2, lb2, gn2, ci2⟩ = (b, 0)) ∨ g = 3)
    (hd : held b = (t, k)) (h4 : (k = 0 ∧ hold t = (b, 0)) ∨ k = 3) :
    Calls Try.prog 5 #[.agg #[.int .i64 ep, .int .i64 sl, .int .i64 lb, .bool gn, .string ⟨ci.toArray⟩], .string ⟨s.toArray⟩, .string ⟨b.toArray⟩] w fun r w' => r = .returned (.bool true) ∧ Below w.heap.size w w' := by
  obtain ⟨W1, hW1⟩ : ∃ W1, W1 = w.alloc (.cells #[.int .i64 ep, .int .i64 sl, .int .i64 lb, .bool gn, .string ⟨ci.toArray⟩] 23) := ⟨_, rfl⟩
  have SS : Hid (Ws w ep sl lb gn ci W1) := Lib.hid (by rw [hW1]; exact ws_new w ep sl lb gn ci)
  have hz := size_mk ci
  have hy := size_mk s
  have hx := size_mk b
  have HP := Lib.hid (fun W => CelP.Put ep sl lb gn ci W)
  have HH := Lib.hid (fun W => CelP.Hold s W)
  have HT := Lib.hid (fun W => CelT.Take b W)
  have HD := Lib.hid (fun W => CelV.Held b W)
  rw [hp] at HP
  rw [hh] at HH
  rw [ht] at HT
  rw [hd] at HD
  clear hp hh ht hd
  obtain ⟨k0, k1, k2, k3, k4⟩ := SS.out.k.cells
  go_enter Try.func5, Try.ntmps5
  go_upto_region 1 with (fail)
  rw [← hW1]
  clear hW1
  go_upto_region 3 with (fail)
  go_upto_if 44 with (go_at_call 8; refine (HP.out _).mono ?_; rintro r w2 ⟨rfl, hb⟩; replace SS := Lib.hid (SS.out.step hb); clear hb k0 k1 k2 k3 k4)
  go_cut [] (fun wx => Ws w ep sl lb gn ci wx)
  case first =>
    rcases h1 with ⟨rfl, h1, hl⟩ | rfl
    · have HB := Lib.hid (fun W => CelT.Take p W)
      rw [h1] at HB
      have hq := size_mk p
      have heq := fun W => neq_self ep sl lb gn ci W
      go_upto_region 5 with (fail)
      go_upto_region 6 with (first
        | (go_at_call 14; refine (HB.out _).mono ?_; rintro r w3 ⟨rfl, hb⟩; replace SS := Lib.hid (SS.out.step hb); clear hb)
        | (refine wpList_store_row rfl 23 _ _ rfl w3.heap.size _ rfl rfl 23 _ (heap_alloc_new w3 _) infoC rfl (one5 ep sl lb gn ci) ?_))
      generalize hW4 : World.setRow (World.alloc w3 _) _ _ = W4
      replace SS : Hid (Ws w ep sl lb gn ci W4) := Lib.hid (by rw [← hW4]; exact SS.out.step (kept_new _ _ _ _))
      have YY : Hid (Bk W4 w3.heap.size ep sl lb gn ci) := Lib.hid (by rw [← hW4]; exact has_new _ _ _ _)
      clear hW4
      generalize w3.heap.size = Y at *
      obtain ⟨k0, k1, k2, k3, k4⟩ := SS.out.k.cells
      obtain ⟨y0, y1, y2, y3, y4⟩ := YY.out.cells
      go_wp2_with fail
      go_meet
      exact SS.out
    · go_wp2_with fail
      go_meet
      exact SS.out
  case rest =>
    clear SS h1 HP
    have SS := Lib.hid hcut
    clear hcut
    go_upto_if 68 with (go_at_call 10; refine (HH.out _).mono ?_; rintro r w5 ⟨rfl, hb⟩; replace SS := Lib.hid (SS.out.step hb); clear hb)
    go_cut [] (fun wx => Ws w ep sl lb gn ci wx)
    case first =>
      rcases h2 with ⟨rfl, h2, hl⟩ | rfl
      · have HB := Lib.hid (fun W => CelV.Held x W)
        rw [h2] at HB
        have hq := size_mk x
        go_wp2_with (go_at_call 16; refine (HB.out _).mono ?_; rintro r w6 ⟨rfl, hb⟩; replace SS := Lib.hid (SS.out.step hb); clear hb)
        go_meet
        exact SS.out
      · go_wp2_with fail
        go_meet
        exact SS.out
    case rest =>
      clear SS h2 HH
      have SS := Lib.hid hcut
      clear hcut
      go_upto_region 13 with (fail)
      go_upto_region 14 with (first
        | (go_at_call 14; refine (HT.out _).mono ?_; rintro r w7 ⟨rfl, hb⟩; replace SS := Lib.hid (SS.out.step hb); clear hb)
        | (refine wpList_store_row rfl 23 _ _ rfl w7.heap.size _ rfl rfl 23 _ (heap_alloc_new w7 _) infoC rfl (one5 ep2 sl2 lb2 gn2 ci2) ?_))
      generalize hW8 : World.setRow (World.alloc w7 _) _ _ = W8
      replace SS : Hid (Ws w ep sl lb gn ci W8) := Lib.hid (by rw [← hW8]; exact SS.out.step (kept_new _ _ _ _))
      have YY : Hid (Bk W8 w7.heap.size ep2 sl2 lb2 gn2 ci2) := Lib.hid (by rw [← hW8]; exact has_new _ _ _ _)
      clear hW8
      generalize w7.heap.size = Y at *
      obtain ⟨y0, y1, y2, y3, y4⟩ := YY.out.cells
      go_upto_if 92 with (fail)
      go_cut [] (fun wx => Ws w ep sl lb gn ci wx)
      case first =>
        rcases h3 with ⟨rfl, h3⟩ | rfl
        · have HB := Lib.hid (fun W => CelP.Put ep2 sl2 lb2 gn2 ci2 W)
          rw [h3] at HB
          go_wp2_with (go_at_call 8; refine (HB.out _).mono ?_; rintro r w9 ⟨rfl, hb⟩; replace SS := Lib.hid (SS.out.step hb); clear hb y0 y1 y2 y3 y4)
          go_meet
          exact SS.out
        · go_wp2_with fail
          go_meet
          exact SS.out
      case rest =>
        clear SS h3 HT YY y0 y1 y2 y3 y4
        have SS := Lib.hid hcut
        clear hcut
        go_upto_if 111 with (go_at_call 16; refine (HD.out _).mono ?_; rintro r wA ⟨rfl, hb⟩; replace SS := Lib.hid (SS.out.step hb); clear hb)
        rcases h4 with ⟨rfl, h4⟩ | rfl
        · have HB := Lib.hid (fun W => CelP.Hold t W)
          rw [h4] at HB
          go_wp2_with (first
            | (go_at_call 10; refine (HB.out _).mono ?_; rintro r wB ⟨rfl, hb⟩; replace SS := Lib.hid (SS.out.step hb); clear hb)
            | (go_at_call 7; refine (CelY.alive _).mono ?_; rintro r wC ⟨rfl, hb⟩; replace SS := Lib.hid (SS.out.step hb); clear hb))
          go_ret
          exact ⟨rfl, SS.out.bel⟩
        · go_wp2_with (go_at_call 7; refine (CelY.alive _).mono ?_; rintro r wC ⟨rfl, hb⟩; replace SS := Lib.hid (SS.out.step hb); clear hb)
          go_ret
          exact ⟨rfl, SS.out.bel⟩
theorem walk (ep sl lb : Int) (gn : Bool) (ci : List UInt8) (t0 t1 : ByteArray) (w : World) (_ : t0.size ≤ maxLen) (_ : t1.size ≤ maxLen) :
    Calls Try.prog 5 #[.agg #[.int .i64 ep, .int .i64 sl, .int .i64 lb, .bool gn, .string ⟨ci.toArray⟩], .string t0, .string t1] w fun r w' => r = .returned (.bool true) ∧ Below w.heap.size w w' := by
  obtain ⟨⟨s⟩⟩ := t0
  obtain ⟨⟨b⟩⟩ := t1
  by_cases h : 10000 < ci.length
  · exact long ep sl lb gn ci s b w (.inl h)
  · by_cases h' : 10000 < s.length
    · exact long ep sl lb gn ci s b w (.inr (.inl ⟨h, h'⟩))
    · by_cases h'' : 10000 < b.length
      · exact long ep sl lb gn ci s b w (.inr (.inr ⟨h, h', h''⟩))
      · have q1 : ∃ (p : List UInt8) (e : Int), put_ ⟨ep, sl, lb, gn, ci⟩ = (p, e) ∧ ((e = 0 ∧ take p = (⟨ep, sl, lb, gn, ci⟩, 0) ∧ p.length = 4096) ∨ e = 2) := by
          by_cases hm : may ⟨ep, sl, lb, gn, ci⟩
          · exact ⟨_, _, CelN.put_yes hm, .inl ⟨rfl, take_blk hm, blk_len hm.2.2.2.1⟩⟩
          · exact ⟨_, _, CelN.put_no hm, .inr rfl⟩
        have q2 : ∃ (x : List UInt8) (f : Int), hold s = (x, f) ∧ ((f = 0 ∧ held x = (s, 0) ∧ x.length = 4096) ∨ f = 2) := by
          by_cases hm : hmay s
          · exact ⟨_, _, CelN.hold_yes hm, .inl ⟨rfl, held_hblk hm, hblk_len hm.2⟩⟩
          · exact ⟨_, _, CelN.hold_no hm, .inr rfl⟩
        have q3 : ∃ (ep2 sl2 lb2 : Int) (gn2 : Bool) (ci2 : List UInt8) (g : Int), take b = (⟨ep2, sl2, lb2, gn2, ci2⟩, g) ∧ ((g = 0 ∧ put_ ⟨ep2, sl2, lb2, gn2, ci2⟩ = (b, 0)) ∨ g = 3) := by
          by_cases hg : good b
          · exact ⟨_, _, _, _, _, _, take_yes hg, .inl ⟨rfl, put_take hg⟩⟩
          · exact ⟨_, _, _, _, _, _, take_no hg, .inr rfl⟩
        have q4 : ∃ (t : List UInt8) (k : Int), held b = (t, k) ∧ ((k = 0 ∧ hold t = (b, 0)) ∨ k = 3) := by
          by_cases hg : hgood b
          · exact ⟨_, _, held_yes hg, .inl ⟨rfl, hold_held hg⟩⟩
          · exact ⟨_, _, held_no hg, .inr rfl⟩
        obtain ⟨p, e, a1, a2⟩ := q1
        obtain ⟨x, f, b1, b2⟩ := q2
        obtain ⟨e2, s2, l2, g2, c2, g, d1, d2⟩ := q3
        obtain ⟨t, k, f1, f2⟩ := q4
        exact short ep sl lb gn ci s b p x e f e2 s2 l2 g2 c2 g t k w h h' h'' a1 a2 b1 b2 d1 d2 f1 f2
theorem own : ownKnob Try.prog.godebug = none := by kernel_rfl
theorem laidOut : laidOutB Try.prog = true := by kernel_rfl
set_option maxRecDepth 100000 in
theorem lifted (os : Os) (started : os.Started) (H : Type) (enc : TypeId × Value → H) :
    ReturnsInHanded {} Try.checked os 5 .any (Rows.cellBackSpec.pre6 enc Try.prog Try.f5 Rows.cellBackRow.domain false) (Rows.cellBackSpec.post enc Try.prog Try.f5 false true false false) := by
  refine returnsInHanded_of_change (C := Try.checked) own started (by kernel_rfl) Try.func5
    (ChangeSpec.witness6 (enc := enc) (C := Try.checked) false ⟨#[], #[.agg #[.int .i64 0, .int .i64 0, .int .i64 0, .bool false, .string ByteArray.empty], .string ByteArray.empty, .string ByteArray.empty], []⟩ 8 (by kernel_rfl) (by kernel_rfl) (by kernel_rfl) (by kernel_rfl)) ?_
  intro W base args ds gs before hval0 hW hcnd _
  have hval : ∀ (j : Nat) t v, Try.f5.params[j]? = some t → args[j]? = some v → Value.okWide Try.prog W .any base t v := hval0
  have hW' := hW
  obtain ⟨p, q, hA0, hV, rfl, hfz, hnd⟩ := hW
  have hA : DataW.TrodAll enc Try.prog W 0 (fun _ => true) true Try.f5.params.toList args.toList ds p := hA0
  rw [Try.params5] at hA hval
  obtain ⟨v0, vs0, d0, ds0, p0, q0, hargs, rfl, rfl, h0, r0⟩ := trodAll_cons hA
  obtain ⟨v1, vs1, d1, ds1, p1, q1, rfl, rfl, rfl, h1, r1⟩ := trodAll_cons r0
  obtain ⟨v2, vs2, d2, ds2, p2, q2, rfl, rfl, rfl, h2, r2⟩ := trodAll_cons r1
  obtain ⟨rfl, rfl, rfl⟩ := trodAll_nil r2
  obtain rfl : args = #[v0, v1, v2] := by cases args; simp_all
  obtain ⟨rfl, rfl⟩ := trodVars_none hV
  have k0 := h0
  have lt0 : ∀ x ∈ p0, x.block < W.heap.size := by obtain ⟨m, hm⟩ := k0; exact DataW.trod_lt m _ _ _ hm
  obtain ⟨ep0, sl0, lb0, gn0, ci0, rfl⟩ := CelY.open_cell (hval 0 23 v0 rfl rfl) h0
  obtain ⟨a1, rfl, rfl, rfl, w1⟩ := open_string Try.underlying9 (hval 1 9 v1 rfl rfl) h1
  obtain ⟨a2, rfl, rfl, rfl, w2⟩ := open_string Try.underlying9 (hval 2 9 v2 rfl rfl) h2
  clear hA0 hval0
  refine (walk ep0 sl0 lb0 gn0 ci0 a1 a2 W w1 w2).mono fun e W' ⟨he, bel⟩ => ?_
  subst he
  exact ⟨_, rfl, _, _, _, [], _, [], hW', trodAll_mk1 (shut_bool Try.underlying4 _), (trodAll_cons_mk (Below.trod laidOut (by kernel_rfl) (of_decide_eq_true (by kernel_rfl)) k0 bel lt0) (trodAll_cons_mk (shut_string Try.underlying9 w1) (trodAll_cons_mk (shut_string Try.underlying9 w2) trodAll_mk0))), rfl, bel.frame _, fun h => by cases h⟩
theorem over : Rows.cellBackRow.holds Try.pinned (OpenSpec.ofChange Rows.cellBackSpec) :=
  OpenClaim.holds_of_wide 5 Try.f5 rfl rfl rfl rfl rfl rfl rfl ⟨rfl, rfl, rfl, rfl, rfl⟩ rfl rfl rfl rfl rfl (by kernel_rfl) Try.func5 (by kernel_rfl)
    (of_decide_eq_true (by kernel_rfl)) (by unfold Func.isWrapper; first | (rw [if_pos (by decide +kernel)]; kernel_rfl) | (rw [if_neg (by decide +kernel)]; exact ⟨rfl, rfl⟩))
    (fun os started H enc _ => lifted os started H enc)
/-- THE STATEMENT, proved. -/
theorem proved : Rows.CellBackSaid := over
#print axioms proved
end Go.Proofs.Yteobimhibhfokaa.cellBack
