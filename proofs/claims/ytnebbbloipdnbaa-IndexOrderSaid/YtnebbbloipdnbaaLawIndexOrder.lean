/- IndexOrder: at any row of at most 200 versions (longer ones: only the chapter's example) and one more: in whatever order they are added, all stand the same; a copy is apart. No conditions. -/
import Derived.Test.YtnebbbloipdnbaaIdxY
import Derived.Test.YtnebbbloipdnbaaIdxQ
import Derived.Test.YtnebbbloipdnbaaRows
import Derived.WalkKit
import Derived.ProofKit
import Derived.OpenShut
import Derived.ShutString
import Derived.ChangeOld
import Derived.Below
namespace Go.Proofs.Ytnebbbloipdnbaa.indexOrder
open Go.ChangeShapes Go.WideShapes Go.ChangeAt Go.RowKit
open Go.ChangeMaps (open_string shut_string)
set_option linter.unusedVariables false
open IdxN IdxM IdxC IdxD IdxH IdxI IdxJ IdxK IdxV IdxW IdxY
set_option maxRecDepth 100000 in
theorem short (a : Option Addr) (n c : Nat) (x : V) (w : World) (hn : n ≤ maxLen) (h : 200 < n) :
    Calls Try.prog 4 #[.slice a n c, .agg #[.int .i64 x.1, .int .i64 x.2.1, .int .i64 x.2.2]] w fun e w' => e = .returned (.bool true) ∧ Below w.heap.size w w' := by
  have HB := Lib.hid (below_new w (.cells #[.int .i64 x.1, .int .i64 x.2.1, .int .i64 x.2.2] 27))
  have HA := Lib.hid (fun W => IdxO.alive W)
  unfold maxLen at hn
  have h0' : decide ((200 : Int) < (n : Int)) = true := decide_eq_true (by omega)
  clear h
  go_enter Try.func4, Try.ntmps4
  go_upto_region 1 with (fail)
  generalize World.alloc w _ = W1 at *
  go_wp2_with (go_at_call 7; refine (HA.out _).mono ?_; rintro e w1 ⟨rfl, hb⟩; have B2 := Lib.hid (HB.out.trans (hb.mono HB.out.size)); clear hb)
  go_ret
  exact ⟨rfl, B2.out⟩
/-- What stands while the last row runs. -/
structure Or_ (w : World) (X Y : Nat) (r : List V) (p : Option Addr) (W : World) : Prop where
  bel : Below w.heap.size w W
  rx : Rd (some ⟨X, 0, none⟩) r W
  ry : Rd (some ⟨Y, 0, none⟩) r W
  was : Lies W p r
theorem Or_.step {w W W' : World} {X Y : Nat} {r : List V} {p : Option Addr} (h : Or_ w X Y r p W) (hb : Below W.heap.size W W') : Or_ w X Y r p W' := ⟨h.bel.trans (hb.mono h.bel.size), h.rx.step hb, h.ry.step hb, h.was.step hb⟩
theorem ofL_down (l : List V) (k : Nat) (h : k < l.length) : ofL (l.drop k).reverse = add (ofL (l.drop (k + 1)).reverse) l[k] := by
  rw [List.drop_eq_getElem_cons h, List.reverse_cons, ofL_snoc]
set_option maxRecDepth 100000 in
set_option maxHeartbeats 4000000 in
theorem long (a : Option Addr) (n c : Nat) (l : List V) (x : V) (w : World) (hz : Vers w a n l) (hn : n ≤ 200) :
    Calls Try.prog 4 #[.slice a n c, .agg #[.int .i64 x.1, .int .i64 x.2.1, .int .i64 x.2.2]] w fun e w' => e = .returned (.bool true) ∧ Below w.heap.size w w' := by
  obtain ⟨rfl, _, hlies⟩ := hz
  have HB := Lib.hid (below_new w (.cells #[.int .i64 x.1, .int .i64 x.2.1, .int .i64 x.2.2] 27))
  have HX := Lib.hid (box_new w x)
  have HL := Lib.hid hlies
  have HO := Lib.hid (fun W (h : Lies W a l) => IdxO.of a c l W h (by omega))
  have HNew := Lib.hid (fun W => New W)
  have hle := ofL_length l
  have hso := ofL_sorted l
  have h0' : decide ((200 : Int) < (l.length : Int)) = false := decide_eq_false (by omega)
  have HAdd := Lib.hid (fun B X H v r u W (h : Ix B X H v r W) (hs : Sorted r) (hl : r.length ≤ 100000) => IdxB.Add (B := B) (X := X) (H := H) (v := v) (r := r) u W h hs hl)
  have HD := Lib.hid (ofL_down l)
  have HCopy := Lib.hid (fun B X H v W (h : Ix B X H v (ofL l) W) => IdxX.Copy B X H v (ofL l) W h (by omega))
  have HAll := Lib.hid (fun s W (h : Rd s (ofL l) W) => All s (ofL l) W h (by omega))
  have HP := Lib.hid (fun s W (h : Rd s (ofL l) W) => Places s (ofL l) W h (by omega) hso)
  have HSame := Lib.hid (fun p q c d W (h : Lies W p (ofL l)) (k : Lies W q (ofL l)) => IdxQ.Same p q c d (ofL l) (ofL l) W h k (by omega) (by omega))
  have hd : decide (ofL l = ofL l) = true := decide_eq_true rfl
  rw [hd] at HSame
  have HR := Lib.hid (ofL_reverse l)
  clear hlies hle hso hd
  obtain ⟨x0, x1, x2⟩ := x
  dsimp only at HB HX
  go_enter Try.func4, Try.ntmps4
  go_upto_region 1 with (fail)
  generalize World.alloc w _ = W1 at *
  have L1 := Lib.hid (HL.out.step HB.out)
  go_upto_region 4 with (first
    | (go_at_call 22; refine (HO.out _ L1.out).mono ?_; rintro e w2 ⟨X, H, v, rfl, hix, hb⟩; have I2 := Lib.hid hix; have B2 := Lib.hid (HB.out.trans (hb.mono HB.out.size)); have X2 := Lib.hid (HX.out.step hb); have L2 := Lib.hid (L1.out.step hb); clear hix hb)
    | (go_at_call 8; refine (HNew.out _).mono ?_; rintro e w3 ⟨Y, J, u, rfl, hiy, hb⟩; have J3 := Lib.hid hiy; have B3 := Lib.hid hb; clear hiy hb))
  go_wp2_with fail
  go_loopw [7] (fun i wr => ∃ (m : Nat) (u : Value), m ≤ l.length ∧ i = .int .i64 ((m : Int) - 1) ∧ Ix w2.heap.size Y J u (ofL (l.drop m).reverse) wr ∧ Below w2.heap.size w2 wr) (fun i _ => (intOf i + 1).toNat)
  case atStart => exact ⟨l.length, u, Nat.le_refl _, rfl, by rw [List.drop_length]; exact J3.out, B3.out⟩
  case round =>
    obtain ⟨m, u, hm, rfl, hiy, hb⟩ := hrel
    have JW := Lib.hid hiy
    have BW := Lib.hid hb
    clear hiy hb
    cases m with
    | succ k =>
      rw [show ((k + 1 : Nat) : Int) - 1 = (k : Int) by omega]
      have hk : k < l.length := by omega
      have hkl : (k : Int) < (l.length : Int) := by omega
      have hk0 : (0 : Int) ≤ (k : Int) := by omega
      obtain ⟨g, o, rfl, hg, hat⟩ := (L2.out.step BW.out).at_ (by omega)
      obtain ⟨m0, m1, m2⟩ := hat k hk
      have HS := Lib.hid (HD.out k hk)
      have hso := ofL_sorted (l.drop (k + 1)).reverse
      have hle : (ofL (l.drop (k + 1)).reverse).length ≤ 100000 := by
        have := ofL_length (l.drop (k + 1)).reverse
        rw [List.length_reverse, List.length_drop] at this
        omega
      clear hat
      generalize l[k] = v at *
      generalize ofL (l.drop (k + 1)).reverse = r at *
      have HA := Lib.hid (HAdd.out w2.heap.size Y J u r v wr JW.out hso hle)
      clear hso hle
      obtain ⟨v0, v1, v2⟩ := v
      dsimp only at m0 m1 m2 HA
      go_wp2_with (go_at_call 10; refine HA.out.mono ?_; rintro e w4 ⟨rfl, hadd⟩; have D4 := Lib.hid hadd; clear hadd HA)
      go_roundw
      case rel =>
        obtain ⟨u', q1, q2, q3⟩ := D4.out
        exact ⟨k, u', by omega, by go_num, by rw [HS.out]; exact q1, BW.out.trans (IdxO.Added.below JW.out ⟨u', q1, q2, q3⟩ BW.out.size)⟩
      case measure => first | (simp [intOf]; done) | (simp [intOf]; omega)
    | zero =>
      have hr : ofL (l.drop 0).reverse = ofL l := by rw [List.drop_zero, HR.out]
      rw [hr] at JW
      rw [show ((0 : Nat) : Int) - 1 = -1 by omega]
      have I4 := Lib.hid (I2.out.step BW.out)
      have B4 := Lib.hid (B2.out.trans (BW.out.mono B2.out.size))
      have X4 := Lib.hid (X2.out.step BW.out)
      clear hr J3 B3 HD HR I2 B2 X2 L2 L1 HX HB HL HO HNew
      obtain ⟨w4, hw4⟩ : ∃ w4 : World, w4 = wr := ⟨_, rfl⟩
      subst hw4
      have hsl := ofL_sorted l
      have hll : (ofL l).length ≤ 100000 := by have := ofL_length l; omega
      have HAl := Lib.hid (fun B X H v W (h : Ix B X H v (ofL l) W) => HAdd.out B X H v (ofL l) (x0, x1, x2) W h hsl hll)
      clear hsl hll HAdd
      dsimp only at HAl
      generalize ofL l = r at *
      go_upto_region 11 with (first
        | (go_at_call 21; refine (HCopy.out _ X H v _ I4.out).mono ?_; rintro e w5 ⟨C, K, vc5, rfl, hic, hb⟩; have C5 := Lib.hid hic; have B5 := Lib.hid hb; clear hic hb HCopy)
        | (go_at_call 17; refine (HAll.out _ _ (IdxW.Ix.rd (I4.out.step B5.out))).mono ?_; rintro e w6 ⟨v6, rfl, o6, k6⟩; obtain ⟨p6, c6, rfl⟩ := own_slice_len o6; have O6 := Lib.hid o6; have B6 := Lib.hid k6; obtain ⟨k0, k1, k2⟩ := (X4.out.step B5.out).step k6; dsimp only at k0 k1 k2; clear o6 k6)
        | (go_at_call 10; refine (HAl.out _ C K vc5 _ (C5.out.step B6.out)).mono ?_; rintro e w7 ⟨rfl, hadd⟩; have D7 := Lib.hid hadd; clear hadd HAl))
      have b7 : Below w4.heap.size w4 w7 := (B5.out.trans (B6.out.mono B5.out.size)).trans (IdxO.Added.below (C5.out.step B6.out) D7.out (Nat.le_trans B5.out.size B6.out.size))
      have hwas : Lies w7 p6 r := by
        obtain ⟨_, _, _, hkept⟩ := D7.out
        exact own_lies (own_kept O6.out fun k hk => hkept.block k (O6.out.lt k hk).2 fun hf => by
          have h1 := (C5.out.foot k hf).2
          have h2 := (O6.out.lt k hk).1
          omega)
      have R : Hid (Or_ w X Y r p6 w7) := Lib.hid ⟨B4.out.trans (b7.mono B4.out.size), IdxW.Ix.rd (I4.out.step b7), IdxW.Ix.rd (JW.out.step b7), hwas⟩
      clear b7 hwas D7 O6 B6 C5 B5 I4 JW X4 B4 k0 k1 k2
      have F1 : Hid True := Lib.hid trivial
      have F2 : Hid True := Lib.hid trivial
      have F3 : Hid True := Lib.hid trivial
      have F4 : Hid True := Lib.hid trivial
      go_wp2_with (first
        | (clear F1; go_at_call 17; refine (HAll.out _ _ R.out.rx).mono ?_; rintro e w8 ⟨v8, rfl, o8, k⟩; obtain ⟨p8, c8, rfl⟩ := own_slice_len o8; have L8 := Lib.hid (own_lies o8); replace R := Lib.hid (R.out.step k); clear o8 k)
        | (clear F2; go_at_call 17; refine (HAll.out _ _ R.out.ry).mono ?_; rintro e w9 ⟨v9, rfl, o9, k⟩; obtain ⟨p9, c9, rfl⟩ := own_slice_len o9; have L9 := Lib.hid (own_lies o9); replace L8 := Lib.hid (L8.out.step k); replace R := Lib.hid (R.out.step k); clear o9 k)
        | (clear F3; go_at_call 14; refine (HSame.out _ _ _ _ _ L8.out L9.out).mono ?_; rintro e w10 ⟨rfl, k⟩; replace R := Lib.hid (R.out.step k); clear k L8 L9)
        | (clear F4; go_at_call 17; refine (HAll.out _ _ R.out.rx).mono ?_; rintro e w11 ⟨v11, rfl, o11, k⟩; obtain ⟨p11, c11, rfl⟩ := own_slice_len o11; have L11 := Lib.hid (own_lies o11); replace R := Lib.hid (R.out.step k); clear o11 k)
        | (go_at_call 14; refine (HSame.out _ _ _ _ _ L11.out R.out.was).mono ?_; rintro e w12 ⟨rfl, k⟩; replace R := Lib.hid (R.out.step k); clear k L11)
        | (go_at_call 19; refine (HP.out _ _ R.out.rx).mono ?_; rintro e w13 ⟨rfl, k⟩; replace R := Lib.hid (R.out.step k); clear k)
        | (go_at_call 19; refine (HP.out _ _ R.out.ry).mono ?_; rintro e w14 ⟨rfl, k⟩; replace R := Lib.hid (R.out.step k); clear k)
        | (go_at_call 7; refine (IdxO.alive _).mono ?_; rintro e w15 ⟨rfl, k⟩; replace R := Lib.hid (R.out.step k); clear k))
      go_ret
      exact ⟨rfl, R.out.bel⟩
theorem walk (a : Option Addr) (n c : Nat) (l : List V) (x : V) (w : World) (wl : Vers w a n l) :
    Calls Try.prog 4 #[.slice a n c, .agg #[.int .i64 x.1, .int .i64 x.2.1, .int .i64 x.2.2]] w fun e w' => e = .returned (.bool true) ∧ Below w.heap.size w w' := by
  by_cases h : 200 < n
  · exact short a n c x w wl.2.1 h
  · exact long a n c l x w wl (by omega)
theorem own : ownKnob Try.prog.godebug = none := by kernel_rfl
theorem laidOut : laidOutB Try.prog = true := by kernel_rfl
set_option maxRecDepth 100000 in
theorem lifted (os : Os) (started : os.Started) (H : Type) (enc : TypeId × Value → H) :
    ReturnsInHanded {} Try.checked os 4 .any (Rows.indexOrderSpec.pre6 enc Try.prog Try.f4 Rows.indexOrderRow.domain false) (Rows.indexOrderSpec.post enc Try.prog Try.f4 false true false false) := by
  refine returnsInHanded_of_change (C := Try.checked) own started (by kernel_rfl) Try.func4
    (ChangeSpec.witness6 (enc := enc) (C := Try.checked) false ⟨#[], #[.slice none 0 0, .agg #[.int .i64 0, .int .i64 0, .int .i64 0]], []⟩ 8 (by kernel_rfl) (by kernel_rfl) (by kernel_rfl) (by kernel_rfl)) ?_
  intro W base args ds gs before hval0 hW hcnd _
  have hval : ∀ (j : Nat) t v, Try.f4.params[j]? = some t → args[j]? = some v → Value.okWide Try.prog W .any base t v := hval0
  have hW' := hW
  obtain ⟨p, q, hA0, hV, rfl, hfz, hnd⟩ := hW
  have hA : DataW.TrodAll enc Try.prog W 0 (fun _ => true) true Try.f4.params.toList args.toList ds p := hA0
  rw [Try.params4] at hA hval
  obtain ⟨v0, vs0, d0, ds0, p0, q0, hargs, rfl, rfl, h0, r0⟩ := trodAll_cons hA
  obtain ⟨v1, vs1, d1, ds1, p1, q1, rfl, rfl, rfl, h1, r1⟩ := trodAll_cons r0
  obtain ⟨rfl, rfl, rfl⟩ := trodAll_nil r1
  obtain rfl : args = #[v0, v1] := by cases args; simp_all
  obtain ⟨rfl, rfl⟩ := trodVars_none hV
  have k0 := h0
  have lt0 : ∀ x ∈ p0, x.block < W.heap.size := by obtain ⟨m, hm⟩ := k0; exact DataW.trod_lt m _ _ _ hm
  obtain ⟨b0, len0, ca0, rfl⟩ := okWide_slice Try.underlying22 (hval 0 22 v0 rfl rfl)
  obtain ⟨a0, n0, cap0, z0, he0, w0⟩ := IdxY.open_vers h0
  simp only [Value.cells, List.cons.injEq, Value.slice.injEq, and_true] at he0
  obtain ⟨rfl, rfl, rfl⟩ := he0
  have k1 := h1
  have lt1 : ∀ x ∈ p1, x.block < W.heap.size := by obtain ⟨m, hm⟩ := k1; exact DataW.trod_lt m _ _ _ hm
  obtain ⟨a1, rfl⟩ := IdxY.open_ver (hval 1 27 v1 rfl rfl) h1
  clear hA0 hval0
  refine (walk b0 len0 ca0 z0 a1 W w0).mono fun e W' ⟨he, bel⟩ => ?_
  subst he
  exact ⟨_, rfl, _, _, _, [], _, [], hW', trodAll_mk1 (shut_bool Try.underlying4 _), (trodAll_cons_mk (Below.trod laidOut (by kernel_rfl) (of_decide_eq_true (by kernel_rfl)) k0 bel lt0) (trodAll_cons_mk (Below.trod laidOut (by kernel_rfl) (of_decide_eq_true (by kernel_rfl)) k1 bel lt1) trodAll_mk0)), rfl, bel.frame _, fun h => by cases h⟩
theorem over : Rows.indexOrderRow.holds Try.pinned (OpenSpec.ofChange Rows.indexOrderSpec) :=
  OpenClaim.holds_of_wide 4 Try.f4 rfl rfl rfl rfl rfl rfl rfl ⟨rfl, rfl, rfl, rfl, rfl⟩ rfl rfl rfl rfl rfl (by kernel_rfl) Try.func4 (by kernel_rfl)
    (of_decide_eq_true (by kernel_rfl)) (by unfold Func.isWrapper; first | (rw [if_pos (by decide +kernel)]; kernel_rfl) | (rw [if_neg (by decide +kernel)]; exact ⟨rfl, rfl⟩))
    (fun os started H enc _ => lifted os started H enc)
/-- THE STATEMENT, proved. -/
theorem proved : Rows.IndexOrderSaid := over
#print axioms proved
end Go.Proofs.Ytnebbbloipdnbaa.indexOrder
