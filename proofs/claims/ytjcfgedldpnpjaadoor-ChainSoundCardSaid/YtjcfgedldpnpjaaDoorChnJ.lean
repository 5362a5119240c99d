/- The main walk of the statement of forged tags: two rows that are right. The condition: the rounds' numbers lie in the program's variable. -/
import Derived.Test.YtjcfgedldpnpjaaDoorLChy
import Derived.Test.YtjcfgedldpnpjaaDoorChnE
import Derived.Test.YtjcfgedldpnpjaaDoorLChs
import Derived.Test.YtjcfgedldpnpjaaDoorChnH
import Derived.Test.YtjcfgedldpnpjaaDoorLEvo
import Derived.Deep.RegionHeld3
import Derived.BigQuiet
namespace Go.Proofs.YtjcfgedldpnpjaaDoor.ChnJ
set_option linter.unusedVariables false
open Go.RowKit
open RecN RecC STurn SSum EvoN ChnN ChnM ChnC ChnD ChnA ChnF ChnG ChnS ChnT ChnL ChnK ChnE
theorem cond_at {A C : List Sd} {bl : Int} {k : Nat} {x : Sd} (h : A[k]? = some x) : ChnM.cond A C bl k = (decide (bl ≤ x.1.ep) || decide (C[k]? = some x)) := by
  unfold ChnM.cond
  rw [h]
/-- A right row's epochs are at most 4096 beyond the first one. -/
theorem near {root : List UInt8} {f : Int} {T : List Sd} (h : ChnM.Good root f T) (hf : farB f (recs T) = false) {k : Nat} (hk : k < T.length) : T[k].1.ep - f ≤ 4096 := by
  have key : ∀ (p : List Sd) (x : Sd), T = p ++ [x] → T[k].1.ep - f ≤ 4096 := fun p x e => by
    subst e
    have e : recs (p ++ [x]) = recs p ++ [x.1] := by unfold recs; rw [List.map_append]; rfl
    rw [e, far_snoc] at hf
    have h1 := of_decide_eq_false hf
    have hp : p.length < (p ++ [x]).length := by simp
    have h2 := (h.at_ hp).2
    have h3 := (h.at_ hk).2
    rw [List.getElem_append_right (Nat.le_refl _)] at h2
    simp only [Nat.sub_self, List.getElem_cons_zero] at h2
    have h4 : opn f ((recs (p ++ [x])).take k) ≤ opn f ((recs (p ++ [x])).take p.length) := opn_take _ _ (by simp at hk; omega)
    rw [← h2, ← h3] at h4
    omega
  rcases List.eq_nil_or_concat T with h0 | ⟨p, x, h0⟩
  · subst h0
    simp at hk
  · exact key p x (by rw [h0, List.concat_eq_append])
theorem good_of {root : List UInt8} {f : Int} {s : List Sd} (h : okR root f (recs s)) (ht : tagsOk root f s) : ChnM.Good root f s := ⟨h.2.2.1, ht⟩
section
variable (root : List UInt8) (f : Int) (a : Option Addr) (n c : Nat) (M : List Sd) (b : Option Addr) (m d : Nat) (T : List Sd) (bl : Int) (w : World) (hf : f ≤ 9223372036854775807) (hM : Came w a n c M) (hT : Came w b m d T) (hr : Rds w) (fM : fewB M = true) (fT : fewB T = true)
include hf hM hT hr fM fT
set_option maxRecDepth 100000 in
set_option maxHeartbeats 8000000 in
theorem main (hoM : okR root f (recs M)) (htM : tagsOk root f M) (hoT : okR root f (recs T)) (htT : tagsOk root f T) (hbM : bl ≤ opn f (recs M)) (hbT : bl ≤ opn f (recs T)) :
    Calls Tryd.prog 5 #[.string ⟨root.toArray⟩, .int .i64 f, .slice a n c, .slice b m d, .int .i64 bl] w fun e w' => e = .returned (.bool true) ∧ Below w.heap.size w w' := by
  obtain ⟨hn60, _⟩ := few_in fM
  obtain ⟨hm60, _⟩ := few_in fT
  have hMl := hM.1
  have hTl := hT.1
  rw [hMl] at hn60
  rw [hTl] at hm60
  have HLM := Lib.hid hM.2.2.2.2
  have HLT := Lib.hid hT.2.2.2.2
  have HFM := Lib.hid (Few a n c M w hM.2.2.2.2 hM.1 hM.2.1 hM.2.2.2.1)
  have HFT := Lib.hid (fun W (hb : Below w.heap.size w W) => Few b m d T W (hT.2.2.2.2.step hb) hT.1 hT.2.1 hT.2.2.2.1)
  rw [fM] at HFM
  rw [fT] at HFT
  have HCM := Lib.hid (fun W (hb : Below w.heap.size w W) => ChnV.Check root f a n c M W (hM.2.2.2.2.step hb) hM.1 (by omega) (hr.step hb))
  have HCT := Lib.hid (fun W (hb : Below w.heap.size w W) => ChnV.Check root f b m d T W (hT.2.2.2.2.step hb) hT.1 (by omega) (hr.step hb))
  rw [check_good hoM htM, hMl] at HCM
  rw [check_good hoT htT, hTl] at HCT
  have HFo := Lib.hid (fun W (hb : Below w.heap.size w W) => ChnH.Forge a n c M b m d T bl W (hM.2.2.2.2.step hb) (hT.2.2.2.2.step hb) hMl hTl (by omega) (by omega) hT.2.2.1)
  have HR := Lib.hid hr
  have hGM := good_of hoM htM
  have hGT := good_of hoT htT
  have HSame := Lib.hid (sound_same hGM hGT hbT (by omega))
  have HForged := Lib.hid (sound_forged (b := bl) hGM hGT (by omega) (by omega))
  have HNear := Lib.hid (fun k (hk : k < T.length) => near hGT hoT.2.2.2 hk)
  have HGM := Lib.hid hGM
  have HGT := Lib.hid hGT
  have HOk := Lib.hid hoT
  have hnc := hM.2.2.1
  have pa : ¬ opn f (recs M) < bl := by omega
  have pb : ¬ opn f (recs T) < bl := by omega
  have F1 : Hid True := Lib.hid trivial
  have F2 : Hid True := Lib.hid trivial
  clear hM hT hr fM fT hoM htM hoT htT hbM hbT hGM hGT
  generalize hxm : opn f (recs M) = xm at *
  generalize hxt : opn f (recs T) = xt at *
  clear hxm hxt
  go_enter Tryd.func5, Tryd.ntmps5
  go_wp2_with (first
    | (clear F1; go_at_call 13; refine HFM.out.mono ?_; rintro e w2 ⟨rfl, hb⟩; have B := Lib.hid hb; clear hb HFM)
    | (go_at_call 13; refine (HFT.out _ B.out).mono ?_; rintro e w3 ⟨rfl, hb⟩; replace B := Lib.hid (B.out.trans (hb.mono B.out.size)); clear hb HFT)
    | (clear F2; go_at_call 16; refine (HCM.out _ B.out).mono ?_; rintro e w4 ⟨rfl, hb⟩; replace B := Lib.hid (B.out.trans (hb.mono B.out.size)); clear hb HCM)
    | (go_at_call 16; refine (HCT.out _ B.out).mono ?_; rintro e w5 ⟨rfl, hb⟩; replace B := Lib.hid (B.out.trans (hb.mono B.out.size)); clear hb HCT))
  go_loopw [17, 76] (fun ev iv wr => ∃ k : Nat, k ≤ n ∧ iv = .int .i64 k ∧ ev = .bool (ChnM.side M T bl k) ∧ Below w.heap.size w wr) (fun _ iv _ => n - (intOf iv).toNat)
  case atStart => exact ⟨0, Nat.zero_le _, rfl, rfl, B.out⟩
  case round =>
    obtain ⟨k, hk, rfl, rfl, hb⟩ := hrel
    have HB := Lib.hid hb
    clear hb
    by_cases hlt : k < n
    · have hkM : k < M.length := by omega
      obtain ⟨g1, o1, rfl, hg1, hc1⟩ := HLM.out.at9 (by omega)
      have hx9 := (hc1 k hkM).step hg1 HB.out
      have HS := Lib.hid (side_succ M T bl k)
      have hcd := cond_at (C := T) (bl := bl) (List.getElem?_eq_getElem hkM)
      generalize M[k] = x at *
      have p0 : (0 : Int) ≤ (k : Int) := by omega
      have p1 : (k : Int) < (n : Int) := by omega
      obtain ⟨q0, q1, q2, q3, q4, q5, q6, q7, q8⟩ := hx9
      clear hc1
      generalize ChnM.cond M T bl k = cv at *
      generalize hte : ChnM.side M T bl k = te at *
      clear hte
      have hte : te = false ∨ te = true := by cases te <;> simp
      rcases hte with rfl | rfl
      · clear hcd
        go_upto_region 11 with (fail)
        go_quiet (fail)
        go_wp2
        go_roundw
        case rel => exact ⟨k + 1, by omega, by go_num, by rw [HS.out]; rfl, HB.out.trans (below_drewN _ _)⟩
        case measure => simp [intOf]; omega
      · by_cases hge : bl ≤ x.1.ep
        · have hd : decide (bl ≤ x.1.ep) = true := dt hge
          rw [hd, Bool.true_or] at hcd
          subst hcd
          go_upto_region 11 with (fail)
          go_quiet (fail)
          go_wp2
          go_roundw
          case rel => exact ⟨k + 1, by omega, by go_num, by rw [HS.out]; rfl, HB.out.trans (below_drewN _ _)⟩
          case measure => simp [intOf]; omega
        · have hd : decide (bl ≤ x.1.ep) = false := df hge
          rw [hd, Bool.false_or] at hcd
          by_cases hkm : k < m
          · have hkT : k < T.length := by omega
            obtain ⟨g2, o2, rfl, hg2, hc2⟩ := HLT.out.at9 (by omega)
            have hy9 := (hc2 k hkT).step hg2 HB.out
            rw [List.getElem?_eq_getElem hkT] at hcd
            generalize T[k] = y at *
            obtain ⟨u0, u1, u2, u3, u4, u5, u6, u7, u8⟩ := hy9
            clear hc2
            have hq : decide (y = x) = cv := by rw [hcd]; simp
            have heq := run_eql_sd y x cv hq
            have p2 : (k : Int) < (m : Int) := by omega
            have hd2 : decide ((k : Int) < (m : Int)) = true := dt p2
            clear hq hcd
            go_upto_region 11 with (fail)
            go_quiet (fail)
            go_wp2
            go_roundw
            case rel => exact ⟨k + 1, by omega, by go_num, by rw [HS.out]; rfl, HB.out.trans (below_drewN _ _)⟩
            case measure => simp [intOf]; omega
          · rw [List.getElem?_eq_none (by omega)] at hcd
            have hcd2 : cv = false := by rw [hcd]; simp
            subst hcd2
            have p2 : ¬ (k : Int) < (m : Int) := by omega
            have hd2 : decide ((k : Int) < (m : Int)) = false := df p2
            clear hcd
            go_upto_region 11 with (fail)
            go_quiet (fail)
            go_wp2
            go_roundw
            case rel => exact ⟨k + 1, by omega, by go_num, by rw [HS.out]; rfl, HB.out.trans (below_drewN _ _)⟩
            case measure => simp [intOf]; omega
    · obtain rfl : n = k := by omega
      have pk : ¬ (n : Int) < (n : Int) := by omega
      go_wp2_with fail
      clear pk
      generalize hs1 : ChnM.side M T bl n = s1 at *
      go_loopw [17, 110] (fun ev iv wr => ∃ k : Nat, k ≤ m ∧ iv = .int .i64 k ∧ ev = .bool (s1 && ChnM.side T M bl k) ∧ Below w.heap.size w wr) (fun _ iv _ => m - (intOf iv).toNat)
      case atStart => exact ⟨0, Nat.zero_le _, rfl, by rw [side_zero, Bool.and_true], HB.out⟩
      case round =>
        obtain ⟨k, hk, rfl, rfl, hb⟩ := hrel
        have HD := Lib.hid hb
        clear hb
        by_cases hlt : k < m
        · have hkM : k < T.length := by omega
          obtain ⟨g1, o1, rfl, hg1, hc1⟩ := HLT.out.at9 (by omega)
          have hx9 := (hc1 k hkM).step hg1 HD.out
          have HS := Lib.hid (side_succ T M bl k)
          have hcd := cond_at (C := M) (bl := bl) (List.getElem?_eq_getElem hkM)
          generalize T[k] = x at *
          have p0 : (0 : Int) ≤ (k : Int) := by omega
          have p1 : (k : Int) < (m : Int) := by omega
          obtain ⟨q0, q1, q2, q3, q4, q5, q6, q7, q8⟩ := hx9
          clear hc1
          generalize ChnM.cond T M bl k = cv at *
          generalize hte : ChnM.side T M bl k = te at *
          clear hte
          generalize hts : (s1 && te) = ts at *
          have HS2 : Hid ((s1 && (te && cv)) = (ts && cv)) := Lib.hid (by rw [← hts, Bool.and_assoc])
          clear hts
          have hte : ts = false ∨ ts = true := by cases ts <;> simp
          rcases hte with rfl | rfl
          · clear hcd
            go_upto_region 16 with (fail)
            go_quiet (fail)
            go_wp2
            go_roundw
            case rel => exact ⟨k + 1, by omega, by go_num, by rw [HS.out, HS2.out]; rfl, HD.out.trans (below_drewN _ _)⟩
            case measure => simp [intOf]; omega
          · by_cases hge : bl ≤ x.1.ep
            · have hd : decide (bl ≤ x.1.ep) = true := dt hge
              rw [hd, Bool.true_or] at hcd
              subst hcd
              go_upto_region 16 with (fail)
              go_quiet (fail)
              go_wp2
              go_roundw
              case rel => exact ⟨k + 1, by omega, by go_num, by rw [HS.out, HS2.out]; rfl, HD.out.trans (below_drewN _ _)⟩
              case measure => simp [intOf]; omega
            · have hd : decide (bl ≤ x.1.ep) = false := df hge
              rw [hd, Bool.false_or] at hcd
              by_cases hkm : k < n
              · have hkT : k < M.length := by omega
                obtain ⟨g2, o2, rfl, hg2, hc2⟩ := HLM.out.at9 (by omega)
                have hy9 := (hc2 k hkT).step hg2 HD.out
                rw [List.getElem?_eq_getElem hkT] at hcd
                generalize M[k] = y at *
                obtain ⟨u0, u1, u2, u3, u4, u5, u6, u7, u8⟩ := hy9
                clear hc2
                have hq : decide (x = y) = cv := by rw [hcd]; exact decide_eq_decide.2 ⟨fun h => by rw [h], fun h => (Option.some.inj h).symm⟩
                have heq := run_eql_sd x y cv hq
                have p2 : (k : Int) < (n : Int) := by omega
                have hd2 : decide ((k : Int) < (n : Int)) = true := dt p2
                clear hq hcd
                go_upto_region 16 with (fail)
                go_quiet (fail)
                go_wp2
                go_roundw
                case rel => exact ⟨k + 1, by omega, by go_num, by rw [HS.out, HS2.out]; rfl, HD.out.trans (below_drewN _ _)⟩
                case measure => simp [intOf]; omega
              · rw [List.getElem?_eq_none (by omega)] at hcd
                have hcd2 : cv = false := by rw [hcd]; simp
                subst hcd2
                have p2 : ¬ (k : Int) < (n : Int) := by omega
                have hd2 : decide ((k : Int) < (n : Int)) = false := df p2
                clear hcd
                go_upto_region 16 with (fail)
                go_quiet (fail)
                go_wp2
                go_roundw
                case rel => exact ⟨k + 1, by omega, by go_num, by rw [HS.out, HS2.out]; rfl, HD.out.trans (below_drewN _ _)⟩
                case measure => simp [intOf]; omega
        · obtain rfl : m = k := by omega
          have pm : ¬ (m : Int) < (m : Int) := by omega
          have hsb : (s1 && ChnM.side T M bl m) = sameB M T bl := by rw [← hs1, sameB, hMl, hTl]
          rw [hsb]
          have HSb := HSame.out
          generalize hsv : sameB M T bl = sb at *
          clear hs1 hsv
          cases sb with
          | true =>
            generalize forge M T bl = z at *
            obtain ⟨z1, z2, z3, z4⟩ := z
            dsimp only at HSb HFo
            obtain rfl : z4 = false := by rw [HSb]; rfl
            clear HSb
            have pm2 := Lib.hid pm
            go_wp2_with (first
              | (go_at_call 18; refine (HFo.out _ HD.out).mono ?_; rintro e w6 ⟨rfl, hb⟩; replace HD := Lib.hid (HD.out.trans (hb.mono HD.out.size)); clear hb HFo)
              | (go_at_call 8; refine (ChnY.alive _ (HR.out.step HD.out)).mono ?_; rintro e w7 ⟨rfl, hb⟩; replace HD := Lib.hid (HD.out.trans (hb.mono HD.out.size)); clear hb))
            go_ret
            exact ⟨rfl, HD.out⟩
          | false =>
            obtain ⟨k', hk', hfo, hlt', hge, _, htag, hne⟩ := HForged.out (by rw [HSb]; rfl)
            have hnr := HNear.out k' hk'
            have hri := (HGT.out.at_ hk').1
            have hbn := (bounds hri).2.1
            have HAt := Lib.hid (fun W hr => EvoA.At root f T[k'].1.ep W hr hf)
            rw [at_good HOk.out.1 HOk.out.2.1.1 hge hbn.2 hnr] at HAt
            have HMa := Lib.hid (fun W hr => EvoP.Mac (keyAt root f T[k'].1.ep) W hr)
            rw [mac_yes (key_len _ _ _)] at HMa
            have hml : (mkey (keyAt root f T[k'].1.ep)).length = 32 := mac_length _ _
            have hsy : sayOk (lastT (T.take k')) (k' : Int) T[k'].1 := ⟨lastT_len (tagsOk_take HGT.out.tg k'), by omega, hri⟩
            have hsl := say_len hsy
            have hbd := bounds hri
            have HHm := Lib.hid (fun W hr => HPart.Mac (mkey (keyAt root f T[k'].1.ep)) (say (lastT (T.take k')) (k' : Int) T[k'].1) W hr (by omega) (by omega))
            rw [← htag] at HHm
            rw [hfo] at HFo
            have HNe := Lib.hid hne
            clear hne htag hfo hsl hbd hml hsy hnr hri hbn HSb
            generalize say (lastT (T.take k')) (k' : Int) T[k'].1 = sy at *
            generalize T[k'] = y at *
            have hkat : nextN (macOf root (saidOf lSeal [f])) (y.1.ep - f).toNat = keyAt root f y.1.ep := rfl
            rw [hkat] at HAt
            clear hkat
            generalize mkey (keyAt root f y.1.ep) = mk at *
            generalize keyAt root f y.1.ep = ky at *
            have r1 : ¬ bl ≤ y.1.ep := by omega
            have r2 : (y.2 != y.2) = false := by simp
            have r3 : (y.2 == y.2) = true := by simp
            clear pm
            go_wp2_with (first
              | (go_at_call 18; refine (HFo.out _ HD.out).mono ?_; rintro e w6 ⟨rfl, hb⟩; replace HD := Lib.hid (HD.out.trans (hb.mono HD.out.size)); clear hb HFo)
              | (go_at_call 19; refine (HAt.out _ (HR.out.step HD.out)).mono ?_; rintro e w7 ⟨rfl, hb⟩; replace HD := Lib.hid (HD.out.trans (hb.mono HD.out.size)); clear hb HAt)
              | (go_at_call 20; refine (HMa.out _ (HR.out.step HD.out)).mono ?_; rintro e w8 ⟨rfl, hb⟩; replace HD := Lib.hid (HD.out.trans (hb.mono HD.out.size)); clear hb HMa)
              | (go_at_call 21; refine (HHm.out _ (HR.out.step HD.out)).mono ?_; rintro e w9 ⟨rfl, hb⟩; replace HD := Lib.hid (HD.out.trans (hb.mono HD.out.size)); clear hb HHm))
            go_loopw [193] (fun iv wr => ∃ j : Nat, j ≤ n ∧ iv = .int .i64 j ∧ Below w.heap.size w wr) (fun iv _ => n - (intOf iv).toNat)
            case atStart => exact ⟨0, Nat.zero_le _, rfl, HD.out⟩
            case round =>
              obtain ⟨j, hj, rfl, hb⟩ := hrel
              have HE := Lib.hid hb
              clear hb
              by_cases hlt : j < n
              · have hjM : j < M.length := by omega
                obtain ⟨g1, o1, rfl, hg1, hc1⟩ := HLM.out.at9 (by omega)
                have hx9 := (hc1 j hjM).step hg1 HE.out
                have hsj : sayOk (lastT (M.take j)) (j : Int) M[j].1 := ⟨lastT_len (tagsOk_take HGM.out.tg j), by omega, (HGM.out.at_ hjM).1⟩
                have HLa := Lib.hid (fun W (hb : Below w.heap.size w W) => Last (some ⟨g1, o1, none⟩) j c (M.take j) W ((HLM.out.step hb).take j) (by rw [List.length_take]; omega) (by unfold maxLen; omega))
                have HSd := Lib.hid (fun W => Said_yes (lastT (M.take j)) (j : Int) M[j].1 W hsj)
                have hnq : (say (lastT (M.take j)) (j : Int) M[j].1 == sy) = false := by rw [beq_eq_false_iff_ne]; exact HNe.out j hjM
                have hcut := cut_s g1 o1 n c j (by omega) (by omega)
                clear hsj
                generalize say (lastT (M.take j)) (j : Int) M[j].1 = sj at *
                generalize lastT (M.take j) = la at *
                generalize M[j] = x at *
                obtain ⟨q0, q1, q2, q3, q4, q5, q6, q7, q8⟩ := hx9
                have p0 : (0 : Int) ≤ (j : Int) := by omega
                have p1 : (j : Int) < (n : Int) := by omega
                clear hc1
                go_upto_region 28 with (refine wpList_store_row rfl 44 _ _ rfl wr.heap.size _ rfl rfl 44 _ (heap_alloc_new wr _) infoS rfl (one9 x) ?_)
                generalize hW : World.setRow _ _ _ = W4
                have b4 : Below wr.heap.size wr W4 := by rw [← hW]; exact kept_new wr _ _ _
                have g4 : Bs W4 wr.heap.size x := by rw [← hW]; exact has_new wr _ _ _
                clear hW q0 q1 q2 q3 q4 q5 q6 q7 q8
                have B4 := Lib.hid ((HE.out.trans (b4.mono HE.out.size)).drew)
                have G4 := Lib.hid (g4.step (Below.refl _ W4).drew)
                clear b4 g4
                have hS := G4.out.cells
                go_region_held3 (fun W' => W'.cell? ⟨wr.heap.size, 0, none⟩ = some (.int .i64 x.1.k) ∧ W'.cell? ⟨wr.heap.size, 1, none⟩ = some (.int .i64 x.1.ep) ∧ W'.cell? ⟨wr.heap.size, 2, none⟩ = some (.int .i64 x.1.tm) ∧ W'.cell? ⟨wr.heap.size, 3, none⟩ = some (.int .i64 x.1.ct) ∧ W'.cell? ⟨wr.heap.size, 4, none⟩ = some (.int .i64 x.1.tg) ∧ W'.cell? ⟨wr.heap.size, 5, none⟩ = some (.int .i64 x.1.un) ∧ W'.cell? ⟨wr.heap.size, 6, none⟩ = some (.string ⟨x.1.rt.toArray⟩) ∧ W'.cell? ⟨wr.heap.size, 7, none⟩ = some (.string ⟨x.1.nm.toArray⟩) ∧ W'.cell? ⟨wr.heap.size, 8, none⟩ = some (.string ⟨x.2.toArray⟩))
                  (exact hS)
                  (first
                    | (go_at_call 22; refine (HLa.out _ B4.out).mono ?_; rintro e5 w5 ⟨rfl, hb⟩; replace B4 := Lib.hid (B4.out.trans (hb.mono B4.out.size)); replace G4 := Lib.hid (G4.out.step hb); replace hS := G4.out.cells; clear hb HLa)
                    | (go_at_call 9; refine (HSd.out _).mono ?_; rintro e6 w6 ⟨rfl, hb⟩; replace B4 := Lib.hid (B4.out.trans (hb.mono B4.out.size)); replace G4 := Lib.hid (G4.out.step hb); replace hS := G4.out.cells; clear hb HSd))
                all_goals
                  go_wp2_with fail
                  go_roundw
                  case rel => exact ⟨j + 1, by omega, by go_num, B4.out⟩
                  case measure => simp [intOf]; omega
              · obtain rfl : n = j := by omega
                have pj : ¬ (n : Int) < (n : Int) := by omega
                go_wp2_with (go_at_call 8; refine (ChnY.alive _ (HR.out.step HE.out)).mono ?_; rintro e w7 ⟨rfl, hb⟩; replace HE := Lib.hid (HE.out.trans (hb.mono HE.out.size)); clear hb)
                go_ret
                exact ⟨rfl, HE.out⟩
end
end Go.Proofs.YtjcfgedldpnpjaaDoor.ChnJ
