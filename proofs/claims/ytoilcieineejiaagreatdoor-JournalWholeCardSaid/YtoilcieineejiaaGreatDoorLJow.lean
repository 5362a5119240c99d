/- JouWi JouWj JouWk: one behind the other. -/
import Derived.Test.YtoilcieineejiaaGreatDoorLJov
import Derived.Test.YtoilcieineejiaaGreatDoorLDkm
import Derived.Test.YtoilcieineejiaaGreatDoorLDki
import Derived.Test.YtoilcieineejiaaGreatDoorDkE
/- JournalWiped: whether a key stands in a block; what stands behind a closing, answered or not. No conditions but those that each lemma names. -/
namespace Go.Proofs.YtoilcieineejiaaGreatDoor.JouWi
set_option linter.unusedVariables false
open Go.RowKit Go.Shelf
open DkN DkM JouN JouP JouQ JouR JouS JouT JouC JouW JouU JouG JouA JouAl
open SupP (Gl)
open DkA (Solo)
theorem cut_list (s : ByteArray) (n m : Nat) : (s.extract n m).toList = ((lb s).drop n).take (m - n) := by
  obtain ⟨⟨l⟩⟩ := s
  rw [show (⟨⟨l⟩⟩ : ByteArray) = ⟨l.toArray⟩ from rfl, ByteArray.extract_mk, ByteArray.toList_mk]
  simp [lb]
theorem withinC (s : ByteArray) (key : List UInt8) (w : World) (hs : s.size = 4096) :
    Calls Tryz.prog 23 #[.string s, .string ⟨key.toArray⟩] w fun e w' => e = .returned (.bool (JouR.within (lb s) key)) ∧ w = w' := by
  have h1 : (39 : Int) ≤ (s.size : Int) := by omega
  have hlen : decide (39 ≤ (lb s).length) = true := decide_eq_true (by rw [lb_len]; omega)
  have e3 : (s.extract 0 3).toList = (lb s).take 3 := by rw [cut_list]; rfl
  have e7 : (s.extract 7 39).toList = ((lb s).drop 7).take 32 := by rw [cut_list]
  have HL := Lib.hid hlen
  have H3 := Lib.hid e3
  have H7 := Lib.hid e7
  clear hlen e3 e7
  go_enter Tryz.func23, Tryz.ntmps23
  go_wp2_with fail
  · go_ret
    rename_i h
    rw [H3.out] at h
    refine ⟨?_, rfl⟩
    unfold JouR.within
    rw [HL.out, H7.out, show ((lb s).take 3 == SloN.mark) = true by rw [beq_iff_eq]; exact h]
    rfl
  · go_ret
    rename_i h
    rw [H3.out] at h
    refine ⟨?_, rfl⟩
    unfold JouR.within
    rw [show ((lb s).take 3 == SloN.mark) = false by rw [beq_eq_false_iff_ne]; exact h]
    simp
/-- What stands at the end. -/
structure Fin (a b : List UInt8) (D : Dk) (ep : Int) : Prop where
  ca : D.ca = []
  len : D.bl.length = 9
  full : ∀ x ∈ D.bl, x.size = 4096
  st : (ep = 0 ∧ D.bl[2]? = some (bb (SloN.blk 0 a)) ∧ D.bl[3]? = some (nou 4096)) ∨ (ep = 1 ∧ D.bl[2]? = some (nou 4096) ∧ D.bl[3]? = some (bb (SloN.blk 1 b)))
/-- The journal ahead of the closing. -/
def j0 (a : List UInt8) : Jo := ⟨(c0 9 a).s, (c0 9 a).s.t.toNat, false⟩
section
variable {a b : List UInt8} {D : Dk} {s : B}
theorem close_eq (h : Inv 9 D (j0 a) [] a) (hs : s.size = 4096) (hb : b.length = 32) : closeJ D (j0 a) s b 3 = cloR D (j0 a) s b 3 := by
  unfold closeJ
  have e1 : (j0 a).broken = false := rfl
  have e2 : noNext (j0 a) 3 = 0 := by unfold noNext; rw [if_neg (by show ¬ ((3 : Int) < 0 ∨ (1099511627776 : Int) < 3); omega), if_neg (by show ¬ (1 : Int) = 1152921504606846976; omega)]
  rw [if_neg (by rw [e1]; decide), if_neg (by omega), if_neg (by rw [e2]; decide), if_neg (by show ¬ (0 : Int) = 4294967295; omega), if_neg (by
    intro q
    apply q
    rw [GeoN.data_yes h.hold.may.1]
    show (0 : Int) < 9 - 4
    omega)]
/-- A closing that is answered. -/
theorem wiped_a (h : Inv 9 D (j0 a) [] a) (hu : Up 9 D (j0 a) [] a ⟨[], 0, 0⟩) (hs : s.size = 4096) (hb : b.length = 32) (he : (closeJ D (j0 a) s b 3).e = 0) :
    Fin a b (closeJ D (j0 a) s b 3).D 1 ∧ (closeJ D (j0 a) s b 3).j.last.e = 1 := by
  obtain ⟨h1, h2⟩ := hu.clo hs hb 3
  obtain ⟨q1, q2, q3⟩ := h2 he
  have q3' : (closeJ D (j0 a) s b 3).j.last.e = 1 := q3
  rcases h1 with ⟨e, _⟩ | ⟨_, hup⟩ | ⟨e, _⟩
  · exact absurd he e
  · have hh := hup.inv.hold
    refine ⟨⟨q1, hh.len, hh.full, .inr ⟨rfl, q2, ?_⟩⟩, q3'⟩
    have hk := hh.key
    rw [q3'] at hk
    exact hk
  · exact absurd he e
/-- One that is not: what stands behind a crash. -/
theorem wiped_b (h : Inv 9 D (j0 a) [] a) (hs : s.size = 4096) (hb : b.length = 32) (he : (closeJ D (j0 a) s b 3).e ≠ 0) (keep : List Int) :
    ∃ c : Cm, c.on 9 ((closeJ D (j0 a) s b 3).D.crash keep).boot.bl ∧ ((c.s.e = 0 ∧ c.key = a) ∨ (c.s.e = 1 ∧ c.key = b)) := by
  have e := close_eq h hs hb
  rw [e] at he ⊢
  rcases close h hs hb (by show (0 : Nat) + 4 < 9; omega) (ck := 3) (by show (0 : Int) ≤ 3 ∧ (3 : Int) ≤ _; omega) (by show (1 : Int) ≠ _; omega) (by show (0 : Int) ≠ _; omega) with ⟨h1, _⟩ | ⟨_, _, h3⟩
  · exact absurd h1 he
  · rcases (back h3 keep).1 with q | q
    · exact ⟨⟨_, _, _⟩, q, .inl ⟨rfl, rfl⟩⟩
    · exact ⟨⟨_, _, _⟩, q, .inr ⟨rfl, rfl⟩⟩
/-- And once it is opened. -/
theorem wiped_c {c : Cm} (hd : D.down = false) (ha : D.armed = 0) (hca : D.ca = []) (hc : c.on 9 D.bl) (he : (c.s.e = 0 ∧ c.key = a) ∨ (c.s.e = 1 ∧ c.key = b)) : (run D (openL D.bl c.s)).1 = 0 ∧ Fin a b (run D (openL D.bl c.s)).2 c.s.e := by
  obtain ⟨q1, q2, q3, q4⟩ := opens hd ha hca hc (by omega)
  have hh := q2.hold
  have hk := hh.key
  have hon : Hold 9 (run D (openL D.bl c.s)).2.bl c.s (c.dat.take c.s.t.toNat) c.key := hh
  have ho : ∀ i : Nat, i < 9 → ¬ JouN.Own c.s i → (run D (openL D.bl c.s)).2.bl[i]? = some (nou 4096) := fun i hi hn => clean (c := ⟨c.s, c.dat.take c.s.t.toNat, c.key⟩) hon (by omega) q4 hi hn
  refine ⟨q1, q3, hh.len, hh.full, ?_⟩
  rcases he with ⟨e, k⟩ | ⟨e, k⟩
  · left
    have hk' : (run D (openL D.bl c.s)).2.bl[2 + (c.s.e % 2).toNat]? = some (bb (SloN.blk c.s.e c.key)) := hk
    rw [e, k] at hk'
    exact ⟨e, hk', ho 3 (by omega) (by unfold JouN.Own; rw [e]; omega)⟩
  · right
    have hk' : (run D (openL D.bl c.s)).2.bl[2 + (c.s.e % 2).toNat]? = some (bb (SloN.blk c.s.e c.key)) := hk
    rw [e, k] at hk'
    exact ⟨e, ho 2 (by omega) (by unfold JouN.Own; rw [e]; omega), hk'⟩
end
end Go.Proofs.YtoilcieineejiaaGreatDoor.JouWi
/- JournalWiped: the walk of its text. No condition but the program's variables. -/
namespace Go.Proofs.YtoilcieineejiaaGreatDoor.JouWj
set_option linter.unusedVariables false
open Go.RowKit Go.Shelf
open DkN DkM JouN JouP JouQ JouR JouS JouT JouC JouW JouU JouG JouA JouAl JouWi
open SupP (Gl)
open DkA (Solo)
section
variable {w0 W W' : World} {J P S b : Nat} {bv cv : Value} {D D' : Dk} {j j' : Jo}
theorem run_did (h : Run w0 W J P S b bv cv D j) (hd : Did false W b bv cv D' W') : ∃ cv', Run w0 W' J P S b bv cv' D' j := by
  have hjo := did_other h.jm.dk hd h.jm.jo (by decide) (by decide) (.inl (by decide))
  have hpo := did_other h.jm.dk hd h.jm.po (by decide) (by decide) (.inl (by decide))
  have hsp : SpaC.Sp W' S j.last.b j.last.l j.last.f j.used := did_other h.jm.dk hd h.jm.sp (by decide) (by decide) (.inl (by decide))
  obtain ⟨c, h1, n1, k1⟩ := hd
  have hl := h.jm.low
  have hb := h.jm.base_le
  refine ⟨c, ⟨hjo, hpo, hsp, h1, h.jm.gd.kept k1.size (fun k hk => k1.block k (by omega) (fun e => by have := hl.2.2.2 k e; omega)), ⟨hl.1, hl.2.1, hl.2.2.1, fun k hk => ?_⟩, h.jm.may, h.jm.few⟩, h.below.trans (k1.below hl.2.2.2 hb)⟩
  rcases hk with rfl | hk | hk
  · exact hl.2.2.2 _ (.inl rfl)
  · exact hl.2.2.2 _ (.inr (.inl hk))
  · rcases n1 k hk with q | q
    · exact hl.2.2.2 _ (.inr (.inr q))
    · omega
end
/-- A row of texts that is a slice's own: its block. -/
theorem own_block {w : World} {B n : Nat} {v : Value} {l : List ByteArray} (hn : l.length = n) (h0 : 0 < n) (h : w.ownsRow B 9 1 v n (l.map Value.string)) : ∃ g cap, v = .slice (some ⟨g, 0, none⟩) n cap ∧ n ≤ cap ∧ ∀ i x, l[i]? = some x → w.cell? ⟨g, i, none⟩ = some (.string x) := by
  rcases h with ⟨hl, ⟨rfl, rfl⟩ | ⟨g, cap, cur, rfl, _, hg, hc, _, _, ht⟩⟩
  · omega
  · refine ⟨g, cap, rfl, hc, fun i x hx => blk_cell hg ?_⟩
    have hi := (List.getElem?_eq_some_iff.1 hx).1
    have e : (cur.toList.take (n * 1))[i]? = some (.string x) := by rw [ht, List.getElem?_map, hx]; rfl
    rw [List.getElem?_take] at e
    split at e
    · simpa using e
    · cases e
set_option maxRecDepth 100000 in
set_option maxHeartbeats 8000000 in
theorem wiped_ok (la lk : List UInt8) (n : Int) (ka : Option Addr) (kn kc : Nat) (keep : List Int) (w : World) (ha : la.length = 32) (hb : lk.length = 32) (hne : la ≠ lk) (hn : 0 ≤ n ∧ n ≤ 100) (hkn : kn ≤ 200) (hrow : Row w w.heap.size ka kn keep) (hint : ∀ x ∈ keep, IsInt x) (hg : Gl w) :
    Calls Tryz.prog 4 #[.string ⟨la.toArray⟩, .string ⟨lk.toArray⟩, .int .i64 n, .slice ka kn kc] w fun e w' => e = .returned (.bool true) ∧ Below w.heap.size w w' := by
  have HAl := Lib.hid (fun (W : World) (h : Below w.heap.size w W) => alive W (hg.step h))
  have HN := Lib.hid (New_solo 9 w (by omega) (by omega))
  have HF := Lib.hid (fun (W : World) (b : Nat) (bv cv : Value) (h : Solo false w W b bv cv (made 9)) => Format_solo (key := la) h (by omega) ha hg)
  have HO := Lib.hid (fun (W : World) (b : Nat) (bv cv : Value) (h : Solo false w W b bv cv (Fm 9 la)) => Open_solo h (by omega) ha hg)
  have HAr := Lib.hid (fun (W : World) (b : Nat) (bv cv : Value) (D : Dk) (h : Has false W b bv cv D) => DkB.Arm h n (by omega))
  have HCr := Lib.hid (fun (W : World) (b : Nat) (bv cv : Value) (D : Dk) (h : Solo false w W b bv cv D) => DkF.Crash h.has ka kn kc keep ((hrow.below h.below).more h.below.size) hint (by unfold maxLen; omega))
  have HFu := Lib.hid (fun W => DkA.Full4 ⟨#[120]⟩ W)
  have HCl := Lib.hid (fun (W : World) (J P S b : Nat) (bv cv : Value) (D : Dk) (j : Jo) (h : Run w W J P S b bv cv D j) => JouH.Close h.jm (full4 ⟨#[120]⟩) lk 3)
  have HSu := Lib.hid (fun (W : World) (J P S b : Nat) (bv cv : Value) (D : Dk) (j : Jo) (h : Run w W J P S b bv cv D j) => JouH.Super h.jm)
  have HG := Lib.hid hg
  obtain ⟨o1, o2, o3, o4, o5⟩ := op_ok (n := 9) (key := la) (by omega) ha
  have harm := armed o3.up hn.1
  have hk0 : (c0 9 la).key = la := rfl
  have hd0 : (c0 9 la).dat = [] := rfl
  rw [hk0, hd0] at o3 o5
  obtain ⟨D4, hD4⟩ : ∃ D4, ((OpD 9 la).arm_ n).2 = D4 := ⟨_, rfl⟩
  rw [hD4] at harm
  have i4 : Inv 9 D4 (j0 la) [] la := ⟨harm.2.2.2, by rw [harm.2.1]; exact o3.hold, o3.whole, o3.used, o3.most, by rw [harm.2.2.1]; exact o3.ca, by rw [harm.2.2.1]; exact o3.few, by rw [harm.2.1, harm.2.2.1]; exact o3.sees⟩
  have u4 : Up 9 D4 (j0 la) [] la ⟨[], 0, 0⟩ := ⟨i4, o5.dat, o5.ep, o5.ck⟩
  have HD4 := Lib.hid hD4
  have hfs := DkA.full4_size ⟨#[120]⟩
  generalize full4 ⟨#[120]⟩ = tx at *
  have HWa := Lib.hid (wiped_a i4 u4 hfs hb)
  have HWb := Lib.hid (wiped_b i4 hfs hb)
  have HWc := Lib.hid (fun (D : Dk) (c : Cm) h1 h2 h3 h4 h5 => wiped_c (a := la) (b := lk) (D := D) (c := c) h1 h2 h3 h4 h5)
  unfold Ope at HO
  rw [hk0, hd0] at HO
  have q1 : ((la.length : Int) != 32) = false := by rw [ha]; rfl
  have q2 : ((lk.length : Int) != 32) = false := by rw [hb]; rfl
  have q3 : (la == lk) = false := by rw [beq_eq_false_iff_ne]; exact hne
  have q4 : ¬ n < 0 := by omega
  have q5 : ¬ 100 < n := by omega
  have q6 : ¬ (200 : Int) < (kn : Int) := by omega
  have HLa := Lib.hid ha
  have HLk := Lib.hid hb
  have HNe := Lib.hid hne
  simp only [List.length_nil, Int.cast_ofNat_Int] at HO HF HN
  unfold Tells at HCl
  clear hg o1 o2 o3 o4 o5 harm hk0 hd0 i4 u4 hfs hD4 ha hb hne hn hkn hrow hint
  go_enter Tryz.func4, Tryz.ntmps4
  go_upto_region 3 with (fail)
  go_upto_region 4 with (go_at_call 8; refine HN.out.mono ?_; rintro e w1 ⟨b, bv, cv, rfl, hs1⟩; have S1 := Lib.hid hs1; clear hs1)
  go_upto_region 6 with (go_at_call 9; refine (HF.out _ _ _ _ S1.out).mono ?_; rintro e w2 ⟨rfl, cv2, hs2⟩; have S2 := Lib.hid hs2; clear hs2)
  go_upto_region 9 with (go_at_call 10; refine (HO.out _ _ _ _ S2.out).mono ?_; rintro e w3 ⟨J, P, S, a, c, cv3, rfl, hr3, _, _⟩; have R3 := Lib.hid hr3; clear hr3)
  clear HN HF HO S1 S2
  go_upto_region 10 with (go_at_call 11; refine (HAr.out _ _ _ _ _ R3.out.jm.dk).mono ?_; rintro e w4 ⟨rfl, hd4⟩; rw [HD4.out] at hd4; obtain ⟨cv4, hr4⟩ := run_did R3.out hd4; have R4 : Hid (Run w w4 J P S b bv cv4 D4 (j0 la)) := Lib.hid hr4; clear hd4 hr4)
  clear R3 HAr
  go_upto_region 11 with (first
    | (go_at_call 22; refine (HFu.out _).mono ?_; rintro e w5 ⟨rfl, hb5⟩; replace R4 := Lib.hid (R4.out.step hb5); clear hb5)
    | (go_at_call 21; refine (HCl.out _ _ _ _ _ _ _ _ _ R4.out).mono ?_; rintro e w6 ⟨rfl, hw6⟩; obtain ⟨cv6, hr6⟩ := R4.out.went hw6; have R6 := Lib.hid hr6; clear hw6 hr6))
  clear R4 HFu HCl HD4
  generalize closeJ D4 (j0 la) tx lk 3 = r at *
  obtain ⟨rn, re, D6, j6⟩ := r
  dsimp only at HWa HWb R6 ⊢
  by_cases h0 : re = 0
  · subst h0
    obtain ⟨hfin, hep⟩ := HWa.out rfl
    have FI := Lib.hid hfin
    have hst : D6.bl[2]? = some (nou 4096) ∧ D6.bl[3]? = some (bb (SloN.blk 1 lk)) := by
      rcases hfin.st with ⟨e, _⟩ | ⟨_, q, q'⟩
      · omega
      · exact ⟨q, q'⟩
    clear hfin HWa HWb HWc HCr
    go_upto_region 18 with (go_at_call 17; refine (DkC.Seize R6.out.jm.dk).mono ?_; rintro e w20 ⟨v20, u20, rfl, ho20, hp20, _, hb20⟩; rw [FI.out.ca] at hp20; rw [FI.out.len] at ho20; obtain ⟨ua, uc, e20⟩ := JouL.own_len hp20; subst e20; obtain ⟨g, cap, e21, hcap, hcells⟩ := own_block FI.out.len (by omega) ho20; subst e21; try simp only [List.length_nil]; have HCs := Lib.hid hcells; have R20 := Lib.hid (R6.out.step hb20); clear hb20 ho20 hp20 hcells)
    have h2 : D6.bl[2]? = some (nou 4096) := hst.1
    have h3 : D6.bl[3]? = some (bb (SloN.blk 1 lk)) := hst.2
    have k2 := HCs.out 2 _ h2
    have k3 := HCs.out 3 _ h3
    have hm2 : JouR.within (lb (nou 4096)) la = false := by rw [lb_nou]; exact within_empty _
    have hm3 : JouR.within (lb (bb (SloN.blk 1 lk))) la = false := by rw [lb_bb, within_blk (by unfold SloN.may; omega) HLk.out]; exact decide_eq_false (fun e => HNe.out e.symm)
    have hk3 : JouR.within (lb (bb (SloN.blk 1 lk))) lk = true := by rw [lb_bb, within_blk (by unfold SloN.may; omega) HLk.out]; exact decide_eq_true rfl
    have hs2 : (nou 4096).size = 4096 := nou_size _
    have hs3 : (bb (SloN.blk 1 lk)).size = 4096 := by rw [bb_size]; exact SloN.blk_len _ HLk.out
    have W2 := Lib.hid (fun W => withinC (nou 4096) la W hs2)
    have W3 := Lib.hid (fun W => withinC (bb (SloN.blk 1 lk)) la W hs3)
    have K3 := Lib.hid (fun W => withinC (bb (SloN.blk 1 lk)) lk W hs3)
    rw [hm2] at W2
    rw [hm3] at W3
    rw [hk3] at K3
    clear hm2 hm3 hs2 hs3 HCs h2 h3 hk3
    generalize nou 4096 = x2 at *
    generalize bb (SloN.blk 1 lk) = x3 at *
    obtain ⟨W21, hW⟩ : ∃ W21, W21 = w20.alloc (.cells #[.slice (some ⟨g, 0, none⟩) 9 cap, .slice ua 0 uc] 49) := ⟨_, rfl⟩
    try simp only [List.length_nil]
    rw [← hW]
    have R21 := Lib.hid (R20.out.step (show Below w20.heap.size w20 W21 by rw [hW]; exact below_new _ _))
    have X21 : Hid (W21.heap[w20.heap.size]? = some (.cells #[.slice (some ⟨g, 0, none⟩) 9 cap, .slice ua 0 uc] 49 (0, 0))) := Lib.hid (by rw [hW]; exact heap_alloc_new _ _)
    have C2 : Hid (W21.cell? ⟨g, 2, none⟩ = some (.string x2)) := Lib.hid (by rw [hW]; exact ((below_new w20 _).cell (p := ⟨g, 2, none⟩) (World.block_lt_of_cell? _ _ k2)).trans k2)
    have C3 : Hid (W21.cell? ⟨g, 3, none⟩ = some (.string x3)) := Lib.hid (by rw [hW]; exact ((below_new w20 _).cell (p := ⟨g, 3, none⟩) (World.block_lt_of_cell? _ _ k3)).trans k3)
    clear hW k2 k3 R20
    generalize w20.heap.size = X at *
    have HC : Hid (∀ W, Below W21.heap.size W21 W → W.cell? ⟨X, 0, none⟩ = some (.slice (some ⟨g, 0, none⟩) 9 cap) ∧ W.cell? ⟨X, 1, none⟩ = some (.slice ua 0 uc) ∧ W.cell? ⟨g, 2, none⟩ = some (.string x2) ∧ W.cell? ⟨g, 3, none⟩ = some (.string x3)) := Lib.hid (fun W hb =>
      ⟨blk_cell ((hb.block _ (lt_of_some X21.out)).trans X21.out) rfl, blk_cell ((hb.block _ (lt_of_some X21.out)).trans X21.out) rfl, (hb.cell (p := ⟨g, 2, none⟩) (World.block_lt_of_cell? _ _ C2.out)).trans C2.out, (hb.cell (p := ⟨g, 3, none⟩) (World.block_lt_of_cell? _ _ C3.out)).trans C3.out⟩)
    have HS := Lib.hid (fun (W : World) (hb : Below W21.heap.size W21 W) => HSu.out W J P S b bv cv6 D6 j6 (R21.out.step hb))
    have HBw := Lib.hid (fun (W : World) (hb : Below W21.heap.size W21 W) => (R21.out.step hb).below)
    have hfld : ∀ W, (Instr.field 53 (.agg #[.int .i64 j6.last.g, .int .i64 j6.last.t, .int .i64 j6.last.e, .int .i64 j6.last.k, .int .i64 j6.last.b, .int .i64 j6.last.l, .int .i64 j6.last.f]) 2).run Tryz.prog W = .ok (.int .i64 1) W := fun W => by
      have q := JouAl.fld_e j6.last.g j6.last.t j6.last.e j6.last.k j6.last.b j6.last.l j6.last.f W
      rw [hep] at q ⊢
      exact q
    clear hep FI hst X21 C2 C3
    obtain ⟨z0, z1, z2, z3⟩ := HC.out W21 (Below.refl _ _)
    go_wp2_with fail
    go_loopw [107] (fun i wr => ∃ k : Nat, k ≤ 2 ∧ i = .int .i64 k ∧ Below W21.heap.size W21 wr) (fun i _ => 2 - (intOf i).toNat)
    case atStart => exact ⟨0, Nat.zero_le _, rfl, Below.refl _ _⟩
    case round =>
      clear z0 z1 z2 z3
      obtain ⟨k, hk, rfl, hbel⟩ := hrel
      obtain ⟨z0, z1, z2, z3⟩ := HC.out wr hbel
      have HB := Lib.hid hbel
      clear hbel
      obtain rfl | rfl | rfl : k = 0 ∨ k = 1 ∨ k = 2 := by omega
      · go_wp2_with (first
          | (go_at_call 23; refine (W2.out _).mono ?_; rintro e _ ⟨rfl, rfl⟩)
          | (go_at_call 19; refine (HS.out _ HB.out).mono ?_; rintro e w30 ⟨rfl, hb30⟩; have B30 := Lib.hid (HB.out.trans (hb30.mono HB.out.size)); clear hb30; obtain ⟨y0, y1, y2, y3⟩ := HC.out w30 B30.out))
        go_roundw
        case rel => first | exact ⟨1, by omega, rfl, B30.out⟩ | exact ⟨_, _, _, _, _, _, _, _, _, _, _, _, _, _, _, _, _, _, _, _, _, _, _, ⟨1, by omega, rfl, B30.out⟩, rfl⟩
        case measure => simp [intOf]
      · go_wp2_with (first
          | (go_at_call 23; refine (W3.out _).mono ?_; rintro e _ ⟨rfl, rfl⟩)
          | (go_at_call 19; refine (HS.out _ HB.out).mono ?_; rintro e w30 ⟨rfl, hb30⟩; have B30 := Lib.hid (HB.out.trans (hb30.mono HB.out.size)); clear hb30; obtain ⟨y0, y1, y2, y3⟩ := HC.out w30 B30.out))
        go_roundw
        case rel => first | exact ⟨2, by omega, rfl, B30.out⟩ | exact ⟨_, _, _, _, _, _, _, _, _, _, _, _, _, _, _, _, _, _, _, _, _, _, _, ⟨2, by omega, rfl, B30.out⟩, rfl⟩
        case measure => simp [intOf]
      · go_wp2_with (first
          | (go_at_call 19; first | (refine (HS.out _ HB.out).mono ?_; rintro e w30 ⟨rfl, hb30⟩; have B30 := Lib.hid (HB.out.trans (hb30.mono HB.out.size)); clear hb30 HB; obtain ⟨y0, y1, y2, y3⟩ := HC.out w30 B30.out) | (refine (HS.out _ B30.out).mono ?_; rintro e w31 ⟨rfl, hb31⟩; have B31 := Lib.hid (B30.out.trans (hb31.mono B30.out.size)); clear hb31))
          | (go_at_call 23; refine (K3.out _).mono ?_; rintro e _ ⟨rfl, rfl⟩)
          | (go_at_call 7; first | (refine (HAl.out _ (HBw.out _ B31.out)).mono ?_; rintro e w32 ⟨rfl, hb32⟩; have B32 := Lib.hid ((HBw.out _ B31.out).trans (hb32.mono (HBw.out _ B31.out).size)); clear hb32) | (refine (HAl.out _ (HBw.out _ B30.out)).mono ?_; rintro e w32 ⟨rfl, hb32⟩; have B32 := Lib.hid ((HBw.out _ B30.out).trans (hb32.mono (HBw.out _ B30.out).size)); clear hb32)))
        go_ret
        exact ⟨rfl, B32.out⟩
  · have hq : ((re : Int) != 0) = true := by rw [bne_iff_ne]; omega
    obtain ⟨c, hc, hce⟩ := HWb.out h0 keep
    have HCe := Lib.hid hce
    clear hce
    go_upto_region 13 with (go_at_call 14; refine (HCr.out _ _ _ _ _ R6.out.solo).mono ?_; rintro e w7 ⟨rfl, hd7⟩; obtain ⟨cv7, hs7⟩ := R6.out.solo.did hd7; have S7 := Lib.hid hs7; clear hd7 hs7)
    go_upto_region 14 with (go_at_call 15; refine (DkB.Boot S7.out.has).mono ?_; rintro e w8 ⟨rfl, hd8⟩; obtain ⟨cv8, hs8⟩ := S7.out.did hd8; have S8 := Lib.hid hs8; clear hd8 hs8)
    obtain ⟨hz, hfin⟩ := HWc.out (D6.crash keep).boot c rfl rfl rfl hc HCe.out
    have HO2 : Hid (Calls Tryz.prog 10 #[.pointer (some ⟨b, 0, none⟩)] w8 (Ope w b bv (run (D6.crash keep).boot (openL (D6.crash keep).boot.bl c.s)).2 c.s c.dat c.key w8)) := Lib.hid (Calls.mono (Open_at S8.out.has rfl rfl hc (by omega) (solo_gd S8.out HG.out) S8.out.below.size S8.out.foot hz) (fun e w' ho => ope_of S8.out ho))
    unfold Ope at HO2
    generalize (run (D6.crash keep).boot (openL (D6.crash keep).boot.bl c.s)).2 = D9 at *
    have FI := Lib.hid hfin
    clear hz hc hfin HWa HWb HWc HCr S7 R6
    go_upto_region 17 with (go_at_call 10; refine HO2.out.mono ?_; rintro e w9 ⟨J2, P2, S2, a2, c2, cv9, rfl, hr9, _, _⟩; have R9 := Lib.hid hr9; clear hr9)
    clear HO2 S8
    obtain ⟨j9, hj9⟩ : ∃ j9 : Jo, (⟨c.s, c.s.t.toNat, false⟩ : Jo) = j9 := ⟨_, rfl⟩
    rw [hj9] at R9
    rcases HCe.out with ⟨he0, hkk⟩ | ⟨he1, hkk⟩
    · have hep : j9.last.e = 0 := by rw [← hj9]; exact he0
      have hst : D9.bl[2]? = some (bb (SloN.blk 0 la)) ∧ D9.bl[3]? = some (nou 4096) := by
        rcases FI.out.st with ⟨_, q, q'⟩ | ⟨e, _⟩
        · exact ⟨q, q'⟩
        · omega
      clear HCe he0 hj9 hkk
      go_upto_region 18 with (go_at_call 17; refine (DkC.Seize R9.out.jm.dk).mono ?_; rintro e w20 ⟨v20, u20, rfl, ho20, hp20, _, hb20⟩; rw [FI.out.ca] at hp20; rw [FI.out.len] at ho20; obtain ⟨ua, uc, e20⟩ := JouL.own_len hp20; subst e20; obtain ⟨g, cap, e21, hcap, hcells⟩ := own_block FI.out.len (by omega) ho20; subst e21; try simp only [List.length_nil]; have HCs := Lib.hid hcells; have R20 := Lib.hid (R9.out.step hb20); clear hb20 ho20 hp20 hcells)
      have h2 : D9.bl[2]? = some (bb (SloN.blk 0 la)) := hst.1
      have h3 : D9.bl[3]? = some (nou 4096) := hst.2
      have k2 := HCs.out 2 _ h2
      have k3 := HCs.out 3 _ h3
      have hm2 : JouR.within (lb (bb (SloN.blk 0 la))) la = true := by rw [lb_bb, within_blk (by unfold SloN.may; omega) HLa.out]; exact decide_eq_true rfl
      have hm3 : JouR.within (lb (nou 4096)) la = false := by rw [lb_nou]; exact within_empty _
      have hx : ((nou 4096).toList == (bb (SloN.blk 0 la)).toList) = false := by
        rw [DkE.str_beq]
        refine decide_eq_false (fun e => ?_)
        rw [e, hm2] at hm3
        cases hm3
      have hs2 : (bb (SloN.blk 0 la)).size = 4096 := by rw [bb_size]; exact SloN.blk_len _ HLa.out
      have hs3 : (nou 4096).size = 4096 := nou_size _
      have W2 := Lib.hid (fun W => withinC (bb (SloN.blk 0 la)) la W hs2)
      have W3 := Lib.hid (fun W => withinC (nou 4096) la W hs3)
      rw [hm2] at W2
      rw [hm3] at W3
      clear hm2 hm3 hs2 hs3 HCs h2 h3 
      generalize bb (SloN.blk 0 la) = x2 at *
      generalize nou 4096 = x3 at *
      obtain ⟨W21, hW⟩ : ∃ W21, W21 = w20.alloc (.cells #[.slice (some ⟨g, 0, none⟩) 9 cap, .slice ua 0 uc] 49) := ⟨_, rfl⟩
      try simp only [List.length_nil]
      rw [← hW]
      have R21 := Lib.hid (R20.out.step (show Below w20.heap.size w20 W21 by rw [hW]; exact below_new _ _))
      have X21 : Hid (W21.heap[w20.heap.size]? = some (.cells #[.slice (some ⟨g, 0, none⟩) 9 cap, .slice ua 0 uc] 49 (0, 0))) := Lib.hid (by rw [hW]; exact heap_alloc_new _ _)
      have C2 : Hid (W21.cell? ⟨g, 2, none⟩ = some (.string x2)) := Lib.hid (by rw [hW]; exact ((below_new w20 _).cell (p := ⟨g, 2, none⟩) (World.block_lt_of_cell? _ _ k2)).trans k2)
      have C3 : Hid (W21.cell? ⟨g, 3, none⟩ = some (.string x3)) := Lib.hid (by rw [hW]; exact ((below_new w20 _).cell (p := ⟨g, 3, none⟩) (World.block_lt_of_cell? _ _ k3)).trans k3)
      clear hW k2 k3 R20
      generalize w20.heap.size = X at *
      have HC : Hid (∀ W, Below W21.heap.size W21 W → W.cell? ⟨X, 0, none⟩ = some (.slice (some ⟨g, 0, none⟩) 9 cap) ∧ W.cell? ⟨X, 1, none⟩ = some (.slice ua 0 uc) ∧ W.cell? ⟨g, 2, none⟩ = some (.string x2) ∧ W.cell? ⟨g, 3, none⟩ = some (.string x3)) := Lib.hid (fun W hb =>
        ⟨blk_cell ((hb.block _ (lt_of_some X21.out)).trans X21.out) rfl, blk_cell ((hb.block _ (lt_of_some X21.out)).trans X21.out) rfl, (hb.cell (p := ⟨g, 2, none⟩) (World.block_lt_of_cell? _ _ C2.out)).trans C2.out, (hb.cell (p := ⟨g, 3, none⟩) (World.block_lt_of_cell? _ _ C3.out)).trans C3.out⟩)
      have HS := Lib.hid (fun (W : World) (hb : Below W21.heap.size W21 W) => HSu.out W J2 P2 S2 b bv cv9 D9 j9 (R21.out.step hb))
      have HBw := Lib.hid (fun (W : World) (hb : Below W21.heap.size W21 W) => (R21.out.step hb).below)
      have hfld : ∀ W, (Instr.field 53 (.agg #[.int .i64 j9.last.g, .int .i64 j9.last.t, .int .i64 j9.last.e, .int .i64 j9.last.k, .int .i64 j9.last.b, .int .i64 j9.last.l, .int .i64 j9.last.f]) 2).run Tryz.prog W = .ok (.int .i64 0) W := fun W => by
        have q := JouAl.fld_e j9.last.g j9.last.t j9.last.e j9.last.k j9.last.b j9.last.l j9.last.f W
        rw [hep] at q ⊢
        exact q
      clear hep FI hst X21 C2 C3
      obtain ⟨z0, z1, z2, z3⟩ := HC.out W21 (Below.refl _ _)
      go_wp2_with fail
      go_loopw [107] (fun i wr => ∃ k : Nat, k ≤ 2 ∧ i = .int .i64 k ∧ Below W21.heap.size W21 wr) (fun i _ => 2 - (intOf i).toNat)
      case atStart => exact ⟨0, Nat.zero_le _, rfl, Below.refl _ _⟩
      case round =>
        clear z0 z1 z2 z3
        obtain ⟨k, hk, rfl, hbel⟩ := hrel
        obtain ⟨z0, z1, z2, z3⟩ := HC.out wr hbel
        have HB := Lib.hid hbel
        clear hbel
        obtain rfl | rfl | rfl : k = 0 ∨ k = 1 ∨ k = 2 := by omega
        · go_wp2_with (first
            | (go_at_call 23; refine (W2.out _).mono ?_; rintro e _ ⟨rfl, rfl⟩)
            | (go_at_call 19; refine (HS.out _ HB.out).mono ?_; rintro e w30 ⟨rfl, hb30⟩; have B30 := Lib.hid (HB.out.trans (hb30.mono HB.out.size)); clear hb30; obtain ⟨y0, y1, y2, y3⟩ := HC.out w30 B30.out))
          go_roundw
          case rel => first | exact ⟨1, by omega, rfl, B30.out⟩ | exact ⟨_, _, _, _, _, _, _, _, _, _, _, _, _, _, _, _, _, _, _, _, _, _, _, ⟨1, by omega, rfl, B30.out⟩, rfl⟩
          case measure => simp [intOf]
        · go_wp2_with (first
            | (go_at_call 23; refine (W3.out _).mono ?_; rintro e _ ⟨rfl, rfl⟩)
            | (go_at_call 19; refine (HS.out _ HB.out).mono ?_; rintro e w30 ⟨rfl, hb30⟩; have B30 := Lib.hid (HB.out.trans (hb30.mono HB.out.size)); clear hb30; obtain ⟨y0, y1, y2, y3⟩ := HC.out w30 B30.out))
          go_roundw
          case rel => first | exact ⟨2, by omega, rfl, B30.out⟩ | exact ⟨_, _, _, _, _, _, _, _, _, _, _, _, _, _, _, _, _, _, _, _, _, _, _, ⟨2, by omega, rfl, B30.out⟩, rfl⟩
          case measure => simp [intOf]
        · go_wp2_with (first
            | (go_at_call 19; first | (refine (HS.out _ HB.out).mono ?_; rintro e w30 ⟨rfl, hb30⟩; have B30 := Lib.hid (HB.out.trans (hb30.mono HB.out.size)); clear hb30 HB; obtain ⟨y0, y1, y2, y3⟩ := HC.out w30 B30.out) | (refine (HS.out _ B30.out).mono ?_; rintro e w31 ⟨rfl, hb31⟩; have B31 := Lib.hid (B30.out.trans (hb31.mono B30.out.size)); clear hb31))
            | (go_at_call 23; refine (K3.out _).mono ?_; rintro e _ ⟨rfl, rfl⟩)
            | (go_at_call 7; first | (refine (HAl.out _ (HBw.out _ B31.out)).mono ?_; rintro e w32 ⟨rfl, hb32⟩; have B32 := Lib.hid ((HBw.out _ B31.out).trans (hb32.mono (HBw.out _ B31.out).size)); clear hb32) | (refine (HAl.out _ (HBw.out _ B30.out)).mono ?_; rintro e w32 ⟨rfl, hb32⟩; have B32 := Lib.hid ((HBw.out _ B30.out).trans (hb32.mono (HBw.out _ B30.out).size)); clear hb32)))
          go_ret
          exact ⟨rfl, B32.out⟩
    · have hep : j9.last.e = 1 := by rw [← hj9]; exact he1
      have hst : D9.bl[2]? = some (nou 4096) ∧ D9.bl[3]? = some (bb (SloN.blk 1 lk)) := by
        rcases FI.out.st with ⟨e, _⟩ | ⟨_, q, q'⟩
        · omega
        · exact ⟨q, q'⟩
      clear HCe he1 hj9 hkk
      go_upto_region 18 with (go_at_call 17; refine (DkC.Seize R9.out.jm.dk).mono ?_; rintro e w20 ⟨v20, u20, rfl, ho20, hp20, _, hb20⟩; rw [FI.out.ca] at hp20; rw [FI.out.len] at ho20; obtain ⟨ua, uc, e20⟩ := JouL.own_len hp20; subst e20; obtain ⟨g, cap, e21, hcap, hcells⟩ := own_block FI.out.len (by omega) ho20; subst e21; try simp only [List.length_nil]; have HCs := Lib.hid hcells; have R20 := Lib.hid (R9.out.step hb20); clear hb20 ho20 hp20 hcells)
      have h2 : D9.bl[2]? = some (nou 4096) := hst.1
      have h3 : D9.bl[3]? = some (bb (SloN.blk 1 lk)) := hst.2
      have k2 := HCs.out 2 _ h2
      have k3 := HCs.out 3 _ h3
      have hm2 : JouR.within (lb (nou 4096)) la = false := by rw [lb_nou]; exact within_empty _
      have hm3 : JouR.within (lb (bb (SloN.blk 1 lk))) la = false := by rw [lb_bb, within_blk (by unfold SloN.may; omega) HLk.out]; exact decide_eq_false (fun e => HNe.out e.symm)
      have hk3 : JouR.within (lb (bb (SloN.blk 1 lk))) lk = true := by rw [lb_bb, within_blk (by unfold SloN.may; omega) HLk.out]; exact decide_eq_true rfl
      have hs2 : (nou 4096).size = 4096 := nou_size _
      have hs3 : (bb (SloN.blk 1 lk)).size = 4096 := by rw [bb_size]; exact SloN.blk_len _ HLk.out
      have W2 := Lib.hid (fun W => withinC (nou 4096) la W hs2)
      have W3 := Lib.hid (fun W => withinC (bb (SloN.blk 1 lk)) la W hs3)
      have K3 := Lib.hid (fun W => withinC (bb (SloN.blk 1 lk)) lk W hs3)
      rw [hm2] at W2
      rw [hm3] at W3
      rw [hk3] at K3
      clear hm2 hm3 hs2 hs3 HCs h2 h3 hk3
      generalize nou 4096 = x2 at *
      generalize bb (SloN.blk 1 lk) = x3 at *
      obtain ⟨W21, hW⟩ : ∃ W21, W21 = w20.alloc (.cells #[.slice (some ⟨g, 0, none⟩) 9 cap, .slice ua 0 uc] 49) := ⟨_, rfl⟩
      try simp only [List.length_nil]
      rw [← hW]
      have R21 := Lib.hid (R20.out.step (show Below w20.heap.size w20 W21 by rw [hW]; exact below_new _ _))
      have X21 : Hid (W21.heap[w20.heap.size]? = some (.cells #[.slice (some ⟨g, 0, none⟩) 9 cap, .slice ua 0 uc] 49 (0, 0))) := Lib.hid (by rw [hW]; exact heap_alloc_new _ _)
      have C2 : Hid (W21.cell? ⟨g, 2, none⟩ = some (.string x2)) := Lib.hid (by rw [hW]; exact ((below_new w20 _).cell (p := ⟨g, 2, none⟩) (World.block_lt_of_cell? _ _ k2)).trans k2)
      have C3 : Hid (W21.cell? ⟨g, 3, none⟩ = some (.string x3)) := Lib.hid (by rw [hW]; exact ((below_new w20 _).cell (p := ⟨g, 3, none⟩) (World.block_lt_of_cell? _ _ k3)).trans k3)
      clear hW k2 k3 R20
      generalize w20.heap.size = X at *
      have HC : Hid (∀ W, Below W21.heap.size W21 W → W.cell? ⟨X, 0, none⟩ = some (.slice (some ⟨g, 0, none⟩) 9 cap) ∧ W.cell? ⟨X, 1, none⟩ = some (.slice ua 0 uc) ∧ W.cell? ⟨g, 2, none⟩ = some (.string x2) ∧ W.cell? ⟨g, 3, none⟩ = some (.string x3)) := Lib.hid (fun W hb =>
        ⟨blk_cell ((hb.block _ (lt_of_some X21.out)).trans X21.out) rfl, blk_cell ((hb.block _ (lt_of_some X21.out)).trans X21.out) rfl, (hb.cell (p := ⟨g, 2, none⟩) (World.block_lt_of_cell? _ _ C2.out)).trans C2.out, (hb.cell (p := ⟨g, 3, none⟩) (World.block_lt_of_cell? _ _ C3.out)).trans C3.out⟩)
      have HS := Lib.hid (fun (W : World) (hb : Below W21.heap.size W21 W) => HSu.out W J2 P2 S2 b bv cv9 D9 j9 (R21.out.step hb))
      have HBw := Lib.hid (fun (W : World) (hb : Below W21.heap.size W21 W) => (R21.out.step hb).below)
      have hfld : ∀ W, (Instr.field 53 (.agg #[.int .i64 j9.last.g, .int .i64 j9.last.t, .int .i64 j9.last.e, .int .i64 j9.last.k, .int .i64 j9.last.b, .int .i64 j9.last.l, .int .i64 j9.last.f]) 2).run Tryz.prog W = .ok (.int .i64 1) W := fun W => by
        have q := JouAl.fld_e j9.last.g j9.last.t j9.last.e j9.last.k j9.last.b j9.last.l j9.last.f W
        rw [hep] at q ⊢
        exact q
      clear hep FI hst X21 C2 C3
      obtain ⟨z0, z1, z2, z3⟩ := HC.out W21 (Below.refl _ _)
      go_wp2_with fail
      go_loopw [107] (fun i wr => ∃ k : Nat, k ≤ 2 ∧ i = .int .i64 k ∧ Below W21.heap.size W21 wr) (fun i _ => 2 - (intOf i).toNat)
      case atStart => exact ⟨0, Nat.zero_le _, rfl, Below.refl _ _⟩
      case round =>
        clear z0 z1 z2 z3
        obtain ⟨k, hk, rfl, hbel⟩ := hrel
        obtain ⟨z0, z1, z2, z3⟩ := HC.out wr hbel
        have HB := Lib.hid hbel
        clear hbel
        obtain rfl | rfl | rfl : k = 0 ∨ k = 1 ∨ k = 2 := by omega
        · go_wp2_with (first
            | (go_at_call 23; refine (W2.out _).mono ?_; rintro e _ ⟨rfl, rfl⟩)
            | (go_at_call 19; refine (HS.out _ HB.out).mono ?_; rintro e w30 ⟨rfl, hb30⟩; have B30 := Lib.hid (HB.out.trans (hb30.mono HB.out.size)); clear hb30; obtain ⟨y0, y1, y2, y3⟩ := HC.out w30 B30.out))
          go_roundw
          case rel => first | exact ⟨1, by omega, rfl, B30.out⟩ | exact ⟨_, _, _, _, _, _, _, _, _, _, _, _, _, _, _, _, _, _, _, _, _, _, _, ⟨1, by omega, rfl, B30.out⟩, rfl⟩
          case measure => simp [intOf]
        · go_wp2_with (first
            | (go_at_call 23; refine (W3.out _).mono ?_; rintro e _ ⟨rfl, rfl⟩)
            | (go_at_call 19; refine (HS.out _ HB.out).mono ?_; rintro e w30 ⟨rfl, hb30⟩; have B30 := Lib.hid (HB.out.trans (hb30.mono HB.out.size)); clear hb30; obtain ⟨y0, y1, y2, y3⟩ := HC.out w30 B30.out))
          go_roundw
          case rel => first | exact ⟨2, by omega, rfl, B30.out⟩ | exact ⟨_, _, _, _, _, _, _, _, _, _, _, _, _, _, _, _, _, _, _, _, _, _, _, ⟨2, by omega, rfl, B30.out⟩, rfl⟩
          case measure => simp [intOf]
        · go_wp2_with (first
            | (go_at_call 19; first | (refine (HS.out _ HB.out).mono ?_; rintro e w30 ⟨rfl, hb30⟩; have B30 := Lib.hid (HB.out.trans (hb30.mono HB.out.size)); clear hb30 HB; obtain ⟨y0, y1, y2, y3⟩ := HC.out w30 B30.out) | (refine (HS.out _ B30.out).mono ?_; rintro e w31 ⟨rfl, hb31⟩; have B31 := Lib.hid (B30.out.trans (hb31.mono B30.out.size)); clear hb31))
            | (go_at_call 23; refine (K3.out _).mono ?_; rintro e _ ⟨rfl, rfl⟩)
            | (go_at_call 7; first | (refine (HAl.out _ (HBw.out _ B31.out)).mono ?_; rintro e w32 ⟨rfl, hb32⟩; have B32 := Lib.hid ((HBw.out _ B31.out).trans (hb32.mono (HBw.out _ B31.out).size)); clear hb32) | (refine (HAl.out _ (HBw.out _ B30.out)).mono ?_; rintro e w32 ⟨rfl, hb32⟩; have B32 := Lib.hid ((HBw.out _ B30.out).trans (hb32.mono (HBw.out _ B30.out).size)); clear hb32)))
          go_ret
          exact ⟨rfl, B32.out⟩
end Go.Proofs.YtoilcieineejiaaGreatDoor.JouWj
/- JournalWiped: what it lets be; both cases. No condition but the program's variables. -/
namespace Go.Proofs.YtoilcieineejiaaGreatDoor.JouWk
set_option linter.unusedVariables false
open Go.RowKit Go.Shelf
open DkN DkM JouN JouP JouQ JouR JouS JouT JouC JouW JouU JouG JouA JouAl JouWi JouWj
open SupP (Gl)
set_option maxRecDepth 100000 in
set_option maxHeartbeats 4000000 in
theorem wiped_no (la lk : List UInt8) (n : Int) (ka : Option Addr) (kn kc : Nat) (w : World) (h : ¬ (la.length = 32 ∧ lk.length = 32 ∧ la ≠ lk ∧ (0 ≤ n ∧ n ≤ 100) ∧ kn ≤ 200)) (hg : Gl w) :
    Calls Tryz.prog 4 #[.string ⟨la.toArray⟩, .string ⟨lk.toArray⟩, .int .i64 n, .slice ka kn kc] w fun e w' => e = .returned (.bool true) ∧ Below w.heap.size w w' := by
  have HAl := Lib.hid (alive w hg)
  clear hg
  by_cases h1 : la.length = 32
  · by_cases h2 : lk.length = 32
    · by_cases h3 : la = lk
      · have q1 : ((la.length : Int) != 32) = false := by rw [h1]; rfl
        have q2 : ((lk.length : Int) != 32) = false := by rw [h2]; rfl
        have q3 : (la == lk) = true := by rw [beq_iff_eq]; exact h3
        clear h h1 h2 h3
        go_enter Tryz.func4, Tryz.ntmps4
        go_wp2_with (go_at_call 7; refine HAl.out.mono ?_; rintro e w2 ⟨rfl, hb2⟩; have B2 := Lib.hid hb2; clear hb2)
        go_ret
        exact ⟨rfl, B2.out⟩
      · have q1 : ((la.length : Int) != 32) = false := by rw [h1]; rfl
        have q2 : ((lk.length : Int) != 32) = false := by rw [h2]; rfl
        have q3 : (la == lk) = false := by rw [beq_eq_false_iff_ne]; exact h3
        by_cases h4 : n < 0
        · clear h h1 h2 h3
          go_enter Tryz.func4, Tryz.ntmps4
          go_wp2_with (go_at_call 7; refine HAl.out.mono ?_; rintro e w2 ⟨rfl, hb2⟩; have B2 := Lib.hid hb2; clear hb2)
          go_ret
          exact ⟨rfl, B2.out⟩
        · by_cases h5 : 100 < n
          · clear h h1 h2 h3
            go_enter Tryz.func4, Tryz.ntmps4
            go_wp2_with (go_at_call 7; refine HAl.out.mono ?_; rintro e w2 ⟨rfl, hb2⟩; have B2 := Lib.hid hb2; clear hb2)
            go_ret
            exact ⟨rfl, B2.out⟩
          · have h6 : (200 : Int) < (kn : Int) := by
              have : ¬ kn ≤ 200 := fun q => h ⟨h1, h2, h3, ⟨by omega, by omega⟩, q⟩
              omega
            clear h h1 h2 h3
            go_enter Tryz.func4, Tryz.ntmps4
            go_wp2_with (go_at_call 7; refine HAl.out.mono ?_; rintro e w2 ⟨rfl, hb2⟩; have B2 := Lib.hid hb2; clear hb2)
            go_ret
            exact ⟨rfl, B2.out⟩
    · have q1 : ((la.length : Int) != 32) = false := by rw [h1]; rfl
      have q2 : ((lk.length : Int) != 32) = true := by rw [bne_iff_ne]; omega
      clear h h1 h2
      go_enter Tryz.func4, Tryz.ntmps4
      go_wp2_with (go_at_call 7; refine HAl.out.mono ?_; rintro e w2 ⟨rfl, hb2⟩; have B2 := Lib.hid hb2; clear hb2)
      go_ret
      exact ⟨rfl, B2.out⟩
  · have q1 : ((la.length : Int) != 32) = true := by rw [bne_iff_ne]; omega
    clear h h1
    go_enter Tryz.func4, Tryz.ntmps4
    go_wp2_with (go_at_call 7; refine HAl.out.mono ?_; rintro e w2 ⟨rfl, hb2⟩; have B2 := Lib.hid hb2; clear hb2)
    go_ret
    exact ⟨rfl, B2.out⟩
theorem wiped (a b : ByteArray) (n : Int) (ka : Option Addr) (kn kc : Nat) (zs : List Int) (w : World) (hw : IntsAt .i64 w ka kn kc zs) (hg : Gl w) :
    Calls Tryz.prog 4 #[.string a, .string b, .int .i64 n, .slice ka kn kc] w fun e w' => e = .returned (.bool true) ∧ Below w.heap.size w w' := by
  obtain ⟨⟨la⟩⟩ := a
  obtain ⟨⟨lk⟩⟩ := b
  by_cases h : la.length = 32 ∧ lk.length = 32 ∧ la ≠ lk ∧ (0 ≤ n ∧ n ≤ 100) ∧ kn ≤ 200
  · obtain ⟨keep, h1, h2⟩ := row_at hw
    exact wiped_ok la lk n ka kn kc keep w h.1 h.2.1 h.2.2.1 h.2.2.2.1 h.2.2.2.2 h1 h2 hg
  · exact wiped_no la lk n ka kn kc w h hg
end Go.Proofs.YtoilcieineejiaaGreatDoor.JouWk
