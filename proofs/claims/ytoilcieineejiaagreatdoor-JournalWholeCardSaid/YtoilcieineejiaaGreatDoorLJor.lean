/- JouWn JouWo: one behind the other. -/
import Derived.Test.YtoilcieineejiaaGreatDoorLJol
import Derived.Test.YtoilcieineejiaaGreatDoorJouSt
import Derived.Deep.DeepCutAuto
/- JournalWhole: the walk of its text. No condition but the program's variables. -/
namespace Go.Proofs.YtoilcieineejiaaGreatDoor.JouWn
set_option linter.unusedVariables false
open Go.RowKit Go.Shelf
open DkN DkM JouN JouP JouQ JouR JouS JouT JouC JouW JouU JouG JouA JouAl JouWi JouWj JouRo JouSa JouPq JouPl JouPm JouWh JouWm
open SupP (Gl)
open DkA (Solo)
theorem solo_under {w w1 W : World} {b : Nat} {bv cv : Value} {D : Dk} (hb : Below w.heap.size w w1) (h : Solo false w1 W b bv cv D) : Solo false w W b bv cv D :=
  ⟨h.has, hb.trans (h.below.mono hb.size), fun k hk => Nat.le_trans hb.size (h.foot k hk)⟩
/-- The journal that was just opened, once the disk is armed. -/
theorem up_armed {n : Int} (hn : 0 ≤ n) : Up 24 ((OpD 24 key0).arm_ n).2 ⟨(c0 24 key0).s, (c0 24 key0).s.t.toNat, false⟩ [] key0 ⟨[], 0, 0⟩ := by
  obtain ⟨o1, o2, o3, o4, o5⟩ := op_ok (n := 24) (key := key0) (by omega) key0_len
  have harm := armed o3.up hn
  generalize (OpD 24 key0).arm_ n = q at *
  exact ⟨⟨harm.2.2.2, by rw [harm.2.1]; exact o3.hold, o3.whole, o3.used, o3.most, by rw [harm.2.2.1]; exact o3.ca, by rw [harm.2.2.1]; exact o3.few, by rw [harm.2.1, harm.2.2.1]; exact o3.sees⟩, o5.dat, o5.ep, o5.ck⟩
def t0 : Tv := ⟨none, 0, [], 0, 0⟩
/-- What the loop leaves. -/
def Ends (w wr : World) (b : Nat) (bv : Value) (X Y : Nat) : Prop := ∃ (D : Dk) (cv : Value) (x y : Tv), x.l.length ≤ 2000 ∧ y.l.length ≤ 2000 ∧ Sgw w wr b bv cv D X Y x y ∧ Sure (im D) (Two 24 (sta x) (sta y))
/-- Behind the last two openings: both journals, what was seized, both rows of blocks. -/
structure Nd (w W : World) (J3 P3 S3 J2 P2 S2 b : Nat) (bv cv3 cv2 : Value) (D : Dk) (jj : Jo) (Q : Nat) (va : Option Addr) (vc : Nat) (ua : Option Addr) (uc : Nat) (a2 a3 : Option Addr) (dat : List B) : Prop where
  r3 : Run w W J3 P3 S3 b bv cv3 D jj
  r2 : Run w W J2 P2 S2 b bv cv2 D jj
  im : W.heap[Q]? = some (.cells #[.slice va D.bl.length vc, .slice ua 0 uc] 49 (0, 0))
  rv : RowS W bv va D.bl
  rb : RowS W bv a2 dat
  rc : RowS W bv a3 dat
section
variable {w W W' : World} {J3 P3 S3 J2 P2 S2 b : Nat} {bv cv3 cv2 : Value} {D : Dk} {jj : Jo} {Q : Nat} {va : Option Addr} {vc : Nat} {ua : Option Addr} {uc : Nat} {a2 a3 : Option Addr} {dat : List B}
theorem Nd.step (h : Nd w W J3 P3 S3 J2 P2 S2 b bv cv3 cv2 D jj Q va vc ua uc a2 a3 dat) (hb : Below W.heap.size W W') : Nd w W' J3 P3 S3 J2 P2 S2 b bv cv3 cv2 D jj Q va vc ua uc a2 a3 dat :=
  ⟨h.r3.step hb, h.r2.step hb, (hb.block _ (lt_of_some h.im)).trans h.im, h.rv.step hb, h.rb.step hb, h.rc.step hb⟩
theorem Nd.cs (h : Nd w W J3 P3 S3 J2 P2 S2 b bv cv3 cv2 D jj Q va vc ua uc a2 a3 dat) : W.cell? ⟨Q, 0, none⟩ = some (.slice va D.bl.length vc) ∧ W.cell? ⟨Q, 1, none⟩ = some (.slice ua 0 uc) := ⟨blk_cell h.im rfl, blk_cell h.im rfl⟩
theorem Nd.texts (h : Nd w W J3 P3 S3 J2 P2 S2 b bv cv3 cv2 D jj Q va vc ua uc a2 a3 dat) (hl : dat.length ≤ 100000) (c2 c3 : Nat) :
    Calls Tryz.prog 18 #[.slice a2 dat.length c2, .slice a3 dat.length c3] W fun e w' => e = .returned (.bool true) ∧ Below W.heap.size W w' :=
  (DkE.Texts a2 a3 c2 c3 dat dat W h.rb.strs h.rc.strs hl).mono fun e w' q => ⟨by rw [q.1]; simp, q.2⟩
theorem Nd.same_ (h : Nd w W J3 P3 S3 J2 P2 S2 b bv cv3 cv2 D jj Q va vc ua uc a2 a3 dat) (hl : D.bl.length ≤ 100000) (va' : Option Addr) (vc' : Nat) (ua' : Option Addr) (uc' : Nat) (hr : StrRow W va' D.bl) :
    Calls Tryz.prog 20 #[.agg #[.slice va D.bl.length vc, .slice ua 0 uc], .agg #[.slice va' D.bl.length vc', .slice ua' 0 uc']] W fun e w' => e = .returned (.bool true) ∧ Below W.heap.size W w' :=
  (DkE.Same va va' ua ua' vc vc' uc uc' D.bl D.bl [] [] W ⟨h.rv.strs, fun h => absurd h (by simp), hl, by simp⟩ ⟨hr, fun h => absurd h (by simp), hl, by simp⟩).mono fun e w' q => ⟨by rw [q.1]; simp, q.2⟩
end
set_option maxRecDepth 100000 in
set_option maxHeartbeats 8000000 in
theorem whole_ok (a0 : Option Addr) (cp : Nat) (l : List JouSt.RawSt) (n again : Int) (ka : Option Addr) (kn kc : Nat) (keep : List Int) (w : World) (hrow : JouSt.StpRow w a0 l) (hll : l.length ≤ maxLen) (hgo : ∀ x ∈ l, JouSt.Good x) (hq : JouSt.fewB l = true) (hn : 1 ≤ n ∧ n ≤ 400) (hag : 0 ≤ again) (hagI : again ≤ 9223372036854775807) (hkn : kn ≤ 200) (hrk : Row w w.heap.size ka kn keep) (hint : ∀ x ∈ keep, IsInt x) (hg : Gl w) :
    Calls Tryz.prog 3 #[.slice a0 l.length cp, .int .i64 n, .int .i64 again, .slice ka kn kc] w fun e w' => e = .returned (.bool true) ∧ Below w.heap.size w w' := by
  have HAl := Lib.hid (fun (W : World) (h : Below w.heap.size w W) => alive W (hg.step h))
  have HSh := Lib.hid (JouSt.short a0 cp l w hrow hll (fun x hx => (hgo x hx).1))
  rw [hq] at HSh
  have HN := Lib.hid (fun W => New_solo 24 W (by omega) (by omega))
  have HF := Lib.hid (fun (W : World) (b : Nat) (bv cv : Value) (h : Solo false w W b bv cv (made 24)) => Format_solo (key := key0) h (by omega) key0_len hg)
  have HO := Lib.hid (fun (W : World) (b : Nat) (bv cv : Value) (h : Solo false w W b bv cv (Fm 24 key0)) => Open_solo h (by omega) key0_len hg)
  have HAr := Lib.hid (fun (W : World) (b : Nat) (bv cv : Value) (D : Dk) (h : Has false W b bv cv D) => DkB.Arm h n (by omega))
  have HAa := Lib.hid (fun (W : World) (b : Nat) (bv cv : Value) (D : Dk) (h : Has false W b bv cv D) => DkB.Arm h again hagI)
  have HA0 := Lib.hid (fun (W : World) (b : Nat) (bv cv : Value) (D : Dk) (h : Has false W b bv cv D) => DkB.Arm h 0 (by omega))
  have HCr := Lib.hid (fun (W : World) (b : Nat) (bv cv : Value) (D : Dk) (h : Solo false w W b bv cv D) => DkF.Crash h.has ka kn kc keep ((hrk.below h.below).more h.below.size) hint (by unfold maxLen; omega))
  have HA := Lib.hid hrow
  have HG := Lib.hid hg
  have HAg := Lib.hid hag
  obtain ⟨D4, hD4⟩ : ∃ D4, ((OpD 24 key0).arm_ n).2 = D4 := ⟨_, rfl⟩
  have HU := Lib.hid (up_armed (n := n) (by omega))
  rw [hD4] at HU
  have HD4 := Lib.hid hD4
  have hkey : key0.toArray = #[48, 49, 50, 51, 52, 53, 54, 55, 56, 57, 97, 98, 99, 100, 101, 102, 48, 49, 50, 51, 52, 53, 54, 55, 56, 57, 97, 98, 99, 100, 101, 102] := rfl
  rw [hkey] at HF
  unfold Ope at HO
  rw [show (c0 24 key0).key = key0 from rfl, show (c0 24 key0).dat = [] from rfl, hkey] at HO
  obtain ⟨j0, hj0⟩ : ∃ j0 : Jo, (⟨(c0 24 key0).s, (c0 24 key0).s.t.toNat, false⟩ : Jo) = j0 := ⟨_, rfl⟩
  rw [hj0] at HU HO
  simp only [List.length_nil, Int.cast_ofNat_Int] at HO HF HN
  obtain ⟨m, hm⟩ : ∃ m, l.length = m := ⟨_, rfl⟩
  rw [hm] at HSh ⊢
  have HM := Lib.hid hm
  have hm40 : m ≤ 40 := by rw [← hm]; exact (of_decide_eq_true hq).1
  have q1 : ¬ n < 1 := by omega
  have q2 : ¬ 400 < n := by omega
  have q3 : ¬ (200 : Int) < (kn : Int) := by omega
  have q4 : ¬ again < 0 := by omega
  clear hrow hll hgo hq hn hag hagI hkn hrk hint hg hD4 hkey hj0 hm
  go_enter Tryz.func3, Tryz.ntmps3
  go_upto_region 3 with (go_at_call 6; refine HSh.out.mono ?_; rintro e w1 ⟨rfl, hb1⟩; have B1 := Lib.hid hb1; clear hb1)
  go_upto_region 4 with (go_at_call 8; refine (HN.out _).mono ?_; rintro e w2 ⟨b, bv, cv, rfl, hs1⟩; have S1 := Lib.hid (solo_under B1.out hs1); clear hs1)
  go_upto_region 6 with (go_at_call 9; refine (HF.out _ _ _ _ S1.out).mono ?_; rintro e w3 ⟨rfl, cv2, hs2⟩; have S2 := Lib.hid hs2; clear hs2)
  go_upto_region 9 with (go_at_call 10; refine (HO.out _ _ _ _ S2.out).mono ?_; rintro e w4 ⟨J, P, S, aa, ac, cv3, rfl, hr3, _, _⟩; have R3 := Lib.hid hr3; clear hr3)
  clear HSh HN HF HO S1 S2 B1
  go_upto_region 10 with (go_at_call 11; refine (HAr.out _ _ _ _ _ R3.out.jm.dk).mono ?_; rintro e w5 ⟨rfl, hd4⟩; rw [HD4.out] at hd4; obtain ⟨cv4, hr4⟩ := run_did R3.out hd4; have R4 : Hid (Run w w5 J P S b bv cv4 D4 j0) := Lib.hid hr4; clear hd4 hr4)
  clear R3 HAr HD4
  go_upto_region 11 with (fail)
  obtain ⟨W5, hW5⟩ : ∃ W5, W5 = (w5.alloc (Obj.cells #[Value.slice none 0 0, Value.int IntKind.i64 0, Value.int IntKind.i64 0] 39)).alloc (Obj.cells #[Value.slice none 0 0, Value.int IntKind.i64 0, Value.int IntKind.i64 0] 39) := ⟨_, rfl⟩
  have T5 : Hid (Stw w W5 J P S b bv cv4 D4 j0 w5.heap.size (w5.heap.size + 1) t0 t0 none []) := Lib.hid (by
    have hb : Below w5.heap.size w5 W5 := by rw [hW5]; exact ((Below.refl _ _).alloc (Nat.le_refl _) _).alloc (by simp) _
    have hs := R4.out.below.size
    exact ⟨R4.out.step hb, by rw [hW5]; exact heap_alloc2_old _ _ _, by rw [hW5]; exact heap_alloc2_new _ _ _, .nil, .nil, .nil, hs, by omega, by omega⟩)
  rw [← hW5]
  clear hW5 R4
  generalize w5.heap.size = X at *
  generalize X + 1 = Y at *
  go_upto_region 12 with (fail)
  iterate 13 (first | (go_says (fail)) | go_values | go_skip | go_guarded | go_step | go_upon | go_back)
  go_cut [] from 35 (fun wr => Ends w wr b bv X Y)
  case first =>
    go_wp2_with fail
    go_loopw [17, 78] (fun al i wr => ∃ k : Nat, k ≤ m ∧ i = .int .i64 k ∧ ∃ (D : Dk) (j : Jo) (cv : Value) (x : Tv) (a : Option Addr) (c : Nat) (all : List B), al = .slice a all.length c ∧ (a = none → all = [] ∧ c = 0) ∧ x.l.length ≤ 2000 ∧ Up 24 D j all key0 (sta x) ∧ Stw w wr J P S b bv cv D j X Y x x a all) (fun _ i _ => m - (intOf i).toNat)
    case atStart => exact ⟨0, Nat.zero_le _, rfl, D4, j0, cv4, t0, none, 0, [], rfl, fun _ => ⟨rfl, rfl⟩, Nat.zero_le _, HU.out, T5.out⟩
    case round =>
      clear T5 HU
      obtain ⟨k, hk, rfl, D, j, cv, x, a, c, all, rfl, hna, hxl, hup, hst⟩ := hrel
      have ST := Lib.hid hst
      have UP := Lib.hid hup
      have NA := Lib.hid hna
      have XL := Lib.hid hxl
      clear hst hup hna hxl
      by_cases hlt : k < m
      · have hkl : k < l.length := by rw [HM.out]; exact hlt
        obtain ⟨g, o, rfl, hg, hcs⟩ := HA.out (by omega)
        have hcell : ∀ i v, l[k].cells[i]? = some v → wr.cell? ⟨g, o + k * 3 + i, none⟩ = some v := fun i v hv => (ST.out.run.below.cell (p := ⟨g, o + k * 3 + i, none⟩) hg).trans (hcs k hkl i v hv)
        clear hcs
        generalize l[k] = s at *
        have hkm : (k : Int) < (m : Int) := by omega
        clear hkl
        have HPl := Lib.hid (fun (W : World) (hs : Stw w W J P S b bv cv D j X Y x x a all) => play_any hs.run.jm x a c all s hs.rX hs.rA NA.out UP.out)
        simp only [Tv.cells, JouSt.RawSt.cells] at HPl
        have q0 : wr.cell? ⟨g, o + k * 3, none⟩ = some (.int .i64 s.kind) := hcell 0 _ rfl
        have q1 : wr.cell? ⟨g, o + k * 3 + 1, none⟩ = some (.int .i64 s.n) := hcell 1 _ rfl
        have q2 : wr.cell? ⟨g, o + k * 3 + 2, none⟩ = some (.string s.text) := hcell 2 _ rfl
        clear hcell
        go_upto_region 15 with (fail)
        obtain ⟨W1, hW1⟩ : ∃ W1, W1 = wr.alloc (.cells #[.int .i64 s.kind, .int .i64 s.n, .string s.text] 41) := ⟨_, rfl⟩
        have S1 : Hid (Stw w W1 J P S b bv cv D j X Y x x a all) := Lib.hid (ST.out.step (by rw [hW1]; exact below_new _ _))
        have x1 : W1.heap[wr.heap.size]? = some (.cells #[.int .i64 s.kind, .int .i64 s.n, .string s.text] 41 (0, 0)) := by rw [hW1]; exact heap_alloc_new _ _
        rw [← hW1]
        clear hW1 ST q0 q1 q2
        generalize wr.heap.size = B at *
        have y0 := blk_cell (i := 0) (u := .int .i64 s.kind) x1 rfl
        have y1 := blk_cell (i := 1) (u := .int .i64 s.n) x1 rfl
        have y2 := blk_cell (i := 2) (u := .string s.text) x1 rfl
        have z0 := blk_cell (i := 0) (u := .slice x.a x.l.length x.c) S1.out.bX rfl
        have z1 := blk_cell (i := 1) (u := .int .i64 x.ep) S1.out.bX rfl
        have z2 := blk_cell (i := 2) (u := .int .i64 x.ck) S1.out.bX rfl
        clear x1
        go_upto_region 16 with (go_at_call 12; refine (HPl.out _ S1.out).mono ?_; rintro e w6 ⟨r, ⟨ta, tc, tl, ep, ck⟩, a', c', more, rfl, hpla, hw6, hr1, hr2, hn', hl'⟩; have PL := Lib.hid hpla; have G6 := Lib.hid hw6; have R1 := Lib.hid hr1; have R2 := Lib.hid hr2; have N6 := Lib.hid hn'; have L6 := Lib.hid hl'; clear hpla hw6 hr1 hr2 hn' hl'; dsimp only at R1 L6 PL; dsimp only [Tv.cells])
        clear y0 y1 y2 z0 z1 z2 HPl
        obtain ⟨cv6, s6⟩ := S1.out.went G6.out
        obtain ⟨W7, hW7⟩ : ∃ W7, W7 = w6.alloc (.cells #[.slice ta tl.length tc, .int .i64 ep, .int .i64 ck] 39) := ⟨_, rfl⟩
        have hb7 : Below w6.heap.size w6 W7 := by rw [hW7]; exact below_new _ _
        have S7 := Lib.hid ((s6.all_ R2.out).step hb7)
        have SA7 := Lib.hid (s6.step hb7)
        have T7 : Hid (RowS W7 bv ta tl) := Lib.hid (R1.out.step hb7)
        have Z7 : Hid (W7.heap[w6.heap.size]? = some (.cells #[.slice ta tl.length tc, .int .i64 ep, .int .i64 ck] 39 (0, 0))) := Lib.hid (by rw [hW7]; exact heap_alloc_new _ _)
        have NZ : Hid (w6.heap.size ≠ X ∧ w6.heap.size ≠ Y) := Lib.hid (by
          have h1 := lt_of_some s6.bX
          have h2 := lt_of_some s6.bY
          exact ⟨by omega, by omega⟩)
        rw [← hW7]
        clear hW7 hb7 s6 G6 R1 R2 S1
        generalize w6.heap.size = Z at *
        have z0 := blk_cell (i := 0) (u := .slice ta tl.length tc) Z7.out rfl
        have z1 := blk_cell (i := 1) (u := .int .i64 ep) Z7.out rfl
        have z2 := blk_cell (i := 2) (u := .int .i64 ck) Z7.out rfl
        go_upto_region 17 with (refine wpList_store_row rfl 39 _ _ rfl Y _ rfl rfl 39 _ S7.out.bY infoT rfl (one3 _ _ _ _ _) ?_)
        clear z0 z1 z2
        obtain ⟨W8, hW8⟩ : ∃ W8, W8 = W7.setRow Y #[.slice ta tl.length tc, .int .i64 ep, .int .i64 ck] := ⟨_, rfl⟩
        have S8 : Hid (Stw w W8 J P S b bv cv6 r.D r.j X Y x ⟨ta, tc, tl, ep, ck⟩ a' more) := Lib.hid (by rw [hW8]; exact S7.out.setY (y' := ⟨ta, tc, tl, ep, ck⟩) T7.out)
        have SA8 : Hid (Stw w W8 J P S b bv cv6 r.D r.j X Y x ⟨ta, tc, tl, ep, ck⟩ a all) := Lib.hid (by rw [hW8]; exact SA7.out.setY (y' := ⟨ta, tc, tl, ep, ck⟩) T7.out)
        have Z8 : Hid (W8.heap[Z]? = some (.cells #[.slice ta tl.length tc, .int .i64 ep, .int .i64 ck] 39 (0, 0))) := Lib.hid (by rw [hW8]; exact ((but_row Y _ W7).block Z NZ.out.2).trans Z7.out)
        rw [← hW8]
        clear hW8 S7 T7 Z7 SA7
        have HDn := Lib.hid (DkQ.Down S8.out.run.jm.dk)
        obtain ⟨D6, hD6⟩ : ∃ D6, r.D = D6 := ⟨_, rfl⟩
        rcases PL.out with ⟨hd, hsu⟩ | ⟨hd, hu1, hu2⟩
        · rw [hd] at HDn
          have SU := Lib.hid hsu
          clear hd hsu
          go_wp2_with (go_at_call 13; refine HDn.out.mono ?_; rintro e _ ⟨rfl, rfl⟩)
          go_meet
          case rel => exact ⟨r.D, cv6, x, ⟨ta, tc, tl, ep, ck⟩, XL.out, L6.out, S8.out.sg, SU.out⟩
        · rw [hd] at HDn
          have U1 := Lib.hid hu1
          have U2 := Lib.hid hu2
          clear hd hu1 hu2
          by_cases he : r.e = 0
          · have q0 : ((r.e : Int) == 0) = true := by rw [he]; rfl
            have E0 := Lib.hid he
            clear he
            go_upto_region 19 with (go_at_call 13; refine HDn.out.mono ?_; rintro e _ ⟨rfl, rfl⟩)
            have z0 := blk_cell (i := 0) (u := .slice ta tl.length tc) Z8.out rfl
            have z1 := blk_cell (i := 1) (u := .int .i64 ep) Z8.out rfl
            have z2 := blk_cell (i := 2) (u := .int .i64 ck) Z8.out rfl
            go_upto_region 20 with (refine wpList_store_row rfl 39 _ _ rfl X _ rfl rfl 39 _ S8.out.bX infoT rfl (one3 _ _ _ _ _) ?_)
            clear z0 z1 z2
            obtain ⟨W9, hW9⟩ : ∃ W9, W9 = W8.setRow X #[.slice ta tl.length tc, .int .i64 ep, .int .i64 ck] := ⟨_, rfl⟩
            have S9 : Hid (Stw w W9 J P S b bv cv6 r.D r.j X Y ⟨ta, tc, tl, ep, ck⟩ ⟨ta, tc, tl, ep, ck⟩ a' more) := Lib.hid (by rw [hW9]; exact S8.out.setX (x' := ⟨ta, tc, tl, ep, ck⟩) S8.out.rY)
            rw [← hW9]
            clear hW9 S8 Z8 SA8
            have z0 := blk_cell (i := 0) (u := .slice ta tl.length tc) S9.out.bX rfl
            have z1 := blk_cell (i := 1) (u := .int .i64 ep) S9.out.bX rfl
            have z2 := blk_cell (i := 2) (u := .int .i64 ck) S9.out.bX rfl
            go_upto_region 21 with (refine wpList_store_row rfl 39 _ _ rfl Y _ rfl rfl 39 _ S9.out.bY infoT rfl (one3 _ _ _ _ _) ?_)
            clear z0 z1 z2
            obtain ⟨W10, hW10⟩ : ∃ W10, W10 = W9.setRow Y #[.slice ta tl.length tc, .int .i64 ep, .int .i64 ck] := ⟨_, rfl⟩
            have S10 : Hid (Stw w W10 J P S b bv cv6 r.D r.j X Y ⟨ta, tc, tl, ep, ck⟩ ⟨ta, tc, tl, ep, ck⟩ a' more) := Lib.hid (by rw [hW10]; exact S9.out.setY (y' := ⟨ta, tc, tl, ep, ck⟩) S9.out.rX)
            rw [← hW10]
            clear hW10 S9
            go_wp2_with fail
            go_roundw
            case rel => first | exact ⟨k + 1, by omega, by go_num, r.D, r.j, cv6, ⟨ta, tc, tl, ep, ck⟩, a', c', more, rfl, N6.out, L6.out, U1.out E0.out, S10.out⟩ | ((repeat apply Exists.intro); exact ⟨⟨k + 1, by omega, by go_num, r.D, r.j, cv6, ⟨ta, tc, tl, ep, ck⟩, a', c', more, rfl, N6.out, L6.out, U1.out E0.out, S10.out⟩, rfl⟩)
            case measure => simp [intOf]; omega
          · have q0 : ((r.e : Int) == 0) = false := by rw [beq_eq_false_iff_ne]; omega
            have E0 := Lib.hid he
            clear he
            go_upto_region 20 with (go_at_call 13; refine HDn.out.mono ?_; rintro e _ ⟨rfl, rfl⟩)
            have z0 := blk_cell (i := 0) (u := .slice x.a x.l.length x.c) S8.out.bX rfl
            have z1 := blk_cell (i := 1) (u := .int .i64 x.ep) S8.out.bX rfl
            have z2 := blk_cell (i := 2) (u := .int .i64 x.ck) S8.out.bX rfl
            go_upto_region 21 with (refine wpList_store_row rfl 39 _ _ rfl Y _ rfl rfl 39 _ S8.out.bY infoT rfl (one3 _ _ _ _ _) ?_)
            clear z0 z1 z2
            obtain ⟨W10, hW10⟩ : ∃ W10, W10 = W8.setRow Y #[.slice x.a x.l.length x.c, .int .i64 x.ep, .int .i64 x.ck] := ⟨_, rfl⟩
            have S11 : Hid (Stw w W10 J P S b bv cv6 r.D r.j X Y x x a all) := Lib.hid (by rw [hW10]; exact SA8.out.setY (y' := x) SA8.out.rX)
            rw [← hW10]
            clear hW10 S8 Z8 SA8
            go_wp2_with fail
            go_roundw
            case rel => first | exact ⟨k + 1, by omega, by go_num, r.D, r.j, cv6, x, a, c, all, rfl, NA.out, XL.out, U2.out E0.out, S11.out⟩ | ((repeat apply Exists.intro); exact ⟨⟨k + 1, by omega, by go_num, r.D, r.j, cv6, x, a, c, all, rfl, NA.out, XL.out, U2.out E0.out, S11.out⟩, rfl⟩)
            case measure => simp [intOf]; omega
      · have hsu := UP.out.safe (sta x)
        have SU := Lib.hid hsu
        have hkm : ¬ (k : Int) < (m : Int) := by omega
        clear hsu
        go_wp2_with fail
        go_meet
        case rel => exact ⟨D, cv, x, x, XL.out, XL.out, ST.out.sg, SU.out⟩
  case rest =>
    clear T5 HU
    obtain ⟨D, cv, x, y, hxl, hyl, hsg, hsu⟩ := hcut
    have G0 := Lib.hid hsg
    have XL := Lib.hid hxl
    have YL := Lib.hid hyl
    obtain ⟨c, hr, hwn⟩ := ashore_back hsu keep
    have RA := Lib.hid hr
    have RB := Lib.hid ((hr.arm HAg.out).2)
    have WN := Lib.hid hwn
    clear hsg hxl hyl hsu hr hwn
    go_upto_region 23 with (go_at_call 14; refine (HCr.out _ _ _ _ _ G0.out.solo).mono ?_; rintro e w11 ⟨rfl, hd11⟩; obtain ⟨cv11, s11⟩ := G0.out.did hd11; have G1 := Lib.hid s11; clear hd11 s11)
    go_upto_region 24 with (go_at_call 15; refine (DkB.Boot G1.out.solo.has).mono ?_; rintro e w12 ⟨rfl, hd12⟩; obtain ⟨cv12, s12⟩ := G1.out.did hd12; have G2 := Lib.hid s12; clear hd12 s12)
    clear G0 G1
    generalize (D.crash keep).boot = D1 at *
    go_upto_region 25 with (go_at_call 11; refine (HAa.out _ _ _ _ _ G2.out.solo.has).mono ?_; rintro e w13 ⟨rfl, hd13⟩; obtain ⟨cv13, s13⟩ := G2.out.did hd13; have G3 := Lib.hid s13; clear hd13 s13)
    clear G2 HAa
    generalize (D1.arm_ again).2 = D2 at *
    have HOa := Lib.hid (open_any G3.out RB.out HG.out)
    go_upto_region 26 with (go_at_call 10; refine HOa.out.mono ?_; rintro e w14 ⟨v1, v2, v3, f, D3, cv14, rfl, s14, hf14⟩; have G4 := Lib.hid s14; have F4 := Lib.hid hf14; clear s14 hf14)
    clear HOa G3 RA RB
    go_upto_if 116 with (fail)
    go_cut [] from 35 (fun wr => ∃ (D : Dk) (cv : Value), Sgw w wr b bv cv D X Y x y ∧ Ashore 24 D c)
    case first =>
      rcases F4.out with ⟨hf, hk⟩ | ⟨hf, hk⟩
      · have q0 : ((f : Int) == 14) = true := by rw [hf]; rfl
        have K4 := Lib.hid (hk keep)
        clear hf hk
        go_wp2_with (first
          | (go_at_call 14; refine (HCr.out _ _ _ _ _ G4.out.solo).mono ?_; rintro e w15 ⟨rfl, hd15⟩; obtain ⟨cv15, s15⟩ := G4.out.did hd15; have G5 := Lib.hid s15; clear hd15 s15)
          | (go_at_call 15; refine (DkB.Boot G5.out.solo.has).mono ?_; rintro e w16 ⟨rfl, hd16⟩; obtain ⟨cv16, s16⟩ := G5.out.did hd16; have G6 := Lib.hid s16; clear hd16 s16))
        go_meet
        case rel => exact ⟨_, cv16, G6.out, K4.out⟩
      · have q0 : ((f : Int) == 14) = false := by rw [beq_eq_false_iff_ne]; omega
        have K4 := Lib.hid hk
        clear hf hk
        go_wp2_with fail
        go_meet
        case rel => exact ⟨_, cv14, G4.out, K4.out⟩
    case rest =>
      clear G4 F4
      obtain ⟨D5, cv15, hs15, ha15⟩ := hcut
      have G5 := Lib.hid hs15
      have R6 := Lib.hid ((ha15.arm (Int.le_refl 0)).2)
      have A6 := Lib.hid ha15.arm0
      clear hs15 ha15
      go_upto_region 30 with (go_at_call 11; refine (HA0.out _ _ _ _ _ G5.out.solo.has).mono ?_; rintro e w16 ⟨rfl, hd16⟩; obtain ⟨cv16, s16⟩ := G5.out.did hd16; have G6 := Lib.hid s16; clear hd16 s16)
      clear G5 HA0 HCr
      generalize (D5.arm_ 0).2 = D6 at *
      have HOl := Lib.hid (open_last G6.out R6.out A6.out HG.out)
      obtain ⟨l1, l2, ⟨l3, l5⟩, l4⟩ := R6.out.last A6.out (by omega)
      have R7 := Lib.hid l2
      have Z7 := Lib.hid l4
      have LT := Lib.hid l3
      have L5 := Lib.hid l5
      clear l1 l2 l3 l4 l5
      generalize (run D6 (openL D6.bl c.s)).2 = D7 at *
      have WX : Hid ((sta x).of c → sameB x.l c.dat x.ep x.ck ⟨c.s, c.s.t.toNat, false⟩ = true) := Lib.hid (fun h => same_of h LT.out)
      have WY : Hid ((sta y).of c → sameB y.l c.dat y.ep y.ck ⟨c.s, c.s.t.toNat, false⟩ = true) := Lib.hid (fun h => same_of h LT.out)
      obtain ⟨jj, hjj⟩ : ∃ jj : Jo, (⟨c.s, c.s.t.toNat, false⟩ : Jo) = jj := ⟨_, rfl⟩
      rw [hjj] at HOl WX WY
      go_upto_region 31 with (go_at_call 10; refine HOl.out.mono ?_; rintro e w17 ⟨J2, P2, S2, a2, cc2, cv17, rfl, s17⟩; have G7 := Lib.hid s17; clear s17)
      clear G6 HOl A6 R6
      have HSx := Lib.hid (fun (W : World) (h : Stw w W J2 P2 S2 b bv cv17 D7 jj X Y x y a2 c.dat) => JouSa.same h.run x.a a2 x.c cc2 x.l c.dat x.ep x.ck h.rX.strs h.rA.strs (by have := XL.out; omega))
      have HSy := Lib.hid (fun (W : World) (h : Stw w W J2 P2 S2 b bv cv17 D7 jj X Y x y a2 c.dat) => JouSa.same h.run y.a a2 y.c cc2 y.l c.dat y.ep y.ck h.rY.strs h.rA.strs (by have := YL.out; omega))
      have BXY : Hid ((sameB x.l c.dat x.ep x.ck jj = true) ∨ (sameB x.l c.dat x.ep x.ck jj = false ∧ sameB y.l c.dat y.ep y.ck jj = true)) := Lib.hid (by
        rcases WN.out with q | q
        · exact .inl (WX.out q)
        · cases hb : sameB x.l c.dat x.ep x.ck jj
          · exact .inr ⟨rfl, WY.out q⟩
          · exact .inl rfl)
      generalize sameB x.l c.dat x.ep x.ck jj = bx at *
      generalize sameB y.l c.dat y.ep y.ck jj = by_ at *
      have FL : Hid True := Lib.hid trivial
      go_cut [146] from 35 (fun v wr => v = .bool false ∧ Stw w wr J2 P2 S2 b bv cv17 D7 jj X Y x y a2 c.dat)
      case first =>
        have z0 := blk_cell (i := 0) (u := .slice x.a x.l.length x.c) G7.out.bX rfl
        have z1 := blk_cell (i := 1) (u := .int .i64 x.ep) G7.out.bX rfl
        have z2 := blk_cell (i := 2) (u := .int .i64 x.ck) G7.out.bX rfl
        rcases BXY.out with hb1 | ⟨hb1, hb2⟩
        · rw [hb1] at HSx
          clear hb1
          go_wp2_with (go_at_call 16; refine (HSx.out _ G7.out).mono ?_; rintro e w18 ⟨rfl, hb18⟩; have G8 := Lib.hid (G7.out.step hb18); clear hb18)
          go_meet
          case rel => exact ⟨rfl, G8.out⟩
        · rw [hb1] at HSx
          rw [hb2] at HSy
          clear hb1 hb2
          go_wp2_with (go_at_call 16; first
            | (clear FL; refine (HSx.out _ G7.out).mono ?_; rintro e w18 ⟨rfl, hb18⟩; have G8 := Lib.hid (G7.out.step hb18); clear hb18 z0 z1 z2; have y0 := blk_cell (i := 0) (u := .slice y.a y.l.length y.c) G8.out.bY rfl; have y1 := blk_cell (i := 1) (u := .int .i64 y.ep) G8.out.bY rfl; have y2 := blk_cell (i := 2) (u := .int .i64 y.ck) G8.out.bY rfl)
            | (refine (HSy.out _ G8.out).mono ?_; rintro e w19 ⟨rfl, hb19⟩; have G9 := Lib.hid (G8.out.step hb19); clear hb19))
          go_meet
          case rel => exact ⟨rfl, G9.out⟩
      case rest =>
        clear G7 HSx HSy BXY WX WY WN
        obtain ⟨rfl, hg7⟩ := hcut
        have G7 := Lib.hid hg7
        clear hg7
        have HSz := Lib.hid (DkC.Seize G7.out.run.jm.dk)
        have CA : Hid (D7.ca = []) := Lib.hid R7.out.ca
        have LN : Hid (D7.bl.length ≤ 100000) := Lib.hid (by have := Hold.len R7.out.on; omega)
        go_upto_region 34 with (go_at_call 17; refine HSz.out.mono ?_; rintro e w20 ⟨v20, u20, rfl, ho20, hp20, _, hb20⟩; rw [CA.out] at hp20; obtain ⟨ua, uc, e20⟩ := JouL.own_len hp20; subst e20; obtain ⟨va, vc, e21⟩ := JouL.own_len ho20; subst e21; simp only [List.length_nil]; have V20 := Lib.hid (rowS_own (bv := bv) (fun k e => G7.out.run.jm.dk.foot_lt k (.inr (.inl e))) ho20); have B20 := Lib.hid hb20; clear ho20 hp20 hb20)
        obtain ⟨W21, hW21⟩ : ∃ W21, W21 = w20.alloc (.cells #[.slice va D7.bl.length vc, .slice ua 0 uc] 49) := ⟨_, rfl⟩
        have hb21 : Below w20.heap.size w20 W21 := by rw [hW21]; exact below_new _ _
        have G21 := Lib.hid ((G7.out.step B20.out).step hb21)
        have V21 := Lib.hid (V20.out.step hb21)
        have I21 : Hid (W21.heap[w20.heap.size]? = some (.cells #[.slice va D7.bl.length vc, .slice ua 0 uc] 49 (0, 0))) := Lib.hid (by rw [hW21]; exact heap_alloc_new _ _)
        rw [← hW21]
        clear hW21 hb21 B20 V20 G7 HSz
        generalize w20.heap.size = Q at *
        have HOg := Lib.hid (open_again G21.out.run R7.out Z7.out HG.out)
        rw [hjj] at HOg
        go_upto_region 35 with (go_at_call 10; refine HOg.out.mono ?_; rintro e w22 ⟨J3, P3, S3, a3, cc3, cv22, rfl, r22, ⟨cv23, r23⟩, hd22, hrow22⟩; have ND := Lib.hid (Nd.mk r22 r23 (oth_did G21.out.run.jm.dk hd22 oth_image I21.out) (V21.out.did G21.out.run.jm.dk hd22) (G21.out.rA.did G21.out.run.jm.dk hd22) hrow22); clear r22 r23 hd22 hrow22)
        clear G21 V21 I21 HOg R7 Z7
        replace ND := Lib.hid (ND.out.step (Below.refl _ _).drew)
        have HTx := Lib.hid (fun (W : World) (h : Nd w W J3 P3 S3 J2 P2 S2 b bv cv22 cv23 D7 jj Q va vc ua uc a2 a3 c.dat) => h.texts (by have := L5.out; omega) cc2 cc3)
        have HSu3 := Lib.hid (fun (W : World) (h : Nd w W J3 P3 S3 J2 P2 S2 b bv cv22 cv23 D7 jj Q va vc ua uc a2 a3 c.dat) => JouH.Super h.r3.jm)
        have HSu2 := Lib.hid (fun (W : World) (h : Nd w W J3 P3 S3 J2 P2 S2 b bv cv22 cv23 D7 jj Q va vc ua uc a2 a3 c.dat) => JouH.Super h.r2.jm)
        have HSz := Lib.hid (fun (W : World) (h : Nd w W J3 P3 S3 J2 P2 S2 b bv cv22 cv23 D7 jj Q va vc ua uc a2 a3 c.dat) => DkC.Seize h.r2.jm.dk)
        have HSm := Lib.hid (fun (W : World) (h : Nd w W J3 P3 S3 J2 P2 S2 b bv cv22 cv23 D7 jj Q va vc ua uc a2 a3 c.dat) => h.same_ LN.out)
        have HAe := Lib.hid (fun (W : World) (h : Nd w W J3 P3 S3 J2 P2 S2 b bv cv22 cv23 D7 jj Q va vc ua uc a2 a3 c.dat) => HAl.out W h.r2.below)
        have heq := fun W => SupC.eql_self jj.last.g jj.last.t jj.last.e jj.last.k jj.last.b jj.last.l jj.last.f W
        have hS := ND.out.cs
        go_region_held3 (fun W => W.cell? ⟨Q, 0, none⟩ = some (.slice va D7.bl.length vc) ∧ W.cell? ⟨Q, 1, none⟩ = some (.slice ua 0 uc))
          (exact hS) (first
            | (go_at_call 18; refine (HTx.out _ ND.out).mono ?_; rintro e w23 ⟨rfl, hb⟩; replace ND := Lib.hid (ND.out.step hb); replace hS := ND.out.cs; clear hb)
            | (go_at_call 19; first | (clear FL; refine (HSu3.out _ ND.out).mono ?_; rintro e w24 ⟨rfl, hb⟩; replace ND := Lib.hid (ND.out.step hb); replace hS := ND.out.cs; clear hb) | (refine (HSu2.out _ ND.out).mono ?_; rintro e w25 ⟨rfl, hb⟩; replace ND := Lib.hid (ND.out.step hb); replace hS := ND.out.cs; clear hb))
            | (go_at_call 17; refine (HSz.out _ ND.out).mono ?_; rintro e w26 ⟨v26, u26, rfl, ho26, hp26, _, hb⟩; rw [CA.out] at hp26; obtain ⟨ua2, uc2, e26⟩ := JouL.own_len hp26; subst e26; obtain ⟨va2, vc2, e27⟩ := JouL.own_len ho26; subst e27; simp only [List.length_nil]; have V26 := Lib.hid (rowS_own (bv := bv) (fun k e => ND.out.r2.jm.dk.foot_lt k (.inr (.inl e))) ho26).strs; replace ND := Lib.hid (ND.out.step hb); replace hS := ND.out.cs; clear hb ho26 hp26)
            | (go_at_call 20; refine (HSm.out _ ND.out _ _ _ _ V26.out).mono ?_; rintro e w27 ⟨rfl, hb⟩; replace ND := Lib.hid (ND.out.step hb); replace hS := ND.out.cs; clear hb)
            | (go_at_call 7; refine (HAe.out _ ND.out).mono ?_; rintro e w28 ⟨rfl, hb⟩; replace ND := Lib.hid (ND.out.step hb); replace hS := ND.out.cs; clear hb))
        go_wp2
        go_ret
        exact ⟨rfl, ND.out.r2.below⟩
end Go.Proofs.YtoilcieineejiaaGreatDoor.JouWn
/- JournalWhole: what it lets be; both cases. No condition but the program's variables. -/
namespace Go.Proofs.YtoilcieineejiaaGreatDoor.JouWo
set_option linter.unusedVariables false
open Go.RowKit Go.Shelf
open DkN DkM JouN JouP JouQ JouR JouS JouT JouC JouW JouU JouG JouA JouAl JouWi JouWj JouWn
open SupP (Gl)
set_option maxRecDepth 100000 in
set_option maxHeartbeats 4000000 in
theorem whole_no (a0 : Option Addr) (cp : Nat) (l : List JouSt.RawSt) (n again : Int) (ka : Option Addr) (kn kc : Nat) (w : World) (hrow : JouSt.StpRow w a0 l) (hll : l.length ≤ maxLen) (hgo : ∀ x ∈ l, JouSt.Good x) (h : ¬ (JouSt.fewB l = true ∧ (1 ≤ n ∧ n ≤ 400) ∧ kn ≤ 200 ∧ 0 ≤ again)) (hg : Gl w) :
    Calls Tryz.prog 3 #[.slice a0 l.length cp, .int .i64 n, .int .i64 again, .slice ka kn kc] w fun e w' => e = .returned (.bool true) ∧ Below w.heap.size w w' := by
  have HAl := Lib.hid (fun (W : World) (h : Below w.heap.size w W) => alive W (hg.step h))
  have HSh := Lib.hid (JouSt.short a0 cp l w hrow hll (fun x hx => (hgo x hx).1))
  generalize hf : JouSt.fewB l = f at *
  generalize l.length = m at *
  clear hg hrow hll hgo hf
  cases f
  · clear h
    go_enter Tryz.func3, Tryz.ntmps3
    go_wp2_with (first
      | (go_at_call 6; refine HSh.out.mono ?_; rintro e w1 ⟨rfl, hb1⟩; have B1 := Lib.hid hb1; clear hb1)
      | (go_at_call 7; refine (HAl.out _ B1.out).mono ?_; rintro e w2 ⟨rfl, hb2⟩; have B2 := Lib.hid (B1.out.trans (hb2.mono B1.out.size)); clear hb2))
    go_ret
    exact ⟨rfl, B2.out⟩
  · by_cases h1 : n < 1
    · clear h
      go_enter Tryz.func3, Tryz.ntmps3
      go_wp2_with (first
        | (go_at_call 6; refine HSh.out.mono ?_; rintro e w1 ⟨rfl, hb1⟩; have B1 := Lib.hid hb1; clear hb1)
        | (go_at_call 7; refine (HAl.out _ B1.out).mono ?_; rintro e w2 ⟨rfl, hb2⟩; have B2 := Lib.hid (B1.out.trans (hb2.mono B1.out.size)); clear hb2))
      go_ret
      exact ⟨rfl, B2.out⟩
    · by_cases h2 : 400 < n
      · clear h
        go_enter Tryz.func3, Tryz.ntmps3
        go_wp2_with (first
          | (go_at_call 6; refine HSh.out.mono ?_; rintro e w1 ⟨rfl, hb1⟩; have B1 := Lib.hid hb1; clear hb1)
          | (go_at_call 7; refine (HAl.out _ B1.out).mono ?_; rintro e w2 ⟨rfl, hb2⟩; have B2 := Lib.hid (B1.out.trans (hb2.mono B1.out.size)); clear hb2))
        go_ret
        exact ⟨rfl, B2.out⟩
      · by_cases h3 : (200 : Int) < (kn : Int)
        · clear h
          go_enter Tryz.func3, Tryz.ntmps3
          go_wp2_with (first
            | (go_at_call 6; refine HSh.out.mono ?_; rintro e w1 ⟨rfl, hb1⟩; have B1 := Lib.hid hb1; clear hb1)
            | (go_at_call 7; refine (HAl.out _ B1.out).mono ?_; rintro e w2 ⟨rfl, hb2⟩; have B2 := Lib.hid (B1.out.trans (hb2.mono B1.out.size)); clear hb2))
          go_ret
          exact ⟨rfl, B2.out⟩
        · have h4 : again < 0 := by
            rcases Int.lt_or_le again 0 with q | q
            · exact q
            · exact absurd ⟨rfl, ⟨by omega, by omega⟩, by omega, q⟩ h
          clear h
          go_enter Tryz.func3, Tryz.ntmps3
          go_wp2_with (first
            | (go_at_call 6; refine HSh.out.mono ?_; rintro e w1 ⟨rfl, hb1⟩; have B1 := Lib.hid hb1; clear hb1)
            | (go_at_call 7; refine (HAl.out _ B1.out).mono ?_; rintro e w2 ⟨rfl, hb2⟩; have B2 := Lib.hid (B1.out.trans (hb2.mono B1.out.size)); clear hb2))
          go_ret
          exact ⟨rfl, B2.out⟩
theorem whole (a0 : Option Addr) (cp : Nat) (l : List JouSt.RawSt) (n again : Int) (ka : Option Addr) (kn kc : Nat) (zs : List Int) (w : World) (hrow : JouSt.StpRow w a0 l ∧ l.length ≤ maxLen ∧ ∀ x ∈ l, JouSt.Good x) (hI : (Lit.int .i64 again).wf = true) (hw : IntsAt .i64 w ka kn kc zs) (hg : Gl w) :
    Calls Tryz.prog 3 #[.slice a0 l.length cp, .int .i64 n, .int .i64 again, .slice ka kn kc] w fun e w' => e = .returned (.bool true) ∧ Below w.heap.size w w' := by
  by_cases h : JouSt.fewB l = true ∧ (1 ≤ n ∧ n ≤ 400) ∧ kn ≤ 200 ∧ 0 ≤ again
  · obtain ⟨keep, h1, h2⟩ := row_at hw
    exact whole_ok a0 cp l n again ka kn kc keep w hrow.1 hrow.2.1 hrow.2.2 h.1 h.2.1 h.2.2.2 (by have := Go.bounds_i64 hI; omega) h.2.2.1 h1 h2 hg
  · exact whole_no a0 cp l n again ka kn kc w hrow.1 hrow.2.1 hrow.2.2 h hg
end Go.Proofs.YtoilcieineejiaaGreatDoor.JouWo
