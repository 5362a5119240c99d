/- The program's journal: a disk is opened: the walk of its text. No conditions but those that each lemma names. -/
import Derived.Test.YtoilcieineejiaaGreatDoorLJom
import Derived.Test.YtoilcieineejiaaGreatDoorLSpa
import Derived.Test.YtoilcieineejiaaGreatDoorLDki
namespace Go.Proofs.YtoilcieineejiaaGreatDoor.JouU
set_option linter.unusedVariables false
open Go.RowKit Go.Shelf
open DkN DkM JouN JouP JouQ JouR JouS JouC JouW JouX JouY JouZ JouB JouD JouI JouJ JouM
open SupP (Gl)
open SupC (infoS)
/-- What an opening leaves: the journal, the blocks, the key. -/
structure Got (base b : Nat) (bv cv : Value) (D' : Dk) (s : SupN.Sb) (dat : List B) (J P S : Nat) (a : Option Addr) (c : Nat) (w w' : World) : Prop where
  jm : ∃ cv', Jm base J P S b bv cv' D' ⟨s, s.t.toNat, false⟩ w' ∧ ∀ k, cv'.ownBlock = some k → cv.ownBlock = some k ∨ w.heap.size ≤ k
  row : w'.ownsRow w.heap.size 9 1 (.slice a dat.length c) dat.length (dat.map Value.string)
  kept : Kept (Foot b bv cv) w w'
  new : w.heap.size ≤ J ∧ w.heap.size ≤ P ∧ w.heap.size ≤ S
def Opened (base b : Nat) (bv cv : Value) (D' : Dk) (s : SupN.Sb) (dat : List B) (key : List UInt8) (w : World) (e : Ending) (w' : World) : Prop :=
  ∃ J P S a c, e = .returned (.tuple #[.pointer (some ⟨J, 0, none⟩), .slice a dat.length c, .string ⟨key.toArray⟩, .int .i64 0]) ∧ Got base b bv cv D' s dat J P S a c w w'
/-- What a disk that can be opened shows. -/
structure Fit (sh : List B) (s : SupN.Sb) (q : Int) (key : List UInt8) (dat : List B) : Prop where
  may : SupN.may s
  b : s.b = sh.length
  ch : SupN.choose (lb (at_ sh 0)) (lb (at_ sh 1)) = (s, q, 0)
  pk : SloN.pick (lb (at_ sh 2)) (lb (at_ sh 3)) s.e = (key, 0)
  dl : (dat.length : Int) = s.t
  dat : ∀ i, i < dat.length → sh[4 + i]? = dat[i]?
theorem four_of {W : World} {g : Nat} {sh : List B} (h8 : 8 ≤ sh.length) (h : W.heap[g]? = some (.cells (sh.map Value.string).toArray 9 (0, 0))) : Four W g (lb (at_ sh 0)) (lb (at_ sh 1)) (lb (at_ sh 2)) (lb (at_ sh 3)) := by
  have q : ∀ k, k < sh.length → W.cell? ⟨g, k, none⟩ = some (.string ⟨(lb (at_ sh k)).toArray⟩) := fun k hk => by
    refine blk_cell h ?_
    rw [List.getElem?_toArray, List.getElem?_map, at_some hk]
    rfl
  exact ⟨q 0 (by omega), q 1 (by omega), q 2 (by omega), q 3 (by omega)⟩
/-- The committed blocks, cut out of what is shown. -/
theorem cut_row {W : World} {g : Nat} {sh dat : List B} (h : W.heap[g]? = some (.cells (sh.map Value.string).toArray 9 (0, 0))) (hd : ∀ i, i < dat.length → sh[4 + i]? = dat[i]?) : StrRow W (some ⟨g, 4, none⟩) dat := fun _ =>
  ⟨g, 4, rfl, lt_of_some h, fun k hk => by
    refine blk_cell h ?_
    rw [List.getElem?_toArray, List.getElem?_map, hd k hk, List.getElem?_eq_getElem hk]
    rfl⟩
theorem own_low {w : World} {B B' n : Nat} {e : TypeId} {size : Nat} {v : Value} {xs : List Value} (h : w.ownsRow B e size v n xs) (hb : B' ≤ B) : w.ownsRow B' e size v n xs := by
  refine ⟨h.1, ?_⟩
  rcases h.2 with e0 | ⟨g, cap, cur, rfl, h1, h2⟩
  · exact .inl e0
  · exact .inr ⟨g, cap, cur, rfl, Nat.le_trans hb h1, h2⟩
theorem own_below {w w' : World} {B n : Nat} {e : TypeId} {size : Nat} {v : Value} {xs : List Value} (h : w.ownsRow B e size v n xs) (hb : Below w.heap.size w w') : w'.ownsRow B e size v n xs := MerA.own_at h fun k hk => hb.block k (h.lt k hk).2
section
variable {base b : Nat} {bv cv : Value} {D : Dk} {w : World} {s : SupN.Sb} {q : Int} {key : List UInt8} {dat : List B}
/-- What was shown, with what putRight left: all blocks that are none of the disk's. -/
theorem kept_new {w4 w5 : World} {cv : Value} {D' : Dk} (h : Has false w b bv cv D) (hb : Below w.heap.size w w4) (hd : Did false w4 b bv cv D' w5) {k : Nat} {o : Obj} (hk : w4.heap[k]? = some o) (hn : w.heap.size ≤ k) : w5.heap[k]? = some o := by
  obtain ⟨_, _, _, k5⟩ := hd
  exact (k5.block k (lt_of_some hk) (fun e => by have := h.foot_lt k e; omega)).trans hk
theorem results_tmp4 {P : Program} {fn : Func} {t u v x : Tmp} (h : fn.results = #[.tmp t, .tmp u, .tmp v, .tmp x]) (tmps : Array Value) (w : World) :
    (results fn tmps).run P w = .ok (.tuple #[tmps.getD t undef, tmps.getD u undef, tmps.getD v undef, tmps.getD x undef]) w := by
  simp [results, h]
theorem got {sh : List B} {D' : Dk} {w5 A0 W : World} {J P S c : Nat} {a : Option Addr} (h : Has false w b bv cv D) (hF : Fit sh s q key dat) (hbase : base ≤ w.heap.size) (hf : ∀ k, Foot b bv cv k → base ≤ k) (hd5 : Did false w b bv cv D' w5) (hg5 : Gd base w5) (hb : Below w5.heap.size w5 W)
    (hs : SpaC.Sp A0 S s.b s.l s.f s.t) (hA : Below A0.heap.size A0 W) (hP : W.heap[P]? = some (.cells (jc S b s false) 100 (0, 0))) (hJ : W.heap[J]? = some (.cells #[.pointer (some ⟨P, 0, none⟩)] 64 (0, 0)))
    (ho : W.ownsRow w.heap.size 9 1 (.slice a dat.length c) dat.length (dat.map Value.string)) (lP : A0.heap.size ≤ P) (lJ : A0.heap.size ≤ J) (lS : w5.heap.size ≤ S) (hwA : w.heap.size ≤ A0.heap.size) : Got base b bv cv D' s dat J P S a c w W := by
  obtain ⟨cv5, h5, n5, k5⟩ := hd5
  have hm := hF.may
  have ht : ((s.t.toNat : Nat) : Int) = s.t := Int.toNat_of_nonneg hm.2.2.1.1
  have hws := k5.size
  refine ⟨⟨cv5, ⟨hJ, hP, ?_, h5.step hb, hg5.below hb (by omega), ⟨by omega, by omega, by omega, fun k hk => ?_⟩, hm, ?_⟩, n5⟩, ho, k5.step hb, by omega, by omega, by omega⟩
  · show SpaC.Sp W S s.b s.l s.f ((s.t.toNat : Nat) : Int)
    rw [ht]
    exact hs.step hA
  · rcases hk with e | e | e
    · exact hf k (.inl e)
    · exact hf k (.inr (.inl e))
    · rcases n5 k e with e2 | e2
      · exact hf k (.inr (.inr e2))
      · omega
  · show ((s.t.toNat : Nat) : Int) ≤ s.b - 4
    rw [ht]
    exact hm.2.2.1.2
set_option maxRecDepth 100000 in
set_option maxHeartbeats 2000000 in
theorem Open_in (h : Has false w b bv cv D) (hd : D.down = false) (hg : Gd base w) (hbase : base ≤ w.heap.size) (hf : ∀ k, Foot b bv cv k → base ≤ k) (hF : Fit (shows D) s q key dat) (hz : (run D (openL (shows D) s)).1 = 0) :
    Calls Tryz.prog 10 #[.pointer (some ⟨b, 0, none⟩)] w (Opened base b bv cv (run D (openL (shows D) s)).2 s dat key w) := by
  have hlo := h.ok.lo
  have hhi := h.ok.hi
  have hshl := shows_len D
  have hm := hF.may
  have ht : 0 ≤ s.t := hm.2.2.1.1
  have HSh := Lib.hid (show_ok h hd)
  have HH := Lib.hid h
  have HF := Lib.hid hF
  have HGd := Lib.hid hg
  rw [← hshl] at hlo hhi
  generalize shows D = sh at *
  have HPR := Lib.hid (fun (W : World) (g : Nat) (hb : Below w.heap.size w W) (hr : W.heap[g]? = some (.cells (sh.map Value.string).toArray 9 (0, 0))) => putRight (h.step hb) sh (by omega) hlo s hm hF.b (hg.g.step hb) hr sh.length rfl)
  have HCo := Lib.hid (fun (W : World) (g : Nat) (hb : Below w.heap.size w W) (hr : W.heap[g]? = some (.cells (sh.map Value.string).toArray 9 (0, 0))) => committed_ok g sh.length _ _ _ _ key s q W (four_of hlo hr) hlo (hg.g.step hb) hF.ch hF.b hF.pk)
  have HNw := Lib.hid (fun W hW => SpaI.New_yes s.b s.l s.f s.t W hW ⟨hm.1, ht, hm.2.2.1.2⟩)
  have HDa := Lib.hid (fun (W : World) hW => dataAt (w := W) s.b s.l s.f hW hm.1)
  have HRn : Hid ((run D (openL sh s)).1 = 0) := Lib.hid hz
  generalize run D (openL sh s) = rr at *
  obtain ⟨r1, D'⟩ := rr
  dsimp only at HRn HPR hz ⊢
  subst hz
  have HLe := Lib.hid (And.intro hlo hhi)
  have hpl : 4 + s.t ≤ (sh.length : Int) := by have := hm.2.2.1.2; have := hF.b; omega
  obtain ⟨N, hN⟩ : ∃ N, sh.length = N := ⟨_, rfl⟩
  unfold Shown at HSh
  rw [hN] at HPR HCo HSh HLe hpl
  have HN := Lib.hid hN
  clear h hd hg hF hm hlo hhi hshl hN HRn
  go_enter Tryz.func10, Tryz.ntmps10
  go_upto_region 4 with (go_at_call 36; refine HSh.out.mono ?_; rintro e w1 ⟨rfl, hr1, hb1⟩; have R1 := Lib.hid hr1; have B1 := Lib.hid hb1; clear hr1 hb1)
  go_upto_region 7 with (go_at_call 45; refine (HCo.out _ _ B1.out R1.out).mono ?_; rintro e w2 ⟨rfl, hb2⟩; have R2 := Lib.hid ((hb2.block _ (lt_of_some R1.out)).trans R1.out); have B2 := Lib.hid (B1.out.trans (hb2.mono B1.out.size)); clear hb2)
  obtain ⟨W3, hW3⟩ : ∃ W3, W3 = w2.alloc (.cells #[.int .i64 s.g, .int .i64 s.t, .int .i64 s.e, .int .i64 s.k, .int .i64 s.b, .int .i64 s.l, .int .i64 s.f] 53) := ⟨_, rfl⟩
  rw [← hW3]
  have hX := B2.out.size
  have B3 : Hid (Below w.heap.size w W3) := Lib.hid (by rw [hW3]; exact B2.out.alloc B2.out.size _)
  have R3 : Hid (W3.heap[w.heap.size]? = some (.cells (sh.map Value.string).toArray 9 (0, 0))) := Lib.hid (by rw [hW3]; exact (heap_alloc_old _ _ _ (lt_of_some R2.out)).trans R2.out)
  have Y3 : Hid (W3.heap[w2.heap.size]? = some (.cells #[.int .i64 s.g, .int .i64 s.t, .int .i64 s.e, .int .i64 s.k, .int .i64 s.b, .int .i64 s.l, .int .i64 s.f] 53 (0, 0))) := Lib.hid (by rw [hW3]; exact heap_alloc_new _ _)
  clear hW3 B2 R2
  generalize w2.heap.size = X at *
  have y0 := blk_cell (i := 0) (u := .int .i64 s.g) Y3.out rfl
  have y1 := blk_cell (i := 1) (u := .int .i64 s.t) Y3.out rfl
  have y2 := blk_cell (i := 2) (u := .int .i64 s.e) Y3.out rfl
  have y3 := blk_cell (i := 3) (u := .int .i64 s.k) Y3.out rfl
  have y4 := blk_cell (i := 4) (u := .int .i64 s.b) Y3.out rfl
  have y5 := blk_cell (i := 5) (u := .int .i64 s.l) Y3.out rfl
  have y6 := blk_cell (i := 6) (u := .int .i64 s.f) Y3.out rfl
  go_upto_region 10 with (go_at_call 46; refine (HPR.out _ _ B3.out R3.out).mono ?_; rintro e w5 ⟨rfl, hd5⟩; have R5 := Lib.hid (kept_new HH.out B3.out hd5 R3.out (Nat.le_refl _)); have Y5 := Lib.hid (kept_new HH.out B3.out hd5 Y3.out hX); have D5 := Lib.hid (Did.then_ (HH.out.step B3.out) (fun _ => .inl) (.of_below B3.out) hd5); clear hd5)
  clear y0 y1 y2 y3 y4 y5 y6 HPR HCo HSh R1 B1 B3 R3 Y3
  have G5 : Hid (Gd base w5 ∧ w.heap.size ≤ w5.heap.size) := Lib.hid (by
    obtain ⟨_, _, _, k5⟩ := D5.out
    exact ⟨HGd.out.kept k5.size (fun k hk => k5.block k (by omega) (fun e => by have := hf k e; omega)), k5.size⟩)
  have y0 := blk_cell (i := 0) (u := .int .i64 s.g) Y5.out rfl
  have y1 := blk_cell (i := 1) (u := .int .i64 s.t) Y5.out rfl
  have y2 := blk_cell (i := 2) (u := .int .i64 s.e) Y5.out rfl
  have y3 := blk_cell (i := 3) (u := .int .i64 s.k) Y5.out rfl
  have y4 := blk_cell (i := 4) (u := .int .i64 s.b) Y5.out rfl
  have y5 := blk_cell (i := 5) (u := .int .i64 s.l) Y5.out rfl
  have y6 := blk_cell (i := 6) (u := .int .i64 s.f) Y5.out rfl
  go_upto_region 11 with (go_at_call 47; refine (HNw.out _ G5.out.1.g.bn).mono ?_; rintro e w6 ⟨S, hS6, rfl, hs6, hb6⟩; have B6 := Lib.hid hb6; have S6 := Lib.hid hs6; have L6 := Lib.hid hS6; clear hb6 hs6 hS6)
  have Y6 := Lib.hid ((B6.out.block _ (lt_of_some Y5.out)).trans Y5.out)
  have R6 := Lib.hid ((B6.out.block _ (lt_of_some R5.out)).trans R5.out)
  clear y0 y1 y2 y3 y4 y5 y6 R5 Y5
  have y0 := blk_cell (i := 0) (u := .int .i64 s.g) Y6.out rfl
  have y1 := blk_cell (i := 1) (u := .int .i64 s.t) Y6.out rfl
  have y2 := blk_cell (i := 2) (u := .int .i64 s.e) Y6.out rfl
  have y3 := blk_cell (i := 3) (u := .int .i64 s.k) Y6.out rfl
  have y4 := blk_cell (i := 4) (u := .int .i64 s.b) Y6.out rfl
  have y5 := blk_cell (i := 5) (u := .int .i64 s.l) Y6.out rfl
  have y6 := blk_cell (i := 6) (u := .int .i64 s.f) Y6.out rfl
  go_upto_region 12 with (go_at_call 48; refine (HDa.out _ (G5.out.1.g.step B6.out).bn).mono ?_; rintro e w7 ⟨rfl, hb7⟩; have Y7 := Lib.hid ((hb7.block _ (lt_of_some Y6.out)).trans Y6.out); have R7 := Lib.hid ((hb7.block _ (lt_of_some R6.out)).trans R6.out); have S7 := Lib.hid (S6.out.step hb7); have B7 := Lib.hid (B6.out.trans (hb7.mono B6.out.size)); clear hb7)
  clear y0 y1 y2 y3 y4 y5 y6 R6 Y6 S6 B6 HNw HDa HGd
  obtain ⟨n, hn⟩ : ∃ n, dat.length = n := ⟨_, rfl⟩
  have hst : s.t = (n : Int) := by rw [← hn]; exact HF.out.dl.symm
  have HSt := Lib.hid hst
  have HDn := Lib.hid hn
  obtain ⟨p, hp⟩ : ∃ p, 4 + n = p := ⟨_, rfl⟩
  have HPn := Lib.hid hp
  have hN1 : N ≤ 1024 := HLe.out.2
  have hwr : IntKind.i64.wrap (4 + (n : Int)) = (p : Int) := by rw [IntWalk.i64_in _ (by omega)]; omega
  have hp1 : p ≤ N := by rw [hst] at hpl; omega
  have hp4 : 4 ≤ p := by omega
  rw [hst] at Y7
  have Z7 : Hid (w7.drew.heap[X]? = some (.cells #[.int .i64 s.g, .int .i64 (n : Int), .int .i64 s.e, .int .i64 s.k, .int .i64 s.b, .int .i64 s.l, .int .i64 s.f] 53 (0, 0))) := Y7
  have hp4' : (4 : Int) ≤ (p : Int) := by omega
  have hpn : p - 4 = n := by omega
  have hN4 : ¬ N = 4 := by have := HLe.out.1; omega
  have HCl : Hid (∀ (c : Nat) (W : World), W.heap[w.heap.size]? = some (.cells (sh.map Value.string).toArray 9 (0, 0)) → Calls Tryz.prog 49 #[.slice (some ⟨w.heap.size, 4, none⟩) n c] W (DkC.Cloned 9 1 (dat.map Value.string) n W)) := Lib.hid (fun c W hW => by
    rw [← hn]
    exact DkC.cloneS _ c dat W (cut_row hW HF.out.dat) (by omega))
  have BB : Hid (Below w7.drew.heap.size w7.drew w7.drew) := Lib.hid (Below.refl _ _)
  have R8 : Hid (w7.drew.heap[w.heap.size]? = some (.cells (sh.map Value.string).toArray 9 (0, 0))) := R7
  have B8 : Hid (Below w5.heap.size w5 w7.drew) := Lib.hid B7.out.drew
  have S8 : Hid (SpaC.Sp w7.drew S s.b s.l s.f s.t) := S7
  clear hst hn hp hpl ht
  have HFS : Hid (∀ W : World, W.heap[X]? = some (.cells #[.int .i64 s.g, .int .i64 (n : Int), .int .i64 s.e, .int .i64 s.k, .int .i64 s.b, .int .i64 s.l, .int .i64 s.f] 53 (0, 0)) → (W.cell? ⟨X, 0, none⟩ = some (.int .i64 s.g) ∧ W.cell? ⟨X, 1, none⟩ = some (.int .i64 (n : Int)) ∧ W.cell? ⟨X, 2, none⟩ = some (.int .i64 s.e) ∧ W.cell? ⟨X, 3, none⟩ = some (.int .i64 s.k) ∧ W.cell? ⟨X, 4, none⟩ = some (.int .i64 s.b) ∧ W.cell? ⟨X, 5, none⟩ = some (.int .i64 s.l) ∧ W.cell? ⟨X, 6, none⟩ = some (.int .i64 s.f))) := Lib.hid (fun W q => ⟨blk_cell q rfl, blk_cell q rfl, blk_cell q rfl, blk_cell q rfl, blk_cell q rfl, blk_cell q rfl, blk_cell q rfl⟩)
  have hS := HFS.out _ Z7.out
  refine wp_region_held_drew (S := fun W => W.cell? ⟨X, 0, none⟩ = some (.int .i64 s.g) ∧ W.cell? ⟨X, 1, none⟩ = some (.int .i64 (n : Int)) ∧ W.cell? ⟨X, 2, none⟩ = some (.int .i64 s.e) ∧ W.cell? ⟨X, 3, none⟩ = some (.int .i64 s.k) ∧ W.cell? ⟨X, 4, none⟩ = some (.int .i64 s.b) ∧ W.cell? ⟨X, 5, none⟩ = some (.int .i64 s.l) ∧ W.cell? ⟨X, 6, none⟩ = some (.int .i64 s.f)) (by kernel_rfl) hS (fun _ => ?_)
  change wpAnyH _ _ _ _ _ _ #[false, false, false, false, false, false, false, false, false, false, false, false, false, false, false, false, false, false, false, false] _ _
  have HA : Hid (w.heap.size ≤ w7.drew.heap.size) := Lib.hid (Nat.le_trans G5.out.2 B8.out.size)
  obtain ⟨A0, eA⟩ : ∃ A0, w7.drew = A0 := ⟨_, rfl⟩
  rw [eA] at HA BB R8 B8 S8 Z7 hS ⊢
  clear eA
  refine wpAnyH_take (i := 0) (v := ?v1) (by rw [List.getElem?_toArray]; rfl) (by kernel_rfl) (by kernel_rfl) (by kernel_rfl) (by intro _ _ _ h; exact h) (Or.inl ⟨by rfl, ?hy1⟩) (by assumption) ?rest1
  case hy1 => (intro W hSW; (try dsimp only at hSW); go_simp; try with_reducible rfl)
  try simp only [Act.put, List.setIfInBounds_toArray, List.set_cons_zero, List.set_cons_succ]
  refine wpAnyH_take (i := 1) (v := ?v2) (by rw [List.getElem?_toArray]; rfl) (by kernel_rfl) (by kernel_rfl) (by kernel_rfl) (by intro _ _ _ h; exact h) (Or.inl ⟨by rfl, ?hy2⟩) (by assumption) ?rest2
  case hy2 => (intro W hSW; (try dsimp only at hSW); go_simp; try with_reducible rfl)
  try simp only [Act.put, List.setIfInBounds_toArray, List.set_cons_zero, List.set_cons_succ]
  refine wpAnyH_take (i := 2) (v := ?v3) (by rw [List.getElem?_toArray]; rfl) (by kernel_rfl) (by kernel_rfl) (by kernel_rfl) (by intro _ _ _ h; exact h) (Or.inl ⟨by rfl, ?hy3⟩) (by assumption) ?rest3
  case hy3 => (intro W hSW; (try dsimp only at hSW); go_simp; try with_reducible rfl)
  try simp only [Act.put, List.setIfInBounds_toArray, List.set_cons_zero, List.set_cons_succ]
  refine wpAnyH_take (i := 3) (v := ?v4) (by rw [List.getElem?_toArray]; rfl) (by kernel_rfl) (by kernel_rfl) (by kernel_rfl) (by intro _ _ _ h; exact h) (Or.inl ⟨by rfl, ?hy4⟩) (by assumption) ?rest4
  case hy4 => (intro W hSW; (try dsimp only at hSW); go_simp; try with_reducible rfl)
  try simp only [Act.put, List.setIfInBounds_toArray, List.set_cons_zero, List.set_cons_succ]
  refine wpAnyH_take (i := 7) (v := ?v5) (by rw [List.getElem?_toArray]; rfl) (by kernel_rfl) (by kernel_rfl) (by kernel_rfl) (by intro _ _ _ h; exact h) (Or.inl ⟨by rfl, ?hy5⟩) (by assumption) ?rest5
  case hy5 => (intro W hSW; (try dsimp only at hSW); go_simp; try with_reducible rfl)
  try simp only [Act.put, List.setIfInBounds_toArray, List.set_cons_zero, List.set_cons_succ]
  refine wpAnyH_take (i := 8) (v := ?v6) (by rw [List.getElem?_toArray]; rfl) (by kernel_rfl) (by kernel_rfl) (by kernel_rfl) (by intro _ _ _ h; exact h) (Or.inl ⟨by rfl, ?hy6⟩) (by assumption) ?rest6
  case hy6 => (intro W hSW; (try dsimp only at hSW); go_simp; try with_reducible rfl)
  try simp only [Act.put, List.setIfInBounds_toArray, List.set_cons_zero, List.set_cons_succ]
  refine wpAnyH_take (i := 9) (v := ?v7) (by rw [List.getElem?_toArray]; rfl) (by kernel_rfl) (by kernel_rfl) (by kernel_rfl) (by intro _ _ _ h; exact h) (Or.inl ⟨by rfl, ?hy7⟩) (by assumption) ?rest7
  case hy7 => (intro W hSW; (try dsimp only at hSW); go_simp; try with_reducible rfl)
  try simp only [Act.put, List.setIfInBounds_toArray, List.set_cons_zero, List.set_cons_succ]
  refine wpAnyH_take (i := 10) (v := ?v8) (by rw [List.getElem?_toArray]; rfl) (by kernel_rfl) (by kernel_rfl) (by kernel_rfl) (by intro _ _ _ h; exact h) (Or.inl ⟨by rfl, ?hy8⟩) (by assumption) ?rest8
  case hy8 => (intro W hSW; (try dsimp only at hSW); go_simp; try with_reducible rfl)
  try simp only [Act.put, List.setIfInBounds_toArray, List.set_cons_zero, List.set_cons_succ]
  refine wpAnyH_take (i := 11) (v := ?v9) (by rw [List.getElem?_toArray]; rfl) (by kernel_rfl) (by kernel_rfl) (by kernel_rfl) (by intro _ _ _ h; exact h) (Or.inl ⟨by rfl, ?hy9⟩) (by assumption) ?rest9
  case hy9 => (intro W hSW; (try dsimp only at hSW); go_simp; try with_reducible rfl)
  try simp only [Act.put, List.setIfInBounds_toArray, List.set_cons_zero, List.set_cons_succ]
  refine wpAnyH_take (i := 12) (v := ?v10) (by rw [List.getElem?_toArray]; rfl) (by kernel_rfl) (by kernel_rfl) (by kernel_rfl) (by intro _ _ _ h; exact h) (Or.inl ⟨by rfl, ?hy10⟩) (by assumption) ?rest10
  case hy10 => (intro W hSW; (try dsimp only at hSW); go_simp; try with_reducible rfl)
  try simp only [Act.put, List.setIfInBounds_toArray, List.set_cons_zero, List.set_cons_succ]
  refine wpAnyH_take (i := 13) (v := ?v11) (by rw [List.getElem?_toArray]; rfl) (by kernel_rfl) (by kernel_rfl) (by kernel_rfl) (by intro _ _ _ h; exact h) (Or.inl ⟨by rfl, ?hy11⟩) (by assumption) ?rest11
  case hy11 => (intro W hSW; (try dsimp only at hSW); go_simp; try with_reducible rfl)
  try simp only [Act.put, List.setIfInBounds_toArray, List.set_cons_zero, List.set_cons_succ]
  refine wpAnyH_take (i := 15) (v := ?v12) (by rw [List.getElem?_toArray]; rfl) (by kernel_rfl) (by kernel_rfl) (by kernel_rfl) (by intro _ _ _ h; exact h) (Or.inl ⟨by rfl, ?hy12⟩) (by assumption) ?rest12
  case hy12 => (intro W hSW; (try dsimp only at hSW); go_simp; try with_reducible rfl)
  try simp only [Act.put, List.setIfInBounds_toArray, List.set_cons_zero, List.set_cons_succ]
  refine wpAnyH_ready (rs := [4, 14]) (by kernel_rfl) (by simp) (AllReadyH.cons (by rw [List.getElem?_toArray]; rfl) (fun K hK => ?_) (AllReadyH.cons (by rw [List.getElem?_toArray]; rfl) (fun K hK => ?_) AllReadyH.nil))
  · go_simp
    have LP := Lib.hid BB.out.size
    generalize hw : World.alloc _ _ = wP
    have PP : Hid (wP.heap[A0.heap.size]? = some (Obj.cells #[.pointer (some ⟨S, 0, none⟩), .pointer (some ⟨b, 0, none⟩), .int .i64 s.g, .int .i64 (n : Int), .int .i64 s.e, .int .i64 s.k, .int .i64 s.b, .int .i64 s.l, .int .i64 s.f, .bool false] 100 (0, 0))) := Lib.hid (by rw [← hw]; exact heap_alloc_new _ _)
    have bb : Below A0.heap.size A0 wP := by rw [← hw]; exact below_new _ _
    clear hw
    replace BB := Lib.hid (BB.out.trans (bb.mono BB.out.size))
    replace hS := HFS.out _ ((BB.out.block _ (lt_of_some Z7.out)).trans Z7.out)
    clear bb
    refine hK.out _ _ hS (fun _ => ?_)
    clear hK K
    try simp only [List.setIfInBounds_toArray, List.set_cons_zero, List.set_cons_succ]
    refine wpAnyH_take (i := 5) (v := ?v13) (by rw [List.getElem?_toArray]; rfl) (by kernel_rfl) (by kernel_rfl) (by kernel_rfl) (by intro _ _ _ h; exact h) (Or.inl ⟨by rfl, ?hy13⟩) (by assumption) ?rest13
    case hy13 => (intro W hSW; (try dsimp only at hSW); go_simp; try with_reducible rfl)
    try simp only [Act.put, List.setIfInBounds_toArray, List.set_cons_zero, List.set_cons_succ]
    refine wpAnyH_ready (rs := [6, 14]) (by kernel_rfl) (by simp) (AllReadyH.cons (by rw [List.getElem?_toArray]; rfl) (fun K hK => ?_) (AllReadyH.cons (by rw [List.getElem?_toArray]; rfl) (fun K hK => ?_) AllReadyH.nil))
    · go_simp
      have LJ := Lib.hid BB.out.size
      generalize hw : World.alloc _ _ = wJ
      have JJ : Hid (wJ.heap[wP.heap.size]? = some (Obj.cells #[.pointer (some ⟨A0.heap.size, 0, none⟩)] 64 (0, 0))) := Lib.hid (by rw [← hw]; exact heap_alloc_new _ _)
      have bb : Below wP.heap.size wP wJ := by rw [← hw]; exact below_new _ _
      clear hw
      replace BB := Lib.hid (BB.out.trans (bb.mono BB.out.size))
      replace hS := HFS.out _ ((BB.out.block _ (lt_of_some Z7.out)).trans Z7.out)
      replace PP := Lib.hid ((bb.block _ (lt_of_some PP.out)).trans PP.out)
      clear bb
      refine hK.out _ _ hS (fun _ => ?_)
      clear hK K
      try simp only [List.setIfInBounds_toArray, List.set_cons_zero, List.set_cons_succ]
      refine wpAnyH_ready (rs := [14]) (by kernel_rfl) (by simp) (AllReadyH.cons (by rw [List.getElem?_toArray]; rfl) (fun K hK => ?_) AllReadyH.nil)
      go_simp
      refine (HCl.out _ _ ((BB.out.block _ (lt_of_some R8.out)).trans R8.out)).mono ?_
      rintro e w8 ⟨v8, rfl, ho8, bb⟩
      have O8 := Lib.hid (own_low (B' := w.heap.size) ho8 (Nat.le_trans HA.out BB.out.size))
      replace BB := Lib.hid (BB.out.trans (bb.mono BB.out.size))
      replace hS := HFS.out _ ((BB.out.block _ (lt_of_some Z7.out)).trans Z7.out)
      replace PP := Lib.hid ((bb.block _ (lt_of_some PP.out)).trans PP.out)
      replace JJ := Lib.hid ((bb.block _ (lt_of_some JJ.out)).trans JJ.out)
      clear bb
      refine hK.out _ _ hS (fun _ => ?_)
      clear hK K
      try simp only [List.setIfInBounds_toArray, List.set_cons_zero, List.set_cons_succ]
      refine wpAnyH_take (i := 16) (v := ?v14) (by rw [List.getElem?_toArray]; rfl) (by kernel_rfl) (by kernel_rfl) (by kernel_rfl) (by intro _ _ _ h; exact h) (Or.inl ⟨by rfl, ?hy14⟩) (by assumption) ?rest14
      case hy14 => (intro W hSW; (try dsimp only at hSW); go_simp; try with_reducible rfl)
      try simp only [Act.put, List.setIfInBounds_toArray, List.set_cons_zero, List.set_cons_succ]
      refine wpAnyH_take (i := 17) (v := ?v15) (by rw [List.getElem?_toArray]; rfl) (by kernel_rfl) (by kernel_rfl) (by kernel_rfl) (by intro _ _ _ h; exact h) (Or.inl ⟨by rfl, ?hy15⟩) (by assumption) ?rest15
      case hy15 => (intro W hSW; (try dsimp only at hSW); go_simp; try with_reducible rfl)
      try simp only [Act.put, List.setIfInBounds_toArray, List.set_cons_zero, List.set_cons_succ]
      refine wpAnyH_take (i := 18) (v := ?v16) (by rw [List.getElem?_toArray]; rfl) (by kernel_rfl) (by kernel_rfl) (by kernel_rfl) (by intro _ _ _ h; exact h) (Or.inl ⟨by rfl, ?hy16⟩) (by assumption) ?rest16
      case hy16 => (intro W hSW; (try dsimp only at hSW); go_simp; try with_reducible rfl)
      try simp only [Act.put, List.setIfInBounds_toArray, List.set_cons_zero, List.set_cons_succ]
      refine wpAnyH_take (i := 19) (v := ?v17) (by rw [List.getElem?_toArray]; rfl) (by kernel_rfl) (by kernel_rfl) (by kernel_rfl) (by intro _ _ _ h; exact h) (Or.inl ⟨by rfl, ?hy17⟩) (by assumption) ?rest17
      case hy17 => (intro W hSW; (try dsimp only at hSW); go_simp; try with_reducible rfl)
      try simp only [Act.put, List.setIfInBounds_toArray, List.set_cons_zero, List.set_cons_succ]
      refine wpAnyH_done (by kernel_rfl) ?_ _
      obtain ⟨a8, c8, rfl⟩ := JouL.own_len O8.out
      go_wp2_with fail
      refine bodyPost_ret (results_tmp4 rfl _ _) rfl ?_
      exact ⟨wP.heap.size, A0.heap.size, S, a8, c8, by rw [HDn.out]; rfl, got HH.out HF.out hbase hf D5.out G5.out.1 (B8.out.trans (BB.out.mono B8.out.size)) S8.out BB.out (by unfold jc; rw [HSt.out]; exact PP.out) JJ.out (by rw [HDn.out]; exact O8.out) LP.out LJ.out L6.out HA.out⟩
    · go_simp
      refine (HCl.out _ _ ((BB.out.block _ (lt_of_some R8.out)).trans R8.out)).mono ?_
      rintro e w8 ⟨v8, rfl, ho8, bb⟩
      have O8 := Lib.hid (own_low (B' := w.heap.size) ho8 (Nat.le_trans HA.out BB.out.size))
      replace BB := Lib.hid (BB.out.trans (bb.mono BB.out.size))
      replace hS := HFS.out _ ((BB.out.block _ (lt_of_some Z7.out)).trans Z7.out)
      replace PP := Lib.hid ((bb.block _ (lt_of_some PP.out)).trans PP.out)
      clear bb
      refine hK.out _ _ hS (fun _ => ?_)
      clear hK K
      try simp only [List.setIfInBounds_toArray, List.set_cons_zero, List.set_cons_succ]
      refine wpAnyH_ready (rs := [6]) (by kernel_rfl) (by simp) (AllReadyH.cons (by rw [List.getElem?_toArray]; rfl) (fun K hK => ?_) AllReadyH.nil)
      go_simp
      have LJ := Lib.hid BB.out.size
      generalize hw : World.alloc _ _ = wJ
      have JJ : Hid (wJ.heap[w8.heap.size]? = some (Obj.cells #[.pointer (some ⟨A0.heap.size, 0, none⟩)] 64 (0, 0))) := Lib.hid (by rw [← hw]; exact heap_alloc_new _ _)
      have bb : Below w8.heap.size w8 wJ := by rw [← hw]; exact below_new _ _
      clear hw
      replace BB := Lib.hid (BB.out.trans (bb.mono BB.out.size))
      replace hS := HFS.out _ ((BB.out.block _ (lt_of_some Z7.out)).trans Z7.out)
      replace O8 := Lib.hid (own_below O8.out bb)
      replace PP := Lib.hid ((bb.block _ (lt_of_some PP.out)).trans PP.out)
      clear bb
      refine hK.out _ _ hS (fun _ => ?_)
      clear hK K
      try simp only [List.setIfInBounds_toArray, List.set_cons_zero, List.set_cons_succ]
      refine wpAnyH_take (i := 16) (v := ?v18) (by rw [List.getElem?_toArray]; rfl) (by kernel_rfl) (by kernel_rfl) (by kernel_rfl) (by intro _ _ _ h; exact h) (Or.inl ⟨by rfl, ?hy18⟩) (by assumption) ?rest18
      case hy18 => (intro W hSW; (try dsimp only at hSW); go_simp; try with_reducible rfl)
      try simp only [Act.put, List.setIfInBounds_toArray, List.set_cons_zero, List.set_cons_succ]
      refine wpAnyH_take (i := 17) (v := ?v19) (by rw [List.getElem?_toArray]; rfl) (by kernel_rfl) (by kernel_rfl) (by kernel_rfl) (by intro _ _ _ h; exact h) (Or.inl ⟨by rfl, ?hy19⟩) (by assumption) ?rest19
      case hy19 => (intro W hSW; (try dsimp only at hSW); go_simp; try with_reducible rfl)
      try simp only [Act.put, List.setIfInBounds_toArray, List.set_cons_zero, List.set_cons_succ]
      refine wpAnyH_take (i := 18) (v := ?v20) (by rw [List.getElem?_toArray]; rfl) (by kernel_rfl) (by kernel_rfl) (by kernel_rfl) (by intro _ _ _ h; exact h) (Or.inl ⟨by rfl, ?hy20⟩) (by assumption) ?rest20
      case hy20 => (intro W hSW; (try dsimp only at hSW); go_simp; try with_reducible rfl)
      try simp only [Act.put, List.setIfInBounds_toArray, List.set_cons_zero, List.set_cons_succ]
      refine wpAnyH_take (i := 19) (v := ?v21) (by rw [List.getElem?_toArray]; rfl) (by kernel_rfl) (by kernel_rfl) (by kernel_rfl) (by intro _ _ _ h; exact h) (Or.inl ⟨by rfl, ?hy21⟩) (by assumption) ?rest21
      case hy21 => (intro W hSW; (try dsimp only at hSW); go_simp; try with_reducible rfl)
      try simp only [Act.put, List.setIfInBounds_toArray, List.set_cons_zero, List.set_cons_succ]
      refine wpAnyH_done (by kernel_rfl) ?_ _
      obtain ⟨a8, c8, rfl⟩ := JouL.own_len O8.out
      go_wp2_with fail
      refine bodyPost_ret (results_tmp4 rfl _ _) rfl ?_
      exact ⟨w8.heap.size, A0.heap.size, S, a8, c8, by rw [HDn.out]; rfl, got HH.out HF.out hbase hf D5.out G5.out.1 (B8.out.trans (BB.out.mono B8.out.size)) S8.out BB.out (by unfold jc; rw [HSt.out]; exact PP.out) JJ.out (by rw [HDn.out]; exact O8.out) LP.out LJ.out L6.out HA.out⟩
  · go_simp
    refine (HCl.out _ _ ((BB.out.block _ (lt_of_some R8.out)).trans R8.out)).mono ?_
    rintro e w8 ⟨v8, rfl, ho8, bb⟩
    have O8 := Lib.hid (own_low (B' := w.heap.size) ho8 (Nat.le_trans HA.out BB.out.size))
    replace BB := Lib.hid (BB.out.trans (bb.mono BB.out.size))
    replace hS := HFS.out _ ((BB.out.block _ (lt_of_some Z7.out)).trans Z7.out)
    clear bb
    refine hK.out _ _ hS (fun _ => ?_)
    clear hK K
    try simp only [List.setIfInBounds_toArray, List.set_cons_zero, List.set_cons_succ]
    refine wpAnyH_ready (rs := [4]) (by kernel_rfl) (by simp) (AllReadyH.cons (by rw [List.getElem?_toArray]; rfl) (fun K hK => ?_) AllReadyH.nil)
    go_simp
    have LP := Lib.hid BB.out.size
    generalize hw : World.alloc _ _ = wP
    have PP : Hid (wP.heap[w8.heap.size]? = some (Obj.cells #[.pointer (some ⟨S, 0, none⟩), .pointer (some ⟨b, 0, none⟩), .int .i64 s.g, .int .i64 (n : Int), .int .i64 s.e, .int .i64 s.k, .int .i64 s.b, .int .i64 s.l, .int .i64 s.f, .bool false] 100 (0, 0))) := Lib.hid (by rw [← hw]; exact heap_alloc_new _ _)
    have bb : Below w8.heap.size w8 wP := by rw [← hw]; exact below_new _ _
    clear hw
    replace BB := Lib.hid (BB.out.trans (bb.mono BB.out.size))
    replace hS := HFS.out _ ((BB.out.block _ (lt_of_some Z7.out)).trans Z7.out)
    replace O8 := Lib.hid (own_below O8.out bb)
    clear bb
    refine hK.out _ _ hS (fun _ => ?_)
    clear hK K
    try simp only [List.setIfInBounds_toArray, List.set_cons_zero, List.set_cons_succ]
    refine wpAnyH_take (i := 5) (v := ?v22) (by rw [List.getElem?_toArray]; rfl) (by kernel_rfl) (by kernel_rfl) (by kernel_rfl) (by intro _ _ _ h; exact h) (Or.inl ⟨by rfl, ?hy22⟩) (by assumption) ?rest22
    case hy22 => (intro W hSW; (try dsimp only at hSW); go_simp; try with_reducible rfl)
    try simp only [Act.put, List.setIfInBounds_toArray, List.set_cons_zero, List.set_cons_succ]
    refine wpAnyH_ready (rs := [6]) (by kernel_rfl) (by simp) (AllReadyH.cons (by rw [List.getElem?_toArray]; rfl) (fun K hK => ?_) AllReadyH.nil)
    go_simp
    have LJ := Lib.hid BB.out.size
    generalize hw : World.alloc _ _ = wJ
    have JJ : Hid (wJ.heap[wP.heap.size]? = some (Obj.cells #[.pointer (some ⟨w8.heap.size, 0, none⟩)] 64 (0, 0))) := Lib.hid (by rw [← hw]; exact heap_alloc_new _ _)
    have bb : Below wP.heap.size wP wJ := by rw [← hw]; exact below_new _ _
    clear hw
    replace BB := Lib.hid (BB.out.trans (bb.mono BB.out.size))
    replace hS := HFS.out _ ((BB.out.block _ (lt_of_some Z7.out)).trans Z7.out)
    replace O8 := Lib.hid (own_below O8.out bb)
    replace PP := Lib.hid ((bb.block _ (lt_of_some PP.out)).trans PP.out)
    clear bb
    refine hK.out _ _ hS (fun _ => ?_)
    clear hK K
    try simp only [List.setIfInBounds_toArray, List.set_cons_zero, List.set_cons_succ]
    refine wpAnyH_take (i := 16) (v := ?v23) (by rw [List.getElem?_toArray]; rfl) (by kernel_rfl) (by kernel_rfl) (by kernel_rfl) (by intro _ _ _ h; exact h) (Or.inl ⟨by rfl, ?hy23⟩) (by assumption) ?rest23
    case hy23 => (intro W hSW; (try dsimp only at hSW); go_simp; try with_reducible rfl)
    try simp only [Act.put, List.setIfInBounds_toArray, List.set_cons_zero, List.set_cons_succ]
    refine wpAnyH_take (i := 17) (v := ?v24) (by rw [List.getElem?_toArray]; rfl) (by kernel_rfl) (by kernel_rfl) (by kernel_rfl) (by intro _ _ _ h; exact h) (Or.inl ⟨by rfl, ?hy24⟩) (by assumption) ?rest24
    case hy24 => (intro W hSW; (try dsimp only at hSW); go_simp; try with_reducible rfl)
    try simp only [Act.put, List.setIfInBounds_toArray, List.set_cons_zero, List.set_cons_succ]
    refine wpAnyH_take (i := 18) (v := ?v25) (by rw [List.getElem?_toArray]; rfl) (by kernel_rfl) (by kernel_rfl) (by kernel_rfl) (by intro _ _ _ h; exact h) (Or.inl ⟨by rfl, ?hy25⟩) (by assumption) ?rest25
    case hy25 => (intro W hSW; (try dsimp only at hSW); go_simp; try with_reducible rfl)
    try simp only [Act.put, List.setIfInBounds_toArray, List.set_cons_zero, List.set_cons_succ]
    refine wpAnyH_take (i := 19) (v := ?v26) (by rw [List.getElem?_toArray]; rfl) (by kernel_rfl) (by kernel_rfl) (by kernel_rfl) (by intro _ _ _ h; exact h) (Or.inl ⟨by rfl, ?hy26⟩) (by assumption) ?rest26
    case hy26 => (intro W hSW; (try dsimp only at hSW); go_simp; try with_reducible rfl)
    try simp only [Act.put, List.setIfInBounds_toArray, List.set_cons_zero, List.set_cons_succ]
    refine wpAnyH_done (by kernel_rfl) ?_ _
    obtain ⟨a8, c8, rfl⟩ := JouL.own_len O8.out
    go_wp2_with fail
    refine bodyPost_ret (results_tmp4 rfl _ _) rfl ?_
    exact ⟨wP.heap.size, w8.heap.size, S, a8, c8, by rw [HDn.out]; rfl, got HH.out HF.out hbase hf D5.out G5.out.1 (B8.out.trans (BB.out.mono B8.out.size)) S8.out BB.out (by unfold jc; rw [HSt.out]; exact PP.out) JJ.out (by rw [HDn.out]; exact O8.out) LP.out LJ.out L6.out HA.out⟩
end
end Go.Proofs.YtoilcieineejiaaGreatDoor.JouU
