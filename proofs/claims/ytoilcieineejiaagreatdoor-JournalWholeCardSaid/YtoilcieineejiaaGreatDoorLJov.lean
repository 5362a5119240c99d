/- JouV JouA JouAl: one behind the other. -/
import Derived.Test.YtoilcieineejiaaGreatDoorJouU
import Derived.Test.YtoilcieineejiaaGreatDoorLJot
import Derived.Test.YtoilcieineejiaaGreatDoorLJog
import Derived.Test.YtoilcieineejiaaGreatDoorLDkr
import Derived.Test.YtoilcieineejiaaGreatDoorLDki
import Derived.Test.YtoilcieineejiaaGreatDoorDkE
/- The program's journal: an opening that is refused; no disk: the walks of their texts. No conditions but those that each lemma names. -/
namespace Go.Proofs.YtoilcieineejiaaGreatDoor.JouV
set_option linter.unusedVariables false
open Go.RowKit Go.Shelf
open DkN DkM JouN JouP JouQ JouR JouS JouC JouW JouX JouY JouZ JouB JouD JouI JouJ JouM JouU
open SupP (Gl)
section
variable {b : Nat} {bv cv : Value} {D : Dk} {w : World} {s : SupN.Sb} {q : Int} {key : List UInt8} {dat : List B}
set_option maxRecDepth 100000 in
set_option maxHeartbeats 2000000 in
theorem Open_out (h : Has false w b bv cv D) (hd : D.down = false) (hg : Gl w) (hF : Fit (shows D) s q key dat) (hz : (run D (openL (shows D) s)).1 ≠ 0) :
    Calls Tryz.prog 10 #[.pointer (some ⟨b, 0, none⟩)] w fun e w' => e = .returned (.tuple #[.pointer none, .slice none 0 0, .string ⟨#[]⟩, .int .i64 ((run D (openL (shows D) s)).1 : Nat)]) ∧ Did false w b bv cv (run D (openL (shows D) s)).2 w' := by
  have hlo := h.ok.lo
  have hhi := h.ok.hi
  have hshl := shows_len D
  have hm := hF.may
  have ht : 0 ≤ s.t := hm.2.2.1.1
  have HSh := Lib.hid (show_ok h hd)
  have HH := Lib.hid h
  have HF := Lib.hid hF
  rw [← hshl] at hlo hhi
  generalize shows D = sh at *
  have HPR := Lib.hid (fun (W : World) (g : Nat) (hb : Below w.heap.size w W) (hr : W.heap[g]? = some (.cells (sh.map Value.string).toArray 9 (0, 0))) => putRight (h.step hb) sh (by omega) hlo s hm hF.b (hg.step hb) hr sh.length rfl)
  have HCo := Lib.hid (fun (W : World) (g : Nat) (hb : Below w.heap.size w W) (hr : W.heap[g]? = some (.cells (sh.map Value.string).toArray 9 (0, 0))) => committed_ok g sh.length _ _ _ _ key s q W (four_of hlo hr) hlo (hg.step hb) hF.ch hF.b hF.pk)
  generalize run D (openL sh s) = rr at *
  obtain ⟨r1, D'⟩ := rr
  dsimp only at HPR hz ⊢
  have hq : ((r1 : Int) != 0) = true := by rw [bne_iff_ne]; omega
  have HLe := Lib.hid (And.intro hlo hhi)
  have hpl : 4 + s.t ≤ (sh.length : Int) := by have := hm.2.2.1.2; have := hF.b; omega
  obtain ⟨N, hN⟩ : ∃ N, sh.length = N := ⟨_, rfl⟩
  unfold Shown at HSh
  rw [hN] at HPR HCo HSh HLe hpl
  have HN := Lib.hid hN
  clear h hd hg hF hm hlo hhi hshl hN
  go_enter Tryz.func10, Tryz.ntmps10
  go_upto_region 4 with (go_at_call 36; refine HSh.out.mono ?_; rintro e w1 ⟨rfl, hr1, hb1⟩; have R1 := Lib.hid hr1; have B1 := Lib.hid hb1; clear hr1 hb1)
  go_upto_region 7 with (go_at_call 45; refine (HCo.out _ _ B1.out R1.out).mono ?_; rintro e w2 ⟨rfl, hb2⟩; have R2 := Lib.hid ((hb2.block _ (lt_of_some R1.out)).trans R1.out); have B2 := Lib.hid (B1.out.trans (hb2.mono B1.out.size)); clear hb2)
  obtain ⟨W3, hW3⟩ : ∃ W3, W3 = w2.alloc (.cells #[.int .i64 s.g, .int .i64 s.t, .int .i64 s.e, .int .i64 s.k, .int .i64 s.b, .int .i64 s.l, .int .i64 s.f] 53) := ⟨_, rfl⟩
  rw [← hW3]
  have hX := B2.out.size
  have B3 : Hid (Below w.heap.size w W3) := Lib.hid (by rw [hW3]; exact B2.out.alloc B2.out.size _)
  have R3 : Hid (W3.heap[w.heap.size]? = some (.cells (sh.map Value.string).toArray 9 (0, 0))) := Lib.hid (by rw [hW3]; exact (heap_alloc_old _ _ _ (lt_of_some R2.out)).trans R2.out)
  have Y3 : Hid (W3.heap[w2.heap.size]? = some (.cells #[.int .i64 s.g, .int .i64 s.t, .int .i64 s.e, .int .i64 s.k, .int .i64 s.b, .int .i64 s.l, .int .i64 s.f] 53 (0, 0))) := Lib.hid (by rw [hW3]; exact heap_alloc_new _ _)
  clear hW3 B2 R2
  generalize w2.heap.size = X at *
  have y0 := blk_cell (i := 0) (u := .int .i64 s.g) Y3.out rfl
  have y1 := blk_cell (i := 1) (u := .int .i64 s.t) Y3.out rfl
  have y2 := blk_cell (i := 2) (u := .int .i64 s.e) Y3.out rfl
  have y3 := blk_cell (i := 3) (u := .int .i64 s.k) Y3.out rfl
  have y4 := blk_cell (i := 4) (u := .int .i64 s.b) Y3.out rfl
  have y5 := blk_cell (i := 5) (u := .int .i64 s.l) Y3.out rfl
  have y6 := blk_cell (i := 6) (u := .int .i64 s.f) Y3.out rfl
  go_wp2_with (go_at_call 46; refine (HPR.out _ _ B3.out R3.out).mono ?_; rintro e w5 ⟨rfl, hd5⟩; have D5 := Lib.hid (Did.then_ (HH.out.step B3.out) (fun _ => .inl) (.of_below B3.out) hd5); clear hd5)
  refine bodyPost_ret (JouU.results_tmp4 rfl _ _) rfl ?_
  exact ⟨rfl, D5.out⟩
end
set_option maxRecDepth 100000 in
theorem Open_un (p : Option Addr) (w : World) (h : DkU.Un w p) :
    Calls Tryz.prog 10 #[.pointer p] w fun e w' => e = .returned (.tuple #[.pointer none, .slice none 0 0, .string ⟨#[]⟩, .int .i64 1]) ∧ Below w.heap.size w w' := by
  have HS := Lib.hid (show_un p w h)
  clear h
  go_enter Tryz.func10, Tryz.ntmps10
  go_wp2_with (go_at_call 36; refine HS.out.mono ?_; rintro e w2 ⟨rfl, hb2⟩; have B2 := Lib.hid hb2; clear hb2)
  refine bodyPost_ret (JouU.results_tmp4 rfl _ _) rfl ?_
  exact ⟨rfl, B2.out⟩
set_option maxRecDepth 100000 in
set_option maxHeartbeats 2000000 in
theorem Format_un (p : Option Addr) (w : World) (h : DkU.Un w p) (gb gl gf : Int) (hr : GeoN.right gb gl gf) (key : List UInt8) (hk : key.length = 32) (hg : Gl w) :
    Calls Tryz.prog 9 #[.pointer p, .agg #[.int .i64 gb, .int .i64 gl, .int .i64 gf], .string ⟨key.toArray⟩] w fun e w' => e = .returned (.int .i64 2) ∧ Below w.heap.size w w' := by
  obtain ⟨W1, hW1⟩ : ∃ W1, W1 = w.alloc (.cells #[.int .i64 gb, .int .i64 gl, .int .i64 gf] 32) := ⟨_, rfl⟩
  have B1 : Hid (Below w.heap.size w W1) := Lib.hid (by rw [hW1]; exact below_new _ _)
  have X1 : Hid (W1.heap[w.heap.size]? = some (.cells #[.int .i64 gb, .int .i64 gl, .int .i64 gf] 32 (0, 0))) := Lib.hid (by rw [hW1]; exact heap_alloc_new w _)
  have HG := Lib.hid hg
  have HCk := Lib.hid (fun W hW => GeoD.Check gb gl gf W hW)
  rw [show GeoN.check gb gl gf = 0 from GeoN.check_yes hr] at HCk
  have HSz := Lib.hid (fun W (hb : Below w.heap.size w W) => DkU.Size (h.step hb))
  have HF : Hid (∀ W : World, Below W1.heap.size W1 W → (W.cell? ⟨w.heap.size, 0, none⟩ = some (.int .i64 gb) ∧ W.cell? ⟨w.heap.size, 1, none⟩ = some (.int .i64 gl) ∧ W.cell? ⟨w.heap.size, 2, none⟩ = some (.int .i64 gf))) := Lib.hid (fun W hb => by
    have q := (hb.block _ (lt_of_some X1.out)).trans X1.out
    exact ⟨blk_cell q rfl, blk_cell q rfl, blk_cell q rfl⟩)
  have hS := HF.out W1.drew (Below.refl _ _).drew
  have hkz : (⟨key.toArray⟩ : ByteArray).size = 32 := hk
  have hq : ((0 : Int) != gb) = true := by rw [bne_iff_ne]; unfold GeoN.right at hr; omega
  clear h hg hr hk
  go_enter Tryz.func9, Tryz.ntmps9
  go_upto_region 1 with (fail)
  rw [← hW1]
  clear hW1
  go_region_held3 (fun W => W.cell? ⟨w.heap.size, 0, none⟩ = some (.int .i64 gb) ∧ W.cell? ⟨w.heap.size, 1, none⟩ = some (.int .i64 gl) ∧ W.cell? ⟨w.heap.size, 2, none⟩ = some (.int .i64 gf))
    (first | exact hS | exact hS1)
    (first
      | (go_at_call 34; refine (HCk.out _ (HG.out.step (B1.out.drew)).bn).mono ?_; rintro e w2 ⟨rfl, hb2⟩; have hS1 := HF.out w2 ((Below.refl _ _).drew.trans hb2); have B2 := Lib.hid (B1.out.drew.trans (hb2.mono B1.out.drew.size)); clear hb2)
      | (go_at_call 35; refine (HSz.out _ B2.out).mono ?_; rintro e _ ⟨rfl, rfl⟩))
  go_wp2_with fail
  go_ret
  exact ⟨rfl, B2.out⟩
end Go.Proofs.YtoilcieineejiaaGreatDoor.JouV
/- The program's journal, as its statements call it: a disk is made, formatted and opened; what is committed is opened. No conditions but those that each lemma names. -/
namespace Go.Proofs.YtoilcieineejiaaGreatDoor.JouA
set_option linter.unusedVariables false
open Go.RowKit Go.Shelf
open DkN DkM JouN JouP JouQ JouR JouS JouT JouC JouW JouU JouG
open SupP (Gl)
theorem fit_of {n : Nat} {bl : List B} {c : Cm} (h : c.on n bl) (hn : 8 ≤ n) : Fit bl c.s (c.s.g % 2) c.key c.dat := by
  have h' : Hold n bl c.s c.dat c.key := h
  have hl := h'.len
  exact ⟨h'.may, by rw [hl]; exact h'.b, h'.choose (at_some (by omega)) (at_some (by omega)), h'.pick (at_some (by omega)) (at_some (by omega)), h'.dlen, h'.dat⟩
section
variable {base b n : Nat} {bv cv : Value} {D : Dk} {w : World} {c : Cm}
theorem Open_at (h : Has false w b bv cv D) (hd : D.down = false) (hca : D.ca = []) (hc : c.on n D.bl) (hn : 8 ≤ n) (hg : Gd base w) (hbase : base ≤ w.heap.size) (hf : ∀ k, Foot b bv cv k → base ≤ k) (hz : (run D (openL D.bl c.s)).1 = 0) :
    Calls Tryz.prog 10 #[.pointer (some ⟨b, 0, none⟩)] w (Opened base b bv cv (run D (openL D.bl c.s)).2 c.s c.dat c.key w) := by
  have e := shows_calm hca
  rw [← e] at hc hz ⊢
  exact JouU.Open_in h hd hg hbase hf (fit_of hc hn) hz
theorem Open_off (h : Has false w b bv cv D) (hd : D.down = false) (hca : D.ca = []) (hc : c.on n D.bl) (hn : 8 ≤ n) (hg : Gl w) (hz : (run D (openL D.bl c.s)).1 ≠ 0) :
    Calls Tryz.prog 10 #[.pointer (some ⟨b, 0, none⟩)] w fun e w' => e = .returned (.tuple #[.pointer none, .slice none 0 0, .string ⟨#[]⟩, .int .i64 ((run D (openL D.bl c.s)).1 : Nat)]) ∧ Did false w b bv cv (run D (openL D.bl c.s)).2 w' := by
  have e := shows_calm hca
  rw [← e] at hc hz ⊢
  exact JouV.Open_out h hd hg (fit_of hc hn) hz
end
/-- A disk that was just formatted. -/
def Fm (n : Nat) (key : List UInt8) : Dk := (run (made n) (fmtL (shows (made n)) n 1 0 key)).2
def c0 (n : Nat) (key : List UInt8) : Cm := ⟨sup1 n 1 0, [], key⟩
section
variable {n : Nat} {key : List UInt8}
theorem sup1_may (hn : 8 ≤ n ∧ n ≤ 1024) : SupN.may (sup1 n 1 0) := by
  unfold SupN.may sup1 GeoN.right
  dsimp only
  omega
theorem fm_ok (hn : 8 ≤ n ∧ n ≤ 1024) (hk : key.length = 32) : (run (made n) (fmtL (shows (made n)) n 1 0 key)).1 = 0 ∧ (Fm n key).down = false ∧ (Fm n key).armed = 0 ∧ (Fm n key).ca = [] ∧ (c0 n key).on n (Fm n key).bl := by
  obtain ⟨h1, h2, h3, h4, h5⟩ := fmt_made hn (sup1_may hn) rfl hk
  refine ⟨h1, h2, h3, h4, ?_⟩
  show Hold n (Fm n key).bl (sup1 n 1 0) [] key
  rw [show (Fm n key).bl = fmt n (sup1 n 1 0) key from h5]
  exact fmt_hold (sup1_may hn) rfl rfl rfl hk
theorem Format_new {w : World} {b : Nat} {bv cv : Value} (h : Has false w b bv cv (made n)) (hn : 8 ≤ n ∧ n ≤ 1024) (hk : key.length = 32) (hg : Gl w) :
    Calls Tryz.prog 9 #[.pointer (some ⟨b, 0, none⟩), .agg #[.int .i64 n, .int .i64 1, .int .i64 0], .string ⟨key.toArray⟩] w fun e w' => e = .returned (.int .i64 0) ∧ Did false w b bv cv (Fm n key) w' := by
  refine (JouO.Format h rfl n 1 0 (sup1_may hn) (by simp [made]) key hk hg).mono ?_
  rintro e w' ⟨rfl, hd⟩
  exact ⟨by rw [(fm_ok hn hk).1]; rfl, hd⟩
/-- A disk that was just formatted and opened. -/
def OpD (n : Nat) (key : List UInt8) : Dk := (run (Fm n key) (openL (Fm n key).bl (c0 n key).s)).2
theorem op_gen {D : Dk} {c : Cm} (hd : D.down = false) (ha : D.armed = 0) (hca : D.ca = []) (h : c.on n D.bl) (hn : 8 ≤ n ∧ n ≤ 1024) : (run D (openL D.bl c.s)).1 = 0 ∧ (run D (openL D.bl c.s)).2.armed = 0 ∧ Inv n (run D (openL D.bl c.s)).2 ⟨c.s, c.s.t.toNat, false⟩ c.dat c.key ∧ (run D (openL D.bl c.s)).2.ca = [] ∧ Up n (run D (openL D.bl c.s)).2 ⟨c.s, c.s.t.toNat, false⟩ c.dat c.key ⟨c.dat, c.s.e, c.s.k⟩ := by
  obtain ⟨q1, q2, q3, _⟩ := opens hd ha hca h hn
  exact ⟨q1, (calm hd ha _).2.1, q2, q3, up_open q2⟩
theorem op_ok (hn : 8 ≤ n ∧ n ≤ 1024) (hk : key.length = 32) : (run (Fm n key) (openL (Fm n key).bl (c0 n key).s)).1 = 0 ∧ (OpD n key).armed = 0 ∧ Inv n (OpD n key) ⟨(c0 n key).s, (c0 n key).s.t.toNat, false⟩ (c0 n key).dat (c0 n key).key ∧ (OpD n key).ca = [] ∧ Up n (OpD n key) ⟨(c0 n key).s, (c0 n key).s.t.toNat, false⟩ (c0 n key).dat (c0 n key).key ⟨(c0 n key).dat, (c0 n key).s.e, (c0 n key).s.k⟩ := by
  obtain ⟨_, h2, h3, h4, h5⟩ := fm_ok hn hk
  unfold OpD
  generalize Fm n key = D at *
  generalize c0 n key = c at *
  exact op_gen h2 h3 h4 h5 hn
theorem Open_new {base : Nat} {w : World} {b : Nat} {bv cv : Value} (h : Has false w b bv cv (Fm n key)) (hn : 8 ≤ n ∧ n ≤ 1024) (hk : key.length = 32) (hg : Gd base w) (hbase : base ≤ w.heap.size) (hf : ∀ k, Foot b bv cv k → base ≤ k) :
    Calls Tryz.prog 10 #[.pointer (some ⟨b, 0, none⟩)] w (Opened base b bv cv (OpD n key) (c0 n key).s (c0 n key).dat (c0 n key).key w) := by
  obtain ⟨_, h2, _, h4, h5⟩ := fm_ok hn hk
  have h6 := (op_ok hn hk).1
  unfold OpD
  generalize Fm n key = D at *
  generalize c0 n key = c at *
  exact Open_at h h2 h4 h5 hn.1 hg hbase hf h6
end
attribute [irreducible] Fm OpD
section
variable {n : Nat} {D : Dk} {j : Jo} {all : List B} {key : List UInt8}
/-- Calls that are answered where no power goes. -/
theorem app_calm (h : Inv n D j all key) (ha : D.armed = 0) {s : B} (hs : s.size = 4096) (hr : all.length + 5 < n) :
    (appendJ D j s).e = 0 ∧ (appendJ D j s).n = all.length ∧ (appendJ D j s).j = ⟨j.last, j.used + 1, false⟩ ∧ (appendJ D j s).D.armed = 0 ∧ Inv n (appendJ D j s).D ⟨j.last, j.used + 1, false⟩ (all ++ [s]) key := by
  have hb := h.hold.b
  have hu := h.used
  unfold appendJ
  rw [if_neg (by rw [h.whole]; decide), if_neg (by omega), if_neg (by rw [GeoN.room_yes h.hold.may.1 (by omega) (by omega)]; omega)]
  unfold appR
  have hc := calm h.up ha [.wr (4 + j.used) s]
  rcases append h hs (by omega) with ⟨h1, h2⟩ | ⟨h1, _⟩
  · rw [h1]
    have e : ({ j with used := j.used + 1 } : Jo) = ⟨j.last, j.used + 1, false⟩ := by rw [← h.whole]
    rw [e] at h2
    exact ⟨rfl, hu, rfl, hc.2.1, h2⟩
  · exact absurd h1 hc.2.2
theorem com_calm (h : Inv n D j all key) (ha : D.armed = 0) {ck : Int} (hc : j.last.k ≤ ck ∧ ck ≤ 1099511627776) (hg : j.last.g ≠ 1152921504606846976) :
    (commitJ D j ck).e = 0 ∧ (commitJ D j ck).j = ⟨nxt j j.used j.last.e ck, j.used, false⟩ := by
  unfold commitJ
  rw [if_neg (by rw [h.whole]; decide), if_neg (by unfold noNext; rw [if_neg (by omega), if_neg hg]; simp)]
  unfold comR
  have hcl := calm h.up ha (commitL j ck)
  rcases commit h hc hg with ⟨h1, h2, _⟩ | ⟨h1, _⟩
  · rw [h1]
    exact ⟨rfl, rfl⟩
  · exact absurd h1 hcl.2.2
end
end Go.Proofs.YtoilcieineejiaaGreatDoor.JouA
/- The chapter's example of the program's journal: the walk of its text. No conditions but those that each lemma names. -/
namespace Go.Proofs.YtoilcieineejiaaGreatDoor.JouAl
set_option linter.unusedVariables false
open Go.RowKit Go.Shelf
open DkN DkM JouN JouP JouQ JouR JouS JouT JouC JouW JouU JouG JouA
open SupP (Gl)
open DkA (Solo)
open SupC (infoS)
/-- A journal of the call's own. -/
structure Run (w0 W : World) (J P S b : Nat) (bv cv : Value) (D : Dk) (j : Jo) : Prop where
  jm : Jm w0.heap.size J P S b bv cv D j W
  below : Below w0.heap.size w0 W
section
variable {w0 W W' : World} {J P S b : Nat} {bv cv : Value} {D D' : Dk} {j j' : Jo}
theorem Run.went (h : Run w0 W J P S b bv cv D j) (hw : Went w0.heap.size J P S b bv cv D' j' W W') : ∃ cv', Run w0 W' J P S b bv cv' D' j' := by
  obtain ⟨cv', h1, _, k1⟩ := hw
  refine ⟨cv', h1, h.below.trans (k1.below (fun k hk => ?_) h.below.size)⟩
  obtain ⟨_, lP, lS, lF⟩ := h.jm.low
  rcases hk with rfl | rfl | hk
  · exact lP
  · exact lS
  · exact lF k hk
theorem Run.step (h : Run w0 W J P S b bv cv D j) (hb : Below W.heap.size W W') : Run w0 W' J P S b bv cv D j := ⟨h.jm.step hb, h.below.trans (hb.mono h.below.size)⟩
theorem Run.solo (h : Run w0 W J P S b bv cv D j) : Solo false w0 W b bv cv D := ⟨h.jm.dk, h.below, fun k hk => h.jm.low.2.2.2 k hk⟩
theorem solo_gd (h : Solo false w0 W b bv cv D) (hg : Gl w0) : Gd w0.heap.size W := (gd_of hg).below h.below (Nat.le_refl _)
theorem solo_gl (h : Solo false w0 W b bv cv D) (hg : Gl w0) : Gl W := (solo_gd h hg).g
/-- What an opening leaves of a disk of the call's own. -/
def Ope (w0 : World) (b : Nat) (bv : Value) (D' : Dk) (s : SupN.Sb) (dat : List B) (key : List UInt8) (W : World) (e : Ending) (W' : World) : Prop :=
  ∃ J P S a c cv', e = .returned (.tuple #[.pointer (some ⟨J, 0, none⟩), .slice a dat.length c, .string ⟨key.toArray⟩, .int .i64 0]) ∧ Run w0 W' J P S b bv cv' D' ⟨s, s.t.toNat, false⟩ ∧ W'.ownsRow W.heap.size 9 1 (.slice a dat.length c) dat.length (dat.map Value.string) ∧ J ≠ b
theorem ope_of {s : SupN.Sb} {dat : List B} {key : List UInt8} {e : Ending} (h : Solo false w0 W b bv cv D) (ho : Opened w0.heap.size b bv cv D' s dat key W e W') : Ope w0 b bv D' s dat key W e W' := by
  obtain ⟨J, P, S, a, c, rfl, hg⟩ := ho
  obtain ⟨cv', hj, _⟩ := hg.jm
  exact ⟨J, P, S, a, c, cv', rfl, ⟨hj, h.below.trans (hg.kept.below h.foot h.below.size)⟩, hg.row, by have := hg.new.1; have := h.has.foot_lt b (.inl rfl); omega⟩
end
theorem New_solo (n : Nat) (w : World) (h1 : 8 ≤ n) (h2 : n ≤ 1024) : Calls Tryz.prog 8 #[.int .i64 n] w fun e w' => ∃ b bv cv, e = .returned (.tuple #[.pointer (some ⟨b, 0, none⟩), .int .i64 0]) ∧ Solo false w w' b bv cv (made n) := by
  refine (DkNew.New_yes n w h1 h2).mono ?_
  rintro e w' ⟨b, bv, cv, rfl, f1, f2, f3⟩
  exact ⟨b, bv, cv, rfl, f1, f2, f3⟩
section
variable {w0 W : World} {b : Nat} {bv cv : Value} {n : Nat} {key : List UInt8}
theorem Format_solo (h : Solo false w0 W b bv cv (made n)) (hn : 8 ≤ n ∧ n ≤ 1024) (hk : key.length = 32) (hg : Gl w0) :
    Calls Tryz.prog 9 #[.pointer (some ⟨b, 0, none⟩), .agg #[.int .i64 n, .int .i64 1, .int .i64 0], .string ⟨key.toArray⟩] W fun e w' => e = .returned (.int .i64 0) ∧ ∃ cv', Solo false w0 w' b bv cv' (Fm n key) := by
  refine (Format_new h.has hn hk (solo_gl h hg)).mono ?_
  rintro e w' ⟨rfl, hd⟩
  exact ⟨rfl, h.did hd⟩
theorem Open_solo (h : Solo false w0 W b bv cv (Fm n key)) (hn : 8 ≤ n ∧ n ≤ 1024) (hk : key.length = 32) (hg : Gl w0) :
    Calls Tryz.prog 10 #[.pointer (some ⟨b, 0, none⟩)] W (Ope w0 b bv (OpD n key) (c0 n key).s (c0 n key).dat (c0 n key).key W) := by
  refine (Open_new h.has hn hk (solo_gd h hg) h.below.size h.foot).mono ?_
  intro e w' ho
  exact ope_of h ho
end
theorem fld_g (g t e k b l f : Int) (W : World) : (Instr.field 53 (.agg #[.int .i64 g, .int .i64 t, .int .i64 e, .int .i64 k, .int .i64 b, .int .i64 l, .int .i64 f]) 0).run Tryz.prog W = .ok (.int .i64 g) W := by kernel_rfl
theorem fld_t (g t e k b l f : Int) (W : World) : (Instr.field 53 (.agg #[.int .i64 g, .int .i64 t, .int .i64 e, .int .i64 k, .int .i64 b, .int .i64 l, .int .i64 f]) 1).run Tryz.prog W = .ok (.int .i64 t) W := by kernel_rfl
theorem fld_e (g t e k b l f : Int) (W : World) : (Instr.field 53 (.agg #[.int .i64 g, .int .i64 t, .int .i64 e, .int .i64 k, .int .i64 b, .int .i64 l, .int .i64 f]) 2).run Tryz.prog W = .ok (.int .i64 e) W := by kernel_rfl
theorem fld_k (g t e k b l f : Int) (W : World) : (Instr.field 53 (.agg #[.int .i64 g, .int .i64 t, .int .i64 e, .int .i64 k, .int .i64 b, .int .i64 l, .int .i64 f]) 3).run Tryz.prog W = .ok (.int .i64 k) W := by kernel_rfl
def key0 : List UInt8 := [48, 49, 50, 51, 52, 53, 54, 55, 56, 57, 97, 98, 99, 100, 101, 102, 48, 49, 50, 51, 52, 53, 54, 55, 56, 57, 97, 98, 99, 100, 101, 102]
theorem key0_len : key0.length = 32 := rfl
/-- The example's calls. -/
def E1 (s : ByteArray) : Re := appendJ (OpD 8 key0) ⟨(c0 8 key0).s, (c0 8 key0).s.t.toNat, false⟩ s
theorem e1_ok (s : ByteArray) (hs : s.size = 4096) : (E1 s).n = 0 ∧ (E1 s).e = 0 ∧ (E1 s).j = ⟨(c0 8 key0).s, 1, false⟩ ∧ (commitJ (E1 s).D ⟨(c0 8 key0).s, 1, false⟩ 5).e = 0 ∧ (commitJ (E1 s).D ⟨(c0 8 key0).s, 1, false⟩ 5).j = ⟨⟨2, 1, 0, 5, 8, 1, 0⟩, 1, false⟩ := by
  obtain ⟨_, h2, h3, _, _⟩ := op_ok (n := 8) (key := key0) (by omega) key0_len
  unfold E1
  generalize OpD 8 key0 = D at *
  have q := app_calm h3 h2 hs (by show 0 + 5 < 8; omega)
  have q5 := q.2.2.2.2
  have r := com_calm (ck := 5) q5 q.2.2.2.1 (by show (0 : Int) ≤ 5 ∧ (5 : Int) ≤ _; omega) (by show (1 : Int) ≠ _; omega)
  exact ⟨q.2.1, q.1, q.2.2.1, r.1, r.2⟩
set_option maxRecDepth 100000 in
set_option maxHeartbeats 2000000 in
theorem alive (w : World) (hg : Gl w) : Calls Tryz.prog 7 #[] w fun e w' => e = .returned (.bool true) ∧ Below w.heap.size w w' := by
  have HN := Lib.hid (New_solo 8 w (by omega) (by omega))
  have HF := Lib.hid (fun (W : World) (b : Nat) (bv cv : Value) (h : Solo false w W b bv cv (made 8)) => Format_solo (key := key0) h (by omega) key0_len hg)
  have HO := Lib.hid (fun (W : World) (b : Nat) (bv cv : Value) (h : Solo false w W b bv cv (Fm 8 key0)) => Open_solo h (by omega) key0_len hg)
  have HA := Lib.hid (fun (W : World) (J P S b : Nat) (bv cv : Value) (h : Run w W J P S b bv cv (OpD 8 key0) ⟨(c0 8 key0).s, (c0 8 key0).s.t.toNat, false⟩) => JouH.Append h.jm (full4 ⟨#[97]⟩))
  have HC := Lib.hid (fun (W : World) (J P S b : Nat) (bv cv : Value) (h : Run w W J P S b bv cv (E1 (full4 ⟨#[97]⟩)).D ⟨(c0 8 key0).s, 1, false⟩) => JouH.Commit h.jm 5)
  have HE := Lib.hid (e1_ok (full4 ⟨#[97]⟩) (DkA.full4_size _))
  have HFu := Lib.hid (fun W => DkA.Full4 ⟨#[97]⟩ W)
  have HS0 := Lib.hid (fun (W : World) (J P S b : Nat) (bv cv : Value) (D : Dk) (h : Run w W J P S b bv cv D ⟨(c0 8 key0).s, 0, false⟩) => JouH.Super h.jm)
  have HS1 := Lib.hid (fun (W : World) (J P S b : Nat) (bv cv : Value) (D : Dk) (h : Run w W J P S b bv cv D ⟨⟨2, 1, 0, 5, 8, 1, 0⟩, 1, false⟩) => JouH.Super h.jm)
  have HR1 := Lib.hid (fun (W : World) (J P S b : Nat) (bv cv : Value) (D : Dk) (h : Run w W J P S b bv cv D ⟨⟨2, 1, 0, 5, 8, 1, 0⟩, 1, false⟩) => JouH.Room h.jm)
  rw [show GeoN.room (⟨⟨2, 1, 0, 5, 8, 1, 0⟩, 1, false⟩ : Jo).last.b (⟨⟨2, 1, 0, 5, 8, 1, 0⟩, 1, false⟩ : Jo).last.l (⟨⟨2, 1, 0, 5, 8, 1, 0⟩, 1, false⟩ : Jo).last.f ((⟨⟨2, 1, 0, 5, 8, 1, 0⟩, 1, false⟩ : Jo).used : Nat) = 2 by decide] at HR1
  have hkey : key0.toArray = #[48, 49, 50, 51, 52, 53, 54, 55, 56, 57, 97, 98, 99, 100, 101, 102, 48, 49, 50, 51, 52, 53, 54, 55, 56, 57, 97, 98, 99, 100, 101, 102] := rfl
  rw [hkey] at HF
  unfold Ope at HO
  rw [show (c0 8 key0).key = key0 from rfl, show (c0 8 key0).dat = [] from rfl, hkey] at HO
  rw [show (c0 8 key0).s.t.toNat = 0 from rfl] at HO HA
  unfold Tells at HA
  unfold Says at HC
  simp only [List.length_nil, Int.cast_ofNat_Int] at HO HF HN
  obtain ⟨e1, e2, e3, e4, e5⟩ := HE.out
  have HE5 := Lib.hid e5
  rw [e4] at HC
  have hap : appendJ (OpD 8 key0) ⟨(c0 8 key0).s, 0, false⟩ (full4 ⟨#[97]⟩) = E1 (full4 ⟨#[97]⟩) := rfl
  rw [hap, e1, e2, e3] at HA
  rw [e5] at HC
  clear e1 e2 e3 e4 e5 HE hkey hap HE5 hg
  generalize full4 ⟨#[97]⟩ = tx at *
  have hfld := fld_g (c0 8 key0).s.g (c0 8 key0).s.t (c0 8 key0).s.e (c0 8 key0).s.k (c0 8 key0).s.b (c0 8 key0).s.l (c0 8 key0).s.f
  rw [show Value.int .i64 (c0 8 key0).s.g = Value.int .i64 1 from rfl] at hfld HS0
  go_enter Tryz.func7, Tryz.ntmps7
  go_upto_region 2 with (go_at_call 8; refine HN.out.mono ?_; rintro e w1 ⟨b, bv, cv, rfl, hs1⟩; have S1 := Lib.hid hs1; clear hs1)
  go_upto_region 3 with (go_at_call 9; refine (HF.out _ _ _ _ S1.out).mono ?_; rintro e w2 ⟨rfl, cv2, hs2⟩; have S2 := Lib.hid hs2; clear hs2)
  go_upto_region 4 with (go_at_call 10; refine (HO.out _ _ _ _ S2.out).mono ?_; rintro e w3 ⟨J, P, S, a, c, cv3, rfl, hr3, _, _⟩; have R3 := Lib.hid hr3; clear hr3)
  clear HN HF HO S1 S2
  go_upto_region 6 with (go_at_call 19; refine (HS0.out _ _ _ _ _ _ _ _ R3.out).mono ?_; rintro e w4 ⟨rfl, hb4⟩; have R4 := Lib.hid (R3.out.step hb4); clear hb4)
  go_upto_region 7 with (first
    | (go_at_call 22; refine (HFu.out _).mono ?_; rintro e w5 ⟨rfl, hb5⟩; have R5 := Lib.hid (R4.out.step hb5); clear hb5)
    | (go_at_call 24; refine (HA.out _ _ _ _ _ _ _ R5.out).mono ?_; rintro e w6 ⟨rfl, hw6⟩; obtain ⟨cv6, hr6⟩ := R5.out.went hw6; have R6 := Lib.hid hr6; clear hw6 hr6))
  go_upto_region 8 with (go_at_call 26; refine (HC.out _ _ _ _ _ _ _ R6.out).mono ?_; rintro e w7 ⟨rfl, hw7⟩; obtain ⟨cv7, hr7⟩ := R6.out.went hw7; have R7 := Lib.hid hr7; clear hw7 hr7)
  go_upto_region 9 with (go_at_call 19; refine (HS1.out _ _ _ _ _ _ _ _ R7.out).mono ?_; rintro e w8 ⟨rfl, hb8⟩; have R8 := Lib.hid (R7.out.step hb8); clear hb8)
  have R9 := Lib.hid (R8.out.step (below_new w8 (.cells #[.int .i64 2, .int .i64 1, .int .i64 0, .int .i64 5, .int .i64 8, .int .i64 1, .int .i64 0] 53)))
  have x9 := heap_alloc_new w8 (.cells #[.int .i64 2, .int .i64 1, .int .i64 0, .int .i64 5, .int .i64 8, .int .i64 1, .int .i64 0] 53)
  have y0 := blk_cell (i := 0) (u := .int .i64 2) x9 rfl
  have y1 := blk_cell (i := 1) (u := .int .i64 1) x9 rfl
  have y3 := blk_cell (i := 3) (u := .int .i64 5) x9 rfl
  clear x9
  generalize hW : World.alloc _ _ = W9 at *
  clear hW
  go_wp2_with (go_at_call 30; refine (HR1.out _ _ _ _ _ _ _ _ R9.out).mono ?_; rintro e w10 ⟨rfl, hb10⟩; have B10 := Lib.hid (R9.out.step hb10).below; clear hb10)
  go_ret
  exact ⟨rfl, B10.out⟩
end Go.Proofs.YtoilcieineejiaaGreatDoor.JouAl
