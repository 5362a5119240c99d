/- The program's journal: an epoch is closed: the walks of its text. No conditions but those that each lemma names. -/
import Derived.Test.YtoilcieineejiaaGreatDoorLJob
import Derived.Test.YtoilcieineejiaaGreatDoorLSlc
namespace Go.Proofs.YtoilcieineejiaaGreatDoor.JouF
set_option linter.unusedVariables false
open Go.RowKit
open DkN DkM JouN JouP JouQ JouR JouS JouC JouW JouX JouY JouZ JouB JouD JouE
open SupP (Gl)
section
variable {base J P S b : Nat} {bv cv : Value} {D : Dk} {j : Jo} {w w1 : World}
/-- The row of a closing's steps. -/
def rowC (b x1 y1 z1 x2 y2 z2 x3 y3 x4 y4 z4 : Nat) : Obj :=
  .cells #[.func (.func 82) #[] #[.pointer (some ⟨x1, 0, none⟩), .pointer (some ⟨y1, 0, none⟩), .pointer (some ⟨z1, 0, none⟩)],
    .func (.func 82) #[] #[.pointer (some ⟨x2, 0, none⟩), .pointer (some ⟨y2, 0, none⟩), .pointer (some ⟨z2, 0, none⟩)],
    .func (.func 41) #[.pointer (some ⟨b, 0, none⟩)] #[],
    .func (.func 130) #[] #[.pointer (some ⟨x3, 0, none⟩), .pointer (some ⟨y3, 0, none⟩)],
    .func (.func 82) #[] #[.pointer (some ⟨x4, 0, none⟩), .pointer (some ⟨y4, 0, none⟩), .pointer (some ⟨z4, 0, none⟩)],
    .func (.func 41) #[.pointer (some ⟨b, 0, none⟩)] #[]] 88
theorem clo_row (h : Jm base J P S b bv cv D j w) (s : ByteArray) (next : List UInt8) {ck : Int} (hn : noNext j ck = 0) (he : ¬ j.last.e = 4294967295) (hd : (j.used : Int) < GeoN.data j.last.b j.last.l j.last.f) (w3 : World) (x1 y1 z1 x2 y2 z2 x3 y3 x4 y4 z4 : Nat) (hk : Kept (fun k => k = S) w w3) (hs : SpaC.Sp w3 S j.last.b j.last.l j.last.f (j.used + 1 : Nat))
    (hw1 : WrAt w3 b ((4 + j.used : Nat) : Int) s x1 y1 z1) (hw2 : WrAt w3 b ((2 + ((j.last.e + 1) % 2).toNat : Nat) : Int) (bb (SloN.blk (j.last.e + 1) next)) x2 y2 z2) (hc : CoAt w3 P (nxt j (j.used + 1) (j.last.e + 1) ck) x3 y3)
    (hw4 : WrAt w3 b ((2 + (j.last.e % 2).toNat : Nat) : Int) (nou 4096) x4 y4 z4) :
    Calls Tryz.prog 96 #[.pointer (some ⟨P, 0, none⟩), .int .i64 j.used, .slice (some ⟨w3.heap.size, 0, none⟩) 6 6] (w3.alloc (rowC b x1 y1 z1 x2 y2 z2 x3 y3 x4 y4 z4))
      fun e w' => e = .returned (.tuple #[.int .i64 ((cloR D j s next ck).n : Nat), .int .i64 ((cloR D j s next ck).e : Nat)]) ∧ Went base J P S b bv cv (cloR D j s next ck).D (cloR D j s next ck).j w w' ∧ KeepS w3 w' := by
  have hu := used_le h
  have hee := h.may.2.2.2.1
  have hr := h.may.1
  rw [GeoN.data_yes hr] at hd
  obtain ⟨hm', h1, h2, hg⟩ := may_nx (u := j.used + 1) (e := j.last.e + 1) h.may (by omega) (by omega) hn
  have hb4 := below_new w3 (rowC b x1 y1 z1 x2 y2 z2 x3 y3 x4 y4 z4)
  have r4 := heap_alloc_new w3 (rowC b x1 y1 z1 x2 y2 z2 x3 y3 x4 y4 z4)
  have old : ∀ (X : Nat) (o : Obj), w3.heap[X]? = some o → (w3.alloc (rowC b x1 y1 z1 x2 y2 z2 x3 y3 x4 y4 z4)).heap[X]? = some o := fun X o hX => (heap_alloc_old _ _ (lt_of_some hX)).trans hX
  generalize w3.alloc (rowC b x1 y1 z1 x2 y2 z2 x3 y3 x4 y4 z4) = w4 at *
  have hk4 := hk.step hb4
  obtain ⟨h4, p4, g4⟩ := Jm.after h hk4
  have a1 := hw1.step hb4
  have a2 := hw2.step hb4
  have a3 := hc.step hb4
  have a4 := hw4.step hb4
  have st : ∀ {i : Nat} {s : ByteArray} {x y z : Nat}, WrAt w4 b (i : Int) s x y z → Stp (RJ w4 P S b bv cv j.broken) ((Lens.fst SupN.Sb).act [.wr i s]) (.func (.func 82) #[] #[.pointer (some ⟨x, 0, none⟩), .pointer (some ⟨y, 0, none⟩), .pointer (some ⟨z, 0, none⟩)]) := fun a =>
    stp_wr fr_RJ (stay_RJ h4 a.d (ne_P p4.po a.d (by decide)) (by decide) (by decide) (.inl (by decide))) (stay_RJ h4 a.i (ne_P p4.po a.i (by decide)) (by decide) (by decide) (.inl (by decide))) (stay_RJ h4 a.s (ne_P p4.po a.s (by decide)) (by decide) (by decide) (.inr (show 1 < 8 by decide)))
  have fs : Stps (RJ w4 P S b bv cv j.broken) [Value.func (.func 82) #[] #[.pointer (some ⟨x1, 0, none⟩), .pointer (some ⟨y1, 0, none⟩), .pointer (some ⟨z1, 0, none⟩)],
    .func (.func 82) #[] #[.pointer (some ⟨x2, 0, none⟩), .pointer (some ⟨y2, 0, none⟩), .pointer (some ⟨z2, 0, none⟩)],
    .func (.func 41) #[.pointer (some ⟨b, 0, none⟩)] #[],
    .func (.func 130) #[] #[.pointer (some ⟨x3, 0, none⟩), .pointer (some ⟨y3, 0, none⟩)],
    .func (.func 82) #[] #[.pointer (some ⟨x4, 0, none⟩), .pointer (some ⟨y4, 0, none⟩), .pointer (some ⟨z4, 0, none⟩)],
    .func (.func 41) #[.pointer (some ⟨b, 0, none⟩)] #[]]
      ([[Ac.wr (4 + j.used) s], [Ac.wr (2 + ((j.last.e + 1) % 2).toNat) (bb (SloN.blk (j.last.e + 1) next))], [Ac.fl]].map (Lens.fst SupN.Sb).act ++ (comS (nxt j (j.used + 1) (j.last.e + 1) ck) :: [[Ac.wr (2 + (j.last.e % 2).toNat) (nou 4096)], [Ac.fl]].map (Lens.fst SupN.Sb).act)) :=
    .cons (st a1) (.cons (st a2) (.cons (stp_fl fr_RJ) (.cons (stp_co (gl_RJ g4 (Nat.le_trans h.base_le hk4.size) h.low.2.1 h.low.2.2.2) hm' (stay_RJ h4 a3.j (ne_P p4.po a3.j (by decide)) (by decide) (by decide) (.inl (by decide))) (stay_RJ h4 a3.u (ne_P p4.po a3.u (by decide)) (by decide) (by decide) (.inl (by decide)))) (.cons (st a4) (.cons (stp_fl fr_RJ) .nil)))))
  refine (numbered h4 p4.po j.used _ 6 6 _ _ rfl (by omega) (stay_at (stay_RJ h4 r4 (ne_P p4.po r4 (by decide)) (by decide) (by decide) (.inl (by decide)))) fs).mono ?_
  rintro e w' ⟨rfl, hR⟩
  rw [runS_com] at hR ⊢
  refine ⟨rfl, went_rj h hk4 (hs.step hb4) hR ?_ ?_ ?_, fun X cs hX => ?_⟩
  · split
    · exact hm'
    · exact h.may
  · split
    · exact ⟨rfl, rfl, rfl⟩
    · exact ⟨rfl, rfl, rfl⟩
  · split
    · show ((j.used + 1 : Nat) : Int) ≤ j.last.b - 4
      omega
    · omega
  · have hX' := old X _ hX
    exact stay_RJ h4 hX' (ne_P p4.po hX' (by decide)) (by decide) (by decide) (.inl (by decide)) w' _ hR
end
set_option maxRecDepth 100000 in
set_option maxHeartbeats 2000000 in
theorem close_ok {base J P S b : Nat} {bv cv : Value} {D : Dk} {j : Jo} {w : World} (h : Jm base J P S b bv cv D j w) (s : ByteArray) (hs : s.size = 4096) (next : List UInt8) (hk : next.length = 32) (ck : Int) (hn : noNext j ck = 0) (he : ¬ j.last.e = 4294967295) (hd : (j.used : Int) < GeoN.data j.last.b j.last.l j.last.f) :
    Calls Tryz.prog 57 #[.pointer (some ⟨P, 0, none⟩), .string s, .string ⟨next.toArray⟩, .int .i64 ck] w fun e w' => e = .returned (.tuple #[.int .i64 ((cloR D j s next ck).n : Nat), .int .i64 ((cloR D j s next ck).e : Nat)]) ∧ Went base J P S b bv cv (cloR D j s next ck).D (cloR D j s next ck).j w w' := by
  have hu := used_le h
  have hee := h.may.2.2.2.1
  have hr := h.may.1
  have he0 : 0 ≤ j.last.e := by unfold GeoN.right at hr; omega
  have hem : SloN.may (j.last.e + 1) := ⟨by omega, by omega⟩
  obtain ⟨hm', h1, h2, hg⟩ := may_nx h.may h.few ⟨Int.le_refl _, hee.2⟩ hn
  have HN := Lib.hid (next_ok (Jm.pj h) h.may ck h1 h2 hg)
  have HT := Lib.hid (fun W (hW : SpaC.Sp W S j.last.b j.last.l j.last.f j.used) hg' => SpaH.Close_yes S j.last.b j.last.l j.last.f j.used W hW (bne0 h) hg' (by omega) hu hd)
  rw [show ((j.used : Int) + 1) = ((j.used + 1 : Nat) : Int) by omega] at HT
  have HDO := Lib.hid (fun w3 x1 y1 z1 x2 y2 z2 x3 y3 x4 y4 z4 hk' hs' q1 q2 q3 q4 => clo_row h s next hn he hd w3 x1 y1 z1 x2 y2 z2 x3 y3 x4 y4 z4 hk' hs' q1 q2 q3 q4)
  have HA : Hid (∀ W : World, Kept (fun k => k = S) w W → Pj P S b j.last j.broken W) := Lib.hid (fun W hk => (Jm.after h hk).2.1)
  have HL := Lib.hid (fun W hW => lays (P := P) (S := S) (b := b) (s := j.last) (br := j.broken) (w := W) hW h.may.1 (j.used : Int) (by omega) (by omega) s)
  rw [show (4 + (j.used : Int)) = ((4 + j.used : Nat) : Int) by omega] at HL
  have HK0 := Lib.hid (fun W => GeoD.Key j.last.e W (by omega))
  have HK1 := Lib.hid (fun W => GeoD.Key (j.last.e + 1) W (by omega))
  rw [show 2 + GeoN.turn j.last.e = ((2 + (j.last.e % 2).toNat : Nat) : Int) by unfold GeoN.turn; omega] at HK0
  rw [show 2 + GeoN.turn (j.last.e + 1) = ((2 + ((j.last.e + 1) % 2).toNat : Nat) : Int) by unfold GeoN.turn; omega] at HK1
  have HU := Lib.hid (fun W hW => SpaE.Used S j.last.b j.last.l j.last.f (j.used + 1 : Nat) W hW (bne0 h))
  have HPu := Lib.hid (fun W hW => SloP.Put (j.last.e + 1) next W hW)
  rw [SloN.put_yes hem hk] at HPu
  have HC := Lib.hid (fun W => commits P (nxt j (j.used + 1) (j.last.e + 1) ck) W)
  have HEm : Hid (∀ W : World, Calls Tryz.prog 78 #[] W fun r w' => r = .returned (.string (nou 4096)) ∧ Below W.heap.size W w') := Lib.hid (fun W => SloP.Empty W)
  have HW1 := Lib.hid (fun W => writes b ((2 + ((j.last.e + 1) % 2).toNat : Nat) : Int) (bb (SloN.blk (j.last.e + 1) next)) W)
  have HW2 := Lib.hid (fun W => writes b ((2 + (j.last.e % 2).toNat : Nat) : Int) (nou 4096) W)
  have HSp := Lib.hid h.sp
  have HGl : Hid (∀ W : World, Kept (fun k => k = S) w W → Gl W) := Lib.hid (fun W hk => (Jm.after h hk).2.1.gl)
  have HSS : Hid (∀ W : World, Below w.heap.size w W → SpaC.Sp W S j.last.b j.last.l j.last.f j.used) := Lib.hid (fun W hb => h.sp.step hb)
  have hsz : ((s.size : Int) != 4096) = false := by rw [hs]; rfl
  have hkz : ((next.length : Int) != 32) = false := by rw [hk]; rfl
  have hel : (j.last.e == 4294967295) = false := by rw [beq_eq_false_iff_ne]; exact he
  have HPo := Lib.hid (Jm.pj h)
  have HLt : Hid (S < w.heap.size) := Lib.hid h.sp.lt
  have hin : j.last.e + 1 ≤ 4294967296 := by omega
  clear h hr hu hs hk hn he hd hee hem hm' h1 h2 hg
  generalize cloR D j s next ck = r at *
  generalize nou 4096 = zz at *
  unfold bb at HW1 HDO
  generalize ((2 + (j.last.e % 2).toNat : Nat) : Int) = k0 at *
  generalize ((2 + ((j.last.e + 1) % 2).toNat : Nat) : Int) = k1 at *
  unfold nxt at HC HDO
  unfold rowC at HDO
  unfold nx at HN
  dsimp only at HC HN
  go_enter Tryz.func57, Tryz.ntmps57
  go_upto_region 4 with (go_at_call 94; refine HN.out.mono ?_; rintro e w2 ⟨rfl, hb2⟩; have B2 := Lib.hid hb2; clear hb2)
  obtain ⟨W3, hW3⟩ : ∃ W3, W3 = w2.alloc (.cells #[.int .i64 (j.last.g + 1), .int .i64 j.last.t, .int .i64 j.last.e, .int .i64 ck, .int .i64 j.last.b, .int .i64 j.last.l, .int .i64 j.last.f] 53) := ⟨_, rfl⟩
  rw [← hW3]
  have X3 : Hid (W3.heap[w2.heap.size]? = some (.cells #[.int .i64 (j.last.g + 1), .int .i64 j.last.t, .int .i64 j.last.e, .int .i64 ck, .int .i64 j.last.b, .int .i64 j.last.l, .int .i64 j.last.f] 53 (0, 0))) := Lib.hid (by rw [hW3]; exact heap_alloc_new w2 _)
  have B3 : Hid (Below w.heap.size w W3) := Lib.hid (by rw [hW3]; exact B2.out.alloc B2.out.size _)
  have L3 : Hid (w.heap.size ≤ w2.heap.size) := Lib.hid B2.out.size
  clear hW3 HN B2
  generalize w2.heap.size = X at *
  have NS : Hid (X ≠ S) := Lib.hid (by have := HLt.out; have := L3.out; omega)
  have p0 := blk_cell (i := 0) (u := .pointer (some ⟨S, 0, none⟩)) (HA.out _ (.of_below B3.out)).po rfl
  have x2 := blk_cell (i := 2) (u := .int .i64 j.last.e) X3.out rfl
  go_upto_region 11 with (go_at_call 95; refine (HT.out _ (HSS.out _ B3.out) (HGl.out _ (.of_below B3.out)).bn).mono ?_; rintro e w5 ⟨rfl, hs5, hb5⟩; have K5 := Lib.hid ((Kept.of_below B3.out (S := fun k => k = S)).trans' (kept_but hb5) (fun i hi => .inl hi)); have X5 := Lib.hid (((kept_but hb5).block X (lt_of_some X3.out) NS.out).trans X3.out); have S5 := Lib.hid hs5; clear hb5 hs5)
  clear p0 x2 X3 B3 HT HSS HSp
  have x2 := blk_cell (i := 2) (u := .int .i64 j.last.e) X5.out rfl
  have f2 := blk_free (i := 2) X5.out
  go_upto_region 13 with (go_at_call 43; refine (HK0.out _).mono ?_; rintro e _ ⟨rfl, rfl⟩)
  generalize hW : World.setCell _ _ _ = W6
  have K6 : Hid (Kept (fun k => k = S) w W6) := Lib.hid (by rw [← hW]; exact K5.out.trans' ((Kept.refl (fun k => k = X) _).set_ (b := X) rfl _ _) (fun i hi => .inr (by rw [hi]; exact L3.out)))
  have X6 : Hid (W6.heap[X]? = some (.cells #[.int .i64 (j.last.g + 1), .int .i64 j.last.t, .int .i64 (j.last.e + 1), .int .i64 ck, .int .i64 j.last.b, .int .i64 j.last.l, .int .i64 j.last.f] 53 (0, 0))) := Lib.hid (by rw [← hW, blk_set X5.out]; rfl)
  have S6 : Hid (SpaC.Sp W6 S j.last.b j.last.l j.last.f (j.used + 1 : Nat)) := Lib.hid (by rw [← hW]; exact (set_cell_block (fun e => NS.out e.symm)).trans S5.out)
  clear hW x2 f2 K5 X5 S5
  have p0 := blk_cell (i := 0) (u := .pointer (some ⟨S, 0, none⟩)) (HA.out _ K6.out).po rfl
  have x1 := blk_cell (i := 1) (u := .int .i64 j.last.t) X6.out rfl
  have f1 := blk_free (i := 1) X6.out
  go_upto_region 14 with (go_at_call 60; refine (HU.out _ S6.out).mono ?_; rintro e _ ⟨rfl, rfl⟩)
  generalize hW : World.setCell _ _ _ = W7
  have K7 : Hid (Kept (fun k => k = S) w W7) := Lib.hid (by rw [← hW]; exact K6.out.trans' ((Kept.refl (fun k => k = X) _).set_ (b := X) rfl _ _) (fun i hi => .inr (by rw [hi]; exact L3.out)))
  have X7 : Hid (W7.heap[X]? = some (.cells #[.int .i64 (j.last.g + 1), .int .i64 (j.used + 1 : Nat), .int .i64 (j.last.e + 1), .int .i64 ck, .int .i64 j.last.b, .int .i64 j.last.l, .int .i64 j.last.f] 53 (0, 0))) := Lib.hid (by rw [← hW, blk_set X6.out]; rfl)
  have S7 : Hid (SpaC.Sp W7 S j.last.b j.last.l j.last.f (j.used + 1 : Nat)) := Lib.hid (by rw [← hW]; exact (set_cell_block (fun e => NS.out e.symm)).trans S6.out)
  clear hW x1 f1 p0 K6 X6 S6 HU
  have x2 := blk_cell (i := 2) (u := .int .i64 (j.last.e + 1)) X7.out rfl
  go_upto_region 15 with (go_at_call 37; refine (HPu.out _ (HGl.out _ K7.out).rd).mono ?_; rintro e w8 ⟨rfl, hb8⟩; have K8 := Lib.hid (K7.out.step hb8); have X8 := Lib.hid ((hb8.block _ (lt_of_some X7.out)).trans X7.out); have S8 := Lib.hid (S7.out.step hb8); clear hb8)
  clear x2 K7 X7 S7 HPu
  have HPB : Hid (∀ W : World, Kept (fun k => k = S) w W → W.cell? ⟨P, 1, none⟩ = some (.pointer (some ⟨b, 0, none⟩))) := Lib.hid (fun W h1 => blk_cell (HA.out _ h1).po rfl)
  have HF : Hid (∀ W : World, W.cell? ⟨P, 1, none⟩ = some (.pointer (some ⟨b, 0, none⟩)) → W.heap[X]? = some (.cells #[.int .i64 (j.last.g + 1), .int .i64 (j.used + 1 : Nat), .int .i64 (j.last.e + 1), .int .i64 ck, .int .i64 j.last.b, .int .i64 j.last.l, .int .i64 j.last.f] 53 (0, 0)) → W.cell? ⟨P, 1, none⟩ = some (.pointer (some ⟨b, 0, none⟩)) ∧ W.cell? ⟨X, 0, none⟩ = some (.int .i64 (j.last.g + 1)) ∧ W.cell? ⟨X, 1, none⟩ = some (.int .i64 (j.used + 1 : Nat)) ∧ W.cell? ⟨X, 2, none⟩ = some (.int .i64 (j.last.e + 1)) ∧ W.cell? ⟨X, 3, none⟩ = some (.int .i64 ck) ∧ W.cell? ⟨X, 4, none⟩ = some (.int .i64 j.last.b) ∧ W.cell? ⟨X, 5, none⟩ = some (.int .i64 j.last.l) ∧ W.cell? ⟨X, 6, none⟩ = some (.int .i64 j.last.f)) := Lib.hid (fun W h1 h2 => ⟨h1, blk_cell h2 rfl, blk_cell h2 rfl, blk_cell h2 rfl, blk_cell h2 rfl, blk_cell h2 rfl, blk_cell h2 rfl, blk_cell h2 rfl⟩)
  have K9 : Hid (Kept (fun k => k = S) w w8.drew) := Lib.hid (K8.out.drewN 1)
  have X9 : Hid (w8.drew.heap[X]? = some (.cells #[.int .i64 (j.last.g + 1), .int .i64 (j.used + 1 : Nat), .int .i64 (j.last.e + 1), .int .i64 ck, .int .i64 j.last.b, .int .i64 j.last.l, .int .i64 j.last.f] 53 (0, 0))) := X8
  have S9 : Hid (SpaC.Sp w8.drew S j.last.b j.last.l j.last.f (j.used + 1 : Nat)) := S8
  have hS := HF.out _ (HPB.out _ K9.out) X9.out
  clear K8 X8 S8
  refine wp_region_held_drew (S := fun W => W.cell? ⟨P, 1, none⟩ = some (.pointer (some ⟨b, 0, none⟩)) ∧ W.cell? ⟨X, 0, none⟩ = some (.int .i64 (j.last.g + 1)) ∧ W.cell? ⟨X, 1, none⟩ = some (.int .i64 (j.used + 1 : Nat)) ∧ W.cell? ⟨X, 2, none⟩ = some (.int .i64 (j.last.e + 1)) ∧ W.cell? ⟨X, 3, none⟩ = some (.int .i64 ck) ∧ W.cell? ⟨X, 4, none⟩ = some (.int .i64 j.last.b) ∧ W.cell? ⟨X, 5, none⟩ = some (.int .i64 j.last.l) ∧ W.cell? ⟨X, 6, none⟩ = some (.int .i64 j.last.f)) (by kernel_rfl) hS (fun _ => ?_)
  change wpAnyH _ _ _ _ _ _ #[false, false, false, false, false, false, false, false, false, false, false, false, false, false, false, false, false, false, false, false, false, false, false, false, false, false, false, false, false, false, false, false, false, false, false, false, false, false, false, false, false] _ _
  refine wpAnyH_take (i := 0) (v := ?v1) (by rw [List.getElem?_toArray]; rfl) (by kernel_rfl) (by kernel_rfl) (by kernel_rfl) (by intro _ _ _ h; exact h) (Or.inl ⟨by rfl, ?hy1⟩) (by assumption) ?rest1
  case hy1 => (intro W hSW; (try dsimp only at hSW); go_simp; try with_reducible rfl)
  try simp only [Act.put, List.setIfInBounds_toArray, List.set_cons_zero, List.set_cons_succ]
  refine wpAnyH_take (i := 1) (v := ?v2) (by rw [List.getElem?_toArray]; rfl) (by kernel_rfl) (by kernel_rfl) (by kernel_rfl) (by intro _ _ _ h; exact h) (Or.inl ⟨by rfl, ?hy2⟩) (by assumption) ?rest2
  case hy2 => (intro W hSW; (try dsimp only at hSW); go_simp; try with_reducible rfl)
  try simp only [Act.put, List.setIfInBounds_toArray, List.set_cons_zero, List.set_cons_succ]
  refine wpAnyH_take (i := 2) (v := ?v3) (by rw [List.getElem?_toArray]; rfl) (by kernel_rfl) (by kernel_rfl) (by kernel_rfl) (by intro _ _ _ h; exact h) (Or.inl ⟨by rfl, ?hy3⟩) (by assumption) ?rest3
  case hy3 => (intro W hSW; (try dsimp only at hSW); go_simp; try with_reducible rfl)
  try simp only [Act.put, List.setIfInBounds_toArray, List.set_cons_zero, List.set_cons_succ]
  refine wpAnyH_take (i := 3) (v := ?v4) (by rw [List.getElem?_toArray]; rfl) (by kernel_rfl) (by kernel_rfl) (by kernel_rfl) (by intro _ _ _ h; exact h) (Or.inl ⟨by rfl, ?hy4⟩) (by assumption) ?rest4
  case hy4 => (intro W hSW; (try dsimp only at hSW); go_simp; try with_reducible rfl)
  try simp only [Act.put, List.setIfInBounds_toArray, List.set_cons_zero, List.set_cons_succ]
  refine wpAnyH_take (i := 4) (v := ?v5) (by rw [List.getElem?_toArray]; rfl) (by kernel_rfl) (by kernel_rfl) (by kernel_rfl) (by intro _ _ _ h; exact h) (Or.inl ⟨by rfl, ?hy5⟩) (by assumption) ?rest5
  case hy5 => (intro W hSW; (try dsimp only at hSW); go_simp; try with_reducible rfl)
  try simp only [Act.put, List.setIfInBounds_toArray, List.set_cons_zero, List.set_cons_succ]
  refine wpAnyH_take (i := 6) (v := ?v6) (by rw [List.getElem?_toArray]; rfl) (by kernel_rfl) (by kernel_rfl) (by kernel_rfl) (by intro _ _ _ h; exact h) (Or.inl ⟨by rfl, ?hy6⟩) (by assumption) ?rest6
  case hy6 => (intro W hSW; (try dsimp only at hSW); go_simp; try with_reducible rfl)
  try simp only [Act.put, List.setIfInBounds_toArray, List.set_cons_zero, List.set_cons_succ]
  refine wpAnyH_take (i := 7) (v := ?v7) (by rw [List.getElem?_toArray]; rfl) (by kernel_rfl) (by kernel_rfl) (by kernel_rfl) (by intro _ _ _ h; exact h) (Or.inl ⟨by rfl, ?hy7⟩) (by assumption) ?rest7
  case hy7 => (intro W hSW; (try dsimp only at hSW); go_simp; try with_reducible rfl)
  try simp only [Act.put, List.setIfInBounds_toArray, List.set_cons_zero, List.set_cons_succ]
  refine wpAnyH_take (i := 8) (v := ?v8) (by rw [List.getElem?_toArray]; rfl) (by kernel_rfl) (by kernel_rfl) (by kernel_rfl) (by intro _ _ _ h; exact h) (Or.inl ⟨by rfl, ?hy8⟩) (by assumption) ?rest8
  case hy8 => (intro W hSW; (try dsimp only at hSW); go_simp; try with_reducible rfl)
  try simp only [Act.put, List.setIfInBounds_toArray, List.set_cons_zero, List.set_cons_succ]
  refine wpAnyH_take (i := 9) (v := ?v9) (by rw [List.getElem?_toArray]; rfl) (by kernel_rfl) (by kernel_rfl) (by kernel_rfl) (by intro _ _ _ h; exact h) (Or.inl ⟨by rfl, ?hy9⟩) (by assumption) ?rest9
  case hy9 => (intro W hSW; (try dsimp only at hSW); go_simp; try with_reducible rfl)
  try simp only [Act.put, List.setIfInBounds_toArray, List.set_cons_zero, List.set_cons_succ]
  refine wpAnyH_take (i := 10) (v := ?v10) (by rw [List.getElem?_toArray]; rfl) (by kernel_rfl) (by kernel_rfl) (by kernel_rfl) (by intro _ _ _ h; exact h) (Or.inl ⟨by rfl, ?hy10⟩) (by assumption) ?rest10
  case hy10 => (intro W hSW; (try dsimp only at hSW); go_simp; try with_reducible rfl)
  try simp only [Act.put, List.setIfInBounds_toArray, List.set_cons_zero, List.set_cons_succ]
  refine wpAnyH_take (i := 11) (v := ?v11) (by rw [List.getElem?_toArray]; rfl) (by kernel_rfl) (by kernel_rfl) (by kernel_rfl) (by intro _ _ _ h; exact h) (Or.inl ⟨by rfl, ?hy11⟩) (by assumption) ?rest11
  case hy11 => (intro W hSW; (try dsimp only at hSW); go_simp; try with_reducible rfl)
  try simp only [Act.put, List.setIfInBounds_toArray, List.set_cons_zero, List.set_cons_succ]
  refine wpAnyH_take (i := 13) (v := ?v12) (by rw [List.getElem?_toArray]; rfl) (by kernel_rfl) (by kernel_rfl) (by kernel_rfl) (by intro _ _ _ h; exact h) (Or.inl ⟨by rfl, ?hy12⟩) (by assumption) ?rest12
  case hy12 => (intro W hSW; (try dsimp only at hSW); go_simp; try with_reducible rfl)
  try simp only [Act.put, List.setIfInBounds_toArray, List.set_cons_zero, List.set_cons_succ]
  refine wpAnyH_take (i := 15) (v := ?v13) (by rw [List.getElem?_toArray]; rfl) (by kernel_rfl) (by kernel_rfl) (by kernel_rfl) (by intro _ _ _ h; exact h) (Or.inl ⟨by rfl, ?hy13⟩) (by assumption) ?rest13
  case hy13 => (intro W hSW; (try dsimp only at hSW); go_simp; try with_reducible rfl)
  try simp only [Act.put, List.setIfInBounds_toArray, List.set_cons_zero, List.set_cons_succ]
  refine wpAnyH_take (i := 16) (v := ?v14) (by rw [List.getElem?_toArray]; rfl) (by kernel_rfl) (by kernel_rfl) (by kernel_rfl) (by intro _ _ _ h; exact h) (Or.inl ⟨by rfl, ?hy14⟩) (by assumption) ?rest14
  case hy14 => (intro W hSW; (try dsimp only at hSW); go_simp; try with_reducible rfl)
  try simp only [Act.put, List.setIfInBounds_toArray, List.set_cons_zero, List.set_cons_succ]
  refine wpAnyH_take (i := 17) (v := ?v15) (by rw [List.getElem?_toArray]; rfl) (by kernel_rfl) (by kernel_rfl) (by kernel_rfl) (by intro _ _ _ h; exact h) (Or.inl ⟨by rfl, ?hy15⟩) (by assumption) ?rest15
  case hy15 => (intro W hSW; (try dsimp only at hSW); go_simp; try with_reducible rfl)
  try simp only [Act.put, List.setIfInBounds_toArray, List.set_cons_zero, List.set_cons_succ]
  refine wpAnyH_take (i := 18) (v := ?v16) (by rw [List.getElem?_toArray]; rfl) (by kernel_rfl) (by kernel_rfl) (by kernel_rfl) (by intro _ _ _ h; exact h) (Or.inl ⟨by rfl, ?hy16⟩) (by assumption) ?rest16
  case hy16 => (intro W hSW; (try dsimp only at hSW); go_simp; try with_reducible rfl)
  try simp only [Act.put, List.setIfInBounds_toArray, List.set_cons_zero, List.set_cons_succ]
  refine wpAnyH_take (i := 19) (v := ?v17) (by rw [List.getElem?_toArray]; rfl) (by kernel_rfl) (by kernel_rfl) (by kernel_rfl) (by intro _ _ _ h; exact h) (Or.inl ⟨by rfl, ?hy17⟩) (by assumption) ?rest17
  case hy17 => (intro W hSW; (try dsimp only at hSW); go_simp; try with_reducible rfl)
  try simp only [Act.put, List.setIfInBounds_toArray, List.set_cons_zero, List.set_cons_succ]
  refine wpAnyH_take (i := 20) (v := ?v18) (by rw [List.getElem?_toArray]; rfl) (by kernel_rfl) (by kernel_rfl) (by kernel_rfl) (by intro _ _ _ h; exact h) (Or.inl ⟨by rfl, ?hy18⟩) (by assumption) ?rest18
  case hy18 => (intro W hSW; (try dsimp only at hSW); go_simp; try with_reducible rfl)
  try simp only [Act.put, List.setIfInBounds_toArray, List.set_cons_zero, List.set_cons_succ]
  refine wpAnyH_take (i := 21) (v := ?v19) (by rw [List.getElem?_toArray]; rfl) (by kernel_rfl) (by kernel_rfl) (by kernel_rfl) (by intro _ _ _ h; exact h) (Or.inl ⟨by rfl, ?hy19⟩) (by assumption) ?rest19
  case hy19 => (intro W hSW; (try dsimp only at hSW); go_simp; try with_reducible rfl)
  try simp only [Act.put, List.setIfInBounds_toArray, List.set_cons_zero, List.set_cons_succ]
  refine wpAnyH_take (i := 23) (v := ?v20) (by rw [List.getElem?_toArray]; rfl) (by kernel_rfl) (by kernel_rfl) (by kernel_rfl) (by intro _ _ _ h; exact h) (Or.inl ⟨by rfl, ?hy20⟩) (by assumption) ?rest20
  case hy20 => (intro W hSW; (try dsimp only at hSW); go_simp; try with_reducible rfl)
  try simp only [Act.put, List.setIfInBounds_toArray, List.set_cons_zero, List.set_cons_succ]
  refine wpAnyH_take (i := 24) (v := ?v21) (by rw [List.getElem?_toArray]; rfl) (by kernel_rfl) (by kernel_rfl) (by kernel_rfl) (by intro _ _ _ h; exact h) (Or.inl ⟨by rfl, ?hy21⟩) (by assumption) ?rest21
  case hy21 => (intro W hSW; (try dsimp only at hSW); go_simp; try with_reducible rfl)
  try simp only [Act.put, List.setIfInBounds_toArray, List.set_cons_zero, List.set_cons_succ]
  refine wpAnyH_take (i := 25) (v := ?v22) (by rw [List.getElem?_toArray]; rfl) (by kernel_rfl) (by kernel_rfl) (by kernel_rfl) (by intro _ _ _ h; exact h) (Or.inl ⟨by rfl, ?hy22⟩) (by assumption) ?rest22
  case hy22 => (intro W hSW; (try dsimp only at hSW); go_simp; try with_reducible rfl)
  try simp only [Act.put, List.setIfInBounds_toArray, List.set_cons_zero, List.set_cons_succ]
  refine wpAnyH_take (i := 26) (v := ?v23) (by rw [List.getElem?_toArray]; rfl) (by kernel_rfl) (by kernel_rfl) (by kernel_rfl) (by intro _ _ _ h; exact h) (Or.inl ⟨by rfl, ?hy23⟩) (by assumption) ?rest23
  case hy23 => (intro W hSW; (try dsimp only at hSW); go_simp; try with_reducible rfl)
  try simp only [Act.put, List.setIfInBounds_toArray, List.set_cons_zero, List.set_cons_succ]
  refine wpAnyH_take (i := 27) (v := ?v24) (by rw [List.getElem?_toArray]; rfl) (by kernel_rfl) (by kernel_rfl) (by kernel_rfl) (by intro _ _ _ h; exact h) (Or.inl ⟨by rfl, ?hy24⟩) (by assumption) ?rest24
  case hy24 => (intro W hSW; (try dsimp only at hSW); go_simp; try with_reducible rfl)
  try simp only [Act.put, List.setIfInBounds_toArray, List.set_cons_zero, List.set_cons_succ]
  refine wpAnyH_take (i := 30) (v := ?v25) (by rw [List.getElem?_toArray]; rfl) (by kernel_rfl) (by kernel_rfl) (by kernel_rfl) (by intro _ _ _ h; exact h) (Or.inl ⟨by rfl, ?hy25⟩) (by assumption) ?rest25
  case hy25 => (intro W hSW; (try dsimp only at hSW); go_simp; try with_reducible rfl)
  try simp only [Act.put, List.setIfInBounds_toArray, List.set_cons_zero, List.set_cons_succ]
  refine wpAnyH_take (i := 31) (v := ?v26) (by rw [List.getElem?_toArray]; rfl) (by kernel_rfl) (by kernel_rfl) (by kernel_rfl) (by intro _ _ _ h; exact h) (Or.inl ⟨by rfl, ?hy26⟩) (by assumption) ?rest26
  case hy26 => (intro W hSW; (try dsimp only at hSW); go_simp; try with_reducible rfl)
  try simp only [Act.put, List.setIfInBounds_toArray, List.set_cons_zero, List.set_cons_succ]
  refine wpAnyH_take (i := 32) (v := ?v27) (by rw [List.getElem?_toArray]; rfl) (by kernel_rfl) (by kernel_rfl) (by kernel_rfl) (by intro _ _ _ h; exact h) (Or.inl ⟨by rfl, ?hy27⟩) (by assumption) ?rest27
  case hy27 => (intro W hSW; (try dsimp only at hSW); go_simp; try with_reducible rfl)
  try simp only [Act.put, List.setIfInBounds_toArray, List.set_cons_zero, List.set_cons_succ]
  refine wpAnyH_take (i := 33) (v := ?v28) (by rw [List.getElem?_toArray]; rfl) (by kernel_rfl) (by kernel_rfl) (by kernel_rfl) (by intro _ _ _ h; exact h) (Or.inl ⟨by rfl, ?hy28⟩) (by assumption) ?rest28
  case hy28 => (intro W hSW; (try dsimp only at hSW); go_simp; try with_reducible rfl)
  try simp only [Act.put, List.setIfInBounds_toArray, List.set_cons_zero, List.set_cons_succ]
  refine wpAnyH_take (i := 34) (v := ?v29) (by rw [List.getElem?_toArray]; rfl) (by kernel_rfl) (by kernel_rfl) (by kernel_rfl) (by intro _ _ _ h; exact h) (Or.inl ⟨by rfl, ?hy29⟩) (by assumption) ?rest29
  case hy29 => (intro W hSW; (try dsimp only at hSW); go_simp; try with_reducible rfl)
  try simp only [Act.put, List.setIfInBounds_toArray, List.set_cons_zero, List.set_cons_succ]
  refine wpAnyH_ready (rs := [5]) (by kernel_rfl) (by simp) (AllReadyH.cons (by rw [List.getElem?_toArray]; rfl) (fun K hK => ?_) AllReadyH.nil)
  go_simp
  refine (HL.out _ (HA.out _ K9.out)).mono ?_
  rintro e w10 ⟨x1, y1, z1, rfl, hw1, hb⟩
  have K10 := Lib.hid (K9.out.step hb)
  have X10 := Lib.hid ((hb.block _ (lt_of_some X9.out)).trans X9.out)
  have S10 := Lib.hid (S9.out.step hb)
  have A1 := Lib.hid hw1
  replace hS := HF.out _ (HPB.out _ K10.out) X10.out
  clear hb hw1
  refine hK.out _ _ hS (fun _ => ?_)
  clear hK K
  try simp only [List.setIfInBounds_toArray, List.set_cons_zero, List.set_cons_succ]
  refine wpAnyH_ready (rs := [12]) (by kernel_rfl) (by simp) (AllReadyH.cons (by rw [List.getElem?_toArray]; rfl) (fun K hK => ?_) AllReadyH.nil)
  go_simp
  refine (HK1.out _).mono ?_
  rintro e _ ⟨rfl, rfl⟩
  refine hK.out _ _ hS (fun _ => ?_)
  clear hK K
  try simp only [List.setIfInBounds_toArray, List.set_cons_zero, List.set_cons_succ]
  refine wpAnyH_ready (rs := [14]) (by kernel_rfl) (by simp) (AllReadyH.cons (by rw [List.getElem?_toArray]; rfl) (fun K hK => ?_) AllReadyH.nil)
  go_simp
  refine (HW1.out _).mono ?_
  rintro e w11 ⟨x2, y2, z2, rfl, hw2, hb⟩
  have K11 := Lib.hid (K10.out.step hb)
  have X11 := Lib.hid ((hb.block _ (lt_of_some X10.out)).trans X10.out)
  have S11 := Lib.hid (S10.out.step hb)
  have A2 := Lib.hid hw2
  have A12 := Lib.hid (A1.out.step hb)
  replace hS := HF.out _ (HPB.out _ K11.out) X11.out
  clear hb hw2
  refine hK.out _ _ hS (fun _ => ?_)
  clear hK K
  try simp only [List.setIfInBounds_toArray, List.set_cons_zero, List.set_cons_succ]
  refine wpAnyH_ready (rs := [22]) (by kernel_rfl) (by simp) (AllReadyH.cons (by rw [List.getElem?_toArray]; rfl) (fun K hK => ?_) AllReadyH.nil)
  go_simp
  refine (HC.out _).mono ?_
  rintro e w12 ⟨x3, y3, rfl, hc3, hb⟩
  have K12 := Lib.hid (K11.out.step hb)
  have X12 := Lib.hid ((hb.block _ (lt_of_some X11.out)).trans X11.out)
  have S12 := Lib.hid (S11.out.step hb)
  have A3 := Lib.hid hc3
  have A13 := Lib.hid (A12.out.step hb)
  have A23 := Lib.hid (A2.out.step hb)
  replace hS := HF.out _ (HPB.out _ K12.out) X12.out
  clear hb hc3
  refine hK.out _ _ hS (fun _ => ?_)
  clear hK K
  try simp only [List.setIfInBounds_toArray, List.set_cons_zero, List.set_cons_succ]
  refine wpAnyH_ready (rs := [28]) (by kernel_rfl) (by simp) (AllReadyH.cons (by rw [List.getElem?_toArray]; rfl) (fun K hK => ?_) AllReadyH.nil)
  go_simp
  refine (HEm.out _).mono ?_
  rintro e w13 ⟨rfl, hb⟩
  have K13 := Lib.hid (K12.out.step hb)
  have X13 := Lib.hid ((hb.block _ (lt_of_some X12.out)).trans X12.out)
  have S13 := Lib.hid (S12.out.step hb)
  have A34 := Lib.hid (A3.out.step hb)
  have A14 := Lib.hid (A13.out.step hb)
  have A24 := Lib.hid (A23.out.step hb)
  replace hS := HF.out _ (HPB.out _ K13.out) X13.out
  clear hb
  refine hK.out _ _ hS (fun _ => ?_)
  clear hK K
  try simp only [List.setIfInBounds_toArray, List.set_cons_zero, List.set_cons_succ]
  refine wpAnyH_ready (rs := [29]) (by kernel_rfl) (by simp) (AllReadyH.cons (by rw [List.getElem?_toArray]; rfl) (fun K hK => ?_) AllReadyH.nil)
  go_simp
  refine (HW2.out _).mono ?_
  rintro e w14 ⟨x4, y4, z4, rfl, hw4, hb⟩
  have K14 := Lib.hid (K13.out.step hb)
  have X14 := Lib.hid ((hb.block _ (lt_of_some X13.out)).trans X13.out)
  have S14 := Lib.hid (S13.out.step hb)
  have A4 := Lib.hid hw4
  have A15 := Lib.hid (A14.out.step hb)
  have A25 := Lib.hid (A24.out.step hb)
  have A35 := Lib.hid (A34.out.step hb)
  replace hS := HF.out _ (HPB.out _ K14.out) X14.out
  have q := HDO.out _ _ _ _ _ _ _ _ _ _ _ _ K14.out S14.out A15.out A25.out A35.out A4.out
  have HQ := Lib.hid q
  clear hb hw4 q
  refine hK.out _ _ hS (fun _ => ?_)
  clear hK K
  try simp only [List.setIfInBounds_toArray, List.set_cons_zero, List.set_cons_succ]
  refine wpAnyH_ready (rs := [35]) (by kernel_rfl) (by simp) (AllReadyH.cons (by rw [List.getElem?_toArray]; rfl) (fun K hK => ?_) AllReadyH.nil)
  go_simp
  refine hK.out _ _ (HF.out _ (HPB.out _ (K14.out.step (below_new w14 _))) ((heap_alloc_old _ _ (lt_of_some X14.out)).trans X14.out)) (fun _ => ?_)
  clear hK K
  try simp only [List.setIfInBounds_toArray, List.set_cons_zero, List.set_cons_succ]
  refine wpAnyH_ready (rs := [36]) (by kernel_rfl) (by simp) (AllReadyH.cons (by rw [List.getElem?_toArray]; rfl) (fun K hK => ?_) AllReadyH.nil)
  go_simp
  refine HQ.out.mono ?_
  rintro e w15 ⟨rfl, hd, hk⟩
  have D15 := Lib.hid hd
  have hS7 := HF.out _ (by obtain ⟨c6, h6, _⟩ := hd; exact blk_cell h6.po rfl) (hk _ _ X14.out)
  clear hd hk
  refine hK.out _ _ hS7 (fun _ => ?_)
  clear hK K
  try simp only [List.setIfInBounds_toArray, List.set_cons_zero, List.set_cons_succ]
  refine wpAnyH_take (i := 37) (v := ?v30) (by rw [List.getElem?_toArray]; rfl) (by kernel_rfl) (by kernel_rfl) (by kernel_rfl) (by intro _ _ _ h; exact h) (Or.inl ⟨by rfl, ?hy30⟩) (by assumption) ?rest30
  case hy30 => (intro W hSW; (try dsimp only at hSW); go_simp; try with_reducible rfl)
  try simp only [Act.put, List.setIfInBounds_toArray, List.set_cons_zero, List.set_cons_succ]
  refine wpAnyH_take (i := 38) (v := ?v31) (by rw [List.getElem?_toArray]; rfl) (by kernel_rfl) (by kernel_rfl) (by kernel_rfl) (by intro _ _ _ h; exact h) (Or.inl ⟨by rfl, ?hy31⟩) (by assumption) ?rest31
  case hy31 => (intro W hSW; (try dsimp only at hSW); go_simp; try with_reducible rfl)
  try simp only [Act.put, List.setIfInBounds_toArray, List.set_cons_zero, List.set_cons_succ]
  refine wpAnyH_take (i := 39) (v := ?v32) (by rw [List.getElem?_toArray]; rfl) (by kernel_rfl) (by kernel_rfl) (by kernel_rfl) (by intro _ _ _ h; exact h) (Or.inl ⟨by rfl, ?hy32⟩) (by assumption) ?rest32
  case hy32 => (intro W hSW; (try dsimp only at hSW); go_simp; try with_reducible rfl)
  try simp only [Act.put, List.setIfInBounds_toArray, List.set_cons_zero, List.set_cons_succ]
  refine wpAnyH_take (i := 40) (v := ?v33) (by rw [List.getElem?_toArray]; rfl) (by kernel_rfl) (by kernel_rfl) (by kernel_rfl) (by intro _ _ _ h; exact h) (Or.inl ⟨by rfl, ?hy33⟩) (by assumption) ?rest33
  case hy33 => (intro W hSW; (try dsimp only at hSW); go_simp; try with_reducible rfl)
  try simp only [Act.put, List.setIfInBounds_toArray, List.set_cons_zero, List.set_cons_succ]
  refine wpAnyH_done (by kernel_rfl) ?_ _
  go_wp2_with fail
  go_ret2
  exact ⟨rfl, D15.out⟩
end Go.Proofs.YtoilcieineejiaaGreatDoor.JouF
