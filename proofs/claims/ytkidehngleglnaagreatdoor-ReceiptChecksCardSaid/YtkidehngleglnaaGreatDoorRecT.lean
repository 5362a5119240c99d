/- record.read, Take: the walks of their texts. No conditions but those that each lemma names. -/
import Derived.Test.YtkidehngleglnaaGreatDoorRecQ
import Derived.Test.YtkidehngleglnaaGreatDoorOUnp
import Derived.Test.YtkidehngleglnaaGreatDoorOCut
import Derived.Deep.RegionHeld3
namespace Go.Proofs.YtkidehngleglnaaGreatDoor.RecT
open Go.RowKit
open RecN RecC RecM RecP RecK RecQ
/-- What Cut answers. -/
theorem cutted (l a b : List UInt8) (c : Int) (h : cut l = (a, b, c)) (hm : l.length ≤ maxLen) (w : World) :
    Calls Tryz.prog 64 #[.string ⟨l.toArray⟩] w fun r w' => r = .returned (.tuple #[.string ⟨a.toArray⟩, .string ⟨b.toArray⟩, .int .i64 c]) ∧ Below w.heap.size w w' := by
  have := OCut.any ⟨l.toArray⟩ w (by rw [size_mk]; exact hm)
  rw [show (⟨l.toArray⟩ : ByteArray).data.toList = l from rfl, h] at this
  exact this.mono fun r w' ⟨h1, n, h2⟩ => ⟨h1, h2 ▸ below_drewN _ _⟩
/-- Results of which the first is a struct in a cell. -/
theorem results_cell_two {P : Program} {fn : Func} {p u v : Tmp} {ty : TypeId} (h : fn.results = #[.cell p ty, .tmp u, .tmp v]) (tmps : Array Value) (w : World) (g : Nat) (t : TypeId) (cs : Array Value) (fr : Nat × Nat) (d : TypeDesc)
    (hp : tmps.getD p undef = .pointer (some ⟨g, 0, none⟩)) (hg : w.heap[g]? = some (.cells cs t fr))
    (hu : P.underlying ty = some d) (hd : (match d with | .struct _ | .array _ _ => true | _ => false) = true) (hi : (P.info? ty).map (·.size) = some cs.size) :
    (results fn tmps).run P w = .ok (.tuple #[.agg cs, tmps.getD u undef, tmps.getD v undef]) w := by
  have e : (results fn tmps).run P w = ((asAddr (tmps.getD p undef)).run P w).andThen fun a w₁ => ((loadVar ty a).run P w₁).andThen fun x w₂ => .ok (.tuple #[x, tmps.getD u undef, tmps.getD v undef]) w₂ := by
    simp only [results, h]
    simp [Sem.run_bind, Result.andThen]
  rw [e, hp]
  simp [asAddr, run_loadVar_row w g t ty cs fr d hg hu hd hi]
/-- What stands while a call runs that hands a record back: what was stays, the result's block. -/
structure Tk (w W : World) : Prop where
  bel : Below w.heap.size w W
  k : W.heap[w.heap.size]? = some (.cells #[.int .i64 0, .int .i64 0, .int .i64 0, .int .i64 0, .int .i64 0, .int .i64 0, .string ⟨#[]⟩, .string ⟨#[]⟩] 23 (0, 0))
theorem tk_new (w : World) : Tk w (w.alloc (.cells #[.int .i64 0, .int .i64 0, .int .i64 0, .int .i64 0, .int .i64 0, .int .i64 0, .string ⟨#[]⟩, .string ⟨#[]⟩] 23)) := ⟨below_new w _, heap_alloc_new w _⟩
theorem Tk.step {w W W' : World} (h : Tk w W) (hb : Below W.heap.size W W') : Tk w W' := ⟨h.bel.trans (hb.mono h.bel.size), (hb.block _ (lt_of_some h.k)).trans h.k⟩
theorem Tk.drew {w W : World} (h : Tk w W) : Tk w W.drew := ⟨h.bel.drew, h.k⟩
theorem slices (s : List UInt8) (h : 29 ≤ s.length) : (∀ W, (Instr.slice 9 (.string ⟨s.toArray⟩) none (some (.int .i64 29)) none).run Tryz.prog W = .ok (.string ⟨(s.take 29).toArray⟩) W) ∧
    (∀ W, (Instr.slice 9 (.string ⟨s.toArray⟩) (some (.int .i64 29)) none none).run Tryz.prog W = .ok (.string ⟨(s.drop 29).toArray⟩) W) := by
  have s0 := fun W => run_slice_string_h (P := Tryz.prog) (w := W) 9 ⟨s.toArray⟩ Tryz.underlying9 .i64 29 (by omega) (show (29 : Int) ≤ ((s.length : Nat) : Int) by omega)
  rw [show (⟨s.toArray⟩ : ByteArray).extract 0 (29 : Int).toNat = ⟨(s.take 29).toArray⟩ from ext_at s 0 29] at s0
  have s1 := fun W => run_slice_string_l (P := Tryz.prog) (w := W) 9 ⟨s.toArray⟩ Tryz.underlying9 .i64 29 (by omega) (show (29 : Int) ≤ ((s.length : Nat) : Int) by omega)
  rw [show (⟨s.toArray⟩ : ByteArray).extract (29 : Int).toNat (⟨s.toArray⟩ : ByteArray).size = ⟨(s.drop 29).toArray⟩ from by
    rw [ext_at, size_mk, show (29 : Int).toNat = 29 from rfl, List.take_of_length_le (by simp)]] at s1
  exact ⟨s0, s1⟩
theorem own6 {w : World} {base : Nat} {v : Value} {xs : List Value} (h : w.ownsRow base 3 1 v 6 xs) : ∃ g c, v = .slice (some ⟨g, 0, none⟩) 6 c := by
  rcases h.2 with ⟨_, h0⟩ | ⟨g, cap, cur, hv, _⟩
  · omega
  · exact ⟨g, cap, hv⟩
/-- Six cells of a row. -/
theorem cells6 {w : World} {B b : Nat} {x y z u v t : Int} (h : Row w B (some ⟨b, 0, none⟩) 6 [x, y, z, u, v, t]) : w.cell? ⟨b, 0, none⟩ = some (.int .i64 x) ∧ w.cell? ⟨b, 1, none⟩ = some (.int .i64 y) ∧ w.cell? ⟨b, 2, none⟩ = some (.int .i64 z) ∧ w.cell? ⟨b, 3, none⟩ = some (.int .i64 u) ∧ w.cell? ⟨b, 4, none⟩ = some (.int .i64 v) ∧ w.cell? ⟨b, 5, none⟩ = some (.int .i64 t) := by
  obtain ⟨b', o', e, _, hc⟩ := h.2 (by omega)
  injection e with e
  injection e with e1 e2
  subst e1 e2
  have h0 := hc 0 (by omega)
  have h1 := hc 1 (by omega)
  have h2 := hc 2 (by omega)
  have h3 := hc 3 (by omega)
  have h4 := hc 4 (by omega)
  have h5 := hc 5 (by omega)
  exact ⟨h0, h1, h2, h3, h4, h5⟩
theorem lens_cut (l : List UInt8) : (cut l).2.1.length ≤ l.length := by
  unfold cut
  split
  · simp
  · simp only [List.length_drop]; omega
set_option maxRecDepth 100000 in
theorem read_len (s : List UInt8) (w : World) (h : ¬ 29 ≤ s.length) :
    Calls Tryz.prog 47 #[.string ⟨s.toArray⟩] w fun e w' => e = .returned (.tuple #[.agg #[.int .i64 0, .int .i64 0, .int .i64 0, .int .i64 0, .int .i64 0, .int .i64 0, .string ⟨#[]⟩, .string ⟨#[]⟩], .string ⟨#[]⟩, .int .i64 3]) ∧ Below w.heap.size w w' := by
  have hz := size_mk s
  go_enter Tryz.func47, Tryz.ntmps47
  go_wp2_with (refine wpList_store_row rfl 23 _ _ rfl w.heap.size _ rfl rfl 23 _ (heap_alloc_new w _) infoR rfl one0 ?_)
  refine bodyPost_ret (v := .tuple #[.agg #[.int .i64 0, .int .i64 0, .int .i64 0, .int .i64 0, .int .i64 0, .int .i64 0, .string ⟨#[]⟩, .string ⟨#[]⟩], .string ⟨#[]⟩, .int .i64 3])
    (results_cell_two Tryz.results47 _ _ w.heap.size 23 _ (0, 0) _ rfl (setRow_same (heap_alloc_new w _)) Tryz.underlying23 rfl infoR) rfl
    ⟨rfl, below_setRow (below_new w _) (Nat.le_refl _) _⟩
set_option maxRecDepth 100000 in
set_option maxHeartbeats 2000000 in
theorem read_un (s : List UInt8) (ls : List Int) (c : Int) (w : World) (h : 29 ≤ s.length) (hu : unpack [1, 4, 8, 4, 4, 8] (s.take 29) = (ls, c)) (hc : (c == 0) = false) :
    Calls Tryz.prog 47 #[.string ⟨s.toArray⟩] w fun e w' => e = .returned (.tuple #[.agg #[.int .i64 0, .int .i64 0, .int .i64 0, .int .i64 0, .int .i64 0, .int .i64 0, .string ⟨#[]⟩, .string ⟨#[]⟩], .string ⟨#[]⟩, .int .i64 c]) ∧ Below w.heap.size w w' := by
  obtain ⟨W1, hW1⟩ : ∃ W1, W1 = w.alloc (.cells #[.int .i64 0, .int .i64 0, .int .i64 0, .int .i64 0, .int .i64 0, .int .i64 0, .string ⟨#[]⟩, .string ⟨#[]⟩] 23) := ⟨_, rfl⟩
  have TT : Hid (Tk w W1) := Lib.hid (by rw [hW1]; exact tk_new w)
  have hz := size_mk s
  obtain ⟨s0, _⟩ := slices s h
  have HU := Lib.hid (fun W (hk : W.heap[W1.heap.size]? = some (.cells #[.int .i64 1, .int .i64 4, .int .i64 8, .int .i64 4, .int .i64 4, .int .i64 8] 3 (0, 0))) => OUnp.any (some ⟨W1.heap.size, 0, none⟩) 6 6 [1, 4, 8, 4, 4, 8] (s.take 29) W (row6 hk) (by omega) (by simp [maxLen]; omega))
  rw [hu] at HU
  clear hu
  generalize s.take 29 = p at *
  go_enter Tryz.func47, Tryz.ntmps47
  go_upto_region 1 with (fail)
  rw [← hW1]
  clear hW1
  go_upto_region 3 with (fail)
  have hS : True := trivial
  go_region_held3 (fun _ => True)
    (exact trivial)
    (first
      | (go_at_call 43; refine (widths _).mono ?_; rintro r w2 ⟨rfl, hk2, hb2⟩; replace TT := Lib.hid (TT.out.drew.step hb2); have HK2 := Lib.hid hk2; clear hb2 hk2)
      | (go_at_call 63; refine (HU.out _ HK2.out).mono ?_; rintro r w3 ⟨v, rfl, hown, hb3⟩; replace TT := Lib.hid (TT.out.step hb3); clear hb3 hown))
  clear HU HK2 s0
  go_wp2_with (refine wpList_store_row rfl 23 _ _ rfl w.heap.size _ rfl rfl 23 _ TT.out.k infoR rfl one0 ?_)
  refine bodyPost_ret (v := .tuple #[.agg #[.int .i64 0, .int .i64 0, .int .i64 0, .int .i64 0, .int .i64 0, .int .i64 0, .string ⟨#[]⟩, .string ⟨#[]⟩], .string ⟨#[]⟩, .int .i64 c])
    (results_cell_two Tryz.results47 _ _ w.heap.size 23 _ (0, 0) _ rfl (setRow_same TT.out.k) Tryz.underlying23 rfl infoR) rfl
    ⟨rfl, below_setRow TT.out.bel (Nat.le_refl _) _⟩
set_option maxRecDepth 100000 in
set_option maxHeartbeats 4000000 in
theorem read_any (s : List UInt8) (r : Rec) (b rest : List UInt8) (c d : Int) (w : World) (h : 29 ≤ s.length) (hm : s.length ≤ maxLen) (hu : unpack [1, 4, 8, 4, 4, 8] (s.take 29) = ([r.k, r.ep, r.tm, r.ct, r.tg, r.un], 0)) (hc : cut (s.drop 29) = (r.rt, b, c)) (hd : cut b = (r.nm, rest, d)) (out : Array Value)
    (ho : ((c == 0) = false ∧ out = #[.agg #[.int .i64 0, .int .i64 0, .int .i64 0, .int .i64 0, .int .i64 0, .int .i64 0, .string ⟨#[]⟩, .string ⟨#[]⟩], .string ⟨#[]⟩, .int .i64 c]) ∨ (c = 0 ∧ out = #[.agg #[.int .i64 r.k, .int .i64 r.ep, .int .i64 r.tm, .int .i64 r.ct, .int .i64 r.tg, .int .i64 r.un, .string ⟨r.rt.toArray⟩, .string ⟨r.nm.toArray⟩], .string ⟨rest.toArray⟩, .int .i64 d])) :
    Calls Tryz.prog 47 #[.string ⟨s.toArray⟩] w fun e w' => e = .returned (.tuple out) ∧ Below w.heap.size w w' := by
  obtain ⟨W1, hW1⟩ : ∃ W1, W1 = w.alloc (.cells #[.int .i64 0, .int .i64 0, .int .i64 0, .int .i64 0, .int .i64 0, .int .i64 0, .string ⟨#[]⟩, .string ⟨#[]⟩] 23) := ⟨_, rfl⟩
  have TT : Hid (Tk w W1) := Lib.hid (by rw [hW1]; exact tk_new w)
  have hz := size_mk s
  obtain ⟨s0, s1⟩ := slices s h
  have HU := Lib.hid (fun W (hk : W.heap[W1.heap.size]? = some (.cells #[.int .i64 1, .int .i64 4, .int .i64 8, .int .i64 4, .int .i64 4, .int .i64 8] 3 (0, 0))) => OUnp.any (some ⟨W1.heap.size, 0, none⟩) 6 6 [1, 4, 8, 4, 4, 8] (s.take 29) W (row6 hk) (by omega) (by simp [maxLen]; omega))
  rw [hu] at HU
  have hlen := lens_cut (s.drop 29)
  rw [hc] at hlen
  have HC := Lib.hid (fun W => cutted (s.drop 29) r.rt b c hc (by rw [List.length_drop]; omega) W)
  have HD := Lib.hid (fun W => cutted b r.nm rest d hd (by rw [List.length_drop] at hlen; dsimp only at hlen; omega) W)
  clear hu hc hd hlen
  generalize s.take 29 = p at *
  generalize s.drop 29 = q at *
  go_enter Tryz.func47, Tryz.ntmps47
  go_upto_region 1 with (fail)
  rw [← hW1]
  clear hW1
  go_upto_region 3 with (fail)
  have hS : True := trivial
  go_region_held3 (fun _ => True)
    (exact trivial)
    (first
      | (go_at_call 43; refine (widths _).mono ?_; rintro e w2 ⟨rfl, hk2, hb2⟩; replace TT := Lib.hid (TT.out.drew.step hb2); have HK2 := Lib.hid hk2; clear hb2 hk2)
      | (go_at_call 63; refine (HU.out _ HK2.out).mono ?_; rintro e w3 ⟨v, rfl, hown, hb3⟩; obtain ⟨va, vc, rfl⟩ := own6 hown; replace TT := Lib.hid (TT.out.step hb3); have HO := Lib.hid (cells6 (row_own (l := [r.k, r.ep, r.tm, r.ct, r.tg, r.un]) hown)); clear hb3 hown))
  clear HU HK2 s0
  go_upto_region 7 with (go_at_call 64; refine (HC.out _).mono ?_; rintro e w4 ⟨rfl, hb4⟩; replace TT := Lib.hid (TT.out.step hb4); have H34 := Lib.hid hb4; clear hb4)
  clear HC
  rcases ho with ⟨hc, rfl⟩ | ⟨rfl, rfl⟩
  · clear HO H34 HD
    go_wp2_with (refine wpList_store_row rfl 23 _ _ rfl w.heap.size _ rfl rfl 23 _ TT.out.k infoR rfl one0 ?_)
    refine bodyPost_ret (v := .tuple #[.agg #[.int .i64 0, .int .i64 0, .int .i64 0, .int .i64 0, .int .i64 0, .int .i64 0, .string ⟨#[]⟩, .string ⟨#[]⟩], .string ⟨#[]⟩, .int .i64 c])
      (results_cell_two Tryz.results47 _ _ w.heap.size 23 _ (0, 0) _ rfl (setRow_same TT.out.k) Tryz.underlying23 rfl infoR) rfl
      ⟨rfl, below_setRow TT.out.bel (Nat.le_refl _) _⟩
  · go_upto_region 10 with (go_at_call 64; refine (HD.out _).mono ?_; rintro e w5 ⟨rfl, hb5⟩; replace TT := Lib.hid (TT.out.step hb5); replace H34 := Lib.hid (H34.out.trans (hb5.mono H34.out.size)); clear hb5)
    have hlt := World.block_lt_of_cell? w3 _ HO.out.1
    have c0 := (H34.out.cell (p := ⟨va, 0, none⟩) hlt).trans HO.out.1
    have c1 := (H34.out.cell (p := ⟨va, 1, none⟩) hlt).trans HO.out.2.1
    have c2 := (H34.out.cell (p := ⟨va, 2, none⟩) hlt).trans HO.out.2.2.1
    have c3 := (H34.out.cell (p := ⟨va, 3, none⟩) hlt).trans HO.out.2.2.2.1
    have c4 := (H34.out.cell (p := ⟨va, 4, none⟩) hlt).trans HO.out.2.2.2.2.1
    have c5 := (H34.out.cell (p := ⟨va, 5, none⟩) hlt).trans HO.out.2.2.2.2.2
    clear H34 HO hlt HD
    have hl5 := World.block_lt_of_cell? w5 _ c0
    have hS := And.intro c0 (And.intro c1 (And.intro c2 (And.intro c3 (And.intro c4 c5))))
    have hA := fun (o : Obj) => And.intro (((below_new w5 o).cell (p := ⟨va, 0, none⟩) hl5).trans c0) (And.intro (((below_new w5 o).cell (p := ⟨va, 1, none⟩) hl5).trans c1) (And.intro (((below_new w5 o).cell (p := ⟨va, 2, none⟩) hl5).trans c2) (And.intro (((below_new w5 o).cell (p := ⟨va, 3, none⟩) hl5).trans c3) (And.intro (((below_new w5 o).cell (p := ⟨va, 4, none⟩) hl5).trans c4) (((below_new w5 o).cell (p := ⟨va, 5, none⟩) hl5).trans c5)))))
    have hS1 := hA (.cells #[.int .i64 0, .int .i64 0, .int .i64 0, .int .i64 0, .int .i64 0, .int .i64 0, .string ⟨#[]⟩, .string ⟨#[]⟩] 23)
    have hS2 := hA (.cells #[.int .i64 r.k, .int .i64 r.ep, .int .i64 r.tm, .int .i64 r.ct, .int .i64 r.tg, .int .i64 r.un, .string ⟨r.rt.toArray⟩, .string ⟨r.nm.toArray⟩] 23)
    clear hl5 hA
    go_region_held3 (fun W' => W'.cell? ⟨va, 0, none⟩ = some (.int .i64 r.k) ∧ W'.cell? ⟨va, 1, none⟩ = some (.int .i64 r.ep) ∧ W'.cell? ⟨va, 2, none⟩ = some (.int .i64 r.tm) ∧ W'.cell? ⟨va, 3, none⟩ = some (.int .i64 r.ct) ∧ W'.cell? ⟨va, 4, none⟩ = some (.int .i64 r.tg) ∧ W'.cell? ⟨va, 5, none⟩ = some (.int .i64 r.un))
      (first | exact hS | exact hS1 | exact hS2)
      (fail)
    generalize hW6 : World.drew (World.alloc w5 _) = W6
    replace TT : Hid (Tk w W6) := Lib.hid (by rw [← hW6]; exact (TT.out.step (below_new _ _)).drew)
    have KK : Hid (Bk W6 w5.heap.size r) := Lib.hid (by rw [← hW6]; exact heap_alloc_new w5 _)
    clear hW6 hS hS1 hS2 c0 c1 c2 c3 c4 c5 s1
    generalize w5.heap.size = X at *
    obtain ⟨k0, k1, k2, k3, k4, k5, k6, k7⟩ := KK.out.cells
    go_wp2_with (refine wpList_store_row rfl 23 _ _ rfl w.heap.size _ rfl rfl 23 _ TT.out.k infoR rfl (one8 r) ?_)
    refine bodyPost_ret (v := .tuple #[.agg #[.int .i64 r.k, .int .i64 r.ep, .int .i64 r.tm, .int .i64 r.ct, .int .i64 r.tg, .int .i64 r.un, .string ⟨r.rt.toArray⟩, .string ⟨r.nm.toArray⟩], .string ⟨rest.toArray⟩, .int .i64 d])
      (results_cell_two Tryz.results47 _ _ w.heap.size 23 _ (0, 0) _ rfl (setRow_same TT.out.k) Tryz.underlying23 rfl infoR) rfl
      ⟨rfl, below_setRow TT.out.bel (Nat.le_refl _) _⟩
end Go.Proofs.YtkidehngleglnaaGreatDoor.RecT
