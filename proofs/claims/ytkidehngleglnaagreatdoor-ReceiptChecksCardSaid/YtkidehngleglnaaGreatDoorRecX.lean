/- The document's Take: the walk of its text. No conditions but those that each lemma names. -/
import Derived.Test.YtkidehngleglnaaGreatDoorLRez
import Derived.Test.YtkidehngleglnaaGreatDoorRecU
import Derived.Test.YtkidehngleglnaaGreatDoorRUnp
import Derived.Test.YtkidehngleglnaaGreatDoorRCut
import Derived.Deep.RegionHeld3
namespace Go.Proofs.YtkidehngleglnaaGreatDoor.RecX
open Go.RowKit
open RecN RecC RecM RecP RecQ RecT RecU
/-- What the document's Cut answers. -/
theorem cutted (l a b : List UInt8) (c : Int) (h : cut l = (a, b, c)) (hm : l.length ≤ maxLen) (w : World) :
    Calls Tryz.prog 49 #[.string ⟨l.toArray⟩] w fun r w' => r = .returned (.tuple #[.string ⟨a.toArray⟩, .string ⟨b.toArray⟩, .int .i64 c]) ∧ Below w.heap.size w w' := by
  have := RCut.any ⟨l.toArray⟩ w (by rw [size_mk]; exact hm)
  rw [show (⟨l.toArray⟩ : ByteArray).data.toList = l from rfl, h] at this
  exact this.mono fun r w' ⟨h1, n, h2⟩ => ⟨h1, h2 ▸ below_drewN _ _⟩
set_option maxRecDepth 100000 in
theorem Take_len (s : List UInt8) (w : World) (h : ¬ 29 ≤ s.length) :
    Calls Tryz.prog 28 #[.string ⟨s.toArray⟩] w fun e w' => e = .returned (.tuple #[.agg #[.int .i64 0, .int .i64 0, .int .i64 0, .int .i64 0, .int .i64 0, .int .i64 0, .string ⟨#[]⟩, .string ⟨#[]⟩], .string ⟨#[]⟩, .bool false]) ∧ Below w.heap.size w w' := by
  have hz := size_mk s
  go_enter Tryz.func28, Tryz.ntmps28
  go_wp2_with (refine wpList_store_row rfl 23 _ _ rfl w.heap.size _ rfl rfl 23 _ (heap_alloc_new w _) infoR rfl one0 ?_)
  refine bodyPost_ret (v := .tuple #[.agg #[.int .i64 0, .int .i64 0, .int .i64 0, .int .i64 0, .int .i64 0, .int .i64 0, .string ⟨#[]⟩, .string ⟨#[]⟩], .string ⟨#[]⟩, .bool false])
    (results_cell_two Tryz.results28 _ _ w.heap.size 23 _ (0, 0) _ rfl (setRow_same (heap_alloc_new w _)) Tryz.underlying23 rfl infoR) rfl
    ⟨rfl, below_setRow (below_new w _) (Nat.le_refl _) _⟩
set_option maxRecDepth 100000 in
set_option maxHeartbeats 2000000 in
theorem Take_cut (s : List UInt8) (ls : List Int) (c d : Int) (a b rest nm : List UInt8) (e : Int) (w : World) (h : 29 ≤ s.length) (hm : s.length ≤ maxLen) (hu : unpack [1, 4, 8, 4, 4, 8] (s.take 29) = (ls, c)) (hc : cut (s.drop 29) = (a, b, d)) (hd : cut b = (nm, rest, e))
    (ho : (c != 0) = true ∨ ((c != 0) = false ∧ (d != 0) = true) ∨ ((c != 0) = false ∧ (d != 0) = false ∧ (e != 0) = true)) :
    Calls Tryz.prog 28 #[.string ⟨s.toArray⟩] w fun e w' => e = .returned (.tuple #[.agg #[.int .i64 0, .int .i64 0, .int .i64 0, .int .i64 0, .int .i64 0, .int .i64 0, .string ⟨#[]⟩, .string ⟨#[]⟩], .string ⟨#[]⟩, .bool false]) ∧ Below w.heap.size w w' := by
  obtain ⟨W1, hW1⟩ : ∃ W1, W1 = w.alloc (.cells #[.int .i64 0, .int .i64 0, .int .i64 0, .int .i64 0, .int .i64 0, .int .i64 0, .string ⟨#[]⟩, .string ⟨#[]⟩] 23) := ⟨_, rfl⟩
  have TT : Hid (Tk w W1) := Lib.hid (by rw [hW1]; exact tk_new w)
  have hz := size_mk s
  obtain ⟨s0, s1⟩ := slices s h
  have hlen := lens_cut (s.drop 29)
  rw [hc] at hlen
  have HC := Lib.hid (fun W => cutted (s.drop 29) a b d hc (by rw [List.length_drop]; omega) W)
  have HD := Lib.hid (fun W => cutted b nm rest e hd (by rw [List.length_drop] at hlen; dsimp only at hlen; omega) W)
  obtain ⟨W2, hW2⟩ : ∃ W2, W2 = W1.alloc (.cells #[.int .i64 1, .int .i64 4, .int .i64 8, .int .i64 4, .int .i64 4, .int .i64 8] 3) := ⟨_, rfl⟩
  have R2 : W2.heap[W1.heap.size]? = some (.cells #[.int .i64 1, .int .i64 4, .int .i64 8, .int .i64 4, .int .i64 4, .int .i64 8] 3 (0, 0)) := by rw [hW2]; exact heap_alloc_new W1 _
  have HU := Lib.hid (RUnp.any (some ⟨W1.heap.size, 0, none⟩) 6 6 [1, 4, 8, 4, 4, 8] (s.take 29) W2 (row6 R2) (by omega) (by simp [maxLen]; omega))
  rw [hu] at HU
  have T2 := TT.out.step (below_new W1 (.cells #[.int .i64 1, .int .i64 4, .int .i64 8, .int .i64 4, .int .i64 4, .int .i64 8] 3))
  rw [← hW2] at T2
  clear hu hc hd hlen R2
  generalize s.take 29 = p at *
  generalize s.drop 29 = q at *
  go_enter Tryz.func28, Tryz.ntmps28
  go_upto_region 1 with (fail)
  rw [← hW1]
  clear hW1
  go_upto_region 5 with (first
    | (go_at_call 48; rw [← hW2]; refine HU.out.mono ?_; rintro e w3 ⟨v, rfl, hown, hb3⟩; replace TT := Lib.hid (T2.step hb3); clear hb3 hown T2 hW2 HU)
    | (go_at_call 49; refine (HC.out _).mono ?_; rintro e w4 ⟨rfl, hb4⟩; replace TT := Lib.hid (TT.out.step hb4); clear hb4 HC))
  rcases ho with hc | ⟨hc, hd⟩ | ⟨hc, hd, he⟩
  all_goals
    go_wp2_with (first
      | (go_at_call 49; refine (HD.out _).mono ?_; rintro e w5 ⟨rfl, hb5⟩; replace TT := Lib.hid (TT.out.step hb5); clear hb5 HD)
      | (refine wpList_store_row rfl 23 _ _ rfl w.heap.size _ rfl rfl 23 _ TT.out.k infoR rfl one0 ?_))
    refine bodyPost_ret (v := .tuple #[.agg #[.int .i64 0, .int .i64 0, .int .i64 0, .int .i64 0, .int .i64 0, .int .i64 0, .string ⟨#[]⟩, .string ⟨#[]⟩], .string ⟨#[]⟩, .bool false])
      (results_cell_two Tryz.results28 _ _ w.heap.size 23 _ (0, 0) _ rfl (setRow_same TT.out.k) Tryz.underlying23 rfl infoR) rfl
      ⟨rfl, below_setRow TT.out.bel (Nat.le_refl _) _⟩
set_option maxRecDepth 100000 in
set_option maxHeartbeats 4000000 in
theorem Take_any (s : List UInt8) (r : Rec) (b rest : List UInt8) (w : World) (h : 29 ≤ s.length) (hm : s.length ≤ maxLen) (hu : unpack [1, 4, 8, 4, 4, 8] (s.take 29) = ([r.k, r.ep, r.tm, r.ct, r.tg, r.un], 0)) (hc : cut (s.drop 29) = (r.rt, b, 0)) (hd : cut b = (r.nm, rest, 0)) (q1 : Bool) (hq : decide (right r) = q1) (out : Array Value)
    (ho : (q1 = false ∧ out = #[.agg #[.int .i64 0, .int .i64 0, .int .i64 0, .int .i64 0, .int .i64 0, .int .i64 0, .string ⟨#[]⟩, .string ⟨#[]⟩], .string ⟨#[]⟩, .bool false]) ∨ (q1 = true ∧ out = #[.agg #[.int .i64 r.k, .int .i64 r.ep, .int .i64 r.tm, .int .i64 r.ct, .int .i64 r.tg, .int .i64 r.un, .string ⟨r.rt.toArray⟩, .string ⟨r.nm.toArray⟩], .string ⟨rest.toArray⟩, .bool true])) :
    Calls Tryz.prog 28 #[.string ⟨s.toArray⟩] w fun e w' => e = .returned (.tuple out) ∧ Below w.heap.size w w' := by
  obtain ⟨W1, hW1⟩ : ∃ W1, W1 = w.alloc (.cells #[.int .i64 0, .int .i64 0, .int .i64 0, .int .i64 0, .int .i64 0, .int .i64 0, .string ⟨#[]⟩, .string ⟨#[]⟩] 23) := ⟨_, rfl⟩
  have TT : Hid (Tk w W1) := Lib.hid (by rw [hW1]; exact tk_new w)
  have hz := size_mk s
  obtain ⟨s0, s1⟩ := slices s h
  have hlen := lens_cut (s.drop 29)
  rw [hc] at hlen
  have HC := Lib.hid (fun W => cutted (s.drop 29) r.rt b 0 hc (by rw [List.length_drop]; omega) W)
  have HD := Lib.hid (fun W => cutted b r.nm rest 0 hd (by rw [List.length_drop] at hlen; dsimp only at hlen; omega) W)
  have HR := Lib.hid (fun W => RecZ.Right r W)
  rw [hq] at HR
  obtain ⟨W2, hW2⟩ : ∃ W2, W2 = W1.alloc (.cells #[.int .i64 1, .int .i64 4, .int .i64 8, .int .i64 4, .int .i64 4, .int .i64 8] 3) := ⟨_, rfl⟩
  have R2 : W2.heap[W1.heap.size]? = some (.cells #[.int .i64 1, .int .i64 4, .int .i64 8, .int .i64 4, .int .i64 4, .int .i64 8] 3 (0, 0)) := by rw [hW2]; exact heap_alloc_new W1 _
  have HU := Lib.hid (RUnp.any (some ⟨W1.heap.size, 0, none⟩) 6 6 [1, 4, 8, 4, 4, 8] (s.take 29) W2 (row6 R2) (by omega) (by simp [maxLen]; omega))
  rw [hu] at HU
  have T2 := TT.out.step (below_new W1 (.cells #[.int .i64 1, .int .i64 4, .int .i64 8, .int .i64 4, .int .i64 4, .int .i64 8] 3))
  rw [← hW2] at T2
  clear hu hc hd hlen R2 hq
  generalize s.take 29 = p at *
  generalize s.drop 29 = q at *
  go_enter Tryz.func28, Tryz.ntmps28
  go_upto_region 1 with (fail)
  rw [← hW1]
  clear hW1
  go_upto_region 4 with (go_at_call 48; rw [← hW2]; refine HU.out.mono ?_; rintro e w3 ⟨v, rfl, hown, hb3⟩; obtain ⟨va, vc, rfl⟩ := own6 hown; replace TT := Lib.hid (T2.step hb3); have HO := Lib.hid (cells6 (row_own (l := [r.k, r.ep, r.tm, r.ct, r.tg, r.un]) hown)); clear hb3 hown T2 hW2 HU)
  go_upto_region 5 with (go_at_call 49; refine (HC.out _).mono ?_; rintro e w4 ⟨rfl, hb4⟩; replace TT := Lib.hid (TT.out.step hb4); have H34 := Lib.hid hb4; clear hb4 HC)
  go_upto_region 10 with (go_at_call 49; refine (HD.out _).mono ?_; rintro e w5 ⟨rfl, hb5⟩; replace TT := Lib.hid (TT.out.step hb5); replace H34 := Lib.hid (H34.out.trans (hb5.mono H34.out.size)); clear hb5 HD)
  have hlt := World.block_lt_of_cell? w3 _ HO.out.1
  have c0 := (H34.out.cell (p := ⟨va, 0, none⟩) hlt).trans HO.out.1
  have c1 := (H34.out.cell (p := ⟨va, 1, none⟩) hlt).trans HO.out.2.1
  have c2 := (H34.out.cell (p := ⟨va, 2, none⟩) hlt).trans HO.out.2.2.1
  have c3 := (H34.out.cell (p := ⟨va, 3, none⟩) hlt).trans HO.out.2.2.2.1
  have c4 := (H34.out.cell (p := ⟨va, 4, none⟩) hlt).trans HO.out.2.2.2.2.1
  have c5 := (H34.out.cell (p := ⟨va, 5, none⟩) hlt).trans HO.out.2.2.2.2.2
  clear H34 HO hlt
  have hl5 := World.block_lt_of_cell? w5 _ c0
  have hS := And.intro c0 (And.intro c1 (And.intro c2 (And.intro c3 (And.intro c4 c5))))
  have hA := fun (o : Obj) => And.intro (((below_new w5 o).cell (p := ⟨va, 0, none⟩) hl5).trans c0) (And.intro (((below_new w5 o).cell (p := ⟨va, 1, none⟩) hl5).trans c1) (And.intro (((below_new w5 o).cell (p := ⟨va, 2, none⟩) hl5).trans c2) (And.intro (((below_new w5 o).cell (p := ⟨va, 3, none⟩) hl5).trans c3) (And.intro (((below_new w5 o).cell (p := ⟨va, 4, none⟩) hl5).trans c4) (((below_new w5 o).cell (p := ⟨va, 5, none⟩) hl5).trans c5)))))
  have hS1 := hA (.cells #[.int .i64 0, .int .i64 0, .int .i64 0, .int .i64 0, .int .i64 0, .int .i64 0, .string ⟨#[]⟩, .string ⟨#[]⟩] 23)
  have hS2 := hA (.cells #[.int .i64 r.k, .int .i64 r.ep, .int .i64 r.tm, .int .i64 r.ct, .int .i64 r.tg, .int .i64 r.un, .string ⟨r.rt.toArray⟩, .string ⟨r.nm.toArray⟩] 23)
  clear hl5 hA
  go_region_held3 (fun W' => W'.cell? ⟨va, 0, none⟩ = some (.int .i64 r.k) ∧ W'.cell? ⟨va, 1, none⟩ = some (.int .i64 r.ep) ∧ W'.cell? ⟨va, 2, none⟩ = some (.int .i64 r.tm) ∧ W'.cell? ⟨va, 3, none⟩ = some (.int .i64 r.ct) ∧ W'.cell? ⟨va, 4, none⟩ = some (.int .i64 r.tg) ∧ W'.cell? ⟨va, 5, none⟩ = some (.int .i64 r.un))
    (first | exact hS | exact hS1 | exact hS2)
    (fail)
  generalize hW6 : World.drew (World.alloc w5 _) = W6
  replace TT : Hid (Tk w W6) := Lib.hid (by rw [← hW6]; exact (TT.out.step (below_new _ _)).drew)
  have KK : Hid (Bk W6 w5.heap.size r) := Lib.hid (by rw [← hW6]; exact heap_alloc_new w5 _)
  clear hW6 hS hS1 hS2 c0 c1 c2 c3 c4 c5 s1 s0
  generalize w5.heap.size = X at *
  obtain ⟨k0, k1, k2, k3, k4, k5, k6, k7⟩ := KK.out.cells
  rcases ho with ⟨rfl, rfl⟩ | ⟨rfl, rfl⟩
  · go_upto_region 12 with (go_at_call 37; refine (HR.out _).mono ?_; rintro e w7 ⟨rfl, hb⟩; replace TT := Lib.hid (TT.out.step hb); clear hb HR k0 k1 k2 k3 k4 k5 k6 k7)
    go_wp2_with (refine wpList_store_row rfl 23 _ _ rfl w.heap.size _ rfl rfl 23 _ TT.out.k infoR rfl one0 ?_)
    refine bodyPost_ret (v := .tuple #[.agg #[.int .i64 0, .int .i64 0, .int .i64 0, .int .i64 0, .int .i64 0, .int .i64 0, .string ⟨#[]⟩, .string ⟨#[]⟩], .string ⟨#[]⟩, .bool false])
      (results_cell_two Tryz.results28 _ _ w.heap.size 23 _ (0, 0) _ rfl (setRow_same TT.out.k) Tryz.underlying23 rfl infoR) rfl
      ⟨rfl, below_setRow TT.out.bel (Nat.le_refl _) _⟩
  · go_upto_region 13 with (go_at_call 37; refine (HR.out _).mono ?_; rintro e w7 ⟨rfl, hb⟩; replace TT := Lib.hid (TT.out.step hb); replace KK := Lib.hid (KK.out.step hb); clear hb HR k0 k1 k2 k3 k4 k5 k6 k7)
    obtain ⟨k0, k1, k2, k3, k4, k5, k6, k7⟩ := KK.out.cells
    go_wp2_with (refine wpList_store_row rfl 23 _ _ rfl w.heap.size _ rfl rfl 23 _ TT.out.k infoR rfl (one8 r) ?_)
    refine bodyPost_ret (v := .tuple #[.agg #[.int .i64 r.k, .int .i64 r.ep, .int .i64 r.tm, .int .i64 r.ct, .int .i64 r.tg, .int .i64 r.un, .string ⟨r.rt.toArray⟩, .string ⟨r.nm.toArray⟩], .string ⟨rest.toArray⟩, .bool true])
      (results_cell_two Tryz.results28 _ _ w.heap.size 23 _ (0, 0) _ rfl (setRow_same TT.out.k) Tryz.underlying23 rfl infoR) rfl
      ⟨rfl, below_setRow TT.out.bel (Nat.le_refl _) _⟩
/-- What the document's Take answers. -/
theorem Take (s : List UInt8) (w : World) (hm : s.length ≤ maxLen) :
    Calls Tryz.prog 28 #[.string ⟨s.toArray⟩] w fun e w' => e = .returned (.tuple #[.agg #[.int .i64 (take_ s).1.k, .int .i64 (take_ s).1.ep, .int .i64 (take_ s).1.tm, .int .i64 (take_ s).1.ct, .int .i64 (take_ s).1.tg, .int .i64 (take_ s).1.un, .string ⟨(take_ s).1.rt.toArray⟩, .string ⟨(take_ s).1.nm.toArray⟩], .string ⟨(take_ s).2.1.toArray⟩, .bool (decide (took s))]) ∧ Below w.heap.size w w' := by
  have bad : ∀ {p : Prop}, (took s → p) → ¬ p → take_ s = (zero, [], false) ∧ decide (took s) = false := fun h1 h2 => ⟨take_no (fun h => h2 (h1 h)), df (fun h => h2 (h1 h))⟩
  have ne : ∀ {x : Int}, ¬ x = 0 → (x != 0) = true := fun h => bne_iff_ne.2 h
  have eq : ∀ {x : Int}, x = 0 → (x != 0) = false := fun h => by rw [h]; rfl
  by_cases h29 : 29 ≤ s.length
  · have hcut := Take_cut s (un_ s).1 (un_ s).2 (c1 s).2.2 (c1 s).1 (c1 s).2.1 (c2 s).2.1 (c2 s).1 (c2 s).2.2 w h29 hm rfl rfl rfl
    by_cases hu : (un_ s).2 = 0
    · have hug := un_got h29 hu
      by_cases hc : (c1 s).2.2 = 0
      · by_cases hd : (c2 s).2.2 = 0
        · have hany := fun q1 hq out ho => Take_any s (got s) (c1 s).2.1 (c2 s).2.1 w h29 hm hug (by show c1 s = _; rw [← hc]; rfl) (by show c2 s = _; rw [← hd]; rfl) q1 hq out ho
          by_cases hr : right (got s)
          · have ht : took s := ⟨h29, hu, hc, hd, hr⟩
            rw [take_yes ht, dt ht]
            exact hany true (dt hr) _ (.inr ⟨rfl, rfl⟩)
          · rw [(bad (fun h => h.2.2.2.2) hr).1, (bad (fun h => h.2.2.2.2) hr).2]
            exact hany false (df hr) _ (.inl ⟨rfl, rfl⟩)
        · rw [(bad (fun h => h.2.2.2.1) hd).1, (bad (fun h => h.2.2.2.1) hd).2]
          exact hcut (.inr (.inr ⟨eq hu, eq hc, ne hd⟩))
      · rw [(bad (fun h => h.2.2.1) hc).1, (bad (fun h => h.2.2.1) hc).2]
        exact hcut (.inr (.inl ⟨eq hu, ne hc⟩))
    · rw [(bad (fun h => h.2.1) hu).1, (bad (fun h => h.2.1) hu).2]
      exact hcut (.inl (ne hu))
  · rw [(bad (fun h => h.1) h29).1, (bad (fun h => h.1) h29).2]
    exact Take_len s w h29
end Go.Proofs.YtkidehngleglnaaGreatDoor.RecX
