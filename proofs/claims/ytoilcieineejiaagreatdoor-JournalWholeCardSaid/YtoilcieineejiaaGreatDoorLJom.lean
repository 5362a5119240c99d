/- JouM JouO: one behind the other. -/
import Derived.Test.YtoilcieineejiaaGreatDoorLJoj
import Derived.Test.YtoilcieineejiaaGreatDoorJouL
import Derived.OwnWalk
/- The program's journal: what is left over is wiped: the walk of its text. No conditions but those that each lemma names. -/
namespace Go.Proofs.YtoilcieineejiaaGreatDoor.JouM
set_option linter.unusedVariables false
open Go.RowKit Go.Shelf
open DkN DkM JouN JouP JouQ JouR JouS JouC JouW JouX JouY JouZ JouB JouD JouI JouJ
open JouL (Alls Wr3 Wiped app_st step_run own_len row_kinds cell_row)
open SupP (Gl)
theorem mem_lt {sh : List B} {s : SupN.Sb} : (JouQ.wipes sh s).length ≤ sh.length + 1 := by
  unfold JouQ.wipes wipeK wipeD
  have h1 := SloN.stale_len (lb (at_ sh 2)) (lb (at_ sh 3)) s.e
  have h2 := List.length_filter_le (fun i => decide (4 + s.t.toNat ≤ i ∧ at_ sh i ≠ nou 4096)) (List.range sh.length)
  simp only [List.length_append, List.length_map, List.length_range] at *
  omega
/-- Steps that write, told one by one. -/
theorem stps_wr {w : World} {b : Nat} {bv cv : Value} {D : Dk} (h : Has false w b bv cv D) {s : ByteArray} {L : List Nat} {vs : List Value} (ha : Alls (Wr3 MerG.Non b s w) L vs) :
    Stps (RD w b bv cv) vs ((L.map fun i => [Ac.wr i s]).map Lens.id_.act) := by
  induction ha with
  | nil => exact .nil
  | cons q _ ih =>
    obtain ⟨x, y, z, rfl, hx, hy, hz⟩ := q
    exact .cons (stp_wr fr_RD (stay_RD h hx.2 (by decide) (by decide) (.inl (by decide))) (stay_RD h hy.2 (by decide) (by decide) (.inl (by decide))) (stay_RD h hz.2 (by decide) (by decide) (.inr (show 1 < 8 by decide)))) ih
theorem flat_wr (s : ByteArray) (L : List Nat) : (L.map fun i => [Ac.wr i s]).flatten = L.map fun i => Ac.wr i s := by
  induction L with
  | nil => rfl
  | cons a l ih => simp [ih]
/-- The row that an append left. -/
theorem lies_own {w : World} {b base n : Nat} {bv cv v : Value} {D : Dk} {a : Option Addr} {c : Nat} {vs : List Value} (h : Has false w b bv cv D) (ho : w.ownsRow base 88 1 v n vs) (hv : v = .slice a n c) : Lies (RD w b bv cv) a vs := by
  rcases ho with ⟨hl, ⟨rfl, rfl⟩ | ⟨g, cap, cur, rfl, _, hg, _, _, _, ht⟩⟩
  · have : vs = [] := List.eq_nil_of_length_eq_zero (by omega)
    subst this
    intro W x hR i v hi
    simp at hi
  · cases hv
    intro W x hR i v hi
    have hs := stay_RD h hg (by decide) (by decide) (.inl (by decide)) W x hR
    refine ⟨g, 0, rfl, ?_⟩
    rw [Nat.zero_add]
    refine blk_cell hs ?_
    rw [← ht, List.getElem?_take] at hi
    split at hi
    · simpa using hi
    · cases hi
/-- The steps of a row are done one by one. -/
theorem row_done {w : World} {b base n : Nat} {bv cv v : Value} {D : Dk} {a : Option Addr} {c : Nat} {vs : List Value} (h : Has false w b bv cv D) (ho : w.ownsRow base 88 1 v n vs) (hv : v = .slice a n c) (hn : n ≤ 100000) (ls : List (List Ac)) (hs : Stps (RD w b bv cv) vs (ls.map Lens.id_.act)) :
    Calls Tryz.prog 38 #[.slice a n c] w fun e w' => e = .returned (.int .i64 ((run D ls.flatten).1 : Nat)) ∧ Did false w b bv cv (run D ls.flatten).2 w' := by
  have hl := hs.len
  have hlen : vs.length = n := by have := ho.1; omega
  refine (inTurn (RD w b bv cv) a n c vs (ls.map Lens.id_.act) w D h.same (by rw [← hl, hlen]) hn (lies_own h ho hv) hs).mono ?_
  rintro e w' ⟨rfl, hR⟩
  rw [runS_flat] at hR ⊢
  exact ⟨rfl, hR⟩
theorem wr_grown {b : Nat} {s : ByteArray} {A W1 : World} {base n : Nat} {v : Value} {xs : List Value} (hown : A.ownsRow base 88 1 v n xs) (hg : A.grownBy W1 v.ownBlock) {L : List Nat} {vs : List Value} (h : Alls (Wr3 MerG.Non b s A) L vs) : Alls (Wr3 MerG.Non b s W1) L vs :=
  h.mono fun i u hu => by
    obtain ⟨x, y, z, e, hx, hy, hz⟩ := hu
    exact ⟨x, y, z, e, ⟨hx.1, row_kinds hown hg _ _ _ hx.2 (by decide)⟩, ⟨hy.1, row_kinds hown hg _ _ _ hy.2 (by decide)⟩, ⟨hz.1, row_kinds hown hg _ _ _ hz.2 (by decide)⟩⟩
theorem wr_below {b : Nat} {s : ByteArray} {A B : World} {L : List Nat} {vs : List Value} (h : Alls (Wr3 MerG.Non b s A) L vs) (hb : Below A.heap.size A B) : Alls (Wr3 MerG.Non b s B) L vs :=
  h.mono fun i u hu => by
    obtain ⟨x, y, z, e, hx, hy, hz⟩ := hu
    exact ⟨x, y, z, e, ⟨hx.1, (hb.block _ (lt_of_some hx.2)).trans hx.2⟩, ⟨hy.1, (hb.block _ (lt_of_some hy.2)).trans hy.2⟩, ⟨hz.1, (hb.block _ (lt_of_some hz.2)).trans hz.2⟩⟩
theorem below_grown {n : Nat} {w A W1 : World} {row : Option Nat} (h : Below n w A) (hg : A.grownBy W1 row) (hr : ∀ k, row = some k → n ≤ k) (hn : n ≤ w.heap.size) : Below n w W1 := h.grown hg (by have := h.size; omega) hr
set_option maxRecDepth 100000 in
set_option maxHeartbeats 2000000 in
theorem putRight {w : World} {b g : Nat} {bv cv : Value} {D : Dk} (h : Has false w b bv cv D) (sh : List B) (hsh : sh.length ≤ 2000) (h8 : 8 ≤ sh.length) (s : SupN.Sb) (hm : SupN.may s) (hb : s.b = sh.length) (hg : Gl w)
    (hrow : w.heap[g]? = some (.cells (sh.map Value.string).toArray 9 (0, 0))) (N : Nat) (hN : sh.length = N) :
    Calls Tryz.prog 46 #[.pointer (some ⟨b, 0, none⟩), .slice (some ⟨g, 0, none⟩) N N, .agg #[.int .i64 s.g, .int .i64 s.t, .int .i64 s.e, .int .i64 s.k, .int .i64 s.b, .int .i64 s.l, .int .i64 s.f]] w fun e w' => e = .returned (.int .i64 ((run D (openL sh s)).1 : Nat)) ∧ Did false w b bv cv (run D (openL sh s)).2 w' := by
  have hlen := mem_lt (sh := sh) (s := s)
  obtain ⟨L, hL⟩ : ∃ L, JouQ.wipes sh s = L := ⟨_, rfl⟩
  obtain ⟨W1, hW1⟩ : ∃ W1, W1 = w.alloc (.cells #[.int .i64 s.g, .int .i64 s.t, .int .i64 s.e, .int .i64 s.k, .int .i64 s.b, .int .i64 s.l, .int .i64 s.f] 53) := ⟨_, rfl⟩
  have B1 : Hid (Below w.heap.size w W1) := Lib.hid (by rw [hW1]; exact below_new _ _)
  have X1 : Hid (W1.heap[w.heap.size]? = some (.cells #[.int .i64 s.g, .int .i64 s.t, .int .i64 s.e, .int .i64 s.k, .int .i64 s.b, .int .i64 s.l, .int .i64 s.f] 53 (0, 0))) := Lib.hid (by rw [hW1]; exact heap_alloc_new w _)
  have HLo := Lib.hid (fun (a : Option Addr) (n c : Nat) (W : World) => leftOver a n c s W)
  have HWi : Hid (∀ W W2 : World, Below w.heap.size w W → W2 = (W.alloc (.cells #[.slice (some ⟨g, 0, none⟩) N N] 34)).alloc (.cells #[.int .i64 s.g, .int .i64 s.t, .int .i64 s.e, .int .i64 s.k, .int .i64 s.b, .int .i64 s.l, .int .i64 s.f] 53) →
      Calls Tryz.prog 39 #[.pointer (some ⟨b, 0, none⟩), .func (.func 125) #[] #[.pointer (some ⟨W.heap.size, 0, none⟩), .pointer (some ⟨W.heap.size + 1, 0, none⟩)]] W2 (Wiped b (nou 4096) L W2)) := Lib.hid (by
    intro W W2 hB hW2
    have b2 : Below w.heap.size w W2 := by rw [hW2]; exact (hB.alloc hB.size _).alloc (by have := hB.size; simp only [World.size_alloc]; omega) _
    have hg2 := hg.step b2
    have hs2 : W2.heap.size = W.heap.size + 1 + 1 := by rw [hW2]; simp
    have hwW := hB.size
    have hgl := lt_of_some hrow
    have hl1 := hg.bn.lt.1
    have hm1 := hg.bn.lt.2
    rw [← hL]
    refine JouL.wipes 125 #[.pointer (some ⟨W.heap.size, 0, none⟩), .pointer (some ⟨W.heap.size + 1, 0, none⟩)] (enters_of Tryz.func125 (by kernel_rfl) rfl) _ (by omega)
      (fun k => k = W.heap.size ∨ k = W.heap.size + 1 ∨ k = g ∨ k = 0 ∨ k = 1) W2 (fun k hk => by rcases hk with rfl | rfl | rfl | rfl | rfl <;> omega) b
      (JouK.leftOver1 5 (by omega) sh hsh h8 s hm hb W.heap.size (W.heap.size + 1) g _ (.inl rfl) (.inr (.inl rfl)) (.inr (.inr (.inl rfl))) (.inr (.inr (.inr (.inl rfl)))) (.inr (.inr (.inr (.inr rfl)))) W2
        ⟨by rw [hN, hW2]; exact heap_alloc2_old W _ _, (b2.block _ hgl).trans hrow⟩ (by rw [hW2]; exact heap_alloc2_new W _ _) hg2.bn (fun k hk => by rcases hk with rfl | rfl | rfl | rfl | rfl <;> omega)))
  have HH := Lib.hid h
  have HE : Hid (openL sh s = wipeL L ++ if L = [] then [] else [.fl]) := Lib.hid (by rw [openL_eq, hL])
  have hl5 : L.length ≤ 5000 := by rw [← hL]; omega
  have y0 := blk_cell (i := 0) (u := .int .i64 s.g) X1.out rfl
  have y1 := blk_cell (i := 1) (u := .int .i64 s.t) X1.out rfl
  have y2 := blk_cell (i := 2) (u := .int .i64 s.e) X1.out rfl
  have y3 := blk_cell (i := 3) (u := .int .i64 s.k) X1.out rfl
  have y4 := blk_cell (i := 4) (u := .int .i64 s.b) X1.out rfl
  have y5 := blk_cell (i := 5) (u := .int .i64 s.l) X1.out rfl
  have y6 := blk_cell (i := 6) (u := .int .i64 s.f) X1.out rfl
  have hmf := makes
  clear h hlen hL hsh h8 hm hb hg hrow hN
  go_enter Tryz.func46, Tryz.ntmps46
  go_upto_region 1 with (fail)
  rw [← hW1]
  clear hW1
  go_upto_region 2 with (first
    | (go_at_call 90; refine (HLo.out _ _ _ _).mono ?_; rintro e w2 ⟨rfl, hw2⟩; have E2 := Lib.hid hw2; clear hw2)
    | (go_at_call 39; refine (HWi.out _ _ B1.out E2.out).mono ?_; rintro e w3 ⟨v3, vs3, rfl, ho3, ha3, hb3⟩; have O3 := Lib.hid ho3; have A3 := Lib.hid ha3; have B3 := Lib.hid hb3; clear ho3 ha3 hb3))
  clear y0 y1 y2 y3 y4 y5 y6 HLo HWi
  have b2 : Below w.heap.size w w2 := by rw [E2.out]; exact (B1.out.alloc B1.out.size _).alloc (by have := B1.out.size; simp only [World.size_alloc]; omega) _
  have B23 : Hid (Below w.heap.size w w3) := Lib.hid (b2.trans (B3.out.mono b2.size))
  have hs2 := b2.size
  clear b2
  obtain ⟨n, hn⟩ : ∃ n, L.length = n := ⟨_, rfl⟩
  rw [hn] at O3 hl5
  have HN := Lib.hid hn
  obtain ⟨a3, c3, e3⟩ := own_len O3.out
  subst e3
  clear hn
  obtain ⟨i0, hi, hz0, hz1, hz2⟩ := info_parts JouL.info_st
  have H3 := Lib.hid (HH.out.step B23.out)
  by_cases h0 : n = 0
  · subst h0
    have hL0 : L = [] := List.eq_nil_of_length_eq_zero HN.out
    subst hL0
    have HT := Lib.hid (row_done H3.out O3.out rfl (by omega) [] (by have q := stps_wr H3.out A3.out; exact q))
    clear hi hz0 hz1 hz2 hl5 hs2 hmf HN
    go_wp2_with (go_at_call 38; refine HT.out.mono ?_; rintro e w5 ⟨rfl, hd5⟩; have D5 := Lib.hid hd5; clear hd5)
    go_ret
    rw [HE.out]
    exact ⟨rfl, Did.then_ H3.out (fun _ => .inl) (.of_below B23.out) D5.out⟩
  · have hn0 : ((n : Int) > 0) := by omega
    have hsz3 := B3.out.size
    have hcell : ∀ (j : Nat) (u : Value), [Value.func (.func 41) #[.pointer (some ⟨b, 0, none⟩)] #[]][j]? = some u → (w3.alloc (Obj.cells #[.func (.func 41) #[.pointer (some ⟨b, 0, none⟩)] #[]] 88)).cell? ((⟨w3.heap.size, 0, none⟩ : Addr).add j) = some u :=
      cell_row (heap_alloc_new w3 (Obj.cells #[.func (.func 41) #[.pointer (some ⟨b, 0, none⟩)] #[]] 88))
    have hO4 : (w3.alloc (Obj.cells #[.func (.func 41) #[.pointer (some ⟨b, 0, none⟩)] #[]] 88)).ownsRow w2.heap.size 88 1 (.slice a3 n c3) n vs3 := O3.out.alloc _
    have hbs : w2.heap.size ≤ (w3.alloc (Obj.cells #[.func (.func 41) #[.pointer (some ⟨b, 0, none⟩)] #[]] 88)).heap.size := by simp only [World.size_alloc]; omega
    have HCell := Lib.hid hcell
    have HO4 := Lib.hid hO4
    have HBs := Lib.hid hbs
    clear hcell hO4 hbs
    go_upto_region 4 with (first
      | (at_builtin; refine wpList_append_own_at _ rfl _ _ 83 rfl w2.heap.size 88 i0 Value.nilFunc 1 8 Tryz.underlying83 hi hz0 hz1 hz2 rfl (by decide) _ _ _ rfl HO4.out ⟨w3.heap.size, 0, none⟩ 1 1 [.func (.func 41) #[.pointer (some ⟨b, 0, none⟩)] #[]] rfl rfl HCell.out (by simp [Value.oneCell']) (by unfold maxLen; omega) (by omega) HBs.out ?_; intro v' w4 hown hgrow _ hloc; have O4 := Lib.hid hown; have G4 := Lib.hid hgrow; clear hown hgrow hloc)
      | fail)
    obtain ⟨a4, c4, rfl⟩ := own_len O4.out
    have B34 : Hid (Below w2.heap.size w3 w4) := Lib.hid ((((Below.refl _ _).alloc hsz3 _).grown G4.out HBs.out (fun k hk => (O3.out.lt k hk).1)))
    have B24 : Hid (Below w.heap.size w w4) := Lib.hid (B23.out.trans (B34.out.mono hs2))
    have H4 := Lib.hid (HH.out.step B24.out)
    have A4 := Lib.hid (wr_grown HO4.out G4.out (wr_below A3.out (below_new w3 _)))
    have HT := Lib.hid (row_done H4.out O4.out rfl (by omega) ((L.map fun i => [Ac.wr i (nou 4096)]) ++ [[Ac.fl]]) (by rw [List.map_append]; exact (stps_wr H4.out A4.out).app (.cons (stp_fl fr_RD) .nil)))
    have hfl : ((L.map fun i => [Ac.wr i (nou 4096)]) ++ [[Ac.fl]]).flatten = openL sh s := by
      rw [HE.out, if_neg (fun e => h0 (by rw [← HN.out, e]; rfl)), List.flatten_append, flat_wr]
      rfl
    rw [hfl] at HT
    clear hi hz0 hz1 hz2 hl5 hs2 hmf hsz3
    go_wp2_with (go_at_call 38; refine HT.out.mono ?_; rintro e w5 ⟨rfl, hd5⟩; have D5 := Lib.hid hd5; clear hd5)
    go_ret
    exact ⟨rfl, Did.then_ H4.out (fun _ => .inl) (.of_below B24.out) D5.out⟩
end Go.Proofs.YtoilcieineejiaaGreatDoor.JouM
/- The program's journal: a disk is formatted: the walk of its text. No conditions but those that each lemma names. -/
namespace Go.Proofs.YtoilcieineejiaaGreatDoor.JouO
set_option linter.unusedVariables false
open Go.RowKit Go.Shelf
open DkN DkM JouN JouP JouQ JouR JouS JouC JouW JouX JouY JouZ JouB JouD JouI JouJ JouM
open JouL (Alls Wr3 Wiped app_st step_run own_len row_kinds cell_row)
open SupP (Gl)
theorem wrAt_kinds {A W1 : World} {b : Nat} {i : Int} {s : ByteArray} {x y z : Nat} (K : ∀ (k : Nat) (cs : Array Value) (t : TypeId), A.heap[k]? = some (Obj.cells cs t (0, 0)) → t ≠ 88 → W1.heap[k]? = some (Obj.cells cs t (0, 0))) (h : WrAt A b i s x y z) : WrAt W1 b i s x y z :=
  ⟨K _ _ _ h.d (by decide), K _ _ _ h.i (by decide), K _ _ _ h.s (by decide)⟩
theorem suAt_kinds {A W1 : World} {b : Nat} {s : SupN.Sb} {x y z : Nat} (K : ∀ (k : Nat) (cs : Array Value) (t : TypeId), A.heap[k]? = some (Obj.cells cs t (0, 0)) → t ≠ 88 → W1.heap[k]? = some (Obj.cells cs t (0, 0))) (h : SuAt A b s x y z) : SuAt W1 b s x y z :=
  ⟨K _ _ _ h.d (by decide), K _ _ _ h.u (by decide), K _ _ _ h.t (by decide)⟩
theorem behind_len (sh : List B) (k : Nat) : (behind sh k).length ≤ sh.length := by
  have h := List.length_filter_le (fun i => decide (k ≤ i ∧ at_ sh i ≠ nou 4096)) (List.range sh.length)
  simpa [behind] using h
set_option maxRecDepth 100000 in
theorem wipes_new {A : World} {g b : Nat} (sh : List B) (hsh : sh.length ≤ 2000) (hrow : A.heap[g]? = some (.cells (sh.map Value.string).toArray 9 (0, 0))) (N : Nat) (hN : sh.length = N) :
    Calls Tryz.prog 39 #[.pointer (some ⟨b, 0, none⟩), .func (.func 79) #[] #[.pointer (some ⟨A.heap.size + 1, 0, none⟩), .pointer (some ⟨A.heap.size, 0, none⟩)]] ((A.alloc (.cells #[.slice (some ⟨g, 0, none⟩) N N] 34)).alloc (.cells #[.int .i64 0] 3))
      (Wiped b (nou 4096) (behind sh 0) ((A.alloc (.cells #[.slice (some ⟨g, 0, none⟩) N N] 34)).alloc (.cells #[.int .i64 0] 3))) := by
  have hgl := lt_of_some hrow
  have hlen := behind_len sh 0
  have b2 : Below A.heap.size A ((A.alloc (.cells #[.slice (some ⟨g, 0, none⟩) N N] 34)).alloc (.cells #[.int .i64 0] 3)) := (below_new _ _).alloc (by simp) _
  have hs2 : ((A.alloc (.cells #[.slice (some ⟨g, 0, none⟩) N N] 34)).alloc (.cells #[.int .i64 0] 3)).heap.size = A.heap.size + 1 + 1 := by simp
  have hX := heap_alloc2_old A (.cells #[.slice (some ⟨g, 0, none⟩) N N] 34) (.cells #[.int .i64 0] 3)
  have hF := heap_alloc2_new A (.cells #[.slice (some ⟨g, 0, none⟩) N N] 34) (.cells #[.int .i64 0] 3)
  generalize ((A.alloc (.cells #[.slice (some ⟨g, 0, none⟩) N N] 34)).alloc (.cells #[.int .i64 0] 3)) = A2 at *
  exact JouL.wipes 79 #[.pointer (some ⟨A.heap.size + 1, 0, none⟩), .pointer (some ⟨A.heap.size, 0, none⟩)] (enters_of Tryz.func79 (by kernel_rfl) rfl) _ (by omega)
      (fun k => k = A.heap.size ∨ k = A.heap.size + 1 ∨ k = g) A2 (fun k hk => by rcases hk with rfl | rfl | rfl <;> omega) b
      (notEmpty1 5 (by omega) sh hsh 0 (A.heap.size + 1) A.heap.size g (Nat.zero_le _) _ (.inr (.inl rfl)) (.inl rfl) (.inr (.inr rfl)) A2 hF ⟨by rw [hN]; exact hX, (b2.block _ hgl).trans hrow⟩)
theorem fmt_flat (sh : List B) (b l f : Int) (key : List UInt8) : ((behind sh 0).map (fun i => [Ac.wr i (nou 4096)]) ++ [[Ac.fl], [Ac.wr (2 + (f % 2).toNat) (bb (SloN.blk f key))], [Ac.fl], superL (sup1 b l f)]).flatten = fmtL sh b l f key := by
  rw [List.flatten_append, flat_wr]
  rfl
set_option maxRecDepth 100000 in
set_option maxHeartbeats 2000000 in
theorem Format {w : World} {b : Nat} {bv cv : Value} {D : Dk} (h : Has false w b bv cv D) (hd : D.down = false) (gb gl gf : Int) (hm : SupN.may (sup1 gb gl gf)) (hgb : gb = D.bl.length) (key : List UInt8) (hk : key.length = 32) (hg : Gl w) :
    Calls Tryz.prog 9 #[.pointer (some ⟨b, 0, none⟩), .agg #[.int .i64 gb, .int .i64 gl, .int .i64 gf], .string ⟨key.toArray⟩] w fun e w' => e = .returned (.int .i64 ((run D (fmtL (shows D) gb gl gf key)).1 : Nat)) ∧ Did false w b bv cv (run D (fmtL (shows D) gb gl gf key)).2 w' := by
  have hr : GeoN.right gb gl gf := hm.1
  obtain ⟨W1, hW1⟩ : ∃ W1, W1 = w.alloc (.cells #[.int .i64 gb, .int .i64 gl, .int .i64 gf] 32) := ⟨_, rfl⟩
  have B1 : Hid (Below w.heap.size w W1) := Lib.hid (by rw [hW1]; exact below_new _ _)
  have X1 : Hid (W1.heap[w.heap.size]? = some (.cells #[.int .i64 gb, .int .i64 gl, .int .i64 gf] 32 (0, 0))) := Lib.hid (by rw [hW1]; exact heap_alloc_new w _)
  have HG := Lib.hid hg
  have HH := Lib.hid h
  have HCk := Lib.hid (fun W hW => GeoD.Check gb gl gf W hW)
  rw [show GeoN.check gb gl gf = 0 from GeoN.check_yes hr] at HCk
  have HSz : Hid (∀ W, Below w.heap.size w W → Calls Tryz.prog 35 #[.pointer (some ⟨b, 0, none⟩)] W fun e w' => e = .returned (.int .i64 gb) ∧ W = w') := Lib.hid (fun W hb => by rw [hgb]; exact DkQ.Size (h.step hb))
  have HF : Hid (∀ W : World, Below W1.heap.size W1 W → (W.cell? ⟨w.heap.size, 0, none⟩ = some (.int .i64 gb) ∧ W.cell? ⟨w.heap.size, 1, none⟩ = some (.int .i64 gl) ∧ W.cell? ⟨w.heap.size, 2, none⟩ = some (.int .i64 gf))) := Lib.hid (fun W hb => by
    have q := (hb.block _ (lt_of_some X1.out)).trans X1.out
    exact ⟨blk_cell q rfl, blk_cell q rfl, blk_cell q rfl⟩)
  have hS := HF.out W1.drew (Below.refl _ _).drew
  have HSh : Hid (∀ W, Below w.heap.size w W → Calls Tryz.prog 36 #[.pointer (some ⟨b, 0, none⟩)] W (Shown (shows D) W)) := Lib.hid (fun W hb => show_ok (h.step hb) hd)
  have HPu := Lib.hid (fun W hW => SloP.Put_yes gf key W hW (by unfold GeoN.right at hr; exact ⟨hr.2.2.2.2.1, hr.2.2.2.2.2⟩) hk)
  have HKy : Hid (∀ W : World, Calls Tryz.prog 43 #[.int .i64 gf] W fun e w' => e = .returned (.int .i64 ((2 + (gf % 2).toNat : Nat) : Int)) ∧ W = w') := Lib.hid (fun W => by
    have q := GeoD.Key gf W (by unfold GeoN.right at hr; omega)
    rw [show 2 + GeoN.turn gf = ((2 + (gf % 2).toNat : Nat) : Int) by have := hr; unfold GeoN.right at this; unfold GeoN.turn; omega] at q
    exact q)
  have HSu : Hid (∀ W, Gl W → Calls Tryz.prog 44 #[.pointer (some ⟨b, 0, none⟩), .agg #[.int .i64 1, .int .i64 0, .int .i64 gf, .int .i64 0, .int .i64 gb, .int .i64 gl, .int .i64 gf]] W (GaveSu b (sup1 gb gl gf) W)) := Lib.hid (fun W hW => writesSuper b (sup1 gb gl gf) W hW hm)
  have HNe := Lib.hid (fun (a : Option Addr) (n c : Nat) (W : World) => notEmpty a n c 0 W)
  have HW1 := Lib.hid (fun W => writes b ((2 + (gf % 2).toNat : Nat) : Int) (bb (SloN.blk gf key)) W)
  have hshl := shows_len D
  have hhi := h.ok.hi
  have HFl := Lib.hid (fmt_flat (shows D) gb gl gf key)
  have hmf := makes
  have hkz : (⟨key.toArray⟩ : ByteArray).size = 32 := hk
  have HGb := Lib.hid hgb
  rw [← hshl] at hhi
  generalize shows D = sh at *
  have HLen : Hid (sh.length ≤ 2000) := Lib.hid (by omega)
  have HBh := Lib.hid (behind_len sh 0)
  generalize fmtL sh gb gl gf key = fl at *
  unfold bb at HW1
  obtain ⟨k1, hk1⟩ : ∃ k1 : Int, ((2 + (gf % 2).toNat : Nat) : Int) = k1 := ⟨_, rfl⟩
  have HK1 := Lib.hid hk1
  rw [hk1] at HKy HW1
  clear hk1
  obtain ⟨N, hN⟩ : ∃ N, sh.length = N := ⟨_, rfl⟩
  have HN := Lib.hid hN
  unfold Shown at HSh
  rw [hN] at HSh
  clear hN hshl hhi hd hk
  have HM := Lib.hid hm
  clear h hg hm hr hgb
  go_enter Tryz.func9, Tryz.ntmps9
  go_upto_region 1 with (fail)
  rw [← hW1]
  clear hW1
  go_region_held3 (fun W => W.cell? ⟨w.heap.size, 0, none⟩ = some (.int .i64 gb) ∧ W.cell? ⟨w.heap.size, 1, none⟩ = some (.int .i64 gl) ∧ W.cell? ⟨w.heap.size, 2, none⟩ = some (.int .i64 gf))
    (first | exact hS | exact hS1)
    (first
      | (go_at_call 34; refine (HCk.out _ (HG.out.step (B1.out.drew)).bn).mono ?_; rintro e w2 ⟨rfl, hb2⟩; have hS1 := HF.out w2 ((Below.refl _ _).drew.trans hb2); have B2 := Lib.hid (B1.out.drew.trans (hb2.mono B1.out.drew.size)); have X2 := Lib.hid ((hb2.block _ (lt_of_some X1.out)).trans X1.out); clear hb2)
      | (go_at_call 35; refine (HSz.out _ B2.out).mono ?_; rintro e _ ⟨rfl, rfl⟩))
  clear hS hS1 HCk HSz
  go_upto_region 4 with (go_at_call 36; refine (HSh.out _ B2.out).mono ?_; rintro e w3 ⟨rfl, hr3, hb3⟩; have R3 := Lib.hid hr3; have B3 := Lib.hid (B2.out.trans (hb3.mono B2.out.size)); have X3 := Lib.hid ((hb3.block _ (lt_of_some X2.out)).trans X2.out); clear hr3 hb3)
  have c2 := blk_cell (i := 2) (u := .int .i64 gf) X3.out rfl
  go_upto_region 7 with (go_at_call 37; refine (HPu.out _ (HG.out.step B3.out).rd).mono ?_; rintro e w4 ⟨rfl, hb4⟩; have R4 := Lib.hid ((hb4.block _ (lt_of_some R3.out)).trans R3.out); have B4 := Lib.hid (B3.out.trans (hb4.mono B3.out.size)); have X4 := Lib.hid ((hb4.block _ (lt_of_some X3.out)).trans X3.out); clear hb4)
  clear c2 HSh HPu R3 B3 X3 HF B2 X2
  generalize w2.heap.size = g at *
  have B5 : Hid (Below w.heap.size w w4.drew) := Lib.hid B4.out.drew
  have R5 : Hid (w4.drew.heap[g]? = some (.cells (sh.map Value.string).toArray 9 (0, 0))) := R4
  have X5 : Hid (w4.drew.heap[w.heap.size]? = some (.cells #[.int .i64 gb, .int .i64 gl, .int .i64 gf] 32 (0, 0))) := X4
  have HF : Hid (∀ W : World, W.heap[w.heap.size]? = some (.cells #[.int .i64 gb, .int .i64 gl, .int .i64 gf] 32 (0, 0)) → (W.cell? ⟨w.heap.size, 0, none⟩ = some (.int .i64 gb) ∧ W.cell? ⟨w.heap.size, 1, none⟩ = some (.int .i64 gl) ∧ W.cell? ⟨w.heap.size, 2, none⟩ = some (.int .i64 gf))) := Lib.hid (fun W q => ⟨blk_cell q rfl, blk_cell q rfl, blk_cell q rfl⟩)
  have hS := HF.out _ X5.out
  clear R4 B4 X4
  refine wp_region_held_drew (S := fun W => W.cell? ⟨w.heap.size, 0, none⟩ = some (.int .i64 gb) ∧ W.cell? ⟨w.heap.size, 1, none⟩ = some (.int .i64 gl) ∧ W.cell? ⟨w.heap.size, 2, none⟩ = some (.int .i64 gf)) (by kernel_rfl) hS (fun _ => ?_)
  change wpAnyH _ _ _ _ _ _ #[false, false, false, false, false, false, false, false, false, false, false, false, false, false, false, false, false, false, false, false, false, false, false, false] _ _
  refine wpAnyH_take (i := 0) (v := ?v1) (by rw [List.getElem?_toArray]; rfl) (by kernel_rfl) (by kernel_rfl) (by kernel_rfl) (by intro _ _ _ h; exact h) (Or.inl ⟨by rfl, ?hy1⟩) (by assumption) ?rest1
  case hy1 => (intro W hSW; (try dsimp only at hSW); go_simp; try with_reducible rfl)
  try simp only [Act.put, List.setIfInBounds_toArray, List.set_cons_zero, List.set_cons_succ]
  refine wpAnyH_take (i := 1) (v := ?v2) (by rw [List.getElem?_toArray]; rfl) (by kernel_rfl) (by kernel_rfl) (by kernel_rfl) (by intro _ _ _ h; exact h) (Or.inl ⟨by rfl, ?hy2⟩) (by assumption) ?rest2
  case hy2 => (intro W hSW; (try dsimp only at hSW); go_simp; try with_reducible rfl)
  try simp only [Act.put, List.setIfInBounds_toArray, List.set_cons_zero, List.set_cons_succ]
  refine wpAnyH_take (i := 4) (v := ?v3) (by rw [List.getElem?_toArray]; rfl) (by kernel_rfl) (by kernel_rfl) (by kernel_rfl) (by intro _ _ _ h; exact h) (Or.inl ⟨by rfl, ?hy3⟩) (by assumption) ?rest3
  case hy3 => (intro W hSW; (try dsimp only at hSW); go_simp; try with_reducible rfl)
  try simp only [Act.put, List.setIfInBounds_toArray, List.set_cons_zero, List.set_cons_succ]
  refine wpAnyH_take (i := 5) (v := ?v4) (by rw [List.getElem?_toArray]; rfl) (by kernel_rfl) (by kernel_rfl) (by kernel_rfl) (by intro _ _ _ h; exact h) (Or.inl ⟨by rfl, ?hy4⟩) (by assumption) ?rest4
  case hy4 => (intro W hSW; (try dsimp only at hSW); go_simp; try with_reducible rfl)
  try simp only [Act.put, List.setIfInBounds_toArray, List.set_cons_zero, List.set_cons_succ]
  refine wpAnyH_take (i := 6) (v := ?v5) (by rw [List.getElem?_toArray]; rfl) (by kernel_rfl) (by kernel_rfl) (by kernel_rfl) (by intro _ _ _ h; exact h) (Or.inl ⟨by rfl, ?hy5⟩) (by assumption) ?rest5
  case hy5 => (intro W hSW; (try dsimp only at hSW); go_simp; try with_reducible rfl)
  try simp only [Act.put, List.setIfInBounds_toArray, List.set_cons_zero, List.set_cons_succ]
  refine wpAnyH_take (i := 7) (v := ?v6) (by rw [List.getElem?_toArray]; rfl) (by kernel_rfl) (by kernel_rfl) (by kernel_rfl) (by intro _ _ _ h; exact h) (Or.inl ⟨by rfl, ?hy6⟩) (by assumption) ?rest6
  case hy6 => (intro W hSW; (try dsimp only at hSW); go_simp; try with_reducible rfl)
  try simp only [Act.put, List.setIfInBounds_toArray, List.set_cons_zero, List.set_cons_succ]
  refine wpAnyH_take (i := 8) (v := ?v7) (by rw [List.getElem?_toArray]; rfl) (by kernel_rfl) (by kernel_rfl) (by kernel_rfl) (by intro _ _ _ h; exact h) (Or.inl ⟨by rfl, ?hy7⟩) (by assumption) ?rest7
  case hy7 => (intro W hSW; (try dsimp only at hSW); go_simp; try with_reducible rfl)
  try simp only [Act.put, List.setIfInBounds_toArray, List.set_cons_zero, List.set_cons_succ]
  refine wpAnyH_take (i := 10) (v := ?v8) (by rw [List.getElem?_toArray]; rfl) (by kernel_rfl) (by kernel_rfl) (by kernel_rfl) (by intro _ _ _ h; exact h) (Or.inl ⟨by rfl, ?hy8⟩) (by assumption) ?rest8
  case hy8 => (intro W hSW; (try dsimp only at hSW); go_simp; try with_reducible rfl)
  try simp only [Act.put, List.setIfInBounds_toArray, List.set_cons_zero, List.set_cons_succ]
  refine wpAnyH_take (i := 12) (v := ?v9) (by rw [List.getElem?_toArray]; rfl) (by kernel_rfl) (by kernel_rfl) (by kernel_rfl) (by intro _ _ _ h; exact h) (Or.inl ⟨by rfl, ?hy9⟩) (by assumption) ?rest9
  case hy9 => (intro W hSW; (try dsimp only at hSW); go_simp; try with_reducible rfl)
  try simp only [Act.put, List.setIfInBounds_toArray, List.set_cons_zero, List.set_cons_succ]
  refine wpAnyH_take (i := 13) (v := ?v10) (by rw [List.getElem?_toArray]; rfl) (by kernel_rfl) (by kernel_rfl) (by kernel_rfl) (by intro _ _ _ h; exact h) (Or.inl ⟨by rfl, ?hy10⟩) (by assumption) ?rest10
  case hy10 => (intro W hSW; (try dsimp only at hSW); go_simp; try with_reducible rfl)
  try simp only [Act.put, List.setIfInBounds_toArray, List.set_cons_zero, List.set_cons_succ]
  refine wpAnyH_take (i := 14) (v := ?v11) (by rw [List.getElem?_toArray]; rfl) (by kernel_rfl) (by kernel_rfl) (by kernel_rfl) (by intro _ _ _ h; exact h) (Or.inl ⟨by rfl, ?hy11⟩) (by assumption) ?rest11
  case hy11 => (intro W hSW; (try dsimp only at hSW); go_simp; try with_reducible rfl)
  try simp only [Act.put, List.setIfInBounds_toArray, List.set_cons_zero, List.set_cons_succ]
  refine wpAnyH_take (i := 15) (v := ?v12) (by rw [List.getElem?_toArray]; rfl) (by kernel_rfl) (by kernel_rfl) (by kernel_rfl) (by intro _ _ _ h; exact h) (Or.inl ⟨by rfl, ?hy12⟩) (by assumption) ?rest12
  case hy12 => (intro W hSW; (try dsimp only at hSW); go_simp; try with_reducible rfl)
  try simp only [Act.put, List.setIfInBounds_toArray, List.set_cons_zero, List.set_cons_succ]
  refine wpAnyH_take (i := 16) (v := ?v13) (by rw [List.getElem?_toArray]; rfl) (by kernel_rfl) (by kernel_rfl) (by kernel_rfl) (by intro _ _ _ h; exact h) (Or.inl ⟨by rfl, ?hy13⟩) (by assumption) ?rest13
  case hy13 => (intro W hSW; (try dsimp only at hSW); go_simp; try with_reducible rfl)
  try simp only [Act.put, List.setIfInBounds_toArray, List.set_cons_zero, List.set_cons_succ]
  refine wpAnyH_take (i := 17) (v := ?v14) (by rw [List.getElem?_toArray]; rfl) (by kernel_rfl) (by kernel_rfl) (by kernel_rfl) (by intro _ _ _ h; exact h) (Or.inl ⟨by rfl, ?hy14⟩) (by assumption) ?rest14
  case hy14 => (intro W hSW; (try dsimp only at hSW); go_simp; try with_reducible rfl)
  try simp only [Act.put, List.setIfInBounds_toArray, List.set_cons_zero, List.set_cons_succ]
  refine wpAnyH_take (i := 18) (v := ?v15) (by rw [List.getElem?_toArray]; rfl) (by kernel_rfl) (by kernel_rfl) (by kernel_rfl) (by intro _ _ _ h; exact h) (Or.inl ⟨by rfl, ?hy15⟩) (by assumption) ?rest15
  case hy15 => (intro W hSW; (try dsimp only at hSW); go_simp; try with_reducible rfl)
  try simp only [Act.put, List.setIfInBounds_toArray, List.set_cons_zero, List.set_cons_succ]
  refine wpAnyH_ready (rs := [2]) (by kernel_rfl) (by simp) (AllReadyH.cons (by rw [List.getElem?_toArray]; rfl) (fun K hK => ?_) AllReadyH.nil)
  go_simp
  refine (HNe.out _ _ _ _).mono ?_
  rintro e w6 ⟨rfl, hw6⟩
  have hb := (below_new w4.drew (.cells #[.slice (some ⟨g, 0, none⟩) N N] 34)).alloc (by simp) (.cells #[.int .i64 0] 3)
  have HWi := Lib.hid (wipes_new (b := b) sh HLen.out R5.out N HN.out)
  rw [← hw6] at HWi hb
  have B6 := Lib.hid (B5.out.trans (hb.mono B5.out.size))
  have X6 := Lib.hid ((hb.block _ (lt_of_some X5.out)).trans X5.out)
  replace hS := HF.out _ X6.out
  clear hb hw6
  refine hK.out _ _ hS (fun _ => ?_)
  clear hK K
  try simp only [List.setIfInBounds_toArray, List.set_cons_zero, List.set_cons_succ]
  refine wpAnyH_ready (rs := [3]) (by kernel_rfl) (by simp) (AllReadyH.cons (by rw [List.getElem?_toArray]; rfl) (fun K hK => ?_) AllReadyH.nil)
  go_simp
  refine HWi.out.mono ?_
  rintro e w7 ⟨v7, vs7, rfl, ho7, ha7, hb⟩
  have B7 := Lib.hid (B6.out.trans (hb.mono B6.out.size))
  have X7 := Lib.hid ((hb.block _ (lt_of_some X6.out)).trans X6.out)
  have O7 := Lib.hid ho7
  have A7 := Lib.hid ha7
  have L6 := Lib.hid hb.size
  have L0 := Lib.hid B6.out.size
  replace hS := HF.out _ X7.out
  clear hb ho7 ha7
  refine hK.out _ _ hS (fun _ => ?_)
  clear hK K
  try simp only [List.setIfInBounds_toArray, List.set_cons_zero, List.set_cons_succ]
  refine wpAnyH_ready (rs := [9]) (by kernel_rfl) (by simp) (AllReadyH.cons (by rw [List.getElem?_toArray]; rfl) (fun K hK => ?_) AllReadyH.nil)
  go_simp
  refine (HKy.out _).mono ?_
  rintro e _ ⟨rfl, rfl⟩
  refine hK.out _ _ hS (fun _ => ?_)
  clear hK K
  try simp only [List.setIfInBounds_toArray, List.set_cons_zero, List.set_cons_succ]
  refine wpAnyH_ready (rs := [11]) (by kernel_rfl) (by simp) (AllReadyH.cons (by rw [List.getElem?_toArray]; rfl) (fun K hK => ?_) AllReadyH.nil)
  go_simp
  refine (HW1.out _).mono ?_
  rintro e w8 ⟨x1, y1, z1, rfl, hw8, hb⟩
  have C8 := Lib.hid hb
  have B8 := Lib.hid (B7.out.trans (hb.mono B7.out.size))
  have X8 := Lib.hid ((hb.block _ (lt_of_some X7.out)).trans X7.out)
  have D8 := Lib.hid hw8
  replace hS := HF.out _ X8.out
  clear hb hw8
  refine hK.out _ _ hS (fun _ => ?_)
  clear hK K
  try simp only [List.setIfInBounds_toArray, List.set_cons_zero, List.set_cons_succ]
  refine wpAnyH_ready (rs := [19]) (by kernel_rfl) (by simp) (AllReadyH.cons (by rw [List.getElem?_toArray]; rfl) (fun K hK => ?_) AllReadyH.nil)
  go_simp
  refine (HSu.out _ (HG.out.step B8.out)).mono ?_
  rintro e w9 ⟨x2, y2, z2, rfl, hw9, hb⟩
  have C9 := Lib.hid (C8.out.trans (hb.mono C8.out.size))
  have B9 := Lib.hid (B8.out.trans (hb.mono B8.out.size))
  have X9 := Lib.hid ((hb.block _ (lt_of_some X8.out)).trans X8.out)
  have D9 := Lib.hid (D8.out.step hb)
  have E9 := Lib.hid hw9
  replace hS := HF.out _ X9.out
  clear hb hw9
  refine hK.out _ _ hS (fun _ => ?_)
  clear hK K
  try simp only [List.setIfInBounds_toArray, List.set_cons_zero, List.set_cons_succ]
  refine wpAnyH_ready (rs := [20]) (by kernel_rfl) (by simp) (AllReadyH.cons (by rw [List.getElem?_toArray]; rfl) (fun K hK => ?_) AllReadyH.nil)
  go_simp
  have C10 := Lib.hid (C9.out.alloc C9.out.size (Obj.cells #[.func (.func 41) #[.pointer (some ⟨b, 0, none⟩)] #[], .func (.func 82) #[] #[.pointer (some ⟨x1, 0, none⟩), .pointer (some ⟨y1, 0, none⟩), .pointer (some ⟨z1, 0, none⟩)], .func (.func 41) #[.pointer (some ⟨b, 0, none⟩)] #[], .func (.func 86) #[] #[.pointer (some ⟨x2, 0, none⟩), .pointer (some ⟨y2, 0, none⟩), .pointer (some ⟨z2, 0, none⟩)]] 88))
  have cell10 := Lib.hid (cell_row (heap_alloc_new w9 (Obj.cells #[.func (.func 41) #[.pointer (some ⟨b, 0, none⟩)] #[], .func (.func 82) #[] #[.pointer (some ⟨x1, 0, none⟩), .pointer (some ⟨y1, 0, none⟩), .pointer (some ⟨z1, 0, none⟩)], .func (.func 41) #[.pointer (some ⟨b, 0, none⟩)] #[], .func (.func 86) #[] #[.pointer (some ⟨x2, 0, none⟩), .pointer (some ⟨y2, 0, none⟩), .pointer (some ⟨z2, 0, none⟩)]] 88)))
  have X10 := Lib.hid ((heap_alloc_old w9 (Obj.cells #[.func (.func 41) #[.pointer (some ⟨b, 0, none⟩)] #[], .func (.func 82) #[] #[.pointer (some ⟨x1, 0, none⟩), .pointer (some ⟨y1, 0, none⟩), .pointer (some ⟨z1, 0, none⟩)], .func (.func 41) #[.pointer (some ⟨b, 0, none⟩)] #[], .func (.func 86) #[] #[.pointer (some ⟨x2, 0, none⟩), .pointer (some ⟨y2, 0, none⟩), .pointer (some ⟨z2, 0, none⟩)]] 88) _ (lt_of_some X9.out)).trans X9.out)
  replace hS := HF.out _ X10.out
  refine hK.out _ _ hS (fun _ => ?_)
  clear hK K
  try simp only [List.setIfInBounds_toArray, List.set_cons_zero, List.set_cons_succ]
  refine wpAnyH_ready (rs := [21]) (by kernel_rfl) (by simp) (AllReadyH.cons (by rw [List.getElem?_toArray]; rfl) (fun K hK => ?_) AllReadyH.nil)
  have ho10 := MerA.own_at O7.out (fun k hk => C10.out.block k (O7.out.lt k hk).2)
  obtain ⟨v11, w11, hr11, ho11, hg11, _⟩ := app_st w6.heap.size (behind sh 0).length v7 vs7 [.func (.func 41) #[.pointer (some ⟨b, 0, none⟩)] #[], .func (.func 82) #[] #[.pointer (some ⟨x1, 0, none⟩), .pointer (some ⟨y1, 0, none⟩), .pointer (some ⟨z1, 0, none⟩)], .func (.func 41) #[.pointer (some ⟨b, 0, none⟩)] #[], .func (.func 86) #[] #[.pointer (some ⟨x2, 0, none⟩), .pointer (some ⟨y2, 0, none⟩), .pointer (some ⟨z2, 0, none⟩)]] _ (by have := HBh.out; have := HLen.out; simp; omega) (Nat.le_trans L6.out C10.out.size) ho10 w9.heap.size cell10.out (by simp [Value.oneCell'])
  obtain ⟨a11, c11, e11⟩ := own_len ho11
  subst e11
  refine step_run rfl _ _ _ rfl _ w11 hr11 ?_
  have K11 := Lib.hid (row_kinds ho10 hg11)
  have X11 := Lib.hid (K11.out _ _ _ X10.out (by decide))
  have B11 : Hid (Below w.heap.size w w11) := Lib.hid (((B9.out.alloc B9.out.size _).grown hg11 (by simp only [World.size_alloc]; have := B9.out.size; omega) (fun k hk => by have := (O7.out.lt k hk).1; have := L0.out; omega)))
  have H11 := Lib.hid (HH.out.step B11.out)
  have A11 := Lib.hid (wr_grown ho10 hg11 (wr_below A7.out C10.out))
  have D11 := Lib.hid (wrAt_kinds K11.out (D9.out.step (below_new w9 _)))
  have E11 := Lib.hid (suAt_kinds K11.out (E9.out.step (below_new w9 _)))
  have O11 := Lib.hid ho11
  replace hS := HF.out _ X11.out
  clear hr11 hg11 ho10 ho11
  refine hK.out _ _ hS (fun _ => ?_)
  clear hK K
  try simp only [List.setIfInBounds_toArray, List.set_cons_zero, List.set_cons_succ]
  refine wpAnyH_ready (rs := [22]) (by kernel_rfl) (by simp) (AllReadyH.cons (by rw [List.getElem?_toArray]; rfl) (fun K hK => ?_) AllReadyH.nil)
  go_simp
  have dd := D11.out
  rw [← HK1.out] at dd
  have HT := Lib.hid (row_done H11.out O11.out rfl (by have := HBh.out; have := HLen.out; simp; omega) ((behind sh 0).map (fun i => [Ac.wr i (nou 4096)]) ++ [[Ac.fl], [Ac.wr (2 + (gf % 2).toNat) (bb (SloN.blk gf key))], [Ac.fl], superL (sup1 gb gl gf)]) (by rw [List.map_append]; exact (stps_wr H11.out A11.out).app (.cons (stp_fl fr_RD) (.cons (stp_wr fr_RD (stay_RD H11.out dd.d (by decide) (by decide) (.inl (by decide))) (stay_RD H11.out dd.i (by decide) (by decide) (.inl (by decide))) (stay_RD H11.out dd.s (by decide) (by decide) (.inr (show 1 < 8 by decide)))) (.cons (stp_fl fr_RD) (.cons (stp_su fr_RD HM.out (stay_RD H11.out E11.out.d (by decide) (by decide) (.inl (by decide))) (stay_RD H11.out E11.out.u (by decide) (by decide) (.inl (by decide))) (stay_RD H11.out E11.out.t (by decide) (by decide) (.inr (show 1 < 8 by decide)))) .nil))))))
  rw [HFl.out] at HT
  clear dd
  refine HT.out.mono ?_
  rintro e w12 ⟨rfl, hd12⟩
  have D12 := Lib.hid hd12
  replace hS := HF.out _ (did_other H11.out hd12 X11.out (by decide) (by decide) (.inl (by decide)))
  clear hd12
  refine hK.out _ _ hS (fun _ => ?_)
  clear hK K
  try simp only [List.setIfInBounds_toArray, List.set_cons_zero, List.set_cons_succ]
  refine wpAnyH_take (i := 23) (v := ?v16) (by rw [List.getElem?_toArray]; rfl) (by kernel_rfl) (by kernel_rfl) (by kernel_rfl) (by intro _ _ _ h; exact h) (Or.inl ⟨by rfl, ?hy16⟩) (by assumption) ?rest16
  case hy16 => (intro W hSW; (try dsimp only at hSW); go_simp; try with_reducible rfl)
  try simp only [Act.put, List.setIfInBounds_toArray, List.set_cons_zero, List.set_cons_succ]
  refine wpAnyH_done (by kernel_rfl) ?_ _
  go_wp2_with fail
  go_ret
  exact ⟨rfl, Did.then_ H11.out (fun _ => .inl) (.of_below B11.out) D12.out⟩
end Go.Proofs.YtoilcieineejiaaGreatDoor.JouO
