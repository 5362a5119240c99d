/- cell.read, cell.Take, cell.Held: the walks of their texts. No conditions but those that each lemma names. -/
import Derived.Test.YteobimhibhfokaaCelP
import Derived.Test.YteobimhibhfokaaOUnp
import Derived.Test.YteobimhibhfokaaOCut
import Derived.StillTailTactics
namespace Go.Proofs.Yteobimhibhfokaa.CelT
open Go.RowKit
open CelN CelC CelD CelP
theorem own4 {w : World} {base : Nat} {v : Value} {xs : List Value} (h : w.ownsRow base 3 1 v 4 xs) : ∃ g c, v = .slice (some ⟨g, 0, none⟩) 4 c := by
  rcases h.2 with ⟨_, h0⟩ | ⟨g, cap, cur, hv, _⟩
  · omega
  · exact ⟨g, cap, hv⟩
/-- Four cells of a row. -/
theorem cells4 {w : World} {B b : Nat} {x y z u : Int} (h : Row w B (some ⟨b, 0, none⟩) 4 [x, y, z, u]) : w.cell? ⟨b, 0, none⟩ = some (.int .i64 x) ∧ w.cell? ⟨b, 1, none⟩ = some (.int .i64 y) ∧ w.cell? ⟨b, 2, none⟩ = some (.int .i64 z) ∧ w.cell? ⟨b, 3, none⟩ = some (.int .i64 u) := by
  obtain ⟨b', o', e, _, hc⟩ := h.2 (by omega)
  injection e with e
  injection e with e1 e2
  subst e1 e2
  have h0 := hc 0 (by omega)
  have h1 := hc 1 (by omega)
  have h2 := hc 2 (by omega)
  have h3 := hc 3 (by omega)
  exact ⟨h0, h1, h2, h3⟩
/-- What Cut answers. -/
theorem cutted (l a b : List UInt8) (c : Int) (h : cut l = (a, b, c)) (hm : l.length ≤ maxLen) (w : World) :
    Calls Try.prog 34 #[.string ⟨l.toArray⟩] w fun r w' => r = .returned (.tuple #[.string ⟨a.toArray⟩, .string ⟨b.toArray⟩, .int .i64 c]) ∧ Below w.heap.size w w' := by
  have := OCut.any ⟨l.toArray⟩ w (by rw [size_mk]; exact hm)
  rw [show (⟨l.toArray⟩ : ByteArray).data.toList = l from rfl, h] at this
  exact this.mono fun r w' ⟨h1, n, h2⟩ => ⟨h1, h2 ▸ below_drewN _ _⟩
set_option maxRecDepth 100000 in
theorem read_len (s : List UInt8) (w : World) (h : (((s.length : Nat) : Int) == 4096) = false) :
    Calls Try.prog 31 #[.string ⟨s.toArray⟩] w fun r w' => r = .returned (.tuple #[.agg #[.int .i64 0, .int .i64 0, .int .i64 0, .bool false, .string ⟨#[]⟩], .int .i64 3]) ∧ Below w.heap.size w w' := by
  have hz := size_mk s
  go_enter Try.func31, Try.ntmps31
  go_wp2_with (refine wpList_store_row rfl 23 _ _ rfl w.heap.size _ rfl rfl 23 _ (heap_alloc_new w _) infoC rfl (one5 0 0 0 false []) ?_)
  refine bodyPost_ret (v := .tuple #[.agg #[.int .i64 0, .int .i64 0, .int .i64 0, .bool false, .string ⟨#[]⟩], .int .i64 3])
    (results_cell_tmp_row Try.results31 _ _ w.heap.size 23 _ (0, 0) _ rfl (setRow_same (heap_alloc_new w _)) Try.underlying23 rfl infoC) rfl
    ⟨rfl, below_setRow (below_new w _) (Nat.le_refl _) _⟩
theorem tails (s : List UInt8) (h : s.length = 4096) : (∀ W, (Instr.slice 9 (.string ⟨s.toArray⟩) none (some (.int .i64 13)) none).run Try.prog W = .ok (.string ⟨(s.take 13).toArray⟩) W) ∧
    (∀ W, (Instr.slice 9 (.string ⟨s.toArray⟩) (some (.int .i64 13)) none none).run Try.prog W = .ok (.string ⟨(r4 s).toArray⟩) W) := by
  have s0 := fun W => run_slice_string_h (P := Try.prog) (w := W) 9 ⟨s.toArray⟩ Try.underlying9 .i64 13 (by omega) (show (13 : Int) ≤ ((s.length : Nat) : Int) by omega)
  rw [show (⟨s.toArray⟩ : ByteArray).extract 0 (13 : Int).toNat = ⟨(s.take 13).toArray⟩ from ext_at s 0 13] at s0
  have s1 := fun W => run_slice_string_l (P := Try.prog) (w := W) 9 ⟨s.toArray⟩ Try.underlying9 .i64 13 (by omega) (show (13 : Int) ≤ ((s.length : Nat) : Int) by omega)
  rw [show (⟨s.toArray⟩ : ByteArray).extract (13 : Int).toNat (⟨s.toArray⟩ : ByteArray).size = ⟨(r4 s).toArray⟩ from by
    rw [ext_at, size_mk]
    unfold r4
    rw [show (13 : Int).toNat = 13 from rfl, List.take_of_length_le (by simp)]] at s1
  exact ⟨s0, s1⟩
set_option maxRecDepth 100000 in
set_option maxHeartbeats 2000000 in
theorem read_any (s a b : List UInt8) (c k0 k1 k2 k3 : Int) (w : World) (h : s.length = 4096) (hu : unpack [1, 4, 4, 4] (s.take 13) = ([k0, k1, k2, k3], 0)) (hc : cut (r4 s) = (a, b, c)) (g : Bool) (hg : (k0 == 2) = g) (out : Array Value) (ho : (c = 3 ∧ a = [] ∧ out = #[.agg #[.int .i64 0, .int .i64 0, .int .i64 0, .bool false, .string ⟨#[]⟩], .int .i64 3]) ∨ (c = 0 ∧ out = #[.agg #[.int .i64 k1, .int .i64 k2, .int .i64 k3, .bool g, .string ⟨a.toArray⟩], .int .i64 0])) :
    Calls Try.prog 31 #[.string ⟨s.toArray⟩] w fun r w' => r = .returned (.tuple out) ∧ Below w.heap.size w w' := by
  obtain ⟨W1, hW1⟩ : ∃ W1, W1 = w.alloc (.cells #[.int .i64 0, .int .i64 0, .int .i64 0, .bool false, .string ⟨#[]⟩] 23) := ⟨_, rfl⟩
  have KK : Hid (Bk W1 w.heap.size 0 0 0 false []) := Lib.hid (by rw [hW1]; exact heap_alloc_new w _)
  have HB : Hid (Below w.heap.size w W1) := Lib.hid (by rw [hW1]; exact below_new w _)
  have hz := size_mk s
  obtain ⟨s0, s1⟩ := tails s h
  have HU := Lib.hid (fun W (hk : W.heap[W1.heap.size]? = some (.cells #[.int .i64 1, .int .i64 4, .int .i64 4, .int .i64 4] 3 (0, 0))) => OUnp.any (some ⟨W1.heap.size, 0, none⟩) 4 4 [1, 4, 4, 4] (s.take 13) W (row4 hk) (by omega) (by simp [maxLen]; omega))
  rw [hu] at HU
  have HC := Lib.hid (fun W => cutted (r4 s) a b c hc (by have := (r_len h).2.2.2.2; rw [this]; unfold maxLen; omega) W)
  clear hu hc
  generalize s.take 13 = p at *
  generalize r4 s = q at *
  go_enter Try.func31, Try.ntmps31
  go_upto_region 1 with (fail)
  rw [← hW1]
  clear hW1
  go_upto_region 3 with (fail)
  have hS : True := trivial
  go_region_held3 (fun _ => True)
    (exact trivial)
    (first
      | (go_at_call 22; refine (widths _).mono ?_; rintro r w2 ⟨rfl, hk2, hb2⟩; have HB2 := Lib.hid hb2; have HK2 := Lib.hid hk2; clear hb2 hk2)
      | (go_at_call 40; refine (HU.out _ HK2.out).mono ?_; rintro r w3 ⟨v, rfl, hown, hb3⟩; obtain ⟨va, vc, rfl⟩ := own4 hown; have HB3 := Lib.hid hb3; have HO := Lib.hid (cells4 (row_own (l := [k0, k1, k2, k3]) hown)); clear hb3 hown))
  have hb := (HB.out.drew.trans (HB2.out.mono HB.out.size)).trans (HB3.out.mono (Nat.le_trans HB.out.size HB2.out.size))
  have hk := KK.out.drew.step (HB2.out.trans (HB3.out.mono HB2.out.size))
  have HBe := Lib.hid hb
  have KKe := Lib.hid hk
  clear hb hk HB HB2 HB3 HK2 HU s0 KK
  go_upto_region 5 with (go_at_call 34; refine (HC.out _).mono ?_; rintro r w4 ⟨rfl, hb4⟩; have HB4 := Lib.hid (HBe.out.trans (hb4.mono HBe.out.size)); have KK4 := Lib.hid (KKe.out.step hb4); have H34 := Lib.hid hb4; clear hb4)
  clear HBe KKe HC
  rcases ho with ⟨rfl, rfl, rfl⟩ | ⟨rfl, rfl⟩
  · clear HO H34 hg
    go_wp2_with (refine wpList_store_row rfl 23 _ _ rfl w.heap.size _ rfl rfl 23 _ KK4.out infoC rfl (one5 0 0 0 false []) ?_)
    refine bodyPost_ret (v := .tuple #[.agg #[.int .i64 0, .int .i64 0, .int .i64 0, .bool false, .string ⟨#[]⟩], .int .i64 3])
      (results_cell_tmp_row Try.results31 _ _ w.heap.size 23 _ (0, 0) _ rfl (setRow_same KK4.out) Try.underlying23 rfl infoC) rfl
      ⟨rfl, below_setRow HB4.out (Nat.le_refl _) _⟩
  · go_upto_region 7 with (fail)
    have hlt := World.block_lt_of_cell? w3 _ HO.out.1
    have c0 := (H34.out.cell (p := ⟨va, 0, none⟩) hlt).trans HO.out.1
    have c1 := (H34.out.cell (p := ⟨va, 1, none⟩) hlt).trans HO.out.2.1
    have c2 := (H34.out.cell (p := ⟨va, 2, none⟩) hlt).trans HO.out.2.2.1
    have c3 := (H34.out.cell (p := ⟨va, 3, none⟩) hlt).trans HO.out.2.2.2
    clear H34 HO hlt
    refine wp_region_still_tail 14 (by kernel_rfl) (by kernel_rfl) ?_
    simp only [List.take_succ_cons, List.take_zero, List.drop_succ_cons, List.drop_zero]
    change wpStill _ _ w4.drew _ _ _
    repeat still_step
    refine wpStill_nil ?_
    clear hg
    go_wp2_with (refine wpList_store_row rfl 23 _ _ rfl w.heap.size _ rfl rfl 23 _ KK4.out.drew infoC rfl (one5 k1 k2 k3 g a) ?_)
    refine bodyPost_ret (v := .tuple #[.agg #[.int .i64 k1, .int .i64 k2, .int .i64 k3, .bool g, .string ⟨a.toArray⟩], .int .i64 0])
      (results_cell_tmp_row Try.results31 _ _ w.heap.size 23 _ (0, 0) _ rfl (setRow_same KK4.out.drew) Try.underlying23 rfl infoC) rfl
      ⟨rfl, below_setRow HB4.out.drew (Nat.le_refl _) _⟩
/-- What cell.read answers. -/
theorem read (s : List UInt8) (w : World) :
    Calls Try.prog 31 #[.string ⟨s.toArray⟩] w fun r w' => r = .returned (.tuple #[.agg #[.int .i64 ((readOf s).1).ep, .int .i64 ((readOf s).1).sl, .int .i64 ((readOf s).1).lb, .bool ((readOf s).1).gn, .string ⟨((readOf s).1).ci.toArray⟩], .int .i64 (readOf s).2]) ∧ Below w.heap.size w w' := by
  by_cases h : s.length = 4096
  · have hu := unpack_read h
    by_cases hr : readable s
    · rw [read_yes hr]
      exact read_any s (cut (r4 s)).1 (cut (r4 s)).2.1 0 _ _ _ _ w h hu (by rw [← hr.2]) (isGone s) rfl _ (.inr ⟨rfl, rfl⟩)
    · rw [read_no hr]
      have hc := cut_no (fun hh => hr ⟨h, hh⟩)
      exact read_any s [] [] 3 _ _ _ _ w h hu hc _ rfl _ (.inl ⟨rfl, rfl, rfl⟩)
  · rw [read_no (fun hh => h hh.1)]
    exact read_len s w (by rw [beq_eq_false_iff_ne]; omega)
/-- What stands while Take runs: what was stays, the result's block. -/
structure Tk (w W : World) : Prop where
  bel : Below w.heap.size w W
  k : Bk W w.heap.size 0 0 0 false []
theorem tk_new (w : World) : Tk w (w.alloc (.cells #[.int .i64 0, .int .i64 0, .int .i64 0, .bool false, .string ⟨#[]⟩] 23)) := ⟨below_new w _, heap_alloc_new w _⟩
theorem Tk.step {w W W' : World} (h : Tk w W) (hb : Below W.heap.size W W') : Tk w W' := ⟨h.bel.trans (hb.mono h.bel.size), h.k.step hb⟩
set_option maxRecDepth 100000 in
theorem Take_no (s : List UInt8) (hr : readOf s = (nil_, 3)) (w : World) :
    Calls Try.prog 14 #[.string ⟨s.toArray⟩] w fun r w' => r = .returned (.tuple #[.agg #[.int .i64 0, .int .i64 0, .int .i64 0, .bool false, .string ⟨#[]⟩], .int .i64 3]) ∧ Below w.heap.size w w' := by
  obtain ⟨W1, hW1⟩ : ∃ W1, W1 = w.alloc (.cells #[.int .i64 0, .int .i64 0, .int .i64 0, .bool false, .string ⟨#[]⟩] 23) := ⟨_, rfl⟩
  have TT : Hid (Tk w W1) := Lib.hid (by rw [hW1]; exact tk_new w)
  have HR := Lib.hid (fun W => read s W)
  rw [hr] at HR
  go_enter Try.func14, Try.ntmps14
  go_upto_region 1 with (fail)
  rw [← hW1]
  clear hW1
  go_upto_region 2 with (first
    | (go_at_call 31; refine (HR.out _).mono ?_; rintro r w2 ⟨rfl, hb2⟩; replace TT := Lib.hid (TT.out.step hb2); clear hb2)
    | (refine wpList_store_row rfl 23 _ _ rfl w2.heap.size _ rfl rfl 23 _ (heap_alloc_new w2 _) infoC rfl (one5 0 0 0 false []) ?_))
  generalize hW3 : World.setRow (World.alloc w2 _) _ _ = W3
  replace TT : Hid (Tk w W3) := Lib.hid (by rw [← hW3]; exact TT.out.step (kept_new _ _ _ _))
  clear hW3
  go_wp2_with (refine wpList_store_row rfl 23 _ _ rfl w.heap.size _ rfl rfl 23 _ TT.out.k infoC rfl (one5 0 0 0 false []) ?_)
  refine bodyPost_ret (v := .tuple #[.agg #[.int .i64 0, .int .i64 0, .int .i64 0, .bool false, .string ⟨#[]⟩], .int .i64 3])
    (results_cell_tmp_row Try.results14 _ _ w.heap.size 23 _ (0, 0) _ rfl (setRow_same TT.out.k) Try.underlying23 rfl infoC) rfl
    ⟨rfl, below_setRow TT.out.bel (Nat.le_refl _) _⟩
set_option maxRecDepth 100000 in
theorem Take_any (s : List UInt8) (ep sl lb : Int) (gn : Bool) (ci : List UInt8) (p : List UInt8) (c : Int) (hr : readOf s = (⟨ep, sl, lb, gn, ci⟩, 0)) (hp : put_ ⟨ep, sl, lb, gn, ci⟩ = (p, c)) (w : World) (out : Array Value) (hn : ((p == s) = false ∧ out = #[.agg #[.int .i64 0, .int .i64 0, .int .i64 0, .bool false, .string ⟨#[]⟩], .int .i64 3]) ∨ (p = s ∧ out = #[.agg #[.int .i64 ep, .int .i64 sl, .int .i64 lb, .bool gn, .string ⟨ci.toArray⟩], .int .i64 0])) :
    Calls Try.prog 14 #[.string ⟨s.toArray⟩] w fun r w' => r = .returned (.tuple out) ∧ Below w.heap.size w w' := by
  obtain ⟨W1, hW1⟩ : ∃ W1, W1 = w.alloc (.cells #[.int .i64 0, .int .i64 0, .int .i64 0, .bool false, .string ⟨#[]⟩] 23) := ⟨_, rfl⟩
  have TT : Hid (Tk w W1) := Lib.hid (by rw [hW1]; exact tk_new w)
  have HR := Lib.hid (fun W => read s W)
  rw [hr] at HR
  have HP := Lib.hid (fun W => Put ep sl lb gn ci W)
  rw [hp] at HP
  clear hr hp
  go_enter Try.func14, Try.ntmps14
  go_upto_region 1 with (fail)
  rw [← hW1]
  clear hW1
  go_upto_region 2 with (first
    | (go_at_call 31; refine (HR.out _).mono ?_; rintro r w2 ⟨rfl, hb2⟩; replace TT := Lib.hid (TT.out.step hb2); clear hb2)
    | (refine wpList_store_row rfl 23 _ _ rfl w2.heap.size _ rfl rfl 23 _ (heap_alloc_new w2 _) infoC rfl (one5 ep sl lb gn ci) ?_))
  generalize hW3 : World.setRow (World.alloc w2 _) _ _ = W3
  replace TT : Hid (Tk w W3) := Lib.hid (by rw [← hW3]; exact TT.out.step (kept_new _ _ _ _))
  have KK : Hid (Bk W3 w2.heap.size ep sl lb gn ci) := Lib.hid (by rw [← hW3]; exact has_new _ _ _ _)
  clear hW3
  generalize w2.heap.size = X at *
  obtain ⟨k0, k1, k2, k3, k4⟩ := KK.out.cells
  rcases hn with ⟨hn, rfl⟩ | ⟨rfl, rfl⟩
  · go_wp2_with (first
      | (go_at_call 8; refine (HP.out _).mono ?_; rintro r w4 ⟨rfl, hb4⟩; replace TT := Lib.hid (TT.out.step hb4); clear hb4 k0 k1 k2 k3 k4)
      | (refine wpList_store_row rfl 23 _ _ rfl w.heap.size _ rfl rfl 23 _ TT.out.k infoC rfl (one5 0 0 0 false []) ?_))
    refine bodyPost_ret (v := .tuple #[.agg #[.int .i64 0, .int .i64 0, .int .i64 0, .bool false, .string ⟨#[]⟩], .int .i64 3])
      (results_cell_tmp_row Try.results14 _ _ w.heap.size 23 _ (0, 0) _ rfl (setRow_same TT.out.k) Try.underlying23 rfl infoC) rfl
      ⟨rfl, below_setRow TT.out.bel (Nat.le_refl _) _⟩
  · go_wp2_with (first
      | (go_at_call 8; refine (HP.out _).mono ?_; rintro r w4 ⟨rfl, hb4⟩; replace TT := Lib.hid (TT.out.step hb4); replace KK := Lib.hid (KK.out.step hb4); clear hb4 k0 k1 k2 k3 k4; obtain ⟨k0, k1, k2, k3, k4⟩ := KK.out.cells)
      | (refine wpList_store_row rfl 23 _ _ rfl w.heap.size _ rfl rfl 23 _ TT.out.k infoC rfl (one5 ep sl lb gn ci) ?_))
    refine bodyPost_ret (v := .tuple #[.agg #[.int .i64 ep, .int .i64 sl, .int .i64 lb, .bool gn, .string ⟨ci.toArray⟩], .int .i64 0])
      (results_cell_tmp_row Try.results14 _ _ w.heap.size 23 _ (0, 0) _ rfl (setRow_same TT.out.k) Try.underlying23 rfl infoC) rfl
      ⟨rfl, below_setRow TT.out.bel (Nat.le_refl _) _⟩
/-- What cell.Take answers. -/
theorem Take (s : List UInt8) (w : World) :
    Calls Try.prog 14 #[.string ⟨s.toArray⟩] w fun r w' => r = .returned (.tuple #[.agg #[.int .i64 ((take s).1).ep, .int .i64 ((take s).1).sl, .int .i64 ((take s).1).lb, .bool ((take s).1).gn, .string ⟨((take s).1).ci.toArray⟩], .int .i64 (take s).2]) ∧ Below w.heap.size w w' := by
  by_cases hr : readable s
  · by_cases hs : good s
    · rw [take_yes hs]
      exact Take_any s _ _ _ _ _ _ _ (read_yes hr) (put_take hs) w _ (.inr ⟨rfl, rfl⟩)
    · rw [take_no hs]
      have hne : ¬ (put_ (rd s)).1 = s := fun hh => hs ((again_good hr).1 hh)
      exact Take_any s _ _ _ _ _ _ _ (read_yes hr) rfl w _ (.inl ⟨beq_eq_false_iff_ne.2 hne, rfl⟩)
  · rw [take_no (fun hs => hr hs.1)]
    exact Take_no s (read_no hr) w
end Go.Proofs.Yteobimhibhfokaa.CelT
