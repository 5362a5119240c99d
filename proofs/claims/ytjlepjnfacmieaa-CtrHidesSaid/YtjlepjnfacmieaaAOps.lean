/- What the cipher's add, and the state's swapped and turned, answer: the walks of their texts. The condition: the cipher's words, or the table, lie in memory. -/
import Derived.Test.YtjlepjnfacmieaaAFill
namespace Go.Proofs.Ytjlepjnfacmieaa.AOps
open Go.RowKit
open AesM ADbl ATab AFill
/-- The words of the cipher in block 'g'. -/
def WordsAt (W : World) (g : Nat) (ws : List UInt8) : Prop := ∀ i, i < 176 → W.cell? ⟨g, 257 + i, none⟩ = some (.int .u8 (ws.getD i 0).toNat)
theorem WordsAt.lt {W : World} {g : Nat} {t : List UInt8} (h : WordsAt W g t) : g < W.heap.size := World.block_lt_of_cell? W _ (h 0 (by omega))
theorem WordsAt.below {W W' : World} {g B : Nat} {t : List UInt8} (h : WordsAt W g t) (hb : Below B W W') (hg : g < B) : WordsAt W' g t := fun i hi => (hb.cell (p := ⟨g, 257 + i, none⟩) hg).trans (h i hi)
theorem WordsAt.step {W W' : World} {g : Nat} {t : List UInt8} (h : WordsAt W g t) (hb : Below W.heap.size W W') : WordsAt W' g t := h.below hb h.lt
set_option maxRecDepth 100000 in
theorem add1 (S C R g i r : Nat) (a b : UInt8) (W : World) (hi : i < 16) (hr : r ≤ 10) (hs : W.cell? ⟨S, i, none⟩ = some (.int .u8 a.toNat)) (hc : W.cell? ⟨C, 0, none⟩ = some (.pointer (some ⟨g, 0, none⟩)))
    (hR : W.cell? ⟨R, 0, none⟩ = some (.int .i64 r)) (hw : W.cell? ⟨g, 257 + (16 * r + i), none⟩ = some (.int .u8 b.toNat)) :
    Calls Try.prog 48 #[.int .i64 i, .pointer (some ⟨S, 0, none⟩), .pointer (some ⟨C, 0, none⟩), .pointer (some ⟨R, 0, none⟩)] W fun e w' => e = .returned (.int .u8 (a ^^^ b).toNat) ∧ ∃ n, w' = W.drewN n := by
  have HX := Lib.hid (x8 a b)
  obtain ⟨m, hm⟩ : ∃ m, m = 16 * r + i := ⟨_, rfl⟩
  rw [← hm] at hw
  have e1 : IntKind.i64.wrap (16 * (r : Int) + (i : Int)) = (m : Int) := by rw [IntWalk.i64_in _ (by omega)]; omega
  have g1 : (m : Int) < 176 := by omega
  have z1 : (0 : Int) ≤ (m : Int) := by omega
  have g2 : (i : Int) < 16 := by omega
  have z2 : (0 : Int) ≤ (i : Int) := by omega
  clear hm
  go_enter Try.func48, Try.ntmps48
  go_wp2_with fail
  go_quiet (fail)
  go_wp2
  go_ret
  rw [HX.out]
  exact ⟨rfl, _, rfl⟩
set_option maxRecDepth 100000 in
theorem swapped1 (T S g o i : Nat) (a b : UInt8) (W : World) (hi : i < 16) (hT : W.cell? ⟨T, 0, none⟩ = some (.pointer (some ⟨g, o, none⟩))) (hs : W.cell? ⟨S, i, none⟩ = some (.int .u8 a.toNat))
    (ht : W.cell? ⟨g, o + a.toNat, none⟩ = some (.int .u8 b.toNat)) :
    Calls Try.prog 49 #[.int .i64 i, .pointer (some ⟨T, 0, none⟩), .pointer (some ⟨S, 0, none⟩)] W fun e w' => e = .returned (.int .u8 b.toNat) ∧ ∃ n, w' = W.drewN n := by
  have ha := a.toNat_lt
  have g1 : (a.toNat : Int) < 256 := by omega
  have z1 : (0 : Int) ≤ (a.toNat : Int) := by omega
  have g2 : (i : Int) < 16 := by omega
  have z2 : (0 : Int) ≤ (i : Int) := by omega
  go_enter Try.func49, Try.ntmps49
  go_wp2_with fail
  go_quiet (fail)
  go_wp2
  go_ret
  exact ⟨rfl, _, rfl⟩
set_option maxRecDepth 100000 in
theorem turned1 (S K i k : Nat) (a : UInt8) (W : World) (hi : i < 16) (hk : k ≤ 3) (hK : W.cell? ⟨K, 0, none⟩ = some (.int .i64 k)) (hs : W.cell? ⟨S, (i + 4 * (i % 4) * k) % 16, none⟩ = some (.int .u8 a.toNat)) :
    Calls Try.prog 50 #[.int .i64 i, .pointer (some ⟨S, 0, none⟩), .pointer (some ⟨K, 0, none⟩)] W fun e w' => e = .returned (.int .u8 a.toNat) ∧ ∃ n, w' = W.drewN n := by
  obtain ⟨m, hm⟩ : ∃ m, m = (i + 4 * (i % 4) * k) % 16 := ⟨_, rfl⟩
  rw [← hm] at hs
  have hkk : k = 0 ∨ k = 1 ∨ k = 2 ∨ k = 3 := by omega
  have e1 : wrap64 (4 * ((i : Int) % 4) * (k : Int)) = ((4 * (i % 4) * k : Nat) : Int) := by
    rcases hkk with rfl | rfl | rfl | rfl <;> (rw [IntWalk.wrap64_in _ ⟨by omega, by omega⟩]; omega)
  have e2 : 4 * (i % 4) * k ≤ 36 := by rcases hkk with rfl | rfl | rfl | rfl <;> omega
  have e : (wrap64 ((i : Int) + wrap64 (4 * ((i : Int) % 4) * (k : Int)))).tmod 16 = (m : Int) := by
    rw [e1, hm]
    generalize 4 * (i % 4) * k = q at *
    rw [IntWalk.wrap64_in _ ⟨by omega, by omega⟩, Int.tmod_eq_emod_of_nonneg (by omega)]
    omega
  have g1 : (m : Int) < 16 := by omega
  have z1 : (0 : Int) ≤ (m : Int) := by omega
  clear hm e1 e2 hkk
  go_enter Try.func50, Try.ntmps50
  go_wp2
  go_ret
  exact ⟨rfl, 0, rfl⟩
/-- The cells of a state in a block. -/
theorem state_cell {W : World} {g : Nat} {s : List UInt8} {ty : TypeId} {f : Nat × Nat} (h : W.heap[g]? = some (.cells (bytesRow s) ty f)) (hl : s.length = 16) (i : Nat) (hi : i < 16) : W.cell? ⟨g, i, none⟩ = some (.int .u8 (s.getD i 0).toNat) :=
  blk_cell h (byte_at s i (by omega))
theorem al4_0 (w : World) (A B C D : Obj) : ((((w.alloc A).alloc B).alloc C).alloc D).heap[w.heap.size]? = some A := by
  rw [heap_alloc_old _ _ (by simp; omega)]; exact alloc3_0 w A B C
theorem al4_1 (w : World) (A B C D : Obj) : ((((w.alloc A).alloc B).alloc C).alloc D).heap[w.heap.size + 1]? = some B := by
  rw [heap_alloc_old _ _ (by simp)]; exact alloc3_1 w A B C
theorem al4_2 (w : World) (A B C D : Obj) : ((((w.alloc A).alloc B).alloc C).alloc D).heap[w.heap.size + 1 + 1]? = some C := by
  rw [heap_alloc_old _ _ (by simp)]; exact alloc3_2 w A B C
theorem al4_3 (w : World) (A B C D : Obj) : ((((w.alloc A).alloc B).alloc C).alloc D).heap[w.heap.size + 1 + 1 + 1]? = some D := by
  have := heap_alloc_new (((w.alloc A).alloc B).alloc C) D
  simpa using this
theorem below_alloc4 (w : World) (A B C D : Obj) : Below w.heap.size w ((((w.alloc A).alloc B).alloc C).alloc D) := (below_alloc3 w A B C).alloc (by simp; omega) _
set_option maxRecDepth 100000 in
/-- What the cipher's add answers. -/
theorem add (g r : Nat) (s ws : List UInt8) (w : World) (hl : s.length = 16) (hw : WordsAt w g ws) (hr : r ≤ 10) :
    Calls Try.prog 41 #[.pointer (some ⟨g, 0, none⟩), .agg (bytesRow s), .int .i64 r] w fun e w' => e = .returned (.agg (bytesRow (addL s ws r))) ∧ Below w.heap.size w w' := by
  have HW := Lib.hid hw
  have HC : Hid (∀ (W : World) (q : Nat) (ty : TypeId) (f : Nat × Nat) (_ : W.heap[q]? = some (.cells (bytesRow s) ty f)) (i : Nat) (_ : i < 16), W.cell? ⟨q, i, none⟩ = some (.int .u8 (s.getD i 0).toNat)) := fun _ _ _ _ h i hi => state_cell h hl i hi
  generalize bytesRow s = cs at *
  have hr' : (r : Int) ≤ 10 := by omega
  have HL := Lib.hid hl
  clear hw hl
  go_enter Try.func41, Try.ntmps41
  go_upto_region 1 with (fail)
  generalize hW : World.alloc (World.alloc (World.alloc (World.alloc w _) _) _) _ = W1
  have f0 : W1.heap[w.heap.size]? = some (.cells #[.pointer (some ⟨g, 0, none⟩)] 46 (0, 0)) := by rw [← hW]; exact al4_0 w _ _ _ _
  have f1 : W1.heap[w.heap.size + 1]? = some (.cells cs 76 (0, 0)) := by rw [← hW]; exact al4_1 w _ _ _ _
  have f2 : W1.heap[w.heap.size + 1 + 1]? = some (.cells #[.int .i64 r] 3 (0, 0)) := by rw [← hW]; exact al4_2 w _ _ _ _
  have f3 : ∃ zs : Array Value, zs.size = 16 ∧ W1.heap[w.heap.size + 1 + 1 + 1]? = some (.cells zs 76 (0, 0)) := ⟨_, rfl, by rw [← hW]; exact al4_3 w _ _ _ _⟩
  have fB : Below w.heap.size w W1 := by rw [← hW]; exact below_alloc4 w _ _ _ _
  have fS : W1.heap.size = w.heap.size + 4 := by rw [← hW]; simp
  clear hW
  obtain ⟨zs, hzs, f3⟩ := f3
  have HF := Lib.hid (AFill.over_add (.pointer (some ⟨w.heap.size + 1, 0, none⟩)) (.pointer (some ⟨w.heap.size, 0, none⟩)) (.pointer (some ⟨w.heap.size + 1 + 1, 0, none⟩)) (fun i => s.getD i 0 ^^^ ws.getD (16 * r + i) 0) W1 (fun i W hi hb => by
    rw [fS] at hb
    exact add1 (w.heap.size + 1) w.heap.size (w.heap.size + 1 + 1) g i r (s.getD i 0) (ws.getD (16 * r + i) 0) W hi hr
      (HC.out _ _ _ _ ((hb.block _ (by omega)).trans f1) i hi) (blk_cell ((hb.block _ (by omega)).trans f0) rfl) (blk_cell ((hb.block _ (by omega)).trans f2) rfl)
      ((HW.out.below (fB.trans (hb.mono (by omega))) HW.out.lt) _ (by omega))))
  have hrl : (bytesRow (addL s ws r)).size = 16 := by rw [bytesRow_size, addL_length]
  have hro := bytes_one (addL s ws r)
  rw [show fillL (fun i => s.getD i 0 ^^^ ws.getD (16 * r + i) 0) = addL s ws r from rfl] at HF
  obtain ⟨rs, hrs⟩ : ∃ rs, rs = bytesRow (addL s ws r) := ⟨_, rfl⟩
  rw [← hrs] at HF hrl hro
  have HR := Lib.hid hrs
  clear hrs
  have F3 := Lib.hid f3
  have FB := Lib.hid fB
  have FS := Lib.hid fS
  have HI := Lib.hid (show (Try.prog.info? 76).map (·.size) = some rs.size by rw [hrl]; exact info16)
  have HZ := Lib.hid (show zs.size = rs.size by rw [hrl, hzs])
  have HO := Lib.hid hro
  clear f0 f1 f2 f3 fB fS hzs hrl hro hr hr' HC
  go_wp2_with (first
    | (go_at_call 47; refine HF.out.mono ?_; rintro e w1 ⟨rfl, hb1⟩; have HB1 := Lib.hid hb1; clear hb1)
    | (refine wpList_store_row rfl 76 _ _ rfl (w.heap.size + 1 + 1 + 1) _ rfl rfl 76 _ ((HB1.out.block _ (by rw [FS.out]; omega)).trans F3.out) HI.out HZ.out HO.out ?_))
  have hb1 := HB1.out
  refine bodyPost_ret (v := .agg rs)
    (results_cell_row Try.results41 _ _ (w.heap.size + 1 + 1 + 1) 76 _ (0, 0) _ rfl (setRow_same ((hb1.block _ (by rw [FS.out]; omega)).trans F3.out)) Try.underlying76 rfl HI.out) rfl
    ⟨by rw [HR.out], below_setRow (FB.out.trans (hb1.mono (by rw [FS.out]; omega))) (by omega) _⟩
set_option maxRecDepth 100000 in
/-- What the state's swapped answers. -/
theorem swapped (g o : Nat) (s t : List UInt8) (w : World) (hl : s.length = 16) (ht : TabAt w g o t) :
    Calls Try.prog 42 #[.agg (bytesRow s), .pointer (some ⟨g, o, none⟩)] w fun e w' => e = .returned (.agg (bytesRow (subL t s))) ∧ Below w.heap.size w w' := by
  have HT := Lib.hid ht
  clear ht
  have HC : Hid (∀ (W : World) (q : Nat) (ty : TypeId) (f : Nat × Nat) (_ : W.heap[q]? = some (.cells (bytesRow s) ty f)) (i : Nat) (_ : i < 16), W.cell? ⟨q, i, none⟩ = some (.int .u8 (s.getD i 0).toNat)) := fun _ _ _ _ h i hi => state_cell h hl i hi
  generalize bytesRow s = cs at *
  have HL := Lib.hid hl
  clear hl
  go_enter Try.func42, Try.ntmps42
  go_upto_region 1 with (fail)
  generalize hW : World.alloc (World.alloc (World.alloc w _) _) _ = W1
  have f0 : W1.heap[w.heap.size]? = some (.cells cs 76 (0, 0)) := by rw [← hW]; exact alloc3_0 w _ _ _
  have f1 : W1.heap[w.heap.size + 1]? = some (.cells #[.pointer (some ⟨g, o, none⟩)] 74 (0, 0)) := by rw [← hW]; exact alloc3_1 w _ _ _
  have f3 : ∃ zs : Array Value, zs.size = 16 ∧ W1.heap[w.heap.size + 1 + 1]? = some (.cells zs 76 (0, 0)) := ⟨_, rfl, by rw [← hW]; exact alloc3_2 w _ _ _⟩
  have fB : Below w.heap.size w W1 := by rw [← hW]; exact below_alloc3 w _ _ _
  have fS : W1.heap.size = w.heap.size + 3 := by rw [← hW]; simp
  clear hW
  obtain ⟨zs, hzs, f3⟩ := f3
  have HF := Lib.hid (AFill.over_swapped (.pointer (some ⟨w.heap.size + 1, 0, none⟩)) (.pointer (some ⟨w.heap.size, 0, none⟩)) (fun i => t.getD (s.getD i 0).toNat 0) W1 (fun i W hi hb => by
    rw [fS] at hb
    exact swapped1 (w.heap.size + 1) w.heap.size g o i (s.getD i 0) (t.getD (s.getD i 0).toNat 0) W hi (blk_cell ((hb.block _ (by omega)).trans f1) rfl)
      (HC.out _ _ _ _ ((hb.block _ (by omega)).trans f0) i hi) ((HT.out.below (fB.trans (hb.mono (by omega))) HT.out.lt) _ (s.getD i 0).toNat_lt)))
  have hrl : (bytesRow (subL t s)).size = 16 := by rw [bytesRow_size, subL_length]
  have hro := bytes_one (subL t s)
  rw [show fillL (fun i => t.getD (s.getD i 0).toNat 0) = subL t s from rfl] at HF
  obtain ⟨rs, hrs⟩ : ∃ rs, rs = bytesRow (subL t s) := ⟨_, rfl⟩
  rw [← hrs] at HF hrl hro
  have HR := Lib.hid hrs
  have F3 := Lib.hid f3
  have FB := Lib.hid fB
  have FS := Lib.hid fS
  have HI := Lib.hid (show (Try.prog.info? 76).map (·.size) = some rs.size by rw [hrl]; exact info16)
  have HZ := Lib.hid (show zs.size = rs.size by rw [hrl, hzs])
  have HO := Lib.hid hro
  clear hrs f0 f1 f3 fB fS hzs hrl hro HC
  go_wp2_with (first
    | (go_at_call 47; refine HF.out.mono ?_; rintro e w1 ⟨rfl, hb1⟩; have HB1 := Lib.hid hb1; clear hb1)
    | (refine wpList_store_row rfl 76 _ _ rfl (w.heap.size + 1 + 1) _ rfl rfl 76 _ ((HB1.out.block _ (by rw [FS.out]; omega)).trans F3.out) HI.out HZ.out HO.out ?_))
  have hb1 := HB1.out
  refine bodyPost_ret (v := .agg rs)
    (results_cell_row Try.results42 _ _ (w.heap.size + 1 + 1) 76 _ (0, 0) _ rfl (setRow_same ((hb1.block _ (by rw [FS.out]; omega)).trans F3.out)) Try.underlying76 rfl HI.out) rfl
    ⟨by rw [HR.out], below_setRow (FB.out.trans (hb1.mono (by rw [FS.out]; omega))) (by omega) _⟩
set_option maxRecDepth 100000 in
/-- What the state's turned answers. -/
theorem turned (k : Nat) (s : List UInt8) (w : World) (hl : s.length = 16) (hk : k ≤ 3) :
    Calls Try.prog 43 #[.agg (bytesRow s), .int .i64 k] w fun e w' => e = .returned (.agg (bytesRow (turnL k s))) ∧ Below w.heap.size w w' := by
  have hk' : (k : Int) ≤ 3 := by omega
  have HC : Hid (∀ (W : World) (q : Nat) (ty : TypeId) (f : Nat × Nat) (_ : W.heap[q]? = some (.cells (bytesRow s) ty f)) (i : Nat) (_ : i < 16), W.cell? ⟨q, i, none⟩ = some (.int .u8 (s.getD i 0).toNat)) := fun _ _ _ _ h i hi => state_cell h hl i hi
  generalize bytesRow s = cs at *
  have HL := Lib.hid hl
  clear hl
  go_enter Try.func43, Try.ntmps43
  go_upto_region 1 with (fail)
  generalize hW : World.alloc (World.alloc (World.alloc w _) _) _ = W1
  have f0 : W1.heap[w.heap.size]? = some (.cells cs 76 (0, 0)) := by rw [← hW]; exact alloc3_0 w _ _ _
  have f1 : W1.heap[w.heap.size + 1]? = some (.cells #[.int .i64 k] 3 (0, 0)) := by rw [← hW]; exact alloc3_1 w _ _ _
  have f3 : ∃ zs : Array Value, zs.size = 16 ∧ W1.heap[w.heap.size + 1 + 1]? = some (.cells zs 76 (0, 0)) := ⟨_, rfl, by rw [← hW]; exact alloc3_2 w _ _ _⟩
  have fB : Below w.heap.size w W1 := by rw [← hW]; exact below_alloc3 w _ _ _
  have fS : W1.heap.size = w.heap.size + 3 := by rw [← hW]; simp
  clear hW
  obtain ⟨zs, hzs, f3⟩ := f3
  have HF := Lib.hid (AFill.over_turned (.pointer (some ⟨w.heap.size, 0, none⟩)) (.pointer (some ⟨w.heap.size + 1, 0, none⟩)) (fun i => s.getD ((i + 4 * (i % 4) * k) % 16) 0) W1 (fun i W hi hb => by
    rw [fS] at hb
    exact turned1 w.heap.size (w.heap.size + 1) i k (s.getD ((i + 4 * (i % 4) * k) % 16) 0) W hi hk (blk_cell ((hb.block _ (by omega)).trans f1) rfl)
      (HC.out _ _ _ _ ((hb.block _ (by omega)).trans f0) _ (Nat.mod_lt _ (by omega)))))
  have hrl : (bytesRow (turnL k s)).size = 16 := by rw [bytesRow_size, turnL_length]
  have hro := bytes_one (turnL k s)
  rw [show fillL (fun i => s.getD ((i + 4 * (i % 4) * k) % 16) 0) = turnL k s from rfl] at HF
  obtain ⟨rs, hrs⟩ : ∃ rs, rs = bytesRow (turnL k s) := ⟨_, rfl⟩
  rw [← hrs] at HF hrl hro
  have HR := Lib.hid hrs
  have F3 := Lib.hid f3
  have FB := Lib.hid fB
  have FS := Lib.hid fS
  have HI := Lib.hid (show (Try.prog.info? 76).map (·.size) = some rs.size by rw [hrl]; exact info16)
  have HZ := Lib.hid (show zs.size = rs.size by rw [hrl, hzs])
  have HO := Lib.hid hro
  clear hrs f0 f1 f3 fB fS hzs hrl hro HC
  go_wp2_with (first
    | (go_at_call 47; refine HF.out.mono ?_; rintro e w1 ⟨rfl, hb1⟩; have HB1 := Lib.hid hb1; clear hb1)
    | (refine wpList_store_row rfl 76 _ _ rfl (w.heap.size + 1 + 1) _ rfl rfl 76 _ ((HB1.out.block _ (by rw [FS.out]; omega)).trans F3.out) HI.out HZ.out HO.out ?_))
  have hb1 := HB1.out
  refine bodyPost_ret (v := .agg rs)
    (results_cell_row Try.results43 _ _ (w.heap.size + 1 + 1) 76 _ (0, 0) _ rfl (setRow_same ((hb1.block _ (by rw [FS.out]; omega)).trans F3.out)) Try.underlying76 rfl HI.out) rfl
    ⟨by rw [HR.out], below_setRow (FB.out.trans (hb1.mono (by rw [FS.out]; omega))) (by omega) _⟩
end Go.Proofs.Ytjlepjnfacmieaa.AOps
