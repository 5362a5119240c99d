/- SupP SupE: one behind the other. -/
import Derived.Test.YtoilcieineejiaaGreatDoorLSud
import Derived.Test.YtoilcieineejiaaGreatDoorLPut
import Derived.Test.YtoilcieineejiaaGreatDoorLGeq
import Derived.Test.YtoilcieineejiaaGreatDoorLHash
import Derived.Test.YtoilcieineejiaaGreatDoorOFill
import Derived.Laws.ResultCell
/- super.Put: the walk of its text. The condition: that the least and the most numbers, and the rounds' numbers, lie in the program's variables. -/
namespace Go.Proofs.YtoilcieineejiaaGreatDoor.SupP
open Go.RowKit
open GeoN GeoC GeoS SupN SupC SupD STurn
open GeoP (lt_of_some)
/-- Four ints in a block as a row. -/
theorem row4 {w : World} {g : Nat} {t : TypeId} {f : Nat × Nat} {a b c d : Int} (h : w.heap[g]? = some (.cells #[.int .i64 a, .int .i64 b, .int .i64 c, .int .i64 d] t f)) : Row w w.heap.size (some ⟨g, 0, none⟩) 4 [a, b, c, d] :=
  ⟨rfl, fun _ => ⟨g, 0, rfl, (Array.getElem?_eq_some_iff.1 h).1, fun i hi => by
    rw [Nat.zero_add]
    match i, hi with
    | 0, _ => exact blk_cell h rfl
    | 1, _ => exact blk_cell h rfl
    | 2, _ => exact blk_cell h rfl
    | 3, _ => exact blk_cell h rfl⟩⟩
/-- The program's variables: the two of shapes, the rounds' numbers. -/
structure Gl (w : World) : Prop where
  bn : Bnd w
  rd : Rds w
theorem Gl.step {w w' : World} (h : Gl w) (hb : Below w.heap.size w w') : Gl w' := ⟨h.bn.step hb, h.rd.step hb⟩
theorem told_eq (n m : List UInt8) : (⟨#[107, 101, 101, 112, 115, 97, 107, 101, 49]⟩ : ByteArray) ++ ⟨n.toArray⟩ ++ ⟨m.toArray⟩ = ⟨(SupN.mark ++ n ++ m).toArray⟩ := by
  rw [show (⟨#[107, 101, 101, 112, 115, 97, 107, 101, 49]⟩ : ByteArray) = ⟨SupN.mark.toArray⟩ from rfl, GeoQ.mk_append, GeoQ.mk_append]
theorem blk_of {x : Sb} {hd : List UInt8} (h : head x = hd) : blk x = hd ++ sum hd ++ List.replicate 4019 0 := by rw [← h]; rfl
/-- What Fill answers of what is told and its sum. -/
theorem filled (hd : List UInt8) (h : hd.length = 45) (w : World) :
    Calls Tryz.prog 76 #[.string (⟨hd.toArray⟩ ++ ⟨(sum hd).toArray⟩), .int .i64 4096] w fun r w' => r = .returned (.tuple #[.string ⟨(hd ++ sum hd ++ List.replicate 4019 0).toArray⟩, .int .i64 0]) ∧ Below w.heap.size w w' := by
  have := OFill.any (⟨hd.toArray⟩ ++ ⟨(sum hd).toArray⟩) 4096 w
  rw [GeoQ.mk_append] at this
  have hz : (⟨(hd ++ sum hd).toArray⟩ : ByteArray).size = 77 := by rw [GeoQ.size_mk, List.length_append, h, sum_length]
  have e := fill_good ⟨(hd ++ sum hd).toArray⟩ 4019 (by omega)
  rw [hz] at e
  rw [show ((77 + 4019 : Nat) : Int) = 4096 from rfl] at e
  rw [e, GeoQ.mk_append] at this
  rw [GeoQ.mk_append]
  exact this
/-- What Sum answers of one text, behind its row's making. -/
theorem summed (hd : List UInt8) (h : hd.length = 45) (w : World) (hr : Rds w) :
    Calls Tryz.prog 77 #[.slice (some ⟨w.heap.size, 0, none⟩) 1 1] (w.alloc (.cells #[.string ⟨hd.toArray⟩] 9)) fun r w' => r = .returned (.string ⟨(sum hd).toArray⟩) ∧ Below w.heap.size w w' := by
  have hb : Below w.heap.size w (w.alloc (.cells #[.string ⟨hd.toArray⟩] 9)) := (Below.refl _ _).alloc (Nat.le_refl _) _
  have hs : SSum.Strs (w.alloc (.cells #[.string ⟨hd.toArray⟩] 9)) (w.alloc (.cells #[.string ⟨hd.toArray⟩] 9)).heap.size (some ⟨w.heap.size, 0, none⟩) 1 [hd] :=
    ⟨rfl, fun _ => ⟨_, _, rfl, by simp, fun i hi => by
      obtain rfl : i = 0 := by omega
      exact blk_cell (heap_alloc_new w _) rfl⟩⟩
  have := SSum.sums _ 1 1 [hd] _ hs (hr.step hb) (by simp [h]) (by omega)
  rw [show [hd].flatten = hd from by simp] at this
  exact this.mono fun r w' ⟨h1, h2⟩ => ⟨h1, hb.trans (h2.mono hb.size)⟩
set_option maxRecDepth 100000 in
set_option maxHeartbeats 400000 in
theorem Put_yes (g t e k b l f : Int) (w : World) (hb : Gl w) (hm : may ⟨g, t, e, k, b, l, f⟩) :
    Calls Tryz.prog 85 #[.agg #[.int .i64 g, .int .i64 t, .int .i64 e, .int .i64 k, .int .i64 b, .int .i64 l, .int .i64 f]] w fun r w' => r = .returned (.tuple #[.string ⟨(blk ⟨g, t, e, k, b, l, f⟩).toArray⟩, .int .i64 0]) ∧ Below w.heap.size w w' := by
  obtain ⟨W1, hW1⟩ : ∃ W1, W1 = w.alloc (.cells #[.int .i64 g, .int .i64 t, .int .i64 e, .int .i64 k, .int .i64 b, .int .i64 l, .int .i64 f] 53) := ⟨_, rfl⟩
  have GG := Lib.hid hb
  have SS : Hid (Ws w g t e k b l f W1) := Lib.hid (by rw [hW1]; exact st_new g t e k b l f hb.bn)
  obtain ⟨k0, k1, k2, k3, k4, k5, k6⟩ := SS.out.k.cells
  have HC := Lib.hid (fun W h => Check g t e k b l f W h)
  rw [check_yes hm] at HC
  have HL := Lib.hid (pack_may hm)
  have HG := Lib.hid (fun W h => GeoP.Put b l f W h)
  rw [GeoP.put_yes hm.1] at HG
  have HH : Hid (head ⟨g, t, e, k, b, l, f⟩ = SupN.mark ++ nums ⟨g, t, e, k, b, l, f⟩ ++ bytes3 b l f) := rfl
  have HHL := Lib.hid (head_len ⟨g, t, e, k, b, l, f⟩)
  have HE : Hid (blk ⟨g, t, e, k, b, l, f⟩ = head ⟨g, t, e, k, b, l, f⟩ ++ sum (head ⟨g, t, e, k, b, l, f⟩) ++ List.replicate 4019 0) := rfl
  have hn := nums_len ⟨g, t, e, k, b, l, f⟩
  have hl := bytes_len b l f
  generalize nums ⟨g, t, e, k, b, l, f⟩ = n at *
  generalize bytes3 b l f = m at *
  generalize blk ⟨g, t, e, k, b, l, f⟩ = bk at *
  generalize head ⟨g, t, e, k, b, l, f⟩ = hd at *
  clear hm
  go_enter Tryz.func85, Tryz.ntmps85
  go_upto_region 1 with (fail)
  rw [← hW1]
  clear hW1 hb
  go_upto_region 4 with (first
    | (go_at_call 118; refine (HC.out _ SS.out.bn).mono ?_; rintro r w2 ⟨rfl, hb2⟩; replace SS := Lib.hid (SS.out.step hb2); clear hb2 k0 k1 k2 k3 k4 k5 k6))
  replace SS := Lib.hid SS.out.drew
  have hS := SS.out.k.cells
  have S0 : Hid (Ws w g t e k b l f (w2.drew.alloc (.cells #[.int .i64 g, .int .i64 t, .int .i64 e, .int .i64 k] 3))) := Lib.hid (SS.out.step ((Below.refl _ _).alloc (Nat.le_refl _) _))
  have N0 : Hid ((w2.drew.alloc (.cells #[.int .i64 g, .int .i64 t, .int .i64 e, .int .i64 k] 3)).heap[w2.heap.size]? = some (.cells #[.int .i64 g, .int .i64 t, .int .i64 e, .int .i64 k] 3 (0, 0))) := Lib.hid (heap_alloc_new w2.drew _)
  have Z0 : Hid ((w2.drew.alloc (.cells #[.int .i64 g, .int .i64 t, .int .i64 e, .int .i64 k] 3)).heap.size = w2.heap.size + 1) := Lib.hid (by simp)
  have hS0 := S0.out.k.cells
  go_region_held3 (fun w' => w'.cell? ⟨w.heap.size, 0, none⟩ = some (.int .i64 g) ∧ w'.cell? ⟨w.heap.size, 1, none⟩ = some (.int .i64 t) ∧ w'.cell? ⟨w.heap.size, 2, none⟩ = some (.int .i64 e) ∧ w'.cell? ⟨w.heap.size, 3, none⟩ = some (.int .i64 k) ∧ w'.cell? ⟨w.heap.size, 4, none⟩ = some (.int .i64 b) ∧ w'.cell? ⟨w.heap.size, 5, none⟩ = some (.int .i64 l) ∧ w'.cell? ⟨w.heap.size, 6, none⟩ = some (.int .i64 f))
    (first | exact hS | exact hS1 | exact hS0)
    (first
      | (go_at_call 120; refine (widths _).mono ?_; rintro r w5 ⟨rfl, hk5, hb5⟩; have S5 := Lib.hid (SS.out.step hb5); have hS := S5.out.k.cells; have K5 := Lib.hid hk5; have S1 : Hid (Ws w g t e k b l f (w5.alloc (.cells #[.int .i64 g, .int .i64 t, .int .i64 e, .int .i64 k] 3))) := Lib.hid (S5.out.step ((Below.refl _ _).alloc (Nat.le_refl _) _)); have N1 : Hid (Row (w5.alloc (.cells #[.int .i64 g, .int .i64 t, .int .i64 e, .int .i64 k] 3)) (w5.alloc (.cells #[.int .i64 g, .int .i64 t, .int .i64 e, .int .i64 k] 3)).heap.size (some ⟨w5.heap.size, 0, none⟩) 4 [g, t, e, k]) := Lib.hid (row4 (heap_alloc_new w5 _)); have R1 : Hid (Row (w5.alloc (.cells #[.int .i64 g, .int .i64 t, .int .i64 e, .int .i64 k] 3)) (w5.alloc (.cells #[.int .i64 g, .int .i64 t, .int .i64 e, .int .i64 k] 3)).heap.size (some ⟨w2.heap.size, 0, none⟩) 4 [8, 4, 4, 8]) := Lib.hid (row4 ((Below.heap_alloc _ _ _ (lt_of_some hk5)).trans hk5)); have hS1 := S1.out.k.cells; clear hb5 hk5)
      | (go_at_call 120; refine (widths _).mono ?_; rintro r w5 ⟨rfl, hk5, hb5⟩; have S1 : Hid (Ws w g t e k b l f w5) := Lib.hid (S0.out.step hb5); have R1 : Hid (Row w5 w5.heap.size (some ⟨w2.heap.size + 1, 0, none⟩) 4 [8, 4, 4, 8]) := Lib.hid (row4 (Z0.out ▸ hk5)); have N1 : Hid (Row w5 w5.heap.size (some ⟨w2.heap.size, 0, none⟩) 4 [g, t, e, k]) := Lib.hid (row4 ((hb5.block _ (lt_of_some N0.out)).trans N0.out)); have hS := S1.out.k.cells; clear hb5 hk5)
      | (go_at_call 119; refine (OPack.any _ _ _ _ _ _ _ _ _ R1.out N1.out (by omega)).mono ?_; rw [HL.out]; rintro r w6 ⟨rfl, hb6⟩; have S6 := Lib.hid (S1.out.step hb6); have hS := S6.out.k.cells; clear hb6))
  all_goals
    clear S0 N0 Z0 hS0
    obtain ⟨k0, k1, k2, k3, k4, k5, k6⟩ := hS
    go_upto_region 7 with (first
      | (go_at_call 121; refine (HG.out _ S6.out.bn).mono ?_; rintro r w7 ⟨rfl, hb7⟩; have S7 := Lib.hid (S6.out.step hb7); clear hb7 k0 k1 k2 k3 k4 k5 k6))
    rw [told_eq, ← HH.out]
    have HF := Lib.hid (fun W => filled hd HHL.out W)
    rw [← HE.out] at HF
    have HS := Lib.hid (fun W (h : Rds W) => summed hd HHL.out W h)
    have hs := sum_length hd
    have hh := HHL.out
    clear HC HG HL hn hl HH HHL HE
    generalize sum hd = sm at *
    go_wp2_with (first
      | (go_at_call 77; refine (HS.out _ (GG.out.rd.step S7.out.bel)).mono ?_; rintro r w8 ⟨rfl, hb8⟩; have H8 := Lib.hid (S7.out.bel.trans (hb8.mono S7.out.bel.size)); clear hb8)
      | (go_at_call 76; refine (HF.out _).mono ?_; rintro r w9 ⟨rfl, hb9⟩; have H9 := Lib.hid (H8.out.trans (hb9.mono H8.out.size)); clear hb9))
    go_ret2
    exact ⟨rfl, H9.out⟩
set_option maxRecDepth 100000 in
theorem Put_no (g t e k b l f : Int) (w : World) (hb : Gl w) (hm : ¬ may ⟨g, t, e, k, b, l, f⟩) :
    Calls Tryz.prog 85 #[.agg #[.int .i64 g, .int .i64 t, .int .i64 e, .int .i64 k, .int .i64 b, .int .i64 l, .int .i64 f]] w fun r w' => r = .returned (.tuple #[.string ⟨#[]⟩, .int .i64 2]) ∧ Below w.heap.size w w' := by
  obtain ⟨W1, hW1⟩ : ∃ W1, W1 = w.alloc (.cells #[.int .i64 g, .int .i64 t, .int .i64 e, .int .i64 k, .int .i64 b, .int .i64 l, .int .i64 f] 53) := ⟨_, rfl⟩
  have SS : Hid (Ws w g t e k b l f W1) := Lib.hid (by rw [hW1]; exact st_new g t e k b l f hb.bn)
  obtain ⟨k0, k1, k2, k3, k4, k5, k6⟩ := SS.out.k.cells
  have HC := Lib.hid (fun W h => Check g t e k b l f W h)
  rw [check_no hm] at HC
  clear hm
  go_enter Tryz.func85, Tryz.ntmps85
  go_upto_region 1 with (fail)
  rw [← hW1]
  clear hW1 hb
  go_wp2_with (first
    | (go_at_call 118; refine (HC.out _ SS.out.bn).mono ?_; rintro r w2 ⟨rfl, hb2⟩; replace SS := Lib.hid (SS.out.step hb2); clear hb2))
  go_ret2
  exact ⟨rfl, SS.out.bel⟩
/-- What super.Put answers. -/
theorem Put (g t e k b l f : Int) (w : World) (hb : Gl w) :
    Calls Tryz.prog 85 #[.agg #[.int .i64 g, .int .i64 t, .int .i64 e, .int .i64 k, .int .i64 b, .int .i64 l, .int .i64 f]] w fun r w' => r = .returned (.tuple #[.string ⟨(put_ ⟨g, t, e, k, b, l, f⟩).1.toArray⟩, .int .i64 (put_ ⟨g, t, e, k, b, l, f⟩).2]) ∧ Below w.heap.size w w' := by
  by_cases hm : may ⟨g, t, e, k, b, l, f⟩
  · rw [SupN.put_yes hm]; exact Put_yes g t e k b l f w hb hm
  · rw [SupN.put_no hm]; exact Put_no g t e k b l f w hb hm
end Go.Proofs.YtoilcieineejiaaGreatDoor.SupP
/- super.Next: the walk of its text. The condition: that the least and the most numbers lie in the program's two variables. -/
namespace Go.Proofs.YtoilcieineejiaaGreatDoor.SupE
open Go.RowKit
open GeoN GeoC GeoS SupN SupC SupD
/-- Results of which the first is a struct in a cell. -/
theorem results_cell_tmp_row {P : Program} {fn : Func} {p u : Tmp} {ty : TypeId} (h : fn.results = #[.cell p ty, .tmp u]) (tmps : Array Value) (w : World) (g : Nat) (t : TypeId) (cs : Array Value) (fr : Nat × Nat) (d : TypeDesc)
    (hp : tmps.getD p undef = .pointer (some ⟨g, 0, none⟩)) (hg : w.heap[g]? = some (.cells cs t fr))
    (hu : P.underlying ty = some d) (hd : (match d with | .struct _ | .array _ _ => true | _ => false) = true) (hi : (P.info? ty).map (·.size) = some cs.size) :
    (results fn tmps).run P w = .ok (.tuple #[.agg cs, tmps.getD u undef]) w := by
  rw [results_cell_tmp h, hp]
  simp [asAddr, run_loadVar_row w g t ty cs fr d hg hu hd hi]
set_option maxRecDepth 100000 in
theorem Next_no (g t e k b l f : Int) (w : World) (hb : Bnd w) (hm : ¬ may ⟨g, t, e, k, b, l, f⟩) :
    Calls Tryz.prog 127 #[.agg #[.int .i64 g, .int .i64 t, .int .i64 e, .int .i64 k, .int .i64 b, .int .i64 l, .int .i64 f]] w fun r w' => r = .returned (.tuple #[.agg #[.int .i64 0, .int .i64 0, .int .i64 0, .int .i64 0, .int .i64 0, .int .i64 0, .int .i64 0], .int .i64 2]) ∧ Below w.heap.size w w' := by
  obtain ⟨W1, hW1⟩ : ∃ W1, W1 = w.alloc (.cells #[.int .i64 g, .int .i64 t, .int .i64 e, .int .i64 k, .int .i64 b, .int .i64 l, .int .i64 f] 53) := ⟨_, rfl⟩
  have SS : Hid (Ws w g t e k b l f W1) := Lib.hid (by rw [hW1]; exact st_new g t e k b l f hb)
  obtain ⟨W2, hW2⟩ : ∃ W2, W2 = W1.alloc (.cells #[.int .i64 0, .int .i64 0, .int .i64 0, .int .i64 0, .int .i64 0, .int .i64 0, .int .i64 0] 53) := ⟨_, rfl⟩
  have hs1 : W1.heap.size = w.heap.size + 1 := by rw [hW1]; simp
  have SB : Hid (Bk W2 (w.heap.size + 1) 0 0 0 0 0 0 0) := Lib.hid (by rw [hW2, ← hs1]; exact heap_alloc_new W1 _)
  replace SS : Hid (Ws w g t e k b l f W2) := Lib.hid (SS.out.step (by rw [hW2]; exact (Below.refl _ _).alloc (Nat.le_refl _) _))
  obtain ⟨k0, k1, k2, k3, k4, k5, k6⟩ := SS.out.k.cells
  have HC := Lib.hid (fun W h => Check g t e k b l f W h)
  rw [check_no hm] at HC
  clear hm
  go_enter Tryz.func127, Tryz.ntmps127
  go_upto_region 1 with (fail)
  rw [← hW1, ← hW2]
  clear hW1 hW2 hs1 hb
  go_wp2_with (first
    | (go_at_call 118; refine (HC.out _ SS.out.bn).mono ?_; rintro r w2 ⟨rfl, hb2⟩; replace SS := Lib.hid (SS.out.step hb2); replace SB := Lib.hid (SB.out.step hb2); clear hb2 k0 k1 k2 k3 k4 k5 k6; obtain ⟨k0, k1, k2, k3, k4, k5, k6⟩ := SS.out.k.cells)
    | (refine wpList_store_row rfl 53 _ _ rfl (w.heap.size + 1) _ rfl rfl 53 _ SB.out infoS rfl (one7 0 0 0 0 0 0 0) ?_))
  refine bodyPost_ret (v := .tuple #[.agg #[.int .i64 0, .int .i64 0, .int .i64 0, .int .i64 0, .int .i64 0, .int .i64 0, .int .i64 0], .int .i64 2])
    (results_cell_tmp_row Tryz.results127 _ _ (w.heap.size + 1) 53 _ (0, 0) _ rfl (setRow_same SB.out) Tryz.underlying53 rfl infoS) rfl
    ⟨rfl, below_setRow SS.out.bel (by omega) _⟩
set_option maxRecDepth 100000 in
theorem Next_last (g t e k b l f : Int) (w : World) (hb : Bnd w) (hm : may ⟨g, t, e, k, b, l, f⟩) (hl : g = 1152921504606846976) :
    Calls Tryz.prog 127 #[.agg #[.int .i64 g, .int .i64 t, .int .i64 e, .int .i64 k, .int .i64 b, .int .i64 l, .int .i64 f]] w fun r w' => r = .returned (.tuple #[.agg #[.int .i64 0, .int .i64 0, .int .i64 0, .int .i64 0, .int .i64 0, .int .i64 0, .int .i64 0], .int .i64 6]) ∧ Below w.heap.size w w' := by
  subst hl
  obtain ⟨W1, hW1⟩ : ∃ W1, W1 = w.alloc (.cells #[.int .i64 1152921504606846976, .int .i64 t, .int .i64 e, .int .i64 k, .int .i64 b, .int .i64 l, .int .i64 f] 53) := ⟨_, rfl⟩
  have SS : Hid (Ws w 1152921504606846976 t e k b l f W1) := Lib.hid (by rw [hW1]; exact st_new _ t e k b l f hb)
  obtain ⟨W2, hW2⟩ : ∃ W2, W2 = W1.alloc (.cells #[.int .i64 0, .int .i64 0, .int .i64 0, .int .i64 0, .int .i64 0, .int .i64 0, .int .i64 0] 53) := ⟨_, rfl⟩
  have hs1 : W1.heap.size = w.heap.size + 1 := by rw [hW1]; simp
  have SB : Hid (Bk W2 (w.heap.size + 1) 0 0 0 0 0 0 0) := Lib.hid (by rw [hW2, ← hs1]; exact heap_alloc_new W1 _)
  replace SS : Hid (Ws w 1152921504606846976 t e k b l f W2) := Lib.hid (SS.out.step (by rw [hW2]; exact (Below.refl _ _).alloc (Nat.le_refl _) _))
  obtain ⟨k0, k1, k2, k3, k4, k5, k6⟩ := SS.out.k.cells
  have HC := Lib.hid (fun W h => Check 1152921504606846976 t e k b l f W h)
  rw [check_yes hm] at HC
  clear hm
  go_enter Tryz.func127, Tryz.ntmps127
  go_upto_region 1 with (fail)
  rw [← hW1, ← hW2]
  clear hW1 hW2 hs1 hb
  go_wp2_with (first
    | (go_at_call 118; refine (HC.out _ SS.out.bn).mono ?_; rintro r w2 ⟨rfl, hb2⟩; replace SS := Lib.hid (SS.out.step hb2); replace SB := Lib.hid (SB.out.step hb2); clear hb2 k0 k1 k2 k3 k4 k5 k6; obtain ⟨k0, k1, k2, k3, k4, k5, k6⟩ := SS.out.k.cells)
    | (refine wpList_store_row rfl 53 _ _ rfl (w.heap.size + 1) _ rfl rfl 53 _ SB.out infoS rfl (one7 0 0 0 0 0 0 0) ?_))
  refine bodyPost_ret (v := .tuple #[.agg #[.int .i64 0, .int .i64 0, .int .i64 0, .int .i64 0, .int .i64 0, .int .i64 0, .int .i64 0], .int .i64 6])
    (results_cell_tmp_row Tryz.results127 _ _ (w.heap.size + 1) 53 _ (0, 0) _ rfl (setRow_same SB.out) Tryz.underlying53 rfl infoS) rfl
    ⟨rfl, below_setRow SS.out.bel (by omega) _⟩
set_option maxRecDepth 100000 in
theorem Next_yes (g t e k b l f : Int) (w : World) (hb : Bnd w) (hm : may ⟨g, t, e, k, b, l, f⟩) (hl : ¬ g = 1152921504606846976) :
    Calls Tryz.prog 127 #[.agg #[.int .i64 g, .int .i64 t, .int .i64 e, .int .i64 k, .int .i64 b, .int .i64 l, .int .i64 f]] w fun r w' => r = .returned (.tuple #[.agg #[.int .i64 (g + 1), .int .i64 t, .int .i64 e, .int .i64 k, .int .i64 b, .int .i64 l, .int .i64 f], .int .i64 0]) ∧ Below w.heap.size w w' := by
  obtain ⟨W1, hW1⟩ : ∃ W1, W1 = w.alloc (.cells #[.int .i64 g, .int .i64 t, .int .i64 e, .int .i64 k, .int .i64 b, .int .i64 l, .int .i64 f] 53) := ⟨_, rfl⟩
  have SS : Hid (Ws w g t e k b l f W1) := Lib.hid (by rw [hW1]; exact st_new g t e k b l f hb)
  obtain ⟨W2, hW2⟩ : ∃ W2, W2 = W1.alloc (.cells #[.int .i64 0, .int .i64 0, .int .i64 0, .int .i64 0, .int .i64 0, .int .i64 0, .int .i64 0] 53) := ⟨_, rfl⟩
  have hs1 : W1.heap.size = w.heap.size + 1 := by rw [hW1]; simp
  have SB : Hid (Bk W2 (w.heap.size + 1) 0 0 0 0 0 0 0) := Lib.hid (by rw [hW2, ← hs1]; exact heap_alloc_new W1 _)
  replace SS : Hid (Ws w g t e k b l f W2) := Lib.hid (SS.out.step (by rw [hW2]; exact (Below.refl _ _).alloc (Nat.le_refl _) _))
  obtain ⟨k0, k1, k2, k3, k4, k5, k6⟩ := SS.out.k.cells
  have HC := Lib.hid (fun W h => Check g t e k b l f W h)
  rw [check_yes hm] at HC
  have hg : 1 ≤ g ∧ g < 1152921504606846976 := by have := hm.2.1; dsimp only at this; omega
  clear hm
  go_enter Tryz.func127, Tryz.ntmps127
  go_upto_region 1 with (fail)
  rw [← hW1, ← hW2]
  clear hW1 hW2 hs1 hb
  go_upto_region 6 with (first
    | (go_at_call 118; refine (HC.out _ SS.out.bn).mono ?_; rintro r w2 ⟨rfl, hb2⟩; replace SS := Lib.hid (SS.out.step hb2); replace SB := Lib.hid (SB.out.step hb2); clear hb2 k0 k1 k2 k3 k4 k5 k6; obtain ⟨k0, k1, k2, k3, k4, k5, k6⟩ := SS.out.k.cells))
  have fz := blk_free (i := 0) SS.out.k
  go_upto_region 7 with (fail)
  generalize hW : World.setCell _ _ _ = W3
  have hb3 : Below w.heap.size w W3 := by rw [← hW]; exact SS.out.bel.setCell (Nat.le_refl _) _
  have hk3 : Bk W3 w.heap.size (g + 1) t e k b l f := by rw [← hW]; show _ = _; rw [blk_set SS.out.k]; rfl
  have hd3 : Bk W3 (w.heap.size + 1) 0 0 0 0 0 0 0 := by rw [← hW]; show _ = _; rw [Below.heap_setCell _ _ _ _ (by simp)]; exact SB.out
  have HB3 := Lib.hid hb3
  have HD3 := Lib.hid hd3
  clear hW k0 k1 k2 k3 k4 k5 k6 hb3 hd3 SS SB HC fz
  obtain ⟨k0, k1, k2, k3, k4, k5, k6⟩ := hk3.cells
  clear hk3
  go_wp2_with (refine wpList_store_row rfl 53 _ _ rfl (w.heap.size + 1) _ rfl rfl 53 _ HD3.out infoS rfl (one7 (g + 1) t e k b l f) ?_)
  refine bodyPost_ret (v := .tuple #[.agg #[.int .i64 (g + 1), .int .i64 t, .int .i64 e, .int .i64 k, .int .i64 b, .int .i64 l, .int .i64 f], .int .i64 0])
    (results_cell_tmp_row Tryz.results127 _ _ (w.heap.size + 1) 53 _ (0, 0) _ rfl (setRow_same HD3.out) Tryz.underlying53 rfl infoS) rfl
    ⟨rfl, below_setRow HB3.out (by omega) _⟩
/-- What super.Next answers. -/
theorem Next (g t e k b l f : Int) (w : World) (hb : Bnd w) :
    Calls Tryz.prog 127 #[.agg #[.int .i64 g, .int .i64 t, .int .i64 e, .int .i64 k, .int .i64 b, .int .i64 l, .int .i64 f]] w fun r w' => r = .returned (.tuple #[.agg #[.int .i64 ((next ⟨g, t, e, k, b, l, f⟩).1).g, .int .i64 ((next ⟨g, t, e, k, b, l, f⟩).1).t, .int .i64 ((next ⟨g, t, e, k, b, l, f⟩).1).e, .int .i64 ((next ⟨g, t, e, k, b, l, f⟩).1).k, .int .i64 ((next ⟨g, t, e, k, b, l, f⟩).1).b, .int .i64 ((next ⟨g, t, e, k, b, l, f⟩).1).l, .int .i64 ((next ⟨g, t, e, k, b, l, f⟩).1).f], .int .i64 (next ⟨g, t, e, k, b, l, f⟩).2]) ∧ Below w.heap.size w w' := by
  by_cases hm : may ⟨g, t, e, k, b, l, f⟩
  · by_cases hl : g = 1152921504606846976
    · rw [next_last hm hl]; exact Next_last g t e k b l f w hb hm hl
    · rw [next_yes hm hl]; exact Next_yes g t e k b l f w hb hm hl
  · rw [next_no hm]; exact Next_no g t e k b l f w hb hm
end Go.Proofs.YtoilcieineejiaaGreatDoor.SupE
