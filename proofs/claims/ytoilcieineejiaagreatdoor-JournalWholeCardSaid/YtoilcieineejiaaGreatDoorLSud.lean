/- SupC SupD: one behind the other. -/
import Derived.Test.YtoilcieineejiaaGreatDoorSupN
import Derived.Test.YtoilcieineejiaaGreatDoorLGeo
import Derived.Laws.ResultCell
import Derived.Deep.RegionHeld3
import Derived.Deep.QuietTactic
import Derived.BigQuiet
/- A superblock in a block of memory: its seven cells; two held against each other; what stands while a function runs. No conditions but those that each lemma names. -/
namespace Go.Proofs.YtoilcieineejiaaGreatDoor.SupC
open Go.RowKit
open GeoN GeoC GeoS SupN
theorem infoS : (Tryz.prog.info? 53).map (·.size) = some 7 := by kernel_rfl
theorem one7 (g t e k b l f : Int) : (#[.int .i64 g, .int .i64 t, .int .i64 e, .int .i64 k, .int .i64 b, .int .i64 l, .int .i64 f] : Array Value).all (·.oneCell') = true := by simp [Value.oneCell']
/-- A superblock in a block. -/
def Bk (W : World) (X : Nat) (g t e k b l f : Int) : Prop := W.heap[X]? = some (.cells #[.int .i64 g, .int .i64 t, .int .i64 e, .int .i64 k, .int .i64 b, .int .i64 l, .int .i64 f] 53 (0, 0))
theorem Bk.lt {W : World} {X : Nat} {g t e k b l f : Int} (h : Bk W X g t e k b l f) : X < W.heap.size := (Array.getElem?_eq_some_iff.1 h).1
theorem Bk.step {W W' : World} {X : Nat} {g t e k b l f : Int} (h : Bk W X g t e k b l f) (hb : Below W.heap.size W W') : Bk W' X g t e k b l f := (hb.block _ h.lt).trans h
theorem Bk.drew {W : World} {X : Nat} {g t e k b l f : Int} (h : Bk W X g t e k b l f) : Bk W.drew X g t e k b l f := h
theorem Bk.cells {W : World} {X : Nat} {g t e k b l f : Int} (h : Bk W X g t e k b l f) : W.cell? ⟨X, 0, none⟩ = some (.int .i64 g) ∧ W.cell? ⟨X, 1, none⟩ = some (.int .i64 t) ∧ W.cell? ⟨X, 2, none⟩ = some (.int .i64 e) ∧ W.cell? ⟨X, 3, none⟩ = some (.int .i64 k) ∧ W.cell? ⟨X, 4, none⟩ = some (.int .i64 b) ∧ W.cell? ⟨X, 5, none⟩ = some (.int .i64 l) ∧ W.cell? ⟨X, 6, none⟩ = some (.int .i64 f) :=
  ⟨blk_cell h rfl, blk_cell h rfl, blk_cell h rfl, blk_cell h rfl, blk_cell h rfl, blk_cell h rfl, blk_cell h rfl⟩
theorem Bk.cells0 {W : World} {X : Nat} {g t e k b l f : Int} (h : Bk W X g t e k b l f) : W.cell? ⟨X, 0, none⟩ = some (.int .i64 g) := blk_cell h rfl
/-- What stands while a function runs that was given a superblock: what was stays, the two variables, the superblock in its block. -/
structure Ws (w : World) (g t e k b l f : Int) (W : World) : Prop where
  bel : Below w.heap.size w W
  bn : Bnd W
  k : Bk W w.heap.size g t e k b l f
theorem st_new {w : World} (g t e k b l f : Int) (hb : Bnd w) : Ws w g t e k b l f (w.alloc (.cells #[.int .i64 g, .int .i64 t, .int .i64 e, .int .i64 k, .int .i64 b, .int .i64 l, .int .i64 f] 53)) :=
  have h : Below w.heap.size w (w.alloc (.cells #[.int .i64 g, .int .i64 t, .int .i64 e, .int .i64 k, .int .i64 b, .int .i64 l, .int .i64 f] 53)) := (Below.refl _ _).alloc (Nat.le_refl _) _
  ⟨h, hb.step h, heap_alloc_new w _⟩
theorem Ws.step {w W W' : World} {g t e k b l f : Int} (h : Ws w g t e k b l f W) (hb : Below W.heap.size W W') : Ws w g t e k b l f W' :=
  ⟨h.bel.trans (hb.mono h.bel.size), h.bn.step hb, h.k.step hb⟩
theorem Ws.drew {w W : World} {g t e k b l f : Int} (h : Ws w g t e k b l f W) : Ws w g t e k b l f W.drew := ⟨h.bel.drew, h.bn.step (Below.refl _ _).drew, h.k⟩
/-- The same without the two variables. -/
structure Wn (w : World) (g t e k b l f : Int) (W : World) : Prop where
  bel : Below w.heap.size w W
  k : Bk W w.heap.size g t e k b l f
theorem sn_new {w : World} (g t e k b l f : Int) : Wn w g t e k b l f (w.alloc (.cells #[.int .i64 g, .int .i64 t, .int .i64 e, .int .i64 k, .int .i64 b, .int .i64 l, .int .i64 f] 53)) :=
  ⟨(Below.refl _ _).alloc (Nat.le_refl _) _, heap_alloc_new w _⟩
theorem Wn.step {w W W' : World} {g t e k b l f : Int} (h : Wn w g t e k b l f W) (hb : Below W.heap.size W W') : Wn w g t e k b l f W' :=
  ⟨h.bel.trans (hb.mono h.bel.size), h.k.step hb⟩
theorem Wn.drew {w W : World} {g t e k b l f : Int} (h : Wn w g t e k b l f W) : Wn w g t e k b l f W.drew := ⟨h.bel.drew, h.k⟩
theorem fields_sup : Tryz.prog.fieldsOf 53 = #[{ name := "Gen", type := 3, offset := 0, embedded := false, tag := "", pkgPath := "", byteOffset := 0 }, { name := "Tail", type := 3, offset := 1, embedded := false, tag := "", pkgPath := "", byteOffset := 8 }, { name := "Epoch", type := 3, offset := 2, embedded := false, tag := "", pkgPath := "", byteOffset := 16 }, { name := "Clock", type := 3, offset := 3, embedded := false, tag := "", pkgPath := "", byteOffset := 24 }, { name := "Geo", type := 32, offset := 4, embedded := false, tag := "", pkgPath := "", byteOffset := 32 }] := by kernel_rfl
theorem under_sup : Tryz.prog.underlying 53 = some (.struct (Tryz.prog.fieldsOf 53)) := by kernel_rfl
theorem stood_sup : Tryz.prog.stoodInHeld 53 = false := by kernel_rfl
theorem size_geo : Tryz.prog.info? 32 = Tryz.prog.info? 32 := rfl
/-- Two shapes within superblocks, at whatever depth. -/
theorem run_in_geo' (W : World) (n : Nat) (a b c d e f : Int) :
    (Op.equalIn (n + 2) 32 (.agg #[.int .i64 a, .int .i64 b, .int .i64 c]) (.agg #[.int .i64 d, .int .i64 e, .int .i64 f])).run Tryz.prog W = .ok (decide (a = d) && (decide (b = e) && decide (c = f))) W := by
  have e1 : ∀ x y : Int, (Op.equalIn (n + 1) 3 (.int .i64 x) (.int .i64 y)).run Tryz.prog W = .ok (x == y) W := fun x y => run_equalIn_int W n 3 .i64 .i64 x y Tryz.underlying3
  have p0 : ∀ (x y z : Int), (part 3 #[.int .i64 x, .int .i64 y, .int .i64 z] 0).run Tryz.prog W = .ok (.int .i64 x) W := fun x y z => by simp [part, isAgg, run_underlying Tryz.underlying3]
  have p1 : ∀ (x y z : Int), (part 3 #[.int .i64 x, .int .i64 y, .int .i64 z] 1).run Tryz.prog W = .ok (.int .i64 y) W := fun x y z => by simp [part, isAgg, run_underlying Tryz.underlying3]
  have p2 : ∀ (x y z : Int), (part 3 #[.int .i64 x, .int .i64 y, .int .i64 z] 2).run Tryz.prog W = .ok (.int .i64 z) W := fun x y z => by simp [part, isAgg, run_underlying Tryz.underlying3]
  rw [run_equalIn_struct W (n + 1) _ _ _ under_geo stood_geo, fields_geo]
  simp only [Op.eqFields, Sem.run_bind, Sem.run_ite, p0, p1, p2, e1, Result.andThen_ok]
  by_cases h1 : a = d <;> by_cases h2 : b = e <;> by_cases h3 : c = f <;> simp [h1, h2, h3]
def same (g1 t1 e1 k1 b1 l1 f1 g2 t2 e2 k2 b2 l2 f2 : Int) : Bool := decide (g1 = g2) && (decide (t1 = t2) && (decide (e1 = e2) && (decide (k1 = k2) && (decide (b1 = b2) && (decide (l1 = l2) && decide (f1 = f2))))))
theorem run_in_sup (W : World) (g1 t1 e1 k1 b1 l1 f1 g2 t2 e2 k2 b2 l2 f2 : Int) (q : Bool) (h : same g1 t1 e1 k1 b1 l1 f1 g2 t2 e2 k2 b2 l2 f2 = q) :
    (Op.equalIn 10000 53 (.agg #[.int .i64 g1, .int .i64 t1, .int .i64 e1, .int .i64 k1, .int .i64 b1, .int .i64 l1, .int .i64 f1]) (.agg #[.int .i64 g2, .int .i64 t2, .int .i64 e2, .int .i64 k2, .int .i64 b2, .int .i64 l2, .int .i64 f2])).run Tryz.prog W = .ok q W := by
  have hh : ∀ x y : Int, (Op.equalIn 9999 3 (.int .i64 x) (.int .i64 y)).run Tryz.prog W = .ok (x == y) W := fun x y => run_equalIn_int W 9998 3 .i64 .i64 x y Tryz.underlying3
  have eg := run_in_geo' W 9997 b1 l1 f1 b2 l2 f2
  have p0 : ∀ g t e k b l f : Int, (part 3 #[.int .i64 g, .int .i64 t, .int .i64 e, .int .i64 k, .int .i64 b, .int .i64 l, .int .i64 f] 0).run Tryz.prog W = .ok (.int .i64 g) W := fun g t e k b l f => by simp [part, isAgg, run_underlying Tryz.underlying3]
  have p1 : ∀ g t e k b l f : Int, (part 3 #[.int .i64 g, .int .i64 t, .int .i64 e, .int .i64 k, .int .i64 b, .int .i64 l, .int .i64 f] 1).run Tryz.prog W = .ok (.int .i64 t) W := fun g t e k b l f => by simp [part, isAgg, run_underlying Tryz.underlying3]
  have p2 : ∀ g t e k b l f : Int, (part 3 #[.int .i64 g, .int .i64 t, .int .i64 e, .int .i64 k, .int .i64 b, .int .i64 l, .int .i64 f] 2).run Tryz.prog W = .ok (.int .i64 e) W := fun g t e k b l f => by simp [part, isAgg, run_underlying Tryz.underlying3]
  have p3 : ∀ g t e k b l f : Int, (part 3 #[.int .i64 g, .int .i64 t, .int .i64 e, .int .i64 k, .int .i64 b, .int .i64 l, .int .i64 f] 3).run Tryz.prog W = .ok (.int .i64 k) W := fun g t e k b l f => by simp [part, isAgg, run_underlying Tryz.underlying3]
  have p4 : ∀ g t e k b l f : Int, (part 32 #[.int .i64 g, .int .i64 t, .int .i64 e, .int .i64 k, .int .i64 b, .int .i64 l, .int .i64 f] 4).run Tryz.prog W = .ok (.agg #[.int .i64 b, .int .i64 l, .int .i64 f]) W := fun g t e k b l f => by kernel_rfl
  rw [run_equalIn_struct W 9999 _ _ _ under_sup stood_sup, fields_sup]
  subst h
  unfold same
  simp only [Op.eqFields, Sem.run_bind, Sem.run_ite, p0, p1, p2, p3, p4, hh, eg, Result.andThen_ok]
  generalize (decide (b1 = b2) && (decide (l1 = l2) && decide (f1 = f2))) = q
  by_cases h1 : g1 = g2 <;> by_cases h2 : t1 = t2 <;> by_cases h3 : e1 = e2 <;> by_cases h4 : k1 = k2 <;> cases q <;> simp [h1, h2, h3, h4]
/-- Two superblocks held against each other. -/
theorem run_neq_sup (W : World) (g1 t1 e1 k1 b1 l1 f1 g2 t2 e2 k2 b2 l2 f2 : Int) (q : Bool) (h : same g1 t1 e1 k1 b1 l1 f1 g2 t2 e2 k2 b2 l2 f2 = q) :
    (binOp .neq 53 (.agg #[.int .i64 g1, .int .i64 t1, .int .i64 e1, .int .i64 k1, .int .i64 b1, .int .i64 l1, .int .i64 f1]) (.agg #[.int .i64 g2, .int .i64 t2, .int .i64 e2, .int .i64 k2, .int .i64 b2, .int .i64 l2, .int .i64 f2])).run Tryz.prog W = .ok (.bool (!q)) W := by
  rw [run_neq_struct, run_in_sup W g1 t1 e1 k1 b1 l1 f1 g2 t2 e2 k2 b2 l2 f2 q h, Result.andThen_ok]
theorem run_eql_sup (W : World) (g1 t1 e1 k1 b1 l1 f1 g2 t2 e2 k2 b2 l2 f2 : Int) (q : Bool) (h : same g1 t1 e1 k1 b1 l1 f1 g2 t2 e2 k2 b2 l2 f2 = q) :
    (binOp .eql 53 (.agg #[.int .i64 g1, .int .i64 t1, .int .i64 e1, .int .i64 k1, .int .i64 b1, .int .i64 l1, .int .i64 f1]) (.agg #[.int .i64 g2, .int .i64 t2, .int .i64 e2, .int .i64 k2, .int .i64 b2, .int .i64 l2, .int .i64 f2])).run Tryz.prog W = .ok (.bool q) W := by
  rw [run_eql_struct, run_in_sup W g1 t1 e1 k1 b1 l1 f1 g2 t2 e2 k2 b2 l2 f2 q h, Result.andThen_ok]
theorem same_self (g t e k b l f : Int) : same g t e k b l f g t e k b l f = true := by simp [same]
theorem eql_self (g t e k b l f : Int) (W : World) : (binOp .eql 53 (.agg #[.int .i64 g, .int .i64 t, .int .i64 e, .int .i64 k, .int .i64 b, .int .i64 l, .int .i64 f]) (.agg #[.int .i64 g, .int .i64 t, .int .i64 e, .int .i64 k, .int .i64 b, .int .i64 l, .int .i64 f])).run Tryz.prog W = .ok (.bool true) W := run_eql_sup W g t e k b l f g t e k b l f true (same_self g t e k b l f)
theorem neq_self (g t e k b l f : Int) (W : World) : (binOp .neq 53 (.agg #[.int .i64 g, .int .i64 t, .int .i64 e, .int .i64 k, .int .i64 b, .int .i64 l, .int .i64 f]) (.agg #[.int .i64 g, .int .i64 t, .int .i64 e, .int .i64 k, .int .i64 b, .int .i64 l, .int .i64 f])).run Tryz.prog W = .ok (.bool false) W := run_neq_sup W g t e k b l f g t e k b l f true (same_self g t e k b l f)
end Go.Proofs.YtoilcieineejiaaGreatDoor.SupC
/- super.widths and super.Next, super.Check: the walks of their texts. The condition: that the least and the most numbers lie in the program's two variables. -/
namespace Go.Proofs.YtoilcieineejiaaGreatDoor.SupD
open Go.RowKit
open GeoN GeoC GeoS SupN SupC
/-- What super.widths answers: a row of its own. -/
theorem widths (w : World) :
    Calls Tryz.prog 120 #[] w fun r w' => r = .returned (.slice (some ⟨w.heap.size, 0, none⟩) 4 4) ∧ w'.heap[w.heap.size]? = some (.cells #[.int .i64 8, .int .i64 4, .int .i64 4, .int .i64 8] 3 (0, 0)) ∧ Below w.heap.size w w' := by
  go_enter Tryz.func120, Tryz.ntmps120
  go_wp2_with fail
  go_ret
  refine ⟨rfl, ?_, ?_⟩
  · exact heap_alloc_new w _
  · exact (Below.refl _ _).alloc (Nat.le_refl _) _
set_option maxRecDepth 100000 in
set_option maxHeartbeats 2000000 in
/-- What super.Check answers. -/
theorem Check (g t e k b l f : Int) (w : World) (hb : Bnd w) :
    Calls Tryz.prog 118 #[.agg #[.int .i64 g, .int .i64 t, .int .i64 e, .int .i64 k, .int .i64 b, .int .i64 l, .int .i64 f]] w fun r w' => r = .returned (.int .i64 (check ⟨g, t, e, k, b, l, f⟩)) ∧ Below w.heap.size w w' := by
  obtain ⟨W1, hW1⟩ : ∃ W1, W1 = w.alloc (.cells #[.int .i64 g, .int .i64 t, .int .i64 e, .int .i64 k, .int .i64 b, .int .i64 l, .int .i64 f] 53) := ⟨_, rfl⟩
  have SS : Hid (Ws w g t e k b l f W1) := Lib.hid (by rw [hW1]; exact st_new g t e k b l f hb)
  obtain ⟨k0, k1, k2, k3, k4, k5, k6⟩ := SS.out.k.cells
  go_enter Tryz.func118, Tryz.ntmps118
  go_upto_region 1 with (fail)
  rw [← hW1]
  clear hW1 hb
  have HN := Lib.hid (fun W h => GeoD.Check b l f W h)
  have HD := Lib.hid (fun W h => GeoD.Data b l f W h)
  by_cases hr : right b l f
  · rw [GeoN.check_yes hr] at HN
    rw [data_yes hr] at HD
    have hr2 : 8 ≤ b ∧ b ≤ 1024 ∧ 0 ≤ f ∧ f ≤ 4294967295 := ⟨hr.1, hr.2.1, hr.2.2.2.2.1, hr.2.2.2.2.2⟩
    have HR := Lib.hid hr
    clear hr
    go_upto_region 2 with (first
      | (go_at_call 34; refine (HN.out _ SS.out.bn).mono ?_; rintro r w2 ⟨rfl, hb2⟩; replace SS := Lib.hid (SS.out.step hb2); clear hb2 k0 k1 k2 k3 k4 k5 k6; obtain ⟨k0, k1, k2, k3, k4, k5, k6⟩ := SS.out.k.cells))
    by_cases h1 : 1 ≤ g
    · by_cases h2 : g ≤ 1152921504606846976
      · go_upto_region 3 with (fail)
        by_cases h3 : 0 ≤ t
        · replace SS := Lib.hid SS.out.drew
          have hS := SS.out.k.cells
          have hg : decide (t < 0) = false := decide_eq_false (by omega)
          go_region_held3 (fun w' => w'.cell? ⟨w.heap.size, 0, none⟩ = some (.int .i64 g) ∧ w'.cell? ⟨w.heap.size, 1, none⟩ = some (.int .i64 t) ∧ w'.cell? ⟨w.heap.size, 2, none⟩ = some (.int .i64 e) ∧ w'.cell? ⟨w.heap.size, 3, none⟩ = some (.int .i64 k) ∧ w'.cell? ⟨w.heap.size, 4, none⟩ = some (.int .i64 b) ∧ w'.cell? ⟨w.heap.size, 5, none⟩ = some (.int .i64 l) ∧ w'.cell? ⟨w.heap.size, 6, none⟩ = some (.int .i64 f))
            (exact hS)
            (first | (go_at_call 91; refine (HD.out _ SS.out.bn).mono ?_; rintro r w3 ⟨rfl, hb3⟩; replace SS := Lib.hid (SS.out.step hb3); replace hS := SS.out.k.cells; clear hb3))
          obtain ⟨k0, k1, k2, k3, k4, k5, k6⟩ := hS
          clear hg
          by_cases h4 : t ≤ b - 4
          · by_cases h5 : f ≤ e
            · by_cases h6 : e ≤ 4294967295
              · by_cases h7 : 0 ≤ k
                · by_cases h8 : k ≤ 1099511627776
                  · have HX := Lib.hid (check_yes (x := ⟨g, t, e, k, b, l, f⟩) ⟨HR.out, ⟨h1, h2⟩, ⟨h3, h4⟩, ⟨h5, h6⟩, h7, h8⟩)
                    go_wp2_with fail
                    go_ret
                    exact ⟨by rw [HX.out] <;> rfl, SS.out.bel⟩
                  · have HX := Lib.hid (check_no (x := ⟨g, t, e, k, b, l, f⟩) (fun hh => h8 hh.2.2.2.2.2))
                    go_wp2_with fail
                    go_ret
                    exact ⟨by rw [HX.out] <;> rfl, SS.out.bel⟩
                · have HX := Lib.hid (check_no (x := ⟨g, t, e, k, b, l, f⟩) (fun hh => h7 hh.2.2.2.2.1))
                  go_wp2_with fail
                  go_ret
                  exact ⟨by rw [HX.out] <;> rfl, SS.out.bel⟩
              · have HX := Lib.hid (check_no (x := ⟨g, t, e, k, b, l, f⟩) (fun hh => h6 hh.2.2.2.1.2))
                go_wp2_with fail
                go_ret
                exact ⟨by rw [HX.out] <;> rfl, SS.out.bel⟩
            · have HX := Lib.hid (check_no (x := ⟨g, t, e, k, b, l, f⟩) (fun hh => h5 hh.2.2.2.1.1))
              go_wp2_with fail
              go_ret
              exact ⟨by rw [HX.out] <;> rfl, SS.out.bel⟩
          · have HX := Lib.hid (check_no (x := ⟨g, t, e, k, b, l, f⟩) (fun hh => h4 hh.2.2.1.2))
            go_wp2_with fail
            go_ret
            exact ⟨by rw [HX.out] <;> rfl, SS.out.bel⟩
        · have hg : decide (t < 0) = true := decide_eq_true (by omega)
          have HX := Lib.hid (check_no (x := ⟨g, t, e, k, b, l, f⟩) (fun hh => h3 hh.2.2.1.1))
          go_quiet (fail)
          go_wp2_with fail
          go_ret
          exact ⟨by rw [HX.out] <;> rfl, SS.out.bel.trans (below_drewN _ _)⟩
      · have HX := Lib.hid (check_no (x := ⟨g, t, e, k, b, l, f⟩) (fun hh => h2 hh.2.1.2))
        go_wp2_with fail
        go_ret
        exact ⟨by rw [HX.out] <;> rfl, SS.out.bel⟩
    · have HX := Lib.hid (check_no (x := ⟨g, t, e, k, b, l, f⟩) (fun hh => h1 hh.2.1.1))
      go_wp2_with fail
      go_ret
      exact ⟨by rw [HX.out] <;> rfl, SS.out.bel⟩
  · rw [GeoN.check_no hr] at HN
    have HX := Lib.hid (check_no (x := ⟨g, t, e, k, b, l, f⟩) (fun hh => hr hh.1))
    clear hr
    go_wp2_with (first
      | (go_at_call 34; refine (HN.out _ SS.out.bn).mono ?_; rintro r w2 ⟨rfl, hb2⟩; replace SS := Lib.hid (SS.out.step hb2); clear hb2))
    go_ret
    exact ⟨by rw [HX.out] <;> rfl, SS.out.bel⟩
end Go.Proofs.YtoilcieineejiaaGreatDoor.SupD
