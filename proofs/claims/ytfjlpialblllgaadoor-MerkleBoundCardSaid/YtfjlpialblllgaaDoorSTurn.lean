/- What sha's 'turn' answers, where the rounds' numbers lie in the program's variable: the walk of its text. -/
import Derived.Test.YtfjlpialblllgaaDoorSSpr
import Derived.Test.YtfjlpialblllgaaDoorSByt
import Derived.Deep.DeepCutAuto
namespace Go.Proofs.YtfjlpialblllgaaDoor.STurn
open Go.RowKit
open SSpr SByt
/-- The rounds' numbers lie in the program's variable. -/
def Rds (w : World) : Prop := ∀ i, i < 64 → w.cell? ⟨0, i, none⟩ = some (.int .u32 (kList.getD i 0 : Nat))
theorem Rds.lt {w : World} (h : Rds w) : 0 < w.heap.size := World.block_lt_of_cell? w _ (h 0 (by omega))
theorem Rds.below {w w' : World} (h : Rds w) {B : Nat} (hb : Below B w w') (hB : 0 < B) : Rds w' := fun i hi => (hb.cell (p := ⟨_, i, none⟩) hB).trans (h i hi)
theorem Rds.step {w w' : World} (h : Rds w) (hb : Below w.heap.size w w') : Rds w' := h.below hb h.lt
theorem info49 : (Tryd.prog.info? 65).map (·.size) = some 8 := by kernel_rfl
theorem info51 : (Tryd.prog.info? 68).map (·.size) = some 64 := by kernel_rfl
/-- The cells of a state. -/
def stRow (s : St) : Array Value := #[.int .u32 s.a, .int .u32 s.b, .int .u32 s.c, .int .u32 s.d, .int .u32 s.e, .int .u32 s.f, .int .u32 s.g, .int .u32 s.h]
theorem notN (E : Nat) (h : E < 4294967296) : 4294967295 ^^^ E = 4294967295 - E := by
  apply Nat.eq_of_testBit_eq
  intro i
  have e : 4294967295 - E = 2 ^ 32 - (E + 1) := by omega
  rw [e, Nat.testBit_xor, show (4294967295 : Nat) = 2 ^ 32 - 1 from rfl, Nat.testBit_two_pow_sub_one, Nat.testBit_two_pow_sub_succ (by omega)]
  by_cases hi : i < 32
  · simp [hi]
  · have : E.testBit i = false := Nat.testBit_lt_two_pow (Nat.lt_of_lt_of_le (show E < 2 ^ 32 from h) (Nat.pow_le_pow_right (n := 2) (by decide) (by omega : 32 ≤ i)))
    simp [hi, this]
theorem sub_lt' (E : Nat) : 4294967295 - E < 4294967296 := by omega
theorem ch (E F G : Nat) (hE : E < 4294967296) (hF : F < 4294967296) (hG : G < 4294967296) :
    bits .xor .u32 (bits .and .u32 (E : Int) (F : Int)) (bits .and .u32 (bits .xor .u32 (if IntKind.u32.signed = true then -1 else IntKind.u32.max) (E : Int)) (G : Int)) = (((E &&& F) ^^^ ((4294967295 - E) &&& G) : Nat) : Int) := by
  rw [show (if IntKind.u32.signed = true then -1 else IntKind.u32.max : Int) = ((4294967295 : Nat) : Int) from by decide]
  rw [u32_xor_nat _ _ (by omega) hE, notN E hE, u32_and_nat _ _ hE hF, u32_and_nat _ _ (sub_lt' E) hG, u32_xor_nat _ _ (and_lt _ _ hF) (and_lt _ _ hG)]
theorem maj (A B C : Nat) (hA : A < 4294967296) (hB : B < 4294967296) (hC : C < 4294967296) :
    bits .xor .u32 (bits .xor .u32 (bits .and .u32 (A : Int) (B : Int)) (bits .and .u32 (A : Int) (C : Int))) (bits .and .u32 (B : Int) (C : Int)) = (((A &&& B) ^^^ (A &&& C) ^^^ (B &&& C) : Nat) : Int) := by
  rw [u32_and_nat _ _ hA hB, u32_and_nat _ _ hA hC, u32_and_nat _ _ hB hC, u32_xor_nat _ _ (and_lt _ _ hB) (and_lt _ _ hC), u32_xor_nat _ _ (xor_lt _ _ (and_lt _ _ hB) (and_lt _ _ hC)) (and_lt _ _ hC)]
theorem vint {k : IntKind} {a b : Int} (h : a = b) : Value.int k a = Value.int k b := by rw [h]
theorem all8 (a b c d e f g h : Int) : (#[.int .u32 a, .int .u32 b, .int .u32 c, .int .u32 d, .int .u32 e, .int .u32 f, .int .u32 g, .int .u32 h] : Array Value).all (·.oneCell') = true := by
  simp [Value.oneCell']
theorem t1 (x : Nat) (w : World) (hx : x < 4294967296) : Calls Tryd.prog 62 #[.int .u32 x, .int .i64 6, .int .i64 11, .int .i64 25] w fun e w' => e = .returned (.int .u32 (three x 6 11 25 : Nat)) ∧ w = w' :=
  SRot.turned x 6 11 25 w hx (by omega) (by omega) (by omega) (by omega) (by omega) (by omega)
theorem t2 (x : Nat) (w : World) (hx : x < 4294967296) : Calls Tryd.prog 62 #[.int .u32 x, .int .i64 2, .int .i64 13, .int .i64 22] w fun e w' => e = .returned (.int .u32 (three x 2 13 22 : Nat)) ∧ w = w' :=
  SRot.turned x 2 13 22 w hx (by omega) (by omega) (by omega) (by omega) (by omega) (by omega)
set_option maxRecDepth 100000 in
set_option maxHeartbeats 1000000 in
theorem turn (s : St) (hs : s.ok) (b : List UInt8) (hb : b.length = 64) (w : World) (hr : Rds w) :
    Calls Tryd.prog 42 #[.agg #[.int .u32 s.a, .int .u32 s.b, .int .u32 s.c, .int .u32 s.d, .int .u32 s.e, .int .u32 s.f, .int .u32 s.g, .int .u32 s.h], .agg (bytesRow b)] w fun e w' => e = .returned (.agg (stRow (turnSt s b))) ∧ Below w.heap.size w w' := by
  have hsp := fun W => spread b hb W
  have hL0 := ws_length b 64
  have hL1 := ws_getD_lt b 64
  have hT : turnSt s b = s.plus (rnds kList (ws b 64) s 64) := rfl
  generalize ws b 64 = L at *
  have HT := Lib.hid hT
  have hat := wRow_at L
  have hsz : (wRow L).size = 64 := by rw [wRow_size, hL0]
  have hone := wRow_one L
  have HI71 := Lib.hid (show (Tryd.prog.info? 97).map (·.size) = some (wRow L).size by rw [hsz]; exact info71)
  generalize wRow L = rs at *
  have HSp := Lib.hid hsp
  have HO := Lib.hid hone
  have HSZ := Lib.hid hsz
  have HL := Lib.hid hL0
  clear hsp hT hone hsz hL0
  have HC := Lib.hid (show (Tryd.prog.info? 68).map (·.size) = some (bytesRow b).size by rw [bytesRow_size, hb]; exact info51)
  generalize bytesRow b = cs at *
  have HR := Lib.hid hr
  clear hr
  go_enter Tryd.func42, Tryd.ntmps42
  go_upto_region 1 with (fail)
  generalize hW : World.alloc (World.alloc (World.alloc w _) _) _ = W1
  have f0 : W1.heap[w.heap.size]? = some (.cells (stRow s) 65 (0, 0)) := by rw [← hW]; exact alloc3_0 w _ _ _
  have f1 : W1.heap[w.heap.size + 1]? = some (.cells cs 68 (0, 0)) := by rw [← hW]; exact alloc3_1 w _ _ _
  have f2 : ∃ zs : Array Value, zs.size = 8 ∧ W1.heap[w.heap.size + 1 + 1]? = some (.cells zs 65 (0, 0)) := ⟨_, rfl, by rw [← hW]; exact alloc3_2 w _ _ _⟩
  have fB : Below w.heap.size w W1 := by rw [← hW]; exact below_alloc3 w _ _ _
  have fS : W1.heap.size = w.heap.size + 1 + 1 + 1 := by rw [← hW]; simp
  obtain ⟨zs, hzs, f2⟩ := f2
  have F0 := Lib.hid f0
  have F1 := Lib.hid f1
  have F2 := Lib.hid f2
  have FB := Lib.hid fB
  have FS := Lib.hid fS
  have HR1 := Lib.hid (HR.out.step fB)
  have HZ := Lib.hid hzs
  clear hW f0 f1 f2 fB fS hzs HR
  go_upto_region 2 with (first
    | (refine wpList_load_row rfl 68 _ rfl (w.heap.size + 1) rfl 68 _ (0, 0) _ F1.out Tryd.underlying68 rfl HC.out ?_)
    | (go_at_call 61; refine (HSp.out _).mono ?_; rintro e w1 ⟨rfl, hb1⟩; have HB1 := Lib.hid hb1; clear hb1)
    | (refine wpList_store_row rfl 97 _ _ rfl w1.heap.size _ rfl rfl 97 _ (heap_alloc_new w1 _) HI71.out (by rw [HSZ.out]; rfl) HO.out ?_))
  generalize hW : World.setRow (World.alloc w1 _) _ _ = W2
  have hb1 : Below w.heap.size W1 w1 := HB1.out.mono (by rw [FS.out]; omega)
  have k0 : W2.heap[w.heap.size]? = some (.cells (stRow s) 65 (0, 0)) := by
    rw [← hW, setRow_far (by have := HB1.out.size; rw [FS.out] at this; omega), Below.heap_alloc _ _ _ (by have := HB1.out.size; rw [FS.out] at this; omega), HB1.out.block _ (by rw [FS.out]; omega)]
    exact F0.out
  have k2 : W2.heap[w.heap.size + 1 + 1]? = some (.cells zs 65 (0, 0)) := by
    rw [← hW, setRow_far (by have := HB1.out.size; rw [FS.out] at this; omega), Below.heap_alloc _ _ _ (by have := HB1.out.size; rw [FS.out] at this; omega), HB1.out.block _ (by rw [FS.out]; omega)]
    exact F2.out
  have k5 : W2.heap[w1.heap.size]? = some (.cells rs 97 (0, 0)) := by rw [← hW]; exact setRow_same (heap_alloc_new w1 _)
  have kB : Below w.heap.size w W2 := by
    have hs1 := HB1.out.size
    rw [FS.out] at hs1
    rw [← hW]
    exact below_setRow ((FB.out.trans hb1).alloc (by omega) _) (by omega) _
  have kR : Rds W2 := by
    have hs1 := HB1.out.size
    have hlt := HR1.out.lt
    rw [← hW]
    exact HR1.out.step (below_setRow (HB1.out.alloc hs1 _) hs1 _)
  clear hW hb1 HB1 FS FB F0 F1 F2 HR1
  have l0 : W2.cell? ⟨w.heap.size, 0, none⟩ = some (.int .u32 s.a) := blk_cell k0 rfl
  have l1 : W2.cell? ⟨w.heap.size, 1, none⟩ = some (.int .u32 s.b) := blk_cell k0 rfl
  have l2 : W2.cell? ⟨w.heap.size, 2, none⟩ = some (.int .u32 s.c) := blk_cell k0 rfl
  have l3 : W2.cell? ⟨w.heap.size, 3, none⟩ = some (.int .u32 s.d) := blk_cell k0 rfl
  have l4 : W2.cell? ⟨w.heap.size, 4, none⟩ = some (.int .u32 s.e) := blk_cell k0 rfl
  have l5 : W2.cell? ⟨w.heap.size, 5, none⟩ = some (.int .u32 s.f) := blk_cell k0 rfl
  have l6 : W2.cell? ⟨w.heap.size, 6, none⟩ = some (.int .u32 s.g) := blk_cell k0 rfl
  have l7 : W2.cell? ⟨w.heap.size, 7, none⟩ = some (.int .u32 s.h) := blk_cell k0 rfl
  have K2 := Lib.hid k2
  have K5 := Lib.hid k5
  have KB := Lib.hid kB
  have KR := Lib.hid kR
  clear k0 k2 k5 kB kR
  go_quiet (fail)
  go_wp2
  have M0 := Lib.hid (show W2.cell? ⟨w.heap.size, 0, none⟩ = some (.int .u32 s.a) ∧ W2.cell? ⟨w.heap.size, 1, none⟩ = some (.int .u32 s.b) ∧ W2.cell? ⟨w.heap.size, 2, none⟩ = some (.int .u32 s.c) ∧ W2.cell? ⟨w.heap.size, 3, none⟩ = some (.int .u32 s.d) ∧ W2.cell? ⟨w.heap.size, 4, none⟩ = some (.int .u32 s.e) ∧ W2.cell? ⟨w.heap.size, 5, none⟩ = some (.int .u32 s.f) ∧ W2.cell? ⟨w.heap.size, 6, none⟩ = some (.int .u32 s.g) ∧ W2.cell? ⟨w.heap.size, 7, none⟩ = some (.int .u32 s.h) from ⟨l0, l1, l2, l3, l4, l5, l6, l7⟩)
  clear l0 l1 l2 l3 l4 l5 l6 l7
  go_loopw [6, 7, 8, 9, 10, 11, 12, 13, 35] (fun a b c d e f g h i wr => ∃ j : Nat, j ≤ 64 ∧ a = .int .u32 (rnds kList L s j).a ∧ b = .int .u32 (rnds kList L s j).b ∧ c = .int .u32 (rnds kList L s j).c ∧ d = .int .u32 (rnds kList L s j).d ∧ e = .int .u32 (rnds kList L s j).e ∧ f = .int .u32 (rnds kList L s j).f ∧ g = .int .u32 (rnds kList L s j).g ∧ h = .int .u32 (rnds kList L s j).h ∧ i = .int .i64 j ∧ ∃ n, wr = W2.drewN n) (fun _ _ _ _ _ _ _ _ i _ => 64 - (intOf i).toNat)
  case atStart => exact ⟨0, Nat.zero_le _, rfl, rfl, rfl, rfl, rfl, rfl, rfl, rfl, rfl, _, rfl⟩
  case round =>
    obtain ⟨j, hj, rfl, rfl, rfl, rfl, rfl, rfl, rfl, rfl, rfl, nw, hwr⟩ := hrel
    have HW := Lib.hid hwr
    by_cases hlt : j < 64
    · have ck : wr.cell? ⟨0, j, none⟩ = some (.int .u32 (kList.getD j 0 : Nat)) := by rw [hwr]; exact KR.out j hlt
      have cw : wr.cell? ⟨w1.heap.size, j, none⟩ = some (.int .u32 (L.getD j 0 : Nat)) := by rw [hwr]; exact blk_cell K5.out (hat j (by rw [HL.out]; exact hlt))
      clear hwr
      have hok := rnds_ok kList L s hs j
      have HX := Lib.hid (show rnds kList L s (j + 1) = rnd (kList.getD j 0) (L.getD j 0) (rnds kList L s j) from rfl)
      have hk := kList_lt j
      have hw := hL1 j
      generalize rnds kList L s j = r at *
      generalize kList.getD j 0 = x at *
      generalize L.getD j 0 = y at *
      obtain ⟨A, B, C, D, E, F, G, H⟩ := r
      obtain ⟨hA, hB, hC, hD, hE, hF, hG, hH⟩ := hok
      simp only at hA hB hC hD hE hF hG hH
      have HT1 := Lib.hid (fun W => t1 E W hE)
      have HT2 := Lib.hid (fun W => t2 A W hA)
      have ht1 := three_lt E 6 11 25 hE
      have ht2 := three_lt A 2 13 22 hA
      have HQ := Lib.hid (show three E 6 11 25 = three E 6 11 25 ∧ three A 2 13 22 = three A 2 13 22 from ⟨rfl, rfl⟩)
      clear hat hL1 ht1 ht2
      go_wp2_with fail
      go_quiet ((go_at_call 62; exact SRot.quiet_eq (HT1.out _)))
      go_wp2_with (go_at_call 62; refine (HT2.out _).mono ?_; rintro e w' ⟨rfl, rfl⟩)
      rw [ch E F G hE hF hG, maj A B C hA hB hC]
      rw [show rnd x y ⟨A, B, C, D, E, F, G, H⟩ = ⟨((H + three E 6 11 25 + ((E &&& F) ^^^ ((4294967295 - E) &&& G)) + x + y) % 4294967296 + (three A 2 13 22 + ((A &&& B) ^^^ (A &&& C) ^^^ (B &&& C))) % 4294967296) % 4294967296, A, B, C, (D + (H + three E 6 11 25 + ((E &&& F) ^^^ ((4294967295 - E) &&& G)) + x + y) % 4294967296) % 4294967296, E, F, G⟩ from rfl] at HX
      generalize (E &&& F) ^^^ ((4294967295 - E) &&& G) = q1 at *
      generalize (A &&& B) ^^^ (A &&& C) ^^^ (B &&& C) = q2 at *
      generalize three E 6 11 25 = q3 at *
      generalize three A 2 13 22 = q4 at *
      go_roundw
      case rel =>
        refine ⟨j + 1, by omega, ?_, ?_, ?_, ?_, ?_, ?_, ?_, ?_, by go_num, nw + nq, ?_⟩
        · rw [HX.out]; exact vint (by dsimp only; omega)
        · rw [HX.out]
        · rw [HX.out]
        · rw [HX.out]
        · rw [HX.out]; exact vint (by dsimp only; omega)
        · rw [HX.out]
        · rw [HX.out]
        · rw [HX.out]
        · rw [HW.out, World.drewN_drewN]
      case measure => simp [intOf]; omega
    · have hk : j = 64 := by omega
      subst hk
      have hok := rnds_ok kList L s hs 64
      generalize rnds kList L s 64 = r at *
      have K2' : Hid (wr.heap[w.heap.size + 1 + 1]? = some (.cells zs 65 (0, 0))) := by rw [hwr]; exact K2.out
      have KB' : Hid (Below w.heap.size w wr) := by rw [hwr]; exact KB.out.trans (below_drewN _ _)
      have M' : Hid _ := M0
      obtain ⟨l0, l1, l2, l3, l4, l5, l6, l7⟩ := M0.out
      replace l0 : wr.cell? ⟨w.heap.size, 0, none⟩ = some (.int .u32 s.a) := by rw [hwr]; exact l0
      replace l1 : wr.cell? ⟨w.heap.size, 1, none⟩ = some (.int .u32 s.b) := by rw [hwr]; exact l1
      replace l2 : wr.cell? ⟨w.heap.size, 2, none⟩ = some (.int .u32 s.c) := by rw [hwr]; exact l2
      replace l3 : wr.cell? ⟨w.heap.size, 3, none⟩ = some (.int .u32 s.d) := by rw [hwr]; exact l3
      replace l4 : wr.cell? ⟨w.heap.size, 4, none⟩ = some (.int .u32 s.e) := by rw [hwr]; exact l4
      replace l5 : wr.cell? ⟨w.heap.size, 5, none⟩ = some (.int .u32 s.f) := by rw [hwr]; exact l5
      replace l6 : wr.cell? ⟨w.heap.size, 6, none⟩ = some (.int .u32 s.g) := by rw [hwr]; exact l6
      replace l7 : wr.cell? ⟨w.heap.size, 7, none⟩ = some (.int .u32 s.h) := by rw [hwr]; exact l7
      obtain ⟨A, B, C, D, E, F, G, H⟩ := r
      obtain ⟨hA, hB, hC, hD, hE, hF, hG, hH⟩ := hok
      obtain ⟨gA, gB, gC, gD, gE, gF, gG, gH⟩ := hs
      simp only at hA hB hC hD hE hF hG hH
      clear hwr HW hat hL1
      go_wp2_with (refine wpList_store_row rfl 65 _ _ rfl (w.heap.size + 1 + 1) _ rfl rfl 65 _ K2'.out (by exact info49) (by rw [HZ.out]; rfl) (all8 _ _ _ _ _ _ _ _) ?_)
      have hv : stRow (turnSt s b) = #[.int .u32 (((s.a : Int) + A) % 4294967296), .int .u32 (((s.b : Int) + B) % 4294967296), .int .u32 (((s.c : Int) + C) % 4294967296), .int .u32 (((s.d : Int) + D) % 4294967296), .int .u32 (((s.e : Int) + E) % 4294967296), .int .u32 (((s.f : Int) + F) % 4294967296), .int .u32 (((s.g : Int) + G) % 4294967296), .int .u32 (((s.h : Int) + H) % 4294967296)] := by
        rw [HT.out]; simp [stRow, St.plus]
      refine bodyPost_ret (v := .agg _)
        (results_cell_row Tryd.results42 _ _ (w.heap.size + 1 + 1) 65 _ (0, 0) _ rfl (setRow_same K2'.out) Tryd.underlying65 rfl (by exact info49)) rfl ⟨by rw [hv], below_setRow KB'.out (by omega) _⟩
end Go.Proofs.YtfjlpialblllgaaDoor.STurn
