/- IndexAsOf: at any row of at most 200 versions (longer ones: only the chapter's example), any place and any epoch from 0 to 2^32 - 1 (others: likewise): the newest version as of an epoch is the newest one of it, if there is one, else that as of the epoch ahead, and is one of those that were added. No conditions. -/
import Derived.Test.YtnebbbloipdnbaaIdxY
import Derived.Test.YtnebbbloipdnbaaIdxQ
import Derived.Test.YtnebbbloipdnbaaRows
import Derived.WalkKit
import Derived.ProofKit
import Derived.OpenShut
import Derived.ShutString
import Derived.ChangeOld
import Derived.Below
namespace Go.Proofs.Ytnebbbloipdnbaa.indexAsOf
open Go.ChangeShapes Go.WideShapes Go.ChangeAt Go.RowKit
open Go.ChangeMaps (open_string shut_string)
set_option linter.unusedVariables false
open IdxN IdxM IdxC IdxD IdxH IdxI IdxJ IdxK IdxV IdxW IdxY
set_option maxRecDepth 100000 in
set_option maxHeartbeats 1000000 in
theorem short (a : Option Addr) (n c : Nat) (lba ep : Int) (w : World) (hn : n ≤ maxLen) (h : 200 < n ∨ ep < 0 ∨ 4294967295 < ep) :
    Calls Try.prog 5 #[.slice a n c, .int .i64 lba, .int .i64 ep] w fun e w' => e = .returned (.bool true) ∧ Below w.heap.size w w' := by
  have HA := Lib.hid (IdxO.alive w)
  unfold maxLen at hn
  by_cases h0 : 200 < n
  · have h0' : decide ((200 : Int) < (n : Int)) = true := decide_eq_true (by omega)
    clear h h0
    go_enter Try.func5, Try.ntmps5
    go_wp2_with (go_at_call 7; refine HA.out.mono ?_; rintro e w1 ⟨rfl, hb⟩)
    go_ret
    exact ⟨rfl, hb⟩
  · have h0' : decide ((200 : Int) < (n : Int)) = false := decide_eq_false (by omega)
    by_cases h1 : ep < 0
    · clear h h0
      go_enter Try.func5, Try.ntmps5
      go_wp2_with (go_at_call 7; refine HA.out.mono ?_; rintro e w1 ⟨rfl, hb⟩)
      go_ret
      exact ⟨rfl, hb⟩
    · have h2 : 4294967295 < ep := by omega
      clear h h0
      go_enter Try.func5, Try.ntmps5
      go_wp2_with (go_at_call 7; refine HA.out.mono ?_; rintro e w1 ⟨rfl, hb⟩)
      go_ret
      exact ⟨rfl, hb⟩
theorem ways {r l : List V} {x y z : V × Bool} {lba ep : Int} (hm : ∀ v, v ∈ r → v ∈ l) (ht : Top (· ∈ r) (fun u => u.1 = lba ∧ u.2.1 ≤ ep) x) (hz : z = ofx x ep) (hno : z.2 = false → y = x) :
    (x = (z0, false) ∧ z = (z0, false) ∧ y = (z0, false)) ∨ (x.2 = true ∧ z = x ∧ x.1 ∈ l) ∨ (x.2 = true ∧ z = (z0, false) ∧ y = x ∧ x.1 ∈ l) := by
  cases hx : x.2 with
  | false =>
    have e := ht.none hx
    subst e
    have e2 : z = (z0, false) := by rw [hz]; rfl
    subst e2
    exact .inl ⟨rfl, rfl, hno rfl⟩
  | true =>
    have hmem := hm _ (ht.mem hx).1
    unfold ofx at hz
    rw [hx] at hz
    by_cases he : x.1.2.1 = ep
    · rw [if_pos ⟨rfl, he⟩] at hz
      exact .inr (.inl ⟨rfl, hz, hmem⟩)
    · rw [if_neg (fun h => he h.2)] at hz
      subst hz
      exact .inr (.inr ⟨rfl, rfl, hno rfl, hmem⟩)
/-- What stands while the statement runs. -/
structure As (w : World) (X : Nat) (r : List V) (a : Option Addr) (l : List V) (W : World) : Prop where
  bel : Below w.heap.size w W
  rd : Rd (some ⟨X, 0, none⟩) r W
  lies : Lies W a l
theorem As.step {w W W' : World} {X : Nat} {r l : List V} {a : Option Addr} (h : As w X r a l W) (hb : Below W.heap.size W W') : As w X r a l W' := ⟨h.bel.trans (hb.mono h.bel.size), h.rd.step hb, h.lies.step hb⟩
set_option maxRecDepth 100000 in
set_option maxHeartbeats 4000000 in
theorem long (a : Option Addr) (n c : Nat) (l : List V) (lba ep : Int) (w : World) (hz : Vers w a n l) (hn : n ≤ 200) (h1 : 0 ≤ ep) (h2 : ep ≤ 4294967295) :
    Calls Try.prog 5 #[.slice a n c, .int .i64 lba, .int .i64 ep] w fun e w' => e = .returned (.bool true) ∧ Below w.heap.size w w' := by
  obtain ⟨rfl, _, hlies⟩ := hz
  have HL := Lib.hid hlies
  have HO := Lib.hid (IdxO.of a c l w hlies (by omega))
  have hso := ofL_sorted l
  have hle := ofL_length l
  have hmem : ∀ v, v ∈ ofL l → v ∈ l := fun v h => ((mem_ofL l v).1 h).1
  have h0' : decide ((200 : Int) < (l.length : Int)) = false := decide_eq_false (by omega)
  have h1' : decide (ep < 0) = false := decide_eq_false (by omega)
  have h2' : decide (4294967295 < ep) = false := decide_eq_false (by omega)
  have HI := Lib.hid (fun v W (h : Lies W a l) => IdxQ.In a c l v W h (by omega))
  generalize ofL l = r at *
  have HN := Lib.hid (fun X W (h : Rd (some ⟨X, 0, none⟩) r W) => Newest (some ⟨X, 0, none⟩) r lba ep W h (by omega) hso)
  have HN1 := Lib.hid (fun X W (h : Rd (some ⟨X, 0, none⟩) r W) => Newest (some ⟨X, 0, none⟩) r lba (ep - 1) W h (by omega) hso)
  have HF := Lib.hid (fun X W (h : Rd (some ⟨X, 0, none⟩) r W) => Of (some ⟨X, 0, none⟩) r lba ep W h (by omega) hso)
  have HW := Lib.hid (ways hmem (newest_top hso lba ep) (of_eq r lba ep) (asOf_no hso lba ep))
  clear hlies hso hle hmem
  generalize newest r lba (ep - 1) = y at *
  generalize newest r lba ep = x at *
  generalize IdxM.of r lba ep = z at *
  go_enter Try.func5, Try.ntmps5
  go_upto_region 4 with (go_at_call 22; refine HO.out.mono ?_; rintro e w1 ⟨X, H, v, rfl, hix, hb⟩; have A1 : Hid (As w X r a l w1) := Lib.hid ⟨hb, IdxW.Ix.rd hix, HL.out.step hb⟩; clear hix hb)
  obtain ⟨⟨v0, v1, v2⟩, is⟩ := x
  obtain ⟨⟨z0', z1', z2'⟩, so⟩ := z
  go_upto_region 5 with (first
    | (go_at_call 11; refine (HN.out _ _ A1.out.rd).mono ?_; rintro e w2 ⟨rfl, hb⟩; have A2 := Lib.hid (A1.out.step hb); clear hb)
    | (refine wpList_store_row rfl 27 _ _ rfl w2.heap.size _ rfl rfl 27 _ (heap_alloc_new w2 _) infoV rfl (one3 (v0, v1, v2)) ?_))
  generalize hW : World.setRow _ _ _ = W3
  have b3 : Below w2.heap.size w2 W3 := by rw [← hW]; exact kept_new w2 _ _ _
  have g3 : W3.heap[w2.heap.size]? = some (.cells #[.int .i64 v0, .int .i64 v1, .int .i64 v2] 27 (0, 0)) := by rw [← hW]; exact has_new w2 _ _ _
  have A3 := Lib.hid (A2.out.step b3)
  have G3 := Lib.hid g3
  clear hW b3 g3 A2 A1 HN
  generalize w2.heap.size = X3 at *
  go_upto_region 6 with (first
    | (go_at_call 13; refine (HF.out _ _ A3.out.rd).mono ?_; rintro e w4 ⟨rfl, hb⟩; have A4 := Lib.hid (A3.out.step hb); have G4 := Lib.hid ((hb.block _ (lt_of G3.out)).trans G3.out); clear hb)
    | (refine wpList_store_row rfl 27 _ _ rfl w4.heap.size _ rfl rfl 27 _ (heap_alloc_new w4 _) infoV rfl (one3 (z0', z1', z2')) ?_))
  generalize hW : World.setRow _ _ _ = W5
  have b5 : Below w4.heap.size w4 W5 := by rw [← hW]; exact kept_new w4 _ _ _
  have g5 : W5.heap[w4.heap.size]? = some (.cells #[.int .i64 z0', .int .i64 z1', .int .i64 z2'] 27 (0, 0)) := by rw [← hW]; exact has_new w4 _ _ _
  have A5 := Lib.hid (A4.out.step b5)
  have G5 := Lib.hid g5
  have G5' := Lib.hid ((b5.block _ (lt_of G4.out)).trans G4.out)
  clear hW b5 g5 A4 A3 G3 G4 HF
  generalize w4.heap.size = X5 at *
  have c0 : W5.cell? ⟨X3, 0, none⟩ = some (.int .i64 v0) := blk_cell G5'.out rfl
  have c1 : W5.cell? ⟨X3, 1, none⟩ = some (.int .i64 v1) := blk_cell G5'.out rfl
  have c2 : W5.cell? ⟨X3, 2, none⟩ = some (.int .i64 v2) := blk_cell G5'.out rfl
  have HI' := Lib.hid (HI.out (v0, v1, v2) W5 A5.out.lies)
  rcases HW.out with ⟨hx, hz, hy⟩ | ⟨hx, hz, hq⟩ | ⟨hx, hz, hy, hq⟩
  · cases hx
    cases hz
    subst hy
    dsimp only at HI'
    have hE := fun W => run_eql_ver W (0, 0, 0) (0, 0, 0)
    have hd : decide (((0, 0, 0) : V) = (0, 0, 0)) = true := decide_eq_true rfl
    rw [hd] at hE
    dsimp only at hE
    clear hd
    cases hq : decide (((0, 0, 0) : V) ∈ l) <;> rw [hq] at HI'
    all_goals
      clear hq HW HI HO
      go_upto_region 10 with (go_at_call 23; refine HI'.out.mono ?_; rintro e w6 ⟨rfl, hb⟩; have A6 := Lib.hid (A5.out.step hb); have G6 := Lib.hid ((hb.block _ (lt_of G5.out)).trans G5.out); have G6' := Lib.hid ((hb.block _ (lt_of G5'.out)).trans G5'.out); clear hb c0 c1 c2)
      go_upto_region 11 with (first
        | (go_at_call 11; refine (HN1.out _ _ A6.out.rd).mono ?_; rintro e w7 ⟨rfl, hb⟩; have A7 := Lib.hid (A6.out.step hb); have G7' := Lib.hid ((hb.block _ (lt_of G6'.out)).trans G6'.out); clear hb)
        | (refine wpList_store_row rfl 27 _ _ rfl w7.heap.size _ rfl rfl 27 _ (heap_alloc_new w7 _) infoV rfl (one3 (0, 0, 0)) ?_))
      generalize hW : World.setRow _ _ _ = W8
      have b8 : Below w7.heap.size w7 W8 := by rw [← hW]; exact kept_new w7 _ _ _
      have g8 : W8.heap[w7.heap.size]? = some (.cells #[.int .i64 0, .int .i64 0, .int .i64 0] 27 (0, 0)) := by rw [← hW]; exact has_new w7 _ _ _
      have A8 := Lib.hid (A7.out.step b8)
      have g8' := (b8.block _ (lt_of G7'.out)).trans G7'.out
      clear hW b8
      have c0 : W8.cell? ⟨X3, 0, none⟩ = some (.int .i64 0) := blk_cell g8' rfl
      have c1 : W8.cell? ⟨X3, 1, none⟩ = some (.int .i64 0) := blk_cell g8' rfl
      have c2 : W8.cell? ⟨X3, 2, none⟩ = some (.int .i64 0) := blk_cell g8' rfl
      have d0 : W8.cell? ⟨w7.heap.size, 0, none⟩ = some (.int .i64 0) := blk_cell g8 rfl
      have d1 : W8.cell? ⟨w7.heap.size, 1, none⟩ = some (.int .i64 0) := blk_cell g8 rfl
      have d2 : W8.cell? ⟨w7.heap.size, 2, none⟩ = some (.int .i64 0) := blk_cell g8 rfl
      clear g8 g8'
      go_wp2_with (go_at_call 7; refine (IdxO.alive _).mono ?_; rintro e w9 ⟨rfl, hb⟩; have A9 := Lib.hid (A8.out.step hb); clear hb)
      go_ret
      exact ⟨rfl, A9.out.bel⟩
  · cases hx
    cases hz
    have HI'' := HI'
    rw [decide_eq_true hq] at HI''
    clear HI'
    have HI' := HI''
    dsimp only at HI'
    have hE := fun W => run_eql_ver W (v0, v1, v2) (v0, v1, v2)
    have hd : decide (((v0, v1, v2) : V) = (v0, v1, v2)) = true := decide_eq_true rfl
    rw [hd] at hE
    dsimp only at hE
    clear hd
    clear hq HW HI HO HI'' HN1
    go_upto_region 9 with (go_at_call 23; refine HI'.out.mono ?_; rintro e w6 ⟨rfl, hb⟩; have A6 := Lib.hid (A5.out.step hb); have G6 := Lib.hid ((hb.block _ (lt_of G5.out)).trans G5.out); have G6' := Lib.hid ((hb.block _ (lt_of G5'.out)).trans G5'.out); clear hb c0 c1 c2)
    have c0 : w6.cell? ⟨X3, 0, none⟩ = some (.int .i64 v0) := blk_cell G6'.out rfl
    have c1 : w6.cell? ⟨X3, 1, none⟩ = some (.int .i64 v1) := blk_cell G6'.out rfl
    have c2 : w6.cell? ⟨X3, 2, none⟩ = some (.int .i64 v2) := blk_cell G6'.out rfl
    have d0 : w6.cell? ⟨X5, 0, none⟩ = some (.int .i64 v0) := blk_cell G6.out rfl
    have d1 : w6.cell? ⟨X5, 1, none⟩ = some (.int .i64 v1) := blk_cell G6.out rfl
    have d2 : w6.cell? ⟨X5, 2, none⟩ = some (.int .i64 v2) := blk_cell G6.out rfl
    go_wp2_with (go_at_call 7; refine (IdxO.alive _).mono ?_; rintro e w9 ⟨rfl, hb⟩; have A9 := Lib.hid (A6.out.step hb); clear hb)
    go_ret
    exact ⟨rfl, A9.out.bel⟩
  · cases hx
    cases hz
    subst hy
    have HI'' := HI'
    rw [decide_eq_true hq] at HI''
    clear HI'
    have HI' := HI''
    dsimp only at HI'
    have hE := fun W => run_eql_ver W (v0, v1, v2) (v0, v1, v2)
    have hd : decide (((v0, v1, v2) : V) = (v0, v1, v2)) = true := decide_eq_true rfl
    rw [hd] at hE
    dsimp only at hE
    clear hd
    clear hq HW HI HO HI''
    go_upto_region 10 with (go_at_call 23; refine HI'.out.mono ?_; rintro e w6 ⟨rfl, hb⟩; have A6 := Lib.hid (A5.out.step hb); have G6 := Lib.hid ((hb.block _ (lt_of G5.out)).trans G5.out); have G6' := Lib.hid ((hb.block _ (lt_of G5'.out)).trans G5'.out); clear hb c0 c1 c2)
    go_upto_region 11 with (first
      | (go_at_call 11; refine (HN1.out _ _ A6.out.rd).mono ?_; rintro e w7 ⟨rfl, hb⟩; have A7 := Lib.hid (A6.out.step hb); have G7' := Lib.hid ((hb.block _ (lt_of G6'.out)).trans G6'.out); clear hb)
      | (refine wpList_store_row rfl 27 _ _ rfl w7.heap.size _ rfl rfl 27 _ (heap_alloc_new w7 _) infoV rfl (one3 (v0, v1, v2)) ?_))
    generalize hW : World.setRow _ _ _ = W8
    have b8 : Below w7.heap.size w7 W8 := by rw [← hW]; exact kept_new w7 _ _ _
    have g8 : W8.heap[w7.heap.size]? = some (.cells #[.int .i64 v0, .int .i64 v1, .int .i64 v2] 27 (0, 0)) := by rw [← hW]; exact has_new w7 _ _ _
    have A8 := Lib.hid (A7.out.step b8)
    have g8' := (b8.block _ (lt_of G7'.out)).trans G7'.out
    clear hW b8
    have c0 : W8.cell? ⟨X3, 0, none⟩ = some (.int .i64 v0) := blk_cell g8' rfl
    have c1 : W8.cell? ⟨X3, 1, none⟩ = some (.int .i64 v1) := blk_cell g8' rfl
    have c2 : W8.cell? ⟨X3, 2, none⟩ = some (.int .i64 v2) := blk_cell g8' rfl
    have d0 : W8.cell? ⟨w7.heap.size, 0, none⟩ = some (.int .i64 v0) := blk_cell g8 rfl
    have d1 : W8.cell? ⟨w7.heap.size, 1, none⟩ = some (.int .i64 v1) := blk_cell g8 rfl
    have d2 : W8.cell? ⟨w7.heap.size, 2, none⟩ = some (.int .i64 v2) := blk_cell g8 rfl
    clear g8 g8'
    go_wp2_with (go_at_call 7; refine (IdxO.alive _).mono ?_; rintro e w9 ⟨rfl, hb⟩; have A9 := Lib.hid (A8.out.step hb); clear hb)
    go_ret
    exact ⟨rfl, A9.out.bel⟩
theorem walk (a : Option Addr) (n c : Nat) (l : List V) (lba ep : Int) (w : World) (wl : Vers w a n l) (w1 : (Lit.int .i64 lba).wf = true) (w2 : (Lit.int .i64 ep).wf = true) :
    Calls Try.prog 5 #[.slice a n c, .int .i64 lba, .int .i64 ep] w fun e w' => e = .returned (.bool true) ∧ Below w.heap.size w w' := by
  by_cases h : 200 < n ∨ ep < 0 ∨ 4294967295 < ep
  · exact short a n c lba ep w wl.2.1 h
  · exact long a n c l lba ep w wl (by omega) (by omega) (by omega)
theorem own : ownKnob Try.prog.godebug = none := by kernel_rfl
theorem laidOut : laidOutB Try.prog = true := by kernel_rfl
set_option maxRecDepth 100000 in
theorem lifted (os : Os) (started : os.Started) (H : Type) (enc : TypeId × Value → H) :
    ReturnsInHanded {} Try.checked os 5 .any (Rows.indexAsOfSpec.pre6 enc Try.prog Try.f5 Rows.indexAsOfRow.domain false) (Rows.indexAsOfSpec.post enc Try.prog Try.f5 false true false false) := by
  refine returnsInHanded_of_change (C := Try.checked) own started (by kernel_rfl) Try.func5
    (ChangeSpec.witness6 (enc := enc) (C := Try.checked) false ⟨#[], #[.slice none 0 0, .int .i64 0, .int .i64 0], []⟩ 8 (by kernel_rfl) (by kernel_rfl) (by kernel_rfl) (by kernel_rfl)) ?_
  intro W base args ds gs before hval0 hW hcnd _
  have hval : ∀ (j : Nat) t v, Try.f5.params[j]? = some t → args[j]? = some v → Value.okWide Try.prog W .any base t v := hval0
  have hW' := hW
  obtain ⟨p, q, hA0, hV, rfl, hfz, hnd⟩ := hW
  have hA : DataW.TrodAll enc Try.prog W 0 (fun _ => true) true Try.f5.params.toList args.toList ds p := hA0
  rw [Try.params5] at hA hval
  obtain ⟨v0, vs0, d0, ds0, p0, q0, hargs, rfl, rfl, h0, r0⟩ := trodAll_cons hA
  obtain ⟨v1, vs1, d1, ds1, p1, q1, rfl, rfl, rfl, h1, r1⟩ := trodAll_cons r0
  obtain ⟨v2, vs2, d2, ds2, p2, q2, rfl, rfl, rfl, h2, r2⟩ := trodAll_cons r1
  obtain ⟨rfl, rfl, rfl⟩ := trodAll_nil r2
  obtain rfl : args = #[v0, v1, v2] := by cases args; simp_all
  obtain ⟨rfl, rfl⟩ := trodVars_none hV
  have k0 := h0
  have lt0 : ∀ x ∈ p0, x.block < W.heap.size := by obtain ⟨m, hm⟩ := k0; exact DataW.trod_lt m _ _ _ hm
  obtain ⟨b0, len0, ca0, rfl⟩ := okWide_slice Try.underlying22 (hval 0 22 v0 rfl rfl)
  obtain ⟨a0, n0, cap0, z0, he0, w0⟩ := IdxY.open_vers h0
  simp only [Value.cells, List.cons.injEq, Value.slice.injEq, and_true] at he0
  obtain ⟨rfl, rfl, rfl⟩ := he0
  obtain ⟨a1, rfl, rfl, rfl, w1⟩ := open_int Try.underlying3 (hval 1 3 v1 rfl rfl) h1
  obtain ⟨a2, rfl, rfl, rfl, w2⟩ := open_int Try.underlying3 (hval 2 3 v2 rfl rfl) h2
  clear hA0 hval0
  refine (walk b0 len0 ca0 z0 a1 a2 W w0 w1 w2).mono fun e W' ⟨he, bel⟩ => ?_
  subst he
  exact ⟨_, rfl, _, _, _, [], _, [], hW', trodAll_mk1 (shut_bool Try.underlying4 _), (trodAll_cons_mk (Below.trod laidOut (by kernel_rfl) (of_decide_eq_true (by kernel_rfl)) k0 bel lt0) (trodAll_cons_mk (shut_int Try.underlying3 w1) (trodAll_cons_mk (shut_int Try.underlying3 w2) trodAll_mk0))), rfl, bel.frame _, fun h => by cases h⟩
theorem over : Rows.indexAsOfRow.holds Try.pinned (OpenSpec.ofChange Rows.indexAsOfSpec) :=
  OpenClaim.holds_of_wide 5 Try.f5 rfl rfl rfl rfl rfl rfl rfl ⟨rfl, rfl, rfl, rfl, rfl⟩ rfl rfl rfl rfl rfl (by kernel_rfl) Try.func5 (by kernel_rfl)
    (of_decide_eq_true (by kernel_rfl)) (by unfold Func.isWrapper; first | (rw [if_pos (by decide +kernel)]; kernel_rfl) | (rw [if_neg (by decide +kernel)]; exact ⟨rfl, rfl⟩))
    (fun os started H enc _ => lifted os started H enc)
/-- THE STATEMENT, proved. -/
theorem proved : Rows.IndexAsOfSaid := over
#print axioms proved
end Go.Proofs.Ytnebbbloipdnbaa.indexAsOf
