/- The program's New, Block, Gone, Records: the walks of their texts. No conditions but those that each lemma names. -/
import Derived.Test.YtopnodkdpehdoaaGreatDoorPgD
import Derived.Test.YtopnodkdpehdoaaGreatDoorRetW
namespace Go.Proofs.YtopnodkdpehdoaaGreatDoor.PgL
set_option linter.unusedVariables false
open Go.RowKit
open RecN RecC RetN RetC RetR DbN DbA MdN MdO MdC MdG AnsC PgN PgC PgI PgW PgX PgA PgR PgS PgM PgT PgD
open CloC (Ck)
set_option maxRecDepth 100000 in
theorem New_no (b lb f : Int) (w : World) (hg : GeoC.Bnd w) (hr : ¬ GeoN.right b lb f) : Calls Tryz.prog 10 #[.agg #[.int .i64 b, .int .i64 lb, .int .i64 f]] w fun x w' => x = .returned (.tuple #[.pointer none, .int .i64 2]) ∧ Below w.heap.size w w' := by
  obtain ⟨W1, hW1⟩ : ∃ W1, W1 = w.alloc (.cells #[.int .i64 b, .int .i64 lb, .int .i64 f] 23) := ⟨_, rfl⟩
  have BB : Hid (Below w.heap.size w W1) := Lib.hid (by rw [hW1]; exact below_new w _)
  have hk : W1.heap[w.heap.size]? = some (.cells #[.int .i64 b, .int .i64 lb, .int .i64 f] 23 (0, 0)) := by rw [hW1]; exact heap_alloc_new w _
  have c0 : W1.cell? ⟨w.heap.size, 0, none⟩ = some (.int .i64 b) := blk_cell hk rfl
  have c1 : W1.cell? ⟨w.heap.size, 1, none⟩ = some (.int .i64 lb) := blk_cell hk rfl
  have c2 : W1.cell? ⟨w.heap.size, 2, none⟩ = some (.int .i64 f) := blk_cell hk rfl
  have HC := Lib.hid (GeoD.Check b lb f W1 (hg.step BB.out))
  rw [GeoN.check_no hr] at HC
  clear hk hg hr
  go_enter Tryz.func10, Tryz.ntmps10
  go_upto_region 1 with (fail)
  rw [← hW1]
  clear hW1
  go_wp2_with (go_at_call 22; refine HC.out.mono ?_; rintro e w2 ⟨rfl, hb⟩; replace BB := Lib.hid (BB.out.trans (hb.mono BB.out.size)); clear hb HC)
  go_ret2
  exact ⟨rfl, BB.out⟩
/-- A model just made. -/
theorem made_pg {base K : Nat} {a : Pl} {b lb f : Int} {w w3 : World} (hg : Gd base w) (hbase : base ≤ w.heap.size) (hr : GeoN.right b lb f) (hb3 : Below w.heap.size w w3) (hK : w.heap.size ≤ K) (hk : Ck w3 K 0 true 0) (ha : a.from_ w.heap.size) (haK : a.from_ (K + 1)) (hbk : Book a (RetN.new f) w3) :
    Pg base ⟨w3.heap.size + 1, w3.heap.size, K, a, none, 0, none, 0⟩ (MdN.new b lb f) ((w3.alloc (.cells #[.int .i64 b, .int .i64 lb, .int .i64 f, .pointer (some ⟨K, 0, none⟩), .pointer (some ⟨a.b, 0, none⟩), .slice none 0 0, .slice none 0 0] 68)).alloc (.cells #[.pointer (some ⟨w3.heap.size, 0, none⟩)] 52)) ∧
    (∀ k, (⟨w3.heap.size + 1, w3.heap.size, K, a, none, 0, none, 0⟩ : Pm).foot k → w.heap.size ≤ k) ∧
    Below w.heap.size w ((w3.alloc (.cells #[.int .i64 b, .int .i64 lb, .int .i64 f, .pointer (some ⟨K, 0, none⟩), .pointer (some ⟨a.b, 0, none⟩), .slice none 0 0, .slice none 0 0] 68)).alloc (.cells #[.pointer (some ⟨w3.heap.size, 0, none⟩)] 52)) := by
  have hKl := hk.lt
  have hal : ∀ i, a.has i → i < w3.heap.size := fun i hi => book_lt hbk hi
  have hsz := hb3.size
  obtain ⟨W4, e4⟩ : ∃ W, W = w3.alloc (.cells #[.int .i64 b, .int .i64 lb, .int .i64 f, .pointer (some ⟨K, 0, none⟩), .pointer (some ⟨a.b, 0, none⟩), .slice none 0 0, .slice none 0 0] 68) := ⟨_, rfl⟩
  obtain ⟨W5, e5⟩ : ∃ W, W = W4.alloc (.cells #[.pointer (some ⟨w3.heap.size, 0, none⟩)] 52) := ⟨_, rfl⟩
  rw [← e4, ← e5]
  have s4 : W4.heap.size = w3.heap.size + 1 := by rw [e4]; simp
  have b4 : Below w3.heap.size w3 W4 := by rw [e4]; exact below_new _ _
  have b5 : Below W4.heap.size W4 W5 := by rw [e5]; exact below_new _ _
  have h4 : W4.heap[w3.heap.size]? = some (.cells #[.int .i64 b, .int .i64 lb, .int .i64 f, .pointer (some ⟨K, 0, none⟩), .pointer (some ⟨a.b, 0, none⟩), .slice none 0 0, .slice none 0 0] 68 (0, 0)) := by rw [e4]; exact heap_alloc_new w3 _
  have h5 : W5.heap[w3.heap.size + 1]? = some (.cells #[.pointer (some ⟨w3.heap.size, 0, none⟩)] 52 (0, 0)) := by rw [e5, ← s4]; exact heap_alloc_new W4 _
  have h45 := (b5.block w3.heap.size (by omega)).trans h4
  have bb : Below w.heap.size w W5 := (hb3.trans (b4.mono (by omega))).trans (b5.mono (by omega))
  have hf : ∀ k, (⟨w3.heap.size + 1, w3.heap.size, K, a, none, 0, none, 0⟩ : Pm).foot k → w.heap.size ≤ k := by
    rintro k ((e | e | e | e | e) | e)
    · dsimp only at e; omega
    · dsimp only at e; omega
    · dsimp only at e; omega
    · cases e
    · cases e
    · exact ha.le e
  have hfr : f ≤ 4294967295 := by unfold GeoN.right at hr; omega
  refine ⟨⟨h5, h45, (hk.step b4).step b5, (hbk.step b4).step b5, World.ownsRow_nil _ _ _ _, World.ownsRow_nil _ _ _ _, ?_, ⟨by dsimp only; omega, by dsimp only; omega⟩, ⟨(fun e => by cases e), (fun e => by cases e)⟩, fun i hi => Nat.le_trans hbase (hf i hi), ok_new hr, hfr, lo_new b lb f, hg.below bb hbase⟩, hf, bb⟩
  rintro i hi (e | e | e | e | e)
  · have := hal i hi; dsimp only at e; omega
  · have := hal i hi; dsimp only at e; omega
  · have := haK.le hi; dsimp only at e; omega
  · cases e
  · cases e
set_option maxRecDepth 100000 in
set_option maxHeartbeats 4000000 in
theorem New_yes (base : Nat) (b lb f : Int) (w : World) (hbase : base ≤ w.heap.size) (hg : Gd base w) (hr : GeoN.right b lb f) :
    Calls Tryz.prog 10 #[.agg #[.int .i64 b, .int .i64 lb, .int .i64 f]] w fun x w' => ∃ A : Pm, x = .returned (.tuple #[.pointer (some ⟨A.x, 0, none⟩), .int .i64 0]) ∧ Pg base A (MdN.new b lb f) w' ∧ (∀ k, A.foot k → w.heap.size ≤ k) ∧ Below w.heap.size w w' := by
  obtain ⟨W1, hW1⟩ : ∃ W1, W1 = w.alloc (.cells #[.int .i64 b, .int .i64 lb, .int .i64 f] 23) := ⟨_, rfl⟩
  have BB : Hid (Below w.heap.size w W1) := Lib.hid (by rw [hW1]; exact below_new w _)
  have hk : W1.heap[w.heap.size]? = some (.cells #[.int .i64 b, .int .i64 lb, .int .i64 f] 23 (0, 0)) := by rw [hW1]; exact heap_alloc_new w _
  have HK := Lib.hid hk
  have c0 : W1.cell? ⟨w.heap.size, 0, none⟩ = some (.int .i64 b) := blk_cell hk rfl
  have c1 : W1.cell? ⟨w.heap.size, 1, none⟩ = some (.int .i64 lb) := blk_cell hk rfl
  have c2 : W1.cell? ⟨w.heap.size, 2, none⟩ = some (.int .i64 f) := blk_cell hk rfl
  have HC := Lib.hid (GeoD.Check b lb f W1 (hg.b.step BB.out))
  rw [GeoN.check_yes hr] at HC
  have HCl := Lib.hid (fun W => CloM.New_yes 0 W (by decide) (by decide))
  have HBo := Lib.hid (fun W => RetW.New_yes f W (by unfold GeoN.right at hr; omega) (by unfold GeoN.right at hr; omega))
  have HM := Lib.hid (fun K a w3 => made_pg (K := K) (a := a) (w3 := w3) hg hbase hr)
  clear hk hg hr
  generalize RetN.new f = s0 at *
  generalize MdN.new b lb f = m0 at *
  go_enter Tryz.func10, Tryz.ntmps10
  go_upto_region 1 with (fail)
  rw [← hW1]
  clear hW1
  go_upto_region 4 with (go_at_call 22; refine HC.out.mono ?_; rintro e w2 ⟨rfl, hb⟩; replace BB := Lib.hid (BB.out.trans (hb.mono BB.out.size)); replace HK := Lib.hid ((hb.block _ (lt_of_some HK.out)).trans HK.out); clear hb HC)
  clear c0 c1 c2
  go_upto_region 5 with (go_at_call 23; refine (HCl.out _).mono ?_; rintro e w3 ⟨K, hK, rfl, hk, hb⟩; have KK := Lib.hid hk; have KL := Lib.hid (Nat.le_trans BB.out.size hK); replace BB := Lib.hid (BB.out.trans (hb.mono BB.out.size)); replace HK := Lib.hid ((hb.block _ (lt_of_some HK.out)).trans HK.out); clear hb hk hK HCl)
  have c2 : w3.cell? ⟨w.heap.size, 2, none⟩ = some (.int .i64 f) := blk_cell HK.out rfl
  go_upto_region 6 with (go_at_call 24; refine (HBo.out _).mono ?_; rintro e w4 ⟨a, rfl, ha, hbk, hb⟩; have AK : Hid (a.from_ (K + 1)) := Lib.hid (by have h1 := KK.out.lt; obtain ⟨q1, q2, q3, q4, q5, q6⟩ := ha; unfold Pl.from_; omega); have AA : Hid (a.from_ w.heap.size) := Lib.hid (by have h1 := BB.out.size; obtain ⟨q1, q2, q3, q4, q5, q6⟩ := ha; unfold Pl.from_; omega); have BK := Lib.hid hbk; replace KK := Lib.hid (KK.out.step hb); replace BB := Lib.hid (BB.out.trans (hb.mono BB.out.size)); replace HK := Lib.hid ((hb.block _ (lt_of_some HK.out)).trans HK.out); clear hb hbk ha HBo c2)
  have c0 : w4.cell? ⟨w.heap.size, 0, none⟩ = some (.int .i64 b) := blk_cell HK.out rfl
  have c1 : w4.cell? ⟨w.heap.size, 1, none⟩ = some (.int .i64 lb) := blk_cell HK.out rfl
  have c2 : w4.cell? ⟨w.heap.size, 2, none⟩ = some (.int .i64 f) := blk_cell HK.out rfl
  go_wp2_with fail
  go_ret2
  have hm := HM.out K a w4 BB.out KL.out KK.out AA.out AK.out BK.out
  exact ⟨⟨w4.heap.size + 1, w4.heap.size, K, a, none, 0, none, 0⟩, rfl, hm.1, hm.2.1, hm.2.2⟩
variable {base : Nat} {A : Pm} {m : Mo} {w : World}
set_option maxRecDepth 100000 in
set_option maxHeartbeats 4000000 in
/-- What Block tells: the newest version of just this epoch. -/
theorem Block (h : Pg base A m w) (ep lba : Int) : Calls Tryz.prog 19 #[.pointer (some ⟨A.x, 0, none⟩), .int .i64 ep, .int .i64 lba] w fun x w' => x = .returned (.tuple #[.string ⟨(nwR (bst m.vs lba ep ep)).1.da.toArray⟩, .bool (nwR (bst m.vs lba ep ep)).2]) ∧ Below w.heap.size w w' := by
  have HN := Lib.hid (isNone_no h)
  have HW := Lib.hid (newest h lba ep ep)
  have k0 := h.xcell
  have BB := Lib.hid (Below.refl w.heap.size w)
  clear h
  generalize nwR (bst m.vs lba ep ep) = y at *
  obtain ⟨v, q⟩ := y
  dsimp only at HW ⊢
  go_enter Tryz.func19, Tryz.ntmps19
  go_upto_region 4 with (first
    | (go_at_call 26; refine HN.out.mono ?_; rintro e _ ⟨rfl, rfl⟩)
    | (go_at_call 43; refine HW.out.mono ?_; rintro e w1 ⟨rfl, hb⟩; replace BB := Lib.hid hb; clear hb HW)
    | (refine wpList_store_row rfl 91 _ _ rfl w1.heap.size _ rfl rfl 91 _ (heap_alloc_new w1 _) infoP rfl (one3 v) ?_))
  generalize hW : World.setRow _ _ _ = W2
  replace BB := Lib.hid (BB.out.trans ((show Below w1.heap.size w1 W2 by rw [← hW]; exact kept_new w1 _ _ _).mono BB.out.size))
  have HB : Hid (Bp W2 w1.heap.size v) := Lib.hid (by rw [← hW]; exact has_new w1 _ _ _)
  clear hW
  have k2 : W2.cell? ⟨w1.heap.size, 2, none⟩ = some (.string ⟨v.da.toArray⟩) := blk_cell HB.out rfl
  generalize w1.heap.size = Y at *
  go_wp2_with fail
  go_ret2
  exact ⟨rfl, BB.out⟩
set_option maxRecDepth 100000 in
theorem Gone (h : Pg base A m w) (t : Int) (hw : Wf t) : Calls Tryz.prog 20 #[.pointer (some ⟨A.x, 0, none⟩), .int .i64 t] w fun x w' => x = .returned (.bool (m.s.gone t)) ∧ Below w.heap.size w w' := by
  have HN := Lib.hid (isNone_no h)
  have HG := Lib.hid (RetB.Gone h.bk t hw)
  have k0 := h.xcell
  obtain ⟨_, _, _, _, c4, _, _⟩ := h.cells
  clear h
  generalize m.s.gone t = q at *
  go_enter Tryz.func20, Tryz.ntmps20
  go_wp2_with (first
    | (go_at_call 26; refine HN.out.mono ?_; rintro e _ ⟨rfl, rfl⟩)
    | (go_at_call 44; refine HG.out.mono ?_; rintro e w2 ⟨rfl, hb⟩; have BB := Lib.hid hb; clear hb))
  go_ret
  exact ⟨rfl, BB.out⟩
end Go.Proofs.YtopnodkdpehdoaaGreatDoor.PgL
