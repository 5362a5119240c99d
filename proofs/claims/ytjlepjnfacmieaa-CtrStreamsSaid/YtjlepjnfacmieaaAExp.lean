/- What aes.expanded answers: the walk of its text. The condition: the table lies in memory. -/
import Derived.Test.YtjlepjnfacmieaaAForth
import Derived.Test.YtjlepjnfacmieaaACopy
import Derived.Laws.Cover3
namespace Go.Proofs.Ytjlepjnfacmieaa.AExp
open Go.RowKit
open AesM ADbl ATab AFill AOps AMix AForth ASub ACopy
theorem zero176' : (Try.prog.info? 70).map (·.zero) = some (some (.agg (bytesRow (List.replicate 176 0)))) := by kernel_rfl
theorem info176 : (Try.prog.info? 70).map (·.size) = some 176 := by kernel_rfl
theorem zero176 : ∃ zs : Array Value, zs = bytesRow (List.replicate 176 0) ∧ zs.size = 176 ∧ ¬ zs = #[] ∧ ∀ w, (zeroValue 70).run Try.prog w = .ok (.agg zs) w :=
  ⟨_, rfl, by rw [bytesRow_size, List.length_replicate], (fun h => by have := congrArg Array.size h; rw [bytesRow_size, List.length_replicate] at this; cases this), fun w => zero_of zero176' w⟩
theorem size8 (W : World) : (Go.sizeOf 5).run Try.prog W = .ok 1 W := by kernel_rfl
theorem arr176 : Try.prog.arrayLen 70 = 176 := by kernel_rfl
theorem und176 : Try.prog.underlying 70 = some (.array (Try.prog.arrayLen 70) (Try.prog.elem 70)) := by kernel_rfl
theorem size176 (W : World) : (sizeOf (Try.prog.elem 70)).run Try.prog W = .ok 1 W := by kernel_rfl
theorem sliceAll (g o : Nat) (W : World) : (Instr.sliceAt 70 (.pointer (some ⟨g, o, none⟩)) none none none).run Try.prog W = .ok (.slice (some ⟨g, o, none⟩) 176 176) W := by
  rw [run_sliceAt_array_all W _ _ und176, size176, arr176]
  have ha : (⟨g, o, none⟩ : Addr).add 0 = ⟨g, o, none⟩ := by unfold Addr.add; split <;> simp_all
  simp [slicedAt, ha]
theorem sliceFour (g p : Nat) (hp : p + 4 ≤ 176) (W : World) : (Instr.sliceAt 70 (.pointer (some ⟨g, 0, none⟩)) (some (.int .i64 (p : Int))) (some (.int .i64 ((p + 4 : Nat) : Int))) none).run Try.prog W = .ok (.slice (some ⟨g, p, none⟩) 4 (176 - p)) W := by
  rw [run_sliceAt_array_lh W _ _ und176 _ _ _ _ (by omega) (by omega) (by rw [arr176]; omega), size176, arr176]
  have ha : (⟨g, 0, none⟩ : Addr).add p = ⟨g, p, none⟩ := by unfold Addr.add; split <;> simp_all
  have h1 : ((p : Int) + 4).toNat - p = 4 := by omega
  simp [slicedAt, ha, h1, show ¬ 176 = p from by omega]
theorem row_some {W : World} {g : Nat} {l : List UInt8} {ty : TypeId} {f : Nat × Nat} (h : W.heap[g]? = some (.cells (bytesRow l) ty f)) (j : Nat) (hj : j < l.length) : (W.cell? ⟨g, j, none⟩).isSome = true := by
  rw [blk_cell h (byte_at l j hj)]; rfl
def erow (t k : List UInt8) (j : Nat) : List UInt8 := expTo t k j ++ List.replicate (160 - 4 * j) 0
theorem erow_len (t k : List UInt8) (j : Nat) (h : k.length = 16) (hj : j ≤ 40) : (erow t k j).length = 176 := by
  rw [erow, List.length_append, expTo_length t k j h, List.length_replicate]; omega
theorem erow_zero (k : List UInt8) (t : List UInt8) (h : k.length = 16) : (List.replicate 176 (0 : UInt8)).take 0 ++ k ++ (List.replicate 176 (0 : UInt8)).drop (0 + k.length) = erow t k 0 := by
  rw [erow, expTo, h]
  simp
def irow (t k : List UInt8) (j q : Nat) : List UInt8 := expTo t k j ++ ((word t (expTo t k j) (powTo j)).take q ++ List.replicate (160 - 4 * j - q) 0)
theorem irow_zero (t k : List UInt8) (j : Nat) : irow t k j 0 = erow t k j := by simp [irow, erow]
theorem irow_four (t k : List UInt8) (j : Nat) : irow t k j 4 = erow t k (j + 1) := by
  rw [irow, erow, expTo, List.take_of_length_le (by rw [word_length]; exact Nat.le_refl _), List.append_assoc, show 160 - 4 * j - 4 = 160 - 4 * (j + 1) from by omega]
theorem irow_len (t k : List UInt8) (j q : Nat) (h : k.length = 16) (hj : j < 40) (hq : q ≤ 4) : (irow t k j q).length = 176 := by
  rw [irow, List.length_append, List.length_append, expTo_length t k j h, List.length_take, word_length, List.length_replicate]; omega
theorem irow_next (t k : List UInt8) (j q : Nat) (h : k.length = 16) (hj : j < 40) (hq : q < 4) :
    (irow t k j q).set (16 + 4 * j + q) ((expTo t k j).getD (4 * j + q) 0 ^^^ (hold t (expTo t k j) (powTo j)).getD q 0) = irow t k j (q + 1) := by
  have hl := expTo_length t k j h
  have hw := word_length t (expTo t k j) (powTo j)
  have e : (expTo t k j).getD (4 * j + q) 0 ^^^ (hold t (expTo t k j) (powTo j)).getD q 0 = (word t (expTo t k j) (powTo j)).getD q 0 := by
    simp [word, List.getD, hl, hq, show 16 + 4 * j - 16 = 4 * j from by omega]
  rw [e]
  clear e
  unfold irow
  generalize word t (expTo t k j) (powTo j) = wd at *
  generalize expTo t k j = l at *
  have e2 : wd.getD q 0 = wd[q]'(by omega) := by simp [List.getD, show q < wd.length from by omega]
  rw [List.set_append_right _ _ (by omega), hl, show 16 + 4 * j + q - (16 + 4 * j) = q from by omega, List.set_append_right _ _ (by rw [List.length_take]; omega), List.length_take, Nat.min_eq_left (by omega), Nat.sub_self]
  rw [show 160 - 4 * j - q = (160 - 4 * j - (q + 1)) + 1 from by omega, List.replicate_succ, List.set_cons_zero, List.take_succ_eq_append_getElem (by omega), List.append_assoc, e2]
  rfl
theorem irow_at (t k : List UInt8) (j q i : Nat) (h : k.length = 16) (hi : i < 16 + 4 * j) : (irow t k j q).getD i 0 = (expTo t k j).getD i 0 := by
  rw [irow, List.getD, List.getElem?_append_left (by rw [expTo_length t k j h]; exact hi), List.getD]
theorem erow_at (t k : List UInt8) (j i : Nat) (h : k.length = 16) (hi : i < 16 + 4 * j) : (erow t k j).getD i 0 = (expTo t k j).getD i 0 := by
  rw [← irow_zero]; exact irow_at t k j 0 i h hi
theorem hold_no (t k : List UInt8) (j : Nat) (h : k.length = 16) (hj : ¬ j % 4 = 0) (a b c d : UInt8) (ha : (erow t k j).getD (12 + 4 * j) 0 = a) (hb : (erow t k j).getD (12 + 4 * j + 1) 0 = b) (hc : (erow t k j).getD (12 + 4 * j + 2) 0 = c) (hd : (erow t k j).getD (12 + 4 * j + 3) 0 = d) :
    hold t (expTo t k j) (powTo j) = [a, b, c, d] := by
  have hl := expTo_length t k j h
  rw [erow_at _ _ _ _ h (by omega)] at ha hb hc hd
  rw [hold, if_neg (by rw [hl]; omega), hl, show 16 + 4 * j - 4 = 12 + 4 * j from by omega, show 16 + 4 * j - 3 = 12 + 4 * j + 1 from by omega, show 16 + 4 * j - 2 = 12 + 4 * j + 2 from by omega, show 16 + 4 * j - 1 = 12 + 4 * j + 3 from by omega, ha, hb, hc, hd]
theorem hold_yes (t k : List UInt8) (j : Nat) (h : k.length = 16) (hj : j % 4 = 0) (a b c d : UInt8) (ha : (erow t k j).getD (12 + 4 * j) 0 = a) (hb : (erow t k j).getD (12 + 4 * j + 1) 0 = b) (hc : (erow t k j).getD (12 + 4 * j + 2) 0 = c) (hd : (erow t k j).getD (12 + 4 * j + 3) 0 = d) :
    hold t (expTo t k j) (powTo j) = [t.getD b.toNat 0 ^^^ powTo j, t.getD c.toNat 0, t.getD d.toNat 0, t.getD a.toNat 0] := by
  have hl := expTo_length t k j h
  rw [erow_at _ _ _ _ h (by omega)] at ha hb hc hd
  rw [hold, if_pos (by rw [hl]; omega), hl, show 16 + 4 * j - 4 = 12 + 4 * j from by omega, show 16 + 4 * j - 3 = 12 + 4 * j + 1 from by omega, show 16 + 4 * j - 2 = 12 + 4 * j + 2 from by omega, show 16 + 4 * j - 1 = 12 + 4 * j + 3 from by omega, ha, hb, hc, hd]
set_option maxRecDepth 100000 in
set_option linter.unusedSimpArgs false in
set_option maxHeartbeats 4000000 in
theorem expanded (k : List UInt8) (g o : Nat) (t : List UInt8) (w : World) (hl : k.length = 16) (ht : TabAt w g o t) :
    Calls Try.prog 34 #[.string ⟨k.toArray⟩, .pointer (some ⟨g, o, none⟩)] w fun e w' => e = .returned (.agg (bytesRow (expL t k))) ∧ Below w.heap.size w w' := by
  obtain ⟨zs, hzs, hsz, hne, hzv⟩ := zero176
  have HT := Lib.hid ht
  have HL := Lib.hid hl
  have HZS := Lib.hid hzs
  have hsl := sliceAll (w.heap.size + 1) 0
  clear ht hl hzs
  go_enter Try.func34, Try.ntmps34
  go_upto_region 2 with (fail)
  generalize hW : World.alloc (World.alloc w _) _ = W0
  have HZ : Hid (W0.heap[w.heap.size]? = some (.cells zs 70 (0, 0))) := by show _ = _; rw [← hW]; exact heap_alloc2_old w _ _
  have HB : Hid (W0.heap[w.heap.size + 1]? = some (.cells (bytesRow (List.replicate 176 0)) 70 (0, 0))) := by show _ = _; rw [← hW, ← HZS.out]; exact heap_alloc2_new w _ _
  have HBL : Hid (Below w.heap.size w W0) := by show Below _ _ _; rw [← hW]; exact ((Below.refl _ _).alloc (Nat.le_refl _) _).alloc (by simp) _
  have hsome : ∀ j, j < 16 → (W0.cell? ⟨w.heap.size + 1, 0 + j, none⟩).isSome = true := by
    intro j hj
    rw [Nat.zero_add]
    exact row_some HB.out j (by rw [List.length_replicate]; omega)
  have hfree : ∀ j, j < 16 → W0.frozen? ⟨w.heap.size + 1, 0 + j, none⟩ = false := fun j _ => blk_free HB.out
  have HSm := Lib.hid hsome
  have HFr := Lib.hid hfree
  have hmin : 16 = Nat.min k.length 176 := by rw [HL.out]; rfl
  have HMin := Lib.hid hmin
  clear hW hsome hfree hmin
  go_upto_region 3 with (refine wpList_copy_str rfl _ _ 42 9 rfl 5 Try.underlying42 size8 (w.heap.size + 1) 0 176 176 16 k rfl rfl HMin.out HSm.out HFr.out ?_)
  generalize hW : World.setCells _ _ _ _ = W1
  have htk : k.take 16 = k := List.take_of_length_le (by rw [HL.out]; exact Nat.le_refl _)
  replace HB : Hid (W1.heap[w.heap.size + 1]? = some (.cells (bytesRow (erow t k 0)) 70 (0, 0))) := by
    have h := setCells_blk (bl (k.take 16)) 0 (bl (List.replicate 176 0)) W0 (by rw [← bytes_bl, Array.toArray_toList]; exact HB.out) (by rw [htk, bl, bl, List.length_map, List.length_map, HL.out, List.length_replicate]; omega)
    rw [htk] at h
    show _ = _
    rw [← hW, htk, h, ← erow_zero k t HL.out]
    rw [bl, bl, ← List.map_take, ← List.map_drop, ← List.map_append, List.length_map, ← List.map_append]
    rfl
  replace HZ : Hid (W1.heap[w.heap.size]? = some (.cells zs 70 (0, 0))) := by
    have h0 : Below (w.heap.size + 1) W0 W1 := by rw [← hW]; exact below_setCells (Nat.le_refl _) _ _ _ (Below.refl _ _)
    exact (h0.block _ (by omega)).trans HZ.out
  replace HBL : Hid (Below w.heap.size w W1) := by
    show Below _ _ _
    rw [← hW]
    exact below_setCells (by omega) _ _ _ HBL.out
  clear hW htk HSm HFr HMin HZS hne hzv hsl
  go_wp2_with fail
  go_loopw [6, 7] (fun p i wr => ∃ j m : Nat, j ≤ 40 ∧ m = 16 + 4 * j ∧ i = .int .i64 m ∧ p = .int .u8 (powTo j).toNat ∧ wr.heap[w.heap.size + 1]? = some (.cells (bytesRow (erow t k j)) 70 (0, 0)) ∧ wr.heap[w.heap.size]? = some (.cells zs 70 (0, 0)) ∧ Below w.heap.size w wr) (fun _ i _ => 176 - (intOf i).toNat)
  case atStart => exact ⟨0, 16, Nat.zero_le _, rfl, rfl, rfl, HB.out, HZ.out, HBL.out⟩
  case round =>
    clear HB HZ HBL
    obtain ⟨j, m, hj, hm, rfl, rfl, hb, hz, hbel⟩ := hrel
    have hlen := erow_len t k j HL.out hj
    have hell := expTo_length t k j HL.out
    by_cases hlt : j < 40
    · obtain ⟨p, hp⟩ : ∃ p, p = m - 4 := ⟨_, rfl⟩
      have e4 : (m : Int) = ((p + 4 : Nat) : Int) := by omega
      have hsl := fun W => sliceFour (w.heap.size + 1) p (by omega) W
      rw [← e4] at hsl
      have e5 : (m : Int) - 4 = (p : Int) := by omega
      have gm : (m : Int) < 176 := by omega
      have lp := fun (W : World) => run_arrayAt (P := Try.prog) (w := W) 81 5 4 (some ⟨w.heap.size + 1, p, none⟩) 4 (176 - p) Try.underlying81 (Nat.le_refl _)
      have HR0 : Hid (wr.rangeAt (w.heap.size + 1) p [Value.int .u8 ((erow t k j).getD p 0).toNat, Value.int .u8 ((erow t k j).getD (p + 1) 0).toNat, Value.int .u8 ((erow t k j).getD (p + 2) 0).toNat, Value.int .u8 ((erow t k j).getD (p + 3) 0).toNat]) := by
        intro i v hv
        have hi : i < 4 := (List.getElem?_eq_some_iff.1 hv).1
        match i, hi, hv with
        | 0, _, hv => cases hv; exact blk_cell hb (byte_at _ _ (by omega))
        | 1, _, hv => cases hv; exact blk_cell hb (byte_at _ _ (by omega))
        | 2, _, hv => cases hv; exact blk_cell hb (byte_at _ _ (by omega))
        | 3, _, hv => cases hv; exact blk_cell hb (byte_at _ _ (by omega))
      generalize ha : (erow t k j).getD p 0 = a at *
      generalize hb' : (erow t k j).getD (p + 1) 0 = b at *
      generalize hc : (erow t k j).getD (p + 2) 0 = c at *
      generalize hd : (erow t k j).getD (p + 3) 0 = d at *
      have HABCD : Hid (∀ v, v = p → (erow t k j).getD v 0 = a ∧ (erow t k j).getD (v + 1) 0 = b ∧ (erow t k j).getD (v + 2) 0 = c ∧ (erow t k j).getD (v + 3) 0 = d) := fun v hv => by rw [hv]; exact ⟨ha, hb', hc, hd⟩
      clear ha hb' hc hd
      have HI4 : Hid ((Try.prog.info? 81).map (·.size) = some 4) := by show _ = _; kernel_rfl
      have HQ : Hid (m = 16 + 4 * j ∧ p = m - 4 ∧ j < 40) := ⟨hm, hp, hlt⟩
      have HB := Lib.hid hb
      have HZ := Lib.hid hz
      have HBL := Lib.hid hbel
      have HLEN := Lib.hid hlen
      clear hm hp e4 hlt hj hb hz hbel hlen hell
      go_upto_region 8 with (refine wpList_load_mid rfl 81 _ rfl (w.heap.size + 1) p rfl [Value.int .u8 a.toNat, Value.int .u8 b.toNat, Value.int .u8 c.toNat, Value.int .u8 d.toNat] _ HR0.out Try.underlying81 rfl HI4.out ?_)
      generalize hW : World.alloc wr _ = W2
      have HG : Hid (W2.heap[wr.heap.size]? = some (.cells (bytesRow [a, b, c, d]) 81 (0, 0))) := by show _ = _; rw [← hW]; exact heap_alloc_new wr _
      have hw1 : w.heap.size + 1 < wr.heap.size := World_lt HB.out
      replace HB : Hid (W2.heap[w.heap.size + 1]? = some (.cells (bytesRow (irow t k j 0)) 70 (0, 0))) := by show _ = _; rw [← hW, Below.heap_alloc _ _ _ (by omega), irow_zero]; exact HB.out
      replace HZ : Hid (W2.heap[w.heap.size]? = some (.cells zs 70 (0, 0))) := by show _ = _; rw [← hW, Below.heap_alloc _ _ _ (by omega)]; exact HZ.out
      replace HBL : Hid (Below w.heap.size w W2) := by show Below _ _ _; rw [← hW]; exact HBL.out.alloc HBL.out.size _
      have HG1 := Lib.hid hw1
      generalize wr.heap.size = G at *
      clear hW hw1 HR0 hsl lp e5
      have h12 : 12 + 4 * j = p := by have h := HQ.out; omega
      obtain ⟨ea, eb, ec, ed⟩ := HABCD.out _ h12
      clear HABCD h12
      by_cases hj4 : j % 4 = 0
      · have HH := Lib.hid (hold_yes t k j HL.out hj4 a b c d ea eb ec ed)
        have ht4 : ((m : Int) % 16 == 0) = true := by have h := HQ.out; rw [beq_iff_eq]; omega
        have HPW : Hid (powTo (j + 1) = dbl (powTo j)) := by show _ = _; rw [powTo, if_pos hj4]
        have HD := Lib.hid (fun W => double (powTo j) W)
        clear ea eb ec ed hj4
        have HTW := Lib.hid (HT.out.below HBL.out HT.out.lt)
        have HX := Lib.hid (x8 (t.getD b.toNat 0) (powTo j))
        obtain ⟨pw, hpw⟩ : ∃ x, x = powTo j := ⟨_, rfl⟩
        rw [← hpw] at HPW HD HX ⊢
        have HPJ := Lib.hid hpw
        clear hpw
        have c0 : W2.cell? ⟨G, 0, none⟩ = some (.int .u8 a.toNat) := blk_cell HG.out rfl
        have c1 : W2.cell? ⟨G, 1, none⟩ = some (.int .u8 b.toNat) := blk_cell HG.out rfl
        have c2 : W2.cell? ⟨G, 2, none⟩ = some (.int .u8 c.toNat) := blk_cell HG.out rfl
        have c3 : W2.cell? ⟨G, 3, none⟩ = some (.int .u8 d.toNat) := blk_cell HG.out rfl
        go_upto_region 9 with (fail)
        go_quiet (fail)
        clear c0 c1 c2 c3 ht4
        go_upto_region 10 with (fail)
        generalize hW : W2.drewN nq = W3
        replace HG : Hid (W3.heap[G]? = some (.cells (bytesRow [a, b, c, d]) 81 (0, 0))) := by show _ = _; rw [← hW]; exact HG.out
        replace HB : Hid (W3.heap[w.heap.size + 1]? = some (.cells (bytesRow (irow t k j 0)) 70 (0, 0))) := by show _ = _; rw [← hW]; exact HB.out
        replace HZ : Hid (W3.heap[w.heap.size]? = some (.cells zs 70 (0, 0))) := by show _ = _; rw [← hW]; exact HZ.out
        replace HBL : Hid (Below w.heap.size w W3) := by show Below _ _ _; rw [← hW]; exact HBL.out.trans (below_drewN W2 nq)
        have ha8 := a.toNat_lt
        have hb8 := b.toNat_lt
        have hc8 := c.toNat_lt
        have hd8 := d.toNat_lt
        have t0 : W3.cell? ⟨g, o + b.toNat, none⟩ = some (.int .u8 (t.getD b.toNat 0).toNat) := by rw [← hW]; exact HTW.out _ hb8
        have t1 : W3.cell? ⟨g, o + c.toNat, none⟩ = some (.int .u8 (t.getD c.toNat 0).toNat) := by rw [← hW]; exact HTW.out _ hc8
        have t2 : W3.cell? ⟨g, o + d.toNat, none⟩ = some (.int .u8 (t.getD d.toNat 0).toNat) := by rw [← hW]; exact HTW.out _ hd8
        have t3 : W3.cell? ⟨g, o + a.toNat, none⟩ = some (.int .u8 (t.getD a.toNat 0).toNat) := by rw [← hW]; exact HTW.out _ ha8
        have i0 : (a.toNat : Int) < 256 := by omega
        have i1 : (b.toNat : Int) < 256 := by omega
        have i2 : (c.toNat : Int) < 256 := by omega
        have i3 : (d.toNat : Int) < 256 := by omega
        have j0 : (0 : Int) ≤ (a.toNat : Int) := by omega
        have j1 : (0 : Int) ≤ (b.toNat : Int) := by omega
        have j2 : (0 : Int) ≤ (c.toNat : Int) := by omega
        have j3 : (0 : Int) ≤ (d.toNat : Int) := by omega
        clear hW HTW ha8 hb8 hc8 hd8
        generalize t.getD a.toNat 0 = y0 at *
        generalize t.getD b.toNat 0 = y1 at *
        generalize t.getD c.toNat 0 = y2 at *
        generalize t.getD d.toNat 0 = y3 at *
        refine wp_region_still_tail 23 (by kernel_rfl) (by kernel_rfl) ?_
        simp only [List.take_succ_cons, List.take_zero, List.drop_succ_cons, List.drop_zero]
        change wpStill _ _ W3.drew _ _ _
        iterate 23 still_step
        refine wpStill_nil ?_
        go_upto_region 11 with (refine wpList_store_row rfl 81 _ _ rfl G _ rfl rfl 81 _ HG.out HI4.out rfl (by simp [Value.oneCell']) ?_)
        generalize hW : World.setRow _ _ _ = W4
        replace HG : Hid (W4.heap[G]? = some (.cells (bytesRow [y1 ^^^ pw, y2, y3, y0]) 81 (0, 0))) := by
          show _ = _
          rw [← hW]
          refine (setRow_same (w := W3.drew) HG.out).trans ?_
          rw [HX.out]
          rfl
        rw [HPJ.out, ← HH.out] at HG
        replace HB : Hid (W4.heap[w.heap.size + 1]? = some (.cells (bytesRow (irow t k j 0)) 70 (0, 0))) := by show _ = _; rw [← hW, setRow_far (by have h := HG1.out; omega)]; exact HB.out
        replace HZ : Hid (W4.heap[w.heap.size]? = some (.cells zs 70 (0, 0))) := by show _ = _; rw [← hW, setRow_far (by have h := HG1.out; omega)]; exact HZ.out
        replace HBL : Hid (Below w.heap.size w W4) := by show Below _ _ _; rw [← hW]; exact below_setRow (HBL.out.trans (below_drewN W3 1)) (by have h := HG1.out; omega) _
        clear hW t0 t1 t2 t3 i0 i1 i2 i3 j0 j1 j2 j3 HX
        go_upto_region 12 with (go_at_call 40; refine (HD.out _).mono ?_; rintro e w' ⟨rfl, rfl⟩)
        rw [← HPW.out]
        clear HPW HD
        obtain ⟨hl4, hh4⟩ : ∃ l, l = hold t (expTo t k j) (powTo j) := ⟨_, rfl⟩
        rw [← hh4] at HG HH
        have h4 : hl4.length = 4 := by rw [HH.out]; rfl
        have HH4 := Lib.hid hh4
        clear hh4 HH
        go_wp2_with fail
        go_loopw [13, 63] (fun _ i wr => ∃ q : Nat, q ≤ 4 ∧ i = .int .i64 q ∧ wr.heap[w.heap.size + 1]? = some (.cells (bytesRow (irow t k j q)) 70 (0, 0)) ∧ wr.heap[G]? = some (.cells (bytesRow hl4) 81 (0, 0)) ∧ wr.heap[w.heap.size]? = some (.cells zs 70 (0, 0)) ∧ Below w.heap.size w wr) (fun _ i _ => 4 - (intOf i).toNat)
        case atStart => exact ⟨0, Nat.zero_le _, rfl, HB.out, HG.out, HZ.out, HBL.out⟩
        case round =>
          clear HB HG HZ HBL
          obtain ⟨q, hq, rfl, hb, hg, hz, hbel⟩ := hrel
          by_cases hq4 : q < 4
          · obtain ⟨mq, hmq⟩ : ∃ x, x = m + q := ⟨_, rfl⟩
            obtain ⟨ms, hms⟩ : ∃ x, x = m + q - 16 := ⟨_, rfl⟩
            have hm16 := HQ.out.1
            have hj40 := HQ.out.2.2
            have e1 : IntKind.i64.wrap ((m : Int) + (q : Int)) = (mq : Int) := by rw [IntWalk.i64_in _ (by omega)]; omega
            have e2 : IntKind.i64.wrap ((mq : Int) - 16) = (ms : Int) := by rw [IntWalk.i64_in _ (by omega)]; omega
            have g1 : (mq : Int) < 176 := by omega
            have g2 : (ms : Int) < 176 := by omega
            have g3 : (q : Int) < 4 := by omega
            have z1 : (0 : Int) ≤ (mq : Int) := by omega
            have z2 : (0 : Int) ≤ (ms : Int) := by omega
            have z3 : (0 : Int) ≤ (q : Int) := by omega
            have c1 := blk_cell hb (byte_at _ ms (by rw [irow_len t k j q HL.out hj40 hq]; omega))
            have c2 := blk_cell hg (byte_at _ q (by omega))
            have c3 := blk_cell hb (byte_at _ mq (by rw [irow_len t k j q HL.out hj40 hq]; omega))
            have hfz := blk_free (i := mq) hb
            rw [irow_at t k j q ms HL.out (by omega)] at c1
            have HNX := Lib.hid (irow_next t k j q HL.out hj40 hq4)
            rw [← HH4.out] at HNX
            rw [show 16 + 4 * j + q = mq from by omega, show 4 * j + q = ms from by omega] at HNX
            have HX := Lib.hid (x8 ((expTo t k j).getD ms 0) (hl4.getD q 0))
            generalize (expTo t k j).getD ms 0 = y at *
            generalize hl4.getD q 0 = z at *
            generalize (irow t k j q).getD mq 0 = yz at *
            have HQ4 := Lib.hid hq4
            have HB := Lib.hid hb
            have HG := Lib.hid hg
            have HZ := Lib.hid hz
            clear hmq hms hm16 hj40 hb hg hz hq hq4
            go_upto_region 15 with (fail)
            refine wp_region_still_tail 13 (by kernel_rfl) (by kernel_rfl) ?_
            simp only [List.take_succ_cons, List.take_zero, List.drop_succ_cons, List.drop_zero]
            change wpStill _ _ wr.drew _ _ _
            iterate 13 still_step
            refine wpStill_nil ?_
            go_upto_region 16 with (fail)
            go_wp2_with fail
            go_roundw
            case rel =>
              refine ⟨q + 1, by have h := HQ4.out; omega, by go_num, ?_, ?_, ?_, ?_⟩
              · show (wr.setCell _ _).heap[_]? = _
                rw [HX.out, blk_set HB.out, bytesRow_set, HNX.out]
              · show (wr.setCell _ _).heap[_]? = _
                rw [Below.heap_setCell _ _ _ _ (by have h := HG1.out; simp; omega)]; exact HG.out
              · show (wr.setCell _ _).heap[_]? = _
                rw [Below.heap_setCell _ _ _ _ (by simp)]; exact HZ.out
              · exact (hbel.setCell (by simp) _).trans (below_drewN _ 1)
            case measure => have h := HQ4.out; simp [intOf]; omega
          · have hk4 : q = 4 := by omega
            subst hk4
            rw [irow_four] at hb
            have HB := Lib.hid hb
            have HZ := Lib.hid hz
            have HBL := Lib.hid hbel
            clear hb hz hbel hg hq hq4
            go_wp2_with fail
            go_roundw
            case rel => exact ⟨j + 1, m + 4, by have h := HQ.out; omega, by have h := HQ.out; omega, by go_num, rfl, HB.out, HZ.out, HBL.out⟩
            case measure => have h := HQ.out; simp [intOf]; omega
      · have HH := Lib.hid (hold_no t k j HL.out hj4 a b c d ea eb ec ed)
        have ht4 : ((m : Int) % 16 == 0) = false := by have h := HQ.out; rw [beq_eq_false_iff_ne]; omega
        have HPW : Hid (powTo (j + 1) = powTo j) := by show _ = _; rw [powTo, if_neg hj4]
        clear ea eb ec ed hj4
        obtain ⟨pw, hpw⟩ : ∃ x, x = powTo j := ⟨_, rfl⟩
        rw [← hpw] at HPW ⊢
        rw [← HH.out] at HG
        have HPJ := Lib.hid hpw
        go_upto_region 12 with (fail)
        generalize hW4 : W2 = W4 at *
        clear ht4 hW4 hpw
        rw [← HPW.out]
        clear HPW
        obtain ⟨hl4, hh4⟩ : ∃ l, l = hold t (expTo t k j) (powTo j) := ⟨_, rfl⟩
        rw [← hh4] at HG HH
        have h4 : hl4.length = 4 := by rw [HH.out]; rfl
        have HH4 := Lib.hid hh4
        clear hh4 HH
        go_wp2_with fail
        go_loopw [13, 63] (fun _ i wr => ∃ q : Nat, q ≤ 4 ∧ i = .int .i64 q ∧ wr.heap[w.heap.size + 1]? = some (.cells (bytesRow (irow t k j q)) 70 (0, 0)) ∧ wr.heap[G]? = some (.cells (bytesRow hl4) 81 (0, 0)) ∧ wr.heap[w.heap.size]? = some (.cells zs 70 (0, 0)) ∧ Below w.heap.size w wr) (fun _ i _ => 4 - (intOf i).toNat)
        case atStart => exact ⟨0, Nat.zero_le _, rfl, HB.out, HG.out, HZ.out, HBL.out⟩
        case round =>
          clear HB HG HZ HBL
          obtain ⟨q, hq, rfl, hb, hg, hz, hbel⟩ := hrel
          by_cases hq4 : q < 4
          · obtain ⟨mq, hmq⟩ : ∃ x, x = m + q := ⟨_, rfl⟩
            obtain ⟨ms, hms⟩ : ∃ x, x = m + q - 16 := ⟨_, rfl⟩
            have hm16 := HQ.out.1
            have hj40 := HQ.out.2.2
            have e1 : IntKind.i64.wrap ((m : Int) + (q : Int)) = (mq : Int) := by rw [IntWalk.i64_in _ (by omega)]; omega
            have e2 : IntKind.i64.wrap ((mq : Int) - 16) = (ms : Int) := by rw [IntWalk.i64_in _ (by omega)]; omega
            have g1 : (mq : Int) < 176 := by omega
            have g2 : (ms : Int) < 176 := by omega
            have g3 : (q : Int) < 4 := by omega
            have z1 : (0 : Int) ≤ (mq : Int) := by omega
            have z2 : (0 : Int) ≤ (ms : Int) := by omega
            have z3 : (0 : Int) ≤ (q : Int) := by omega
            have c1 := blk_cell hb (byte_at _ ms (by rw [irow_len t k j q HL.out hj40 hq]; omega))
            have c2 := blk_cell hg (byte_at _ q (by omega))
            have c3 := blk_cell hb (byte_at _ mq (by rw [irow_len t k j q HL.out hj40 hq]; omega))
            have hfz := blk_free (i := mq) hb
            rw [irow_at t k j q ms HL.out (by omega)] at c1
            have HNX := Lib.hid (irow_next t k j q HL.out hj40 hq4)
            rw [← HH4.out] at HNX
            rw [show 16 + 4 * j + q = mq from by omega, show 4 * j + q = ms from by omega] at HNX
            have HX := Lib.hid (x8 ((expTo t k j).getD ms 0) (hl4.getD q 0))
            generalize (expTo t k j).getD ms 0 = y at *
            generalize hl4.getD q 0 = z at *
            generalize (irow t k j q).getD mq 0 = yz at *
            have HQ4 := Lib.hid hq4
            have HB := Lib.hid hb
            have HG := Lib.hid hg
            have HZ := Lib.hid hz
            clear hmq hms hm16 hj40 hb hg hz hq hq4
            go_upto_region 15 with (fail)
            refine wp_region_still_tail 13 (by kernel_rfl) (by kernel_rfl) ?_
            simp only [List.take_succ_cons, List.take_zero, List.drop_succ_cons, List.drop_zero]
            change wpStill _ _ wr.drew _ _ _
            iterate 13 still_step
            refine wpStill_nil ?_
            go_upto_region 16 with (fail)
            go_wp2_with fail
            go_roundw
            case rel =>
              refine ⟨q + 1, by have h := HQ4.out; omega, by go_num, ?_, ?_, ?_, ?_⟩
              · show (wr.setCell _ _).heap[_]? = _
                rw [HX.out, blk_set HB.out, bytesRow_set, HNX.out]
              · show (wr.setCell _ _).heap[_]? = _
                rw [Below.heap_setCell _ _ _ _ (by have h := HG1.out; simp; omega)]; exact HG.out
              · show (wr.setCell _ _).heap[_]? = _
                rw [Below.heap_setCell _ _ _ _ (by simp)]; exact HZ.out
              · exact (hbel.setCell (by simp) _).trans (below_drewN _ 1)
            case measure => have h := HQ4.out; simp [intOf]; omega
          · have hk4 : q = 4 := by omega
            subst hk4
            rw [irow_four] at hb
            have HB := Lib.hid hb
            have HZ := Lib.hid hz
            have HBL := Lib.hid hbel
            clear hb hz hbel hg hq hq4
            go_wp2_with fail
            go_roundw
            case rel => exact ⟨j + 1, m + 4, by have h := HQ.out; omega, by have h := HQ.out; omega, by go_num, rfl, HB.out, HZ.out, HBL.out⟩
            case measure => have h := HQ.out; simp [intOf]; omega
    · have hk : j = 40 := by omega
      subst hk
      have he : erow t k 40 = expL t k := by rw [erow, expL]; simp
      rw [he] at hb
      have hs : (bytesRow (expL t k)).size = 176 := by rw [bytesRow_size, expL_length _ _ HL.out]
      have hone := bytes_one (expL t k)
      obtain ⟨rs, hrs⟩ : ∃ rs, rs = bytesRow (expL t k) := ⟨_, rfl⟩
      rw [← hrs] at hb hs hone
      have HR := Lib.hid hrs
      have HB := Lib.hid hb
      have HZ := Lib.hid hz
      have HI := Lib.hid (show (Try.prog.info? 70).map (·.size) = some rs.size by rw [hs]; exact info176)
      have HS := Lib.hid (show zs.size = rs.size by rw [hs, hsz])
      have HO := Lib.hid hone
      have hm176 : m = 176 := by omega
      subst hm176
      clear hb hz hs hone hsz hrs hm hlen hell he
      go_wp2_with (first
        | (refine wpList_load_row rfl 70 _ rfl (w.heap.size + 1) rfl 70 _ (0, 0) _ HB.out Try.underlying70 rfl HI.out ?_)
        | (refine wpList_store_row rfl 70 _ _ rfl w.heap.size _ rfl rfl 70 _ HZ.out HI.out HS.out HO.out ?_))
      refine bodyPost_ret (v := .agg rs)
        (results_cell_row Try.results34 _ _ w.heap.size 70 _ (0, 0) _ rfl (setRow_same HZ.out) Try.underlying70 rfl HI.out) rfl ⟨by rw [HR.out], below_setRow hbel (Nat.le_refl _) _⟩
end Go.Proofs.Ytjlepjnfacmieaa.AExp
