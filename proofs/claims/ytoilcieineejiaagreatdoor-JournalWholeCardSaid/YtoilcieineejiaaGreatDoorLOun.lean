/- OUnpF OUnp: one behind the other. -/
import Derived.Test.YtoilcieineejiaaGreatDoorLMem
import Derived.Test.YtoilcieineejiaaGreatDoorLPut
import Derived.Deep.RegionLaw
import Derived.Deep.AppendLies
import Derived.RegionTactic
import Derived.Deep.QuietTactic
import Derived.BigQuiet
import Derived.Test.YtoilcieineejiaaGreatDoorLOct
/- octet.Unpack's closures: a width is looked at and counted; one number more is taken. -/
namespace Go.Proofs.YtoilcieineejiaaGreatDoor.OUnpF
open Go.RowKit
theorem info3 : (Tryz.prog.info? 3).map (fun i => (i.zero, i.size, i.bytes)) = some (some (.int .i64 0), 1, 8) := by kernel_rfl
/-- A width that is none. -/
theorem wrong (B b1 o1 c1 i n : Nat) (y : Int) (w : World) (h1 : w.cell? ⟨B, 0, none⟩ = some (.slice (some ⟨b1, o1, none⟩) n c1)) (hi : i < n)
    (hy : w.cell? ⟨b1, o1 + i, none⟩ = some (.int .i64 y)) (hb : ¬ (1 ≤ y ∧ y ≤ 8)) :
    Calls Tryz.prog 160 #[.int .i64 i, .pointer (some ⟨B, 0, none⟩), .pointer (some ⟨B + 2, 0, none⟩)] w fun e w' => e = .returned (.int .i64 2) ∧ w = w' := by
  have H := Lib.hid hb
  clear hb
  go_enter Tryz.func160, Tryz.ntmps160
  go_wp2_with (go_at_call 113; refine (OWid.no _ _ H.out).mono ?_; rintro e w' ⟨rfl, rfl⟩)
  go_ret
  exact ⟨rfl, rfl⟩
theorem right (B b1 o1 c1 i n k m : Nat) (w : World) (h1 : w.cell? ⟨B, 0, none⟩ = some (.slice (some ⟨b1, o1, none⟩) n c1)) (hi : i < n)
    (hy : w.cell? ⟨b1, o1 + i, none⟩ = some (.int .i64 k)) (hk1 : 1 ≤ k) (hk2 : k ≤ 8) (hm : m ≤ 1000000)
    (hc : w.cell? ⟨B + 2, 0, none⟩ = some (.int .i64 m)) (hf : w.frozen? ⟨B + 2, 0, none⟩ = false) :
    Calls Tryz.prog 160 #[.int .i64 i, .pointer (some ⟨B, 0, none⟩), .pointer (some ⟨B + 2, 0, none⟩)] w fun e w' =>
      e = .returned (.int .i64 0) ∧ w' = (w.setCell ⟨B + 2, 0, none⟩ (.int .i64 (m + k : Nat))).drew := by
  go_enter Tryz.func160, Tryz.ntmps160
  go_wp2_with (go_at_call 113; refine (OWid.yes _ _ (by omega) (by omega)).mono ?_; rintro e w' ⟨rfl, rfl⟩)
  go_region
  all_goals go_wp2
  all_goals go_ret
  all_goals exact ⟨rfl, by rw [Int.natCast_add]⟩
/-- What the second closure leaves. -/
def Post (BS O m : Nat) (xs : List Int) (r : List UInt8) (k : Nat) (g : Int × Int) (w : World) (e : Ending) (w' : World) : Prop :=
  ∃ v, e = .returned (.int .i64 g.2) ∧ w'.heap[O]? = some (.cells #[v] 23 (0, 0)) ∧ w'.heap[BS]? = some (.cells #[.string ⟨(r.drop k).toArray⟩] 9 (0, 0)) ∧
    w'.ownsRow (O + 1) 3 1 v (m + 1) ((xs ++ [g.1]).map (Value.int .i64)) ∧ Below BS w w'
theorem ext_head (r : List UInt8) (k : Nat) : (⟨r.toArray⟩ : ByteArray).extract 0 k = ⟨(r.take k).toArray⟩ := by
  rw [ByteArray.extract_mk, List.drop_zero, Nat.sub_zero]
theorem ext_tail (r : List UInt8) (k : Nat) : (⟨r.toArray⟩ : ByteArray).extract k r.length = ⟨(r.drop k).toArray⟩ := by
  rw [ByteArray.extract_mk, List.take_of_length_le (by simp)]
/-- What is told of the world behind the append. -/
theorem after {A w2 : World} {BW BS O b1 o i m gg cap : Nat} {va : Option Addr} {vn vc : Nat} {xs : List Value} {v1 v2 v4 : Value} {s : ByteArray} (hown : A.ownsRow (O + 1) 3 1 (.slice va vn vc) m xs)
    (hg : A.grownBy w2 (Value.slice va vn vc).ownBlock) (n1 : BW < O) (n2 : BS < O) (n3 : b1 < O)
    (h1 : A.cell? ⟨BW, 0, none⟩ = some v1) (h2 : A.cell? ⟨BS, 0, none⟩ = some v2) (h4 : A.cell? ⟨b1, o + i, none⟩ = some v4)
    (hS : A.heap[BS]? = some (.cells #[.string s] 9 (0, 0))) (hO : A.heap[O]? = some (.cells #[.slice va vn vc] 23 (0, 0))) :
    w2.cell? ⟨BW, 0, none⟩ = some v1 ∧ w2.cell? ⟨BS, 0, none⟩ = some v2 ∧ w2.cell? ⟨b1, o + i, none⟩ = some v4 ∧ w2.cell? ⟨O, 0, none⟩ = some (.slice va vn vc) ∧ w2.frozen? ⟨O, 0, none⟩ = false ∧ w2.frozen? ⟨BS, 0, none⟩ = false ∧
    (w2.setCell ⟨O, 0, none⟩ (.slice (some ⟨gg, 0, none⟩) (m + 1) cap)).cell? ⟨BW, 0, none⟩ = some v1 ∧
    (w2.setCell ⟨O, 0, none⟩ (.slice (some ⟨gg, 0, none⟩) (m + 1) cap)).cell? ⟨BS, 0, none⟩ = some v2 ∧
    (w2.setCell ⟨O, 0, none⟩ (.slice (some ⟨gg, 0, none⟩) (m + 1) cap)).cell? ⟨b1, o + i, none⟩ = some v4 ∧
    Hid (w2.heap[O]? = some (.cells #[.slice va vn vc] 23 (0, 0)) ∧ w2.heap[BS]? = some (.cells #[.string s] 9 (0, 0)) ∧ Below O A w2) := by
  have hO1 : O < A.heap.size := World.block_lt_of_cell? A ⟨O, 0, none⟩ (blk_cell hO rfl)
  have hb : ∀ j, j ≤ O → w2.heap[j]? = A.heap[j]? := fun j hj => hg.block j (by omega) (fun e => by have := (hown.lt _ e.symm).1; omega)
  have c : ∀ {p : Addr} {v : Value}, p.block ≤ O → A.cell? p = some v → w2.cell? p = some v := fun hp h => (World.cell?_of_block (hb _ hp)).trans h
  have d : ∀ {p : Addr} {v : Value}, p.block < O → A.cell? p = some v → (w2.setCell ⟨O, 0, none⟩ (.slice (some ⟨gg, 0, none⟩) (m + 1) cap)).cell? p = some v := fun {p v} hp h =>
    (World.cell?_of_block (Below.heap_setCell w2 ⟨O, 0, none⟩ _ p.block (fun e => by have : p.block = O := e; omega))).trans (c (by omega) h)
  refine ⟨c (by simp; omega) h1, c (by simp; omega) h2, c (by simp; omega) h4, blk_cell ((hb O (by omega)).trans hO) rfl, blk_free ((hb O (by omega)).trans hO), blk_free ((hb BS (by omega)).trans hS), d n1 h1, d n2 h2, d n3 h4, ?_⟩
  exact ⟨(hb O (by omega)).trans hO, (hb BS (by omega)).trans hS, ⟨hg.os, hg.tape, hg.output, hg.size, fun k hk => hb k (by omega)⟩⟩
set_option maxHeartbeats 3200000 in
/-- The statement 'out, s = append(out, n), s[width:]', in whatever order Go takes it, from a world on in which the four cells are as told. -/
theorem take_any (BW BS O b1 o1 c1 i n k m : Nat) (r : List UInt8) (va : Option Addr) (vn vc : Nat) (xs : List Int) (w : World) (n1 : BW < O) (n2 : BS < O) (n3 : b1 < O)
    (h1 : w.cell? ⟨BW, 0, none⟩ = some (.slice (some ⟨b1, o1, none⟩) n c1)) (hi : i < n)
    (hy : w.cell? ⟨b1, o1 + i, none⟩ = some (.int .i64 k)) (hk : k ≤ r.length)
    (hs : w.heap[BS]? = some (.cells #[.string ⟨r.toArray⟩] 9 (0, 0)))
    (ho : w.heap[O]? = some (.cells #[.slice va vn vc] 23 (0, 0))) (hown : w.ownsRow (O + 1) 3 1 (.slice va vn vc) m (xs.map (Value.int .i64))) (hm : m ≤ 100000) :
    Calls Tryz.prog 161 #[.int .i64 i, .pointer (some ⟨BS, 0, none⟩), .pointer (some ⟨BW, 0, none⟩), .pointer (some ⟨O, 0, none⟩)] w (Post BS O m xs r k (get (r.take k)) w) := by
  have hget : ∀ W, Calls Tryz.prog 145 #[.string ((⟨r.toArray⟩ : ByteArray).extract 0 k)] W fun e w' => e = .returned (.tuple #[.int .i64 (get (r.take k)).1, .int .i64 (get (r.take k)).2]) ∧ w' = W := by
    intro W
    rw [ext_head]
    exact (OGet.any ⟨(r.take k).toArray⟩ W).mono fun _ _ ⟨h1, h2⟩ => ⟨h1, h2.symm⟩
  have HT := Lib.hid (ext_tail r k)
  generalize get (r.take k) = g at *
  obtain ⟨x, c⟩ := g
  have HG := Lib.hid hget
  clear hget
  have h2 : w.cell? ⟨BS, 0, none⟩ = some (.string ⟨r.toArray⟩) := blk_cell hs rfl
  have h3 : w.cell? ⟨O, 0, none⟩ = some (.slice va vn vc) := blk_cell ho rfl
  have HS := Lib.hid hs
  have HO := Lib.hid ho
  have HW := Lib.hid hown
  have l0 : O < w.heap.size := World.block_lt_of_cell? w _ h3
  have HPost : ∀ (A w' : World) (a' : Option Addr) (n' c' : Nat), w'.ownsRow (O + 1) 3 1 (.slice a' n' c') (m + 1) (xs.map (Value.int .i64) ++ [.int .i64 x]) →
      (w'.heap[O]? = some (.cells #[.slice va vn vc] 23 (0, 0)) ∧ w'.heap[BS]? = some (.cells #[.string ⟨r.toArray⟩] 9 (0, 0)) ∧ Below O A w') → Below O w A →
      Post BS O m xs r k (x, c) w (.returned (.int .i64 c)) ((w'.setCell ⟨O, 0, none⟩ (.slice a' n' c')).setCell ⟨BS, 0, none⟩ (.string ((⟨r.toArray⟩ : ByteArray).extract k r.length))) := by
    rintro A w' a' n' c' ho1 ⟨hO1, hS1, hb1⟩ hb0
    refine ⟨.slice a' n' c', rfl, ?_, ?_, ?_, ?_⟩
    · rw [Below.heap_setCell _ _ _ _ (by simp; omega), blk_set hO1]; rfl
    · rw [HT.out, blk_set (by rw [Below.heap_setCell _ _ _ _ (by simp; omega)]; exact hS1)]; rfl
    · have := own_set (i := 0) (own_set (i := 0) ho1 (show O < O + 1 by omega) (.slice a' n' c')) (show BS < O + 1 by omega) (.string ((⟨r.toArray⟩ : ByteArray).extract k r.length))
      rw [List.map_append]
      exact this
    · exact (((hb0.trans hb1).mono (by omega)).setCell (by simp; omega) _).setCell (by simp) _
  have HPost' := Lib.hid HPost
  clear hs ho hown HPost
  go_enter Tryz.func161, Tryz.ntmps161
  go_wp2_with fail
  go_quiet ((go_at_call 145; exact Calls.quiet_of_same (HG.out _)))
  go_wp2_with fail
  have hbw : Below w.heap.size w (w.drewN nq) := ⟨rfl, rfl, rfl, Nat.le_refl _, fun _ _ => rfl⟩
  have k1 : (w.drewN nq).cell? ⟨BW, 0, none⟩ = some (.slice (some ⟨b1, o1, none⟩) n c1) := h1
  have k2 : (w.drewN nq).cell? ⟨BS, 0, none⟩ = some (.string ⟨r.toArray⟩) := h2
  have k3 : (w.drewN nq).cell? ⟨O, 0, none⟩ = some (.slice va vn vc) := h3
  have ky : (w.drewN nq).cell? ⟨b1, o1 + i, none⟩ = some (.int .i64 k) := hy
  have kS : (w.drewN nq).heap[BS]? = some (.cells #[.string ⟨r.toArray⟩] 9 (0, 0)) := HS.out
  have kO : (w.drewN nq).heap[O]? = some (.cells #[.slice va vn vc] 23 (0, 0)) := HO.out
  have kown : (w.drewN nq).ownsRow (O + 1) 3 1 (.slice va vn vc) m (xs.map (Value.int .i64)) := HW.out
  clear h1 h2 h3 hy HS HO HW
  generalize w.drewN nq = W at *
  have l1 := World.block_lt_of_cell? W _ k1
  have l2 := World.block_lt_of_cell? W _ k2
  have l3 := World.block_lt_of_cell? W _ k3
  have l4 := World.block_lt_of_cell? W _ ky
  have a1 : (W.alloc (.cells #[.int .i64 x] 3)).cell? ⟨BW, 0, none⟩ = some (.slice (some ⟨b1, o1, none⟩) n c1) := (World.cell?_alloc_lt W _ _ l1).trans k1
  have a2 : (W.alloc (.cells #[.int .i64 x] 3)).cell? ⟨BS, 0, none⟩ = some (.string ⟨r.toArray⟩) := (World.cell?_alloc_lt W _ _ l2).trans k2
  have a3 : (W.alloc (.cells #[.int .i64 x] 3)).cell? ⟨O, 0, none⟩ = some (.slice va vn vc) := (World.cell?_alloc_lt W _ _ l3).trans k3
  have a4 : (W.alloc (.cells #[.int .i64 x] 3)).cell? ⟨b1, o1 + i, none⟩ = some (.int .i64 k) := (World.cell?_alloc_lt W _ _ l4).trans ky
  have aS := Lib.hid ((Below.heap_alloc W (.cells #[.int .i64 x] 3) BS l2).trans kS)
  have aO := Lib.hid ((Below.heap_alloc W (.cells #[.int .i64 x] 3) O l3).trans kO)
  have aown := Lib.hid ((kown.alloc (.cells #[.int .i64 x] 3)))
  have anew := Lib.hid (World.news_of_block (cs := #[.int .i64 x]) (t := 3) (fr := (0, 0)) (heap_alloc_new W (.cells #[.int .i64 x] 3)))
  clear kS kO kown
  have l3' : O + 1 ≤ W.heap.size := l3
  obtain ⟨i0, hi0, hz0, hz1, hz2⟩ := info_parts info3
  have x1 : ¬ BW = O := by omega
  have x2 : ¬ BS = O := by omega
  have x3 : ¬ b1 = O := by omega
  have x4 : ¬ O = BW := by omega
  have x5 : ¬ O = BS := by omega
  have x6 : ¬ O = b1 := by omega
  go_region_law (refine step_append_lies _ (by rfl) _ _ _ (by rfl) (O + 1) 3 i0 _ 1 8 Tryz.underlying23 hi0 hz0 hz1 hz2 rfl (by omega) (.slice va vn vc) m (xs.map (Value.int .i64)) (by rfl) aown.out ⟨W.heap.size, 0, none⟩ 1 1 [.int .i64 x] (by rfl) (by rfl) anew.out (by simp [Value.oneCell']) (by omega) (by unfold maxLen; omega) (by omega) (Nat.le_trans l3' (by simp)) (W.heap.size + 1) (by simp) ?_; intro gg cap w2 hown2 hg2 hat hlt; obtain ⟨e1, e2, e4, e3, f3, f2, s1, s2, s4, HH⟩ := after (gg := gg) (cap := cap) aown.out ⟨hg2.os, hg2.tape, hg2.output, hg2.size, hg2.block⟩ n1 n2 n3 a1 a2 a4 aS.out aO.out; have HO2 := Lib.hid hown2; clear hown2 hg2 hat hlt)
  all_goals go_wp2
  all_goals go_ret
  all_goals exact HPost'.out _ w2 _ _ _ HO2.out HH.out ((hbw.mono (by omega)).alloc (by omega) _)
end Go.Proofs.YtoilcieineejiaaGreatDoor.OUnpF
/- What octet.Unpack answers, for at most 10,000 widths and a text of at most 100,000 bytes: the walk of its text. -/
namespace Go.Proofs.YtoilcieineejiaaGreatDoor.OUnp
open Go.RowKit
/-- What stands ahead of the first closure's i-th call. -/
def I1 (B : Nat) (aw : Option Addr) (n cw : Nat) (ws : List Int) (l : List UInt8) (w : World) (i : Nat) (W : World) : Prop :=
  widthsTo ws i ∧ W.heap[B]? = some (.cells #[.slice aw n cw] 23 (0, 0)) ∧ W.heap[B + 1]? = some (.cells #[.string ⟨l.toArray⟩] 9 (0, 0)) ∧
  W.heap[B + 2]? = some (.cells #[.int .i64 (sumTo ws i)] 3 (0, 0)) ∧ Below B w W
def Bad1 (B n : Nat) (ws : List Int) (w : World) (c : Int) (W : World) : Prop := c = 2 ∧ ¬ widthsTo ws n ∧ Below B w W
/-- What stands ahead of the second closure's i-th call. -/
def I2 (B O : Nat) (aw : Option Addr) (n cw : Nat) (ws : List Int) (l : List UInt8) (w : World) (i : Nat) (W : World) : Prop :=
  gotTo ws l i ∧ W.heap[B]? = some (.cells #[.slice aw n cw] 23 (0, 0)) ∧ W.heap[B + 1]? = some (.cells #[.string ⟨(l.drop (sumTo ws i)).toArray⟩] 9 (0, 0)) ∧
  (∃ va vn vc, W.heap[O]? = some (.cells #[.slice va vn vc] 23 (0, 0)) ∧ W.ownsRow (O + 1) 3 1 (.slice va vn vc) i ((numsTo ws l i).map (Value.int .i64))) ∧ Below B w W
def Bad2 (B n : Nat) (ws : List Int) (l : List UInt8) (w : World) (c : Int) (W : World) : Prop := c = 3 ∧ ¬ gotTo ws l n ∧ Below B w W
theorem step1 (aw : Option Addr) (n cw : Nat) (ws : List Int) (l : List UInt8) (w : World) (hw : Row w w.heap.size aw n ws) (hn : n ≤ 10000) (i : Nat) (W : World) (hi : i < n) (h : I1 w.heap.size aw n cw ws l w i W) :
    Calls Tryz.prog 160 #[.int .i64 i, .pointer (some ⟨w.heap.size, 0, none⟩), .pointer (some ⟨w.heap.size + 2, 0, none⟩)] W
      (OFirst.Step (I1 w.heap.size aw n cw ws l w) (Bad1 w.heap.size n ws w) i) := by
  obtain ⟨hok, hb0, hb1, hb2, hbel⟩ := h
  obtain ⟨b1, o1, rfl, hlt1, hc1⟩ := (hw.below hbel).2 (by omega)
  have hc0 := blk_cell (i := 0) hb0 rfl
  have hc := hc1 i hi
  by_cases hy : 1 ≤ ws.getD i 0 ∧ ws.getD i 0 ≤ 8
  · have hs := sumTo_le ws i hok
    have hnx := widthsTo_next hok hy
    have hsum : sumTo ws (i + 1) = sumTo ws i + (ws.getD i 0).toNat := rfl
    obtain ⟨k, hk⟩ : ∃ k : Nat, ws.getD i 0 = k := ⟨(ws.getD i 0).toNat, by omega⟩
    rw [hk] at hc hy hsum
    rw [Int.toNat_natCast] at hsum
    refine (OUnpF.right w.heap.size b1 o1 cw i n k _ W hc0 hi hc (by omega) (by omega) (by omega) (blk_cell hb2 rfl) (blk_free hb2)).mono ?_
    rintro e w1 ⟨rfl, rfl⟩
    refine ⟨0, rfl, .inl ⟨rfl, hnx, ?_, ?_, ?_, ?_⟩⟩
    · show (W.setCell _ _).heap[_]? = _
      rw [Below.heap_setCell _ _ _ _ (by simp)]; exact hb0
    · show (W.setCell _ _).heap[_]? = _
      rw [Below.heap_setCell _ _ _ _ (by simp)]; exact hb1
    · show (W.setCell _ _).heap[_]? = _
      rw [blk_set hb2, hsum]; rfl
    · exact (hbel.setCell (by simp) _).drew
  · refine (OUnpF.wrong w.heap.size b1 o1 cw i n _ W hc0 hi hc hy).mono ?_
    rintro e w1 ⟨rfl, rfl⟩
    exact ⟨2, rfl, .inr ⟨by omega, rfl, fun hall => hy (hall i hi), hbel⟩⟩
theorem step2 (O : Nat) (aw : Option Addr) (n cw : Nat) (ws : List Int) (l : List UInt8) (w : World) (hw : Row w w.heap.size aw n ws) (hn : n ≤ 10000) (hO : w.heap.size + 1 < O) (hok : widthsTo ws n) (hlen : l.length = sumTo ws n)
    (i : Nat) (W : World) (hi : i < n) (h : I2 w.heap.size O aw n cw ws l w i W) :
    Calls Tryz.prog 161 #[.int .i64 i, .pointer (some ⟨w.heap.size + 1, 0, none⟩), .pointer (some ⟨w.heap.size, 0, none⟩), .pointer (some ⟨O, 0, none⟩)] W
      (OFirst.Step (I2 w.heap.size O aw n cw ws l w) (Bad2 w.heap.size n ws l w) i) := by
  obtain ⟨hgot, hb0, hb1, ⟨va, vn, vc, hb2, hown⟩, hbel⟩ := h
  obtain ⟨b1, o1, rfl, hlt1, hc1⟩ := (hw.below hbel).2 (by omega)
  have hc := hc1 i hi
  have hy := hok i hi
  have hmono := sumTo_mono ws (i + 1) n (by omega)
  have hsum : sumTo ws (i + 1) = sumTo ws i + (ws.getD i 0).toNat := rfl
  have hpc : (l.drop (sumTo ws i)).take (ws.getD i 0).toNat = piece ws l i := rfl
  have hnums : numsTo ws l (i + 1) = numsTo ws l i ++ [(get (piece ws l i)).1] := rfl
  have hnx := fun hz => gotTo_next (ws := ws) (l := l) (i := i) hgot hz
  obtain ⟨k, hk⟩ : ∃ k : Nat, ws.getD i 0 = k := ⟨(ws.getD i 0).toNat, by omega⟩
  rw [hk] at hc hy hsum hpc
  rw [Int.toNat_natCast] at hsum hpc
  refine (OUnpF.take_any w.heap.size (w.heap.size + 1) O b1 o1 cw i n k i (l.drop (sumTo ws i)) va vn vc (numsTo ws l i) W (by omega) (by omega) (by omega)
    (blk_cell hb0 rfl) hi hc (by rw [List.length_drop]; omega) hb1 hb2 hown (by omega)).mono ?_
  rintro e w1 ⟨v, rfl, h2, h1, hown', hbel'⟩
  rw [hpc] at hown' ⊢
  refine ⟨_, rfl, ?_⟩
  by_cases hz : (get (piece ws l i)).2 = 0
  · obtain ⟨a', n', c', rfl⟩ := own_slice hown'
    refine .inl ⟨hz, hnx hz, (hbel'.block _ (by omega)).trans hb0, ?_, ⟨a', n', c', h2, ?_⟩, hbel.trans (hbel'.mono (by omega))⟩
    · rw [h1, List.drop_drop, hsum]
    · rw [hnums]; exact hown'
  · exact .inr ⟨hz, by rw [get_no _ hz], fun hall => hz (hall i hi), hbel.trans (hbel'.mono (by omega))⟩
theorem own_base {w : World} {base base' : Nat} {e : TypeId} {size : Nat} {v : Value} {n : Nat} {xs : List Value} (h : w.ownsRow base e size v n xs) (hb : base' ≤ base) : w.ownsRow base' e size v n xs := by
  refine ⟨h.1, ?_⟩
  rcases h.2 with h0 | ⟨g, cap, cur, hv, hg, rest⟩
  · exact .inl h0
  · exact .inr ⟨g, cap, cur, hv, by omega, rest⟩
/-- What Unpack leaves: a slice of its own with the numbers, or nil. -/
def Post (r : List Int × Int) (w : World) (e : Ending) (w' : World) : Prop :=
  ∃ v, e = .returned (.tuple #[v, .int .i64 r.2]) ∧ w'.ownsRow w.heap.size 3 1 v r.1.length (r.1.map (Value.int .i64)) ∧ Below w.heap.size w w'
theorem post_err (c : Int) (w w' : World) (h : Below w.heap.size w w') : Post ([], c) w (.returned (.tuple #[.slice none 0 0, .int .i64 c])) w' := ⟨_, rfl, World.ownsRow_nil _ _ _ _, h⟩
theorem any (aw : Option Addr) (n cw : Nat) (ws : List Int) (l : List UInt8) (w : World) (hw : Row w w.heap.size aw n ws) (hn : n ≤ 10000) (hl : l.length ≤ maxLen) :
    Calls Tryz.prog 153 #[.slice aw n cw, .string ⟨l.toArray⟩] w (Post (unpack ws l) w) := by
  have hmf : ∀ (fn : Fn) (first cap : Array Value) (w : World), (Instr.makeFunc fn first cap).run Tryz.prog w = .ok (.func fn first cap) w := fun _ _ _ _ => rfl
  have hs1 := Lib.hid (fun i W => step1 aw n cw ws l w hw hn i W)
  have HL : Hid (l.length ≤ maxLen) := hl
  have HW := Lib.hid hw
  clear hw hl
  have h0 : I1 w.heap.size aw n cw ws l w 0 (((w.alloc (.cells #[.slice aw n cw] 23)).alloc (.cells #[.string ⟨l.toArray⟩] 9)).alloc (.cells #[.int .i64 0] 3)) := by
    refine ⟨fun j hj => absurd hj (by omega), ?_, ?_, ?_, (((Below.refl _ _).alloc (Nat.le_refl _) _).alloc (by simp) _).alloc (by simp; omega) _⟩
    · rw [Below.heap_alloc _ _ _ (by simp; omega), Below.heap_alloc _ _ _ (by simp)]; exact heap_alloc_new w _
    · rw [Below.heap_alloc _ _ _ (by simp)]
      have := heap_alloc_new (w.alloc (.cells #[.slice aw n cw] 23)) (.cells #[.string ⟨l.toArray⟩] 9)
      simpa using this
    · have := heap_alloc_new ((w.alloc (.cells #[.slice aw n cw] 23)).alloc (.cells #[.string ⟨l.toArray⟩] 9)) (.cells #[.int .i64 0] 3)
      simpa [sumTo] using this
  have H0 := Lib.hid h0
  clear h0
  go_enter Tryz.func153, Tryz.ntmps153
  go_wp2_with fail
  refine (OFirst.over_unpack1 n (by omega) _ _ _ _ hs1.out _ H0.out).mono ?_
  rintro e w1 hpost
  rcases hpost with ⟨rfl, hI⟩ | ⟨c, hne, rfl, hB⟩
  · obtain ⟨hok, hb0, hb1, hb2, hbel⟩ := hI
    have hln : ws.length = n := HW.out.1
    have c1 := blk_cell (i := 0) hb1 rfl
    have c2 := blk_cell (i := 0) hb2 rfl
    have hsl := sumTo_le ws n hok
    by_cases hlen : l.length = sumTo ws n
    · have H3 : Hid (w1.heap[w.heap.size]? = some (.cells #[.slice aw n cw] 23 (0, 0)) ∧ w1.heap[w.heap.size + 1]? = some (.cells #[.string ⟨l.toArray⟩] 9 (0, 0)) ∧ widthsTo ws n ∧ l.length = sumTo ws n ∧ ws.length = n ∧ Below w.heap.size w w1) :=
        ⟨hb0, hb1, hok, hlen, hln, hbel⟩
      have hbne : ((l.length : Int) != (sumTo ws n : Int)) = false := by rw [hlen]; simp
      have hO : w.heap.size + 1 < w1.heap.size := by
        have := World.block_lt_of_cell? w1 _ c2
        have : w.heap.size + 2 < w1.heap.size := this
        omega
      have hs2 := Lib.hid (fun i W => step2 w1.heap.size aw n cw ws l w HW.out hn hO hok hlen i W)
      have h0 : I2 w.heap.size w1.heap.size aw n cw ws l w 0 (w1.alloc (.cells #[.slice none 0 0] 23)) := by
        refine ⟨fun j hj => absurd hj (by omega), (Below.heap_alloc _ _ _ (by omega)).trans hb0, ?_, ⟨none, 0, 0, heap_alloc_new _ _, World.ownsRow_nil _ _ _ _⟩, hbel.alloc (by omega) _⟩
        rw [Below.heap_alloc _ _ _ (by omega), hb1]; rfl
      have H0' := Lib.hid h0
      have c0 : (w1.alloc (.cells #[.slice none 0 0] 23)).cell? ⟨w.heap.size, 0, none⟩ = some (.slice aw n cw) := blk_cell ((Below.heap_alloc _ _ _ (by omega)).trans hb0) rfl
      clear hb0 hb1 hb2 hok hlen hln hbel h0
      go_wp2_with fail
      refine (OFirst.over_unpack2 n (by omega) _ _ _ _ _ hs2.out _ H0'.out).mono ?_
      rintro e w2 hpost
      rcases hpost with ⟨rfl, hI⟩ | ⟨c, hne, rfl, hB⟩
      · obtain ⟨hgot, _, _, ⟨va, vn, vc, hb3, hown⟩, hbel2⟩ := hI
        have c3 := blk_cell (i := 0) hb3 rfl
        have hp : unpack ws l = (numsTo ws l n, 0) := by
          obtain ⟨_, _, h4, h5, h6, _⟩ := H3.out
          have := unpack_good ws l (by rw [h6]; exact h4) (by rw [h6]; exact h5) (by rw [h6]; exact hgot)
          rw [h6] at this
          exact this
        have HP := Lib.hid hp
        have hfin : Hid (w2.ownsRow w.heap.size 3 1 (.slice va vn vc) (numsTo ws l n).length ((numsTo ws l n).map (Value.int .i64)) ∧ Below w.heap.size w w2) := by
          refine ⟨?_, hbel2⟩
          rw [numsTo_length]
          exact own_base hown (by omega)
        clear hb3 hown hbel2 hgot hp
        go_wp2_with fail
        go_ret2
        rw [HP.out]
        exact ⟨_, rfl, hfin.out.1, hfin.out.2⟩
      · obtain ⟨rfl, hbad, hbel2⟩ := hB
        have hp : unpack ws l = ([], 3) := by
          obtain ⟨_, _, h4, h5, h6, _⟩ := H3.out
          exact unpack_bad ws l (by rw [h6]; exact h4) (by rw [h6]; exact h5) (by rw [h6]; exact hbad)
        have HP := Lib.hid hp
        have HB := Lib.hid hbel2
        clear hp hbad hbel2 hne
        go_wp2_with fail
        go_ret2
        rw [HP.out]
        exact post_err 3 w w2 HB.out
    · have hbne : ((l.length : Int) != (sumTo ws n : Int)) = true := by rw [bne_iff_ne]; omega
      have hp : unpack ws l = ([], 3) := unpack_sum ws l (by rw [hln]; exact hok) (by rw [hln]; exact hlen)
      have HP := Lib.hid hp
      have HB := Lib.hid hbel
      clear hb0 hb1 hb2 hok hlen hln hbel hp
      go_wp2_with fail
      go_ret2
      rw [HP.out]
      exact post_err 3 w w1 HB.out
  · obtain ⟨rfl, hbad, hbel⟩ := hB
    have hp : unpack ws l = ([], 2) := unpack_width ws l (by rw [HW.out.1]; exact hbad)
    have HP := Lib.hid hp
    have HB := Lib.hid hbel
    clear hp hbad hbel hne
    go_wp2_with fail
    go_ret2
    rw [HP.out]
    exact post_err 2 w w1 HB.out
end Go.Proofs.YtoilcieineejiaaGreatDoor.OUnp
