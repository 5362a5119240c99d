/- octet.Unpack's closures: a width is looked at and counted; one number more is taken. -/
import Derived.Test.YtoilcieineejiaaGreatDoorLMem
import Derived.Test.YtoilcieineejiaaGreatDoorLPut
import Derived.Deep.RegionLaw
import Derived.Deep.AppendLies
import Derived.RegionTactic
import Derived.Deep.QuietTactic
import Derived.BigQuiet
namespace Go.Proofs.YtoilcieineejiaaGreatDoor.OUnpF
open Go.RowKit
theorem info3 : (Tryz.prog.info? 3).map (fun i => (i.zero, i.size, i.bytes)) = some (some (.int .i64 0), 1, 8) := by kernel_rfl
/-- A width that is none. -/
theorem wrong (B b1 o1 c1 i n : Nat) (y : Int) (w : World) (h1 : w.cell? ⟨B, 0, none⟩ = some (.slice (some ⟨b1, o1, none⟩) n c1)) (hi : i < n)
    (hy : w.cell? ⟨b1, o1 + i, none⟩ = some (.int .i64 y)) (hb : ¬ (1 ≤ y ∧ y ≤ 8)) :
    Calls Tryz.prog 160 #[.int .i64 i, .pointer (some ⟨B, 0, none⟩), .pointer (some ⟨B + 2, 0, none⟩)] w fun e w' => e = .returned (.int .i64 2) ∧ w = w' := by
  have H := Lib.hid hb
  clear hb
  go_enter Tryz.func160, Tryz.ntmps160
  go_wp2_with (go_at_call 113; refine (OWid.no _ _ H.out).mono ?_; rintro e w' ⟨rfl, rfl⟩)
  go_ret
  exact ⟨rfl, rfl⟩
theorem right (B b1 o1 c1 i n k m : Nat) (w : World) (h1 : w.cell? ⟨B, 0, none⟩ = some (.slice (some ⟨b1, o1, none⟩) n c1)) (hi : i < n)
    (hy : w.cell? ⟨b1, o1 + i, none⟩ = some (.int .i64 k)) (hk1 : 1 ≤ k) (hk2 : k ≤ 8) (hm : m ≤ 1000000)
    (hc : w.cell? ⟨B + 2, 0, none⟩ = some (.int .i64 m)) (hf : w.frozen? ⟨B + 2, 0, none⟩ = false) :
    Calls Tryz.prog 160 #[.int .i64 i, .pointer (some ⟨B, 0, none⟩), .pointer (some ⟨B + 2, 0, none⟩)] w fun e w' =>
      e = .returned (.int .i64 0) ∧ w' = (w.setCell ⟨B + 2, 0, none⟩ (.int .i64 (m + k : Nat))).drew := by
  go_enter Tryz.func160, Tryz.ntmps160
  go_wp2_with (go_at_call 113; refine (OWid.yes _ _ (by omega) (by omega)).mono ?_; rintro e w' ⟨rfl, rfl⟩)
  go_region
  all_goals go_wp2
  all_goals go_ret
  all_goals exact ⟨rfl, by rw [Int.natCast_add]⟩
/-- What the second closure leaves. -/
def Post (BS O m : Nat) (xs : List Int) (r : List UInt8) (k : Nat) (g : Int × Int) (w : World) (e : Ending) (w' : World) : Prop :=
  ∃ v, e = .returned (.int .i64 g.2) ∧ w'.heap[O]? = some (.cells #[v] 23 (0, 0)) ∧ w'.heap[BS]? = some (.cells #[.string ⟨(r.drop k).toArray⟩] 9 (0, 0)) ∧
    w'.ownsRow (O + 1) 3 1 v (m + 1) ((xs ++ [g.1]).map (Value.int .i64)) ∧ Below BS w w'
theorem ext_head (r : List UInt8) (k : Nat) : (⟨r.toArray⟩ : ByteArray).extract 0 k = ⟨(r.take k).toArray⟩ := by
  rw [ByteArray.extract_mk, List.drop_zero, Nat.sub_zero]
theorem ext_tail (r : List UInt8) (k : Nat) : (⟨r.toArray⟩ : ByteArray).extract k r.length = ⟨(r.drop k).toArray⟩ := by
  rw [ByteArray.extract_mk, List.take_of_length_le (by simp)]
/-- What is told of the world behind the append. -/
theorem after {A w2 : World} {BW BS O b1 o i m gg cap : Nat} {va : Option Addr} {vn vc : Nat} {xs : List Value} {v1 v2 v4 : Value} {s : ByteArray} (hown : A.ownsRow (O + 1) 3 1 (.slice va vn vc) m xs)
    (hg : A.grownBy w2 (Value.slice va vn vc).ownBlock) (n1 : BW < O) (n2 : BS < O) (n3 : b1 < O)
    (h1 : A.cell? ⟨BW, 0, none⟩ = some v1) (h2 : A.cell? ⟨BS, 0, none⟩ = some v2) (h4 : A.cell? ⟨b1, o + i, none⟩ = some v4)
    (hS : A.heap[BS]? = some (.cells #[.string s] 9 (0, 0))) (hO : A.heap[O]? = some (.cells #[.slice va vn vc] 23 (0, 0))) :
    w2.cell? ⟨BW, 0, none⟩ = some v1 ∧ w2.cell? ⟨BS, 0, none⟩ = some v2 ∧ w2.cell? ⟨b1, o + i, none⟩ = some v4 ∧ w2.cell? ⟨O, 0, none⟩ = some (.slice va vn vc) ∧ w2.frozen? ⟨O, 0, none⟩ = false ∧ w2.frozen? ⟨BS, 0, none⟩ = false ∧
    (w2.setCell ⟨O, 0, none⟩ (.slice (some ⟨gg, 0, none⟩) (m + 1) cap)).cell? ⟨BW, 0, none⟩ = some v1 ∧
    (w2.setCell ⟨O, 0, none⟩ (.slice (some ⟨gg, 0, none⟩) (m + 1) cap)).cell? ⟨BS, 0, none⟩ = some v2 ∧
    (w2.setCell ⟨O, 0, none⟩ (.slice (some ⟨gg, 0, none⟩) (m + 1) cap)).cell? ⟨b1, o + i, none⟩ = some v4 ∧
    Hid (w2.heap[O]? = some (.cells #[.slice va vn vc] 23 (0, 0)) ∧ w2.heap[BS]? = some (.cells #[.string s] 9 (0, 0)) ∧ Below O A w2) := by
  have hO1 : O < A.heap.size := World.block_lt_of_cell? A ⟨O, 0, none⟩ (blk_cell hO rfl)
  have hb : ∀ j, j ≤ O → w2.heap[j]? = A.heap[j]? := fun j hj => hg.block j (by omega) (fun e => by have := (hown.lt _ e.symm).1; omega)
  have c : ∀ {p : Addr} {v : Value}, p.block ≤ O → A.cell? p = some v → w2.cell? p = some v := fun hp h => (World.cell?_of_block (hb _ hp)).trans h
  have d : ∀ {p : Addr} {v : Value}, p.block < O → A.cell? p = some v → (w2.setCell ⟨O, 0, none⟩ (.slice (some ⟨gg, 0, none⟩) (m + 1) cap)).cell? p = some v := fun {p v} hp h =>
    (World.cell?_of_block (Below.heap_setCell w2 ⟨O, 0, none⟩ _ p.block (fun e => by have : p.block = O := e; omega))).trans (c (by omega) h)
  refine ⟨c (by simp; omega) h1, c (by simp; omega) h2, c (by simp; omega) h4, blk_cell ((hb O (by omega)).trans hO) rfl, blk_free ((hb O (by omega)).trans hO), blk_free ((hb BS (by omega)).trans hS), d n1 h1, d n2 h2, d n3 h4, ?_⟩
  exact ⟨(hb O (by omega)).trans hO, (hb BS (by omega)).trans hS, ⟨hg.os, hg.tape, hg.output, hg.size, fun k hk => hb k (by omega)⟩⟩
set_option maxHeartbeats 3200000 in
/-- The statement 'out, s = append(out, n), s[width:]', in whatever order Go takes it, from a world on in which the four cells are as told. -/
theorem take_any (BW BS O b1 o1 c1 i n k m : Nat) (r : List UInt8) (va : Option Addr) (vn vc : Nat) (xs : List Int) (w : World) (n1 : BW < O) (n2 : BS < O) (n3 : b1 < O)
    (h1 : w.cell? ⟨BW, 0, none⟩ = some (.slice (some ⟨b1, o1, none⟩) n c1)) (hi : i < n)
    (hy : w.cell? ⟨b1, o1 + i, none⟩ = some (.int .i64 k)) (hk : k ≤ r.length)
    (hs : w.heap[BS]? = some (.cells #[.string ⟨r.toArray⟩] 9 (0, 0)))
    (ho : w.heap[O]? = some (.cells #[.slice va vn vc] 23 (0, 0))) (hown : w.ownsRow (O + 1) 3 1 (.slice va vn vc) m (xs.map (Value.int .i64))) (hm : m ≤ 100000) :
    Calls Tryz.prog 161 #[.int .i64 i, .pointer (some ⟨BS, 0, none⟩), .pointer (some ⟨BW, 0, none⟩), .pointer (some ⟨O, 0, none⟩)] w (Post BS O m xs r k (get (r.take k)) w) := by
  have hget : ∀ W, Calls Tryz.prog 145 #[.string ((⟨r.toArray⟩ : ByteArray).extract 0 k)] W fun e w' => e = .returned (.tuple #[.int .i64 (get (r.take k)).1, .int .i64 (get (r.take k)).2]) ∧ w' = W := by
    intro W
    rw [ext_head]
    exact (OGet.any ⟨(r.take k).toArray⟩ W).mono fun _ _ ⟨h1, h2⟩ => ⟨h1, h2.symm⟩
  have HT := Lib.hid (ext_tail r k)
  generalize get (r.take k) = g at *
  obtain ⟨x, c⟩ := g
  have HG := Lib.hid hget
  clear hget
  have h2 : w.cell? ⟨BS, 0, none⟩ = some (.string ⟨r.toArray⟩) := blk_cell hs rfl
  have h3 : w.cell? ⟨O, 0, none⟩ = some (.slice va vn vc) := blk_cell ho rfl
  have HS := Lib.hid hs
  have HO := Lib.hid ho
  have HW := Lib.hid hown
  have l0 : O < w.heap.size := World.block_lt_of_cell? w _ h3
  have HPost : ∀ (A w' : World) (a' : Option Addr) (n' c' : Nat), w'.ownsRow (O + 1) 3 1 (.slice a' n' c') (m + 1) (xs.map (Value.int .i64) ++ [.int .i64 x]) →
      (w'.heap[O]? = some (.cells #[.slice va vn vc] 23 (0, 0)) ∧ w'.heap[BS]? = some (.cells #[.string ⟨r.toArray⟩] 9 (0, 0)) ∧ Below O A w') → Below O w A →
      Post BS O m xs r k (x, c) w (.returned (.int .i64 c)) ((w'.setCell ⟨O, 0, none⟩ (.slice a' n' c')).setCell ⟨BS, 0, none⟩ (.string ((⟨r.toArray⟩ : ByteArray).extract k r.length))) := by
    rintro A w' a' n' c' ho1 ⟨hO1, hS1, hb1⟩ hb0
    refine ⟨.slice a' n' c', rfl, ?_, ?_, ?_, ?_⟩
    · rw [Below.heap_setCell _ _ _ _ (by simp; omega), blk_set hO1]; rfl
    · rw [HT.out, blk_set (by rw [Below.heap_setCell _ _ _ _ (by simp; omega)]; exact hS1)]; rfl
    · have := own_set (i := 0) (own_set (i := 0) ho1 (show O < O + 1 by omega) (.slice a' n' c')) (show BS < O + 1 by omega) (.string ((⟨r.toArray⟩ : ByteArray).extract k r.length))
      rw [List.map_append]
      exact this
    · exact (((hb0.trans hb1).mono (by omega)).setCell (by simp; omega) _).setCell (by simp) _
  have HPost' := Lib.hid HPost
  clear hs ho hown HPost
  go_enter Tryz.func161, Tryz.ntmps161
  go_wp2_with fail
  go_quiet ((go_at_call 145; exact Calls.quiet_of_same (HG.out _)))
  go_wp2_with fail
  have hbw : Below w.heap.size w (w.drewN nq) := ⟨rfl, rfl, rfl, Nat.le_refl _, fun _ _ => rfl⟩
  have k1 : (w.drewN nq).cell? ⟨BW, 0, none⟩ = some (.slice (some ⟨b1, o1, none⟩) n c1) := h1
  have k2 : (w.drewN nq).cell? ⟨BS, 0, none⟩ = some (.string ⟨r.toArray⟩) := h2
  have k3 : (w.drewN nq).cell? ⟨O, 0, none⟩ = some (.slice va vn vc) := h3
  have ky : (w.drewN nq).cell? ⟨b1, o1 + i, none⟩ = some (.int .i64 k) := hy
  have kS : (w.drewN nq).heap[BS]? = some (.cells #[.string ⟨r.toArray⟩] 9 (0, 0)) := HS.out
  have kO : (w.drewN nq).heap[O]? = some (.cells #[.slice va vn vc] 23 (0, 0)) := HO.out
  have kown : (w.drewN nq).ownsRow (O + 1) 3 1 (.slice va vn vc) m (xs.map (Value.int .i64)) := HW.out
  clear h1 h2 h3 hy HS HO HW
  generalize w.drewN nq = W at *
  have l1 := World.block_lt_of_cell? W _ k1
  have l2 := World.block_lt_of_cell? W _ k2
  have l3 := World.block_lt_of_cell? W _ k3
  have l4 := World.block_lt_of_cell? W _ ky
  have a1 : (W.alloc (.cells #[.int .i64 x] 3)).cell? ⟨BW, 0, none⟩ = some (.slice (some ⟨b1, o1, none⟩) n c1) := (World.cell?_alloc_lt W _ _ l1).trans k1
  have a2 : (W.alloc (.cells #[.int .i64 x] 3)).cell? ⟨BS, 0, none⟩ = some (.string ⟨r.toArray⟩) := (World.cell?_alloc_lt W _ _ l2).trans k2
  have a3 : (W.alloc (.cells #[.int .i64 x] 3)).cell? ⟨O, 0, none⟩ = some (.slice va vn vc) := (World.cell?_alloc_lt W _ _ l3).trans k3
  have a4 : (W.alloc (.cells #[.int .i64 x] 3)).cell? ⟨b1, o1 + i, none⟩ = some (.int .i64 k) := (World.cell?_alloc_lt W _ _ l4).trans ky
  have aS := Lib.hid ((Below.heap_alloc W (.cells #[.int .i64 x] 3) BS l2).trans kS)
  have aO := Lib.hid ((Below.heap_alloc W (.cells #[.int .i64 x] 3) O l3).trans kO)
  have aown := Lib.hid ((kown.alloc (.cells #[.int .i64 x] 3)))
  have anew := Lib.hid (World.news_of_block (cs := #[.int .i64 x]) (t := 3) (fr := (0, 0)) (heap_alloc_new W (.cells #[.int .i64 x] 3)))
  clear kS kO kown
  have l3' : O + 1 ≤ W.heap.size := l3
  obtain ⟨i0, hi0, hz0, hz1, hz2⟩ := info_parts info3
  have x1 : ¬ BW = O := by omega
  have x2 : ¬ BS = O := by omega
  have x3 : ¬ b1 = O := by omega
  have x4 : ¬ O = BW := by omega
  have x5 : ¬ O = BS := by omega
  have x6 : ¬ O = b1 := by omega
  go_region_law (refine step_append_lies _ (by rfl) _ _ _ (by rfl) (O + 1) 3 i0 _ 1 8 Tryz.underlying23 hi0 hz0 hz1 hz2 rfl (by omega) (.slice va vn vc) m (xs.map (Value.int .i64)) (by rfl) aown.out ⟨W.heap.size, 0, none⟩ 1 1 [.int .i64 x] (by rfl) (by rfl) anew.out (by simp [Value.oneCell']) (by omega) (by unfold maxLen; omega) (by omega) (Nat.le_trans l3' (by simp)) (W.heap.size + 1) (by simp) ?_; intro gg cap w2 hown2 hg2 hat hlt; obtain ⟨e1, e2, e4, e3, f3, f2, s1, s2, s4, HH⟩ := after (gg := gg) (cap := cap) aown.out ⟨hg2.os, hg2.tape, hg2.output, hg2.size, hg2.block⟩ n1 n2 n3 a1 a2 a4 aS.out aO.out; have HO2 := Lib.hid hown2; clear hown2 hg2 hat hlt)
  all_goals go_wp2
  all_goals go_ret
  all_goals exact HPost'.out _ w2 _ _ _ HO2.out HH.out ((hbw.mono (by omega)).alloc (by omega) _)
end Go.Proofs.YtoilcieineejiaaGreatDoor.OUnpF
