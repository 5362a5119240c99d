/- What keepsakeref05.add answers, of a state and a key's words: the walk of its text. -/
import Derived.Test.YtjlepjnfacmieaaARBox
import Derived.Deep.RegionHeld3
import Derived.Deep.DeepCutAuto
namespace Go.Proofs.Ytjlepjnfacmieaa.ARAdd
open Go.RowKit
open AesM ADbl ARef ARBox
theorem info3 : (Try.prog.info? 3).map (fun i => (i.zero, i.size, i.bytes)) = some (some (.int .i64 0), 1, 8) := by kernel_rfl
theorem news_one (w : World) (x : Int) : ∀ j u, ([.int .i64 x] : List Value)[j]? = some u → (w.alloc (.cells #[.int .i64 x] 3)).cell? ((⟨w.heap.size, 0, none⟩ : Addr).add j) = some u := by
  intro j u hu
  rcases j with _ | j
  · simp only [List.getElem?_cons_zero, Option.some.injEq] at hu
    subst hu
    simp [Addr.add]
  · simp at hu
theorem below_own {w1 w2 : World} {o : Obj} {B n : Nat} {v : Value} {xs : List Value} (hB : B ≤ w1.heap.size) (h : (w1.alloc o).drew.ownsRow B 3 1 v n xs) (hg : (w1.alloc o).drew.grownBy w2 v.ownBlock) : Below B w1 w2 :=
  (((Below.refl B w1).alloc hB o).trans (below_drewN _ 1)).grown hg (by show _ ≤ (w1.alloc o).heap.size; simp; omega) (fun k hk => (h.lt k hk).1)
/-- An own row of ints, as bytes. -/
theorem kept_alloc {w : World} {p : Addr} {v : Value} (o : Obj) (hp : p.block < w.heap.size) (h : w.cell? p = some v) : (w.alloc o).cell? p = some v :=
  (World.cell?_of_block (heap_alloc_old w o hp)).trans h
theorem kept2 {w w' : World} {B : Nat} {p q : Addr} {x y : Value} (hb : Below B w w') (hp : p.block < B) (hq : q.block < B) (h : w.cell? p = some x ∧ w.cell? q = some y) : w'.cell? p = some x ∧ w'.cell? q = some y :=
  ⟨(hb.cell hp).trans h.1, (hb.cell hq).trans h.2⟩
def Own (W : World) (B : Nat) (v : Value) (l : List UInt8) : Prop := W.ownsRow B 3 1 v l.length ((ints l).map (Value.int .i64))
theorem own_nil (W : World) (B : Nat) : Own W B (.slice none 0 0) [] := World.ownsRow_nil _ _ _ _
theorem own_next {W : World} {B : Nat} {v : Value} {l : List UInt8} {x : UInt8} (h : W.ownsRow B 3 1 v (l.length + 1) ((ints l).map (Value.int .i64) ++ [.int .i64 x.toNat])) : Own W B v (l ++ [x]) := by
  unfold Own
  rw [ints_append, List.map_append, List.length_append]
  exact h
theorem own_row {W : World} {B : Nat} {a : Option Addr} {n c : Nat} {l : List UInt8} (h : Own W B (.slice a n c) l) : n = l.length ∧ Row W W.heap.size a n (ints l) := by
  have h2 : n = l.length := by
    rcases h.2 with ⟨hv, h0⟩ | ⟨g, cap, cur, hv, _⟩
    · injection hv with h1 h2 h3; omega
    · injection hv with h1 h2 h3
  refine ⟨h2, ?_⟩
  unfold Own at h
  rw [← h2] at h
  exact row_own h
/-- What a call that makes a slice of ints leaves. -/
def Made (r : List UInt8) (w : World) (e : Ending) (w' : World) : Prop :=
  ∃ a c, e = .returned (.slice a r.length c) ∧ Row w' w'.heap.size a r.length (ints r) ∧ Own w' w.heap.size (.slice a r.length c) r ∧ Below w.heap.size w w'
theorem xi (a b : UInt8) : bits .xor .i64 (a.toNat : Int) (b.toNat : Int) = ((a ^^^ b).toNat : Int) := by
  rw [x64 _ _ (by have := a.toNat_lt; omega) (by have := b.toNat_lt; omega), UInt8.toNat_xor]
theorem take_fill (f : Nat → UInt8) (j : Nat) (h : j < 16) : (fillL f).take (j + 1) = (fillL f).take j ++ [f j] := by
  have hl := fillL_length f
  rw [List.take_succ_eq_append_getElem (by omega)]
  congr 1
  simp [fillL]
theorem take_len (f : Nat → UInt8) (j : Nat) (h : j ≤ 16) : ((fillL f).take j).length = j := by
  rw [List.length_take, fillL_length]; omega
set_option maxRecDepth 100000 in
set_option linter.unusedSimpArgs false in
theorem add (as_ al : Option Addr) (cs cl r : Nat) (s l : List UInt8) (w : World) (hs : Row w w.heap.size as_ 16 (ints s)) (hl : Row w w.heap.size al 176 (ints l)) (hr : r ≤ 10) :
    Calls Try.prog 30 #[.slice as_ 16 cs, .slice al 176 cl, .int .i64 r] w (Made (addL s l r) w) := by
  obtain ⟨i0, hi0, hz0, hz1, hz2⟩ := info_parts info3
  have HS := Lib.hid hs
  have HL := Lib.hid hl
  have hr' : (r : Int) ≤ 10 := by omega
  obtain ⟨f, hf⟩ : ∃ f : Nat → UInt8, f = fun i => s.getD i 0 ^^^ l.getD (16 * r + i) 0 := ⟨_, rfl⟩
  have HR : Hid (addL s l r = fillL f) := by show _ = _; rw [hf]; rfl
  have HF : Hid (∀ i, f i = s.getD i 0 ^^^ l.getD (16 * r + i) 0) := fun i => by rw [hf]
  clear hs hl hf
  go_enter Try.func30, Try.ntmps30
  go_wp2_with fail
  go_loopw [7, 8] (fun o i wr => ∃ (j : Nat) (va : Option Addr) (vn vc : Nat), j ≤ 16 ∧ i = .int .i64 j ∧ o = .slice va vn vc ∧ Hid (Own wr w.heap.size (.slice va vn vc) ((fillL f).take j)) ∧ Below w.heap.size w wr) (fun _ i _ => 16 - (intOf i).toNat)
  case atStart => exact ⟨0, none, 0, 0, Nat.zero_le _, rfl, rfl, own_nil _ _, Below.refl _ _⟩
  case round =>
    obtain ⟨j, va, vn, vc, hj, rfl, rfl, hown, hbel⟩ := hrel
    by_cases hlt : j < 16
    · obtain ⟨b1, o1, rfl, hb1, hc1⟩ := (HS.out.below hbel).2 (by omega)
      obtain ⟨b2, o2, rfl, hb2, hc2⟩ := (HL.out.below hbel).2 (by omega)
      have hx := hc1 j hlt
      have hy := hc2 (16 * r + j) (by omega)
      rw [ints_getD] at hx hy
      have HN := Lib.hid (take_fill f j hlt)
      rw [HF.out j] at HN
      have HX := Lib.hid (xi (s.getD j 0) (l.getD (16 * r + j) 0))
      obtain ⟨m, hm⟩ : ∃ m, m = 16 * r + j := ⟨_, rfl⟩
      rw [← hm] at hy HN HX
      have e0 : IntKind.i64.wrap (16 * (r : Int)) = 16 * (r : Int) := by rw [IntWalk.i64_in _ (by omega)]
      have e1 : IntKind.i64.wrap (16 * (r : Int) + (j : Int)) = (m : Int) := by rw [IntWalk.i64_in _ (by omega)]; omega
      have g1 : (m : Int) < 176 := by omega
      have z1 : (0 : Int) ≤ (m : Int) := by omega
      have g2 : (j : Int) < 16 := by omega
      have z2 : (0 : Int) ≤ (j : Int) := by omega
      have HT := Lib.hid (take_len f j hj)
      generalize s.getD j 0 = x at *
      generalize l.getD m 0 = y at *
      have HB := Lib.hid hbel
      have hx1 := kept_alloc (.cells #[.int .i64 (x ^^^ y).toNat] 3) (World.block_lt_of_cell? wr _ hx) hx
      have hy1 := kept_alloc (.cells #[.int .i64 (x ^^^ y).toNat] 3) (World.block_lt_of_cell? wr _ hy) hy
      have hown1 := World.ownsRow.alloc hown.out (.cells #[.int .i64 (x ^^^ y).toNat] 3)
      rw [HT.out] at hown1
      rw [← HX.out] at hx1 hy1 hown1
      have HO1 : Hid ((wr.alloc (.cells #[.int .i64 (bits .xor .i64 (x.toNat : Int) (y.toNat : Int))] 3)).drew.ownsRow w.heap.size 3 1 (.slice va vn vc) j ((ints ((fillL f).take j)).map (Value.int .i64))) := hown1
      have Hnew : Hid (∀ k u, ([.int .i64 (bits .xor .i64 (x.toNat : Int) (y.toNat : Int))] : List Value)[k]? = some u → (wr.alloc (.cells #[.int .i64 (bits .xor .i64 (x.toNat : Int) (y.toNat : Int))] 3)).drew.cell? ((⟨wr.heap.size, 0, none⟩ : Addr).add k) = some u) := news_one wr _
      have HZ0 := Lib.hid hbel.size
      have HBas : Hid (w.heap.size ≤ (wr.alloc (.cells #[.int .i64 (bits .xor .i64 (x.toNat : Int) (y.toNat : Int))] 3)).drew.heap.size) := by show _ ≤ (wr.alloc _).heap.size; have := hbel.size; simp; omega
      have HOne : Hid (∀ u ∈ ([.int .i64 (bits .xor .i64 (x.toNat : Int) (y.toNat : Int))] : List Value), u.oneCell' = true) := by show ∀ _, _; simp [Value.oneCell']
      have HMax : Hid (j + 1 ≤ maxLen) := by show _ ≤ _; unfold maxLen; omega
      have HByt : Hid ((j + 1) * 8 ≤ 140737488355328) := by show _ ≤ _; omega
      have HL1 := Lib.hid hb1
      have HL2 := Lib.hid hb2
      have HH := Lib.hid (show wr.cell? _ = _ ∧ wr.cell? _ = _ from ⟨hx, hy⟩)
      clear hc1 hc2 hm hb1 hb2 hbel hown hown1
      go_upto_region 5 with (fail)
      go_region_held3 (fun w' => w'.cell? ⟨b1, o1 + j, none⟩ = some (.int .i64 x.toNat) ∧ w'.cell? ⟨b2, o2 + m, none⟩ = some (.int .i64 y.toNat))
        (first | exact ⟨hx, hy⟩ | exact ⟨hx1, hy1⟩ | exact hS2)
        (first
          | (rw [if_pos (by rfl)]
             refine wp_append_own _ _ _ _ rfl w.heap.size 3 i0 (.int .i64 0) 1 8 Try.underlying39 hi0 hz0 hz1 hz2 ?_ ?_ (.slice va vn vc) j _ ?_ HO1.out ⟨wr.heap.size, 0, none⟩ 1 1 [.int .i64 (bits .xor .i64 (x.toNat : Int) (y.toNat : Int))] ?_ ?_ Hnew.out HOne.out HMax.out HByt.out HBas.out ?_
             · rfl
             · exact Nat.one_pos
             · rfl
             · rfl
             · rfl
             intro v' w2 hown2 hg2 hnil2
             obtain ⟨a', n', c', rfl⟩ := own_slice hown2
             have hb2 := below_own HZ0.out HO1.out hg2
             have hS2 := kept2 hb2 HL1.out HL2.out HH.out
             have HB2 := Lib.hid (HB.out.trans hb2)
             have HO2 := Lib.hid hown2
             clear hown2 hg2 hnil2 hb2))
      go_wp2_with fail
      go_roundw
      case rel => exact ⟨j + 1, a', n', c', by omega, by go_num, rfl, by show Own _ _ _ _; rw [HN.out]; exact own_next (by rw [HT.out, ← HX.out]; exact HO2.out), HB2.out⟩
      case measure => simp [intOf]; omega
    · have hk : j = 16 := by omega
      subst hk
      have ho : Own wr w.heap.size (.slice va vn vc) (fillL f) := by
        have h := hown.out
        rw [List.take_of_length_le (by rw [fillL_length]; exact Nat.le_refl _)] at h
        exact h
      obtain ⟨h1, h2⟩ := own_row ho
      have HE : Hid (Made (addL s l r) w (.returned (.slice va vn vc)) wr) := by
        show Made _ _ _ _
        rw [HR.out]
        subst h1
        exact ⟨va, vc, rfl, h2, ho, hbel⟩
      clear hown ho h1 h2 hbel
      go_wp2_with fail
      go_ret
      exact HE.out
end Go.Proofs.Ytjlepjnfacmieaa.ARAdd
