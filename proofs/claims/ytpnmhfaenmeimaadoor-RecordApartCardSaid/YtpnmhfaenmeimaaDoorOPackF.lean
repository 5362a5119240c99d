/- octet.Pack's closure: one number more is laid behind the others. -/
import Derived.Test.YtpnmhfaenmeimaaDoorSlice
import Derived.Test.YtpnmhfaenmeimaaDoorOPut
import Derived.Deep.RegionHeld3
import Derived.Deep.DeepMust
namespace Go.Proofs.YtpnmhfaenmeimaaDoor.OPackF
open Go.RowKit
theorem info5 : (Tryd.prog.info? 5).map (fun i => (i.zero, i.size, i.bytes)) = some (some (.int .u8 0), 1, 1) := by kernel_rfl
/-- What the closure leaves: the bytes are behind the others; below it nothing has turned. -/
def Post (B m : Nat) (xs : List UInt8) (r : List UInt8 × Int) (w : World) (e : Ending) (w' : World) : Prop :=
  ∃ v, e = .returned (.int .i64 r.2) ∧ w'.heap[B + 2]? = some (.cells #[v] 57 (0, 0)) ∧
    w'.ownsRow (B + 3) 5 1 v (m + r.1.length) (Lib.strCells ⟨(xs ++ r.1).toArray⟩) ∧ Below (B + 2) w w'
theorem kept4 {w w1 : World} {B b1 o1 c1 b2 o2 c2 i k : Nat} {x y : Int} (hb : Below w.heap.size w w1)
    (h1 : w.cell? ⟨B, 0, none⟩ = some (.slice (some ⟨b1, o1, none⟩) k c1)) (h2 : w.cell? ⟨B + 1, 0, none⟩ = some (.slice (some ⟨b2, o2, none⟩) k c2))
    (hx : w.cell? ⟨b2, o2 + i, none⟩ = some (.int .i64 x)) (hy : w.cell? ⟨b1, o1 + i, none⟩ = some (.int .i64 y)) :
    w1.cell? ⟨B, 0, none⟩ = some (.slice (some ⟨b1, o1, none⟩) k c1) ∧ w1.cell? ⟨B + 1, 0, none⟩ = some (.slice (some ⟨b2, o2, none⟩) k c2) ∧ w1.cell? ⟨b2, o2 + i, none⟩ = some (.int .i64 x) ∧ w1.cell? ⟨b1, o1 + i, none⟩ = some (.int .i64 y) := by
  have k := fun {p : Addr} {v : Value} (h : w.cell? p = some v) => (hb.cell (World.block_lt_of_cell? w p h)).trans h
  exact ⟨k h1, k h2, k hx, k hy⟩
theorem any (B b1 o1 c1 b2 o2 c2 i k m : Nat) (x y : Int) (v : Value) (xs : List UInt8) (w : World)
    (h1 : w.cell? ⟨B, 0, none⟩ = some (.slice (some ⟨b1, o1, none⟩) k c1)) (h2 : w.cell? ⟨B + 1, 0, none⟩ = some (.slice (some ⟨b2, o2, none⟩) k c2)) (hi : i < k)
    (hx : w.cell? ⟨b2, o2 + i, none⟩ = some (.int .i64 x)) (hy : w.cell? ⟨b1, o1 + i, none⟩ = some (.int .i64 y))
    (ho : w.heap[B + 2]? = some (.cells #[v] 57 (0, 0))) (hown : w.ownsRow (B + 3) 5 1 v m (Lib.strCells ⟨xs.toArray⟩)) (hm : m ≤ 100000) :
    Calls Tryd.prog 36 #[.int .i64 i, .pointer (some ⟨B + 1, 0, none⟩), .pointer (some ⟨B, 0, none⟩), .pointer (some ⟨B + 2, 0, none⟩)] w (Post B m xs (put x y) w) := by
  have hl := be_le x y
  have P := fun W => OPut.any x y W
  generalize put x y = r at *
  obtain ⟨bs, c⟩ := r
  obtain ⟨i0, hi0, hz0, hz1, hz2⟩ := info_parts info5
  have hvb := hown.lt
  have HO := Lib.hid ho
  have HV := Lib.hid hvb
  have HP := Lib.hid P
  clear ho hvb P
  have HW := Lib.hid hown
  clear hown
  go_enter Tryd.func36, Tryd.ntmps36
  go_wp2_with fail
  go_region_held3 (fun w' => w'.cell? ⟨B, 0, none⟩ = some (.slice (some ⟨b1, o1, none⟩) k c1) ∧ w'.cell? ⟨B + 1, 0, none⟩ = some (.slice (some ⟨b2, o2, none⟩) k c2) ∧ w'.cell? ⟨b2, o2 + i, none⟩ = some (.int .i64 x) ∧ w'.cell? ⟨b1, o1 + i, none⟩ = some (.int .i64 y))
    (first | exact ⟨h1, h2, hx, hy⟩ | exact hS1)
    (first | (go_at_call 37; refine (HP.out _).mono ?_; rintro e w1 ⟨rfl, hb1⟩; have hS1 := kept4 hb1 h1 h2 hx hy))
  rename_i hHeld
  clear hHeld hS1
  have hlt : B + 2 < w.heap.size := (Array.getElem?_eq_some_iff.1 HO.out).1
  have hb0 : Below w.heap.size w w1 := ⟨hb1.os, hb1.tape, hb1.output, hb1.size, hb1.block⟩
  have ho1 : w1.heap[B + 2]? = some (.cells #[v] 57 (0, 0)) := (hb0.block _ hlt).trans HO.out
  have hown1 : w1.ownsRow (B + 3) 5 1 v m (Lib.strCells ⟨xs.toArray⟩) :=
    HW.out.kept (row := none) ⟨hb0.os, hb0.tape, hb0.output, hb0.size, fun k hk _ => hb0.block k hk⟩ (by cases v.ownBlock <;> simp)
  have hc1 : w1.cell? ⟨B + 2, 0, none⟩ = some v := blk_cell ho1 rfl
  have HO1 := Lib.hid ho1
  have hsz1 : B + 3 ≤ w1.heap.size := by have := hb0.size; omega
  have HB0 := Lib.hid hb0
  clear ho1 h1 h2 hx hy hb1 hb0
  have hbs : (⟨bs.toArray⟩ : ByteArray).size = bs.length := rfl
  have HBS := Lib.hid hbs
  clear hbs
  go_wp2_with
    (at_builtin
     go_must (refine Lib.wpList_append_own_string _ rfl (.tmp 20) (.tmp 21) _ _ rfl (B + 3) 5 i0 Tryd.underlying57 Tryd.underlying9 hi0 hz0 hz1 hz2 v m _ rfl hown1 ⟨bs.toArray⟩ rfl (by rw [HBS.out]; unfold maxLen; omega) (by rw [HBS.out]; omega) hsz1 ?_)
     intro v' w2 hown2 hg2 hnil2
     obtain ⟨a', n', c', rfl⟩ := own_slice hown2
     have hlt1 : B + 2 < w1.heap.size := by omega
     have hne : some (B + 2) ≠ v.ownBlock := fun e => by have := (hown1.lt _ e.symm).1; omega
     have ho2 : w2.heap[B + 2]? = some (.cells #[v] 57 (0, 0)) := (hg2.block _ hlt1 hne).trans HO1.out
     have hc2 : w2.cell? ⟨B + 2, 0, none⟩ = some v := blk_cell ho2 rfl
     have hf2 : w2.frozen? ⟨B + 2, 0, none⟩ = false := blk_free ho2
     have HO2 := Lib.hid ho2
     have HG2 := Lib.hid hg2
     have HN2 := Lib.hid hnil2
     have HV1 := Lib.hid hown1.lt
     clear ho2 hg2 hnil2 hc1 hown1)
  go_ret
  refine ⟨.slice a' n' c', rfl, ?_, ?_, ?_⟩
  · rw [blk_set HO2.out]; rfl
  · have h := own_set (i := 0) hown2 (show B + 2 < B + 3 by omega) (.slice a' n' c')
    rw [HBS.out] at h
    simpa [Lib.strCells] using h
  · refine (((HB0.out.mono (by omega)).grown HG2.out (by omega) (fun k hk => ?_)).setCell (by simp) _)
    have := (HV1.out k hk).1
    omega
end Go.Proofs.YtpnmhfaenmeimaaDoor.OPackF
