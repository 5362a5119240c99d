/- DSaid DRSaid DKey DPie DLong: one behind the other. -/
import Derived.Test.YtkidehngleglnaaGreatDoorDrv
import Derived.Test.YtkidehngleglnaaGreatDoorDRep
import Derived.Test.YtkidehngleglnaaGreatDoorLOpk
import Derived.Test.YtkidehngleglnaaGreatDoorOText
import Derived.Laws.AppendOwn
import Derived.Laws.AppendOwnNone
import Derived.Test.YtkidehngleglnaaGreatDoorRText
import Derived.Test.YtkidehngleglnaaGreatDoorSlice
import Derived.Deep.RegionHeld3
import Derived.Deep.DeepCutAuto
import Derived.Test.YtkidehngleglnaaGreatDoorLHky
import Derived.Test.YtkidehngleglnaaGreatDoorLRsum
import Derived.Test.YtkidehngleglnaaGreatDoorShelf
import Derived.Shelf.Strings.BuilderK
/- What derive.Said answers: the walks of its text. -/
namespace Go.Proofs.YtkidehngleglnaaGreatDoor.DSaid
open Go.RowKit
/-- A label or a count that can't be said. -/
theorem bad (l : List UInt8) (a : Option Addr) (n cap : Nat) (w : World) (h : l = [] ∨ (16 : Int) < (l.length : Int) ∨ (8 : Int) < (n : Int)) :
    Calls Tryz.prog 90 #[.string ⟨l.toArray⟩, .slice a n cap] w fun e w' => e = .returned (.tuple #[.string ⟨#[]⟩, .int .i64 2]) ∧ w = w' := by
  by_cases h0 : l = []
  · subst h0
    clear h
    go_enter Tryz.func90, Tryz.ntmps90
    go_wp2_with fail
    go_ret2
    exact ⟨rfl, rfl⟩
  by_cases h1 : (16 : Int) < (l.length : Int)
  · clear h
    go_enter Tryz.func90, Tryz.ntmps90
    go_wp2_with fail
    all_goals go_ret2
    all_goals exact ⟨rfl, rfl⟩
  · have h2 : (8 : Int) < (n : Int) := by
      rcases h with h | h | h
      · exact absurd h h0
      · exact absurd h h1
      · exact h
    clear h
    go_enter Tryz.func90, Tryz.ntmps90
    go_wp2_with fail
    all_goals go_ret2
    all_goals exact ⟨rfl, rfl⟩
theorem row_cells {w : World} {B n : Nat} {ad : Addr} {c : List Int} (h : Row w B (some ad) n c) : ∀ j u, (c.map (Value.int .i64))[j]? = some u → w.cell? (ad.add j) = some u := by
  intro j u hu
  have hj : j < c.length := by
    have := (List.getElem?_eq_some_iff.1 hu).1
    simpa using this
  obtain ⟨b, off, e, _, hc⟩ := h.2 (by have := h.1; omega)
  obtain rfl := Option.some.inj e
  rw [Go.WideShapes.add_plain, hc j (by have := h.1; omega)]
  rw [List.getElem?_map, List.getElem?_eq_getElem hj, Option.map_some] at hu
  rw [← Option.some.inj hu]
  simp [List.getD, hj]
theorem ints_one (c : List Int) : ∀ u ∈ c.map (Value.int .i64), u.oneCell' = true := by
  intro u hu
  obtain ⟨n, _, rfl⟩ := List.mem_map.1 hu
  rfl
theorem row_ints (n : Nat) : DRep.row n n = (List.replicate n (8 : Int)).map (Value.int .i64) := by simp [DRep.row]
theorem own_first (x : Int) (w : World) : (w.alloc (.cells #[.int .i64 x] 3)).ownsRow w.heap.size 3 1 (.slice (some ⟨w.heap.size, 0, none⟩) 1 1) 1 [.int .i64 x] :=
  ⟨rfl, .inr ⟨w.heap.size, 1, #[.int .i64 x], rfl, Nat.le_refl _, heap_alloc_new w _, Nat.le_refl _, by unfold maxLen; omega, rfl, rfl⟩⟩
theorem own_len {w : World} {base n n' c : Nat} {a : Option Addr} {e : TypeId} {size : Nat} {xs : List Value} (h : w.ownsRow base e size (.slice a n' c) n xs) : n' = n := by
  rcases h.2 with ⟨e, h0⟩ | ⟨g, cap, cur, hv, _⟩
  · simp only [Value.slice.injEq] at e
    omega
  · simp only [Value.slice.injEq] at hv
    exact hv.2.1
set_option maxRecDepth 100000 in
set_option maxHeartbeats 1000000 in
theorem some_ (l : List UInt8) (ad : Addr) (n cap : Nat) (c : List Int) (w : World) (h : Row w w.heap.size (some ad) n c) (hi : ∀ x ∈ c, x ≤ 9223372036854775807)
    (h0 : (l == []) = false) (h1 : ¬ (16 : Int) < (l.length : Int)) (h2 : ¬ (8 : Int) < (n : Int)) :
    Calls Tryz.prog 90 #[.string ⟨l.toArray⟩, .slice (some ad) n cap] w fun e w' => e = .returned (.tuple #[.string ⟨(said l c).1.toArray⟩, .int .i64 (said l c).2]) ∧ Below w.heap.size w w' := by
  have hcl : c.length = n := h.1
  have hl1 : 1 ≤ l.length := by
    cases l with
    | nil => simp at h0
    | cons x l => simp
  have hpk := pack_said c (by omega) hi
  rw [hcl] at hpk
  have hof : saidOf l c = be 4 l.length ++ (l ++ UInt8.ofNat n :: nums8 c) := by rw [saidOf, hcl]
  have hlen : (UInt8.ofNat n :: nums8 c).length ≤ 100 := by rw [List.length_cons, nums8_length]; omega
  generalize hz : UInt8.ofNat n :: nums8 c = z at *
  clear hz
  obtain ⟨r, hr⟩ : ∃ r, r = pack (1 :: List.replicate n 8) ((n : Int) :: c) := ⟨_, rfl⟩
  rw [← hr] at hpk
  have HRR : Hid ((r = (z, 0) ∧ said l c = (saidOf l c, 0)) ∨ (r = ([], 2) ∧ said l c = ([], 2))) := by
    show _ ∨ _
    by_cases hc : ∀ n ∈ c, (0 : Int) ≤ n
    · rw [if_pos hc] at hpk; exact .inl ⟨hpk, said_good ⟨hl1, by omega, by omega, hc⟩⟩
    · rw [if_neg hc] at hpk; exact .inr ⟨hpk, said_bad fun hh => hc hh.2.2.2⟩
  have HE : Hid ((text ⟨l.toArray⟩ ++ ⟨z.toArray⟩ : ByteArray) = ⟨(saidOf l c).toArray⟩) := by
    show _ = _
    rw [text, ByteArray.mk_append_mk, ByteArray.mk_append_mk, hof, List.append_assoc]
    rfl
  have HTx := Lib.hid (fun W => OText.any ⟨l.toArray⟩ W (by show l.length ≤ _; omega))
  have htl : (text ⟨l.toArray⟩).size ≤ 20 := by
    rw [text, ByteArray.size_append]
    show (be 4 l.length).length + l.length ≤ 20
    rw [be_length]; omega
  generalize text ⟨l.toArray⟩ = tx at *
  clear hof hpk
  have HP : Hid (∀ (aw al : Option Addr) (cw cl : Nat) (W : World), Row W W.heap.size aw (1 + n) (1 :: List.replicate n 8) → Row W W.heap.size al (1 + n) ((n : Int) :: c) →
      Calls Tryz.prog 42 #[.slice aw (1 + n) cw, .slice al (1 + n) cl] W fun e w' => e = .returned (.tuple #[.string ⟨r.1.toArray⟩, .int .i64 r.2]) ∧ Below W.heap.size W w') := by
    rw [hr]
    exact Lib.hid fun aw al cw cl W hw hl => OPack.any aw al (1 + n) (1 + n) cw cl _ _ W hw hl (by omega)
  clear hr
  obtain ⟨i0, hi0, hz0, hz1, hz2⟩ := info_parts DRep.info3
  have HH := Lib.hid h
  have HCL := Lib.hid hcl
  clear h hcl hi
  obtain ⟨w1, hw1⟩ : ∃ w1, w1 = w.alloc (.cells #[.int .i64 1] 3) := ⟨_, rfl⟩
  have HO1 : Hid (w1.ownsRow w.heap.size 3 1 (.slice (some ⟨w.heap.size, 0, none⟩) 1 1) 1 [.int .i64 1]) := by rw [hw1]; exact own_first 1 w
  have HB1 : Hid (Below w.heap.size w w1) := by rw [hw1]; exact (Below.refl _ _).alloc (Nat.le_refl _) _
  have hs1 : w1.heap.size = w.heap.size + 1 := by rw [hw1]; simp
  obtain ⟨w2, hw2⟩ : ∃ w2, w2 = w1.alloc (.cells #[.int .i64 8] 3) := ⟨_, rfl⟩
  have HB2 : Hid (Below w1.heap.size w1 w2) := by rw [hw2]; exact (Below.refl _ _).alloc (Nat.le_refl _) _
  have hb8 : w2.cell? ⟨w.heap.size + 1, 0, none⟩ = some (.int .i64 8) := by rw [hw2, ← hs1]; exact blk_cell (heap_alloc_new w1 _) rfl
  have HR := Lib.hid (DRep.any (w.heap.size + 1) n w2 (by omega) hb8)
  have HW1 := Lib.hid hw1
  have HW2 := Lib.hid hw2
  clear hw1 hw2 hs1 hb8
  have hrl : (DRep.row n n).length = n := DRep.row_length n n (Nat.le_refl _)
  have hrm : [Value.int .i64 1] ++ DRep.row n n = ((1 :: List.replicate n 8) : List Int).map (Value.int .i64) := by rw [row_ints]; rfl
  have hr1 : ∀ u ∈ DRep.row n n, u.oneCell' = true := by rw [row_ints]; exact ints_one _
  have HRL := Lib.hid hrl
  have HRM := Lib.hid hrm
  have HR1 := Lib.hid hr1
  clear hrl hrm hr1
  generalize DRep.row n n = rw8 at *
  go_enter Tryz.func90, Tryz.ntmps90
  go_wp2_with fail
  rw [← HW1.out, ← HW2.out]
  clear HW1 HW2
  refine HR.out.mono ?_
  rintro e w3 ⟨rfl, hblk, hb3⟩
  have hb13 := HB2.out.trans (hb3.mono HB2.out.size)
  have HB3 := Lib.hid (HB1.out.trans (hb13.mono HB1.out.size))
  have HO3 := Lib.hid (HO1.out.kept (row := none) ⟨hb13.os, hb13.tape, hb13.output, hb13.size, fun k hk _ => hb13.block k hk⟩ (.inr (by simp [Value.ownBlock])))
  have HK3 : Hid (∀ j u, rw8[j]? = some u → w3.cell? ((⟨w2.heap.size, 0, none⟩ : Addr).add j) = some u) := by
    show ∀ j u, _
    intro j u hu
    rw [Go.WideShapes.add_plain, Nat.zero_add]
    exact blk_cell hblk (by rw [List.getElem?_toArray]; exact hu)
  clear hblk hb3 hb13 HO1 HB1 HB2 HR
  go_wp2_with (first
    | (at_builtin
       refine wpList_append_own _ rfl (.tmp 21) (.tmp 25) 73 rfl w.heap.size 3 i0 (.int .i64 0) 1 8 Tryz.underlying73 hi0 hz0 hz1 hz2 rfl (by omega) _ 1 [.int .i64 1] rfl HO3.out ⟨w2.heap.size, 0, none⟩ n n rw8 rfl (by have := HRL.out; omega) HK3.out HR1.out (by unfold maxLen; omega) (by omega) HB3.out.size ?_
       intro v4 w4 hown4 hg4 hnil4
       obtain ⟨a4, n4, c4, rfl⟩ := own_slice hown4
       obtain rfl := own_len hown4
       rw [HRM.out] at hown4
       have HR4 := Lib.hid (row_own hown4)
       have HB4 := Lib.hid (HB3.out.grown hg4 HB3.out.size (fun j hj => by have e2 : w.heap.size = j := Option.some.inj hj; omega))
       clear hown4 hg4 hnil4)
    | (at_builtin; go_loud (
       have HO5 := Lib.hid (own_first (n : Int) w4)
       have HC5 := Lib.hid (row_cells (HH.out.below (HB4.out.alloc HB4.out.size (.cells #[.int .i64 (n : Int)] 3))))
       refine wpList_append_own _ rfl (.tmp 31) (.tmp 32) 73 rfl w4.heap.size 3 i0 (.int .i64 0) 1 8 Tryz.underlying73 hi0 hz0 hz1 hz2 rfl (by omega) _ 1 [.int .i64 n] rfl HO5.out ad n cap (c.map (Value.int .i64)) rfl (by rw [List.length_map, HCL.out, Nat.mul_one]) HC5.out (ints_one c) (by unfold maxLen; omega) (by omega) (by simp) ?_
       intro v6 w6 hown6 hg6 hnil6
       obtain ⟨a6, n6, c6, rfl⟩ := own_slice hown6
       obtain rfl := own_len hown6
       have HL6 : Hid (Row w6 w6.heap.size a6 (1 + n) ((n : Int) :: c)) := Lib.hid (row_own hown6)
       have hb6 : Below w4.heap.size w4 w6 := ((Below.refl w4.heap.size w4).alloc (Nat.le_refl _) _).grown hg6 (by simp) (fun j hj => by have e2 : w4.heap.size = j := Option.some.inj hj; omega)
       have HR6 := Lib.hid ((HR4.out.below hb6).more hb6.size)
       have HB6 := Lib.hid (HB4.out.trans (hb6.mono HB4.out.size))
       clear hown6 hg6 hnil6 hb6)))
  refine (HP.out _ _ _ _ _ HR6.out HL6.out).mono ?_
  rintro e w7 ⟨rfl, hb7⟩
  have HB7 := Lib.hid (HB6.out.trans (hb7.mono HB6.out.size))
  clear hb7
  rcases HRR.out with ⟨rfl, hs⟩ | ⟨rfl, hs⟩
  · have HS := Lib.hid hs
    clear hs
    go_wp2_with (go_at_call 44; refine (HTx.out _).mono ?_; rintro e w8 ⟨rfl, hb8⟩; have HB8 := Lib.hid (HB7.out.trans (hb8.mono HB7.out.size)); clear hb8)
    rw [HE.out]
    go_ret2
    exact ⟨by rw [HS.out]; rfl, HB8.out⟩
  · have HS := Lib.hid hs
    clear hs
    go_wp2_with fail
    go_ret2
    exact ⟨by rw [HS.out]; rfl, HB7.out⟩
set_option maxRecDepth 100000 in
set_option maxHeartbeats 1000000 in
theorem none_ (l : List UInt8) (w : World) (h0 : (l == []) = false) (h1 : ¬ (16 : Int) < (l.length : Int)) :
    Calls Tryz.prog 90 #[.string ⟨l.toArray⟩, .slice none 0 0] w fun e w' => e = .returned (.tuple #[.string ⟨(said l []).1.toArray⟩, .int .i64 (said l []).2]) ∧ Below w.heap.size w w' := by
  have hl1 : 1 ≤ l.length := by
    cases l with
    | nil => simp at h0
    | cons x l => simp
  have hpk : pack [1] [0] = ([0], 0) := pack_said [] (by simp) (by simp)
  have hof : saidOf l [] = be 4 l.length ++ (l ++ [0]) := rfl
  have hlen : ([0] : List UInt8).length ≤ 100 := by simp
  have HSD := Lib.hid (said_good (l := l) (c := []) ⟨hl1, by omega, by simp, by simp⟩)
  generalize ([0] : List UInt8) = z at *
  obtain ⟨r, hr⟩ : ∃ r, r = pack [1] [0] := ⟨_, rfl⟩
  rw [← hr] at hpk
  have HRR : Hid ((r = (z, 0) ∧ said l [] = (saidOf l [], 0)) ∨ (r = ([], 2) ∧ said l [] = ([], 2))) := .inl ⟨hpk, HSD.out⟩
  have HE : Hid ((text ⟨l.toArray⟩ ++ ⟨z.toArray⟩ : ByteArray) = ⟨(saidOf l []).toArray⟩) := by
    show _ = _
    rw [text, ByteArray.mk_append_mk, ByteArray.mk_append_mk, hof, List.append_assoc]
    rfl
  have HTx := Lib.hid (fun W => OText.any ⟨l.toArray⟩ W (by show l.length ≤ _; omega))
  have htl : (text ⟨l.toArray⟩).size ≤ 20 := by
    rw [text, ByteArray.size_append]
    show (be 4 l.length).length + l.length ≤ 20
    rw [be_length]; omega
  generalize text ⟨l.toArray⟩ = tx at *
  clear hof hpk
  have HP : Hid (∀ (aw al : Option Addr) (cw cl : Nat) (W : World), Row W W.heap.size aw 1 [1] → Row W W.heap.size al 1 [0] →
      Calls Tryz.prog 42 #[.slice aw 1 cw, .slice al 1 cl] W fun e w' => e = .returned (.tuple #[.string ⟨r.1.toArray⟩, .int .i64 r.2]) ∧ Below W.heap.size W w') := by
    rw [hr]
    exact Lib.hid fun aw al cw cl W hw hl => OPack.any aw al 1 1 cw cl _ _ W hw hl (by omega)
  clear hr
  obtain ⟨i0, hi0, hz0, hz1, hz2⟩ := info_parts DRep.info3
  obtain ⟨w1, hw1⟩ : ∃ w1, w1 = w.alloc (.cells #[.int .i64 1] 3) := ⟨_, rfl⟩
  have HO1 : Hid (w1.ownsRow w.heap.size 3 1 (.slice (some ⟨w.heap.size, 0, none⟩) 1 1) 1 [.int .i64 1]) := by rw [hw1]; exact own_first 1 w
  have HB1 : Hid (Below w.heap.size w w1) := by rw [hw1]; exact (Below.refl _ _).alloc (Nat.le_refl _) _
  have hs1 : w1.heap.size = w.heap.size + 1 := by rw [hw1]; simp
  obtain ⟨w2, hw2⟩ : ∃ w2, w2 = w1.alloc (.cells #[.int .i64 8] 3) := ⟨_, rfl⟩
  have HB2 : Hid (Below w1.heap.size w1 w2) := by rw [hw2]; exact (Below.refl _ _).alloc (Nat.le_refl _) _
  have hb8 : w2.cell? ⟨w.heap.size + 1, 0, none⟩ = some (.int .i64 8) := by rw [hw2, ← hs1]; exact blk_cell (heap_alloc_new w1 _) rfl
  have HR := Lib.hid (DRep.none_ (w.heap.size + 1) w2)
  have HW1 := Lib.hid hw1
  have HW2 := Lib.hid hw2
  clear hw1 hw2 hs1 hb8
  have hrl : (DRep.row 0 0).length = 0 := DRep.row_length 0 0 (Nat.le_refl _)
  have hrm : [Value.int .i64 1] ++ DRep.row 0 0 = ([1] : List Int).map (Value.int .i64) := by rw [row_ints]; rfl
  have hr1 : ∀ u ∈ DRep.row 0 0, u.oneCell' = true := by rw [row_ints]; exact ints_one _
  have HRL := Lib.hid hrl
  have HRM := Lib.hid hrm
  have HR1 := Lib.hid hr1
  clear hrl hrm hr1
  generalize DRep.row 0 0 = rw8 at *
  go_enter Tryz.func90, Tryz.ntmps90
  go_wp2_with fail
  rw [← HW1.out, ← HW2.out]
  clear HW1 HW2
  refine HR.out.mono ?_
  rintro e w3 ⟨rfl, hblk, hb3⟩
  have hb13 := HB2.out.trans (hb3.mono HB2.out.size)
  have HB3 := Lib.hid (HB1.out.trans (hb13.mono HB1.out.size))
  have HO3 := Lib.hid (HO1.out.kept (row := none) ⟨hb13.os, hb13.tape, hb13.output, hb13.size, fun k hk _ => hb13.block k hk⟩ (.inr (by simp [Value.ownBlock])))
  have HK3 : Hid (∀ j u, rw8[j]? = some u → w3.cell? ((⟨w2.heap.size, 0, none⟩ : Addr).add j) = some u) := by
    show ∀ j u, _
    intro j u hu
    rw [Go.WideShapes.add_plain, Nat.zero_add]
    exact blk_cell hblk (by rw [List.getElem?_toArray]; exact hu)
  clear hblk hb3 hb13 HO1 HB1 HB2 HR
  go_wp2_with (first
    | (at_builtin
       refine wpList_append_own _ rfl (.tmp 21) (.tmp 25) 73 rfl w.heap.size 3 i0 (.int .i64 0) 1 8 Tryz.underlying73 hi0 hz0 hz1 hz2 rfl (by omega) _ 1 [.int .i64 1] rfl HO3.out ⟨w2.heap.size, 0, none⟩ 0 0 rw8 rfl (by have := HRL.out; omega) HK3.out HR1.out (by unfold maxLen; omega) (by omega) HB3.out.size ?_
       intro v4 w4 hown4 hg4 hnil4
       obtain ⟨a4, n4, c4, rfl⟩ := own_slice hown4
       obtain rfl := own_len hown4
       rw [HRM.out] at hown4
       have HR4 := Lib.hid (row_own hown4)
       have HB4 := Lib.hid (HB3.out.grown hg4 HB3.out.size (fun j hj => by have e2 : w.heap.size = j := Option.some.inj hj; omega))
       clear hown4 hg4 hnil4)
    | (at_builtin; go_loud (
       have HO5 := Lib.hid (own_first 0 w4)
       refine wpList_append_own_none rfl (.tmp 31) (.tmp 32) 73 rfl w4.heap.size 3 i0 1 Tryz.underlying73 hi0 _ 1 [.int .i64 0] rfl HO5.out rfl ?_
       have hb6 : Below w4.heap.size w4 (w4.alloc (.cells #[.int .i64 0] 3)) := (Below.refl w4.heap.size w4).alloc (Nat.le_refl _) _
       have HL6 : Hid (Row (w4.alloc (.cells #[.int .i64 0] 3)) (w4.alloc (.cells #[.int .i64 0] 3)).heap.size (some ⟨w4.heap.size, 0, none⟩) 1 [0]) := Lib.hid (row_own HO5.out)
       have HR6 := Lib.hid ((HR4.out.below hb6).more hb6.size)
       have HB6 := Lib.hid (HB4.out.trans (hb6.mono HB4.out.size))
       clear hb6
       obtain ⟨w6, hw6⟩ : ∃ w6, w6 = w4.alloc (.cells #[.int .i64 0] 3) := ⟨_, rfl⟩
       rw [← hw6] at HL6 HR6 HB6 ⊢
       clear hw6)))
  refine (HP.out _ _ _ _ _ HR6.out HL6.out).mono ?_
  rintro e w7 ⟨rfl, hb7⟩
  have HB7 := Lib.hid (HB6.out.trans (hb7.mono HB6.out.size))
  clear hb7
  rcases HRR.out with ⟨rfl, hs⟩ | ⟨rfl, hs⟩
  · have HS := Lib.hid hs
    clear hs
    go_wp2_with (go_at_call 44; refine (HTx.out _).mono ?_; rintro e w8 ⟨rfl, hb8⟩; have HB8 := Lib.hid (HB7.out.trans (hb8.mono HB7.out.size)); clear hb8)
    rw [HE.out]
    go_ret2
    exact ⟨by rw [HS.out]; rfl, HB8.out⟩
  · have HS := Lib.hid hs
    clear hs
    go_wp2_with fail
    go_ret2
    exact ⟨by rw [HS.out]; rfl, HB7.out⟩
/-- THE CONTRACT of derive.Said, at a row of numbers as it came in. -/
theorem any (l : List UInt8) (a : Option Addr) (n cap : Nat) (c : List Int) (w : World) (h : Row w w.heap.size a n c) (ha : a = none → n = 0 ∧ cap = 0) (hi : ∀ x ∈ c, x ≤ 9223372036854775807) :
    Calls Tryz.prog 90 #[.string ⟨l.toArray⟩, .slice a n cap] w fun e w' => e = .returned (.tuple #[.string ⟨(said l c).1.toArray⟩, .int .i64 (said l c).2]) ∧ Below w.heap.size w w' := by
  by_cases hb : l = [] ∨ (16 : Int) < (l.length : Int) ∨ (8 : Int) < (n : Int)
  · rw [said_bad (by
      rintro ⟨h1, h2, h3, _⟩
      have := h.1
      rcases hb with rfl | hb | hb
      · simp at h1
      · omega
      · omega)]
    exact (bad l a n cap w hb).mono fun e w' ⟨h1, h2⟩ => ⟨h1, h2 ▸ Below.refl _ _⟩
  · have h0 : (l == []) = false := by
      cases l with
      | nil => exact absurd (.inl rfl) hb
      | cons x l => rfl
    have h1 : ¬ (16 : Int) < (l.length : Int) := fun hh => hb (.inr (.inl hh))
    have h2 : ¬ (8 : Int) < (n : Int) := fun hh => hb (.inr (.inr hh))
    cases a with
    | none =>
      obtain ⟨rfl, rfl⟩ := ha rfl
      obtain rfl : c = [] := List.eq_nil_of_length_eq_zero h.1
      exact none_ l w h0 h1
    | some ad => exact some_ l ad n cap c w h hi h0 h1 h2
end Go.Proofs.YtkidehngleglnaaGreatDoor.DSaid
/- What keepsakeref04.Said answers: the walks of its text. -/
namespace Go.Proofs.YtkidehngleglnaaGreatDoor.DRSaid
open Go.RowKit
theorem bad (l : List UInt8) (a : Option Addr) (n cap : Nat) (w : World) (h : (l.length : Int) < 1 ∨ (16 : Int) < (l.length : Int) ∨ (8 : Int) < (n : Int)) :
    Calls Tryz.prog 58 #[.string ⟨l.toArray⟩, .slice a n cap] w fun e w' => e = .returned (.tuple #[.string ⟨#[]⟩, .int .i64 2]) ∧ w = w' := by
  by_cases h0 : (l.length : Int) < 1
  · clear h
    go_enter Tryz.func58, Tryz.ntmps58
    go_wp2_with fail
    go_ret2
    exact ⟨rfl, rfl⟩
  by_cases h1 : (16 : Int) < (l.length : Int)
  · clear h
    go_enter Tryz.func58, Tryz.ntmps58
    go_wp2_with fail
    go_ret2
    exact ⟨rfl, rfl⟩
  · have h2 : (8 : Int) < (n : Int) := by omega
    clear h
    go_enter Tryz.func58, Tryz.ntmps58
    go_wp2_with fail
    go_ret2
    exact ⟨rfl, rfl⟩
theorem wrap8 (n : Nat) : IntKind.u8.wrap (n : Int) = (n : Int) % 256 := by simp [IntKind.wrap, IntKind.bits, IntKind.signed]
/-- The byte that was laid is read as a text, also behind a call that leaves it alone. -/
theorem conv_new (n : Nat) (W : World) : (convert 65 9 (.slice (some ⟨W.heap.size, 0, none⟩) 1 1)).run Tryz.prog (W.alloc (.cells #[.int .u8 (IntKind.u8.wrap (n : Int))] 5)) = .ok (.string ⟨[UInt8.ofNat n].toArray⟩) (W.alloc (.cells #[.int .u8 (IntKind.u8.wrap (n : Int))] 5)) :=
  conv_row Tryz.underlying65 Tryz.underlying5 Tryz.underlying9 (by rw [heap_alloc_new, wrap8, one_byte]) rfl
theorem conv_drew (n : Nat) (W : World) : (convert 65 9 (.slice (some ⟨W.heap.size, 0, none⟩) 1 1)).run Tryz.prog (W.alloc (.cells #[.int .u8 (IntKind.u8.wrap (n : Int))] 5)).drew = .ok (.string ⟨[UInt8.ofNat n].toArray⟩) (W.alloc (.cells #[.int .u8 (IntKind.u8.wrap (n : Int))] 5)).drew := by
  have h : (W.alloc (.cells #[.int .u8 (IntKind.u8.wrap (n : Int))] 5)).drew.heap[W.heap.size]? = _ := heap_alloc_new W _
  exact conv_row Tryz.underlying65 Tryz.underlying5 Tryz.underlying9 (by rw [h, wrap8, one_byte]) rfl
theorem conv_later (n : Nat) (W w1 : World) (hb : Below (W.alloc (.cells #[.int .u8 (IntKind.u8.wrap (n : Int))] 5)).drew.heap.size (W.alloc (.cells #[.int .u8 (IntKind.u8.wrap (n : Int))] 5)).drew w1) :
    (convert 65 9 (.slice (some ⟨W.heap.size, 0, none⟩) 1 1)).run Tryz.prog w1 = .ok (.string ⟨[UInt8.ofNat n].toArray⟩) w1 := by
  have h := (hb.block W.heap.size (by show W.heap.size < (W.alloc _).heap.size; simp)).trans (heap_alloc_new W _)
  exact conv_row Tryz.underlying65 Tryz.underlying5 Tryz.underlying9 (by rw [h, wrap8, one_byte]) rfl
theorem belowA {w w1 : World} (o : Obj) (hb : Below w.drew.heap.size w.drew w1) : Below w.heap.size w (w1.alloc o) :=
  ((Below.refl w.heap.size w).drew.trans hb).alloc hb.size o
theorem belowB {w w1 : World} (o : Obj) (hb : Below (w.alloc o).drew.heap.size (w.alloc o).drew w1) : Below w.heap.size w w1 :=
  ((Below.refl w.heap.size w).alloc (Nat.le_refl _) o).drew.trans (hb.mono (by show w.heap.size ≤ (w.alloc o).heap.size; simp))
theorem step_nums (c : List Int) (j : Nat) (h : j < c.length) : nums8 (c.take (j + 1)) = nums8 (c.take j) ++ be 8 (c.getD j 0).toNat := by
  rw [List.take_succ_eq_append_getElem h, nums8_append]
  simp [nums8, List.getD, h]
set_option maxRecDepth 100000 in
set_option maxHeartbeats 1000000 in
theorem good (l : List UInt8) (a : Option Addr) (n cap : Nat) (c : List Int) (w : World) (h : Row w w.heap.size a n c) (hi : ∀ x ∈ c, x ≤ 9223372036854775807)
    (h0 : ¬ (l.length : Int) < 1) (h1 : ¬ (16 : Int) < (l.length : Int)) (h2 : ¬ (8 : Int) < (n : Int)) :
    Calls Tryz.prog 58 #[.string ⟨l.toArray⟩, .slice a n cap] w fun e w' => e = .returned (.tuple #[.string ⟨(said l c).1.toArray⟩, .int .i64 (said l c).2]) ∧ Below w.heap.size w w' := by
  have hcl : c.length = n := h.1
  have HSD : Hid ((∀ x ∈ c, (0 : Int) ≤ x) → said l c = ((be 4 l.length ++ (l ++ [UInt8.ofNat n])) ++ nums8 c, 0)) := by
    show _ → _
    intro hc
    rw [said_good ⟨by omega, by omega, by omega, hc⟩, saidOf, hcl]
    simp
  have HSB : Hid ((¬ ∀ x ∈ c, (0 : Int) ≤ x) → said l c = ([], 2)) := by
    show _ → _
    exact fun hc => said_bad fun hh => hc hh.2.2.2
  have HE : Hid ((text ⟨l.toArray⟩ ++ ⟨[UInt8.ofNat n].toArray⟩ : ByteArray) = ⟨(be 4 l.length ++ (l ++ [UInt8.ofNat n])).toArray⟩) := by
    show _ = _
    rw [text, ByteArray.mk_append_mk, ByteArray.mk_append_mk, List.append_assoc]
    rfl
  have HTx := Lib.hid (fun W => RText.any ⟨l.toArray⟩ W (by show l.length < _; omega))
  have htl : (text ⟨l.toArray⟩).size ≤ 20 := by
    rw [text, ByteArray.size_append]
    show (be 4 l.length).length + l.length ≤ 20
    rw [be_length]; omega
  have hhl : (be 4 l.length ++ (l ++ [UInt8.ofNat n])).length ≤ 21 := by simp [be_length]; omega
  generalize text ⟨l.toArray⟩ = tx at *
  generalize be 4 l.length ++ (l ++ [UInt8.ofNat n]) = hd at *
  have HH := Lib.hid h
  have HI := Lib.hid hi
  have HCL := Lib.hid hcl
  have HCV := fun W => conv_new n W
  have HCV2 := fun W => conv_drew n W
  clear h hi hcl
  go_enter Tryz.func58, Tryz.ntmps58
  go_upto_region 3 with fail
  go_cut [6] (fun s6 wx => s6 = .string ⟨hd.toArray⟩ ∧ Below w.heap.size w wx)
  case first =>
    go_region_with ((go_at_call 46; refine (HTx.out _).mono ?_; rintro e w1 ⟨rfl, hb1⟩; (try have hcv1 := conv_later n _ _ hb1)))
    all_goals (go_wp2_with fail; go_meet; first | exact ⟨congrArg Value.string HE.out, belowA _ hb1⟩ | exact ⟨congrArg Value.string HE.out, belowB _ hb1⟩)
  case rest =>
    obtain ⟨rfl, hbel0⟩ := hcut
    clear HCV HCV2 HTx HE
    have HB0 := Lib.hid hbel0
    clear hbel0
    go_wp2_with fail
    go_loopw [6, 7] (fun s i wr => ∃ j : Nat, j ≤ n ∧ i = .int .i64 j ∧ s = .string ⟨(hd ++ nums8 (c.take j)).toArray⟩ ∧ (∀ x ∈ c.take j, (0 : Int) ≤ x) ∧ Below w.heap.size w wr) (fun _ i _ => n - (intOf i).toNat)
    case atStart => exact ⟨0, Nat.zero_le _, rfl, by simp [nums8], (fun x hx => by simp at hx), HB0.out⟩
    case round =>
      obtain ⟨j, hj, rfl, rfl, hpos, hbel⟩ := hrel
      have HB := Lib.hid hbel
      have HPO := Lib.hid hpos
      clear hbel hpos HB0
      by_cases hlt : j < n
      · have hjc : j < c.length := by rw [HCL.out]; exact hlt
        obtain ⟨b, off, rfl, hq, hcc⟩ := (HH.out.below HB.out).2 (by omega)
        have hcj := hcc j hlt
        have hx := HI.out _ (List.getElem_mem hjc)
        have hgd : c.getD j 0 = c[j]'hjc := by simp [List.getD, hjc]
        have hin : c.getD j 0 ∈ c := by rw [hgd]; exact List.getElem_mem hjc
        rw [← hgd] at hx
        have hnl : (nums8 (c.take j)).length ≤ 64 := by rw [nums8_length, List.length_take]; omega
        have HSN := Lib.hid (step_nums c j hjc)
        have HNX : Hid ((0 : Int) ≤ c.getD j 0 → ∀ x ∈ c.take (j + 1), (0 : Int) ≤ x) := by
          show _ → _
          intro h0 x hx
          rw [List.take_succ_eq_append_getElem hjc, List.mem_append, List.mem_singleton] at hx
          rcases hx with hx | hx
          · exact HPO.out x hx
          · rw [hx, ← hgd]; exact h0
        have HP := Lib.hid (fun W => RPut.any (c.getD j 0) 8 W hx)
        rw [put8 _ hx] at HP
        have HIN := Lib.hid hin
        have hbl := be_length 8 (c.getD j 0).toNat
        have hbl2 : (be 8 (c.getD j 0).toNat).length ≤ 8 := by omega
        clear hjc hcc hgd hin hbl
        generalize nums8 (c.take j) = y at *
        by_cases h00 : (0 : Int) ≤ c.getD j 0
        · rw [if_pos h00] at HP
          have H00 := Lib.hid (HNX.out h00)
          clear h00 hx HNX HIN
          generalize be 8 (c.getD j 0).toNat = z at *
          generalize c.getD j 0 = x at *
          go_wp2_with (go_at_call 23; refine (HP.out _).mono ?_; rintro e w1 ⟨rfl, hb1⟩; have HB1 := Lib.hid (HB.out.trans (hb1.mono HB.out.size)); clear hb1)
          go_roundw
          case rel => exact ⟨j + 1, by omega, by go_num, by rw [HSN.out, ByteArray.mk_append_mk, List.append_assoc], H00.out, HB1.out⟩
          case measure => simp [intOf]; omega
        · rw [if_neg h00] at HP
          have HBAD := Lib.hid (HSB.out fun hall => h00 (hall _ HIN.out))
          clear h00 hx HNX HIN
          generalize be 8 (c.getD j 0).toNat = z at *
          generalize c.getD j 0 = x at *
          go_wp2_with (go_at_call 23; refine (HP.out _).mono ?_; rintro e w1 ⟨rfl, hb1⟩; have HB1 := Lib.hid (HB.out.trans (hb1.mono HB.out.size)); clear hb1)
          go_ret2
          exact ⟨by rw [HBAD.out]; rfl, HB1.out⟩
      · obtain rfl : j = n := by omega
        have ht : c.take j = c := List.take_of_length_le (by rw [HCL.out]; exact Nat.le_refl _)
        rw [ht] at HPO ⊢
        have HG := Lib.hid (HSD.out HPO.out)
        clear ht HPO
        go_wp2_with fail
        go_ret2
        exact ⟨by rw [HG.out]; rfl, HB.out⟩
/-- THE CONTRACT of keepsakeref04.Said. -/
theorem any (l : List UInt8) (a : Option Addr) (n cap : Nat) (c : List Int) (w : World) (h : Row w w.heap.size a n c) (hi : ∀ x ∈ c, x ≤ 9223372036854775807) :
    Calls Tryz.prog 58 #[.string ⟨l.toArray⟩, .slice a n cap] w fun e w' => e = .returned (.tuple #[.string ⟨(said l c).1.toArray⟩, .int .i64 (said l c).2]) ∧ Below w.heap.size w w' := by
  by_cases hb : (l.length : Int) < 1 ∨ (16 : Int) < (l.length : Int) ∨ (8 : Int) < (n : Int)
  · rw [said_bad (by
      rintro ⟨h1, h2, h3, _⟩
      have := h.1
      omega)]
    exact (bad l a n cap w hb).mono fun e w' ⟨h1, h2⟩ => ⟨h1, h2 ▸ Below.refl _ _⟩
  · exact good l a n cap c w h hi (fun hh => hb (.inl hh)) (fun hh => hb (.inr (.inl hh))) (fun hh => hb (.inr (.inr hh)))
end Go.Proofs.YtkidehngleglnaaGreatDoor.DRSaid
/- What derive.Key and keepsakeref04.Key answer, and the chapter's example: the walks of their texts. The condition of Key: the rounds' numbers lie in the program's variable. -/
namespace Go.Proofs.YtkidehngleglnaaGreatDoor.DKey
open Go.RowKit
open STurn
/-- THE CONTRACT of derive.Key. -/
theorem Key (k l : List UInt8) (a : Option Addr) (n cap : Nat) (c : List Int) (w : World) (hr : Rds w) (h : Row w w.heap.size a n c) (ha : a = none → n = 0 ∧ cap = 0) (hi : ∀ x ∈ c, x ≤ 9223372036854775807) (hk : k.length ≤ 576460752303423488) :
    Calls Tryz.prog 70 #[.string ⟨k.toArray⟩, .string ⟨l.toArray⟩, .slice a n cap] w fun e w' => e = .returned (.tuple #[.string ⟨(keyFor k l c).1.toArray⟩, .int .i64 (keyFor k l c).2]) ∧ Below w.heap.size w w' := by
  have HS := Lib.hid (DSaid.any l a n cap c w h ha hi)
  have HR := Lib.hid hr
  clear h ha hi hr
  by_cases hc : saidOk l c
  · have hsl := said_le l c hc
    have HM := Lib.hid (fun W hr => HPart.Mac k (saidOf l c) W hr hk (by omega))
    rw [said_good hc] at HS
    rw [key_good hc]
    generalize macOf k (saidOf l c) = z at *
    generalize saidOf l c = y at *
    clear hc
    go_enter Tryz.func70, Tryz.ntmps70
    go_wp2_with fail
    refine HS.out.mono ?_
    rintro e w1 ⟨rfl, hb1⟩
    have HB1 := Lib.hid hb1
    clear hb1
    go_wp2_with fail
    refine (HM.out _ (HR.out.step HB1.out)).mono ?_
    rintro e w2 ⟨rfl, hb2⟩
    have HB2 := Lib.hid (HB1.out.trans (hb2.mono HB1.out.size))
    clear hb2
    go_wp2
    go_ret2
    exact ⟨rfl, HB2.out⟩
  · rw [said_bad hc] at HS
    rw [key_bad hc]
    clear hc
    go_enter Tryz.func70, Tryz.ntmps70
    go_wp2_with fail
    refine HS.out.mono ?_
    rintro e w1 ⟨rfl, hb1⟩
    have HB1 := Lib.hid hb1
    clear hb1
    go_wp2_with fail
    go_ret2
    exact ⟨rfl, HB1.out⟩
end Go.Proofs.YtkidehngleglnaaGreatDoor.DKey
/- derive's closure, that tells one piece after the other, and 'pieces', that makes it: the walks of their texts. The condition: the rounds' numbers lie in the program's variable. -/
namespace Go.Proofs.YtkidehngleglnaaGreatDoor.DPie
open Go.RowKit
open STurn SSum
/-- What the closure's four variables hold: the key's block, what is said, the piece ahead, and how many were told. -/
def Holds (S K : Nat) (b s p : List UInt8) (n : Nat) (W : World) : Prop :=
  S < K ∧ W.heap[S]? = some (.cells #[.string ⟨s.toArray⟩] 9 (0, 0)) ∧ W.heap[K]? = some (.cells #[.string ⟨b.toArray⟩] 9 (0, 0)) ∧
  W.heap[K + 1]? = some (.cells #[.string ⟨p.toArray⟩] 9 (0, 0)) ∧ W.heap[K + 2]? = some (.cells #[.int .u8 n] 5 (0, 0))
/-- But for two of them nothing turns. -/
def Kept (K : Nat) (W W' : World) : Prop := Below (K + 1) W W' ∧ ∀ g, K + 3 ≤ g → g < W.heap.size → W'.heap[g]? = W.heap[g]?
theorem Holds.below {S K : Nat} {b s p : List UInt8} {n : Nat} {W W' : World} (h : Holds S K b s p n W) (hb : Below (K + 3) W W') : Holds S K b s p n W' := by
  obtain ⟨h0, h1, h2, h3, h4⟩ := h
  exact ⟨h0, (hb.block _ (by omega)).trans h1, (hb.block _ (by omega)).trans h2, (hb.block _ (by omega)).trans h3, (hb.block _ (by omega)).trans h4⟩
def Post (S K : Nat) (b s p : List UInt8) (n : Nat) (W : World) (e : Ending) (W' : World) : Prop := e = .returned (.string ⟨p.toArray⟩) ∧ Holds S K b s p n W' ∧ Kept K W W'
theorem byte_cell (n : Nat) (h : n ≤ 255) : #[Value.int .u8 (n : Int)] = bytesRow ([UInt8.ofNat n] ++ []) := by
  have := one_byte n
  rw [show (n : Int) % 256 = n from by omega] at this
  exact this
end Go.Proofs.YtkidehngleglnaaGreatDoor.DPie
/- What derive.Long answers: the walk of its text; a strings.Builder by the library's own contracts. The condition: the rounds' numbers lie in the program's variable. -/
namespace Go.Proofs.YtkidehngleglnaaGreatDoor.DLong
open Go.RowKit
open STurn DPie
/-- A builder stays one while blocks turn that are neither its own nor its buffer's. -/
theorem over {T e : TypeId} {B b : Nat} {bs : List Value} {W W' : World} (h : Lib.IsBuilderF T e B b bs W) (hk : ∀ g, B ≤ g → g < W.heap.size → W'.heap[g]? = W.heap[g]?) : Lib.IsBuilderF T e B b bs W' := by
  have one : ∀ p, Lib.BuilderAtF T e B b p bs W → Lib.BuilderAtF T e B b p bs W' := by
    rintro p ⟨hB, v, hb, hown, hne⟩
    refine ⟨hB, v, (hk b hB (Array.getElem?_eq_some_iff.1 hb).1).trans hb, ⟨hown.1, ?_⟩, hne⟩
    rcases hown.2 with hn | ⟨g, cap, cur, fz, hv, hbg, hg, rest⟩
    · exact .inl hn
    · exact .inr ⟨g, cap, cur, fz, hv, hbg, (hk g hbg (Array.getElem?_eq_some_iff.1 hg).1).trans hg, rest⟩
  exact h.elim (fun x => .inl (one _ x)) (fun x => .inr (one _ x))
/-- What the builder holds behind a text more. -/
theorem write (B : Nat) (l p : List UInt8) (w : World) (h : Lib.IsBuilderF 115 5 B B (Lib.byteCells l) w) (hlen : l.length + p.length ≤ 100000) (hB : B ≤ w.heap.size) :
    Calls Tryz.prog 85 #[.pointer (some ⟨B, 0, none⟩), .string ⟨p.toArray⟩] w fun e w' => e = .returned (.tuple #[.int .i64 p.length, .nilIface]) ∧ Lib.IsBuilderF 115 5 B B (Lib.byteCells (l ++ p)) w' ∧ Below B w w' := by
  have := Any.Builder_WriteString_k { Tryz.lays105 with } Tryz.Builder_Extra_105 B B (Lib.byteCells l) ⟨p.toArray⟩ w h (by rw [Lib.byteCells_length]; show l.length + p.length ≤ _; omega) hB
  refine this.mono ?_
  rintro e w' ⟨h1, h2, h3, _⟩
  refine ⟨h1, .inr ?_, h3⟩
  rw [Lib.byteCells_append]
  exact h2
end Go.Proofs.YtkidehngleglnaaGreatDoor.DLong
