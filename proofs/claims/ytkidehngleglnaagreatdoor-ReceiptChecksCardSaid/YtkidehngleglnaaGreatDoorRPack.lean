/- What keepsakeref01.Pack answers, for slices of at most 10,000 numbers: the walk of its text. -/
import Derived.Test.YtkidehngleglnaaGreatDoorSlice
import Derived.Test.YtkidehngleglnaaGreatDoorLRef
import Derived.Deep.RegionHeld3
namespace Go.Proofs.YtkidehngleglnaaGreatDoor.RPack
open Go.RowKit
theorem kept2 {w w1 : World} {p q : Addr} {x y : Value} (hb : Below w.heap.size w w1) (hx : w.cell? p = some x) (hy : w.cell? q = some y) : w1.cell? p = some x ∧ w1.cell? q = some y := by
  have k := fun {p : Addr} {v : Value} (h : w.cell? p = some v) => (hb.cell (World.block_lt_of_cell? w p h)).trans h
  exact ⟨k hx, k hy⟩
theorem other (aw al : Option Addr) (nw nl cw cl : Nat) (w : World) (h : ((nw : Int) != (nl : Int)) = true) :
    Calls Tryz.prog 45 #[.slice aw nw cw, .slice al nl cl] w fun e w' => e = .returned (.tuple #[.string ⟨#[]⟩, .int .i64 2]) ∧ Below w.heap.size w w' := by
  have hb := Below.refl w.heap.size w
  go_enter Tryz.func45, Tryz.ntmps45
  go_wp2_with fail
  go_ret2
  exact ⟨rfl, hb⟩
theorem same (aw al : Option Addr) (n cw cl : Nat) (ws ls : List Int) (w : World) (hw : Row w w.heap.size aw n ws) (hl : Row w w.heap.size al n ls) (hn : n ≤ 10000) (hi : ∀ x ∈ ls, IsInt x) :
    Calls Tryz.prog 45 #[.slice aw n cw, .slice al n cl] w fun e w' => e = .returned (.tuple #[.string ⟨(pack ws ls).1.toArray⟩, .int .i64 (pack ws ls).2]) ∧ Below w.heap.size w w' := by
  have HW := Lib.hid hw
  have HL := Lib.hid hl
  have HI := Lib.hid hi
  clear hw hl hi
  go_enter Tryz.func45, Tryz.ntmps45
  go_wp2_with fail
  go_loopw [6, 7] (fun s i wr => ∃ j : Nat, j ≤ n ∧ i = .int .i64 j ∧ s = .string ⟨(packTo ws ls j).toArray⟩ ∧ Hid (okTo ws ls j) ∧ Below w.heap.size w wr) (fun _ i _ => n - (intOf i).toNat)
  case atStart => exact ⟨0, Nat.zero_le _, rfl, rfl, fun j hj => absurd hj (by omega), Below.refl _ _⟩
  case round =>
    obtain ⟨j, hj, rfl, rfl, hok, hbel⟩ := hrel
    by_cases hlt : j < n
    · obtain ⟨b1, o1, rfl, hlt1, hc1⟩ := (HW.out.below hbel).2 (by omega)
      obtain ⟨b2, o2, rfl, hlt2, hc2⟩ := (HL.out.below hbel).2 (by omega)
      have hx := hc2 j hlt
      have hy := hc1 j hlt
      have hB := Lib.hid hbel
      clear hc1 hc2 hbel
      have hP := fun W => RPut.any (ls.getD j 0) (ws.getD j 0) W (getD_isInt HI.out j).2
      have hno := put_no (ls.getD j 0) (ws.getD j 0)
      have hnx := fun hz => okTo_next (ws := ws) (ls := ls) hok.out hz
      have hall : okTo ws ls n → (put (ls.getD j 0) (ws.getD j 0)).2 = 0 := fun h => h j hlt
      have happ : packTo ws ls (j + 1) = packTo ws ls j ++ (put (ls.getD j 0) (ws.getD j 0)).1 := rfl
      have hl1 := packTo_length ws ls j
      have hl2 := be_le (ls.getD j 0) (ws.getD j 0)
      generalize put (ls.getD j 0) (ws.getD j 0) = r at *
      generalize ls.getD j 0 = x at *
      generalize ws.getD j 0 = y at *
      obtain ⟨bs, c⟩ := r
      have HP := Lib.hid hP
      have HN := Lib.hid hno
      have HX := Lib.hid hnx
      have HA := Lib.hid hall
      have HQ := Lib.hid happ
      clear hP hno hnx hall happ
      go_wp2_with fail
      go_region_held3 (fun w' => w'.cell? ⟨b2, o2 + j, none⟩ = some (.int .i64 x) ∧ w'.cell? ⟨b1, o1 + j, none⟩ = some (.int .i64 y))
        (first | exact ⟨hx, hy⟩ | exact hS1)
        (first | (go_at_call 23; refine (HP.out _).mono ?_; rintro e w1 ⟨rfl, hb1⟩; have hS1 := kept2 hb1 hx hy))
      rename_i hHeld
      have hb0 : Below wr.heap.size wr w1 := ⟨hb1.os, hb1.tape, hb1.output, hb1.size, hb1.block⟩
      have HB := Lib.hid (hB.out.trans (hb0.mono hB.out.size))
      clear hHeld hS1 hb1 hb0 hx hy hB
      by_cases hz : c = 0
      · subst hz
        go_wp2_with fail
        go_roundw
        case rel => exact ⟨j + 1, by omega, by go_num, by rw [HQ.out, ByteArray.mk_append_mk], HX.out rfl, HB.out⟩
        case measure => simp [intOf]; omega
      · have hb : (c != 0) = true := by rw [bne_iff_ne]; exact hz
        have hp : pack ws ls = ([], 2) := by
          have e1 := HL.out.1
          have e2 := HW.out.1
          rw [pack, if_neg (fun h => hz (HA.out (by have := h.2; rw [e1] at this; exact this)))]
        have hc2 : c = 2 := by have := HN.out hz; injection this
        have HZ := Lib.hid hz
        have HR := Lib.hid hp
        have HC := Lib.hid hc2
        clear hz hp hc2
        go_wp2_with fail
        go_ret2
        exact ⟨by rw [HR.out, HC.out]; rfl, HB.out⟩
    · obtain rfl : j = n := by omega
      have hp : pack ws ls = (packTo ws ls j, 0) := by
        have e1 := HL.out.1
        have e2 := HW.out.1
        rw [pack, if_pos ⟨by rw [e1, e2], by rw [e1]; exact hok.out⟩, e1]
      have HR := Lib.hid hp
      have HB := Lib.hid hbel
      clear hp hbel
      go_wp2_with fail
      go_ret2
      exact ⟨by rw [HR.out]; rfl, HB.out⟩
/-- THE CONTRACT of keepsakeref01.Pack. -/
theorem any (aw al : Option Addr) (nw nl cw cl : Nat) (ws ls : List Int) (w : World) (hw : Row w w.heap.size aw nw ws) (hl : Row w w.heap.size al nl ls) (hn : nl ≤ 10000) (hi : ∀ x ∈ ls, IsInt x) :
    Calls Tryz.prog 45 #[.slice aw nw cw, .slice al nl cl] w fun e w' => e = .returned (.tuple #[.string ⟨(pack ws ls).1.toArray⟩, .int .i64 (pack ws ls).2]) ∧ Below w.heap.size w w' := by
  by_cases h : nl = nw
  · subst h
    exact same aw al nl cw cl ws ls w hw hl hn hi
  · have hp : pack ws ls = ([], 2) := by
      rw [pack, if_neg (fun hh => h (by rw [← hl.1, ← hw.1]; exact hh.1.symm))]
    rw [hp]
    exact other aw al nw nl cw cl w (by rw [bne_iff_ne]; omega)
end Go.Proofs.YtkidehngleglnaaGreatDoor.RPack
