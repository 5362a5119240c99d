/- keepsakeref01.Bytes and keepsakeref08.Few: the walks of their texts; as much of what they answer as is wanted. No conditions but those that each lemma names. -/
import Derived.Test.YtofpflkkbkodaaaDkX
namespace Go.Proofs.Ytofpflkkbkodaaa.DkY
open Go.RowKit
open DkN DkM DkC DkV
theorem vint {a b : Int} (h : a = b) : Value.int .i64 a = Value.int .i64 b := by rw [h]
set_option maxRecDepth 100000 in
set_option maxHeartbeats 1000000 in
theorem Bytes (a : Option Addr) (c : Nat) (bl : List ByteArray) (w : World) (h : StrRow w a bl) :
    Calls Try.prog 41 #[.slice a bl.length c] w fun e w' => (∃ S : Nat, S ≤ 200000000 ∧ e = .returned (.int .i64 S)) ∧ Below w.heap.size w w' := by
  have HH := Lib.hid h
  obtain ⟨n, hn⟩ : ∃ n, bl.length = n := ⟨_, rfl⟩
  rw [hn]
  have HN := Lib.hid hn
  clear h hn
  go_enter Try.func41, Try.ntmps41
  go_wp2_with fail
  go_loopw [3, 4] (fun s i wr => ∃ j S : Nat, j ≤ n ∧ j ≤ 2000 ∧ i = .int .i64 j ∧ s = .int .i64 S ∧ S ≤ 100000 * j ∧ w = wr) (fun _ i _ => 2000 - (intOf i).toNat)
  case atStart => exact ⟨0, 0, Nat.zero_le _, Nat.zero_le _, rfl, rfl, Nat.zero_le _, rfl⟩
  case round =>
    obtain ⟨j, S, hj, hj2, rfl, rfl, hS, rfl⟩ := hrel
    by_cases hlt : (j : Int) < (n : Int)
    · by_cases h2 : (j : Int) < 2000
      · have hjl : j < bl.length := by rw [HN.out]; omega
        obtain ⟨g, o, rfl, hg, hcs⟩ := HH.out (by omega)
        have q0 : w.cell? ⟨g, o + j, none⟩ = some (.string bl[j]) := hcs j hjl
        clear hcs
        generalize bl[j] = s at *
        clear hjl
        have hj0 : (0 : Int) ≤ (j : Int) := by omega
        go_wp2
        go_roundw
        case rel => exact ⟨j + 1, S + min s.size 100000, by omega, by omega, by go_num, vint (by omega), by omega, trivial⟩
        case measure => simp [intOf]; omega
      · go_wp2
        go_ret
        exact ⟨⟨S, by omega, rfl⟩, Below.refl _ _⟩
    · go_wp2
      go_ret
      exact ⟨⟨S, by omega, rfl⟩, Below.refl _ _⟩
/-- Few of an image: what it says where it says yes. -/
def Says (n m : Nat) (e : Ending) : Prop := ∃ q : Bool, e = .returned (.bool q) ∧ (q = true → n ≤ 60 ∧ m ≤ 40)
set_option maxRecDepth 100000 in
set_option maxHeartbeats 2000000 in
/-- THE CONTRACT of Few of an image. -/
theorem Few (a a' : Option Addr) (c c' : Nat) (bl : List ByteArray) (ca : List (Int × ByteArray)) (w : World) (hs : StrRow w a bl) (hp : RRow w a' ca) :
    Calls Try.prog 13 #[.agg #[.slice a bl.length c, .slice a' ca.length c']] w fun e w' => Says bl.length ca.length e ∧ Below w.heap.size w w' := by
  have hb1 : Below w.heap.size w (w.alloc (.cells #[.slice a bl.length c, .slice a' ca.length c'] 39)) := (Below.refl _ _).alloc (Nat.le_refl _) _
  have HX := Lib.hid (heap_alloc_new w (.cells #[.slice a bl.length c, .slice a' ca.length c'] 39))
  have HB := Lib.hid (Bytes a c bl _ (StrRow.below hs hb1))
  have HP := Lib.hid (hp.below hb1)
  have HB1 := Lib.hid hb1
  obtain ⟨n, hn⟩ : ∃ n, bl.length = n := ⟨_, rfl⟩
  obtain ⟨m, hm⟩ : ∃ m, ca.length = m := ⟨_, rfl⟩
  rw [hn, hm] at HX HB HP HB1 ⊢
  have HM := Lib.hid hm
  have hsz : w.heap.size < (w.alloc (.cells #[.slice a n c, .slice a' m c'] 39)).heap.size := by simp
  have HZ := Lib.hid hsz
  clear hs hp hb1 hn hm hsz
  go_enter Try.func13, Try.ntmps13
  go_wp2_with fail
  refine (HB.out).mono ?_
  rintro e w1 ⟨⟨S0, hS0, rfl⟩, hb⟩
  have HB2 := Lib.hid (HB1.out.trans (hb.mono HB1.out.size))
  have HX1 := Lib.hid ((hb.block _ HZ.out).trans HX.out)
  have HP1 := Lib.hid (HP.out.below hb)
  clear hb HB HX HP HZ HB1
  have k0 : w1.cell? ⟨w.heap.size, 0, none⟩ = some (.slice a n c) := blk_cell HX1.out rfl
  have k1 : w1.cell? ⟨w.heap.size, 1, none⟩ = some (.slice a' m c') := blk_cell HX1.out rfl
  go_wp2_with fail
  go_loopw [3, 4] (fun s i wr => ∃ j S : Nat, j ≤ m ∧ j ≤ 200 ∧ i = .int .i64 j ∧ s = .int .i64 S ∧ S ≤ 200000000 + 100000 * j ∧ w1 = wr) (fun _ i _ => 200 - (intOf i).toNat)
  case atStart => exact ⟨0, S0, Nat.zero_le _, Nat.zero_le _, rfl, rfl, by omega, rfl⟩
  case round =>
    obtain ⟨j, S, hj, hj2, rfl, rfl, hS, rfl⟩ := hrel
    by_cases hlt : (j : Int) < (m : Int) ∧ (j : Int) < 200
    · obtain ⟨h1, h2⟩ := hlt
      have hjl : j < ca.length := by rw [HM.out]; omega
      obtain ⟨g, o, rfl, hg, hcs⟩ := HP1.out (by omega)
      have q1 : w1.cell? ⟨g, o + j * 2 + 1, none⟩ = some (.string ca[j].2) := (hcs j hjl).2
      clear hcs
      generalize ca[j].2 = s at *
      clear hjl
      have hj0 : (0 : Int) ≤ (j : Int) := by omega
      go_wp2
      go_roundw
      case rel => exact ⟨j + 1, S + min s.size 100000, by omega, by omega, by go_num, vint (by omega), by omega, trivial⟩
      case measure => simp [intOf]; omega
    · by_cases h1 : (j : Int) < (m : Int)
      · have h2 : ¬ (j : Int) < 200 := fun h => hlt ⟨h1, h⟩
        have hm40 : ¬ (m : Int) ≤ 40 := by omega
        clear hlt
        by_cases h60 : (n : Int) ≤ 60
        all_goals
          go_wp2
          go_ret
          exact ⟨⟨_, rfl, fun h => Bool.noConfusion h⟩, HB2.out⟩
      · clear hlt
        by_cases h60 : (n : Int) ≤ 60
        · by_cases h40 : (m : Int) ≤ 40
          · by_cases hq : (S : Int) ≤ 450000
            all_goals
              go_wp2
              go_ret
              exact ⟨⟨_, rfl, fun h => ⟨by omega, by omega⟩⟩, HB2.out⟩
          · go_wp2
            go_ret
            exact ⟨⟨_, rfl, fun h => Bool.noConfusion h⟩, HB2.out⟩
        · go_wp2
          go_ret
          exact ⟨⟨_, rfl, fun h => Bool.noConfusion h⟩, HB2.out⟩
end Go.Proofs.Ytofpflkkbkodaaa.DkY
