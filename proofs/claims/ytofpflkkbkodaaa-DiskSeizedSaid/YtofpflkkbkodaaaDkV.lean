/- An image that comes in: whether it may be: the walk of the program's text. No conditions but those that each lemma names. -/
import Derived.Test.YtofpflkkbkodaaaDkNew
import Derived.Test.YtofpflkkbkodaaaDkC
import Derived.BigQuiet
namespace Go.Proofs.Ytofpflkkbkodaaa.DkV
open Go.RowKit
open DkN DkM DkQ DkC
/-- A row of writes, their places any numbers. -/
def RRow (w : World) (a : Option Addr) (l : List (Int × ByteArray)) : Prop :=
  0 < l.length → ∃ g o, a = some ⟨g, o, none⟩ ∧ g < w.heap.size ∧ ∀ k (_ : k < l.length), w.cell? ⟨g, o + k * 2, none⟩ = some (.int .i64 l[k].1) ∧ w.cell? ⟨g, o + k * 2 + 1, none⟩ = some (.string l[k].2)
theorem RRow.below {w w' : World} {a : Option Addr} {l : List (Int × ByteArray)} (h : RRow w a l) (hb : Below w.heap.size w w') : RRow w' a l := by
  intro hl
  obtain ⟨g, o, e, hg, hc⟩ := h hl
  exact ⟨g, o, e, Nat.lt_of_lt_of_le hg hb.size, fun k hk => ⟨(hb.cell (p := ⟨g, o + k * 2, none⟩) hg).trans (hc k hk).1, (hb.cell (p := ⟨g, o + k * 2 + 1, none⟩) hg).trans (hc k hk).2⟩⟩
def blkB (s : ByteArray) : Bool := decide (s.size = 4096)
def putB (n : Nat) (x : Int × ByteArray) : Bool := decide (noB n x.1 x.2.size = 0)
/-- May it be? -/
def mayB (bl : List ByteArray) (ca : List (Int × ByteArray)) : Bool := decide (8 ≤ bl.length ∧ bl.length ≤ 1024 ∧ ca.length ≤ 4096) && (bl.all blkB && ca.all (putB bl.length))
theorem all_next {α : Type} (p : α → Bool) (l : List α) (j : Nat) (h : j < l.length) (hp : (l.take j).all p = true) (hj : p l[j] = true) : (l.take (j + 1)).all p = true := by
  rw [List.take_succ_eq_append_getElem h, List.all_append, hp]
  simp [hj]
theorem all_bad {α : Type} (p : α → Bool) (l : List α) (j : Nat) (h : j < l.length) (hj : p l[j] = false) : l.all p = false := by
  rw [List.all_eq_false]
  exact ⟨l[j], List.getElem_mem h, by rw [hj]; exact Bool.false_ne_true⟩
theorem mayB_size {bl : List ByteArray} {ca : List (Int × ByteArray)} (h : ¬ (8 ≤ bl.length ∧ bl.length ≤ 1024 ∧ ca.length ≤ 4096)) : mayB bl ca = false := by
  unfold mayB; rw [decide_eq_false h]; rfl
theorem mayB_bl {bl : List ByteArray} {ca : List (Int × ByteArray)} (h : bl.all blkB = false) : mayB bl ca = false := by
  unfold mayB; rw [h, Bool.false_and, Bool.and_false]
theorem mayB_ca {bl : List ByteArray} {ca : List (Int × ByteArray)} (h : ca.all (putB bl.length) = false) : mayB bl ca = false := by
  unfold mayB; rw [h, Bool.and_false, Bool.and_false]
theorem mayB_yes {bl : List ByteArray} {ca : List (Int × ByteArray)} (h : 8 ≤ bl.length ∧ bl.length ≤ 1024 ∧ ca.length ≤ 4096) (h1 : bl.all blkB = true) (h2 : ca.all (putB bl.length) = true) : mayB bl ca = true := by
  unfold mayB; rw [decide_eq_true h, h1, h2]; rfl
theorem ret_bool {a b : Bool} (h : a = b) : Ending.returned (.bool a) = .returned (.bool b) := by rw [h]
set_option maxRecDepth 100000 in
theorem mayBe_size (b n c : Nat) (a : Option Addr) (w : World) (h0 : w.cell? ⟨b, 0, none⟩ = some (.slice a n c)) (hn : n < 8 ∨ 1024 < n) :
    Calls Try.prog 42 #[.pointer (some ⟨b, 0, none⟩)] w fun e w' => e = .returned (.bool false) ∧ w = w' := by
  have H := Lib.hid (DkNew.isSize_no (n : Int) w (by omega))
  clear hn
  go_enter Try.func42, Try.ntmps42
  go_wp2_with (go_at_call 30; refine (H.out).mono ?_; rintro e w' ⟨rfl, rfl⟩)
  go_ret
  exact ⟨rfl, rfl⟩
set_option maxRecDepth 100000 in
theorem mayBe_long (b n m c c' : Nat) (a a' : Option Addr) (w : World) (h0 : w.cell? ⟨b, 0, none⟩ = some (.slice a n c)) (h1 : w.cell? ⟨b, 1, none⟩ = some (.slice a' m c')) (h8 : 8 ≤ n) (hn : n ≤ 1024) (hm : 4096 < (m : Int)) :
    Calls Try.prog 42 #[.pointer (some ⟨b, 0, none⟩)] w fun e w' => e = .returned (.bool false) ∧ w = w' := by
  have H := Lib.hid (DkNew.isSize_yes (n : Int) w (by omega) (by omega))
  clear h8 hn
  go_enter Try.func42, Try.ntmps42
  go_wp2_with (go_at_call 30; refine (H.out).mono ?_; rintro e w' ⟨rfl, rfl⟩)
  go_ret
  exact ⟨rfl, rfl⟩
set_option maxRecDepth 100000 in
set_option maxHeartbeats 2000000 in
theorem mayBe_in (b c c' : Nat) (a a' : Option Addr) (bl : List ByteArray) (ca : List (Int × ByteArray)) (w : World) (h0 : w.cell? ⟨b, 0, none⟩ = some (.slice a bl.length c)) (h1 : w.cell? ⟨b, 1, none⟩ = some (.slice a' ca.length c')) (hs : StrRow w a bl) (hp : RRow w a' ca) (hin : 8 ≤ bl.length ∧ bl.length ≤ 1024 ∧ ca.length ≤ 4096) :
    Calls Try.prog 42 #[.pointer (some ⟨b, 0, none⟩)] w fun e w' => e = .returned (.bool (mayB bl ca)) ∧ Below w.heap.size w w' := by
  have hblt : b < w.heap.size := World.block_lt_of_cell? w _ h0
  have HS := Lib.hid hs
  have HP := Lib.hid hp
  have HIN := Lib.hid hin
  have H := Lib.hid (DkNew.isSize_yes (bl.length : Int) w (by omega) (by omega))
  have HTk : Hid (∀ (W : World) (i : Int) (s : ByteArray), Below w.heap.size w W → Calls Try.prog 51 #[.pointer (some ⟨b, 0, none⟩), .int .i64 i, .string s] W fun e w' => e = .returned (.int .i64 (noB bl.length i s.size : Nat)) ∧ W = w') := Lib.hid fun W i s hW => takes_any b _ c a i s W ((hW.cell (p := ⟨b, 0, none⟩) hblt).trans h0)
  have HC1 : Hid (∀ W : World, Below w.heap.size w W → W.cell? ⟨b, 1, none⟩ = some (.slice a' ca.length c')) := Lib.hid fun W hW => (hW.cell (p := ⟨b, 1, none⟩) hblt).trans h1
  obtain ⟨n, hn⟩ : ∃ n, bl.length = n := ⟨_, rfl⟩
  obtain ⟨m, hm⟩ : ∃ m, ca.length = m := ⟨_, rfl⟩
  have HN := Lib.hid hn
  have HM := Lib.hid hm
  rw [hn] at hin h0
  rw [hm] at hin h1
  rw [hn] at H HTk
  rw [hm] at HC1
  obtain ⟨h8, hn1024, hm4096⟩ := hin
  clear hs hp hn hm
  have hmi : (m : Int) ≤ 4096 := by omega
  go_enter Try.func42, Try.ntmps42
  go_wp2_with (go_at_call 30; refine (H.out).mono ?_; rintro e w' ⟨rfl, rfl⟩)
  go_loopw [27] (fun i wr => ∃ j : Nat, j ≤ n ∧ i = .int .i64 j ∧ (bl.take j).all blkB = true ∧ w = wr) (fun i _ => n - (intOf i).toNat)
  case atStart => exact ⟨0, Nat.zero_le _, rfl, rfl, rfl⟩
  case round =>
    obtain ⟨j, hj, rfl, hall, rfl⟩ := hrel
    have HA := Lib.hid hall
    clear hall
    by_cases hlt : j < n
    · have hjl : j < bl.length := by rw [HN.out]; exact hlt
      obtain ⟨g, o, rfl, hg, hcs⟩ := HS.out (by omega)
      have q0 : w.cell? ⟨g, o + j, none⟩ = some (.string bl[j]) := hcs j hjl
      have HX := Lib.hid (all_next blkB bl j hjl HA.out)
      have HY := Lib.hid (all_bad blkB bl j hjl)
      unfold blkB at HX HY
      clear hcs
      generalize bl[j] = s at *
      clear hjl
      have hjn : (j : Int) < (n : Int) := by omega
      have hj0 : (0 : Int) ≤ (j : Int) := by omega
      by_cases hs : s.size = 4096
      · have hs0 : ((s.size : Int) != 4096) = false := by rw [hs]; rfl
        have HX' := Lib.hid (HX.out (decide_eq_true hs))
        clear hs HX HY
        go_wp2
        go_roundw
        case rel => exact ⟨j + 1, by omega, by go_num, HX'.out, trivial⟩
        case measure => simp [intOf]; omega
      · have hs0 : ((s.size : Int) != 4096) = true := by rw [bne_iff_ne]; omega
        have HY' := Lib.hid (mayB_bl (ca := ca) (HY.out (decide_eq_false hs)))
        clear hs HX HY
        go_wp2
        go_ret
        exact ⟨ret_bool HY'.out.symm, Below.refl _ _⟩
    · have HB1 : Hid (bl.all blkB = true) := Lib.hid (by have := HA.out; rwa [List.take_of_length_le (by rw [HN.out]; omega)] at this)
      clear HA HS
      go_wp2_with fail
      go_loopw [40] (fun i wr => ∃ j : Nat, j ≤ m ∧ i = .int .i64 j ∧ (ca.take j).all (putB n) = true ∧ Below w.heap.size w wr) (fun i _ => m - (intOf i).toNat)
      case atStart => exact ⟨0, Nat.zero_le _, rfl, rfl, Below.refl _ _⟩
      case round =>
        obtain ⟨k, hk, rfl, hall, hbel⟩ := hrel
        have HA := Lib.hid hall
        have HB := Lib.hid hbel
        clear hall hbel
        by_cases hlk : k < m
        · have hkl : k < ca.length := by rw [HM.out]; exact hlk
          obtain ⟨g, o, rfl, hg, hcs⟩ := HP.out (by omega)
          have q0 : wr.cell? ⟨g, o + k * 2, none⟩ = some (.int .i64 ca[k].1) := (HB.out.cell (p := ⟨g, o + k * 2, none⟩) hg).trans (hcs k hkl).1
          have q1 : wr.cell? ⟨g, o + k * 2 + 1, none⟩ = some (.string ca[k].2) := (HB.out.cell (p := ⟨g, o + k * 2 + 1, none⟩) hg).trans (hcs k hkl).2
          have HX := Lib.hid (all_next (putB n) ca k hkl HA.out)
          have HY := Lib.hid (all_bad (putB n) ca k hkl)
          unfold putB at HX HY
          clear hcs
          generalize ca[k] = x at *
          obtain ⟨i, s⟩ := x
          simp only at q0 q1 HX HY
          clear hkl
          have hkn : (k : Int) < (m : Int) := by omega
          have hk0 : (0 : Int) ≤ (k : Int) := by omega
          have HB2 : Hid (∀ ob : Obj, Below w.heap.size w (wr.alloc ob)) := Lib.hid fun ob => HB.out.alloc HB.out.size ob
          have HT2 := Lib.hid (fun W => HTk.out W i s)
          generalize noB n i s.size = z at *
          by_cases hz : z = 0
          · subst hz
            have HX' := Lib.hid (HX.out (decide_eq_true rfl))
            clear HX HY
            go_wp2_with (go_at_call 51; refine (HT2.out _ (HB2.out _)).mono ?_; rintro e w' ⟨rfl, rfl⟩)
            go_roundw
            case rel => exact ⟨k + 1, by omega, by go_num, HX'.out, HB2.out _⟩
            case measure => simp [intOf]; omega
          · have hz0 : 0 < (z : Int) := by omega
            have HY' : Hid (mayB bl ca = false) := Lib.hid (mayB_ca (by rw [HN.out]; exact HY.out (decide_eq_false hz)))
            clear hz HX HY
            go_wp2_with (go_at_call 51; refine (HT2.out _ (HB2.out _)).mono ?_; rintro e w' ⟨rfl, rfl⟩)
            go_ret
            exact ⟨ret_bool HY'.out.symm, HB2.out _⟩
        · have HV : Hid (mayB bl ca = true) := Lib.hid (mayB_yes HIN.out HB1.out (by have := HA.out; rw [List.take_of_length_le (by rw [HM.out]; omega)] at this; rw [HN.out]; exact this))
          clear HA
          go_wp2
          go_ret
          exact ⟨ret_bool HV.out.symm, HB.out⟩
/-- THE CONTRACT of mayBe. -/
theorem mayBe (b c c' : Nat) (a a' : Option Addr) (bl : List ByteArray) (ca : List (Int × ByteArray)) (w : World) (h0 : w.cell? ⟨b, 0, none⟩ = some (.slice a bl.length c)) (h1 : w.cell? ⟨b, 1, none⟩ = some (.slice a' ca.length c')) (hs : StrRow w a bl) (hp : RRow w a' ca) :
    Calls Try.prog 42 #[.pointer (some ⟨b, 0, none⟩)] w fun e w' => e = .returned (.bool (mayB bl ca)) ∧ Below w.heap.size w w' := by
  by_cases hn : 8 ≤ bl.length ∧ bl.length ≤ 1024
  · by_cases hm : ca.length ≤ 4096
    · exact mayBe_in b c c' a a' bl ca w h0 h1 hs hp ⟨hn.1, hn.2, hm⟩
    · rw [mayB_size (fun h => hm h.2.2)]
      exact (mayBe_long b _ _ c c' a a' w h0 h1 hn.1 hn.2 (by omega)).mono fun e w' ⟨h, h'⟩ => ⟨h, h' ▸ Below.refl _ _⟩
  · rw [mayB_size (fun h => hn ⟨h.1, h.2.1⟩)]
    exact (mayBe_size b _ c a w h0 (by omega)).mono fun e w' ⟨h, h'⟩ => ⟨h, h' ▸ Below.refl _ _⟩
end Go.Proofs.Ytofpflkkbkodaaa.DkV
