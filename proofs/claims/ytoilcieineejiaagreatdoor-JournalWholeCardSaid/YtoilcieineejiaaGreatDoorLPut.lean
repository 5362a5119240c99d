/- OPut OWid OGet OFirst OPackF OPack: one behind the other. -/
import Derived.Test.YtoilcieineejiaaGreatDoorLOct
import Derived.Test.YtoilcieineejiaaGreatDoorRows
import Derived.Test.YtoilcieineejiaaGreatDoorLMem
import Derived.Deep.RegionHeld3
import Derived.Deep.DeepMust
/- What octet.Put answers: the walk of its text. -/
namespace Go.Proofs.YtoilcieineejiaaGreatDoor.OPut
open Go.RowKit
theorem info5 : (Tryz.prog.info? 5).map (fun i => (i.zero, i.size, i.bytes)) = some (some (.int .u8 0), 1, 1) := by kernel_rfl

theorem narrow (n width : Int) (w : World) (h : ¬ 1 ≤ width) :
    Calls Tryz.prog 75 #[.int .i64 n, .int .i64 width] w fun e w' => e = .returned (.tuple #[.string ⟨#[]⟩, .int .i64 2]) ∧ w = w' := by
  go_enter Tryz.func75, Tryz.ntmps75
  go_wp2
  go_ret2
  exact ⟨rfl, rfl⟩
theorem wide (n width : Int) (w : World) (h : ¬ width ≤ 8) :
    Calls Tryz.prog 75 #[.int .i64 n, .int .i64 width] w fun e w' => e = .returned (.tuple #[.string ⟨#[]⟩, .int .i64 2]) ∧ w = w' := by
  have h1 : 1 ≤ width := by omega
  go_enter Tryz.func75, Tryz.ntmps75
  go_wp2
  go_ret2
  exact ⟨rfl, rfl⟩
theorem below (n width : Int) (w : World) (h1 : 1 ≤ width) (h2 : width ≤ 8) (h : n < 0) :
    Calls Tryz.prog 75 #[.int .i64 n, .int .i64 width] w fun e w' => e = .returned (.tuple #[.string ⟨#[]⟩, .int .i64 2]) ∧ w = w' := by
  go_enter Tryz.func75, Tryz.ntmps75
  go_wp2
  go_ret2
  exact ⟨rfl, rfl⟩
theorem great (n width : Int) (w : World) (h1 : 1 ≤ width) (h2 : width ≤ 8) (h0 : 0 ≤ n) (h : (n / 2 ^ (8 * width).toNat != 0) = true) :
    Calls Tryz.prog 75 #[.int .i64 n, .int .i64 width] w fun e w' => e = .returned (.tuple #[.string ⟨#[]⟩, .int .i64 2]) ∧ w = w' := by
  go_enter Tryz.func75, Tryz.ntmps75
  go_wp2
  go_ret2
  exact ⟨rfl, rfl⟩
/-- The row behind 'j' rounds: noughts, then the 'j' lowest bytes. -/
def row (k j n : Nat) : List UInt8 := List.replicate (k - j) 0 ++ be j n
theorem row_size (k j n : Nat) (h : j ≤ k) : (row k j n).length = k := by simp [row, be_length]; omega
theorem row_next (k j n : Nat) (h : j < k) : (bytesRow (row k j n)).setIfInBounds (k - 1 - j) (.int .u8 ((n : Int) / 2 ^ (8 * j) % 256)) = bytesRow (row k (j + 1) n) := by
  have e : k - j = (k - (j + 1)) + 1 := by omega
  have e2 : k - 1 - j = k - (j + 1) := by omega
  have hp : (2 : Int) ^ (8 * j) = ((256 ^ j : Nat) : Int) := by rw [Int.pow_mul]; simp
  have hv : (n : Int) / 2 ^ (8 * j) % 256 = ((UInt8.ofNat (n / 256 ^ j)).toNat : Int) := by
    rw [hp, UInt8.toNat_ofNat']; omega
  rw [hv, bytesRow_set]
  unfold row
  rw [e, List.replicate_succ', e2, be]
  simp
theorem good (n k : Nat) (w : World) (h1 : 1 ≤ k) (h2 : k ≤ 8) (h : ((n : Int) / 2 ^ (8 * k) != 0) = false) :
    Calls Tryz.prog 75 #[.int .i64 n, .int .i64 k] w fun e w' => e = .returned (.tuple #[.string ⟨(be k n).toArray⟩, .int .i64 0]) ∧ Below w.heap.size w w' := by
  obtain ⟨i0, hi, hz0, hz1, hz2⟩ := info_parts info5
  have hmk : ∀ W : World, (Instr.makeSlice 114 (.int .i64 (k : Int)) (.int .i64 (k : Int))).run Tryz.prog W = .ok (.slice (some ⟨W.heap.size, 0, none⟩) k k) (W.alloc (.cells (bytesRow (row k 0 n)) 5)) := by
    intro W
    have := run_make (P := Tryz.prog) W 114 5 i0 (.int .u8 0) Tryz.underlying114 hi hz0 .i64 .i64 k k (by omega) (by omega) (by rw [hz2]; omega) (by omega)
    simp only [hz1, Value.cells, Int.toNat_natCast, Nat.mul_one, made_bytes] at this
    simpa [row, be] using this
  clear hi hz0 hz1 hz2
  go_enter Tryz.func75, Tryz.ntmps75
  go_wp2
  go_loopw [25] (fun i wr => ∃ j : Nat, j ≤ k ∧ i = .int .i64 j ∧ wr.heap[w.heap.size]? = some (.cells (bytesRow (row k j n)) 5 (0, 0)) ∧ Below w.heap.size w wr) (fun i _ => k - (intOf i).toNat)
  case atStart => exact ⟨0, Nat.zero_le _, rfl, heap_alloc_new w _, (Below.refl _ _).alloc (Nat.le_refl _) _⟩
  case round =>
    obtain ⟨j, hj, rfl, hb, hbel⟩ := hrel
    by_cases hlt : j < k
    · have hfz := blk_free (i := k - 1 - j) hb
      have hv := blk_cell hb (bytesRow_at _ (k - 1 - j) (by rw [row_size _ _ _ hj]; omega))
      have hB := Lib.hid hb
      clear hb
      go_wp2
      go_roundw
      case rel => exact ⟨j + 1, by omega, by go_num, by rw [blk_set hB.out, row_next k j n hlt], hbel.setCell (Nat.le_refl _) _⟩
      case measure => simp [intOf]; omega
    · have hk : j = k := by omega
      subst hk
      have hb' : wr.heap[w.heap.size]? = some (.cells (bytesRow (be j n ++ [])) 5 (0, 0)) := by rw [hb]; simp [row]
      have hcv := conv_row (P := Tryz.prog) (src := 114) (dst := 9) (cap := j) Tryz.underlying114 Tryz.underlying5 Tryz.underlying9 hb' (be_length _ _)
      clear hb hb'
      go_wp2
      go_ret2
      exact ⟨rfl, hbel⟩
/-- THE CONTRACT of octet.Put, at any two numbers. -/
theorem any (n width : Int) (w : World) :
    Calls Tryz.prog 75 #[.int .i64 n, .int .i64 width] w fun e w' => e = .returned (.tuple #[.string ⟨(put n width).1.toArray⟩, .int .i64 (put n width).2]) ∧ Below w.heap.size w w' := by
  have bad : ∀ {e : Ending} {w' : World}, (¬ (1 ≤ width ∧ width ≤ 8 ∧ 0 ≤ n ∧ n < 256 ^ width.toNat)) → (e = .returned (.tuple #[.string ⟨#[]⟩, .int .i64 2]) ∧ w = w') →
      e = .returned (.tuple #[.string ⟨(put n width).1.toArray⟩, .int .i64 (put n width).2]) ∧ Below w.heap.size w w' := by
    rintro e w' h ⟨rfl, rfl⟩
    rw [put_bad n width h]
    exact ⟨rfl, Below.refl _ _⟩
  by_cases h1 : 1 ≤ width
  · by_cases h2 : width ≤ 8
    · by_cases h3 : 0 ≤ n
      · obtain ⟨k, rfl⟩ := Int.eq_ofNat_of_zero_le (show 0 ≤ width by omega)
        obtain ⟨m, rfl⟩ := Int.eq_ofNat_of_zero_le h3
        have hp : (2 : Int) ^ (8 * k) = 256 ^ k := by rw [Int.pow_mul]; simp
        have hpos : (0 : Int) < 256 ^ k := Int.pow_pos (by omega)
        by_cases h4 : (m : Int) < 256 ^ k
        · have hd : ((m : Int) / 2 ^ (8 * k) != 0) = false := by rw [hp, Int.ediv_eq_zero_of_lt h3 h4]; rfl
          rw [put_good _ _ h1 h2 h3 (by simpa using h4)]
          exact good m k w (by omega) (by omega) hd
        · have hd : ((m : Int) / 2 ^ (8 * (k : Int)).toNat != 0) = true := by
            have e : (8 * (k : Int)).toNat = 8 * k := by omega
            rw [e, hp, bne_iff_ne]
            intro h0
            exact h4 (by have := Int.lt_mul_ediv_self_add (x := (m : Int)) hpos; rw [h0] at this; simpa using this)
          exact (great m k w h1 h2 h3 hd).mono fun _ _ h => bad (fun hh => h4 (by simpa using hh.2.2.2)) h
      · exact (below n width w h1 h2 (by omega)).mono fun _ _ h => bad (fun hh => h3 hh.2.2.1) h
    · exact (wide n width w h2).mono fun _ _ h => bad (fun hh => h2 hh.2.1) h
  · exact (narrow n width w h1).mono fun _ _ h => bad (fun hh => h1 hh.1) h
end Go.Proofs.YtoilcieineejiaaGreatDoor.OPut
/- What octet.isWidth answers: the walk of its text. -/
namespace Go.Proofs.YtoilcieineejiaaGreatDoor.OWid
open Go.RowKit
theorem yes (n : Int) (w : World) (h1 : 1 ≤ n) (h2 : n ≤ 8) :
    Calls Tryz.prog 113 #[.int .i64 n] w fun e w' => e = .returned (.bool true) ∧ w = w' := by
  go_enter Tryz.func113, Tryz.ntmps113
  go_wp2
  go_ret
  exact ⟨rfl, rfl⟩
theorem no (n : Int) (w : World) (h : ¬ (1 ≤ n ∧ n ≤ 8)) :
    Calls Tryz.prog 113 #[.int .i64 n] w fun e w' => e = .returned (.bool false) ∧ w = w' := by
  by_cases h1 : 1 ≤ n
  · have h2 : ¬ n ≤ 8 := fun h2 => h ⟨h1, h2⟩
    go_enter Tryz.func113, Tryz.ntmps113
    go_wp2
    go_ret
    exact ⟨rfl, rfl⟩
  · go_enter Tryz.func113, Tryz.ntmps113
    go_wp2
    go_ret
    exact ⟨rfl, rfl⟩
end Go.Proofs.YtoilcieineejiaaGreatDoor.OWid
/- What octet.Get answers: the walk of its text. -/
namespace Go.Proofs.YtoilcieineejiaaGreatDoor.OGet
open Go.RowKit
theorem bad (s : ByteArray) (w : World) (h : ¬ (1 ≤ (s.size : Int) ∧ (s.size : Int) ≤ 8)) :
    Calls Tryz.prog 145 #[.string s] w fun e w' => e = .returned (.tuple #[.int .i64 0, .int .i64 3]) ∧ w = w' := by
  have H := Lib.hid h
  clear h
  go_enter Tryz.func145, Tryz.ntmps145
  go_wp2_with (go_at_call 113; refine (OWid.no _ _ H.out).mono ?_; rintro e w' ⟨rfl, rfl⟩)
  go_ret2
  exact ⟨rfl, rfl⟩
theorem good (s : ByteArray) (w : World) (h1 : 1 ≤ s.size) (h2 : s.size ≤ 8) :
    Calls Tryz.prog 145 #[.string s] w fun e w' => e = .returned (.tuple #[.int .i64 (get s.data.toList).1, .int .i64 (get s.data.toList).2]) ∧ w = w' := by
  go_enter Tryz.func145, Tryz.ntmps145
  go_wp2_with (go_at_call 113; refine (OWid.yes _ _ (by omega) (by omega)).mono ?_; rintro e w' ⟨rfl, rfl⟩)
  go_loop [4, 12] (fun n i => ∃ k : Nat, k ≤ s.size ∧ i = .int .i64 k ∧ n = .int .u64 (num (s.data.toList.take k))) (fun _ i => s.size - (intOf i).toNat)
  case atStart => exact ⟨0, Nat.zero_le _, rfl, rfl⟩
  case round =>
    obtain ⟨k, hk, rfl, rfl⟩ := hrel
    have hl : (s.data.toList.take k).length = k := by simp; omega
    have hlt0 := num_lt (s.data.toList.take k)
    rw [hl] at hlt0
    by_cases hlt : k < s.size
    · have hb : num (s.data.toList.take k) < 72057594037927936 := Nat.lt_of_lt_of_le hlt0 (Nat.pow_le_pow_right (n := 256) (i := k) (j := 7) (by omega) (by omega))
      clear hl hlt0
      have hts := Lib.hid (take_snoc s k hlt)
      go_wp2
      go_round
      case rel => exact ⟨k + 1, by omega, by go_num, by rw [hts.out, num_snoc, or8 _ _ hb s[k].toNat_lt]⟩
      case measure => simp [intOf]; omega
    · have ht : s.data.toList.take k = s.data.toList := List.take_of_length_le (by simp; omega)
      rw [ht] at hlt0 hl
      rw [ht]
      clear ht
      have hb : num s.data.toList < 18446744073709551616 := Nat.lt_of_lt_of_le hlt0 (Nat.pow_le_pow_right (n := 256) (i := k) (j := 8) (by omega) (by omega))
      by_cases hbig : num s.data.toList < 9223372036854775808
      · have hg := Lib.hid (get_good s.data.toList (by omega) (by omega) hbig)
        clear hl hlt0
        go_wp2
        go_ret2
        exact ⟨by rw [hg.out]; rfl, rfl⟩
      · have hg := Lib.hid (get_bad s.data.toList (fun h => hbig h.2.2))
        clear hl hlt0
        go_wp2
        go_ret2
        exact ⟨by rw [hg.out]; rfl, rfl⟩
/-- THE CONTRACT of octet.Get, at any text. -/
theorem any (s : ByteArray) (w : World) :
    Calls Tryz.prog 145 #[.string s] w fun e w' => e = .returned (.tuple #[.int .i64 (get s.data.toList).1, .int .i64 (get s.data.toList).2]) ∧ w = w' := by
  by_cases h : 1 ≤ s.size ∧ s.size ≤ 8
  · exact good s w h.1 h.2
  · refine (bad s w (by omega)).mono fun e w' => ?_
    rw [get_bad _ (fun hh => h (by have h1 := hh.1; have h2 := hh.2.1; simp at h1 h2; omega))]
    exact id
end Go.Proofs.YtoilcieineejiaaGreatDoor.OGet
/- octet.first, over each of the closures that it is handed: it goes over the numbers below n, and answers the first error that the closure tells. -/
namespace Go.Proofs.YtoilcieineejiaaGreatDoor.OFirst
open Go.RowKit
/-- All went well, and 'I n' stands; or an error was told, and 'Bad' stands. -/
def Post (I : Nat → World → Prop) (Bad : Int → World → Prop) (n : Nat) (e : Ending) (w' : World) : Prop :=
  (e = .returned (.int .i64 0) ∧ I n w') ∨ ∃ c : Int, c ≠ 0 ∧ e = .returned (.int .i64 c) ∧ Bad c w'
/-- One call of the closure. -/
def Step (I : Nat → World → Prop) (Bad : Int → World → Prop) (i : Nat) (e : Ending) (w' : World) : Prop :=
  ∃ c : Int, e = .returned (.int .i64 c) ∧ ((c = 0 ∧ I (i + 1) w') ∨ (c ≠ 0 ∧ Bad c w'))
theorem over_pack (n : Nat) (hn : n ≤ 140737488355328) (p q r : Value) (I : Nat → World → Prop) (Bad : Int → World → Prop)
    (hc : ∀ i W, i < n → I i W → Calls Tryz.prog 141 #[.int .i64 i, p, q, r] W (Step I Bad i)) (w : World) (h0 : I 0 w) :
    Calls Tryz.prog 140 #[.int .i64 n, .func (.func 141) #[] #[p, q, r]] w (Post I Bad n) := by
  have HC := Lib.hid hc
  have H0 := Lib.hid h0
  clear hc h0
  go_enter Tryz.func140, Tryz.ntmps140
  go_wp2_with fail
  go_loopw [8] (fun i wr => ∃ k : Nat, k ≤ n ∧ i = .int .i64 k ∧ I k wr) (fun i _ => n - (intOf i).toNat)
  case atStart => exact ⟨0, Nat.zero_le _, rfl, H0.out⟩
  case round =>
    obtain ⟨k, hk, rfl, hI⟩ := hrel
    by_cases hlt : k < n
    · have HI := Lib.hid hI
      clear hI
      go_wp2_with fail
      refine (HC.out k _ hlt HI.out).mono ?_
      rintro e w1 ⟨c, rfl, hr⟩
      rcases hr with ⟨rfl, hI1⟩ | ⟨hne, hB⟩
      · have HI1 := Lib.hid hI1
        clear hI1
        go_wp2_with fail
        go_roundw
        case rel => exact ⟨k + 1, by omega, by go_num, HI1.out⟩
        case measure => simp [intOf]; omega
      · have hb : (c != 0) = true := by rw [bne_iff_ne]; exact hne
        have HB := Lib.hid hB
        have HN := Lib.hid hne
        clear hB hne
        go_wp2_with fail
        go_ret
        exact .inr ⟨c, HN.out, rfl, HB.out⟩
    · obtain rfl : k = n := by omega
      have HI := Lib.hid hI
      clear hI
      go_wp2_with fail
      go_ret
      exact .inl ⟨rfl, HI.out⟩
theorem over_unpack1 (n : Nat) (hn : n ≤ 140737488355328) (p q : Value) (I : Nat → World → Prop) (Bad : Int → World → Prop)
    (hc : ∀ i W, i < n → I i W → Calls Tryz.prog 160 #[.int .i64 i, p, q] W (Step I Bad i)) (w : World) (h0 : I 0 w) :
    Calls Tryz.prog 140 #[.int .i64 n, .func (.func 160) #[] #[p, q]] w (Post I Bad n) := by
  have HC := Lib.hid hc
  have H0 := Lib.hid h0
  clear hc h0
  go_enter Tryz.func140, Tryz.ntmps140
  go_wp2_with fail
  go_loopw [8] (fun i wr => ∃ k : Nat, k ≤ n ∧ i = .int .i64 k ∧ I k wr) (fun i _ => n - (intOf i).toNat)
  case atStart => exact ⟨0, Nat.zero_le _, rfl, H0.out⟩
  case round =>
    obtain ⟨k, hk, rfl, hI⟩ := hrel
    by_cases hlt : k < n
    · have HI := Lib.hid hI
      clear hI
      go_wp2_with fail
      refine (HC.out k _ hlt HI.out).mono ?_
      rintro e w1 ⟨c, rfl, hr⟩
      rcases hr with ⟨rfl, hI1⟩ | ⟨hne, hB⟩
      · have HI1 := Lib.hid hI1
        clear hI1
        go_wp2_with fail
        go_roundw
        case rel => exact ⟨k + 1, by omega, by go_num, HI1.out⟩
        case measure => simp [intOf]; omega
      · have hb : (c != 0) = true := by rw [bne_iff_ne]; exact hne
        have HB := Lib.hid hB
        have HN := Lib.hid hne
        clear hB hne
        go_wp2_with fail
        go_ret
        exact .inr ⟨c, HN.out, rfl, HB.out⟩
    · obtain rfl : k = n := by omega
      have HI := Lib.hid hI
      clear hI
      go_wp2_with fail
      go_ret
      exact .inl ⟨rfl, HI.out⟩
theorem over_unpack2 (n : Nat) (hn : n ≤ 140737488355328) (p q r : Value) (I : Nat → World → Prop) (Bad : Int → World → Prop)
    (hc : ∀ i W, i < n → I i W → Calls Tryz.prog 161 #[.int .i64 i, p, q, r] W (Step I Bad i)) (w : World) (h0 : I 0 w) :
    Calls Tryz.prog 140 #[.int .i64 n, .func (.func 161) #[] #[p, q, r]] w (Post I Bad n) := by
  have HC := Lib.hid hc
  have H0 := Lib.hid h0
  clear hc h0
  go_enter Tryz.func140, Tryz.ntmps140
  go_wp2_with fail
  go_loopw [8] (fun i wr => ∃ k : Nat, k ≤ n ∧ i = .int .i64 k ∧ I k wr) (fun i _ => n - (intOf i).toNat)
  case atStart => exact ⟨0, Nat.zero_le _, rfl, H0.out⟩
  case round =>
    obtain ⟨k, hk, rfl, hI⟩ := hrel
    by_cases hlt : k < n
    · have HI := Lib.hid hI
      clear hI
      go_wp2_with fail
      refine (HC.out k _ hlt HI.out).mono ?_
      rintro e w1 ⟨c, rfl, hr⟩
      rcases hr with ⟨rfl, hI1⟩ | ⟨hne, hB⟩
      · have HI1 := Lib.hid hI1
        clear hI1
        go_wp2_with fail
        go_roundw
        case rel => exact ⟨k + 1, by omega, by go_num, HI1.out⟩
        case measure => simp [intOf]; omega
      · have hb : (c != 0) = true := by rw [bne_iff_ne]; exact hne
        have HB := Lib.hid hB
        have HN := Lib.hid hne
        clear hB hne
        go_wp2_with fail
        go_ret
        exact .inr ⟨c, HN.out, rfl, HB.out⟩
    · obtain rfl : k = n := by omega
      have HI := Lib.hid hI
      clear hI
      go_wp2_with fail
      go_ret
      exact .inl ⟨rfl, HI.out⟩
end Go.Proofs.YtoilcieineejiaaGreatDoor.OFirst
/- octet.Pack's closure: one number more is laid behind the others. -/
namespace Go.Proofs.YtoilcieineejiaaGreatDoor.OPackF
open Go.RowKit
theorem info5 : (Tryz.prog.info? 5).map (fun i => (i.zero, i.size, i.bytes)) = some (some (.int .u8 0), 1, 1) := by kernel_rfl
/-- What the closure leaves: the bytes are behind the others; below it nothing has turned. -/
def Post (B m : Nat) (xs : List UInt8) (r : List UInt8 × Int) (w : World) (e : Ending) (w' : World) : Prop :=
  ∃ v, e = .returned (.int .i64 r.2) ∧ w'.heap[B + 2]? = some (.cells #[v] 114 (0, 0)) ∧
    w'.ownsRow (B + 3) 5 1 v (m + r.1.length) (Lib.strCells ⟨(xs ++ r.1).toArray⟩) ∧ Below (B + 2) w w'
theorem kept4 {w w1 : World} {B b1 o1 c1 b2 o2 c2 i k : Nat} {x y : Int} (hb : Below w.heap.size w w1)
    (h1 : w.cell? ⟨B, 0, none⟩ = some (.slice (some ⟨b1, o1, none⟩) k c1)) (h2 : w.cell? ⟨B + 1, 0, none⟩ = some (.slice (some ⟨b2, o2, none⟩) k c2))
    (hx : w.cell? ⟨b2, o2 + i, none⟩ = some (.int .i64 x)) (hy : w.cell? ⟨b1, o1 + i, none⟩ = some (.int .i64 y)) :
    w1.cell? ⟨B, 0, none⟩ = some (.slice (some ⟨b1, o1, none⟩) k c1) ∧ w1.cell? ⟨B + 1, 0, none⟩ = some (.slice (some ⟨b2, o2, none⟩) k c2) ∧ w1.cell? ⟨b2, o2 + i, none⟩ = some (.int .i64 x) ∧ w1.cell? ⟨b1, o1 + i, none⟩ = some (.int .i64 y) := by
  have k := fun {p : Addr} {v : Value} (h : w.cell? p = some v) => (hb.cell (World.block_lt_of_cell? w p h)).trans h
  exact ⟨k h1, k h2, k hx, k hy⟩
theorem any (B b1 o1 c1 b2 o2 c2 i k m : Nat) (x y : Int) (v : Value) (xs : List UInt8) (w : World)
    (h1 : w.cell? ⟨B, 0, none⟩ = some (.slice (some ⟨b1, o1, none⟩) k c1)) (h2 : w.cell? ⟨B + 1, 0, none⟩ = some (.slice (some ⟨b2, o2, none⟩) k c2)) (hi : i < k)
    (hx : w.cell? ⟨b2, o2 + i, none⟩ = some (.int .i64 x)) (hy : w.cell? ⟨b1, o1 + i, none⟩ = some (.int .i64 y))
    (ho : w.heap[B + 2]? = some (.cells #[v] 114 (0, 0))) (hown : w.ownsRow (B + 3) 5 1 v m (Lib.strCells ⟨xs.toArray⟩)) (hm : m ≤ 100000) :
    Calls Tryz.prog 141 #[.int .i64 i, .pointer (some ⟨B + 1, 0, none⟩), .pointer (some ⟨B, 0, none⟩), .pointer (some ⟨B + 2, 0, none⟩)] w (Post B m xs (put x y) w) := by
  have hl := be_le x y
  have P := fun W => OPut.any x y W
  generalize put x y = r at *
  obtain ⟨bs, c⟩ := r
  obtain ⟨i0, hi0, hz0, hz1, hz2⟩ := info_parts info5
  have hvb := hown.lt
  have HO := Lib.hid ho
  have HV := Lib.hid hvb
  have HP := Lib.hid P
  clear ho hvb P
  have HW := Lib.hid hown
  clear hown
  go_enter Tryz.func141, Tryz.ntmps141
  go_wp2_with fail
  go_region_held3 (fun w' => w'.cell? ⟨B, 0, none⟩ = some (.slice (some ⟨b1, o1, none⟩) k c1) ∧ w'.cell? ⟨B + 1, 0, none⟩ = some (.slice (some ⟨b2, o2, none⟩) k c2) ∧ w'.cell? ⟨b2, o2 + i, none⟩ = some (.int .i64 x) ∧ w'.cell? ⟨b1, o1 + i, none⟩ = some (.int .i64 y))
    (first | exact ⟨h1, h2, hx, hy⟩ | exact hS1)
    (first | (go_at_call 75; refine (HP.out _).mono ?_; rintro e w1 ⟨rfl, hb1⟩; have hS1 := kept4 hb1 h1 h2 hx hy))
  rename_i hHeld
  clear hHeld hS1
  have hlt : B + 2 < w.heap.size := (Array.getElem?_eq_some_iff.1 HO.out).1
  have hb0 : Below w.heap.size w w1 := ⟨hb1.os, hb1.tape, hb1.output, hb1.size, hb1.block⟩
  have ho1 : w1.heap[B + 2]? = some (.cells #[v] 114 (0, 0)) := (hb0.block _ hlt).trans HO.out
  have hown1 : w1.ownsRow (B + 3) 5 1 v m (Lib.strCells ⟨xs.toArray⟩) :=
    HW.out.kept (row := none) ⟨hb0.os, hb0.tape, hb0.output, hb0.size, fun k hk _ => hb0.block k hk⟩ (by cases v.ownBlock <;> simp)
  have hc1 : w1.cell? ⟨B + 2, 0, none⟩ = some v := blk_cell ho1 rfl
  have HO1 := Lib.hid ho1
  have hsz1 : B + 3 ≤ w1.heap.size := by have := hb0.size; omega
  have HB0 := Lib.hid hb0
  clear ho1 h1 h2 hx hy hb1 hb0
  have hbs : (⟨bs.toArray⟩ : ByteArray).size = bs.length := rfl
  have HBS := Lib.hid hbs
  clear hbs
  go_wp2_with
    (at_builtin
     go_must (refine Lib.wpList_append_own_string _ rfl (.tmp 20) (.tmp 21) _ _ rfl (B + 3) 5 i0 Tryz.underlying114 Tryz.underlying9 hi0 hz0 hz1 hz2 v m _ rfl hown1 ⟨bs.toArray⟩ rfl (by rw [HBS.out]; unfold maxLen; omega) (by rw [HBS.out]; omega) hsz1 ?_)
     intro v' w2 hown2 hg2 hnil2
     obtain ⟨a', n', c', rfl⟩ := own_slice hown2
     have hlt1 : B + 2 < w1.heap.size := by omega
     have hne : some (B + 2) ≠ v.ownBlock := fun e => by have := (hown1.lt _ e.symm).1; omega
     have ho2 : w2.heap[B + 2]? = some (.cells #[v] 114 (0, 0)) := (hg2.block _ hlt1 hne).trans HO1.out
     have hc2 : w2.cell? ⟨B + 2, 0, none⟩ = some v := blk_cell ho2 rfl
     have hf2 : w2.frozen? ⟨B + 2, 0, none⟩ = false := blk_free ho2
     have HO2 := Lib.hid ho2
     have HG2 := Lib.hid hg2
     have HN2 := Lib.hid hnil2
     have HV1 := Lib.hid hown1.lt
     clear ho2 hg2 hnil2 hc1 hown1)
  go_ret
  refine ⟨.slice a' n' c', rfl, ?_, ?_, ?_⟩
  · rw [blk_set HO2.out]; rfl
  · have h := own_set (i := 0) hown2 (show B + 2 < B + 3 by omega) (.slice a' n' c')
    rw [HBS.out] at h
    simpa [Lib.strCells] using h
  · refine (((HB0.out.mono (by omega)).grown HG2.out (by omega) (fun k hk => ?_)).setCell (by simp) _)
    have := (HV1.out k hk).1
    omega
end Go.Proofs.YtoilcieineejiaaGreatDoor.OPackF
/- What octet.Pack answers, for slices of at most 10,000 numbers: the walk of its text. -/
namespace Go.Proofs.YtoilcieineejiaaGreatDoor.OPack
open Go.RowKit
/-- What stands ahead of the closure's i-th call. -/
def I (B : Nat) (aw al : Option Addr) (n cw cl : Nat) (ws ls : List Int) (w : World) (i : Nat) (W : World) : Prop :=
  okTo ws ls i ∧ W.heap[B]? = some (.cells #[.slice aw n cw] 23 (0, 0)) ∧ W.heap[B + 1]? = some (.cells #[.slice al n cl] 23 (0, 0)) ∧
  (∃ v, W.heap[B + 2]? = some (.cells #[v] 114 (0, 0)) ∧ W.ownsRow (B + 3) 5 1 v (packTo ws ls i).length (Lib.strCells ⟨(packTo ws ls i).toArray⟩)) ∧ Below B w W
/-- What stands where an error was told. -/
def Bad (B n : Nat) (ws ls : List Int) (w : World) (c : Int) (W : World) : Prop := c = 2 ∧ ¬ okTo ws ls n ∧ Below B w W
theorem step (aw al : Option Addr) (n cw cl : Nat) (ws ls : List Int) (w : World) (hw : Row w w.heap.size aw n ws) (hl : Row w w.heap.size al n ls) (hn : n ≤ 10000) (i : Nat) (W : World) (hi : i < n)
    (h : I w.heap.size aw al n cw cl ws ls w i W) :
    Calls Tryz.prog 141 #[.int .i64 i, .pointer (some ⟨w.heap.size + 1, 0, none⟩), .pointer (some ⟨w.heap.size, 0, none⟩), .pointer (some ⟨w.heap.size + 2, 0, none⟩)] W
      (OFirst.Step (I w.heap.size aw al n cw cl ws ls w) (Bad w.heap.size n ws ls w) i) := by
  obtain ⟨hok, hb0, hb1, ⟨v, hb2, hown⟩, hbel⟩ := h
  obtain ⟨b1, o1, rfl, hlt1, hc1⟩ := (hw.below hbel).2 (by omega)
  obtain ⟨b2, o2, rfl, hlt2, hc2⟩ := (hl.below hbel).2 (by omega)
  have hlen := packTo_length ws ls i
  refine (OPackF.any w.heap.size b1 o1 cw b2 o2 cl i n _ (ls.getD i 0) (ws.getD i 0) v (packTo ws ls i) W (blk_cell hb0 rfl) (blk_cell hb1 rfl) hi (hc2 i hi) (hc1 i hi) hb2 hown (by omega)).mono ?_
  rintro e w1 ⟨v', rfl, h2, hown', hbel'⟩
  refine ⟨_, rfl, ?_⟩
  by_cases hz : (put (ls.getD i 0) (ws.getD i 0)).2 = 0
  · refine .inl ⟨hz, okTo_next hok hz, (hbel'.block _ (by omega)).trans hb0, (hbel'.block _ (by omega)).trans hb1, ⟨v', h2, ?_⟩, hbel.trans (hbel'.mono (by omega))⟩
    have := hown'
    rw [← List.length_append] at this
    exact this
  · refine .inr ⟨hz, by rw [put_no _ _ hz], fun hall => hz (hall i hi), hbel.trans (hbel'.mono (by omega))⟩
theorem other (aw al : Option Addr) (nw nl cw cl : Nat) (w : World) (h : ((nl : Int) != (nw : Int)) = true) :
    Calls Tryz.prog 119 #[.slice aw nw cw, .slice al nl cl] w fun e w' => e = .returned (.tuple #[.string ⟨#[]⟩, .int .i64 2]) ∧ Below w.heap.size w w' := by
  have hb : Below w.heap.size w ((w.alloc (.cells #[.slice aw nw cw] 23)).alloc (.cells #[.slice al nl cl] 23)) :=
    ((Below.refl _ _).alloc (Nat.le_refl _) _).alloc (by simp) _
  go_enter Tryz.func119, Tryz.ntmps119
  go_wp2_with fail
  go_ret2
  exact ⟨rfl, hb⟩
theorem same (aw al : Option Addr) (n cw cl : Nat) (ws ls : List Int) (w : World) (hw : Row w w.heap.size aw n ws) (hl : Row w w.heap.size al n ls) (hn : n ≤ 10000) :
    Calls Tryz.prog 119 #[.slice aw n cw, .slice al n cl] w fun e w' => e = .returned (.tuple #[.string ⟨(pack ws ls).1.toArray⟩, .int .i64 (pack ws ls).2]) ∧ Below w.heap.size w w' := by
  have hmf : ∀ (fn : Fn) (first cap : Array Value) (w : World), (Instr.makeFunc fn first cap).run Tryz.prog w = .ok (.func fn first cap) w := fun _ _ _ _ => rfl
  have hs := Lib.hid (fun i W => step aw al n cw cl ws ls w hw hl hn i W)
  have hlw : ws.length = n := hw.1
  have hll : ls.length = n := hl.1
  have H1 := Lib.hid hlw
  have H2 := Lib.hid hll
  clear hlw hll hw hl
  have h0 : I w.heap.size aw al n cw cl ws ls w 0 (((w.alloc (.cells #[.slice aw n cw] 23)).alloc (.cells #[.slice al n cl] 23)).alloc (.cells #[.slice none 0 0] 114)) := by
    refine ⟨fun j hj => absurd hj (by omega), ?_, ?_, ⟨.slice none 0 0, ?_, ?_⟩, (((Below.refl _ _).alloc (Nat.le_refl _) _).alloc (by simp) _).alloc (by simp; omega) _⟩
    · rw [Below.heap_alloc _ _ _ (by simp; omega), Below.heap_alloc _ _ _ (by simp)]; exact heap_alloc_new w _
    · rw [Below.heap_alloc _ _ _ (by simp)]
      have := heap_alloc_new (w.alloc (.cells #[.slice aw n cw] 23)) (.cells #[.slice al n cl] 23)
      simpa using this
    · have := heap_alloc_new ((w.alloc (.cells #[.slice aw n cw] 23)).alloc (.cells #[.slice al n cl] 23)) (.cells #[.slice none 0 0] 114)
      simpa using this
    · exact World.ownsRow_nil _ _ _ _
  have H0 := Lib.hid h0
  clear h0
  go_enter Tryz.func119, Tryz.ntmps119
  go_wp2_with fail
  refine (OFirst.over_pack n (by omega) _ _ _ _ _ hs.out _ H0.out).mono ?_
  rintro e w1 hpost
  rcases hpost with ⟨rfl, hI⟩ | ⟨c, hne, rfl, hB⟩
  · obtain ⟨hok, _, _, ⟨v, hb2, hown⟩, hbel⟩ := hI
    have hp : pack ws ls = (packTo ws ls n, 0) := by
      rw [pack, if_pos ⟨by rw [H1.out, H2.out], by rw [H2.out]; exact hok⟩, H2.out]
    obtain ⟨a', n', c', rfl⟩ := own_slice hown
    have hcv := conv_own (P := Tryz.prog) (src := 114) (dst := 9) Tryz.underlying114 Tryz.underlying5 Tryz.underlying9 hown
    have hc2 := blk_cell (i := 0) hb2 rfl
    have HP := Lib.hid hp
    clear hp hown hb2 hok
    go_wp2_with fail
    go_ret2
    exact ⟨by rw [HP.out]; rfl, hbel⟩
  · obtain ⟨rfl, hbad, hbel⟩ := hB
    have hp : pack ws ls = ([], 2) := by
      rw [pack, if_neg (fun h => hbad (by have := h.2; rw [H2.out] at this; exact this))]
    have HP := Lib.hid hp
    clear hp hbad hne
    go_wp2_with fail
    go_ret2
    exact ⟨by rw [HP.out]; rfl, hbel⟩
/-- THE CONTRACT of octet.Pack. -/
theorem any (aw al : Option Addr) (nw nl cw cl : Nat) (ws ls : List Int) (w : World) (hw : Row w w.heap.size aw nw ws) (hl : Row w w.heap.size al nl ls) (hn : nl ≤ 10000) :
    Calls Tryz.prog 119 #[.slice aw nw cw, .slice al nl cl] w fun e w' => e = .returned (.tuple #[.string ⟨(pack ws ls).1.toArray⟩, .int .i64 (pack ws ls).2]) ∧ Below w.heap.size w w' := by
  by_cases h : nl = nw
  · subst h
    exact same aw al nl cw cl ws ls w hw hl hn
  · have hp : pack ws ls = ([], 2) := by
      rw [pack, if_neg (fun hh => h (by rw [← hl.1, ← hw.1]; exact hh.1.symm))]
    rw [hp]
    exact other aw al nw nl cw cl w (by rw [bne_iff_ne]; omega)
end Go.Proofs.YtoilcieineejiaaGreatDoor.OPack
