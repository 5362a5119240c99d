/- RPut RGet RNou: one behind the other. -/
import Derived.Test.YtkidehngleglnaaGreatDoorLOct
import Derived.Test.YtkidehngleglnaaGreatDoorRows
import Derived.Test.YtkidehngleglnaaGreatDoorMem
/- What keepsakeref01.Put answers: the walk of its text. -/
namespace Go.Proofs.YtkidehngleglnaaGreatDoor.RPut
open Go.RowKit
theorem info5 : (Tryz.prog.info? 5).map (fun i => (i.zero, i.size, i.bytes)) = some (some (.int .u8 0), 1, 1) := by kernel_rfl
theorem narrow (n width : Int) (w : World) (h : width < 1) :
    Calls Tryz.prog 23 #[.int .i64 n, .int .i64 width] w fun e w' => e = .returned (.tuple #[.string ⟨#[]⟩, .int .i64 2]) ∧ w = w' := by
  go_enter Tryz.func23, Tryz.ntmps23
  go_wp2
  go_ret2
  exact ⟨rfl, rfl⟩
theorem wide (n width : Int) (w : World) (h : 8 < width) :
    Calls Tryz.prog 23 #[.int .i64 n, .int .i64 width] w fun e w' => e = .returned (.tuple #[.string ⟨#[]⟩, .int .i64 2]) ∧ w = w' := by
  have h1 : ¬ width < 1 := by omega
  go_enter Tryz.func23, Tryz.ntmps23
  go_wp2
  go_ret2
  exact ⟨rfl, rfl⟩
theorem below (n width : Int) (w : World) (h1 : ¬ width < 1) (h2 : ¬ 8 < width) (h : n < 0) :
    Calls Tryz.prog 23 #[.int .i64 n, .int .i64 width] w fun e w' => e = .returned (.tuple #[.string ⟨#[]⟩, .int .i64 2]) ∧ w = w' := by
  go_enter Tryz.func23, Tryz.ntmps23
  go_wp2
  go_ret2
  exact ⟨rfl, rfl⟩
theorem loop (n k : Nat) (w : World) (h1 : ¬ (k : Int) < 1) (h2 : ¬ 8 < (k : Int)) (hn : (n : Int) ≤ 9223372036854775807) :
    Calls Tryz.prog 23 #[.int .i64 n, .int .i64 k] w fun e w' => e = .returned (.tuple #[.string ⟨(put n k).1.toArray⟩, .int .i64 (put n k).2]) ∧ Below w.heap.size w w' := by
  have h0 : ¬ (n : Int) < 0 := by omega
  go_enter Tryz.func23, Tryz.ntmps23
  go_wp2
  go_loopw [0, 6, 7] (fun m s i wr => ∃ j : Nat, j ≤ k ∧ i = .int .i64 j ∧ m = .int .i64 (n / 256 ^ j : Nat) ∧ s = .string ⟨(be j n).toArray⟩ ∧ Below w.heap.size w wr) (fun _ _ i _ => k - (intOf i).toNat)
  case atStart => exact ⟨0, Nat.zero_le _, rfl, by simp, rfl, Below.refl _ _⟩
  case round =>
    obtain ⟨j, hj, rfl, rfl, rfl, hbel⟩ := hrel
    have hq : n / 256 ^ j ≤ n := Nat.div_le_self _ _
    by_cases hlt : j < k
    · have hcv : (convert 65 9 (.slice (some ⟨wr.heap.size, 0, none⟩) 1 1)).run Tryz.prog (wr.alloc (.cells #[.int .u8 (((n / 256 ^ j : Nat) : Int) % 256)] 5)) =
          .ok (.string ⟨[UInt8.ofNat (n / 256 ^ j)].toArray⟩) (wr.alloc (.cells #[.int .u8 (((n / 256 ^ j : Nat) : Int) % 256)] 5)) :=
        conv_row Tryz.underlying65 Tryz.underlying5 Tryz.underlying9 (by rw [heap_alloc_new, one_byte]) rfl
      have hs : (⟨[UInt8.ofNat (n / 256 ^ j)].toArray⟩ ++ ⟨(be j n).toArray⟩ : ByteArray) = ⟨(be (j + 1) n).toArray⟩ := by
        rw [ByteArray.mk_append_mk]; rfl
      have hd : n / 256 ^ j / 256 = n / 256 ^ (j + 1) := by rw [Nat.pow_succ, Nat.div_div_eq_div_mul]
      have hlen := be_length j n
      generalize hm : n / 256 ^ j = m at *
      have Hm := Lib.hid hm
      have Hs := Lib.hid hs
      have Hd := Lib.hid hd
      have Hl : (be j n).length ≤ 8 := by omega
      clear hm hs hd hlen
      go_wp2
      go_roundw
      case rel => exact ⟨j + 1, by omega, by go_num, by rw [← Hd.out, Int.natCast_ediv]; rfl, by rw [Hs.out], hbel.alloc hbel.size _⟩
      case measure => simp [intOf]; omega
    · obtain rfl : j = k := by omega
      have hpos : 0 < 256 ^ j := Nat.pow_pos (by omega)
      by_cases hz : n < 256 ^ j
      · have hp := put_good n j (by omega) (by omega) (by omega) (by rw [Int.toNat_natCast]; exact (lt256 n j).2 hz)
        rw [Int.toNat_natCast, Int.toNat_natCast] at hp
        have Hp := Lib.hid hp
        have hd : n / 256 ^ j = 0 := Nat.div_eq_of_lt hz
        rw [hd]
        clear hp hd hq
        go_wp2
        go_ret2
        exact ⟨by rw [Hp.out]; rfl, hbel⟩
      · have hp := put_bad n j (fun h => hz (by have h := h.2.2.2; rw [Int.toNat_natCast] at h; exact (lt256 n j).1 h))
        have Hp := Lib.hid hp
        have hd : 0 < n / 256 ^ j := Nat.div_pos (by omega) hpos
        generalize n / 256 ^ j = m at *
        clear hp
        go_wp2
        go_ret2
        exact ⟨by rw [Hp.out]; rfl, hbel⟩
/-- THE CONTRACT of keepsakeref01.Put, at any two numbers. -/
theorem any (n width : Int) (w : World) (hn : n ≤ 9223372036854775807) :
    Calls Tryz.prog 23 #[.int .i64 n, .int .i64 width] w fun e w' => e = .returned (.tuple #[.string ⟨(put n width).1.toArray⟩, .int .i64 (put n width).2]) ∧ Below w.heap.size w w' := by
  have bad : ∀ {e : Ending} {w' : World}, (¬ (1 ≤ width ∧ width ≤ 8 ∧ 0 ≤ n ∧ n < 256 ^ width.toNat)) → (e = .returned (.tuple #[.string ⟨#[]⟩, .int .i64 2]) ∧ w = w') →
      e = .returned (.tuple #[.string ⟨(put n width).1.toArray⟩, .int .i64 (put n width).2]) ∧ Below w.heap.size w w' := by
    rintro e w' h ⟨rfl, rfl⟩
    rw [put_bad n width h]
    exact ⟨rfl, Below.refl _ _⟩
  by_cases h1 : width < 1
  · exact (narrow n width w h1).mono fun _ _ h => bad (fun hh => by omega) h
  · by_cases h2 : 8 < width
    · exact (wide n width w h2).mono fun _ _ h => bad (fun hh => by omega) h
    · by_cases h3 : n < 0
      · exact (below n width w h1 h2 h3).mono fun _ _ h => bad (fun hh => by omega) h
      · obtain ⟨k, rfl⟩ := Int.eq_ofNat_of_zero_le (show 0 ≤ width by omega)
        obtain ⟨m, rfl⟩ := Int.eq_ofNat_of_zero_le (show 0 ≤ n by omega)
        exact loop m k w h1 h2 hn
end Go.Proofs.YtkidehngleglnaaGreatDoor.RPut
/- What keepsakeref01.Get answers: the walk of its text. -/
namespace Go.Proofs.YtkidehngleglnaaGreatDoor.RGet
open Go.RowKit
theorem short (s : ByteArray) (w : World) (h : ¬ 1 ≤ s.size) :
    Calls Tryz.prog 27 #[.string s] w fun e w' => e = .returned (.tuple #[.int .i64 0, .int .i64 3]) ∧ w = w' := by
  go_enter Tryz.func27, Tryz.ntmps27
  go_wp2
  go_ret2
  exact ⟨rfl, rfl⟩
theorem long (s : ByteArray) (w : World) (h : 8 < s.size) :
    Calls Tryz.prog 27 #[.string s] w fun e w' => e = .returned (.tuple #[.int .i64 0, .int .i64 3]) ∧ w = w' := by
  go_enter Tryz.func27, Tryz.ntmps27
  go_wp2
  go_ret2
  exact ⟨rfl, rfl⟩
set_option maxRecDepth 100000 in
theorem high (s : ByteArray) (w : World) (h1 : 8 ≤ s.size) (h2 : s.size ≤ 8) (hbig : ¬ num s.data.toList < 9223372036854775808) :
    Calls Tryz.prog 27 #[.string s] w fun e w' => e = .returned (.tuple #[.int .i64 0, .int .i64 3]) ∧ w = w' := by
  have h3 : ((s.size : Int) == 8) = true := by rw [beq_iff_eq]; omega
  have H := Lib.hid (num_eight s (by omega))
  have HB := Lib.hid hbig
  clear hbig
  go_enter Tryz.func27, Tryz.ntmps27
  go_wp2_with fail
  · go_ret2
    exact ⟨rfl, rfl⟩
  · exact absurd (H.out.2 (by omega)) HB.out
set_option maxRecDepth 100000 in
theorem eight (s : ByteArray) (w : World) (h1 : 1 ≤ s.size) (h2 : s.size ≤ 8) (h8 : 8 ≤ s.size) (hbig : num s.data.toList < 9223372036854775808) :
    Calls Tryz.prog 27 #[.string s] w fun e w' => e = .returned (.tuple #[.int .i64 (get s.data.toList).1, .int .i64 (get s.data.toList).2]) ∧ w = w' := by
  have h3 : ((s.size : Int) == 8) = true := by rw [beq_iff_eq]; omega
  have H := Lib.hid (num_eight s (by omega))
  have HB := Lib.hid hbig
  clear hbig
  go_enter Tryz.func27, Tryz.ntmps27
  go_wp2_with fail
  · exact absurd (H.out.1 HB.out) (by omega)
  have hbig := HB.out
  go_loop [4, 5] (fun n i => ∃ k : Nat, k ≤ s.size ∧ i = .int .i64 k ∧ n = .int .i64 (num (s.data.toList.take k))) (fun _ i => s.size - (intOf i).toNat)
  case atStart => exact ⟨0, Nat.zero_le _, rfl, rfl⟩
  case round =>
    obtain ⟨k, hk, rfl, rfl⟩ := hrel
    by_cases hlt : k < s.size
    · have hts := take_snoc s k hlt
      have hle := num_take_le s.data.toList (k + 1)
      rw [hts, num_snoc] at hle
      have Hts := Lib.hid hts
      clear hts
      go_wp2
      go_round
      case rel => exact ⟨k + 1, by omega, by go_num, by rw [Hts.out, num_snoc]; go_num⟩
      case measure => simp [intOf]; omega
    · have ht : s.data.toList.take k = s.data.toList := List.take_of_length_le (by simp; omega)
      rw [ht]
      have hg := Lib.hid (get_good s.data.toList (by simpa using h1) (by simpa using h2) hbig)
      clear ht
      go_wp2
      go_ret2
      exact ⟨by rw [hg.out]; rfl, rfl⟩
theorem fewer (s : ByteArray) (w : World) (h1 : 1 ≤ s.size) (h2 : s.size ≤ 8) (h8 : s.size < 8) :
    Calls Tryz.prog 27 #[.string s] w fun e w' => e = .returned (.tuple #[.int .i64 (get s.data.toList).1, .int .i64 (get s.data.toList).2]) ∧ w = w' := by
  have hbig : num s.data.toList < 9223372036854775808 := by
    refine Nat.lt_of_lt_of_le (num_lt s.data.toList) (Nat.le_trans (Nat.pow_le_pow_right (n := 256) (j := 7) (by omega) ?_) (by omega))
    simp; omega
  go_enter Tryz.func27, Tryz.ntmps27
  go_wp2
  go_loop [4, 5] (fun n i => ∃ k : Nat, k ≤ s.size ∧ i = .int .i64 k ∧ n = .int .i64 (num (s.data.toList.take k))) (fun _ i => s.size - (intOf i).toNat)
  case atStart => exact ⟨0, Nat.zero_le _, rfl, rfl⟩
  case round =>
    obtain ⟨k, hk, rfl, rfl⟩ := hrel
    by_cases hlt : k < s.size
    · have hts := take_snoc s k hlt
      have hle := num_take_le s.data.toList (k + 1)
      rw [hts, num_snoc] at hle
      have Hts := Lib.hid hts
      clear hts
      go_wp2
      go_round
      case rel => exact ⟨k + 1, by omega, by go_num, by rw [Hts.out, num_snoc]; go_num⟩
      case measure => simp [intOf]; omega
    · have ht : s.data.toList.take k = s.data.toList := List.take_of_length_le (by simp; omega)
      rw [ht]
      have hg := Lib.hid (get_good s.data.toList (by simpa using h1) (by simpa using h2) hbig)
      clear ht
      go_wp2
      go_ret2
      exact ⟨by rw [hg.out]; rfl, rfl⟩
/-- THE CONTRACT of keepsakeref01.Get, at any text. -/
theorem any (s : ByteArray) (w : World) :
    Calls Tryz.prog 27 #[.string s] w fun e w' => e = .returned (.tuple #[.int .i64 (get s.data.toList).1, .int .i64 (get s.data.toList).2]) ∧ w = w' := by
  have hsz : s.data.toList.length = s.size := by simp
  by_cases h1 : 1 ≤ s.size
  · by_cases h2 : s.size ≤ 8
    · by_cases h8 : 8 ≤ s.size
      · by_cases hbig : num s.data.toList < 9223372036854775808
        · exact eight s w h1 h2 h8 hbig
        · rw [get_bad _ (fun h => hbig h.2.2)]; exact high s w h8 h2 hbig
      · exact fewer s w h1 h2 (by omega)
    · rw [get_bad _ (fun h => h2 (by have := h.2.1; omega))]; exact long s w (by omega)
  · rw [get_bad _ (fun h => h1 (by have := h.1; omega))]; exact short s w h1
end Go.Proofs.YtkidehngleglnaaGreatDoor.RGet
/- What keepsakeref01.Noughts answers: the walk of its text. -/
namespace Go.Proofs.YtkidehngleglnaaGreatDoor.RNou
open Go.RowKit
theorem info5 : (Tryz.prog.info? 5).map (fun i => (i.zero, i.size, i.bytes)) = some (some (.int .u8 0), 1, 1) := by kernel_rfl
theorem none_ (n : Int) (w : World) (h : n < 1) :
    Calls Tryz.prog 14 #[.int .i64 n] w fun e w' => e = .returned (.string ⟨#[]⟩) ∧ w = w' := by
  go_enter Tryz.func14, Tryz.ntmps14
  go_wp2
  go_ret
  exact ⟨rfl, rfl⟩
theorem some_ (k : Nat) (w : World) (h : ¬ (k : Int) < 1) (hk : k ≤ 281474976710656) :
    Calls Tryz.prog 14 #[.int .i64 k] w fun e w' => e = .returned (.string ⟨(List.replicate k 0).toArray⟩) ∧ Below w.heap.size w w' := by
  obtain ⟨i0, hi, hz0, hz1, hz2⟩ := info_parts info5
  have hmk : ∀ W : World, (Instr.makeSlice 65 (.int .i64 (k : Int)) (.int .i64 (k : Int))).run Tryz.prog W = .ok (.slice (some ⟨W.heap.size, 0, none⟩) k k) (W.alloc (.cells (bytesRow (List.replicate k 0)) 5)) := by
    intro W
    have := run_make (P := Tryz.prog) W 65 5 i0 (.int .u8 0) Tryz.underlying65 hi hz0 .i64 .i64 k k (by omega) (by omega) (by rw [hz2]; omega) (by omega)
    simp only [hz1, Value.cells, Int.toNat_natCast, Nat.mul_one, made_bytes] at this
    exact this
  have hcv : ∀ W : World, (convert 65 9 (.slice (some ⟨W.heap.size, 0, none⟩) k k)).run Tryz.prog (W.alloc (.cells (bytesRow (List.replicate k 0)) 5)) =
      .ok (.string ⟨(List.replicate k 0).toArray⟩) (W.alloc (.cells (bytesRow (List.replicate k 0)) 5)) := by
    intro W
    exact conv_row Tryz.underlying65 Tryz.underlying5 Tryz.underlying9 (m := []) (by rw [heap_alloc_new, List.append_nil]) (by simp)
  clear hi hz0 hz1 hz2
  generalize bytesRow (List.replicate k 0) = cs at *
  have hb : Below w.heap.size w (w.alloc (.cells cs 5)) := (Below.refl _ _).alloc (Nat.le_refl _) _
  generalize List.replicate k 0 = l at *
  go_enter Tryz.func14, Tryz.ntmps14
  go_wp2
  go_ret
  exact ⟨rfl, hb⟩
theorem noughts (k : Nat) (w : World) (hk : k ≤ 281474976710656) :
    Calls Tryz.prog 14 #[.int .i64 k] w fun e w' => e = .returned (.string ⟨(List.replicate k 0).toArray⟩) ∧ Below w.heap.size w w' := by
  by_cases h : (k : Int) < 1
  · obtain rfl : k = 0 := by omega
    exact (none_ _ w h).mono fun _ _ ⟨h1, h2⟩ => ⟨h1, h2 ▸ Below.refl _ _⟩
  · exact some_ k w h hk
end Go.Proofs.YtkidehngleglnaaGreatDoor.RNou
