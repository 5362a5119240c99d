/- keepsakeref08.Full4; the chapter's example: the walks of their texts. No conditions but those that each lemma names. -/
import Derived.Test.YtofpflkkbkodaaaDkI
import Derived.Test.YtofpflkkbkodaaaRNou
namespace Go.Proofs.Ytofpflkkbkodaaa.DkA
open Go.RowKit
open DkN DkM DkQ DkF
theorem full4_size (s : ByteArray) : (full4 s).size = 4096 := by
  unfold full4
  split
  · simp [ByteArray.size_extract]; omega
  · rw [ByteArray.size_append, nou_size]; omega
theorem Full4_long (s : ByteArray) (w : World) (h : 4096 < s.size) : Calls Try.prog 29 #[.string s] w fun e w' => e = .returned (.string (full4 s)) ∧ Below w.heap.size w w' := by
  have hv : full4 s = s.extract 0 4096 := by unfold full4; rw [if_pos h]
  have HV := Lib.hid hv
  have h1 : 4096 < (s.size : Int) := by omega
  have h2 : (4096 : Int) ≤ (s.size : Int) := by omega
  have h3 : 4096 ≤ s.size := by omega
  clear hv h
  go_enter Try.func29, Try.ntmps29
  go_wp2
  go_ret
  rw [HV.out]
  exact ⟨rfl, Below.refl _ _⟩
theorem Full4_short (s : ByteArray) (w : World) (h : ¬ 4096 < s.size) : Calls Try.prog 29 #[.string s] w fun e w' => e = .returned (.string (full4 s)) ∧ Below w.heap.size w w' := by
  have hv : full4 s = s ++ nou (4096 - s.size) := by unfold full4; rw [if_neg h]
  have HV := Lib.hid hv
  have HN : Hid (∀ W : World, Calls Try.prog 33 #[.int .i64 ((4096 - s.size : Nat) : Int)] W fun e w' => e = .returned (.string (nou (4096 - s.size))) ∧ Below W.heap.size W w') := Lib.hid fun W => RNou.noughts (4096 - s.size) W (by omega)
  have hl := nou_size (4096 - s.size)
  have he : 4096 - (s.size : Int) = ((4096 - s.size : Nat) : Int) := by omega
  have HE := Lib.hid he
  have h1 : ¬ 4096 < (s.size : Int) := by omega
  have hs : s.size ≤ 4096 := by omega
  have hl' : (nou (4096 - s.size)).size ≤ 4096 := by omega
  clear hv h hl he
  generalize 4096 - s.size = q at *
  generalize nou q = z at *
  go_enter Try.func29, Try.ntmps29
  go_wp2_with fail
  rw [HE.out]
  refine (HN.out _).mono ?_
  rintro e w1 ⟨rfl, hb1⟩
  have HB := Lib.hid hb1
  clear hb1
  go_wp2
  go_ret
  rw [HV.out]
  exact ⟨rfl, HB.out⟩
/-- THE CONTRACT of Full4. -/
theorem Full4 (s : ByteArray) (w : World) : Calls Try.prog 29 #[.string s] w fun e w' => e = .returned (.string (full4 s)) ∧ Below w.heap.size w w' := by
  by_cases h : 4096 < s.size
  · exact Full4_long s w h
  · exact Full4_short s w h
/-- A disk of the call's own. -/
structure Solo (r : Bool) (w0 w : World) (b : Nat) (bv cv : Value) (D : Dk) : Prop where
  has : Has r w b bv cv D
  below : Below w0.heap.size w0 w
  foot : ∀ k, Foot b bv cv k → w0.heap.size ≤ k
theorem Solo.did {r : Bool} {w0 w w' : World} {b : Nat} {bv cv : Value} {D D' : Dk} (h : Solo r w0 w b bv cv D) (hd : Did r w b bv cv D' w') : ∃ cv', Solo r w0 w' b bv cv' D' := by
  obtain ⟨c, h1, n1, k1⟩ := hd
  have hs := h.below.size
  refine ⟨c, h1, h.below.trans (k1.below h.foot hs), fun k hk => ?_⟩
  rcases hk with rfl | hk | hk
  · exact h.foot _ (.inl rfl)
  · exact h.foot _ (.inr (.inl hk))
  · rcases n1 k hk with h' | h'
    · exact h.foot _ (.inr (.inr h'))
    · omega
theorem Solo.step {r : Bool} {w0 w w' : World} {b : Nat} {bv cv : Value} {D : Dk} (h : Solo r w0 w b bv cv D) (hb : Below w.heap.size w w') : Solo r w0 w' b bv cv D :=
  ⟨h.has.step hb, h.below.trans (hb.mono h.below.size), h.foot⟩
/-! The example's states. -/
def E1 (s : ByteArray) : Dk := { made 8 with ca := [(1, s)] }
def E2 (s t : ByteArray) : Dk := { made 8 with ca := [(1, s), (1, t)] }
def E3 (s : ByteArray) : Dk := { made 8 with bl := (made 8).bl.set 1 s, down := true }
def E4 (s : ByteArray) : Dk := { made 8 with bl := (made 8).bl.set 1 s }
theorem w1 (s : ByteArray) (h : s.size = 4096) : (made 8).wr 1 s = (0, E1 s) := by
  simp [Dk.wr, Dk.no, Dk.has, made, Dk.tick, E1, h]
theorem w2 (s t : ByteArray) (h : t.size = 4096) : (E1 s).wr 1 t = (0, E2 s t) := by
  simp [Dk.wr, Dk.no, Dk.has, made, Dk.tick, E1, E2, h]
theorem w3 (s t : ByteArray) : (E2 s t).crash [0] = E3 s := by
  simp [Dk.crash, made, E2, E3, kset, keepB]
theorem w4 (s : ByteArray) : (E3 s).boot = E4 s := rfl
theorem w5 (s : ByteArray) : (E4 s).rd 1 = (s, 0) := by
  simp [Dk.rd, Dk.has, E4, made, Dk.shown, DkN.seen]
theorem w6 (s : ByteArray) : (E4 s).bl.length = 8 := by simp [E4, made]
set_option maxRecDepth 100000 in
set_option maxHeartbeats 2000000 in
theorem alive (w : World) : Calls Try.prog 9 #[] w fun e w' => e = .returned (.bool true) ∧ Below w.heap.size w w' := by
  have HF1 := Lib.hid (fun W => Full4 ⟨#[97]⟩ W)
  have HF2 := Lib.hid (fun W => Full4 ⟨#[98]⟩ W)
  have HS1 := Lib.hid (full4_size ⟨#[97]⟩)
  have HS2 := Lib.hid (full4_size ⟨#[98]⟩)
  generalize full4 ⟨#[97]⟩ = s at *
  generalize full4 ⟨#[98]⟩ = t at *
  go_enter Try.func9, Try.ntmps9
  go_wp2_with fail
  refine (DkNew.New_yes 8 _ (by omega) (by omega)).mono ?_
  rintro e W1 ⟨b, bv, cv1, rfl, hh1, hb1, hf1⟩
  have S1 := Lib.hid (Solo.mk (w0 := w) hh1 hb1 hf1)
  clear hh1 hb1 hf1
  go_wp2_with fail
  refine (HF1.out _).mono ?_
  rintro e W2 ⟨rfl, hb2⟩
  have S2 := Lib.hid (S1.out.step hb2)
  clear hb2 S1
  go_wp2_with fail
  refine (DkW.Write S2.out.has _ _).mono ?_
  rintro e W3 ⟨rfl, hd3⟩
  rw [w1 s HS1.out] at hd3
  rw [w1 s HS1.out]
  obtain ⟨cv3, s3⟩ := S2.out.did hd3
  have S3 := Lib.hid s3
  clear hd3 s3 S2
  go_wp2_with fail
  refine (HF2.out _).mono ?_
  rintro e W4 ⟨rfl, hb4⟩
  have S4 := Lib.hid (S3.out.step hb4)
  clear hb4 S3
  go_wp2_with fail
  refine (DkW.Write S4.out.has _ _).mono ?_
  rintro e W5 ⟨rfl, hd5⟩
  rw [w2 s t HS2.out] at hd5
  rw [w2 s t HS2.out]
  obtain ⟨cv5, s5⟩ := S4.out.did hd5
  have S5 := Lib.hid s5
  clear hd5 s5 S4
  go_wp2_with fail
  have S6 := Lib.hid (S5.out.step ((Below.refl _ _).alloc (Nat.le_refl _) (.cells #[.int .i64 0] 3)))
  have hrow : Row (W5.alloc (.cells #[.int .i64 0] 3)) (W5.alloc (.cells #[.int .i64 0] 3)).heap.size (some ⟨W5.heap.size, 0, none⟩) 1 [0] := ⟨rfl, fun _ => ⟨_, _, rfl, by simp, fun i hi => by
    obtain rfl : i = 0 := by omega
    exact blk_cell (heap_alloc_new W5 _) rfl⟩⟩
  refine (Crash S6.out.has _ _ _ [0] hrow (fun x hx => by rw [List.mem_singleton.1 hx]; exact ⟨by omega, by omega⟩) (by unfold maxLen; omega)).mono ?_
  rintro e W7 ⟨rfl, hd7⟩
  rw [w3] at hd7
  obtain ⟨cv7, s7⟩ := S6.out.did hd7
  have S7 := Lib.hid s7
  clear hd7 s7 S6 S5 hrow
  go_wp2_with fail
  refine (DkB.Boot S7.out.has).mono ?_
  rintro e W8 ⟨rfl, hd8⟩
  rw [w4] at hd8
  obtain ⟨cv8, s8⟩ := S7.out.did hd8
  have S8 := Lib.hid s8
  clear hd8 s8 S7
  go_wp2_with fail
  refine (DkI.Read S8.out.has 1).mono ?_
  rintro e W9 ⟨rfl, hb9⟩
  rw [w5]
  have S9 := Lib.hid (S8.out.step hb9)
  clear hb9 S8
  go_wp2_with fail
  refine (HF1.out _).mono ?_
  rintro e WA ⟨rfl, hbA⟩
  have SA := Lib.hid (S9.out.step hbA)
  clear hbA S9
  go_wp2_with fail
  refine (DkQ.Size SA.out.has).mono ?_
  rintro e _ ⟨rfl, rfl⟩
  rw [w6]
  go_wp2_with fail
  refine (DkQ.Down SA.out.has).mono ?_
  rintro e _ ⟨rfl, rfl⟩
  rw [show (E4 s).down = false from rfl]
  go_wp2
  go_ret
  exact ⟨rfl, SA.out.below⟩
end Go.Proofs.Ytofpflkkbkodaaa.DkA
