/- What derive.Long answers: the walk of its text; a strings.Builder by the library's own contracts. The condition: the rounds' numbers lie in the program's variable. -/
import Derived.Test.YtcndlmkcnhhckaaDoorDPie
import Derived.Test.YtcndlmkcnhhckaaDoorDSaid
import Derived.Test.YtcndlmkcnhhckaaDoorShelf
import Derived.Shelf.Strings.BuilderK
namespace Go.Proofs.YtcndlmkcnhhckaaDoor.DLong
open Go.RowKit
open STurn DPie
/-- A builder stays one while blocks turn that are neither its own nor its buffer's. -/
theorem over {T e : TypeId} {B b : Nat} {bs : List Value} {W W' : World} (h : Lib.IsBuilderF T e B b bs W) (hk : ∀ g, B ≤ g → g < W.heap.size → W'.heap[g]? = W.heap[g]?) : Lib.IsBuilderF T e B b bs W' := by
  have one : ∀ p, Lib.BuilderAtF T e B b p bs W → Lib.BuilderAtF T e B b p bs W' := by
    rintro p ⟨hB, v, hb, hown, hne⟩
    refine ⟨hB, v, (hk b hB (Array.getElem?_eq_some_iff.1 hb).1).trans hb, ⟨hown.1, ?_⟩, hne⟩
    rcases hown.2 with hn | ⟨g, cap, cur, fz, hv, hbg, hg, rest⟩
    · exact .inl hn
    · exact .inr ⟨g, cap, cur, fz, hv, hbg, (hk g hbg (Array.getElem?_eq_some_iff.1 hg).1).trans hg, rest⟩
  exact h.elim (fun x => .inl (one _ x)) (fun x => .inr (one _ x))
/-- What the builder holds behind a text more. -/
theorem write (B : Nat) (l p : List UInt8) (w : World) (h : Lib.IsBuilderF 58 5 B B (Lib.byteCells l) w) (hlen : l.length + p.length ≤ 100000) (hB : B ≤ w.heap.size) :
    Calls Tryd.prog 32 #[.pointer (some ⟨B, 0, none⟩), .string ⟨p.toArray⟩] w fun e w' => e = .returned (.tuple #[.int .i64 p.length, .nilIface]) ∧ Lib.IsBuilderF 58 5 B B (Lib.byteCells (l ++ p)) w' ∧ Below B w w' := by
  have := Any.Builder_WriteString_k { Tryd.lays105 with } Tryd.Builder_Extra_105 B B (Lib.byteCells l) ⟨p.toArray⟩ w h (by rw [Lib.byteCells_length]; show l.length + p.length ≤ _; omega) hB
  refine this.mono ?_
  rintro e w' ⟨h1, h2, h3, _⟩
  refine ⟨h1, .inr ?_, h3⟩
  rw [Lib.byteCells_append]
  exact h2
theorem wrong (k l : List UInt8) (n : Int) (w : World) (h : n < 0 ∨ 8160 < n) :
    Calls Tryd.prog 23 #[.string ⟨k.toArray⟩, .string ⟨l.toArray⟩, .int .i64 n] w fun e w' => e = .returned (.tuple #[.string ⟨#[]⟩, .int .i64 2]) ∧ w = w' := by
  by_cases h0 : n < 0
  · clear h
    go_enter Tryd.func23, Tryd.ntmps23
    go_wp2_with fail
    go_ret2
    exact ⟨rfl, rfl⟩
  · have h1 : 8160 < n := by omega
    clear h
    go_enter Tryd.func23, Tryd.ntmps23
    go_wp2_with fail
    go_ret2
    exact ⟨rfl, rfl⟩
theorem nolabel (k l : List UInt8) (n : Int) (w : World) (h0 : ¬ n < 0) (h1 : ¬ 8160 < n) (h : ¬ saidOk l []) :
    Calls Tryd.prog 23 #[.string ⟨k.toArray⟩, .string ⟨l.toArray⟩, .int .i64 n] w fun e w' => e = .returned (.tuple #[.string ⟨#[]⟩, .int .i64 2]) ∧ Below w.heap.size w w' := by
  have HS := Lib.hid (DSaid.any l none 0 0 [] w ⟨rfl, fun h => absurd h (by omega)⟩ (fun _ => ⟨rfl, rfl⟩) (by simp))
  rw [said_bad h] at HS
  clear h
  go_enter Tryd.func23, Tryd.ntmps23
  go_wp2_with fail
  refine HS.out.mono ?_
  rintro e w1 ⟨rfl, hb1⟩
  have HB1 := Lib.hid hb1
  clear hb1
  go_wp2_with fail
  go_ret2
  exact ⟨rfl, HB1.out⟩
set_option maxRecDepth 100000 in
set_option maxHeartbeats 2000000 in
theorem good (k l : List UInt8) (n : Nat) (w : World) (hr : Rds w) (hk : k.length ≤ 576460752303423488) (hn : n ≤ 8160) (hok : saidOk l []) :
    Calls Tryd.prog 23 #[.string ⟨k.toArray⟩, .string ⟨l.toArray⟩, .int .i64 n] w fun e w' => e = .returned (.tuple #[.string ⟨(longOf k (saidOf l []) n).toArray⟩, .int .i64 0]) ∧ Below w.heap.size w w' := by
  have HS := Lib.hid (DSaid.any l none 0 0 [] w ⟨rfl, fun h => absurd h (by omega)⟩ (fun _ => ⟨rfl, rfl⟩) (by simp))
  rw [said_good hok] at HS
  have hsl := said_le l [] hok
  have HM := Lib.hid (fun W hr => made k (saidOf l []) W hr hk)
  have HT := Lib.hid (fun S K i W hr hg hh hi => told k (saidOf l []) S K i W hr hg hh hi (by omega))
  have HG := Lib.hid hr.lt
  have HR := Lib.hid hr
  have h0 : ¬ (n : Int) < 0 := by omega
  have h1 : ¬ 8160 < (n : Int) := by omega
  obtain ⟨m, hm⟩ : ∃ m, m = (n + 31) / 32 := ⟨_, rfl⟩
  have hm255 : m ≤ 255 := by omega
  have hnm : n ≤ 32 * m := by omega
  have hq : ((n : Int) + 32 - 1) / 32 = (m : Int) := by omega
  have HTK := Lib.hid (take_dpieces k (saidOf l []) n m hnm)
  have HQ := Lib.hid hq
  clear hm hk hok hr hq
  generalize longOf k (saidOf l []) n = out at *
  generalize saidOf l [] = s at *
  have hpl := dpieces_length k s m
  have HPL := Lib.hid hpl
  clear hpl
  go_enter Tryd.func23, Tryd.ntmps23
  go_wp2_with fail
  refine HS.out.mono ?_
  rintro e w1 ⟨rfl, hb1⟩
  have HB1 := Lib.hid hb1
  clear hb1 HS
  go_wp2_with fail
  refine (HM.out _ (HR.out.step HB1.out)).mono ?_
  rintro e w2 ⟨S, K, hS, rfl, hz, hh, hb2⟩
  have HB2 := Lib.hid (HB1.out.trans (hb2.mono HB1.out.size))
  have hSK := hh.1
  have HGK : Hid (0 < K) := by
    have := HG.out
    have := HB1.out.size
    show _ < K
    omega
  have HH := Lib.hid hh
  have HZ := Lib.hid hz
  have HSW := Lib.hid hS
  clear hb2 hh hz HM hS
  go_wp2_with fail
  rw [HQ.out]
  have h3 : Lib.IsBuilderF 58 5 w2.heap.size w2.heap.size (Lib.byteCells (dpieces k s 0)) (w2.alloc (.cells #[.pointer none, .slice none 0 0] 58)) :=
    Lib.IsBuilderF.of (.inl ⟨Nat.le_refl _, .slice none 0 0, heap_alloc_new w2 _, World.ownsRow_nil _ _ _ _, by simp [Value.ownBlock]⟩)
  have hh3 : Holds S K (keyBlock k) s (dpiece k s 0) 0 (w2.alloc (.cells #[.pointer none, .slice none 0 0] 58)) :=
    HH.out.below (HZ.out ▸ (Below.refl w2.heap.size w2).alloc (Nat.le_refl _) _)
  have hb3 : Below w.heap.size w (w2.alloc (.cells #[.pointer none, .slice none 0 0] 58)) := HB2.out.alloc HB2.out.size _
  have H3 := Lib.hid h3
  have HH3 := Lib.hid hh3
  have HB3 := Lib.hid hb3
  clear h3 hh3 hb3 HH
  go_loopw [33] (fun i wr => ∃ j : Nat, j ≤ m ∧ i = .int .i64 j ∧ Lib.IsBuilderF 58 5 w2.heap.size w2.heap.size (Lib.byteCells (dpieces k s j)) wr ∧ Holds S K (keyBlock k) s (dpiece k s j) j wr ∧ Below w.heap.size w wr ∧ w2.heap.size ≤ wr.heap.size) (fun i _ => m - (intOf i).toNat)
  case atStart => exact ⟨0, Nat.zero_le _, rfl, H3.out, HH3.out, HB3.out, by simp⟩
  case round =>
    obtain ⟨j, hj, rfl, hbu, hho, hbe, hsz⟩ := hrel
    have HBu := Lib.hid hbu
    have HHo := Lib.hid hho
    have HBe := Lib.hid hbe
    clear hbu hho hbe H3 HH3 HB3
    by_cases hlt : j < m
    · have hl1 := dpieces_length k s j
      have hl2 := dpiece_le k s (j + 1)
      have HL : Hid ((dpieces k s j).length + (dpiece k s (j + 1)).length ≤ 100000) := by show _ ≤ _; omega
      have hpp : dpieces k s (j + 1) = dpieces k s j ++ dpiece k s (j + 1) := rfl
      have HPP := Lib.hid hpp
      clear hl1 hl2 hpp
      go_wp2_with fail
      refine (HT.out S K j _ (HR.out.step HBe.out) HGK.out HHo.out (by omega)).mono ?_
      rintro e w3 ⟨rfl, hho3, hb3, hk3⟩
      have HHo3 := Lib.hid hho3
      have HBe3 : Hid (Below w.heap.size w w3) := Lib.hid (HBe.out.trans (hb3.mono (by have := HSW.out; have := HB1.out.size; omega)))
      have HBu3 := Lib.hid (over HBu.out (fun g h1 h2 => hk3 g (by have := HZ.out; omega) h2))
      have hsz3 : w2.heap.size ≤ w3.heap.size := Nat.le_trans hsz hb3.size
      clear hho3 hb3 hk3
      go_wp2_with fail
      refine (write w2.heap.size (dpieces k s j) (dpiece k s (j + 1)) _ HBu3.out HL.out hsz3).mono ?_
      rintro e w4 ⟨rfl, hbu4, hb4⟩
      rw [← HPP.out] at hbu4
      have HBu4 := Lib.hid hbu4
      have HHo4 := Lib.hid (HHo3.out.below (HZ.out ▸ hb4))
      have HBe4 := Lib.hid (HBe3.out.trans (hb4.mono HB2.out.size))
      have hsz4 : w2.heap.size ≤ w4.heap.size := Nat.le_trans hsz3 hb4.size
      clear hbu4 hb4
      go_wp2_with fail
      go_roundw
      case rel => exact ⟨j + 1, by omega, by go_num, HBu4.out, HHo4.out, HBe4.out, hsz4⟩
      case measure => simp [intOf]; omega
    · obtain rfl : j = m := by omega
      have HSt := Lib.hid (Tryd.Builder_String_any_k w2.heap.size w2.heap.size (dpieces k s j) wr HBu.out hsz)
      have hle : n ≤ (dpieces k s j).length := by rw [HPL.out]; exact hnm
      clear HBu HHo HT HPL
      generalize dpieces k s j = P at *
      go_wp2_with fail
      refine HSt.out.mono ?_
      rintro e w3 ⟨rfl, _, hb3, _⟩
      have HBe3 := Lib.hid (HBe.out.trans (hb3.mono HB2.out.size))
      clear hb3
      go_wp2_with fail
      have hx : (⟨P.toArray⟩ : ByteArray).extract 0 n = ⟨out.toArray⟩ := by
        rw [ByteArray.extract_mk, List.drop_zero, Nat.sub_zero, HTK.out]
      rw [hx]
      go_ret2
      exact ⟨rfl, HBe3.out⟩
/-- THE CONTRACT of derive.Long. -/
theorem any (k l : List UInt8) (n : Int) (w : World) (hr : Rds w) (hk : k.length ≤ 576460752303423488) :
    Calls Tryd.prog 23 #[.string ⟨k.toArray⟩, .string ⟨l.toArray⟩, .int .i64 n] w fun e w' => e = .returned (.tuple #[.string ⟨(longFor k l n).1.toArray⟩, .int .i64 (longFor k l n).2]) ∧ Below w.heap.size w w' := by
  by_cases h : n < 0 ∨ 8160 < n
  · rw [long_bad (fun hh => by omega)]
    exact (wrong k l n w h).mono fun e w' ⟨h1, h2⟩ => ⟨h1, h2 ▸ Below.refl _ _⟩
  · by_cases hl : saidOk l []
    · obtain ⟨n, rfl⟩ := Int.eq_ofNat_of_zero_le (show 0 ≤ n by omega)
      rw [long_good (by omega) hl]
      exact good k l n w hr hk (by omega) hl
    · rw [long_bad (fun hh => hl hh.2.2)]
      exact nolabel k l n w (by omega) (by omega) hl
end Go.Proofs.YtcndlmkcnhhckaaDoor.DLong
