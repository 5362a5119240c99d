/- SegP SegJ SegA SegX: one behind the other. -/
import Derived.Test.YtdkcebaehdkphaaGreatDoorLSegA
import Derived.Test.YtdkcebaehdkphaaGreatDoorLSegA
import Derived.Test.YtdkcebaehdkphaaGreatDoorLPrfD
import Derived.Test.YtdkcebaehdkphaaGreatDoorLSegB
import Derived.Test.YtdkcebaehdkphaaGreatDoorPrgD
import Derived.Test.YtdkcebaehdkphaaGreatDoorPrfE
import Derived.Test.YtdkcebaehdkphaaGreatDoorPrfP
import Derived.Test.YtdkcebaehdkphaaGreatDoorLMerH
/- The document's Put of a leaf in a segment: the walk of its text. No conditions but those that each lemma names. -/
namespace Go.Proofs.YtdkcebaehdkphaaGreatDoor.SegP
set_option linter.unusedVariables false
set_option linter.unusedSimpArgs false
open Go.RowKit
open PrfL PrfM PrfB PrfG PrfD MerQ MerA MerJ SegN SegM SegR
/-- A segment of the document's in its block. -/
def Sg (B : Nat) (ep : Int) (a : Option Addr) (n c : Nat) (W : World) : Prop := W.heap[B]? = some (.cells #[.int .i64 ep, .slice a n c] 32 (0, 0))
theorem Sg.lt {B : Nat} {ep : Int} {a : Option Addr} {n c : Nat} {W : World} (h : Sg B ep a n c W) : B < W.heap.size := (Array.getElem?_eq_some_iff.1 h).1
theorem Sg.step {B : Nat} {ep : Int} {a : Option Addr} {n c : Nat} {W W' : World} (h : Sg B ep a n c W) (hb : Below W.heap.size W W') : Sg B ep a n c W' := (hb.block B h.lt).trans h
theorem Sg.cells {B : Nat} {ep : Int} {a : Option Addr} {n c : Nat} {W : World} (h : Sg B ep a n c W) : W.cell? ⟨B, 0, none⟩ = some (.int .i64 ep) ∧ W.cell? ⟨B, 1, none⟩ = some (.slice a n c) := ⟨blk_cell h rfl, blk_cell h rfl⟩
/-- What is put, if it is taken. -/
def takes (ep : Int) (x : A) : Option L := if (0 ≤ x.1 ∧ x.1 ≤ 4095) ∧ x.2.2.length ≤ 4000 ∧ (dataR ep x.2.1 x.2.2).2 = true then some (dataR ep x.2.1 x.2.2).1 else none
set_option maxRecDepth 100000 in
set_option maxHeartbeats 2000000 in
theorem Put_no (B : Nat) (ep : Int) (a : Option Addr) (n c : Nat) (x : A) (w : World) (h : Sg B ep a n c w) (h1 : ep ≤ 9223372036854775807) (hf : FitA x) (hs : x.2.2.length ≤ 140737488355328) (hno : takes ep x = none) :
    Calls Tryz.prog 10 #[.pointer (some ⟨B, 0, none⟩), .int .i64 x.1, .int .i64 x.2.1, st x.2.2] w fun e w' => e = .returned (.int .i64 2) ∧ Below w.heap.size w w' := by
  obtain ⟨b, sl, s⟩ := x
  have HD := Lib.hid (Data9 ep sl s w h1 hf.2.1.2 hs)
  obtain ⟨k0, k1⟩ := h.cells
  unfold takes at hno
  dsimp only at hno hs ⊢
  have hor : b < 0 ∨ (0 ≤ b ∧ 4095 < b) ∨ ((0 ≤ b ∧ b ≤ 4095) ∧ 4000 < s.length) ∨ ((0 ≤ b ∧ b ≤ 4095) ∧ s.length ≤ 4000 ∧ (dataR ep sl s).2 = false) := by
    by_cases c1 : b < 0
    · exact .inl c1
    · by_cases c2 : 4095 < b
      · exact .inr (.inl ⟨by omega, c2⟩)
      · by_cases c3 : 4000 < s.length
        · exact .inr (.inr (.inl ⟨by omega, c3⟩))
        · refine .inr (.inr (.inr ⟨by omega, by omega, ?_⟩))
          cases hd : (dataR ep sl s).2 with
          | false => rfl
          | true => rw [if_pos ⟨by omega, by omega, hd⟩] at hno; simp at hno
  clear h hf hs hno h1
  generalize dataR ep sl s = d at *
  obtain ⟨t, q⟩ := d
  rcases hor with c1 | ⟨c0, c1⟩ | ⟨⟨c0, c1⟩, c2⟩ | ⟨⟨c0, c1⟩, c2, c3⟩
  · have d1 : decide (b < 0) = true := decide_eq_true c1
    go_enter Tryz.func10, Tryz.ntmps10
    go_wp2_with (go_at_call 23; refine HD.out.mono ?_; rintro e w1 ⟨rfl, hb⟩; have B1 := Lib.hid hb; clear hb)
    go_ret
    exact ⟨rfl, B1.out⟩
  · have d1 : decide (b < 0) = false := decide_eq_false (by omega)
    have d2 : decide (4095 < b) = true := decide_eq_true c1
    go_enter Tryz.func10, Tryz.ntmps10
    go_wp2_with (go_at_call 23; refine HD.out.mono ?_; rintro e w1 ⟨rfl, hb⟩; have B1 := Lib.hid hb; clear hb)
    go_ret
    exact ⟨rfl, B1.out⟩
  · have d1 : decide (b < 0) = false := decide_eq_false (by omega)
    have d2 : decide (4095 < b) = false := decide_eq_false (by omega)
    have d3 : decide ((4000 : Int) < (s.length : Int)) = true := decide_eq_true (by omega)
    have d4 : (4000 : Int) < (s.length : Int) := by omega
    go_enter Tryz.func10, Tryz.ntmps10
    go_wp2_with (go_at_call 23; refine HD.out.mono ?_; rintro e w1 ⟨rfl, hb⟩; have B1 := Lib.hid hb; clear hb)
    go_ret
    exact ⟨rfl, B1.out⟩
  · have d1 : decide (b < 0) = false := decide_eq_false (by omega)
    have d2 : decide (4095 < b) = false := decide_eq_false (by omega)
    have d3 : decide ((4000 : Int) < (s.length : Int)) = false := decide_eq_false (by omega)
    have d4 : (s.length : Int) ≤ 4000 := by omega
    obtain rfl : q = false := c3
    go_enter Tryz.func10, Tryz.ntmps10
    go_wp2_with (go_at_call 23; refine HD.out.mono ?_; rintro e w1 ⟨rfl, hb⟩; have B1 := Lib.hid hb; clear hb)
    go_ret
    exact ⟨rfl, B1.out⟩
/-- All but block B is as it was. -/
structure But (B : Nat) (w w' : World) : Prop where
  os : w'.os = w.os
  tape : w'.tape = w.tape
  output : w'.output = w.output
  size : w.heap.size ≤ w'.heap.size
  block : ∀ k, k < w.heap.size → k ≠ B → w'.heap[k]? = w.heap[k]?
theorem But.set_ {B : Nat} {u w : World} (h : Below u.heap.size u w) (i : Nat) (v : Value) : But B u (w.setCell ⟨B, i, none⟩ v) :=
  ⟨h.os, h.tape, h.output, by simpa [World.setCell] using h.size, fun k hk hne => (Below.heap_setCell _ _ _ _ (fun e => hne e)).trans (h.block k hk)⟩
theorem But.below {B base : Nat} {w w' : World} (h : But B w w') (hB : base ≤ B) (hs : base ≤ w.heap.size) : Below base w w' := ⟨h.os, h.tape, h.output, h.size, fun k hk => h.block k (by omega) (by omega)⟩
theorem fold_next (b : Int) (h : L) (l : List Lf) {k : Nat} (hk : k < l.length) : (l.take (k + 1)).foldl (stepP b h) ([], false) = stepP b h ((l.take k).foldl (stepP b h) ([], false)) (l.getD k no) := by
  rw [List.take_succ_eq_append_getElem hk, List.foldl_append, at_d _ hk]
  rfl
theorem fold_le (b : Int) (h : L) : ∀ (l : List Lf) (s : List Lf × Bool), (l.foldl (stepP b h) s).1.length ≤ s.1.length + 2 * l.length
  | [], s => Nat.le_refl _
  | x :: t, s => by
    rw [List.foldl_cons]
    have := fold_le b h t (stepP b h s x)
    have h2 : (stepP b h s x).1.length ≤ s.1.length + 2 := by
      unfold stepP
      dsimp only
      split <;> split <;> simp
    simp only [List.length_cons]
    omega
set_option maxRecDepth 100000 in
set_option maxHeartbeats 8000000 in
theorem Put_yes (B : Nat) (ep : Int) (a : Option Addr) (n c : Nat) (l : List Lf) (x : A) (hh : L) (w : World) (h : Sg B ep a n c w) (hln : l.length = n) (hl : Lies w a l) (hn : n ≤ 10000) (h1 : ep ≤ 9223372036854775807) (hf : FitA x) (hy : takes ep x = some hh) :
    Calls Tryz.prog 10 #[.pointer (some ⟨B, 0, none⟩), .int .i64 x.1, .int .i64 x.2.1, st x.2.2] w fun e w' => e = .returned (.int .i64 0) ∧
      (∃ p c', Sg B ep p (ins l x.1 hh).length c' w' ∧ w'.ownsRow w.heap.size 45 2 (.slice p (ins l x.1 hh).length c') (ins l x.1 hh).length (rl (ins l x.1 hh))) ∧ But B w w' := by
  obtain ⟨b, sl, s⟩ := x
  unfold takes at hy
  dsimp only at hy ⊢
  by_cases hc : (0 ≤ b ∧ b ≤ 4095) ∧ s.length ≤ 4000 ∧ (dataR ep sl s).2 = true
  · rw [if_pos hc] at hy
    injection hy with hy
    have HD := Lib.hid (Data9 ep sl s w h1 hf.2.1.2 (by omega))
    rw [hc.2.2, hy] at HD
    have HSg := Lib.hid h
    have HL := Lib.hid hl
    have HI := Lib.hid (fold_ins (b := b) (h := hh) l [])
    obtain ⟨k0, k1⟩ := h.cells
    have d1 : decide (b < 0) = false := decide_eq_false (by omega)
    have d2 : decide (4095 < b) = false := decide_eq_false (by omega)
    have d3 : decide ((4000 : Int) < (s.length : Int)) = false := decide_eq_false (by omega)
    have d4 : (s.length : Int) ≤ 4000 := by omega
    clear h hl hf h1 hy hc
    go_enter Tryz.func10, Tryz.ntmps10
    go_upto_region 7 with (go_at_call 23; refine HD.out.mono ?_; rintro e w1 ⟨rfl, hb⟩; have B1 := Lib.hid hb; clear hb)
    clear k0 k1
    go_loopw [11, 12, 13] (fun ov pv iv wr => ∃ (k : Nat) (p : Option Addr) (cp : Nat), k ≤ n ∧ iv = .int .i64 k ∧ ov = .slice p ((l.take k).foldl (stepP b hh) ([], false)).1.length cp ∧ pv = .bool ((l.take k).foldl (stepP b hh) ([], false)).2 ∧
      wr.ownsRow w.heap.size 45 2 (.slice p ((l.take k).foldl (stepP b hh) ([], false)).1.length cp) ((l.take k).foldl (stepP b hh) ([], false)).1.length (rl ((l.take k).foldl (stepP b hh) ([], false)).1) ∧ Below w.heap.size w wr) (fun _ _ iv _ => n - (intOf iv).toNat)
    case atStart => exact ⟨0, none, 0, Nat.zero_le _, rfl, rfl, rfl, World.ownsRow_nil _ _ _ _, B1.out⟩
    case round =>
      obtain ⟨k, p, cp, hk, rfl, rfl, rfl, ho, hb⟩ := hrel
      have HB := Lib.hid hb
      have HO := Lib.hid ho
      clear hb ho
      have hle := fold_le b hh (l.take k) ([], false)
      have hlk : (l.take k).length = k := by rw [List.length_take]; omega
      by_cases hlt : k < n
      · obtain ⟨g, o, rfl, hg, hc⟩ := HL.out (by omega)
        have HC := Lib.hid (fun W (hb : Below w.heap.size w W) => (⟨(HSg.out.step hb).cells, (hb.cell (p := ⟨g, o + k * 2, none⟩) hg).trans (hc k (by omega)).1, (hb.cell (p := ⟨g, o + k * 2 + 1, none⟩) hg).trans (hc k (by omega)).2⟩ : (W.cell? ⟨B, 0, none⟩ = some (.int .i64 ep) ∧ W.cell? ⟨B, 1, none⟩ = some (.slice (some ⟨g, o, none⟩) n c)) ∧ W.cell? ⟨g, o + k * 2, none⟩ = some (.int .i64 (l.getD k no).1) ∧ W.cell? ⟨g, o + k * 2 + 1, none⟩ = some (st (l.getD k no).2)))
        have HN := Lib.hid (fold_next b hh l (show k < l.length by omega))
        have q0 : (0 : Int) ≤ (k : Int) := by omega
        have q1 : (k : Int) < (n : Int) := by omega
        clear hc
        generalize (l.take k).foldl (stepP b hh) ([], false) = S at *
        generalize l.getD k no = y at *
        obtain ⟨y0, y1⟩ := y
        obtain ⟨out, q⟩ := S
        dsimp only at HC HN HO hle ⊢
        simp only [List.length_nil, Nat.zero_add] at hle
        obtain ⟨⟨k0, k1⟩, c0, c1⟩ := HC.out wr HB.out
        cases q
        · by_cases g1 : b ≤ y0
          · by_cases g2 : y0 = b
            · have e1 : decide (b ≤ y0) = true := decide_eq_true g1
              have f1 : (y0 == b) = true := by rw [beq_iff_eq]; exact g2
              have f2 : (y0 != b) = false := by rw [bne, f1]; rfl
              have HV := Lib.hid (HN.out.trans (show stepP b hh (out, false) (y0, y1) = (out ++ [(b, hh)], true) by unfold stepP; simp [g1, g2]))
              clear HN
              go_wp2_with (first | (at_builtin; refine append_leaf _ rfl _ _ rfl w.heap.size _ _ out (b, hh) rfl (by omega) HB.out.size rfl HO.out ?_; intro p3 c3 w3 ho hb; have O3 := Lib.hid ho; have B3 := Lib.hid (HB.out.trans hb); clear ho hb; clear k0 k1 c0 c1; obtain ⟨⟨k0, k1⟩, c0, c1⟩ := HC.out w3 B3.out))
              go_roundw
              case rel =>
                refine ⟨k + 1, p3, c3, by omega, by go_num, ?_, ?_, ?_, B3.out⟩
                · rw [HV.out] <;> first | rfl | (dsimp only; simp only [List.length_append, List.length_cons, List.length_nil])
                · rw [HV.out]
                · rw [HV.out]; exact O3.out
              case measure => simp [intOf]; omega
            · have e1 : decide (b ≤ y0) = true := decide_eq_true g1
              have f1 : (y0 == b) = false := by rw [beq_eq_false_iff_ne]; exact g2
              have f2 : (y0 != b) = true := by rw [bne, f1]; rfl
              have HV := Lib.hid (HN.out.trans (show stepP b hh (out, false) (y0, y1) = (out ++ [(b, hh)] ++ [(y0, y1)], true) by unfold stepP; simp [g1, g2]))
              clear HN
              go_wp2_with (first | (at_builtin; refine append_leaf _ rfl _ _ rfl w.heap.size _ _ out (b, hh) rfl (by omega) HB.out.size rfl HO.out ?_; intro p3 c3 w3 ho hb; have O3 := Lib.hid ho; have B3 := Lib.hid (HB.out.trans hb); clear ho hb; clear k0 k1 c0 c1; obtain ⟨⟨k0, k1⟩, c0, c1⟩ := HC.out w3 B3.out) | (at_builtin; refine append_leaf _ rfl _ _ rfl w.heap.size _ _ (out ++ [(b, hh)]) (y0, y1) (by rw [List.length_append]; rfl) (by rw [List.length_append]; simp; omega) B3.out.size rfl O3.out ?_; intro p4 c4 w4 ho hb; have O4 := Lib.hid ho; have B4 := Lib.hid (B3.out.trans hb); clear ho hb))
              go_roundw
              case rel =>
                refine ⟨k + 1, p4, c4, by omega, by go_num, ?_, ?_, ?_, B4.out⟩
                · rw [HV.out] <;> first | rfl | (dsimp only; simp only [List.length_append, List.length_cons, List.length_nil])
                · rw [HV.out]
                · rw [HV.out]; exact O4.out
              case measure => simp [intOf]; omega
          · have g2 : ¬ y0 = b := by omega
            have e1 : decide (b ≤ y0) = false := decide_eq_false g1
            have f1 : (y0 == b) = false := by rw [beq_eq_false_iff_ne]; exact g2
            have f2 : (y0 != b) = true := by rw [bne, f1]; rfl
            have HV := Lib.hid (HN.out.trans (show stepP b hh (out, false) (y0, y1) = (out ++ [(y0, y1)], false) by unfold stepP; simp [g1, g2]))
            clear HN
            go_wp2_with (first | (at_builtin; refine append_leaf _ rfl _ _ rfl w.heap.size _ _ out (y0, y1) rfl (by omega) HB.out.size rfl HO.out ?_; intro p3 c3 w3 ho hb; have O3 := Lib.hid ho; have B3 := Lib.hid (HB.out.trans hb); clear ho hb))
            go_roundw
            case rel =>
              refine ⟨k + 1, p3, c3, by omega, by go_num, ?_, ?_, ?_, B3.out⟩
              · rw [HV.out] <;> first | rfl | (dsimp only; simp only [List.length_append, List.length_cons, List.length_nil])
              · rw [HV.out]
              · rw [HV.out]; exact O3.out
            case measure => simp [intOf]; omega
        · by_cases g2 : y0 = b
          · have g1 : True := trivial
            have f1 : (y0 == b) = true := by rw [beq_iff_eq]; exact g2
            have f2 : (y0 != b) = false := by rw [bne, f1]; rfl
            have HV := Lib.hid (HN.out.trans (show stepP b hh (out, true) (y0, y1) = (out, true) by unfold stepP; simp [g1, g2]))
            clear HN
            go_wp2_with (fail)
            go_roundw
            case rel =>
              refine ⟨k + 1, p, cp, by omega, by go_num, ?_, ?_, ?_, HB.out⟩
              · rw [HV.out] <;> first | rfl | (dsimp only; simp only [List.length_append, List.length_cons, List.length_nil])
              · rw [HV.out]
              · rw [HV.out]; exact HO.out
            case measure => simp [intOf]; omega
          · have g1 : True := trivial
            have f1 : (y0 == b) = false := by rw [beq_eq_false_iff_ne]; exact g2
            have f2 : (y0 != b) = true := by rw [bne, f1]; rfl
            have HV := Lib.hid (HN.out.trans (show stepP b hh (out, true) (y0, y1) = (out ++ [(y0, y1)], true) by unfold stepP; simp [g1, g2]))
            clear HN
            go_wp2_with (first | (at_builtin; refine append_leaf _ rfl _ _ rfl w.heap.size _ _ out (y0, y1) rfl (by omega) HB.out.size rfl HO.out ?_; intro p3 c3 w3 ho hb; have O3 := Lib.hid ho; have B3 := Lib.hid (HB.out.trans hb); clear ho hb))
            go_roundw
            case rel =>
              refine ⟨k + 1, p3, c3, by omega, by go_num, ?_, ?_, ?_, B3.out⟩
              · rw [HV.out] <;> first | rfl | (dsimp only; simp only [List.length_append, List.length_cons, List.length_nil])
              · rw [HV.out]
              · rw [HV.out]; exact O3.out
            case measure => simp [intOf]; omega
      · obtain rfl : k = n := by omega
        have hK := HSg.out.step HB.out
        have HK := Lib.hid hK
        obtain ⟨k0, k1⟩ := hK.cells
        have hfr : wr.frozen? ⟨B, 1, none⟩ = false := blk_free hK
        rw [show l.take k = l from List.take_of_length_le (by omega)] at HO hle ⊢
        have hBw := HSg.out.lt
        have hno : ¬ (k : Int) < (k : Int) := by omega
        clear hK
        generalize l.foldl (stepP b hh) ([], false) = S at *
        obtain ⟨out, q⟩ := S
        dsimp only at HO HI hle ⊢
        simp only [List.length_nil, Nat.zero_add] at hle
        cases q
        · have HE : Hid (ins l b hh = out ++ [(b, hh)]) := Lib.hid (by have := HI.out; simpa [fin] using this.symm)
          go_upto_region 16 with (first | (at_builtin; refine append_leaf _ rfl _ _ rfl w.heap.size _ _ out (b, hh) rfl (by omega) HB.out.size rfl HO.out ?_; intro p3 c3 w3 ho hb; have O3 := Lib.hid ho; have B3 := Lib.hid (HB.out.trans hb); clear ho hb))
          have hK3 := HSg.out.step B3.out
          have HK3 := Lib.hid hK3
          clear k0 k1
          obtain ⟨k0, k1⟩ := hK3.cells
          have hfr3 : w3.frozen? ⟨B, 1, none⟩ = false := blk_free hK3
          clear hK3 hfr
          go_wp2_with fail
          go_ret
          rw [HE.out]
          refine ⟨rfl, ⟨p3, c3, ?_, own_at O3.out (fun i hi => Below.heap_setCell _ _ _ _ ?_)⟩, But.set_ B3.out _ _⟩
          · have := blk_set (i := 1) (u := .slice p3 (out ++ [(b, hh)]).length c3) HK3.out
            rw [List.length_append] at this ⊢
            exact this
          · have := (O3.out.lt i hi).1
            show i ≠ B
            omega
        · have HE : Hid (ins l b hh = out) := Lib.hid (by have := HI.out; simpa [fin] using this.symm)
          go_wp2_with fail
          go_ret
          rw [HE.out]
          refine ⟨rfl, ⟨p, cp, blk_set (i := 1) HK.out, own_at HO.out (fun i hi => Below.heap_setCell _ _ _ _ ?_)⟩, But.set_ HB.out _ _⟩
          have := (HO.out.lt i hi).1
          show i ≠ B
          omega
  · rw [if_neg hc] at hy
    simp at hy
end Go.Proofs.YtdkcebaehdkphaaGreatDoor.SegP
/- The program's Put of a leaf in a segment: the walk of its text. The condition: the rounds' numbers lie in the program's variable. -/
namespace Go.Proofs.YtdkcebaehdkphaaGreatDoor.SegJ
set_option linter.unusedVariables false
set_option linter.unusedSimpArgs false
open Go.RowKit STurn
open PrfL PrfM PrfB PrfD PrgC PrgK MerQ SegN SegM SegP SegG SegH
theorem Put_nil {p : Option Addr} {w : World} (h : Nil p w) (x : A) : Calls Tryz.prog 9 #[.pointer p, .int .i64 x.1, .int .i64 x.2.1, st x.2.2] w fun e w' => e = .returned (.int .i64 1) ∧ w = w' := by
  have HN := Lib.hid (isNone_none h)
  clear h
  go_enter Tryz.func9, Tryz.ntmps9
  go_wp2_with (go_at_call 25; refine HN.out.mono ?_; rintro e _ ⟨rfl, rfl⟩)
  go_ret
  exact ⟨rfl, rfl⟩
set_option maxRecDepth 100000 in
set_option maxHeartbeats 2000000 in
theorem Put_no {B : Nat} {ep : Int} {M : Nat} {C : Pl} {w : World} (h : Seg B ep M C w) (x : A) (hf : FitA x) (hr : Rds w) (hno : takes ep x = none) (hep : 0 ≤ ep ∧ ep ≤ 4294967295) :
    Calls Tryz.prog 9 #[.pointer (some ⟨B, 0, none⟩), .int .i64 x.1, .int .i64 x.2.1, st x.2.2] w fun e w' => e = .returned (.int .i64 2) ∧ Below w.heap.size w w' := by
  obtain ⟨b, sl, s⟩ := x
  have HN := Lib.hid (isNone_seg h)
  have HW := Lib.hid (fun W => inside b 4095 W)
  have hsl : s.length ≤ 9223372036854775807 := hf.2.2
  unfold takes at hno
  dsimp only at hno ⊢
  by_cases c1 : 0 ≤ b ∧ b ≤ 4095
  · rw [in_yes c1] at HW
    by_cases c2 : 4000 < s.length
    · have d1 : (4000 : Int) < (s.length : Int) := by omega
      clear hno h hf hr
      go_enter Tryz.func9, Tryz.ntmps9
      go_wp2_with (first
        | (go_at_call 25; refine HN.out.mono ?_; rintro e _ ⟨rfl, rfl⟩)
        | (go_at_call 24; refine (HW.out _).mono ?_; rintro e _ ⟨rfl, rfl⟩))
      go_ret
      exact ⟨rfl, Below.refl _ _⟩
    · have d1 : (s.length : Int) ≤ 4000 := by omega
      have HD := Lib.hid (PrgD.Data ep sl s w (by omega) hr)
      have hq : (dataR ep sl s).2 = false := by
        cases hd : (dataR ep sl s).2 with
        | false => rfl
        | true => rw [if_pos ⟨c1, by omega, hd⟩] at hno; simp at hno
      rw [hq] at HD
      obtain ⟨k0, k1⟩ := h.cells
      clear hno h hf hr hq
      generalize (dataR ep sl s).1 = t at *
      go_enter Tryz.func9, Tryz.ntmps9
      go_wp2_with (first
        | (go_at_call 25; refine HN.out.mono ?_; rintro e _ ⟨rfl, rfl⟩)
        | (go_at_call 24; refine (HW.out _).mono ?_; rintro e _ ⟨rfl, rfl⟩)
        | (go_at_call 21; refine HD.out.mono ?_; rintro e w1 ⟨rfl, hb⟩; have B1 := Lib.hid hb; clear hb))
      go_ret
      exact ⟨rfl, B1.out⟩
  · rw [in_no c1] at HW
    clear hno h hf hr
    go_enter Tryz.func9, Tryz.ntmps9
    go_wp2_with (first
      | (go_at_call 25; refine HN.out.mono ?_; rintro e _ ⟨rfl, rfl⟩)
      | (go_at_call 24; refine (HW.out _).mono ?_; rintro e _ ⟨rfl, rfl⟩))
    go_ret
    exact ⟨rfl, Below.refl _ _⟩
theorem takes_in {ep : Int} {x : A} {hh : L} (h : takes ep x = some hh) : (0 ≤ x.1 ∧ x.1 ≤ 4095) ∧ x.2.2.length ≤ 4000 ∧ dataR ep x.2.1 x.2.2 = (hh, true) := by
  unfold takes at h
  by_cases hc : (0 ≤ x.1 ∧ x.1 ≤ 4095) ∧ x.2.2.length ≤ 4000 ∧ (dataR ep x.2.1 x.2.2).2 = true
  · rw [if_pos hc] at h
    injection h with h
    exact ⟨hc.1, hc.2.1, by rw [← h, ← hc.2.2]⟩
  · rw [if_neg hc] at h
    simp at h
set_option maxRecDepth 100000 in
set_option maxHeartbeats 2000000 in
theorem Put_yes {B : Nat} {ep : Int} {M : Nat} {C : Pl} {w : World} (h : Seg B ep M C w) (x : A) (hr : Rds w) {hh : L} (hy : takes ep x = some hh) :
    Calls Tryz.prog 9 #[.pointer (some ⟨B, 0, none⟩), .int .i64 x.1, .int .i64 x.2.1, st x.2.2] w fun e w' => e = .returned (.int .i64 0) ∧ Seg B ep M (upd C x.1.toNat hh) w' ∧ Bum M w w' := by
  obtain ⟨c1, c2, c3⟩ := takes_in hy
  obtain ⟨b, sl, s⟩ := x
  dsimp only at c1 c2 c3 ⊢
  obtain ⟨k, rfl⟩ : ∃ k : Nat, b = (k : Int) := ⟨b.toNat, by omega⟩
  rw [Int.toNat_natCast]
  have HN := Lib.hid (isNone_seg h)
  have HW := Lib.hid (fun W => inside (k : Int) 4095 W)
  rw [in_yes c1] at HW
  have HD := Lib.hid (PrgD.Data ep sl s w (by omega) hr)
  rw [c3] at HD
  have d1 : (s.length : Int) ≤ 4000 := by omega
  have HS := Lib.hid h
  obtain ⟨k0, k1⟩ := h.cells
  have hk : k < 4096 := by omega
  clear h hr hy c1 c2 c3
  dsimp only at HD
  go_enter Tryz.func9, Tryz.ntmps9
  go_upto_region 8 with (first
    | (go_at_call 25; refine HN.out.mono ?_; rintro e _ ⟨rfl, rfl⟩)
    | (go_at_call 24; refine (HW.out _).mono ?_; rintro e _ ⟨rfl, rfl⟩)
    | (go_at_call 21; refine HD.out.mono ?_; rintro e w1 ⟨rfl, hb⟩; have B1 := Lib.hid hb; clear hb))
  have HS1 := Lib.hid (HS.out.step B1.out)
  clear k0 k1
  obtain ⟨k0, k1⟩ := HS1.out.cells
  go_wp2_with (at_mapUpdate; refine wpList_put _ rfl _ _ _ rfl M C HS1.out.map k hk hh rfl rfl rfl ?_; intro w2 hm hb; have M2 := Lib.hid hm; have B2 := Lib.hid hb; clear hm hb)
  go_ret
  exact ⟨rfl, ⟨(B2.out.block B HS1.out.lt HS1.out.ne).trans HS1.out.head, M2.out⟩, Bum.after B1.out B2.out⟩
end Go.Proofs.YtdkcebaehdkphaaGreatDoor.SegJ
/- The chapter's example. The condition: the rounds' numbers lie in the program's variable. -/
namespace Go.Proofs.YtdkcebaehdkphaaGreatDoor.SegA
set_option linter.unusedVariables false
open Go.RowKit STurn
open PrfL PrfN PrfM PrfB PrfG PrfD PrgC PrgK MerQ MerJ SegN SegM SegR SegP SegG SegH SegJ SegK SegL
theorem twice (h1 h2 : L) : lvs (upd (upd non 3 h1) 3 h2) 4096 = [(3, h2)] := by
  rw [lvs_upd _ _ _ _ (by omega), lvs_upd _ _ _ _ (by omega), lvs_none]
  rfl
theorem took (sl : Int) (s : L) (h : 0 ≤ sl ∧ sl ≤ 4294967295) (hs : s.length ≤ 4000) : takes 1 (3, sl, s) = some (dataR 1 sl s).1 ∧ (dataR 1 sl s).2 = true := by
  have e : (dataR 1 sl s).2 = true := by unfold dataR; rw [if_pos ⟨by omega, h⟩]
  refine ⟨?_, e⟩
  unfold takes
  rw [if_pos ⟨show (0 : Int) ≤ 3 ∧ (3 : Int) ≤ 4095 by omega, hs, e⟩]
set_option maxRecDepth 100000 in
set_option maxHeartbeats 4000000 in
theorem alive (w : World) (hr : Rds w) : Calls Tryz.prog 7 #[] w fun e w' => e = .returned (.bool true) ∧ Below w.heap.size w w' := by
  have HR := Lib.hid hr
  obtain ⟨t1, _⟩ := took 0 [97] (by decide) (by decide)
  obtain ⟨t2, e2⟩ := took 1 [98] (by decide) (by decide)
  have HDr := Lib.hid (fun W => Data9 1 1 [98] W (by decide) (by decide) (by decide))
  rw [e2] at HDr
  generalize (dataR 1 0 [97]).1 = h1 at *
  generalize (dataR 1 1 [98]).1 = h2 at *
  have HN := Lib.hid (New_yes 1 w (by decide))
  have HP1 := Lib.hid (fun B M W (h : Seg B 1 M non W) (hb : Below w.heap.size w W) => Put_yes h (3, 0, [97]) (hr.step hb) t1)
  have HP2 := Lib.hid (fun B M W (h : Seg B 1 M (upd non 3 h1) W) (hb : Below w.heap.size w W) => Put_yes h (3, 1, [98]) (hr.step hb) t2)
  have HLv := Lib.hid (twice h1 h2)
  have HC : Hid (cnt (upd (upd non 3 h1) 3 h2) = 1) := Lib.hid (by unfold cnt; rw [twice]; rfl)
  have hq := fun W => run_eql_leaf W 3 3 h2 h2 true (decide_eq_true rfl)
  clear hr t1 t2 e2
  go_enter Tryz.func7, Tryz.ntmps7
  go_upto_region 6 with (first
    | (go_at_call 8; refine HN.out.mono ?_; rintro e w1 ⟨B, M, rfl, hs, gB, gM, hb⟩; have S1 := Lib.hid hs; have B1 := Lib.hid hb; have GB := Lib.hid gB; have GM := Lib.hid gM; clear hs hb gB gM)
    | (go_at_call 9; refine (HP1.out B M _ S1.out B1.out).mono ?_; rintro e w2 ⟨rfl, hs, hb⟩; have S2 := Lib.hid (show Seg B 1 M (upd non 3 h1) w2 from hs); have B2 := Lib.hid (B1.out.trans (hb.below GM.out B1.out.size)); clear hs hb HP1)
    | (go_at_call 9; refine (HP2.out B M _ S2.out B2.out).mono ?_; rintro e w3 ⟨rfl, hs, hb⟩; have S3 := Lib.hid (show Seg B 1 M (upd (upd non 3 h1) 3 h2) w3 from hs); have B3 := Lib.hid (B2.out.trans (hb.below GM.out B2.out.size)); clear hs hb HP2)
    | (go_at_call 12; refine (SegK.Leaves S3.out).mono ?_; rintro e w4 ⟨p, c, rfl, ho, hb⟩; have O4 := Lib.hid ho; have B4 := Lib.hid (B3.out.trans (hb.mono B3.out.size)); have S4 := Lib.hid (S3.out.step hb); clear ho hb)
    | (go_at_call 23; refine (HDr.out _).mono ?_; rintro e w5 ⟨rfl, hb⟩; have B5 := Lib.hid (B4.out.trans (hb.mono B4.out.size)); have S5 := Lib.hid (S4.out.step hb); have O5 := Lib.hid (own_later O4.out hb); clear hb))
  rw [HLv.out] at O5 ⊢
  have L5 := own_lies O5.out
  obtain ⟨g, o, rfl, hg, hc⟩ := L5 (Nat.zero_lt_one)
  obtain ⟨c0, c1⟩ := hc 0 (Nat.zero_lt_one)
  replace c0 : w5.cell? ⟨g, o, none⟩ = some (.int .i64 3) := c0
  replace c1 : w5.cell? ⟨g, o + 1, none⟩ = some (st h2) := c1
  clear hc L5
  have HCo := Lib.hid (Count S5.out)
  rw [HC.out] at HCo
  clear HLv HC HN HDr S1 S2 S3 S4 O4 O5 B1 B2 B3 B4
  go_wp2_with (go_at_call 13; refine HCo.out.mono ?_; rintro e _ ⟨rfl, rfl⟩)
  go_ret
  exact ⟨rfl, B5.out⟩
end Go.Proofs.YtdkcebaehdkphaaGreatDoor.SegA
/- What stands while statements of segments run: a segment of the program's beside one of the document's, or beside another one of the program's; own proofs are the same. No conditions but those that each lemma names. -/
namespace Go.Proofs.YtdkcebaehdkphaaGreatDoor.SegX
set_option linter.unusedVariables false
open Go.RowKit STurn
open PrfL PrfN PrfM PrfB PrfG PrfD PrgC PrgK PrgO PrgP PrgQ PrgR MerQ MerM MerN MerC MerA MerJ MerR MerW SegN SegM SegR SegP SegG SegH SegJ SegK SegL SegF
theorem same_zero (W : World) : Calls Tryz.prog 19 #[.agg zeroRaw.cells, .agg zeroRaw.cells] W fun e w' => e = .returned (.bool true) ∧ Below W.heap.size W w' := by
  have := PrfE.Same zeroRaw zeroRaw W ⟨rfl, fun h => absurd h (by decide)⟩ ⟨rfl, fun h => absurd h (by decide)⟩ ⟨rfl, fun h => absurd h (by decide)⟩ ⟨rfl, fun h => absurd h (by decide)⟩ (by decide) (by decide) (by decide) (by decide)
  rwa [show sameB zeroRaw zeroRaw = true by decide] at this
theorem root_of {l : List Lf} (hn : l.length ≤ 100000) {B : Nat} {a : Option Addr} {c : Nat} {W : World} (ho : W.ownsRow B 9 1 (.slice a (hs l).length c) (hs l).length ((hs l).map str)) : Calls Tryz.prog 16 #[.slice a (hs l).length c] W fun e w' => e = .returned (str (rt l)) ∧ Below W.heap.size W w' := by
  have h3 : (hs l).length ≤ 1000000 := by rw [hs_length]; omega
  exact MerI.Root (hs l).length a c (hs l) W rfl (PrfP.own_cap ho) h3 (own_strs ho) (all32_at (hs_32 l))
theorem path_short {l : List Lf} {i : Nat} (h : i < l.length) : (pathN nd (hs l) i).length ≤ l.length := by
  rw [pathN_length nd (by rw [hs_length]; exact h)]
  exact Nat.le_trans (long_le _ _ _) (by rw [hs_length]; omega)
theorem prove_short {l : List Lf} {b : Int} {x : Raw} (hx : pf x = prove l b) : x.up.length ≤ l.length ∧ x.left.length ≤ l.length := by
  have hle := plc_le l b
  have eu : x.up = (prove l b).up := by rw [← hx]; rfl
  have el : x.left = (prove l b).left := by rw [← hx]; rfl
  constructor
  · rw [eu]; unfold prove; dsimp only
    split
    · rename_i h; exact path_short h
    · simp
  · rw [el]; unfold prove; dsimp only
    split
    · rename_i h; exact path_short (by omega)
    · simp
theorem same_pf {x y : Raw} (h : pf x = pf y) : sameB x y = true := by
  unfold pf at h
  injection h with e1 e2 e3 e4 e5 e6
  unfold sameB
  simp [e1, e2, e3, e4, e5, e6]
theorem same_two {l : List Lf} {b : Int} {x y : Raw} {B B' : Nat} {W : World} (hn : l.length ≤ 100000) (hx : pf x = prove l b) (hy : pf y = prove l b)
    (o1 : W.ownsRow B 9 1 (.slice x.ua x.up.length x.uc) x.up.length (x.up.map str)) (o2 : W.ownsRow B 9 1 (.slice x.la x.left.length x.lc) x.left.length (x.left.map str))
    (p1 : W.ownsRow B' 9 1 (.slice y.ua y.up.length y.uc) y.up.length (y.up.map str)) (p2 : W.ownsRow B' 9 1 (.slice y.la y.left.length y.lc) y.left.length (y.left.map str)) :
    Calls Tryz.prog 19 #[.agg x.cells, .agg y.cells] W fun e w' => e = .returned (.bool true) ∧ Below W.heap.size W w' := by
  have hx1 := prove_short hx
  have hy1 := prove_short hy
  have := PrfE.Same x y W (own_strs o1) (own_strs o2) (own_strs p1) (own_strs p2) (by omega) (by omega) (by omega) (by omega)
  rwa [same_pf (hx.trans hy.symm)] at this
/-- A row of leaves is the same as one that reads alike. -/
theorem same_rows {l : List Lf} {a b : Option Addr} {c d : Nat} {W : World} (h : Lies W a l) (k : Lies W b l) (hl : l.length ≤ 100000) : Calls Tryz.prog 11 #[.slice a l.length c, .slice b l.length d] W fun e w' => e = .returned (.bool true) ∧ Below W.heap.size W w' := by
  have := SegS.Same a b c d l l W h k hl hl
  rwa [decide_eq_true rfl] at this
theorem Count_len {B : Nat} {ep : Int} {M : Nat} {C : Pl} {w : World} (h : Seg B ep M C w) : Calls Tryz.prog 13 #[.pointer (some ⟨B, 0, none⟩)] w fun e w' => e = .returned (.int .i64 ((lvs C 4096).length : Nat)) ∧ w = w' := by
  have := Count h
  unfold cnt at this
  exact this
/-- Blocks that lie ahead of the rounds' own. -/
structure Lay (u z B M R : Nat) : Prop where
  uB : u ≤ B
  uM : u ≤ M
  uR : u ≤ R
  Bz : B < z
  Mz : M < z
  Rz : R < z
  BR : R ≠ B
  MR : R ≠ M
  BM : M ≠ B
/-- A segment of the program's beside one of the document's. -/
structure Two (w : World) (z B M R : Nat) (ep : Int) (C D : Pl) (W : World) : Prop where
  seg : Seg B ep M C W
  row : ∃ p c, Sg R ep p (lvs D 4096).length c W ∧ W.ownsRow z 45 2 (.slice p (lvs D 4096).length c) (lvs D 4096).length (rl (lvs D 4096))
  bel : Below w.heap.size w W
  z : z ≤ W.heap.size
variable {w W W' : World} {z B M R : Nat} {ep : Int} {C D E : Pl}
theorem Two.step (h : Two w z B M R ep C D W) (hb : Below W.heap.size W W') : Two w z B M R ep C D W' := by
  obtain ⟨p, c, h1, h2⟩ := h.row
  exact ⟨h.seg.step hb, ⟨p, c, h1.step hb, own_later h2 hb⟩, h.bel.trans (hb.mono h.bel.size), Nat.le_trans h.z hb.size⟩
set_option maxRecDepth 100000 in
theorem Two.prog (h : Two w z B M R ep C D W) (l : Lay w.heap.size z B M R) (k : Seg B ep M E W') (hb : Bum M W W') : Two w z B M R ep E D W' := by
  obtain ⟨p, c, h1, h2⟩ := h.row
  have lR := h1.lt
  refine ⟨k, ⟨p, c, (hb.block R lR l.MR).trans h1, own_at h2 fun g hg => ?_⟩, h.bel.trans (hb.below l.uM h.bel.size), Nat.le_trans h.z hb.size⟩
  have := h2.lt g hg
  exact hb.block g this.2 (by have := l.Mz; omega)
set_option maxRecDepth 100000 in
theorem Two.doc (h : Two w z B M R ep C D W) (l : Lay w.heap.size z B M R) {x : List Lf} (hx : x = lvs E 4096) (k : ∃ p c', Sg R ep p x.length c' W' ∧ W'.ownsRow W.heap.size 45 2 (.slice p x.length c') x.length (rl x)) (hb : But R W W') : Two w z B M R ep C E W' := by
  obtain ⟨p, c, h1, h2⟩ := k
  rw [hx] at h1 h2
  have lB := h.seg.lt
  have lM := h.seg.map.lt
  exact ⟨⟨(hb.block B lB (fun e => l.BR e.symm)).trans h.seg.head, h.seg.map.block (hb.block M lM (fun e => l.MR e.symm))⟩, ⟨p, c, h1, own_base h2 h.z⟩, h.bel.trans (hb.below l.uR h.bel.size), Nat.le_trans h.z hb.size⟩
theorem Two.cell (h : Two w z B M R ep C D W) : ∃ p c, (W.cell? ⟨R, 0, none⟩ = some (.int .i64 ep) ∧ W.cell? ⟨R, 1, none⟩ = some (.slice p (lvs D 4096).length c)) ∧ Lies W p (lvs D 4096) := by
  obtain ⟨p, c, h1, h2⟩ := h.row
  exact ⟨p, c, h1.cells, own_lies h2⟩
/-- .. and an act in a block of its own. -/
structure Rnd (w : World) (z B M R : Nat) (ep : Int) (C D : Pl) (X : Nat) (x : A) (W : World) : Prop where
  two : Two w z B M R ep C D W
  act : W.heap[X]? = some (.cells #[.int .i64 x.1, .int .i64 x.2.1, st x.2.2] 34 (0, 0))
  lt : z ≤ X
variable {X : Nat} {x : A}
theorem Rnd.cells (h : Rnd w z B M R ep C D X x W) : W.cell? ⟨X, 0, none⟩ = some (.int .i64 x.1) ∧ W.cell? ⟨X, 1, none⟩ = some (.int .i64 x.2.1) ∧ W.cell? ⟨X, 2, none⟩ = some (st x.2.2) := ⟨blk_cell h.act rfl, blk_cell h.act rfl, blk_cell h.act rfl⟩
theorem Rnd.step (h : Rnd w z B M R ep C D X x W) (hb : Below W.heap.size W W') : Rnd w z B M R ep C D X x W' := ⟨h.two.step hb, (hb.block _ (Array.getElem?_eq_some_iff.1 h.act).1).trans h.act, h.lt⟩
theorem Rnd.prog (h : Rnd w z B M R ep C D X x W) (l : Lay w.heap.size z B M R) (k : Seg B ep M E W') (hb : Bum M W W') : Rnd w z B M R ep E D X x W' :=
  ⟨h.two.prog l k hb, (hb.block _ (Array.getElem?_eq_some_iff.1 h.act).1 (by have := l.Mz; have := h.lt; omega)).trans h.act, h.lt⟩
set_option maxRecDepth 100000 in
theorem Rnd.doc (h : Rnd w z B M R ep C D X x W) (l : Lay w.heap.size z B M R) {y : List Lf} (hx : y = lvs E 4096) (k : ∃ p c', Sg R ep p y.length c' W' ∧ W'.ownsRow W.heap.size 45 2 (.slice p y.length c') y.length (rl y)) (hb : But R W W') : Rnd w z B M R ep C E X x W' :=
  ⟨h.two.doc l hx k hb, (hb.block _ (Array.getElem?_eq_some_iff.1 h.act).1 (by have := l.Rz; have := h.lt; omega)).trans h.act, h.lt⟩
set_option maxRecDepth 100000 in
theorem Rnd.new (h : Two w z B M R ep C D W) (x : A) (cs : Array Value) : Rnd w z B M R ep C D W.heap.size x ((W.alloc (.cells cs 34)).setRow W.heap.size #[.int .i64 x.1, .int .i64 x.2.1, st x.2.2]) :=
  ⟨h.step (kept_new W _ _ _), has_new W _ _ _, h.z⟩
theorem infoA : (Tryz.prog.info? 34).map (·.size) = some 3 := by kernel_rfl
theorem oneA (a b : Int) (s : L) : (#[.int .i64 a, .int .i64 b, st s] : Array Value).all (·.oneCell') = true := by simp [Value.oneCell']
/-! What the acts put. -/
theorem puts_next (D : A → Option L) (l : List A) {k : Nat} (hk : k < l.length) : puts D non (l.take (k + 1)) = put1 D (puts D non (l.take k)) (l.getD k noA) := by
  unfold puts
  rw [List.take_succ_eq_append_getElem hk, List.foldl_append, at_a _ hk]
  rfl
theorem put1_none {D : A → Option L} {x : A} (C : Pl) (h : D x = none) : put1 D C x = C := by unfold put1; rw [h]
theorem put1_some {D : A → Option L} {x : A} {hh : L} (C : Pl) (h : D x = some hh) : put1 D C x = upd C x.1.toNat hh := by unfold put1; rw [h]
theorem takes_32 {ep : Int} {x : A} {hh : L} (h : takes ep x = some hh) : hh.length = 32 := by
  obtain ⟨_, _, h3⟩ := takes_in h
  unfold dataR at h3
  split at h3
  · injection h3 with h3 _
    rw [← h3]
    exact sum_length _
  · simp at h3
theorem good_non : SegL.Good non := fun i x h => by simp [non] at h
theorem good_upd {C : Pl} {b : Nat} {hh : L} (h : SegL.Good C) (h1 : hh.length = 32) : SegL.Good (upd C b hh) := fun i x e => by
  unfold upd at e
  split at e
  · injection e with e; rw [← e]; exact h1
  · exact h i x e
theorem good_puts (ep : Int) : ∀ (l : List A) (C : Pl), SegL.Good C → SegL.Good (puts (takes ep) C l)
  | [], _, h => h
  | x :: l, C, h => good_puts ep l _ (by
      cases hx : takes ep x with
      | none => rw [put1_none C hx]; exact h
      | some hh => rw [put1_some C hx]; exact good_upd h (takes_32 hx))
set_option maxRecDepth 100000 in
theorem ins_upd (C : Pl) {x : A} {ep : Int} {hh : L} (h : takes ep x = some hh) : ins (lvs C 4096) x.1 hh = lvs (upd C x.1.toNat hh) 4096 := by
  obtain ⟨h1, _, _⟩ := takes_in h
  rw [lvs_upd C _ hh 4096 (by omega), show ((x.1.toNat : Nat) : Int) = x.1 by omega]
set_option maxRecDepth 100000 in
theorem Two.put_no (h : Two w z B M R ep C D W) (x : A) (hf : FitA x) (hs : x.2.2.length ≤ reachBytes) (h1 : ep ≤ 4294967295) (hno : takes ep x = none) :
    Calls Tryz.prog 10 #[.pointer (some ⟨R, 0, none⟩), .int .i64 x.1, .int .i64 x.2.1, st x.2.2] W fun e w' => e = .returned (.int .i64 2) ∧ Below W.heap.size W w' := by
  obtain ⟨p, c, k1, k2⟩ := h.row
  exact SegP.Put_no R ep p _ c x W k1 (by omega) hf (by have := reachBytes_lt; omega) hno
set_option maxRecDepth 100000 in
theorem Two.put_yes (h : Two w z B M R ep C D W) (x : A) (hf : FitA x) (h1 : ep ≤ 4294967295) {hh : L} (hy : takes ep x = some hh) :
    Calls Tryz.prog 10 #[.pointer (some ⟨R, 0, none⟩), .int .i64 x.1, .int .i64 x.2.1, st x.2.2] W fun e w' => e = .returned (.int .i64 0) ∧
      (∃ p c', Sg R ep p (ins (lvs D 4096) x.1 hh).length c' w' ∧ w'.ownsRow W.heap.size 45 2 (.slice p (ins (lvs D 4096) x.1 hh).length c') (ins (lvs D 4096) x.1 hh).length (rl (ins (lvs D 4096) x.1 hh))) ∧ But R W w' := by
  obtain ⟨p, c, k1, k2⟩ := h.row
  have hl := lvs_length D 4096
  exact SegP.Put_yes R ep p _ c (lvs D 4096) x hh W k1 rfl (own_lies k2) (by omega) (by omega) hf hy
set_option maxRecDepth 100000 in
/-- Both with nothing. -/
theorem two_new {w w2 : World} {B M : Nat} {ep : Int} (S2 : Seg B ep M non w2) (B2 : Below w.heap.size w w2) : Two w (w2.heap.size + 1) B M w2.heap.size ep non non (w2.alloc (.cells #[.int .i64 ep, .slice none 0 0] 32)) :=
  ⟨S2.step (below_new w2 _), ⟨none, 0, by rw [lvs_none]; exact heap_alloc_new w2 _, by rw [lvs_none]; exact World.ownsRow_nil _ _ _ _⟩, B2.trans ((below_new w2 _).mono B2.size), by simp⟩
theorem lay_new {w w1 w2 : World} {B M : Nat} {ep : Int} {C : Pl} (S2 : Seg B ep M C w2) (b1 : w.heap.size ≤ w1.heap.size) (gB : w1.heap.size ≤ B) (gM : w1.heap.size ≤ M) : Lay w.heap.size (w2.heap.size + 1) B M w2.heap.size := by
  have h1 := S2.lt
  have h2 := S2.map.lt
  exact ⟨by omega, by omega, by omega, by omega, by omega, by omega, by omega, by omega, fun e => S2.ne e.symm⟩
end Go.Proofs.YtdkcebaehdkphaaGreatDoor.SegX
