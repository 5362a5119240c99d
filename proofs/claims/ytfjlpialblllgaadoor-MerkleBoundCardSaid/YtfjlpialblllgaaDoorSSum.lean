/- What a Hash's Sum answers: the walk of its text. -/
import Derived.Test.YtfjlpialblllgaaDoorSPut
namespace Go.Proofs.YtfjlpialblllgaaDoor.SSum
open Go.RowKit
open SSpr SByt STurn SStep SHash SPut
theorem of_nil (w : World) : Calls Tryd.prog 29 #[.pointer none] w fun e w' => e = .returned (.string ⟨#[]⟩) ∧ w = w' := by
  go_enter Tryd.func29, Tryd.ntmps29
  go_wp2_with (go_at_call 41; refine (isNone_nil _).mono ?_; rintro e w' ⟨rfl, rfl⟩)
  go_ret
  exact ⟨rfl, rfl⟩
theorem of_un (b : Nat) (w : World) (h : w.cell? ⟨b, 0, none⟩ = some (.bool false)) : Calls Tryd.prog 29 #[.pointer (some ⟨b, 0, none⟩)] w fun e w' => e = .returned (.string ⟨#[]⟩) ∧ w = w' := by
  have H := Lib.hid h
  clear h
  go_enter Tryd.func29, Tryd.ntmps29
  go_wp2_with (go_at_call 41; refine (isNone_un b _ H.out).mono ?_; rintro e w' ⟨rfl, rfl⟩)
  go_ret
  exact ⟨rfl, rfl⟩
set_option maxRecDepth 100000 in
set_option maxHeartbeats 1000000 in
theorem any (b : Nat) (l : List UInt8) (w : World) (h : Has w b l) (hr : Rds w) (hlen : l.length ≤ 576460752303423488) :
    Calls Tryd.prog 29 #[.pointer (some ⟨b, 0, none⟩)] w fun e w' => e = .returned (.string ⟨(sum l).toArray⟩) ∧ Below w.heap.size w w' := by
  have HH := Lib.hid h
  have HM := Lib.hid h.made
  have HR := Lib.hid hr
  have h73 := h.size_
  have HPad := Lib.hid (fun W => SPad.good l.length W (by omega))
  have hpl := pad_length l.length
  have hpl2 : l.length + (pad l.length).length ≤ 1152921504606846976 := by omega
  have HS : Hid (sum l = (blocks st0 ((l ++ pad l.length).length / 64) (l ++ pad l.length)).bytes) := by rw [sum, List.length_append]; rfl
  clear h hr hpl
  generalize pad l.length = p at *
  have HL := Lib.hid (hCells_length (blocks st0 (l.length / 64) l) (rest l) l.length (rest_length l))
  have HO := Lib.hid (hCells_one (blocks st0 (l.length / 64) l) (rest l) l.length)
  have HH2 : Hid (w.heap[b]? = some (.cells (hCells (blocks st0 (l.length / 64) l) (rest l) l.length).toArray 70 (0, 0))) := HH.out
  have HP : Hid (∀ w' c, w'.heap[c]? = some (.cells (hCells (blocks st0 (l.length / 64) l) (rest l) l.length).toArray 70 (0, 0)) → Has w' c l) := fun _ _ h => h
  generalize hCells (blocks st0 (l.length / 64) l) (rest l) l.length = cs at *
  have HI := Lib.hid (show (Tryd.prog.info? 70).map (·.size) = some cs.toArray.size by rw [List.size_toArray, HL.out]; exact info53)
  have HZ : Hid (Tryd.zeroCells70.size = cs.toArray.size) := ((show Tryd.zeroCells70.size = 74 by kernel_rfl).trans (by rw [List.size_toArray, HL.out]))
  go_enter Tryd.func29, Tryd.ntmps29
  go_upto_region 4 with (first
    | (go_at_call 41; refine (isNone_no b _ HM.out).mono ?_; rintro e w' ⟨rfl, rfl⟩)
    | (go_at_call 43; refine (HPad.out _).mono ?_; rintro e w1 ⟨rfl, hb1⟩))
  have HB1 := Lib.hid hb1
  have HH3 := Lib.hid ((hb1.block b HH.out.lt).trans HH2.out)
  clear hb1 h73
  go_upto_region 5 with (first
    | (refine wpList_load_row rfl 70 _ rfl b rfl 70 _ (0, 0) _ HH3.out Tryd.underlying70 rfl HI.out ?_)
    | (refine wpList_store_row rfl 70 _ _ rfl w1.heap.size _ rfl rfl 70 _ (heap_alloc_new w1 _) HI.out HZ.out HO.out ?_))
  generalize hW : World.setRow _ _ _ = W2
  have k1 : Has W2 w1.heap.size l := by rw [← hW]; exact HP.out _ _ (setRow_same (heap_alloc_new w1 _))
  have k2 : Below w1.heap.size w1 W2 := by rw [← hW]; exact below_setRow ((Below.refl _ _).alloc (Nat.le_refl _) _) (Nat.le_refl _) _
  have k3 : Rds W2 := HR.out.step (HB1.out.trans (k2.mono HB1.out.size))
  have hg := HR.out.lt
  have k4 : w1.heap.size ≠ 0 := by have := HB1.out.size; omega
  have HPut := Lib.hid (SPut.any w1.heap.size l p W2 k1 k3 k4 (by omega))
  have K2 := Lib.hid k2
  clear hW k1 k2 k3 k4 hg
  go_wp2_with fail
  refine HPut.out.mono ?_
  rintro e w3 ⟨rfl, hh3, hbut3⟩
  have HNow := Lib.hid hh3.now
  have HB3 := Lib.hid (HB1.out.trans ((K2.out.mono HB1.out.size).trans (hbut3.below HB1.out.size (Nat.le_trans HB1.out.size K2.out.size))))
  have HBy := Lib.hid (fun W => SByt.bytes (blocks st0 ((l ++ p).length / 64) (l ++ p)) (blocks_ok st0 st0_ok _ _) W)
  clear hh3 hbut3
  generalize blocks st0 ((l ++ p).length / 64) (l ++ p) = B at *
  go_wp2_with (first
    | (refine wpList_load_mid rfl 65 _ rfl w1.heap.size 1 rfl (stRow B).toList _ HNow.out Tryd.underlying65 rfl (by exact info49) ?_)
    | (go_at_call 44; refine (HBy.out _).mono ?_; rintro e w4 ⟨rfl, hb4⟩))
  rw [← HS.out]
  go_ret
  exact ⟨rfl, HB3.out.trans (hb4.mono HB3.out.size)⟩
/-- The slice value '.slice a n _' reads as the texts 'ls', below block 'B'. -/
def Strs (w : World) (B : Nat) (a : Option Addr) (n : Nat) (ls : List (List UInt8)) : Prop :=
  ls.length = n ∧ (0 < n → ∃ b off, a = some ⟨b, off, none⟩ ∧ b < B ∧ ∀ i, i < n → w.cell? ⟨b, off + i, none⟩ = some (.string ⟨(ls.getD i []).toArray⟩))
theorem Strs.below {w w' : World} {B : Nat} {a : Option Addr} {n : Nat} {ls : List (List UInt8)} (h : Strs w B a n ls) (hb : Below B w w') : Strs w' B a n ls :=
  ⟨h.1, fun hn => by
    obtain ⟨b, off, e, hlt, hc⟩ := h.2 hn
    exact ⟨b, off, e, hlt, fun i hi => (hb.cell (p := ⟨b, off + i, none⟩) hlt).trans (hc i hi)⟩⟩
theorem Strs.more {w : World} {B B' : Nat} {a : Option Addr} {n : Nat} {ls : List (List UInt8)} (h : Strs w B a n ls) (hb : B ≤ B') : Strs w B' a n ls :=
  ⟨h.1, fun hn => by
    obtain ⟨b, off, e, hlt, hc⟩ := h.2 hn
    exact ⟨b, off, e, by omega, hc⟩⟩
theorem flat_next (ls : List (List UInt8)) (j : Nat) (h : j < ls.length) : (ls.take (j + 1)).flatten = (ls.take j).flatten ++ ls.getD j [] := by
  rw [List.take_succ_eq_append_getElem h, List.flatten_append]
  simp [List.getD, h]
theorem flat_le (ls : List (List UInt8)) (j : Nat) : (ls.take j).flatten.length ≤ ls.flatten.length := by
  have h := congrArg List.length (congrArg List.flatten (List.take_append_drop j ls))
  rw [List.flatten_append, List.length_append] at h
  omega
set_option maxHeartbeats 1000000 in
theorem sums (a : Option Addr) (n c : Nat) (ls : List (List UInt8)) (w : World) (h : Strs w w.heap.size a n ls) (hr : Rds w) (hlen : ls.flatten.length ≤ 576460752303423488) (hn : n ≤ 9223372036854775807) :
    Calls Tryd.prog 13 #[.slice a n c] w fun e w' => e = .returned (.string ⟨(sum ls.flatten).toArray⟩) ∧ Below w.heap.size w w' := by
  have HH := Lib.hid h
  have HR := Lib.hid hr
  have HL := Lib.hid hlen
  clear h hr hlen
  go_enter Tryd.func13, Tryd.ntmps13
  go_wp2_with (go_at_call 27; refine (New _).mono ?_; rintro e w1 ⟨b, rfl, hh1, hb1, hle⟩; have HX1 := Lib.hid hh1; have HB1 := Lib.hid hb1; clear hh1 hb1)
  go_loopw [9] (fun i wr => ∃ j : Nat, j ≤ n ∧ i = .int .i64 j ∧ Has wr b (ls.take j).flatten ∧ Below w.heap.size w wr) (fun i _ => n - (intOf i).toNat)
  case atStart => exact ⟨0, Nat.zero_le _, rfl, HX1.out, HB1.out⟩
  case round =>
    obtain ⟨j, hj, rfl, hh, hbel⟩ := hrel
    have HX := Lib.hid hh
    have HB := Lib.hid hbel
    clear hh hbel
    by_cases hlt : j < n
    · obtain ⟨q, off, rfl, hq, hc⟩ := HH.out.2 (by omega)
      have hcj := (HB.out.cell (p := ⟨q, off + j, none⟩) hq).trans (hc j hlt)
      have HN := Lib.hid (flat_next ls j (by rw [HH.out.1]; exact hlt))
      have hfl := flat_le ls (j + 1)
      rw [HN.out, List.length_append] at hfl
      have hg := HR.out.lt
      have HP := Lib.hid (SPut.any b (ls.take j).flatten (ls.getD j []) wr HX.out (HR.out.step HB.out) (by omega) (by have := HL.out; omega))
      clear hc hfl hg
      generalize ls.getD j [] = x at *
      go_wp2_with (go_at_call 28; refine HP.out.mono ?_; rintro e w2 ⟨rfl, hh2, hb2⟩; have HX2 := Lib.hid hh2; have HB2 := Lib.hid hb2; clear hh2 hb2)
      go_roundw
      case rel => exact ⟨j + 1, by omega, by go_num, by rw [HN.out]; exact HX2.out, HB.out.trans (HB2.out.below hle HB.out.size)⟩
      case measure => simp [intOf]; omega
    · have hk : j = n := by omega
      subst hk
      have ht : ls.take j = ls := List.take_of_length_le (by rw [HH.out.1]; exact Nat.le_refl _)
      have hx := HX.out
      rw [ht] at hx
      have HS := Lib.hid (SSum.any b ls.flatten wr hx (HR.out.step HB.out) HL.out)
      clear ht hx
      go_wp2_with (go_at_call 29; refine HS.out.mono ?_; rintro e w2 ⟨rfl, hb2⟩)
      go_ret
      exact ⟨rfl, HB.out.trans (hb2.mono HB.out.size)⟩
end Go.Proofs.YtfjlpialblllgaaDoor.SSum
