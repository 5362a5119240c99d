/- What sha's 'Step' answers: the walk of its text. -/
import Derived.Test.YtkaeeedjkegdlaaDoorSTurn
import Derived.Deep.MidRow
import Derived.Deep.RegionWith
import Derived.Laws.Cover3
namespace Go.Proofs.YtkaeeedjkegdlaaDoor.SStep
open Go.RowKit
open SSpr SByt STurn
/-- What Step answers: the state's bytes and the error's number. -/
def step (s b : List UInt8) : List UInt8 × Int := if s.length = 32 ∧ b.length = 64 then ((turnSt (stOf s) b).bytes, 0) else ([], 2)
theorem noS (s b : ByteArray) (w : World) (h : ((s.size : Int) != 32) = true) :
    Calls Tryd.prog 12 #[.string s, .string b] w fun e w' => e = .returned (.tuple #[.string ⟨#[]⟩, .int .i64 2]) ∧ w = w' := by
  go_enter Tryd.func12, Tryd.ntmps12
  go_wp2
  go_ret2
  exact ⟨rfl, rfl⟩
theorem noB (s b : ByteArray) (w : World) (h1 : ((s.size : Int) != 32) = false) (h : ((b.size : Int) != 64) = true) :
    Calls Tryd.prog 12 #[.string s, .string b] w fun e w' => e = .returned (.tuple #[.string ⟨#[]⟩, .int .i64 2]) ∧ w = w' := by
  go_enter Tryd.func12, Tryd.ntmps12
  go_wp2
  go_ret2
  exact ⟨rfl, rfl⟩
/-- The numbers behind 'j' rounds. -/
def srow (s : List UInt8) (j : Nat) : List Nat := (List.range j).map (nth4 s) ++ List.replicate (8 - j) 0
theorem srow_len (s : List UInt8) (j : Nat) (h : j ≤ 8) : (srow s j).length = 8 := by simp [srow]; omega
theorem srow_next (s : List UInt8) (j : Nat) (h : j < 8) : (srow s j).set j (nth4 s j) = srow s (j + 1) := by
  unfold srow
  rw [List.set_append_right _ _ (by simp), show 8 - j = (8 - (j + 1)) + 1 from by omega, List.replicate_succ]
  simp [List.range_succ]
theorem cells8 {w : World} {g : Nat} {t : TypeId} {s : St} (h : w.heap[g]? = some (.cells (stRow s) t (0, 0))) :
    w.cell? ⟨g, 0, none⟩ = some (.int .u32 s.a) ∧ w.cell? ⟨g, 1, none⟩ = some (.int .u32 s.b) ∧ w.cell? ⟨g, 2, none⟩ = some (.int .u32 s.c) ∧ w.cell? ⟨g, 3, none⟩ = some (.int .u32 s.d) ∧ w.cell? ⟨g, 4, none⟩ = some (.int .u32 s.e) ∧ w.cell? ⟨g, 5, none⟩ = some (.int .u32 s.f) ∧ w.cell? ⟨g, 6, none⟩ = some (.int .u32 s.g) ∧ w.cell? ⟨g, 7, none⟩ = some (.int .u32 s.h) :=
  ⟨blk_cell h rfl, blk_cell h rfl, blk_cell h rfl, blk_cell h rfl, blk_cell h rfl, blk_cell h rfl, blk_cell h rfl, blk_cell h rfl⟩
set_option maxRecDepth 100000 in
set_option linter.unusedSimpArgs false in
set_option maxHeartbeats 1000000 in
theorem good (s b : List UInt8) (w : World) (hs : s.length = 32) (hb : b.length = 64) (hr : Rds w) :
    Calls Tryd.prog 12 #[.string ⟨s.toArray⟩, .string ⟨b.toArray⟩] w fun e w' => e = .returned (.tuple #[.string ⟨(turnSt (stOf s) b).bytes.toArray⟩, .int .i64 0]) ∧ Below w.heap.size w w' := by
  have h1 : ((s.length : Int) != 32) = false := by rw [hs]; rfl
  have h2 : ((b.length : Int) != 64) = false := by rw [hb]; rfl
  have HR := Lib.hid hr
  have HS := Lib.hid hs
  have HB := Lib.hid hb
  clear hr hs hb
  go_enter Tryd.func12, Tryd.ntmps12
  go_wp2
  clear h1 h2
  go_loopw [16] (fun i wr => ∃ j : Nat, j ≤ 8 ∧ i = .int .i64 j ∧ wr.heap[w.heap.size]? = some (.cells (wRow (srow s j)) 49 (0, 0)) ∧ Below w.heap.size w wr) (fun i _ => 8 - (intOf i).toNat)
  case atStart => exact ⟨0, Nat.zero_le _, rfl, heap_alloc_new w _, (Below.refl _ _).alloc (Nat.le_refl _) _⟩
  case round =>
    obtain ⟨j, hj, rfl, hb1, hbel⟩ := hrel
    by_cases hlt : j < 8
    · have hv := blk_cell hb1 (wRow_at _ j (by rw [srow_len _ _ hj]; exact hlt))
      have hfz := blk_free (i := j) hb1
      have hB1 := Lib.hid hb1
      clear hb1
      have hsl : ∀ W : World, (Instr.slice 9 (.string ⟨s.toArray⟩) (some (.int .i64 (4 * (j : Int)))) (some (.int .i64 (4 * (j : Int) + 4))) none).run Tryd.prog W = .ok (.string ⟨((s.drop (4 * j)).take 4).toArray⟩) W := by
        intro W
        have := run_slice_string (P := Tryd.prog) (w := W) 9 ⟨s.toArray⟩ .i64 .i64 (4 * (j : Int)) (4 * (j : Int) + 4) Tryd.underlying9 (by omega) (by omega) (show _ ≤ ((s.length : Nat) : Int) by rw [HS.out]; omega)
        rw [this]
        have e1 : (4 * (j : Int)).toNat = 4 * j := by omega
        have e2 : (4 * (j : Int) + 4).toNat = 4 * j + 4 := by omega
        rw [e1, e2, ByteArray.extract_mk, show 4 * j + 4 - 4 * j = 4 from by omega]
      have hq : ((s.drop (4 * j)).take 4) = [s.getD (4 * j) 0, s.getD (4 * j + 1) 0, s.getD (4 * j + 2) 0, s.getD (4 * j + 3) 0] := four s j (by rw [HS.out]; omega)
      have HQ : Hid (num ((s.drop (4 * j)).take 4) = nth4 s j) := rfl
      rw [hq] at hsl HQ
      clear hq
      generalize s.getD (4 * j) 0 = x0 at *
      generalize s.getD (4 * j + 1) 0 = x1 at *
      generalize s.getD (4 * j + 2) 0 = x2 at *
      generalize s.getD (4 * j + 3) 0 = x3 at *
      obtain ⟨cap, wc, hcv, hcc, hcb, hcs⟩ := conv_new (P := Tryd.prog) wr (src := 9) (dst := 38) [x0, x1, x2, x3] Tryd.underlying9 Tryd.underlying38 Tryd.underlying5
      replace hcv : (convert 9 38 (.string ⟨#[x0, x1, x2, x3]⟩)).run Tryd.prog wr = .ok (.slice (some ⟨wr.heap.size, 0, none⟩) 4 cap) wc := hcv
      have HN := Lib.hid (SNumb.number wr.heap.size 0 cap x0 x1 x2 x3 wc (hcc 0 (by simp)) (hcc 1 (by simp)) (hcc 2 (by simp)) (hcc 3 (by simp)))
      have hlw : w.heap.size < wr.heap.size := by
        have := (Array.getElem?_eq_some_iff.1 hB1.out).1
        exact this
      have HB2 : Hid (wc.heap[w.heap.size]? = some (.cells (wRow (srow s j)) 49 (0, 0))) := (hcb.block _ hlw).trans hB1.out
      have hv2 := blk_cell HB2.out (wRow_at _ j (by rw [srow_len _ _ hj]; exact hlt))
      have hfz2 := blk_free (i := j) HB2.out
      have HBB := Lib.hid (hbel.trans (hcb.mono (by omega)))
      have HX := Lib.hid (srow_next s j hlt)
      clear hcc hcb hcs hv hfz hlw
      go_wp2_with (go_at_call 30; refine HN.out.mono ?_; rintro e w' ⟨rfl, nd, rfl⟩)
      rw [HQ.out]
      go_roundw
      case rel =>
        refine ⟨j + 1, by omega, by go_num, ?_, ?_⟩
        · rw [blk_set (w := wc.drewN nd) HB2.out, wRow_set, HX.out]
        · exact (HBB.out.trans (below_drewN wc nd)).setCell (Nat.le_refl _) _
      case measure => simp [intOf]; omega
    · have hk : j = 8 := by omega
      subst hk
      have hss : wRow (srow s 8) = stRow (stOf s) := rfl
      rw [hss] at hb1
      have HR2 := Lib.hid (HR.out.step hbel)
      have HB1 := Lib.hid hb1
      have HBL := Lib.hid hbel
      clear hb1 hbel
      go_wp2
      have hlw : w.heap.size < wr.heap.size := (Array.getElem?_eq_some_iff.1 HB1.out).1
      obtain ⟨cap, wc, hcv, hcc, hcb, hcs⟩ := conv_new (P := Tryd.prog) wr.drew (src := 9) (dst := 38) b Tryd.underlying9 Tryd.underlying38 Tryd.underlying5
      rw [HB.out] at hcv hcc
      replace hcv : (convert 9 38 (.string ⟨b.toArray⟩)).run Tryd.prog wr.drew = .ok (.slice (some ⟨wr.heap.size, 0, none⟩) 64 cap) wc := hcv
      have hrg : wc.rangeAt wr.heap.size 0 (bytesRow b).toList := by
        intro k v hv
        have hk : k < 64 := by
          have := (List.getElem?_eq_some_iff.1 hv).1
          simpa [bytesRow_size, HB.out] using this
        have hv2 : (bytesRow b)[k]? = some v := by simpa using hv
        rw [byte_at b k (by rw [HB.out]; exact hk)] at hv2
        rw [Nat.zero_add, ← hv2]
        exact hcc k hk
      have HBC : Hid (Below wr.heap.size wr wc) := ⟨hcb.os, hcb.tape, hcb.output, hcb.size, hcb.block⟩
      have HTB := Lib.hid (fun W hr => turn (stOf s) (stOf_ok s) b HB.out W hr)
      have HRC := Lib.hid (HR2.out.step HBC.out)
      have HI51 := Lib.hid (show (Tryd.prog.info? 51).map (·.size) = some (bytesRow b).toList.length by
        rw [Array.length_toList, bytesRow_size, HB.out]; exact info51)
      have lp := fun (W : World) => run_arrayAt (P := Tryd.prog) (w := W) 51 5 64 (some ⟨wr.heap.size, 0, none⟩) 64 cap Tryd.underlying51 (Nat.le_refl _)
      have HLW := Lib.hid hlw
      have hS : ∀ (W : World), W.heap[w.heap.size]? = some (.cells (stRow (stOf s)) 49 (0, 0)) → W.rangeAt w.heap.size 0 (stRow (stOf s)).toList := by
        intro W h k v hv
        rw [Nat.zero_add, cell_of_row W w.heap.size k _ _ _ h]
        simpa using hv
      have hS0 := hS wr HB1.out
      have hS1 := hS wc ((HBC.out.block _ hlw).trans HB1.out)
      have hlc : w.heap.size < wc.heap.size := Nat.lt_of_lt_of_le hlw HBC.out.size
      have HS2 := Lib.hid (fun (w1 : World) (h : Below wc.heap.size wc w1) => hS w1 ((h.block _ hlc).trans ((HBC.out.block _ hlw).trans HB1.out)))
      have HRG := Lib.hid hrg
      have HLC := Lib.hid hlc
      clear hcc hcb hcs hlw hS hrg hlc
      refine wp_region_held_drew (S := fun W => W.rangeAt w.heap.size 0 (stRow (stOf s)).toList) (by kernel_rfl) hS0 (fun hH => ?_)
      refine wpAnyH_take (i := 0) (v := .agg (stRow (stOf s))) rfl (by kernel_rfl) (by kernel_rfl) (by kernel_rfl) (fun _ _ _ h => h) (yieldsIf_load_mid (by rfl) 49 _ rfl w.heap.size 0 rfl (stRow (stOf s)).toList _ (fun _ h => h) Tryd.underlying49 rfl (by exact info49)) hH ?_
      try simp only [Act.put, List.setIfInBounds_toArray, List.set_cons_zero, List.set_cons_succ]
      refine wpAnyH_take (i := 1) (v := .string ⟨b.toArray⟩) rfl (by kernel_rfl) (by kernel_rfl) (by kernel_rfl) (fun _ _ _ h => h) (Or.inl ⟨by rfl, by intro W _; rfl⟩) hH ?_
      try simp only [Act.put, List.setIfInBounds_toArray, List.set_cons_zero, List.set_cons_succ]
      refine wpAnyH_ready (rs := [2]) (by kernel_rfl) (by simp) (AllReadyH.cons rfl (fun K hK => ?_) AllReadyH.nil)
      go_simp
      refine hK.out _ _ hS1 (fun _ => ?_)
      clear hK K
      try simp only [Act.put, List.setIfInBounds_toArray, List.set_cons_zero, List.set_cons_succ]
      refine wpAnyH_ready (rs := [3]) (by kernel_rfl) (by simp) (AllReadyH.cons rfl (fun K hK => ?_) AllReadyH.nil)
      go_simp
      refine hK.out _ _ hS1 (fun _ => ?_)
      clear hK K
      try simp only [Act.put, List.setIfInBounds_toArray, List.set_cons_zero, List.set_cons_succ]
      refine wpAnyH_ready (rs := [4]) (by kernel_rfl) (by simp) (AllReadyH.cons rfl (fun K hK => ?_) AllReadyH.nil)
      rw [if_pos (by rfl)]
      refine wp_load_mid 51 _ rfl wr.heap.size 0 rfl (bytesRow b).toList _ HRG.out Tryd.underlying51 rfl HI51.out ?_
      refine hK.out _ _ hS1 (fun _ => ?_)
      clear hK K
      try simp only [Act.put, List.setIfInBounds_toArray, List.set_cons_zero, List.set_cons_succ]
      refine wpAnyH_ready (rs := [5]) (by kernel_rfl) (by simp) (AllReadyH.cons rfl (fun K hK => ?_) AllReadyH.nil)
      go_simp
      refine (HTB.out wc HRC.out).mono ?_
      rintro e w1 ⟨rfl, hb1⟩
      refine hK.out _ _ (HS2.out w1 hb1) (fun _ => ?_)
      clear hK K
      try simp only [Act.put, List.setIfInBounds_toArray, List.set_cons_zero, List.set_cons_succ]
      refine wpAnyH_ready (rs := [6]) (by kernel_rfl) (by simp) (AllReadyH.cons rfl (fun K hK => ?_) AllReadyH.nil)
      go_simp
      refine (SByt.bytes (turnSt (stOf s) b) (turn_ok _ _) w1).mono ?_
      rintro e w2 ⟨rfl, hb2⟩
      have hb3 : Below wc.heap.size wc w2 := hb1.trans (hb2.mono hb1.size)
      have hS3 := HS2.out w2 hb3
      refine hK.out _ _ hS3 (fun _ => ?_)
      clear hK K
      try simp only [Act.put, List.setIfInBounds_toArray, List.set_cons_zero, List.set_cons_succ]
      refine wpAnyH_ready (rs := [7]) (by kernel_rfl) (by simp) (AllReadyH.cons rfl (fun K hK => ?_) AllReadyH.nil)
      go_simp
      refine hK.out _ _ hS3 (fun _ => ?_)
      clear hK K
      try simp only [Act.put, List.setIfInBounds_toArray, List.set_cons_zero, List.set_cons_succ]
      refine wpAnyH_ready (rs := [8]) (by kernel_rfl) (by simp) (AllReadyH.cons rfl (fun K hK => ?_) AllReadyH.nil)
      go_simp
      refine hK.out _ _ hS3 (fun _ => ?_)
      clear hK K
      try simp only [Act.put, List.setIfInBounds_toArray, List.set_cons_zero, List.set_cons_succ]
      refine wpAnyH_done (by kernel_rfl) ?_ _
      have hfin : Below w.heap.size w w2 := (HBL.out.trans (HBC.out.mono (by have := HLW.out; omega))).trans (hb3.mono (by have := HLC.out; omega))
      clear hb1 hb2 hb3 hS0 hS1 hS3 hcv lp hH
      go_wp2
      go_ret2
      exact ⟨rfl, hfin⟩
/-- THE CONTRACT of sha.Step, at any two texts. -/
theorem any (s b : ByteArray) (w : World) (hr : Rds w) :
    Calls Tryd.prog 12 #[.string s, .string b] w fun e w' => e = .returned (.tuple #[.string ⟨(step s.data.toList b.data.toList).1.toArray⟩, .int .i64 (step s.data.toList b.data.toList).2]) ∧ Below w.heap.size w w' := by
  obtain ⟨l, rfl⟩ : ∃ l : List UInt8, s = ⟨l.toArray⟩ := ⟨s.data.toList, rfl⟩
  obtain ⟨m, rfl⟩ : ∃ l : List UInt8, b = ⟨l.toArray⟩ := ⟨b.data.toList, rfl⟩
  rw [show ((⟨l.toArray⟩ : ByteArray)).data.toList = l from rfl, show ((⟨m.toArray⟩ : ByteArray)).data.toList = m from rfl]
  by_cases h1 : l.length = 32
  · by_cases h2 : m.length = 64
    · rw [step, if_pos ⟨h1, h2⟩]
      exact good l m w h1 h2 hr
    · rw [step, if_neg (fun h => h2 h.2)]
      exact (noB _ _ w (by rw [bne_eq_false_iff_eq]; show ((l.length : Nat) : Int) = 32; omega) (by rw [bne_iff_ne]; show ((m.length : Nat) : Int) ≠ 64; omega)).mono fun _ _ ⟨h1, h2⟩ => ⟨h1, h2 ▸ Below.refl _ _⟩
  · rw [step, if_neg (fun h => h1 h.1)]
    exact (noS _ _ w (by rw [bne_iff_ne]; show ((l.length : Nat) : Int) ≠ 32; omega)).mono fun _ _ ⟨h1, h2⟩ => ⟨h1, h2 ▸ Below.refl _ _⟩
end Go.Proofs.YtkaeeedjkegdlaaDoor.SStep
