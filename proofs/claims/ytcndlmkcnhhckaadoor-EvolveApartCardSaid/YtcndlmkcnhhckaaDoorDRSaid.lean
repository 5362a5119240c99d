/- What keepsakeref04.Said answers: the walks of its text. -/
import Derived.Test.YtcndlmkcnhhckaaDoorDrv
import Derived.Test.YtcndlmkcnhhckaaDoorRText
import Derived.Test.YtcndlmkcnhhckaaDoorSlice
import Derived.Deep.RegionHeld3
import Derived.Deep.DeepCutAuto
namespace Go.Proofs.YtcndlmkcnhhckaaDoor.DRSaid
open Go.RowKit
theorem bad (l : List UInt8) (a : Option Addr) (n cap : Nat) (w : World) (h : (l.length : Int) < 1 ∨ (16 : Int) < (l.length : Int) ∨ (8 : Int) < (n : Int)) :
    Calls Tryd.prog 18 #[.string ⟨l.toArray⟩, .slice a n cap] w fun e w' => e = .returned (.tuple #[.string ⟨#[]⟩, .int .i64 2]) ∧ w = w' := by
  by_cases h0 : (l.length : Int) < 1
  · clear h
    go_enter Tryd.func18, Tryd.ntmps18
    go_wp2_with fail
    go_ret2
    exact ⟨rfl, rfl⟩
  by_cases h1 : (16 : Int) < (l.length : Int)
  · clear h
    go_enter Tryd.func18, Tryd.ntmps18
    go_wp2_with fail
    go_ret2
    exact ⟨rfl, rfl⟩
  · have h2 : (8 : Int) < (n : Int) := by omega
    clear h
    go_enter Tryd.func18, Tryd.ntmps18
    go_wp2_with fail
    go_ret2
    exact ⟨rfl, rfl⟩
theorem wrap8 (n : Nat) : IntKind.u8.wrap (n : Int) = (n : Int) % 256 := by simp [IntKind.wrap, IntKind.bits, IntKind.signed]
/-- The byte that was laid is read as a text, also behind a call that leaves it alone. -/
theorem conv_new (n : Nat) (W : World) : (convert 47 9 (.slice (some ⟨W.heap.size, 0, none⟩) 1 1)).run Tryd.prog (W.alloc (.cells #[.int .u8 (IntKind.u8.wrap (n : Int))] 5)) = .ok (.string ⟨[UInt8.ofNat n].toArray⟩) (W.alloc (.cells #[.int .u8 (IntKind.u8.wrap (n : Int))] 5)) :=
  conv_row Tryd.underlying47 Tryd.underlying5 Tryd.underlying9 (by rw [heap_alloc_new, wrap8, one_byte]) rfl
theorem conv_drew (n : Nat) (W : World) : (convert 47 9 (.slice (some ⟨W.heap.size, 0, none⟩) 1 1)).run Tryd.prog (W.alloc (.cells #[.int .u8 (IntKind.u8.wrap (n : Int))] 5)).drew = .ok (.string ⟨[UInt8.ofNat n].toArray⟩) (W.alloc (.cells #[.int .u8 (IntKind.u8.wrap (n : Int))] 5)).drew := by
  have h : (W.alloc (.cells #[.int .u8 (IntKind.u8.wrap (n : Int))] 5)).drew.heap[W.heap.size]? = _ := heap_alloc_new W _
  exact conv_row Tryd.underlying47 Tryd.underlying5 Tryd.underlying9 (by rw [h, wrap8, one_byte]) rfl
theorem conv_later (n : Nat) (W w1 : World) (hb : Below (W.alloc (.cells #[.int .u8 (IntKind.u8.wrap (n : Int))] 5)).drew.heap.size (W.alloc (.cells #[.int .u8 (IntKind.u8.wrap (n : Int))] 5)).drew w1) :
    (convert 47 9 (.slice (some ⟨W.heap.size, 0, none⟩) 1 1)).run Tryd.prog w1 = .ok (.string ⟨[UInt8.ofNat n].toArray⟩) w1 := by
  have h := (hb.block W.heap.size (by show W.heap.size < (W.alloc _).heap.size; simp)).trans (heap_alloc_new W _)
  exact conv_row Tryd.underlying47 Tryd.underlying5 Tryd.underlying9 (by rw [h, wrap8, one_byte]) rfl
theorem belowA {w w1 : World} (o : Obj) (hb : Below w.drew.heap.size w.drew w1) : Below w.heap.size w (w1.alloc o) :=
  ((Below.refl w.heap.size w).drew.trans hb).alloc hb.size o
theorem belowB {w w1 : World} (o : Obj) (hb : Below (w.alloc o).drew.heap.size (w.alloc o).drew w1) : Below w.heap.size w w1 :=
  ((Below.refl w.heap.size w).alloc (Nat.le_refl _) o).drew.trans (hb.mono (by show w.heap.size ≤ (w.alloc o).heap.size; simp))
theorem step_nums (c : List Int) (j : Nat) (h : j < c.length) : nums8 (c.take (j + 1)) = nums8 (c.take j) ++ be 8 (c.getD j 0).toNat := by
  rw [List.take_succ_eq_append_getElem h, nums8_append]
  simp [nums8, List.getD, h]
set_option maxRecDepth 100000 in
set_option maxHeartbeats 1000000 in
theorem good (l : List UInt8) (a : Option Addr) (n cap : Nat) (c : List Int) (w : World) (h : Row w w.heap.size a n c) (hi : ∀ x ∈ c, x ≤ 9223372036854775807)
    (h0 : ¬ (l.length : Int) < 1) (h1 : ¬ (16 : Int) < (l.length : Int)) (h2 : ¬ (8 : Int) < (n : Int)) :
    Calls Tryd.prog 18 #[.string ⟨l.toArray⟩, .slice a n cap] w fun e w' => e = .returned (.tuple #[.string ⟨(said l c).1.toArray⟩, .int .i64 (said l c).2]) ∧ Below w.heap.size w w' := by
  have hcl : c.length = n := h.1
  have HSD : Hid ((∀ x ∈ c, (0 : Int) ≤ x) → said l c = ((be 4 l.length ++ (l ++ [UInt8.ofNat n])) ++ nums8 c, 0)) := by
    show _ → _
    intro hc
    rw [said_good ⟨by omega, by omega, by omega, hc⟩, saidOf, hcl]
    simp
  have HSB : Hid ((¬ ∀ x ∈ c, (0 : Int) ≤ x) → said l c = ([], 2)) := by
    show _ → _
    exact fun hc => said_bad fun hh => hc hh.2.2.2
  have HE : Hid ((text ⟨l.toArray⟩ ++ ⟨[UInt8.ofNat n].toArray⟩ : ByteArray) = ⟨(be 4 l.length ++ (l ++ [UInt8.ofNat n])).toArray⟩) := by
    show _ = _
    rw [text, ByteArray.mk_append_mk, ByteArray.mk_append_mk, List.append_assoc]
    rfl
  have HTx := Lib.hid (fun W => RText.any ⟨l.toArray⟩ W (by show l.length < _; omega))
  have htl : (text ⟨l.toArray⟩).size ≤ 20 := by
    rw [text, ByteArray.size_append]
    show (be 4 l.length).length + l.length ≤ 20
    rw [be_length]; omega
  have hhl : (be 4 l.length ++ (l ++ [UInt8.ofNat n])).length ≤ 21 := by simp [be_length]; omega
  generalize text ⟨l.toArray⟩ = tx at *
  generalize be 4 l.length ++ (l ++ [UInt8.ofNat n]) = hd at *
  have HH := Lib.hid h
  have HI := Lib.hid hi
  have HCL := Lib.hid hcl
  have HCV := fun W => conv_new n W
  have HCV2 := fun W => conv_drew n W
  clear h hi hcl
  go_enter Tryd.func18, Tryd.ntmps18
  go_upto_region 3 with fail
  go_cut [6] (fun s6 wx => s6 = .string ⟨hd.toArray⟩ ∧ Below w.heap.size w wx)
  case first =>
    go_region_with ((go_at_call 25; refine (HTx.out _).mono ?_; rintro e w1 ⟨rfl, hb1⟩; (try have hcv1 := conv_later n _ _ hb1)))
    all_goals (go_wp2_with fail; go_meet; first | exact ⟨congrArg Value.string HE.out, belowA _ hb1⟩ | exact ⟨congrArg Value.string HE.out, belowB _ hb1⟩)
  case rest =>
    obtain ⟨rfl, hbel0⟩ := hcut
    clear HCV HCV2 HTx HE
    have HB0 := Lib.hid hbel0
    clear hbel0
    go_wp2_with fail
    go_loopw [6, 7] (fun s i wr => ∃ j : Nat, j ≤ n ∧ i = .int .i64 j ∧ s = .string ⟨(hd ++ nums8 (c.take j)).toArray⟩ ∧ (∀ x ∈ c.take j, (0 : Int) ≤ x) ∧ Below w.heap.size w wr) (fun _ i _ => n - (intOf i).toNat)
    case atStart => exact ⟨0, Nat.zero_le _, rfl, by simp [nums8], (fun x hx => by simp at hx), HB0.out⟩
    case round =>
      obtain ⟨j, hj, rfl, rfl, hpos, hbel⟩ := hrel
      have HB := Lib.hid hbel
      have HPO := Lib.hid hpos
      clear hbel hpos HB0
      by_cases hlt : j < n
      · have hjc : j < c.length := by rw [HCL.out]; exact hlt
        obtain ⟨b, off, rfl, hq, hcc⟩ := (HH.out.below HB.out).2 (by omega)
        have hcj := hcc j hlt
        have hx := HI.out _ (List.getElem_mem hjc)
        have hgd : c.getD j 0 = c[j]'hjc := by simp [List.getD, hjc]
        have hin : c.getD j 0 ∈ c := by rw [hgd]; exact List.getElem_mem hjc
        rw [← hgd] at hx
        have hnl : (nums8 (c.take j)).length ≤ 64 := by rw [nums8_length, List.length_take]; omega
        have HSN := Lib.hid (step_nums c j hjc)
        have HNX : Hid ((0 : Int) ≤ c.getD j 0 → ∀ x ∈ c.take (j + 1), (0 : Int) ≤ x) := by
          show _ → _
          intro h0 x hx
          rw [List.take_succ_eq_append_getElem hjc, List.mem_append, List.mem_singleton] at hx
          rcases hx with hx | hx
          · exact HPO.out x hx
          · rw [hx, ← hgd]; exact h0
        have HP := Lib.hid (fun W => RPut.any (c.getD j 0) 8 W hx)
        rw [put8 _ hx] at HP
        have HIN := Lib.hid hin
        have hbl := be_length 8 (c.getD j 0).toNat
        have hbl2 : (be 8 (c.getD j 0).toNat).length ≤ 8 := by omega
        clear hjc hcc hgd hin hbl
        generalize nums8 (c.take j) = y at *
        by_cases h00 : (0 : Int) ≤ c.getD j 0
        · rw [if_pos h00] at HP
          have H00 := Lib.hid (HNX.out h00)
          clear h00 hx HNX HIN
          generalize be 8 (c.getD j 0).toNat = z at *
          generalize c.getD j 0 = x at *
          go_wp2_with (go_at_call 26; refine (HP.out _).mono ?_; rintro e w1 ⟨rfl, hb1⟩; have HB1 := Lib.hid (HB.out.trans (hb1.mono HB.out.size)); clear hb1)
          go_roundw
          case rel => exact ⟨j + 1, by omega, by go_num, by rw [HSN.out, ByteArray.mk_append_mk, List.append_assoc], H00.out, HB1.out⟩
          case measure => simp [intOf]; omega
        · rw [if_neg h00] at HP
          have HBAD := Lib.hid (HSB.out fun hall => h00 (hall _ HIN.out))
          clear h00 hx HNX HIN
          generalize be 8 (c.getD j 0).toNat = z at *
          generalize c.getD j 0 = x at *
          go_wp2_with (go_at_call 26; refine (HP.out _).mono ?_; rintro e w1 ⟨rfl, hb1⟩; have HB1 := Lib.hid (HB.out.trans (hb1.mono HB.out.size)); clear hb1)
          go_ret2
          exact ⟨by rw [HBAD.out]; rfl, HB1.out⟩
      · obtain rfl : j = n := by omega
        have ht : c.take j = c := List.take_of_length_le (by rw [HCL.out]; exact Nat.le_refl _)
        rw [ht] at HPO ⊢
        have HG := Lib.hid (HSD.out HPO.out)
        clear ht HPO
        go_wp2_with fail
        go_ret2
        exact ⟨by rw [HG.out]; rfl, HB.out⟩
/-- THE CONTRACT of keepsakeref04.Said. -/
theorem any (l : List UInt8) (a : Option Addr) (n cap : Nat) (c : List Int) (w : World) (h : Row w w.heap.size a n c) (hi : ∀ x ∈ c, x ≤ 9223372036854775807) :
    Calls Tryd.prog 18 #[.string ⟨l.toArray⟩, .slice a n cap] w fun e w' => e = .returned (.tuple #[.string ⟨(said l c).1.toArray⟩, .int .i64 (said l c).2]) ∧ Below w.heap.size w w' := by
  by_cases hb : (l.length : Int) < 1 ∨ (16 : Int) < (l.length : Int) ∨ (8 : Int) < (n : Int)
  · rw [said_bad (by
      rintro ⟨h1, h2, h3, _⟩
      have := h.1
      omega)]
    exact (bad l a n cap w hb).mono fun e w' ⟨h1, h2⟩ => ⟨h1, h2 ▸ Below.refl _ _⟩
  · exact good l a n cap c w h hi (fun hh => hb (.inl hh)) (fun hh => hb (.inr (.inl hh))) (fun hh => hb (.inr (.inr hh)))
end Go.Proofs.YtcndlmkcnhhckaaDoor.DRSaid
