/- JournalNil's walk: a journal that is none, or that no call made; no disk. No condition but the program's variables. -/
import Derived.Test.YtoilcieineejiaaGreatDoorLJov
namespace Go.Proofs.YtoilcieineejiaaGreatDoor.JouNl
set_option linter.unusedVariables false
open Go.RowKit Go.Shelf
open DkN DkM JouN JouP JouQ JouR JouS JouT JouC JouW JouU JouG JouA JouAl
open SupP (Gl)
set_option maxRecDepth 100000 in
set_option maxHeartbeats 4000000 in
theorem nil (s : ByteArray) (n : Int) (there : Bool) (w : World) (hr : Gl w) :
    Calls Tryz.prog 5 #[.string s, .int .i64 n, .bool there] w fun e w' => e = .returned (.bool true) ∧ Below w.heap.size w w' := by
  have HAl := Lib.hid (fun (W : World) (h : Below w.heap.size w W) => alive W (hr.step h))
  by_cases h : 10000 < s.size
  · have h' : (10000 : Int) < (s.size : Int) := by omega
    clear hr
    go_enter Tryz.func5, Tryz.ntmps5
    go_wp2_with (go_at_call 7; refine (HAl.out _ (Below.refl _ _)).mono ?_; rintro e w2 ⟨rfl, hb2⟩; have B2 := Lib.hid hb2; clear hb2)
    go_ret
    exact ⟨rfl, B2.out⟩
  · have h' : ¬ (10000 : Int) < (s.size : Int) := by omega
    have HOp := Lib.hid (fun (W : World) => JouV.Open_un none W (.inl rfl))
    have HFo := Lib.hid (fun (W : World) (h : Below w.heap.size w W) => JouV.Format_un none W (.inl rfl) 8 1 0 (by decide) key0 key0_len (hr.step h))
    rw [show key0.toArray = #[48, 49, 50, 51, 52, 53, 54, 55, 56, 57, 97, 98, 99, 100, 101, 102, 48, 49, 50, 51, 52, 53, 54, 55, 56, 57, 97, 98, 99, 100, 101, 102] from rfl] at HFo
    clear hr
    cases there
    · go_enter Tryz.func5, Tryz.ntmps5
      go_upto_region 6 with (fail)
      have HJ : Hid (∀ W, Below w.heap.size w W → NonJ W none) := Lib.hid (fun W _ => .inl rfl)
      have B1 : Hid (Below w.heap.size w w) := Lib.hid (Below.refl _ _)
      go_upto_region 7 with (go_at_call 24; refine (JouH.Append_none none _ (HJ.out _ (Below.refl _ _)) _).mono ?_; rintro e _ ⟨rfl, rfl⟩)
      go_upto_region 8 with (go_at_call 21; refine (JouH.Close_none none _ (HJ.out _ (Below.refl _ _)) _ _ _).mono ?_; rintro e _ ⟨rfl, rfl⟩)
      go_upto_region 9 with (go_at_call 25; refine (JouH.Read_none none _ (HJ.out _ (Below.refl _ _)) _).mono ?_; rintro e _ ⟨rfl, rfl⟩)
      go_upto_region 10 with (go_at_call 10; refine (HOp.out _).mono ?_; rintro e w2 ⟨rfl, hb2⟩; have C2 := Lib.hid hb2; clear hb2)
      go_wp2_with (first
        | (go_at_call 26; refine (JouH.Commit_none none _ (HJ.out _ C2.out) _).mono ?_; rintro e _ ⟨rfl, rfl⟩)
        | (go_at_call 27; refine (JouH.Over_none none _ (HJ.out _ C2.out) _ _).mono ?_; rintro e _ ⟨rfl, rfl⟩)
        | (go_at_call 28; refine (JouH.Flush_none none _ (HJ.out _ C2.out)).mono ?_; rintro e _ ⟨rfl, rfl⟩)
        | (go_at_call 19; refine (JouH.Super_none none _ (HJ.out _ C2.out)).mono ?_; rintro e w3 ⟨rfl, hb3⟩; have C3 := Lib.hid (C2.out.trans (hb3.mono C2.out.size)); clear hb3)
        | (go_at_call 29; refine (JouH.Used_none none _ (HJ.out _ C3.out)).mono ?_; rintro e _ ⟨rfl, rfl⟩)
        | (go_at_call 30; refine (JouH.Room_none none _ (HJ.out _ C3.out)).mono ?_; rintro e _ ⟨rfl, rfl⟩)
        | (go_at_call 9; refine (HFo.out _ (B1.out.trans (C3.out.mono B1.out.size))).mono ?_; rintro e w4 ⟨rfl, hb4⟩; have C4 := Lib.hid (C3.out.trans (hb4.mono C3.out.size)); clear hb4)
        | (go_at_call 7; refine (HAl.out _ (B1.out.trans (C4.out.mono B1.out.size))).mono ?_; rintro e w5 ⟨rfl, hb5⟩; have C5 := Lib.hid (C4.out.trans (hb5.mono C4.out.size)); clear hb5))
      go_ret
      exact ⟨rfl, B1.out.trans (C5.out.mono B1.out.size)⟩
    · go_enter Tryz.func5, Tryz.ntmps5
      go_upto_region 6 with (fail)
      obtain ⟨W1, hW1⟩ : ∃ W1, W1 = w.alloc (.cells #[.pointer none] 64) := ⟨_, rfl⟩
      rw [← hW1]
      have B1 : Hid (Below w.heap.size w W1) := Lib.hid (by rw [hW1]; exact below_new _ _)
      have X1 : Hid (W1.heap[w.heap.size]? = some (.cells #[.pointer none] 64 (0, 0))) := Lib.hid (by rw [hW1]; exact heap_alloc_new _ _)
      have HJ : Hid (∀ W, Below W1.heap.size W1 W → NonJ W (some ⟨w.heap.size, 0, none⟩)) := Lib.hid (fun W hb => .inr ⟨_, rfl, blk_cell ((hb.block _ (lt_of_some X1.out)).trans X1.out) rfl⟩)
      clear hW1
      go_upto_region 7 with (go_at_call 24; refine (JouH.Append_none (some ⟨w.heap.size, 0, none⟩) _ (HJ.out _ (Below.refl _ _)) _).mono ?_; rintro e _ ⟨rfl, rfl⟩)
      go_upto_region 8 with (go_at_call 21; refine (JouH.Close_none (some ⟨w.heap.size, 0, none⟩) _ (HJ.out _ (Below.refl _ _)) _ _ _).mono ?_; rintro e _ ⟨rfl, rfl⟩)
      go_upto_region 9 with (go_at_call 25; refine (JouH.Read_none (some ⟨w.heap.size, 0, none⟩) _ (HJ.out _ (Below.refl _ _)) _).mono ?_; rintro e _ ⟨rfl, rfl⟩)
      go_upto_region 10 with (go_at_call 10; refine (HOp.out _).mono ?_; rintro e w2 ⟨rfl, hb2⟩; have C2 := Lib.hid hb2; clear hb2)
      go_wp2_with (first
        | (go_at_call 26; refine (JouH.Commit_none (some ⟨w.heap.size, 0, none⟩) _ (HJ.out _ C2.out) _).mono ?_; rintro e _ ⟨rfl, rfl⟩)
        | (go_at_call 27; refine (JouH.Over_none (some ⟨w.heap.size, 0, none⟩) _ (HJ.out _ C2.out) _ _).mono ?_; rintro e _ ⟨rfl, rfl⟩)
        | (go_at_call 28; refine (JouH.Flush_none (some ⟨w.heap.size, 0, none⟩) _ (HJ.out _ C2.out)).mono ?_; rintro e _ ⟨rfl, rfl⟩)
        | (go_at_call 19; refine (JouH.Super_none (some ⟨w.heap.size, 0, none⟩) _ (HJ.out _ C2.out)).mono ?_; rintro e w3 ⟨rfl, hb3⟩; have C3 := Lib.hid (C2.out.trans (hb3.mono C2.out.size)); clear hb3)
        | (go_at_call 29; refine (JouH.Used_none (some ⟨w.heap.size, 0, none⟩) _ (HJ.out _ C3.out)).mono ?_; rintro e _ ⟨rfl, rfl⟩)
        | (go_at_call 30; refine (JouH.Room_none (some ⟨w.heap.size, 0, none⟩) _ (HJ.out _ C3.out)).mono ?_; rintro e _ ⟨rfl, rfl⟩)
        | (go_at_call 9; refine (HFo.out _ (B1.out.trans (C3.out.mono B1.out.size))).mono ?_; rintro e w4 ⟨rfl, hb4⟩; have C4 := Lib.hid (C3.out.trans (hb4.mono C3.out.size)); clear hb4)
        | (go_at_call 7; refine (HAl.out _ (B1.out.trans (C4.out.mono B1.out.size))).mono ?_; rintro e w5 ⟨rfl, hb5⟩; have C5 := Lib.hid (C4.out.trans (hb5.mono C4.out.size)); clear hb5))
      go_ret
      exact ⟨rfl, B1.out.trans (C5.out.mono B1.out.size)⟩
end Go.Proofs.YtoilcieineejiaaGreatDoor.JouNl
