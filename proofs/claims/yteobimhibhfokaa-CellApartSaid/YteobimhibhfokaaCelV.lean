/- cell.Held, cell.Kind: the walks of their texts. No conditions but those that each lemma names. -/
import Derived.Test.YteobimhibhfokaaCelT
namespace Go.Proofs.Yteobimhibhfokaa.CelV
open Go.RowKit
open CelN CelC CelD CelP CelT
theorem tail1 (s : List UInt8) (h : s.length = 4096) : ∀ W, (Instr.slice 9 (.string ⟨s.toArray⟩) (some (.int .i64 1)) none none).run Try.prog W = .ok (.string ⟨(s.drop 1).toArray⟩) W := by
  have s1 := fun W => run_slice_string_l (P := Try.prog) (w := W) 9 ⟨s.toArray⟩ Try.underlying9 .i64 1 (by omega) (show (1 : Int) ≤ ((s.length : Nat) : Int) by omega)
  rw [show (⟨s.toArray⟩ : ByteArray).extract (1 : Int).toNat (⟨s.toArray⟩ : ByteArray).size = ⟨(s.drop 1).toArray⟩ from by
    rw [ext_at, size_mk, show (1 : Int).toNat = 1 from rfl, List.take_of_length_le (by simp)]] at s1
  exact s1
set_option maxRecDepth 100000 in
theorem Held_any (s a b p : List UInt8) (c d : Int) (w : World) (h : s.length = 4096) (hc : cut (s.drop 1) = (a, b, c)) (hp : hold a = (p, d)) (out : Array Value)
    (ho : (c = 3 ∧ out = #[.string ⟨#[]⟩, .int .i64 3]) ∨ (c = 0 ∧ (p == s) = false ∧ out = #[.string ⟨#[]⟩, .int .i64 3]) ∨ (c = 0 ∧ p = s ∧ out = #[.string ⟨a.toArray⟩, .int .i64 0])) :
    Calls Try.prog 16 #[.string ⟨s.toArray⟩] w fun r w' => r = .returned (.tuple out) ∧ Below w.heap.size w w' := by
  have hz := size_mk s
  have s1 := tail1 s h
  have HC := Lib.hid (fun W => cutted (s.drop 1) a b c hc (by simp [maxLen]; omega) W)
  have HH := Lib.hid (fun W => Hold a W)
  rw [hp] at HH
  clear hp hc
  generalize s.drop 1 = q at *
  go_enter Try.func16, Try.ntmps16
  go_upto_region 4 with (go_at_call 34; refine (HC.out _).mono ?_; rintro r w4 ⟨rfl, hb⟩; have B4 := Lib.hid hb; clear hb)
  rcases ho with ⟨rfl, rfl⟩ | ⟨rfl, hn, rfl⟩ | ⟨rfl, rfl, rfl⟩
  · go_wp2_with fail
    go_ret2
    exact ⟨rfl, B4.out⟩
  · go_wp2_with (go_at_call 10; refine (HH.out _).mono ?_; rintro r w5 ⟨rfl, hb⟩; have B5 := Lib.hid (B4.out.trans (hb.mono B4.out.size)); clear hb)
    go_ret2
    exact ⟨rfl, B5.out⟩
  · go_wp2_with (go_at_call 10; refine (HH.out _).mono ?_; rintro r w5 ⟨rfl, hb⟩; have B5 := Lib.hid (B4.out.trans (hb.mono B4.out.size)); clear hb)
    go_ret2
    exact ⟨rfl, B5.out⟩
theorem Held_len (s : List UInt8) (w : World) (h : (((s.length : Nat) : Int) == 4096) = false) :
    Calls Try.prog 16 #[.string ⟨s.toArray⟩] w fun r w' => r = .returned (.tuple #[.string ⟨#[]⟩, .int .i64 3]) ∧ w = w' := by
  have hz := size_mk s
  go_enter Try.func16, Try.ntmps16
  go_wp2
  go_ret2
  exact ⟨rfl, rfl⟩
/-- What cell.Held answers. -/
theorem Held (s : List UInt8) (w : World) :
    Calls Try.prog 16 #[.string ⟨s.toArray⟩] w fun r w' => r = .returned (.tuple #[.string ⟨(held s).1.toArray⟩, .int .i64 (held s).2]) ∧ Below w.heap.size w w' := by
  by_cases h : s.length = 4096
  · by_cases hr : hread s
    · have hc : cut (s.drop 1) = (ht s, (cut (s.drop 1)).2.1, 0) := by rw [← hr.2]; rfl
      by_cases hg : hgood s
      · rw [held_yes hg]
        exact Held_any s _ _ s 0 0 w h hc (hold_held hg) _ (.inr (.inr ⟨rfl, rfl, rfl⟩))
      · rw [held_no hg]
        have hne : ¬ (hold (ht s)).1 = s := fun hh => hg ((again_held hr).1 hh)
        exact Held_any s _ _ _ 0 _ w h hc rfl _ (.inr (.inl ⟨rfl, beq_eq_false_iff_ne.2 hne, rfl⟩))
    · rw [held_no (fun hg => hr hg.1)]
      exact Held_any s [] [] _ 3 _ w h (cut_no (fun hh => hr ⟨h, hh⟩)) rfl _ (.inl ⟨rfl, rfl⟩)
  · rw [held_no (fun hg => h hg.1.1)]
    exact (Held_len s w (by rw [beq_eq_false_iff_ne]; omega)).mono fun r w' ⟨h1, h2⟩ => ⟨h1, h2 ▸ Below.refl _ _⟩
/-- What strings.Repeat answers of noughts. -/
theorem noughts (w : World) :
    Calls Try.prog 35 #[.string ⟨#[0]⟩, .int .i64 4096] w fun r w' => r = .returned (.string ⟨empty.toArray⟩) ∧ Below w.heap.size w w' := OFill.repeated 4096 w (by omega)
set_option maxRecDepth 100000 in
theorem Kind_cell (s : List UInt8) (ep sl lb : Int) (gn : Bool) (ci : List UInt8) (hs : take s = (⟨ep, sl, lb, gn, ci⟩, 0)) (w : World) :
    Calls Try.prog 18 #[.string ⟨s.toArray⟩] w fun r w' => r = .returned (.int .i64 (kd gn)) ∧ Below w.heap.size w w' := by
  have HT := Lib.hid (fun W => Take s W)
  rw [hs] at HT
  have HK := Lib.hid (fun W => CelD.kind ep sl lb gn ci W)
  generalize kd gn = kn at *
  clear hs
  go_enter Try.func18, Try.ntmps18
  go_upto_region 2 with (first
    | (go_at_call 14; refine (HT.out _).mono ?_; rintro r w2 ⟨rfl, hb⟩; have B2 := Lib.hid hb; clear hb)
    | (refine wpList_store_row rfl 23 _ _ rfl w2.heap.size _ rfl rfl 23 _ (heap_alloc_new w2 _) infoC rfl (one5 ep sl lb gn ci) ?_))
  generalize hW3 : World.setRow (World.alloc w2 _) _ _ = W3
  have B3 : Hid (Below w.heap.size w W3) := Lib.hid (by rw [← hW3]; exact B2.out.trans ((kept_new _ _ _ _).mono B2.out.size))
  have KK : Hid (Bk W3 w2.heap.size ep sl lb gn ci) := Lib.hid (by rw [← hW3]; exact has_new _ _ _ _)
  clear hW3
  generalize w2.heap.size = X at *
  obtain ⟨k0, k1, k2, k3, k4⟩ := KK.out.cells
  go_wp2_with (go_at_call 23; refine (HK.out _).mono ?_; rintro r w4 ⟨rfl, hb⟩; have B4 := Lib.hid (B3.out.trans (hb.mono B3.out.size)); clear hb)
  go_ret
  exact ⟨rfl, B4.out⟩
set_option maxRecDepth 100000 in
theorem Kind_other (s a : List UInt8) (c n : Int) (hs : take s = (nil_, 3)) (hh : held s = (a, c)) (hn : (c = 0 ∧ n = 3) ∨ (c = 3 ∧ (s == empty) = true ∧ n = 0) ∨ (c = 3 ∧ (s == empty) = false ∧ n = -1)) (w : World) :
    Calls Try.prog 18 #[.string ⟨s.toArray⟩] w fun r w' => r = .returned (.int .i64 n) ∧ Below w.heap.size w w' := by
  have HT := Lib.hid (fun W => Take s W)
  rw [hs] at HT
  have HH := Lib.hid (fun W => Held s W)
  rw [hh] at HH
  have HN := Lib.hid (fun W => noughts W)
  generalize empty = z at *
  clear hs hh
  go_enter Try.func18, Try.ntmps18
  go_upto_region 2 with (first
    | (go_at_call 14; refine (HT.out _).mono ?_; rintro r w2 ⟨rfl, hb⟩; have B2 := Lib.hid hb; clear hb)
    | (refine wpList_store_row rfl 23 _ _ rfl w2.heap.size _ rfl rfl 23 _ (heap_alloc_new w2 _) infoC rfl (one5 0 0 0 false []) ?_))
  generalize hW3 : World.setRow (World.alloc w2 _) _ _ = W3
  have B3 : Hid (Below w.heap.size w W3) := Lib.hid (by rw [← hW3]; exact B2.out.trans ((kept_new _ _ _ _).mono B2.out.size))
  clear hW3
  go_upto_region 5 with (go_at_call 16; refine (HH.out _).mono ?_; rintro r w4 ⟨rfl, hb⟩; have B4 := Lib.hid (B3.out.trans (hb.mono B3.out.size)); clear hb)
  rcases hn with ⟨rfl, rfl⟩ | ⟨rfl, hz, rfl⟩ | ⟨rfl, hz, rfl⟩
  · go_wp2_with fail
    go_ret
    exact ⟨rfl, B4.out⟩
  · go_wp2_with (go_at_call 35; refine (HN.out _).mono ?_; rintro r w5 ⟨rfl, hb⟩; have B5 := Lib.hid (B4.out.trans (hb.mono B4.out.size)); clear hb)
    go_ret
    exact ⟨rfl, B5.out⟩
  · go_wp2_with (go_at_call 35; refine (HN.out _).mono ?_; rintro r w5 ⟨rfl, hb⟩; have B5 := Lib.hid (B4.out.trans (hb.mono B4.out.size)); clear hb)
    go_ret
    exact ⟨rfl, B5.out⟩
/-- What cell.Kind answers. -/
theorem Kind (s : List UInt8) (w : World) :
    Calls Try.prog 18 #[.string ⟨s.toArray⟩] w fun r w' => r = .returned (.int .i64 (CelN.kind s)) ∧ Below w.heap.size w w' := by
  by_cases h : good s
  · rw [kind_cell h]
    exact Kind_cell s _ _ _ _ _ (take_yes h) w
  · have ht := take_no h
    by_cases hh : hgood s
    · rw [kind_held h hh]
      exact Kind_other s _ _ _ ht (held_yes hh) (.inl ⟨rfl, rfl⟩) w
    · by_cases he : s = empty
      · rw [kind_empty h hh he]
        exact Kind_other s _ _ _ ht (held_no hh) (.inr (.inl ⟨rfl, by rw [beq_iff_eq]; exact he, rfl⟩)) w
      · rw [kind_none h hh he]
        exact Kind_other s _ _ _ ht (held_no hh) (.inr (.inr ⟨rfl, beq_eq_false_iff_ne.2 he, rfl⟩)) w
end Go.Proofs.Yteobimhibhfokaa.CelV
