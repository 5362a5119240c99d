/- keepsakeref11.Pick, Evolve: the walks of their texts. No conditions. -/
import Derived.Test.YteinbhhocnjjoaaDoorSloQ
namespace Go.Proofs.YteinbhhocnjjoaaDoor.SloR
open Go.RowKit
open SloN SloC
theorem tm {e : Int} (h : may e) : e.tmod 2 = e % 2 := Int.tmod_eq_emod_of_nonneg h.1
theorem Pick_no (a b : List UInt8) (e : Int) (w : World) (h : ¬ may e) :
    Calls Tryd.prog 15 #[.string ⟨a.toArray⟩, .string ⟨b.toArray⟩, .int .i64 e] w fun r w' => r = .returned (.tuple #[.string ⟨#[]⟩, .int .i64 2]) ∧ Below w.heap.size w w' := by
  have HR := Lib.hid (fun W => Right e W)
  rw [df h] at HR
  clear h
  go_enter Tryd.func15, Tryd.ntmps15
  go_wp2_with (go_at_call 25; refine (HR.out _).mono ?_; rintro r _ ⟨rfl, rfl⟩)
  go_ret2
  exact ⟨rfl, Below.refl _ _⟩
/-- Of a block that Take takes so. -/
theorem Pick_of (a b s : List UInt8) (e n c : Int) (k : List UInt8) (w : World) (h : may e) (q : Bool) (hm : (e % 2 == 1) = q) (hs : (if q then b else a) = s) (ht : take s = (n, k, c)) (hc : (c == 0) = true ∧ ((n != e) = true ∨ (n != e) = false) ∨ ((c == 0) = false ∧ k = [])) :
    Calls Tryd.prog 15 #[.string ⟨a.toArray⟩, .string ⟨b.toArray⟩, .int .i64 e] w fun r w' => r = .returned (.tuple #[.string ⟨(pick1 s e).1.toArray⟩, .int .i64 (pick1 s e).2]) ∧ Below w.heap.size w w' := by
  have HR := Lib.hid (fun W => Right e W)
  rw [dt h] at HR
  have HT := Lib.hid (fun W => SloQ.Take s W)
  rw [ht] at HT
  have ht2 := tm h
  have hm2 : (e.tmod 2 == 1) = q := by rw [ht2]; exact hm
  clear ht2
  have HV : Hid (pick1 s e = if c = 0 then if n = e then (k, 0) else ([], 7) else ([], c)) := Lib.hid (by rw [pick1, ht])
  generalize pick1 s e = v at *
  clear ht h
  go_enter Tryd.func15, Tryd.ntmps15
  cases q <;> obtain rfl := hs <;> rcases hc with ⟨hc, hn | hn⟩ | ⟨hc, rfl⟩
  all_goals
    go_wp2_with (first
      | (go_at_call 25; refine (HR.out _).mono ?_; rintro r _ ⟨rfl, rfl⟩)
      | (go_at_call 11; refine (HT.out _).mono ?_; rintro r w8 ⟨rfl, hb8⟩; have B8 := Lib.hid hb8; clear hb8))
    go_ret2
    refine ⟨?_, B8.out⟩
    rw [HV.out]
    simp_all
theorem three (p : Int × List UInt8 × Int) : ∃ n k c, p = (n, k, c) := ⟨_, _, _, rfl⟩
/-- What the document's Pick answers. -/
theorem Pick (a b : List UInt8) (e : Int) (w : World) :
    Calls Tryd.prog 15 #[.string ⟨a.toArray⟩, .string ⟨b.toArray⟩, .int .i64 e] w fun r w' => r = .returned (.tuple #[.string ⟨(pick a b e).1.toArray⟩, .int .i64 (pick a b e).2]) ∧ Below w.heap.size w w' := by
  by_cases h : may e
  · have hv : pick a b e = pick1 (for_ a b e) e := if_pos h
    rw [hv]
    obtain ⟨n, k, c, ht⟩ := three (take (for_ a b e))
    have hw := take_err (for_ a b e)
    rw [ht] at hw
    dsimp only at hw
    refine Pick_of a b (for_ a b e) e n c k w h (decide (e % 2 = 1)) (by by_cases ho : e % 2 = 1 <;> simp [ho]) (by unfold for_; by_cases ho : e % 2 = 1 <;> simp [ho]) ht ?_
    rcases hw with rfl | ⟨_, rfl, rfl | rfl⟩
    · refine .inl ⟨rfl, ?_⟩
      cases (n != e)
      · exact .inr rfl
      · exact .inl rfl
    · exact .inr ⟨rfl, rfl⟩
    · exact .inr ⟨rfl, rfl⟩
  · rw [pick_no h]
    exact Pick_no a b e w h
theorem Evolve_err (a b k p : List UInt8) (e c : Int) (w : World) (hp : pick a b e = (p, c)) (hc : (c != 0) = true) :
    Calls Tryd.prog 20 #[.string ⟨a.toArray⟩, .string ⟨b.toArray⟩, .int .i64 e, .string ⟨k.toArray⟩] w fun r w' => r = .returned (.tuple #[.string ⟨#[]⟩, .string ⟨#[]⟩, .int .i64 c]) ∧ Below w.heap.size w w' := by
  have HP := Lib.hid (fun W => Pick a b e W)
  rw [hp] at HP
  clear hp
  go_enter Tryd.func20, Tryd.ntmps20
  go_wp2_with (go_at_call 15; refine (HP.out _).mono ?_; rintro r w8 ⟨rfl, hb8⟩; have B8 := Lib.hid hb8; clear hb8)
  go_ret3
  exact ⟨rfl, B8.out⟩
theorem Evolve_last (a b k p : List UInt8) (e : Int) (w : World) (hp : pick a b e = (p, 0)) (he : (e == 4294967295) = true) :
    Calls Tryd.prog 20 #[.string ⟨a.toArray⟩, .string ⟨b.toArray⟩, .int .i64 e, .string ⟨k.toArray⟩] w fun r w' => r = .returned (.tuple #[.string ⟨#[]⟩, .string ⟨#[]⟩, .int .i64 6]) ∧ Below w.heap.size w w' := by
  have HP := Lib.hid (fun W => Pick a b e W)
  rw [hp] at HP
  clear hp
  go_enter Tryd.func20, Tryd.ntmps20
  go_wp2_with (go_at_call 15; refine (HP.out _).mono ?_; rintro r w8 ⟨rfl, hb8⟩; have B8 := Lib.hid hb8; clear hb8)
  go_ret3
  exact ⟨rfl, B8.out⟩
theorem Evolve_on (a b k p x : List UInt8) (e c : Int) (is q : Bool) (w : World) (hp : pick a b e = (p, 0)) (he : (e == 4294967295) = false) (h0 : 0 ≤ e) (h1 : e ≤ 4294967294) (hu : put_ (e + 1) k = (x, c)) (hi : decide (may (e + 1) ∧ k.length = 32) = is) (hq : (e % 2 == 0) = q) :
    Calls Tryd.prog 20 #[.string ⟨a.toArray⟩, .string ⟨b.toArray⟩, .int .i64 e, .string ⟨k.toArray⟩] w fun r w' => r = .returned (.tuple (if is then if q then #[.string ⟨a.toArray⟩, .string ⟨x.toArray⟩, .int .i64 0] else #[.string ⟨x.toArray⟩, .string ⟨b.toArray⟩, .int .i64 0] else #[.string ⟨#[]⟩, .string ⟨#[]⟩, .int .i64 2])) ∧ Below w.heap.size w w' := by
  have HP := Lib.hid (fun W => Pick a b e W)
  rw [hp] at HP
  have HU := Lib.hid (fun W => SloQ.Put (e + 1) k W)
  rw [hu, hi] at HU
  have ht : e.tmod 2 = e % 2 := Int.tmod_eq_emod_of_nonneg h0
  have hq2 : (e.tmod 2 == 0) = q := by rw [ht]; exact hq
  clear hp hu hi ht
  go_enter Tryd.func20, Tryd.ntmps20
  cases is
  · go_wp2_with (first
      | (go_at_call 15; refine (HP.out _).mono ?_; rintro r w8 ⟨rfl, hb8⟩; have B8 := Lib.hid hb8; clear hb8)
      | (go_at_call 9; refine (HU.out _).mono ?_; rintro r w9 ⟨rfl, hb9⟩; have B9 := Lib.hid (B8.out.trans (hb9.mono B8.out.size)); clear hb9))
    go_ret3
    exact ⟨rfl, B9.out⟩
  · cases q
    all_goals
      go_wp2_with (first
        | (go_at_call 15; refine (HP.out _).mono ?_; rintro r w8 ⟨rfl, hb8⟩; have B8 := Lib.hid hb8; clear hb8)
        | (go_at_call 9; refine (HU.out _).mono ?_; rintro r w9 ⟨rfl, hb9⟩; have B9 := Lib.hid (B8.out.trans (hb9.mono B8.out.size)); clear hb9))
      go_ret3
      exact ⟨rfl, B9.out⟩
/-- What the document's Evolve answers. -/
theorem Evolve (a b k : List UInt8) (e : Int) (w : World) :
    Calls Tryd.prog 20 #[.string ⟨a.toArray⟩, .string ⟨b.toArray⟩, .int .i64 e, .string ⟨k.toArray⟩] w fun r w' => r = .returned (.tuple #[.string ⟨(evolve a b e k).1.toArray⟩, .string ⟨(evolve a b e k).2.1.toArray⟩, .int .i64 (evolve a b e k).2.2]) ∧ Below w.heap.size w w' := by
  by_cases hp : (pick a b e).2 = 0
  · have hpp : pick a b e = ((pick a b e).1, 0) := by rw [← hp]
    by_cases he : e = 4294967295
    · rw [evolve_last hp he]
      exact Evolve_last a b k _ e w hpp (by rw [he]; rfl)
    · obtain ⟨h0, h1⟩ := pick_may hp
      have hm : may (e + 1) := ⟨by omega, by omega⟩
      have hb : (e == 4294967295) = false := beq_eq_false_iff_ne.2 he
      by_cases hk : k.length = 32
      · have hi := dt (show may (e + 1) ∧ k.length = 32 from ⟨hm, hk⟩)
        by_cases ho : e % 2 = 1
        · rw [evolve_odd hp he hk ho]
          exact Evolve_on a b k _ _ e 0 true false w hpp hb h0 (by omega) (SloN.put_yes hm hk) hi (by rw [ho]; rfl)
        · rw [evolve_even hp he hk ho]
          exact Evolve_on a b k _ _ e 0 true true w hpp hb h0 (by omega) (SloN.put_yes hm hk) hi (by rw [show e % 2 = 0 from by omega]; rfl)
      · rw [evolve_key hp he hk]
        exact Evolve_on a b k _ _ e 2 false _ w hpp hb h0 (by omega) (SloN.put_no (fun hh => hk hh.2)) (df (fun hh => hk hh.2)) rfl
  · rw [evolve_err hp]
    exact Evolve_err a b k _ e _ w rfl (by rw [bne_iff_ne]; exact hp)
end Go.Proofs.YteinbhhocnjjoaaDoor.SloR
