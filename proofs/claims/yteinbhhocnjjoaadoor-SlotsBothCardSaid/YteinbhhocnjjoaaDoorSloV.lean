/- slots.Pick, Evolve: the walks of their texts. The condition: that the rounds' numbers lie in the program's variable. -/
import Derived.Test.YteinbhhocnjjoaaDoorSloI
import Derived.BigQuiet
namespace Go.Proofs.YteinbhhocnjjoaaDoor.SloV
open Go.RowKit
open SloN SloC STurn
theorem kept_new (w : World) (old cs : Array Value) (t : TypeId) : Below w.heap.size w ((w.alloc (.cells old t)).setRow w.heap.size cs) := below_setRow ((Below.refl _ _).alloc (Nat.le_refl _) _) (Nat.le_refl _) _
theorem has_new (w : World) (old cs : Array Value) (t : TypeId) : ((w.alloc (.cells old t)).setRow w.heap.size cs).heap[w.heap.size]? = some (.cells cs t (0, 0)) := setRow_same (heap_alloc_new w _)
theorem infoB : (Tryd.prog.info? 61).map (·.size) = some 2 := by kernel_rfl
theorem two (a b : ByteArray) : (#[.string a, .string b] : Array Value).all (·.oneCell') = true := by simp [Value.oneCell']
/-- Two texts in a block. -/
def Bk (W : World) (X : Nat) (t : TypeId) (a b : List UInt8) : Prop := W.heap[X]? = some (.cells #[.string ⟨a.toArray⟩, .string ⟨b.toArray⟩] t (0, 0))
theorem Bk.lt {W : World} {X : Nat} {t : TypeId} {a b : List UInt8} (h : Bk W X t a b) : X < W.heap.size := (Array.getElem?_eq_some_iff.1 h).1
theorem Bk.step {W W' : World} {X : Nat} {t : TypeId} {a b : List UInt8} (h : Bk W X t a b) (hb : Below W.heap.size W W') : Bk W' X t a b := (hb.block _ h.lt).trans h
theorem Bk.cells {W : World} {X : Nat} {t : TypeId} {a b : List UInt8} (h : Bk W X t a b) : W.cell? ⟨X, 0, none⟩ = some (.string ⟨a.toArray⟩) ∧ W.cell? ⟨X, 1, none⟩ = some (.string ⟨b.toArray⟩) :=
  ⟨blk_cell h rfl, blk_cell h rfl⟩
theorem Pick_no (a b : List UInt8) (e : Int) (w : World) (h : ¬ may e) :
    Calls Tryd.prog 14 #[.string ⟨a.toArray⟩, .string ⟨b.toArray⟩, .int .i64 e] w fun r w' => r = .returned (.tuple #[.string ⟨#[]⟩, .int .i64 2]) ∧ Below w.heap.size w w' := by
  have HR := Lib.hid (fun W => isEpoch e W)
  rw [df h] at HR
  clear h
  go_enter Tryd.func14, Tryd.ntmps14
  go_wp2_with (go_at_call 21; refine (HR.out _).mono ?_; rintro r _ ⟨rfl, rfl⟩)
  go_ret2
  exact ⟨rfl, Below.refl _ _⟩
set_option maxRecDepth 100000 in
/-- Of a block that Take takes so. -/
theorem Pick_of (a b s : List UInt8) (e n c : Int) (k : List UInt8) (w : World) (hr : Rds w) (h : may e) (hm : (e % 2 = 1 ∧ b = s) ∨ (e % 2 = 0 ∧ a = s)) (ht : take s = (n, k, c)) (hc : c = 0 ∧ ((n != e) = true ∨ (n != e) = false) ∨ ((c != 0) = true ∧ k = [])) :
    Calls Tryd.prog 14 #[.string ⟨a.toArray⟩, .string ⟨b.toArray⟩, .int .i64 e] w fun r w' => r = .returned (.tuple #[.string ⟨(pick1 s e).1.toArray⟩, .int .i64 (pick1 s e).2]) ∧ Below w.heap.size w w' := by
  have HR := Lib.hid (fun W => isEpoch e W)
  rw [dt h] at HR
  have HT := Lib.hid (fun W h => SloP.Take s W h)
  rw [ht] at HT
  have HL := Lib.hid (fun W => place e W h.1)
  have GG := Lib.hid hr
  have HV : Hid (pick1 s e = if c = 0 then if n = e then (k, 0) else ([], 7) else ([], c)) := Lib.hid (by rw [pick1, ht])
  generalize pick1 s e = v at *
  clear ht h hr
  have i0 := fun W => SloI.index_0 ⟨a.toArray⟩ ⟨b.toArray⟩ W
  have i1 := fun W => SloI.index_1 ⟨a.toArray⟩ ⟨b.toArray⟩ W
  go_enter Tryd.func14, Tryd.ntmps14
  rcases hm with ⟨he, hs⟩ | ⟨he, hs⟩ <;> subst hs <;> rw [he] at HL <;> clear he <;> rcases hc with ⟨rfl, hn | hn⟩ | ⟨hc, rfl⟩
  all_goals
    go_wp2_with (first
      | (go_at_call 21; refine (HR.out _).mono ?_; rintro r _ ⟨rfl, rfl⟩)
      | (go_at_call 32; refine (HL.out _).mono ?_; rintro r _ ⟨rfl, rfl⟩)
      | (go_at_call 10; refine (HT.out _ GG.out).mono ?_; rintro r w8 ⟨rfl, hb8⟩; have B8 := Lib.hid hb8; clear hb8))
    go_ret2
    refine ⟨?_, B8.out⟩
    rw [HV.out]
    simp_all
theorem three (p : Int × List UInt8 × Int) : ∃ n k c, p = (n, k, c) := ⟨_, _, _, rfl⟩
/-- What slots.Pick answers. -/
theorem Pick (a b : List UInt8) (e : Int) (w : World) (hr : Rds w) :
    Calls Tryd.prog 14 #[.string ⟨a.toArray⟩, .string ⟨b.toArray⟩, .int .i64 e] w fun r w' => r = .returned (.tuple #[.string ⟨(pick a b e).1.toArray⟩, .int .i64 (pick a b e).2]) ∧ Below w.heap.size w w' := by
  by_cases h : may e
  · have hv : pick a b e = pick1 (for_ a b e) e := if_pos h
    rw [hv]
    obtain ⟨n, k, c, ht⟩ := three (take (for_ a b e))
    have hw := take_err (for_ a b e)
    rw [ht] at hw
    dsimp only at hw
    refine Pick_of a b (for_ a b e) e n c k w hr h (by unfold for_; by_cases ho : e % 2 = 1 <;> simp [ho]; omega) ht ?_
    rcases hw with rfl | ⟨_, rfl, rfl | rfl⟩
    · refine .inl ⟨rfl, ?_⟩
      cases (n != e)
      · exact .inr rfl
      · exact .inl rfl
    · exact .inr ⟨rfl, rfl⟩
    · exact .inr ⟨rfl, rfl⟩
  · rw [pick_no h]
    exact Pick_no a b e w h
theorem Evolve_err (a b k p : List UInt8) (e c : Int) (w : World) (hr : Rds w) (hp : pick a b e = (p, c)) (hc : (c != 0) = true) :
    Calls Tryd.prog 19 #[.string ⟨a.toArray⟩, .string ⟨b.toArray⟩, .int .i64 e, .string ⟨k.toArray⟩] w fun r w' => r = .returned (.tuple #[.string ⟨#[]⟩, .string ⟨#[]⟩, .int .i64 c]) ∧ Below w.heap.size w w' := by
  have HP := Lib.hid (fun W h => Pick a b e W h)
  rw [hp] at HP
  have GG := Lib.hid hr
  clear hp hr
  go_enter Tryd.func19, Tryd.ntmps19
  go_wp2_with (go_at_call 14; refine (HP.out _ GG.out).mono ?_; rintro r w8 ⟨rfl, hb8⟩; have B8 := Lib.hid hb8; clear hb8)
  go_ret3
  exact ⟨rfl, B8.out⟩
theorem Evolve_last (a b k p : List UInt8) (e : Int) (w : World) (hr : Rds w) (hp : pick a b e = (p, 0)) (he : (e == 4294967295) = true) :
    Calls Tryd.prog 19 #[.string ⟨a.toArray⟩, .string ⟨b.toArray⟩, .int .i64 e, .string ⟨k.toArray⟩] w fun r w' => r = .returned (.tuple #[.string ⟨#[]⟩, .string ⟨#[]⟩, .int .i64 6]) ∧ Below w.heap.size w w' := by
  have HP := Lib.hid (fun W h => Pick a b e W h)
  rw [hp] at HP
  have GG := Lib.hid hr
  clear hp hr
  go_enter Tryd.func19, Tryd.ntmps19
  go_wp2_with (go_at_call 14; refine (HP.out _ GG.out).mono ?_; rintro r w8 ⟨rfl, hb8⟩; have B8 := Lib.hid hb8; clear hb8)
  go_ret3
  exact ⟨rfl, B8.out⟩
theorem Evolve_key (a b k p x : List UInt8) (e : Int) (w : World) (hr : Rds w) (hp : pick a b e = (p, 0)) (he : (e == 4294967295) = false) (h0 : 0 ≤ e) (h1 : e ≤ 4294967294) (hu : put_ (e + 1) k = (x, 2)) :
    Calls Tryd.prog 19 #[.string ⟨a.toArray⟩, .string ⟨b.toArray⟩, .int .i64 e, .string ⟨k.toArray⟩] w fun r w' => r = .returned (.tuple #[.string ⟨#[]⟩, .string ⟨#[]⟩, .int .i64 2]) ∧ Below w.heap.size w w' := by
  have HP := Lib.hid (fun W h => Pick a b e W h)
  rw [hp] at HP
  have HU := Lib.hid (fun W h => SloP.Put (e + 1) k W h)
  rw [hu] at HU
  have GG := Lib.hid hr
  clear hp hu hr
  go_enter Tryd.func19, Tryd.ntmps19
  go_wp2_with (first
    | (go_at_call 14; refine (HP.out _ GG.out).mono ?_; rintro r w8 ⟨rfl, hb8⟩; have B8 := Lib.hid hb8; clear hb8)
    | (go_at_call 8; refine (HU.out _ (GG.out.step B8.out)).mono ?_; rintro r w9 ⟨rfl, hb9⟩; have B9 := Lib.hid (B8.out.trans (hb9.mono B8.out.size)); clear hb9))
  go_ret3
  exact ⟨rfl, B9.out⟩
set_option maxRecDepth 100000 in
theorem Evolve_on (a b k p x : List UInt8) (e : Int) (w : World) (hr : Rds w) (hp : pick a b e = (p, 0)) (he : (e == 4294967295) = false) (h0 : 0 ≤ e) (h1 : e ≤ 4294967294) (hu : put_ (e + 1) k = (x, 0)) (q : Bool) (hq : (e + 1) % 2 = if q then 1 else 0) :
    Calls Tryd.prog 19 #[.string ⟨a.toArray⟩, .string ⟨b.toArray⟩, .int .i64 e, .string ⟨k.toArray⟩] w fun r w' => r = .returned (.tuple (if q then #[.string ⟨a.toArray⟩, .string ⟨x.toArray⟩, .int .i64 0] else #[.string ⟨x.toArray⟩, .string ⟨b.toArray⟩, .int .i64 0])) ∧ Below w.heap.size w w' := by
  have HP := Lib.hid (fun W h => Pick a b e W h)
  rw [hp] at HP
  have HU := Lib.hid (fun W h => SloP.Put (e + 1) k W h)
  rw [hu] at HU
  have HL := Lib.hid (fun W => place (e + 1) W (by omega))
  rw [hq] at HL
  have GG := Lib.hid hr
  clear hp hu hq hr
  go_enter Tryd.func19, Tryd.ntmps19
  go_upto_region 10 with (first
    | (go_at_call 14; refine (HP.out _ GG.out).mono ?_; rintro r w8 ⟨rfl, hb8⟩; have B8 := Lib.hid hb8; clear hb8)
    | (go_at_call 8; refine (HU.out _ (GG.out.step B8.out)).mono ?_; rintro r w9 ⟨rfl, hb9⟩; have B9 := Lib.hid (B8.out.trans (hb9.mono B8.out.size)); clear hb9)
    | (refine wpList_store_row rfl 61 _ _ rfl w9.heap.size _ rfl rfl 61 _ (heap_alloc_new w9 _) infoB rfl (two ⟨a.toArray⟩ ⟨b.toArray⟩) ?_))
  generalize hW3 : World.setRow (World.alloc w9 _) _ _ = W3
  have B3 : Hid (Below w.heap.size w W3) := Lib.hid (by rw [← hW3]; exact B9.out.trans ((kept_new _ _ _ _).mono B9.out.size))
  have K3 : Hid (Bk W3 w9.heap.size 61 a b) := Lib.hid (by rw [← hW3]; exact has_new _ _ _ _)
  have hX : w.heap.size ≤ w9.heap.size := B9.out.size
  clear hW3 HP HU B8 B9
  generalize w9.heap.size = X at *
  obtain ⟨k0, k1⟩ := K3.out.cells
  have f0 := blk_free (i := 0) K3.out
  have f1 := blk_free (i := 1) K3.out
  cases q
  · go_upto_region 11 with (go_at_call 32; refine (HL.out _).mono ?_; rintro r _ ⟨rfl, rfl⟩)
    generalize hW4 : World.setCell W3 _ _ = W4
    have B4 : Hid (Below w.heap.size w W4) := Lib.hid (by rw [← hW4]; exact B3.out.setCell hX _)
    have K4 : Hid (Bk W4 X 61 x b) := Lib.hid (by rw [← hW4]; exact blk_set K3.out)
    clear hW4 k0 k1 f0 f1
    obtain ⟨k0, k1⟩ := K4.out.cells
    go_quiet (fail)
    go_wp2_with fail
    go_ret3
    exact ⟨rfl, B4.out.trans (below_drewN _ _)⟩
  · go_upto_region 11 with (go_at_call 32; refine (HL.out _).mono ?_; rintro r _ ⟨rfl, rfl⟩)
    generalize hW4 : World.setCell W3 _ _ = W4
    have B4 : Hid (Below w.heap.size w W4) := Lib.hid (by rw [← hW4]; exact B3.out.setCell hX _)
    have K4 : Hid (Bk W4 X 61 a x) := Lib.hid (by rw [← hW4]; exact blk_set K3.out)
    clear hW4 k0 k1 f0 f1
    obtain ⟨k0, k1⟩ := K4.out.cells
    go_quiet (fail)
    go_wp2_with fail
    go_ret3
    exact ⟨rfl, B4.out.trans (below_drewN _ _)⟩
/-- What slots.Evolve answers. -/
theorem Evolve (a b k : List UInt8) (e : Int) (w : World) (hr : Rds w) :
    Calls Tryd.prog 19 #[.string ⟨a.toArray⟩, .string ⟨b.toArray⟩, .int .i64 e, .string ⟨k.toArray⟩] w fun r w' => r = .returned (.tuple #[.string ⟨(evolve a b e k).1.toArray⟩, .string ⟨(evolve a b e k).2.1.toArray⟩, .int .i64 (evolve a b e k).2.2]) ∧ Below w.heap.size w w' := by
  by_cases hp : (pick a b e).2 = 0
  · have hpp : pick a b e = ((pick a b e).1, 0) := by rw [← hp]
    by_cases he : e = 4294967295
    · rw [evolve_last hp he]
      exact Evolve_last a b k _ e w hr hpp (by rw [he]; rfl)
    · obtain ⟨h0, h1⟩ := pick_may hp
      have hm : may (e + 1) := ⟨by omega, by omega⟩
      have hb : (e == 4294967295) = false := beq_eq_false_iff_ne.2 he
      by_cases hk : k.length = 32
      · by_cases ho : e % 2 = 1
        · rw [evolve_odd hp he hk ho]
          exact Evolve_on a b k _ _ e w hr hpp hb h0 (by omega) (SloN.put_yes hm hk) false (by simp; omega)
        · rw [evolve_even hp he hk ho]
          exact Evolve_on a b k _ _ e w hr hpp hb h0 (by omega) (SloN.put_yes hm hk) true (by simp; omega)
      · rw [evolve_key hp he hk]
        exact Evolve_key a b k _ _ e w hr hpp hb h0 (by omega) (SloN.put_no (fun hh => hk hh.2))
  · rw [evolve_err hp]
    exact Evolve_err a b k _ e _ w hr rfl (by rw [bne_iff_ne]; exact hp)
end Go.Proofs.YteinbhhocnjjoaaDoor.SloV
