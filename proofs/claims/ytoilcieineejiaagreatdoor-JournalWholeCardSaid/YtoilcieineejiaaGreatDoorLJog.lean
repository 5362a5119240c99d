/- JouG JouH: one behind the other. -/
import Derived.Test.YtoilcieineejiaaGreatDoorJouF
/- The program's journal: what everybody calls, but Format and Open: the walks of their texts. No conditions but those that each lemma names. -/
namespace Go.Proofs.YtoilcieineejiaaGreatDoor.JouG
set_option linter.unusedVariables false
open Go.RowKit
open DkN DkM JouN JouP JouQ JouR JouS JouC JouW JouX JouY JouZ JouB JouD JouE JouF
open SupP (Gl)
/-- A journal that is none. -/
def NonJ (W : World) (p : Option Addr) : Prop := p = none ∨ ∃ J, p = some ⟨J, 0, none⟩ ∧ W.cell? ⟨J, 0, none⟩ = some (.pointer none)
theorem isNone_yes (p : Option Addr) (w : World) (h : NonJ w p) :
    Calls Tryz.prog 55 #[.pointer p] w fun e w' => e = .returned (.bool true) ∧ w = w' := by
  rcases h with rfl | ⟨J, rfl, hc⟩
  · go_enter Tryz.func55, Tryz.ntmps55
    go_wp2
    go_ret
    exact ⟨rfl, rfl⟩
  · go_enter Tryz.func55, Tryz.ntmps55
    go_wp2
    go_ret
    exact ⟨rfl, rfl⟩
theorem isNone_no (J P : Nat) (w : World) (hc : w.cell? ⟨J, 0, none⟩ = some (.pointer (some ⟨P, 0, none⟩))) :
    Calls Tryz.prog 55 #[.pointer (some ⟨J, 0, none⟩)] w fun e w' => e = .returned (.bool false) ∧ w = w' := by
  go_enter Tryz.func55, Tryz.ntmps55
  go_wp2
  go_ret
  exact ⟨rfl, rfl⟩
theorem ready_none (p : Option Addr) (w : World) (h : NonJ w p) :
    Calls Tryz.prog 56 #[.pointer p] w fun e w' => e = .returned (.int .i64 1) ∧ w = w' := by
  have HN := Lib.hid (isNone_yes p w h)
  clear h
  go_enter Tryz.func56, Tryz.ntmps56
  go_wp2_with (go_at_call 55; refine HN.out.mono ?_; rintro e _ ⟨rfl, rfl⟩)
  go_ret
  exact ⟨rfl, rfl⟩
/-- Whether a journal broke. -/
def rdy (br : Bool) : Nat := if br then 14 else 0
theorem ready {base J P S b : Nat} {bv cv : Value} {D : Dk} {j : Jo} {w : World} (h : Jm base J P S b bv cv D j w) :
    Calls Tryz.prog 56 #[.pointer (some ⟨J, 0, none⟩)] w fun e w' => e = .returned (.int .i64 (rdy j.broken : Nat)) ∧ w = w' := by
  have k0 : w.cell? ⟨J, 0, none⟩ = some (.pointer (some ⟨P, 0, none⟩)) := blk_cell h.jo rfl
  have k9 : w.cell? ⟨P, 9, none⟩ = some (.bool j.broken) := blk_cell h.po rfl
  have HN := Lib.hid (isNone_no J P w k0)
  clear h
  generalize j.broken = br at *
  cases br
  all_goals
    go_enter Tryz.func56, Tryz.ntmps56
    go_wp2_with (go_at_call 55; refine HN.out.mono ?_; rintro e _ ⟨rfl, rfl⟩)
    go_ret
    exact ⟨rfl, rfl⟩
section
variable {base J P S b : Nat} {bv cv : Value} {D : Dk} {j : Jo} {w : World}
/-- What a call answers that tells a number, and what it leaves. -/
def Tells (r : Re) (base J P S b : Nat) (bv cv : Value) (w : World) (e : Ending) (w' : World) : Prop :=
  e = .returned (.tuple #[.int .i64 (r.n : Nat), .int .i64 (r.e : Nat)]) ∧ Went base J P S b bv cv r.D r.j w w'
/-- Of one that tells an error alone. -/
def Says (r : Re) (base J P S b : Nat) (bv cv : Value) (w : World) (e : Ending) (w' : World) : Prop :=
  e = .returned (.int .i64 (r.e : Nat)) ∧ Went base J P S b bv cv r.D r.j w w'
theorem append_any (h : Jm base J P S b bv cv D j w) (hb : j.broken = false) (s : ByteArray) :
    Calls Tryz.prog 59 #[.pointer (some ⟨P, 0, none⟩), .string s] w (Tells (appendJ D j s) base J P S b bv cv w) := by
  unfold appendJ
  rw [if_neg (by rw [hb]; decide)]
  by_cases hs : s.size = 4096
  · rw [if_neg (fun e => e hs)]
    by_cases hr : GeoN.room j.last.b j.last.l j.last.f j.used = 0
    · rw [if_pos hr]
      refine (append_full h s hs hr).mono ?_
      rintro e w' ⟨rfl, hb'⟩
      exact ⟨rfl, h.went hb'⟩
    · rw [if_neg hr]
      exact append_ok h s hs hr
  · rw [if_pos hs]
    refine (append_arg P w s hs).mono ?_
    rintro e w' ⟨rfl, rfl⟩
    exact ⟨rfl, h.went (Below.refl _ _)⟩
theorem commit_any (h : Jm base J P S b bv cv D j w) (hb : j.broken = false) (ck : Int) :
    Calls Tryz.prog 62 #[.pointer (some ⟨P, 0, none⟩), .int .i64 ck] w (Says (commitJ D j ck) base J P S b bv cv w) := by
  unfold commitJ
  rw [if_neg (by rw [hb]; decide)]
  by_cases hn : noNext j ck = 0
  · rw [if_neg (fun e => e hn)]
    exact commit_ok h ck hn
  · rw [if_pos hn]
    refine (commit_no h ck hn).mono ?_
    rintro e w' ⟨rfl, hb'⟩
    exact ⟨rfl, h.went hb'⟩
set_option maxRecDepth 100000 in
theorem close_arg (P : Nat) (w : World) (s : ByteArray) (next : List UInt8) (ck : Int) (h : s.size ≠ 4096 ∨ next.length ≠ 32) :
    Calls Tryz.prog 57 #[.pointer (some ⟨P, 0, none⟩), .string s, .string ⟨next.toArray⟩, .int .i64 ck] w fun e w' => e = .returned (.tuple #[.int .i64 0, .int .i64 2]) ∧ w = w' := by
  by_cases hs : s.size = 4096
  · have hsz : ((s.size : Int) != 4096) = false := by rw [hs]; rfl
    have hkz : ((next.length : Int) != 32) = true := by rw [bne_iff_ne]; have := h.resolve_left (fun e => e hs); omega
    clear h hs
    go_enter Tryz.func57, Tryz.ntmps57
    go_wp2_with fail
    go_ret2
    exact ⟨rfl, rfl⟩
  · have hsz : ((s.size : Int) != 4096) = true := by rw [bne_iff_ne]; omega
    clear h hs
    go_enter Tryz.func57, Tryz.ntmps57
    go_wp2_with fail
    go_ret2
    exact ⟨rfl, rfl⟩
set_option maxRecDepth 100000 in
theorem close_next (h : Jm base J P S b bv cv D j w) (s : ByteArray) (hs : s.size = 4096) (next : List UInt8) (hk : next.length = 32) (ck : Int) (hn : noNext j ck ≠ 0) :
    Calls Tryz.prog 57 #[.pointer (some ⟨P, 0, none⟩), .string s, .string ⟨next.toArray⟩, .int .i64 ck] w fun e w' => e = .returned (.tuple #[.int .i64 0, .int .i64 (noNext j ck : Nat)]) ∧ Below w.heap.size w w' := by
  have HN : Hid (Calls Tryz.prog 94 #[.pointer (some ⟨P, 0, none⟩), .int .i64 ck] w (NextR nil7 (noNext j ck) w)) := Lib.hid (by
    unfold noNext at *
    split
    · rename_i h1
      exact next_arg (Jm.pj h) ck h1
    · rename_i h1
      split
      · rename_i h2
        exact next_last (Jm.pj h) h.may ck (by omega) (by omega) h2
      · rename_i h2
        rw [if_neg h1, if_neg h2] at hn
        exact absurd rfl hn)
  have hq : (((noNext j ck : Nat) : Int) != 0) = true := by rw [bne_iff_ne]; omega
  have hsz : ((s.size : Int) != 4096) = false := by rw [hs]; rfl
  have hkz : ((next.length : Int) != 32) = false := by rw [hk]; rfl
  clear h hn hs hk
  generalize noNext j ck = q at *
  unfold nil7 at HN
  go_enter Tryz.func57, Tryz.ntmps57
  go_wp2_with (go_at_call 94; refine HN.out.mono ?_; rintro e w2 ⟨rfl, hb2⟩; have B2 := Lib.hid hb2; clear hb2)
  go_ret2
  exact ⟨rfl, B2.out.alloc B2.out.size _⟩
set_option maxRecDepth 100000 in
theorem close_last (h : Jm base J P S b bv cv D j w) (s : ByteArray) (hs : s.size = 4096) (next : List UInt8) (hk : next.length = 32) (ck : Int) (hn : noNext j ck = 0) (he : j.last.e = 4294967295) :
    Calls Tryz.prog 57 #[.pointer (some ⟨P, 0, none⟩), .string s, .string ⟨next.toArray⟩, .int .i64 ck] w fun e w' => e = .returned (.tuple #[.int .i64 0, .int .i64 6]) ∧ Below w.heap.size w w' := by
  have hee := h.may.2.2.2.1
  obtain ⟨hm', h1, h2, hg⟩ := may_nx h.may h.few ⟨Int.le_refl _, hee.2⟩ hn
  have HN := Lib.hid (next_ok (Jm.pj h) h.may ck h1 h2 hg)
  have hsz : ((s.size : Int) != 4096) = false := by rw [hs]; rfl
  have hkz : ((next.length : Int) != 32) = false := by rw [hk]; rfl
  have hel : (j.last.e == 4294967295) = true := by rw [beq_iff_eq]; exact he
  clear h hn hs hk hee hm' h1 h2 hg he
  unfold nx at HN
  go_enter Tryz.func57, Tryz.ntmps57
  go_upto_region 6 with (go_at_call 94; refine HN.out.mono ?_; rintro e w2 ⟨rfl, hb2⟩; have B2 := Lib.hid hb2; clear hb2)
  have x2 : (w2.alloc (.cells #[.int .i64 (j.last.g + 1), .int .i64 j.last.t, .int .i64 j.last.e, .int .i64 ck, .int .i64 j.last.b, .int .i64 j.last.l, .int .i64 j.last.f] 53)).cell? ⟨w2.heap.size, 2, none⟩ = some (.int .i64 j.last.e) := blk_cell (heap_alloc_new w2 _) rfl
  go_wp2_with fail
  go_ret2
  exact ⟨rfl, B2.out.alloc B2.out.size _⟩
set_option maxRecDepth 100000 in
theorem close_full (h : Jm base J P S b bv cv D j w) (s : ByteArray) (hs : s.size = 4096) (next : List UInt8) (hk : next.length = 32) (ck : Int) (hn : noNext j ck = 0) (he : ¬ j.last.e = 4294967295) (hd : ¬ (j.used : Int) < GeoN.data j.last.b j.last.l j.last.f) :
    Calls Tryz.prog 57 #[.pointer (some ⟨P, 0, none⟩), .string s, .string ⟨next.toArray⟩, .int .i64 ck] w fun e w' => e = .returned (.tuple #[.int .i64 0, .int .i64 6]) ∧ Below w.heap.size w w' := by
  have hee := h.may.2.2.2.1
  obtain ⟨hm', h1, h2, hg⟩ := may_nx h.may h.few ⟨Int.le_refl _, hee.2⟩ hn
  have HN := Lib.hid (next_ok (Jm.pj h) h.may ck h1 h2 hg)
  have HT := Lib.hid (fun W (hW : Jm base J P S b bv cv D j W) => SpaH.Close_no S j.last.b j.last.l j.last.f j.used W hW.sp (bne0 h) hW.gd.g.bn hd)
  have hsz : ((s.size : Int) != 4096) = false := by rw [hs]; rfl
  have hkz : ((next.length : Int) != 32) = false := by rw [hk]; rfl
  have hel : (j.last.e == 4294967295) = false := by rw [beq_eq_false_iff_ne]; exact he
  have HH := Lib.hid h
  clear h hn hs hk hee hm' h1 h2 hg he hd
  unfold nx at HN
  go_enter Tryz.func57, Tryz.ntmps57
  go_upto_region 6 with (go_at_call 94; refine HN.out.mono ?_; rintro e w2 ⟨rfl, hb2⟩; have B2 := Lib.hid hb2; clear hb2)
  obtain ⟨W3, hW3⟩ : ∃ W3, W3 = w2.alloc (.cells #[.int .i64 (j.last.g + 1), .int .i64 j.last.t, .int .i64 j.last.e, .int .i64 ck, .int .i64 j.last.b, .int .i64 j.last.l, .int .i64 j.last.f] 53) := ⟨_, rfl⟩
  have x2 : W3.cell? ⟨w2.heap.size, 2, none⟩ = some (.int .i64 j.last.e) := by rw [hW3]; exact blk_cell (heap_alloc_new w2 _) rfl
  have B3 : Hid (Below w.heap.size w W3) := Lib.hid (by rw [hW3]; exact B2.out.alloc B2.out.size _)
  rw [← hW3]
  clear hW3 B2
  have H3 := Lib.hid (HH.out.step B3.out)
  have p0 := blk_cell (i := 0) (u := .pointer (some ⟨S, 0, none⟩)) H3.out.po rfl
  go_wp2_with (go_at_call 95; refine (HT.out _ H3.out).mono ?_; rintro e w5 ⟨rfl, hb5⟩; have B5 := Lib.hid hb5; clear hb5)
  go_ret2
  exact ⟨rfl, B3.out.trans (B5.out.mono B3.out.size)⟩
theorem close_any (h : Jm base J P S b bv cv D j w) (hb : j.broken = false) (s : ByteArray) (next : List UInt8) (ck : Int) :
    Calls Tryz.prog 57 #[.pointer (some ⟨P, 0, none⟩), .string s, .string ⟨next.toArray⟩, .int .i64 ck] w (Tells (closeJ D j s next ck) base J P S b bv cv w) := by
  unfold closeJ
  rw [if_neg (by rw [hb]; decide)]
  have fin : ∀ n : Nat, Calls Tryz.prog 57 #[.pointer (some ⟨P, 0, none⟩), .string s, .string ⟨next.toArray⟩, .int .i64 ck] w (fun e w' => e = .returned (.tuple #[.int .i64 0, .int .i64 (n : Nat)]) ∧ Below w.heap.size w w') →
      Calls Tryz.prog 57 #[.pointer (some ⟨P, 0, none⟩), .string s, .string ⟨next.toArray⟩, .int .i64 ck] w (Tells (no_ n D j) base J P S b bv cv w) := fun n hc => hc.mono fun e w' ⟨he, hb'⟩ => ⟨he, h.went hb'⟩
  by_cases hs : s.size ≠ 4096 ∨ next.length ≠ 32
  · rw [if_pos hs]
    exact fin 2 ((close_arg P w s next ck hs).mono fun e w' ⟨he, hw⟩ => ⟨he, hw ▸ Below.refl _ _⟩)
  · rw [if_neg hs]
    have hs1 : s.size = 4096 := by omega
    have hs2 : next.length = 32 := by omega
    by_cases hn : noNext j ck = 0
    · rw [if_neg (fun e => e hn)]
      by_cases he : j.last.e = 4294967295
      · rw [if_pos he]
        exact fin 6 (close_last h s hs1 next hs2 ck hn he)
      · rw [if_neg he]
        by_cases hd : (j.used : Int) < GeoN.data j.last.b j.last.l j.last.f
        · rw [if_neg (fun e => e hd)]
          exact close_ok h s hs1 next hs2 ck hn he hd
        · rw [if_pos hd]
          exact fin 6 (close_full h s hs1 next hs2 ck hn he hd)
    · rw [if_pos hn]
      exact fin _ (close_next h s hs1 next hs2 ck hn)
end
end Go.Proofs.YtoilcieineejiaaGreatDoor.JouG
/- The program's journal: what everybody calls, but Format and Open: the walks of their texts. No conditions but those that each lemma names. -/
namespace Go.Proofs.YtoilcieineejiaaGreatDoor.JouH
set_option linter.unusedVariables false
open Go.RowKit
open DkN DkM JouN JouP JouQ JouR JouS JouC JouW JouX JouY JouZ JouB JouD JouE JouF JouG
open SupP (Gl)
open SupC (infoS one7)
section
variable {base J P S b : Nat} {bv cv : Value} {D : Dk} {j : Jo} {w : World}
theorem tells_no (h : Jm base J P S b bv cv D j w) (n : Nat) {e : Ending} {w' : World} (he : e = .returned (.tuple #[.int .i64 0, .int .i64 (n : Nat)])) (hw : w = w') : Tells (no_ n D j) base J P S b bv cv w e w' := ⟨he, hw ▸ h.went (Below.refl _ _)⟩
theorem says_no (h : Jm base J P S b bv cv D j w) (n : Nat) {e : Ending} {w' : World} (he : e = .returned (.int .i64 (n : Nat))) (hw : w = w') : Says (no_ n D j) base J P S b bv cv w e w' := ⟨he, hw ▸ h.went (Below.refl _ _)⟩
theorem Append (h : Jm base J P S b bv cv D j w) (s : ByteArray) :
    Calls Tryz.prog 24 #[.pointer (some ⟨J, 0, none⟩), .string s] w (Tells (appendJ D j s) base J P S b bv cv w) := by
  have HR := Lib.hid (JouG.ready h)
  have k0 : w.cell? ⟨J, 0, none⟩ = some (.pointer (some ⟨P, 0, none⟩)) := blk_cell h.jo rfl
  cases hb : j.broken
  · have HA := Lib.hid (append_any h hb s)
    rw [hb] at HR
    clear h hb
    go_enter Tryz.func24, Tryz.ntmps24
    go_wp2_with (first
      | (go_at_call 56; refine HR.out.mono ?_; rintro e _ ⟨rfl, rfl⟩)
      | (go_at_call 59; refine HA.out.mono ?_; rintro e w2 ⟨rfl, hw2⟩; have W2 := Lib.hid hw2; clear hw2))
    go_ret2
    exact ⟨rfl, W2.out⟩
  · have HF : Hid (∀ (e : Ending) (w' : World), e = .returned (.tuple #[.int .i64 0, .int .i64 (14 : Nat)]) → w = w' → Tells (appendJ D j s) base J P S b bv cv w e w') := Lib.hid (fun e w' he hw => by
      unfold appendJ
      rw [if_pos hb]
      exact tells_no h 14 he hw)
    rw [hb] at HR
    clear h hb
    go_enter Tryz.func24, Tryz.ntmps24
    go_wp2_with (go_at_call 56; refine HR.out.mono ?_; rintro e _ ⟨rfl, rfl⟩)
    go_ret2
    exact HF.out _ _ rfl rfl
theorem Commit (h : Jm base J P S b bv cv D j w) (ck : Int) :
    Calls Tryz.prog 26 #[.pointer (some ⟨J, 0, none⟩), .int .i64 ck] w (Says (commitJ D j ck) base J P S b bv cv w) := by
  have HR := Lib.hid (JouG.ready h)
  have k0 : w.cell? ⟨J, 0, none⟩ = some (.pointer (some ⟨P, 0, none⟩)) := blk_cell h.jo rfl
  cases hb : j.broken
  · have HA := Lib.hid (commit_any h hb ck)
    rw [hb] at HR
    clear h hb
    go_enter Tryz.func26, Tryz.ntmps26
    go_wp2_with (first
      | (go_at_call 56; refine HR.out.mono ?_; rintro e _ ⟨rfl, rfl⟩)
      | (go_at_call 62; refine HA.out.mono ?_; rintro e w2 ⟨rfl, hw2⟩; have W2 := Lib.hid hw2; clear hw2))
    go_ret
    exact ⟨rfl, W2.out⟩
  · have HF : Hid (∀ (e : Ending) (w' : World), e = .returned (.int .i64 (14 : Nat)) → w = w' → Says (commitJ D j ck) base J P S b bv cv w e w') := Lib.hid (fun e w' he hw => by
      unfold commitJ
      rw [if_pos hb]
      exact says_no h 14 he hw)
    rw [hb] at HR
    clear h hb
    go_enter Tryz.func26, Tryz.ntmps26
    go_wp2_with (go_at_call 56; refine HR.out.mono ?_; rintro e _ ⟨rfl, rfl⟩)
    go_ret
    exact HF.out _ _ rfl rfl
theorem Close (h : Jm base J P S b bv cv D j w) (s : ByteArray) (next : List UInt8) (ck : Int) :
    Calls Tryz.prog 21 #[.pointer (some ⟨J, 0, none⟩), .string s, .string ⟨next.toArray⟩, .int .i64 ck] w (Tells (closeJ D j s next ck) base J P S b bv cv w) := by
  have HR := Lib.hid (JouG.ready h)
  have k0 : w.cell? ⟨J, 0, none⟩ = some (.pointer (some ⟨P, 0, none⟩)) := blk_cell h.jo rfl
  cases hb : j.broken
  · have HA := Lib.hid (close_any h hb s next ck)
    rw [hb] at HR
    clear h hb
    go_enter Tryz.func21, Tryz.ntmps21
    go_wp2_with (first
      | (go_at_call 56; refine HR.out.mono ?_; rintro e _ ⟨rfl, rfl⟩)
      | (go_at_call 57; refine HA.out.mono ?_; rintro e w2 ⟨rfl, hw2⟩; have W2 := Lib.hid hw2; clear hw2))
    go_ret2
    exact ⟨rfl, W2.out⟩
  · have HF : Hid (∀ (e : Ending) (w' : World), e = .returned (.tuple #[.int .i64 0, .int .i64 (14 : Nat)]) → w = w' → Tells (closeJ D j s next ck) base J P S b bv cv w e w') := Lib.hid (fun e w' he hw => by
      unfold closeJ
      rw [if_pos hb]
      exact tells_no h 14 he hw)
    rw [hb] at HR
    clear h hb
    go_enter Tryz.func21, Tryz.ntmps21
    go_wp2_with (go_at_call 56; refine HR.out.mono ?_; rintro e _ ⟨rfl, rfl⟩)
    go_ret2
    exact HF.out _ _ rfl rfl
theorem flu_row (h : Jm base J P S b bv cv D j w) (w3 : World) (hb : Below w.heap.size w w3) :
    Calls Tryz.prog 63 #[.pointer (some ⟨P, 0, none⟩), .slice (some ⟨w3.heap.size, 0, none⟩) 1 1] (w3.alloc (.cells #[.func (.func 41) #[.pointer (some ⟨b, 0, none⟩)] #[]] 88))
      fun e w' => e = .returned (.int .i64 ((fluR D j).e : Nat)) ∧ Went base J P S b bv cv (fluR D j).D (fluR D j).j w w' := by
  have r4 : _ = some (Obj.cells [Value.func (.func 41) #[.pointer (some ⟨b, 0, none⟩)] #[]].toArray 88 (0, 0)) := heap_alloc_new w3 (.cells #[.func (.func 41) #[.pointer (some ⟨b, 0, none⟩)] #[]] 88)
  have hb4 := hb.alloc hb.size (.cells #[.func (.func 41) #[.pointer (some ⟨b, 0, none⟩)] #[]] 88)
  generalize w3.alloc (.cells #[.func (.func 41) #[.pointer (some ⟨b, 0, none⟩)] #[]] 88) = w4 at *
  have h4 := h.step hb4
  have fs : Stps (RJ w4 P S b bv cv j.broken) [Value.func (.func 41) #[.pointer (some ⟨b, 0, none⟩)] #[]] ([[Ac.fl]].map (Lens.fst SupN.Sb).act) := .cons (stp_fl fr_RJ) .nil
  refine (do_ h4.dk h4.po _ 1 1 _ _ rfl (by omega) (stay_at (stay_RJ h4.dk r4 (ne_P h4.po r4 (by decide)) (by decide) (by decide) (.inl (by decide)))) fs).mono ?_
  rintro e w' ⟨rfl, hR⟩
  rw [runS_flat] at hR ⊢
  exact ⟨rfl, went_rj h (.of_below hb4) h4.sp hR h.may ⟨rfl, rfl, rfl⟩ h.few⟩
set_option maxRecDepth 100000 in
theorem Flush (h : Jm base J P S b bv cv D j w) :
    Calls Tryz.prog 28 #[.pointer (some ⟨J, 0, none⟩)] w (Says (flushJ D j) base J P S b bv cv w) := by
  have HR := Lib.hid (JouG.ready h)
  have k0 : w.cell? ⟨J, 0, none⟩ = some (.pointer (some ⟨P, 0, none⟩)) := blk_cell h.jo rfl
  have k1 : w.cell? ⟨P, 1, none⟩ = some (.pointer (some ⟨b, 0, none⟩)) := blk_cell h.po rfl
  cases hb : j.broken
  · have HA : Hid (Calls Tryz.prog 63 #[.pointer (some ⟨P, 0, none⟩), .slice (some ⟨w.heap.size, 0, none⟩) 1 1] (w.alloc (.cells #[.func (.func 41) #[.pointer (some ⟨b, 0, none⟩)] #[]] 88)).drew
      fun e w' => e = .returned (.int .i64 ((fluR D j).e : Nat)) ∧ Went base J P S b bv cv (fluR D j).D (fluR D j).j w w') := Lib.hid (flu_row h w.drew (Below.refl _ _).drew)
    have e1 : flushJ D j = fluR D j := by unfold flushJ; rw [if_neg (by rw [hb]; decide)]
    have HB : Hid (∀ W : World, Below w.heap.size w W → W.cell? ⟨J, 0, none⟩ = some (.pointer (some ⟨P, 0, none⟩)) ∧ W.cell? ⟨P, 1, none⟩ = some (.pointer (some ⟨b, 0, none⟩))) := Lib.hid (fun W h1 => ⟨blk_cell (h.step h1).jo rfl, blk_cell (h.step h1).po rfl⟩)
    have hmf := makes
    rw [hb] at HR
    rw [e1]
    clear h hb e1
    generalize fluR D j = r at *
    go_enter Tryz.func28, Tryz.ntmps28
    go_upto_region 4 with (go_at_call 56; refine HR.out.mono ?_; rintro e _ ⟨rfl, rfl⟩)
    go_region_held3 (fun W => W.cell? ⟨J, 0, none⟩ = some (.pointer (some ⟨P, 0, none⟩)) ∧ W.cell? ⟨P, 1, none⟩ = some (.pointer (some ⟨b, 0, none⟩)))
      (first | exact ⟨k0, k1⟩ | exact HB.out _ ((Below.refl _ _).drew.alloc (Nat.le_refl _) _) | exact hS1)
      ((go_at_call 63; refine HA.out.mono ?_; rintro e w3 ⟨rfl, hw3⟩; have W3 := Lib.hid hw3; have hS1 : w3.cell? ⟨J, 0, none⟩ = some (.pointer (some ⟨P, 0, none⟩)) ∧ w3.cell? ⟨P, 1, none⟩ = some (.pointer (some ⟨b, 0, none⟩)) := (by obtain ⟨c6, h6, _⟩ := hw3; exact ⟨blk_cell h6.jo rfl, blk_cell h6.po rfl⟩); clear hw3))
    all_goals (go_wp2_with fail; go_ret; exact ⟨rfl, W3.out⟩)
  · have HF : Hid (∀ (e : Ending) (w' : World), e = .returned (.int .i64 (14 : Nat)) → w = w' → Says (flushJ D j) base J P S b bv cv w e w') := Lib.hid (fun e w' he hw => by
      unfold flushJ
      rw [if_pos hb]
      exact says_no h 14 he hw)
    rw [hb] at HR
    clear h hb
    go_enter Tryz.func28, Tryz.ntmps28
    go_wp2_with (go_at_call 56; refine HR.out.mono ?_; rintro e _ ⟨rfl, rfl⟩)
    go_ret
    exact HF.out _ _ rfl rfl
theorem Used (h : Jm base J P S b bv cv D j w) : Calls Tryz.prog 29 #[.pointer (some ⟨J, 0, none⟩)] w fun e w' => e = .returned (.int .i64 j.used) ∧ w = w' := by
  have k0 : w.cell? ⟨J, 0, none⟩ = some (.pointer (some ⟨P, 0, none⟩)) := blk_cell h.jo rfl
  have k1 : w.cell? ⟨P, 0, none⟩ = some (.pointer (some ⟨S, 0, none⟩)) := blk_cell h.po rfl
  have HN := Lib.hid (isNone_no J P w k0)
  have HU := Lib.hid (SpaE.Used S j.last.b j.last.l j.last.f j.used w h.sp (bne0 h))
  clear h
  go_enter Tryz.func29, Tryz.ntmps29
  go_wp2_with (first
    | (go_at_call 55; refine HN.out.mono ?_; rintro e _ ⟨rfl, rfl⟩)
    | (go_at_call 60; refine HU.out.mono ?_; rintro e _ ⟨rfl, rfl⟩))
  go_ret
  exact ⟨rfl, rfl⟩
theorem Room (h : Jm base J P S b bv cv D j w) : Calls Tryz.prog 30 #[.pointer (some ⟨J, 0, none⟩)] w fun e w' => e = .returned (.int .i64 (GeoN.room j.last.b j.last.l j.last.f j.used)) ∧ Below w.heap.size w w' := by
  have k0 : w.cell? ⟨J, 0, none⟩ = some (.pointer (some ⟨P, 0, none⟩)) := blk_cell h.jo rfl
  have k1 : w.cell? ⟨P, 0, none⟩ = some (.pointer (some ⟨S, 0, none⟩)) := blk_cell h.po rfl
  have hu := used_le h
  have HN := Lib.hid (isNone_no J P w k0)
  have HU := Lib.hid (SpaE.Room S j.last.b j.last.l j.last.f j.used w h.sp (bne0 h) h.gd.g.bn (by omega))
  clear h hu
  go_enter Tryz.func30, Tryz.ntmps30
  go_wp2_with (first
    | (go_at_call 55; refine HN.out.mono ?_; rintro e _ ⟨rfl, rfl⟩)
    | (go_at_call 65; refine HU.out.mono ?_; rintro e w2 ⟨rfl, hb2⟩; have B2 := Lib.hid hb2; clear hb2))
  go_ret
  exact ⟨rfl, B2.out⟩
set_option maxRecDepth 100000 in
theorem Super (h : Jm base J P S b bv cv D j w) : Calls Tryz.prog 19 #[.pointer (some ⟨J, 0, none⟩)] w fun e w' => e = .returned (.agg #[.int .i64 j.last.g, .int .i64 j.last.t, .int .i64 j.last.e, .int .i64 j.last.k, .int .i64 j.last.b, .int .i64 j.last.l, .int .i64 j.last.f]) ∧ Below w.heap.size w w' := by
  obtain ⟨W1, hW1⟩ : ∃ W1, W1 = w.alloc (.cells #[.int .i64 0, .int .i64 0, .int .i64 0, .int .i64 0, .int .i64 0, .int .i64 0, .int .i64 0] 53) := ⟨_, rfl⟩
  have B1 : Hid (Below w.heap.size w W1) := Lib.hid (by rw [hW1]; exact below_new _ _)
  have X1 : Hid (W1.heap[w.heap.size]? = some (.cells #[.int .i64 0, .int .i64 0, .int .i64 0, .int .i64 0, .int .i64 0, .int .i64 0, .int .i64 0] 53 (0, 0))) := Lib.hid (by rw [hW1]; exact heap_alloc_new w _)
  have h1 := h.step B1.out
  have k0 : W1.cell? ⟨J, 0, none⟩ = some (.pointer (some ⟨P, 0, none⟩)) := blk_cell h1.jo rfl
  have p2 := blk_cell (i := 2) (u := .int .i64 j.last.g) h1.po rfl
  have p3 := blk_cell (i := 3) (u := .int .i64 j.last.t) h1.po rfl
  have p4 := blk_cell (i := 4) (u := .int .i64 j.last.e) h1.po rfl
  have p5 := blk_cell (i := 5) (u := .int .i64 j.last.k) h1.po rfl
  have p6 := blk_cell (i := 6) (u := .int .i64 j.last.b) h1.po rfl
  have p7 := blk_cell (i := 7) (u := .int .i64 j.last.l) h1.po rfl
  have p8 := blk_cell (i := 8) (u := .int .i64 j.last.f) h1.po rfl
  have HN := Lib.hid (isNone_no J P W1 k0)
  clear h h1
  go_enter Tryz.func19, Tryz.ntmps19
  go_upto_region 1 with (fail)
  rw [← hW1]
  clear hW1
  go_upto_region 3 with (go_at_call 55; refine HN.out.mono ?_; rintro e _ ⟨rfl, rfl⟩)
  go_wp2_with (refine wpList_store_row rfl 53 _ _ rfl (w.heap.size) _ rfl rfl 53 _ X1.out infoS rfl (one7 j.last.g j.last.t j.last.e j.last.k j.last.b j.last.l j.last.f) ?_)
  refine bodyPost_ret (v := .agg #[.int .i64 j.last.g, .int .i64 j.last.t, .int .i64 j.last.e, .int .i64 j.last.k, .int .i64 j.last.b, .int .i64 j.last.l, .int .i64 j.last.f])
    (results_cell_row Tryz.results19 _ _ w.heap.size 53 _ (0, 0) _ rfl (setRow_same X1.out) Tryz.underlying53 rfl infoS) rfl
    ⟨rfl, below_setRow B1.out (Nat.le_refl _) _⟩
end
theorem Append_none (p : Option Addr) (w : World) (h : NonJ w p) (s : ByteArray) : Calls Tryz.prog 24 #[.pointer p, .string s] w fun e w' => e = .returned (.tuple #[.int .i64 0, .int .i64 1]) ∧ w = w' := by
  have HR := Lib.hid (ready_none p w h)
  clear h
  go_enter Tryz.func24, Tryz.ntmps24
  go_wp2_with (go_at_call 56; refine HR.out.mono ?_; rintro e _ ⟨rfl, rfl⟩)
  go_ret2
  exact ⟨rfl, rfl⟩
theorem Commit_none (p : Option Addr) (w : World) (h : NonJ w p) (ck : Int) : Calls Tryz.prog 26 #[.pointer p, .int .i64 ck] w fun e w' => e = .returned (.int .i64 1) ∧ w = w' := by
  have HR := Lib.hid (ready_none p w h)
  clear h
  go_enter Tryz.func26, Tryz.ntmps26
  go_wp2_with (go_at_call 56; refine HR.out.mono ?_; rintro e _ ⟨rfl, rfl⟩)
  go_ret
  exact ⟨rfl, rfl⟩
theorem Close_none (p : Option Addr) (w : World) (h : NonJ w p) (s x : ByteArray) (ck : Int) : Calls Tryz.prog 21 #[.pointer p, .string s, .string x, .int .i64 ck] w fun e w' => e = .returned (.tuple #[.int .i64 0, .int .i64 1]) ∧ w = w' := by
  have HR := Lib.hid (ready_none p w h)
  clear h
  go_enter Tryz.func21, Tryz.ntmps21
  go_wp2_with (go_at_call 56; refine HR.out.mono ?_; rintro e _ ⟨rfl, rfl⟩)
  go_ret2
  exact ⟨rfl, rfl⟩
theorem Over_none (p : Option Addr) (w : World) (h : NonJ w p) (i : Int) (s : ByteArray) : Calls Tryz.prog 27 #[.pointer p, .int .i64 i, .string s] w fun e w' => e = .returned (.int .i64 1) ∧ w = w' := by
  have HR := Lib.hid (ready_none p w h)
  clear h
  go_enter Tryz.func27, Tryz.ntmps27
  go_wp2_with (go_at_call 56; refine HR.out.mono ?_; rintro e _ ⟨rfl, rfl⟩)
  go_ret
  exact ⟨rfl, rfl⟩
theorem Flush_none (p : Option Addr) (w : World) (h : NonJ w p) : Calls Tryz.prog 28 #[.pointer p] w fun e w' => e = .returned (.int .i64 1) ∧ w = w' := by
  have HR := Lib.hid (ready_none p w h)
  clear h
  go_enter Tryz.func28, Tryz.ntmps28
  go_wp2_with (go_at_call 56; refine HR.out.mono ?_; rintro e _ ⟨rfl, rfl⟩)
  go_ret
  exact ⟨rfl, rfl⟩
theorem Read_none (p : Option Addr) (w : World) (h : NonJ w p) (i : Int) : Calls Tryz.prog 25 #[.pointer p, .int .i64 i] w fun e w' => e = .returned (.tuple #[.string ⟨#[]⟩, .int .i64 1]) ∧ w = w' := by
  have HR := Lib.hid (ready_none p w h)
  clear h
  go_enter Tryz.func25, Tryz.ntmps25
  go_wp2_with (go_at_call 56; refine HR.out.mono ?_; rintro e _ ⟨rfl, rfl⟩)
  go_ret2
  exact ⟨rfl, rfl⟩
theorem Used_none (p : Option Addr) (w : World) (h : NonJ w p) : Calls Tryz.prog 29 #[.pointer p] w fun e w' => e = .returned (.int .i64 0) ∧ w = w' := by
  have HN := Lib.hid (isNone_yes p w h)
  clear h
  go_enter Tryz.func29, Tryz.ntmps29
  go_wp2_with (go_at_call 55; refine HN.out.mono ?_; rintro e _ ⟨rfl, rfl⟩)
  go_ret
  exact ⟨rfl, rfl⟩
theorem Room_none (p : Option Addr) (w : World) (h : NonJ w p) : Calls Tryz.prog 30 #[.pointer p] w fun e w' => e = .returned (.int .i64 0) ∧ w = w' := by
  have HN := Lib.hid (isNone_yes p w h)
  clear h
  go_enter Tryz.func30, Tryz.ntmps30
  go_wp2_with (go_at_call 55; refine HN.out.mono ?_; rintro e _ ⟨rfl, rfl⟩)
  go_ret
  exact ⟨rfl, rfl⟩
theorem NonJ.step {p : Option Addr} {w w' : World} (h : NonJ w p) (hb : Below w.heap.size w w') : NonJ w' p := by
  rcases h with h | ⟨J, h1, h2⟩
  · exact .inl h
  · exact .inr ⟨J, h1, (hb.cell (p := ⟨J, 0, none⟩) (World.block_lt_of_cell? w _ h2)).trans h2⟩
set_option maxRecDepth 100000 in
theorem Super_none (p : Option Addr) (w : World) (h : NonJ w p) : Calls Tryz.prog 19 #[.pointer p] w fun e w' => e = .returned (.agg #[.int .i64 0, .int .i64 0, .int .i64 0, .int .i64 0, .int .i64 0, .int .i64 0, .int .i64 0]) ∧ Below w.heap.size w w' := by
  obtain ⟨W1, hW1⟩ : ∃ W1, W1 = w.alloc (.cells #[.int .i64 0, .int .i64 0, .int .i64 0, .int .i64 0, .int .i64 0, .int .i64 0, .int .i64 0] 53) := ⟨_, rfl⟩
  have B1 : Hid (Below w.heap.size w W1) := Lib.hid (by rw [hW1]; exact below_new _ _)
  have X1 : Hid (W1.heap[w.heap.size]? = some (.cells #[.int .i64 0, .int .i64 0, .int .i64 0, .int .i64 0, .int .i64 0, .int .i64 0, .int .i64 0] 53 (0, 0))) := Lib.hid (by rw [hW1]; exact heap_alloc_new w _)
  have HN := Lib.hid (isNone_yes p W1 (NonJ.step h B1.out))
  clear h
  go_enter Tryz.func19, Tryz.ntmps19
  go_upto_region 1 with (fail)
  rw [← hW1]
  clear hW1
  go_wp2_with (first
    | (go_at_call 55; refine HN.out.mono ?_; rintro e _ ⟨rfl, rfl⟩)
    | (refine wpList_store_row rfl 53 _ _ rfl (w.heap.size) _ rfl rfl 53 _ X1.out infoS rfl (one7 0 0 0 0 0 0 0) ?_))
  refine bodyPost_ret (v := .agg #[.int .i64 0, .int .i64 0, .int .i64 0, .int .i64 0, .int .i64 0, .int .i64 0, .int .i64 0])
    (results_cell_row Tryz.results19 _ _ w.heap.size 53 _ (0, 0) _ rfl (setRow_same X1.out) Tryz.underlying53 rfl infoS) rfl
    ⟨rfl, below_setRow B1.out (Nat.le_refl _) _⟩
end Go.Proofs.YtoilcieineejiaaGreatDoor.JouH
