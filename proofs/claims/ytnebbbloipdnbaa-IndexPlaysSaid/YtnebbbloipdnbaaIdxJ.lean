/- places: the walk of its text. The condition: that the row stands in its order. -/
import Derived.Test.YtnebbbloipdnbaaIdxI
import Derived.Maps.AppendAt
import Derived.Lib.SliceRun
namespace Go.Proofs.Ytnebbbloipdnbaa.IdxJ
open Go.RowKit
open IdxN IdxM IdxC IdxL IdxS IdxD IdxF IdxG IdxH IdxI
theorem info_int : ((Try.prog.info? 3).map fun i => (i.zero, i.size, i.bytes)) = some (some (.int .i64 0), 1, 8) := by kernel_rfl
def ic (l : List Int) : List Value := l.map (Value.int .i64)
theorem ic_append (l m : List Int) : ic (l ++ m) = ic l ++ ic m := List.map_append
/-- What places answers: a row of its own. -/
def Ints (out : List Int) (w : World) (e : Ending) (w' : World) : Prop := ∃ v, e = .returned v ∧ w'.ownsRow w.heap.size 3 1 v out.length (ic out) ∧ Below w.heap.size w w'
theorem upto_mono {r : List V} (h : Sorted r) (x : Int) : Mono (upto x) r := h.mono fun a b hab hb => by
  unfold upto Lt at *
  rw [decide_eq_true_iff] at *
  omega
/-- What stands while places runs. -/
structure Pl (w : World) (l : List V) (r0 o : Value) (wr : World) (a : Option Addr) (c : Nat) (rest : List V) (out : List Int) : Prop where
  r0 : r0 = .slice a rest.length c
  cap : rest.length ≤ c
  le : rest.length ≤ l.length
  lies : Lies w a rest
  s : Sorted rest
  plc : plc l = out ++ plc rest
  few : out.length ≤ l.length
  own : wr.ownsRow w.heap.size 3 1 o out.length (ic out)
  bel : Below w.heap.size w wr
set_option maxRecDepth 100000 in
set_option maxHeartbeats 1000000 in
theorem cplaces (c : Nat) (a : Option Addr) (l : List V) (w : World) (hl : l.length ≤ 100000) (hc : l.length ≤ c) (hs : Sorted l) (h : Lies w a l) :
    Calls Try.prog 35 #[.slice a l.length c] w (Ints (plc l) w) := by
  have hP : Pl w l (.slice a l.length c) (.slice none 0 0) w a c l [] := ⟨rfl, hc, Nat.le_refl _, h, hs, rfl, Nat.zero_le _, World.ownsRow_nil _ _ _ _, Below.refl _ _⟩
  clear h hs
  have HP := Lib.hid hP
  clear hP
  obtain ⟨i0, hi, hz0, hz1, hz2⟩ := info_parts info_int
  go_enter Try.func35, Try.ntmps35
  go_wp2_with fail
  go_loopw [0, 3] (fun r0 o wr => ∃ a c rest out, Pl w l r0 o wr a c rest out) (fun r0 _ _ => match r0 with | .slice _ n _ => n | _ => 0)
  case atStart => exact ⟨_, _, _, _, HP.out⟩
  case round =>
    clear HP hc
    obtain ⟨a, c, rest, out, hp⟩ := hrel
    obtain rfl := hp.r0
    have HP := Lib.hid hp
    have hcap := hp.cap
    have hle := hp.le
    cases rest with
    | nil =>
      obtain ⟨va, vn, vc, rfl⟩ := own_slice hp.own
      clear hp
      go_wp2_with fail
      go_ret
      have e : IdxM.plc l = out := by have := HP.out.plc; simpa [IdxM.plc] using this
      rw [e]
      exact ⟨_, rfl, HP.out.own, HP.out.bel⟩
    | cons v t =>
      obtain ⟨g, o, rfl, hg, hat⟩ := (hp.lies.step hp.bel).at_ (by simp)
      have k0 : wr.cell? ⟨g, o, none⟩ = some (.int .i64 v.1) := by have := (hat 0 (by simp)).1; simpa using this
      have hz : 0 < (v :: t).length := by simp
      clear hat hp
      obtain ⟨L, hL⟩ : ∃ L, L = v :: t := ⟨_, rfl⟩
      obtain ⟨x, hx⟩ : ∃ x, x = v.1 := ⟨_, rfl⟩
      rw [← hL] at HP hz hle hcap
      rw [← hL]
      rw [← hx] at k0
      have HL := Lib.hid hL
      have HX := Lib.hid hx
      have hzi : (0 : Int) < (L.length : Int) := by omega
      have hfew := HP.out.few
      clear hL hx
      go_upto_region 4 with (fail)
      generalize hW : wr.alloc _ = W4
      have b4 : Below wr.heap.size wr W4 := by rw [← hW]; exact below_new _ _
      have x4 : W4.cell? ⟨wr.heap.size, 0, none⟩ = some (.int .i64 x) := by rw [← hW]; exact blk_cell (heap_alloc_new _ _) rfl
      clear hW k0
      have hlt := HP.out.own.lt
      have O4 := Lib.hid ((own_step HP.out.own b4).alloc (.cells #[.int .i64 x] 3))
      have B4 := Lib.hid (HP.out.bel.trans (b4.mono HP.out.bel.size))
      have X4 := Lib.hid (show (W4.alloc (.cells #[.int .i64 x] 3)).cell? ⟨wr.heap.size, 0, none⟩ = some (.int .i64 x) from ((below_new W4 _).cell (p := ⟨wr.heap.size, 0, none⟩) (World.block_lt_of_cell? W4 _ x4)).trans x4)
      have C4 := Lib.hid (cell_one_new W4 (.int .i64 x) 3)
      have LT := Lib.hid hlt
      clear b4 hlt
      go_upto_region 5 with (at_builtin; refine wpList_append_own _ rfl _ _ 56 rfl w.heap.size 3 i0 (.int .i64 0) 1 8 Try.underlying56 hi hz0 hz1 hz2 rfl (by decide) u3 out.length (ic out) rfl O4.out ⟨W4.heap.size, 0, none⟩ 1 1 [.int .i64 x] rfl rfl C4.out (by simp [Value.oneCell']) (by unfold maxLen; omega) (by omega) (Nat.le_trans B4.out.size (by simp)) ?_; intro v' w5 hown hgrow hnil)
      have x5 : w5.cell? ⟨wr.heap.size, 0, none⟩ = some (.int .i64 x) := hgrow.cell X4.out (fun e => by have := LT.out _ e.symm; dsimp only at this; omega)
      have B5 := Lib.hid (Below.grown (B4.out.trans ((below_new W4 (.cells #[.int .i64 x] 3)).mono B4.out.size)) hgrow (Nat.le_trans B4.out.size (by simp)) (fun k e => (LT.out k e).1))
      have O5 : Hid (w5.ownsRow w.heap.size 3 1 v' (out ++ [x]).length (ic (out ++ [x]))) := Lib.hid (by rw [ic_append, List.length_append]; exact hown)
      clear hown hgrow hnil X4 C4 O4 LT B4 x4
      have HC := Lib.hid (count 45 #[.pointer (some ⟨wr.heap.size, 0, none⟩)] (upto x) c (some ⟨g, o, none⟩) L w5 (by omega) (HP.out.lies.step B5.out) (upto_mono HP.out.s x) (fun _ _ => rfl) (fun V u hb => uptoC _ x u V ((hb.cell (p := ⟨wr.heap.size, 0, none⟩) (World.block_lt_of_cell? w5 _ x5)).trans x5)))
      have hk := cut_le (upto x) L
      obtain ⟨k, hkk⟩ : ∃ k, k = cut (upto x) L := ⟨_, rfl⟩
      rw [← hkk] at HC hk
      have HK := Lib.hid hkk
      clear hkk
      go_wp2_with (go_at_call 27; refine HC.out.mono ?_; rintro e w6 ⟨rfl, hb⟩; have B6 := Lib.hid (B5.out.trans (hb.mono B5.out.size)); have O6 := Lib.hid (own_step O5.out hb); clear hb HC)
      have hk1 : 0 < k := by
        rw [HK.out, HL.out, HX.out]
        unfold cut
        rw [List.takeWhile_cons_of_pos (by simp [upto])]
        simp
      have e : (L.drop k).length = L.length - k := List.length_drop
      have hpl : IdxM.plc l = (out ++ [x]) ++ IdxM.plc (L.drop k) := by
        have h1 := HP.out.plc
        have h2 := HP.out.s
        rw [HK.out, HX.out, HL.out] at *
        rw [plc_step v t h2] at h1
        rw [h1]
        simp
      refine ⟨⟨if c = k then some ⟨g, o, none⟩ else some ⟨g, o + k * 3, none⟩, c - k, L.drop k, out ++ [x], ⟨by rw [e], by rw [e]; omega, by rw [e]; omega, ?_, Sorted.drop HP.out.s k, hpl, ?_, O6.out, B6.out⟩⟩, by show L.length - k < L.length; omega⟩
      · by_cases hck : c = k
        · rw [List.drop_of_length_le (by omega)]
          exact Lies.nil _ _
        · rw [if_neg hck]
          exact HP.out.lies.drop k
      · have := plc_length l
        rw [hpl, List.length_append] at this
        omega
end Go.Proofs.Ytnebbbloipdnbaa.IdxJ
