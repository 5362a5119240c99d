/- What the document's answer for layer 2 makes of a row of digits times a number: the walk of keepsakeref02.times. -/
import Derived.Test.YtkaeeedjkegdlaaDoorRPri
namespace Go.Proofs.YtkaeeedjkegdlaaDoor.RTim
open Go.RowKit
open RootN RPri
theorem info3 : (Tryd.prog.info? 3).map (fun i => (i.zero, i.size, i.bytes)) = some (some (.int .i64 0), 1, 8) := by kernel_rfl
/-- times with so much fuel behind the row. -/
def tf (f : Nat) : List Nat → Nat → Nat → List Nat
  | [], _, c => tl f c
  | d :: l, n, c => (c + d * n) % 65536 :: tf f l n ((c + d * n) / 65536)
theorem tf_four (l : List Nat) (n c : Nat) : tf 4 l n c = times l n c := by
  induction l generalizing c with
  | nil => rfl
  | cons d l ih => rw [tf, times, ih]
theorem tl_lt (f c : Nat) : ∀ d ∈ tl f c, d < 65536 := by
  induction f generalizing c with
  | zero => intro d hd; simp [tl] at hd
  | succ f ih =>
    intro d hd
    rw [tl] at hd
    split at hd
    · simp at hd
    · rcases List.mem_cons.1 hd with rfl | hd
      · exact Nat.mod_lt _ (by omega)
      · exact ih _ d hd
theorem times_lt (l : List Nat) (n c : Nat) : ∀ d ∈ times l n c, d < 65536 := by
  induction l generalizing c with
  | nil => exact tl_lt 4 c
  | cons x l ih =>
    intro d hd
    rcases List.mem_cons.1 hd with rfl | hd
    · exact Nat.mod_lt _ (by omega)
    · exact ih _ d hd
theorem tl_len (f c : Nat) : (tl f c).length ≤ f := by
  induction f generalizing c with
  | zero => simp [tl]
  | succ f ih =>
    rw [tl]
    split
    · simp
    · have := ih (c / 65536)
      simp only [List.length_cons]
      omega
theorem times_len (l : List Nat) (n c : Nat) : (times l n c).length ≤ l.length + 4 := by
  induction l generalizing c with
  | nil => have := tl_len 4 c; simpa [times] using this
  | cons x l ih =>
    have := ih ((c + x * n) / 65536)
    simp only [times, List.length_cons]
    omega
theorem drop_at (l : List Nat) (i : Nat) (h : i < l.length) : l.drop i = l.getD i 0 :: l.drop (i + 1) := by
  rw [List.drop_eq_getElem_cons h]
  simp [List.getD, h]
theorem getD_lt {l : List Nat} (h : ∀ d ∈ l, d < 65536) (i : Nat) : l.getD i 0 < 65536 := by
  rw [List.getD]
  cases hx : l[i]? with
  | none => simp
  | some x => exact h x (List.mem_of_getElem? hx)
/-- What is left to be laid, digit i being next. -/
def At (l : List Nat) (k i c : Nat) (r : List Nat) : Prop := ∃ f, r ++ tf f (l.drop i) k c = times l k 0 ∧ (i < l.length → f = 4) ∧ c < 65536 ^ f ∧ c < 137438953472 ∧ r.length = i ∧ i + f ≤ l.length + 4
theorem at_zero (l : List Nat) (k : Nat) : At l k 0 0 [] := ⟨4, by simp [tf_four], fun _ => rfl, by omega, by omega, rfl, by omega⟩
theorem at_in {l : List Nat} {k i c : Nat} {r : List Nat} (h : At l k i c r) (hl : ∀ d ∈ l, d < 65536) (hk : k ≤ 137438953472) (hi : i < l.length) :
    At l k (i + 1) ((c + l.getD i 0 * k) / 65536) (r ++ [(c + l.getD i 0 * k) % 65536]) := by
  obtain ⟨f, h1, h2, h3, h4, h5, h6⟩ := h
  obtain rfl := h2 hi
  have hd := getD_lt hl i
  have hm : l.getD i 0 * k ≤ 65535 * 137438953472 := Nat.mul_le_mul (by omega) hk
  rw [drop_at l i hi, tf] at h1
  exact ⟨4, by rw [List.append_assoc]; exact h1, fun _ => rfl, by omega, by omega, by simp [h5], by omega⟩
theorem at_out {l : List Nat} {k i c : Nat} {r : List Nat} (h : At l k i c r) (hi : ¬ i < l.length) (hc : 0 < c) :
    At l k (i + 1) (c / 65536) (r ++ [c % 65536]) := by
  obtain ⟨f, h1, h2, h3, h4, h5, h6⟩ := h
  rw [List.drop_of_length_le (by omega), tf] at h1
  cases f with
  | zero => omega
  | succ f =>
    rw [tl, if_neg (by omega)] at h1
    rw [Nat.pow_succ] at h3
    refine ⟨f, ?_, fun h => absurd h (by omega), ?_, by omega, by simp [h5], by omega⟩
    · rw [List.drop_of_length_le (by omega), tf, List.append_assoc]
      exact h1
    · exact Nat.div_lt_of_lt_mul (by rw [Nat.mul_comm]; exact h3)
theorem at_end {l : List Nat} {k i c : Nat} {r : List Nat} (h : At l k i c r) (hi : ¬ i < l.length) (hc : ¬ 0 < c) : r = times l k 0 := by
  obtain ⟨f, h1, h2, h3, h4, h5, h6⟩ := h
  obtain rfl : c = 0 := by omega
  rw [List.drop_of_length_le (by omega), tf] at h1
  rw [← h1]
  cases f with
  | zero => simp [tl]
  | succ f => simp [tl]
theorem at_le {l : List Nat} {k i c : Nat} {r : List Nat} (h : At l k i c r) : c < 137438953472 ∧ i ≤ l.length + 4 ∧ r.length = i := by
  obtain ⟨f, h1, h2, h3, h4, h5, h6⟩ := h
  exact ⟨h4, by omega, h5⟩
theorem news_one (w : World) (x : Int) : ∀ j u, ([.int .i64 x] : List Value)[j]? = some u → (w.alloc (.cells #[.int .i64 x] 3)).cell? ((⟨w.heap.size, 0, none⟩ : Addr).add j) = some u := by
  intro j u hu
  rcases j with _ | j
  · simp only [List.getElem?_cons_zero, Option.some.injEq] at hu
    subst hu
    simp [Addr.add]
  · simp at hu
theorem below_own {w1 w2 : World} {o : Obj} {B n : Nat} {v : Value} {xs : List Value} (hB : B ≤ w1.heap.size) (h : (w1.alloc o).ownsRow B 3 1 v n xs) (hg : (w1.alloc o).grownBy w2 v.ownBlock) : Below B w1 w2 :=
  ((Below.refl B w1).alloc hB o).grown hg (by simp; omega) (fun k hk => (h.lt k hk).1)
def cs (r : List Nat) : List Value := (zs r).map (Value.int .i64)
theorem cs_snoc (r : List Nat) (x : Nat) : cs (r ++ [x]) = cs r ++ [.int .i64 (x : Int)] := by simp [cs, zs]
/-- What times leaves: a slice of its own with the digits. -/
def Post (r : List Nat) (w : World) (e : Ending) (w' : World) : Prop :=
  ∃ a n c, e = .returned (.slice a n c) ∧ w'.ownsRow w.heap.size 3 1 (.slice a n c) r.length (cs r) ∧ Below w.heap.size w w'
set_option maxRecDepth 100000 in
theorem any (aw : Option Addr) (n cw : Nat) (l : List Nat) (k : Nat) (w : World) (hw : Row w w.heap.size aw n (zs l)) (hd : ∀ d ∈ l, d < 65536) (hn : n ≤ 1000) (hk : k ≤ 137438953472) :
    Calls Tryd.prog 63 #[.slice aw n cw, .int .i64 k] w (Post (times l k 0) w) := by
  obtain ⟨i0, hi0, hz0, hz1, hz2⟩ := info_parts info3
  have hln : l.length = n := by simpa [zs] using hw.1
  have HW := Lib.hid hw
  have HD := Lib.hid hd
  clear hw hd
  go_enter Tryd.func63, Tryd.ntmps63
  go_wp2_with fail
  go_loopw [5, 6, 7] (fun o c i wr => ∃ (j x : Nat) (r : List Nat) (va : Option Addr) (vn vc : Nat), j ≤ n + 4 ∧ x < 137438953472 ∧ i = .int .i64 j ∧ c = .int .i64 x ∧ o = .slice va vn vc ∧ Hid (At l k j x r) ∧
    Hid (wr.ownsRow w.heap.size 3 1 (.slice va vn vc) j (cs r)) ∧ Below w.heap.size w wr) (fun _ c i _ => (n - (intOf i).toNat) * 274877906944 + (intOf c).toNat)
  case atStart => exact ⟨0, 0, [], none, 0, 0, Nat.zero_le _, by omega, rfl, rfl, rfl, at_zero l k, World.ownsRow_nil _ _ _ _, Below.refl _ _⟩
  case round =>
    obtain ⟨j, x, r, va, vn, vc, hj, hx, rfl, rfl, rfl, hat, hown, hbel⟩ := hrel
    have hrsz : w.heap.size ≤ wr.heap.size := hbel.size
    by_cases hlt : j < n
    · obtain ⟨b1, o1, rfl, hb1, hc1⟩ := (HW.out.below hbel).2 (by omega)
      have hy := hc1 j hlt
      rw [zs_at] at hy
      have HX := Lib.hid (at_in hat.out HD.out hk (by omega))
      have hyb := getD_lt HD.out j
      have HB := Lib.hid hbel
      clear hc1 hbel hat
      generalize l.getD j 0 = y at *
      have hmb : y * k ≤ 9007061815787520 := Nat.mul_le_mul (show y ≤ 65535 by omega) hk
      have hw1 : wrap64 ((y : Int) * (k : Int)) = ((y * k : Nat) : Int) := by
        rw [← Int.natCast_mul]
        exact IntWalk.wrap64_in ((y * k : Nat) : Int) (by omega)
      generalize y * k = m at *
      have HXX := Lib.hid (at_le HX.out)
      have HKK := Lib.hid hk
      have HLN := Lib.hid hln
      have HYB := Lib.hid hyb
      clear hyb hk hln
      have HO1 := Lib.hid (hown.out.alloc (.cells #[.int .i64 (((x : Int) + (m : Int)) % 65536)] 3))
      have Hnew := Lib.hid (news_one wr (((x : Int) + (m : Int)) % 65536))
      have hfin : Hid (∀ (w2 : World) (v : Value), w2.ownsRow w.heap.size 3 1 v (j + 1) (cs r ++ [.int .i64 (((x : Int) + (m : Int)) % 65536)]) → w2.ownsRow w.heap.size 3 1 v (j + 1) (cs (r ++ [(x + m) % 65536]))) := by
        intro w2 v h
        rw [cs_snoc]
        exact h
      go_wp2_with
        (first
          | (at_builtin
             refine wpList_append_own _ rfl _ _ _ rfl w.heap.size 3 i0 (.int .i64 0) 1 8 Tryd.underlying95 hi0 hz0 hz1 hz2 rfl (by decide) (.slice va vn vc) j _ rfl HO1.out ⟨wr.heap.size, 0, none⟩ 1 1 [.int .i64 (((x : Int) + (m : Int)) % 65536)] rfl rfl Hnew.out (by simp [Value.oneCell']) (by unfold maxLen; omega) (by omega) (by simp; omega) ?_
             intro v' w2 hown2 hg2 hnil2
             obtain ⟨a', n', c', rfl⟩ := own_slice hown2
             have hb2 := below_own hrsz HO1.out hg2
             have HB2 := Lib.hid (HB.out.trans hb2)
             have HO2 := Lib.hid hown2
             clear hown2 hg2 hnil2 hb2))
      go_roundw
      case rel => exact ⟨j + 1, (x + m) / 65536, r ++ [(x + m) % 65536], a', n', c', by omega, HXX.out.1, by go_num, by go_num, rfl, HX, hfin.out _ _ HO2.out, HB2.out⟩
      case measure => simp [intOf]; omega
    · by_cases hx0 : 0 < x
      · have HX := Lib.hid (at_out hat.out (by omega) hx0)
        have HB := Lib.hid hbel
        clear hbel hat
        have HXX := Lib.hid (at_le HX.out)
        have hj5 : j + 1 ≤ n + 4 := by have := HXX.out.2.1; omega
        clear hk hln
        have HO1 := Lib.hid (hown.out.alloc (.cells #[.int .i64 ((x : Int) % 65536)] 3))
        have Hnew := Lib.hid (news_one wr ((x : Int) % 65536))
        have hfin : Hid (∀ (w2 : World) (v : Value), w2.ownsRow w.heap.size 3 1 v (j + 1) (cs r ++ [.int .i64 ((x : Int) % 65536)]) → w2.ownsRow w.heap.size 3 1 v (j + 1) (cs (r ++ [x % 65536]))) := by
          intro w2 v h
          rw [cs_snoc]
          exact h
        go_wp2_with
          (first
            | (at_builtin
               refine wpList_append_own _ rfl _ _ _ rfl w.heap.size 3 i0 (.int .i64 0) 1 8 Tryd.underlying95 hi0 hz0 hz1 hz2 rfl (by decide) (.slice va vn vc) j _ rfl HO1.out ⟨wr.heap.size, 0, none⟩ 1 1 [.int .i64 ((x : Int) % 65536)] rfl rfl Hnew.out (by simp [Value.oneCell']) (by unfold maxLen; omega) (by omega) (by simp; omega) ?_
               intro v' w2 hown2 hg2 hnil2
               obtain ⟨a', n', c', rfl⟩ := own_slice hown2
               have hb2 := below_own hrsz HO1.out hg2
               have HB2 := Lib.hid (HB.out.trans hb2)
               have HO2 := Lib.hid hown2
               clear hown2 hg2 hnil2 hb2))
        go_roundw
        case rel => exact ⟨j + 1, x / 65536, r ++ [x % 65536], a', n', c', hj5, HXX.out.1, by go_num, by go_num, rfl, HX, hfin.out _ _ HO2.out, HB2.out⟩
        case measure => simp [intOf]; omega
      · have HE := Lib.hid (at_end hat.out (by omega) hx0)
        have HL := Lib.hid (at_le hat.out).2.2
        have HB := Lib.hid hbel
        clear hbel hat
        go_wp2_with fail
        go_ret
        rw [← HE.out]
        exact ⟨_, _, _, rfl, HL.out ▸ hown.out, HB.out⟩
end Go.Proofs.YtkaeeedjkegdlaaDoor.RTim
