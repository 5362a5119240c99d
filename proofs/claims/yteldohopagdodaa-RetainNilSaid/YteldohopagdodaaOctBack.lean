/- Plain mathematics: what was put is got, what was packed is unpacked, what has its length ahead is cut off again. No program is reached here. -/
import Derived.Test.YteldohopagdodaaOctUnp
namespace Go.Proofs.Yteldohopagdodaa
theorem put_facts (n width : Int) (hn : n ≤ 9223372036854775807) (h : (put n width).2 = 0) : 1 ≤ width ∧ width ≤ 8 ∧ (put n width).1.length = width.toNat ∧ get (put n width).1 = (n, 0) := by
  by_cases hg : 1 ≤ width ∧ width ≤ 8 ∧ 0 ≤ n ∧ n < 256 ^ width.toNat
  · obtain ⟨l, hl, h1, h2⟩ := put_ok n width h
    rw [hl]
    have hl1 : l.length = width.toNat := by omega
    refine ⟨hg.1, hg.2.1, hl1, ?_⟩
    rw [show ((l, (0 : Int)) : List UInt8 × Int).1 = l from rfl, get_good l (by omega) (by omega) (by omega), h2]
  · rw [put_bad n width hg] at h
    simp at h
theorem put_get (l : List UInt8) (h : (get l).2 = 0) : put (get l).1 (l.length : Int) = (l, 0) := by
  by_cases hg : 1 ≤ l.length ∧ l.length ≤ 8 ∧ num l < 9223372036854775808
  · obtain ⟨h1, h2, h3⟩ := hg
    rw [get_good l h1 h2 h3]
    show put (num l : Int) (l.length : Int) = _
    rw [put_good _ _ (by omega) (by omega) (by omega) (by rw [Int.toNat_natCast]; exact (lt256 _ _).2 (num_lt l)), Int.toNat_natCast, Int.toNat_natCast, be_num]
  · rw [get_bad l hg] at h
    simp at h
theorem cut_text (l r : List UInt8) (h : l.length < 4294967296) : cut (be 4 l.length ++ l ++ r) = (l, r, 0) := by
  have h4 := be_length 4 l.length
  have e1 : (be 4 l.length ++ l ++ r).take 4 = be 4 l.length := by
    rw [List.append_assoc, List.take_append_of_le_length (by omega), List.take_of_length_le (by omega)]
  have e2 : (be 4 l.length ++ l ++ r).drop 4 = l ++ r := by
    rw [List.append_assoc, List.drop_append_of_le_length (by omega), List.drop_of_length_le (by omega), List.nil_append]
  have e3 : num (be 4 l.length) = l.length := by
    rw [num_be, Nat.mod_eq_of_lt (by simpa using h)]
  rw [cut_good _ (by simp; omega) (by rw [e1, e3]; simp; omega), e1, e2, e3]
  simp
theorem packTo_split (ws ls : List Int) (i : Nat) : ∀ n, i < n → ∃ t, packTo ws ls n = packTo ws ls i ++ ((put (ls.getD i 0) (ws.getD i 0)).1 ++ t)
  | 0, h => absurd h (by omega)
  | n + 1, h => by
    rcases Nat.lt_or_ge i n with h' | h'
    · obtain ⟨t, ht⟩ := packTo_split ws ls i n h'
      exact ⟨t ++ (put (ls.getD n 0) (ws.getD n 0)).1, by rw [packTo, ht]; simp [List.append_assoc]⟩
    · obtain rfl : i = n := by omega
      exact ⟨[], by rw [packTo, List.append_nil]⟩
theorem packTo_sum (ws ls : List Int) (hi : ∀ x ∈ ls, x ≤ 9223372036854775807) : ∀ n, okTo ws ls n → (packTo ws ls n).length = sumTo ws n
  | 0, _ => rfl
  | n + 1, h => by
    have h1 := packTo_sum ws ls hi n (fun j hj => h j (by omega))
    have hx : ls.getD n 0 ≤ 9223372036854775807 := by
      rw [List.getD]
      cases hx : ls[n]? with
      | none => simp
      | some x => exact hi x (List.mem_of_getElem? hx)
    have h2 := put_facts _ _ hx (h n (by omega))
    rw [packTo, List.length_append, h1, h2.2.2.1, sumTo]
theorem unpack_pack (ws ls : List Int) (hi : ∀ x ∈ ls, x ≤ 9223372036854775807) (hl : ws.length = ls.length) (h : okTo ws ls ls.length) : unpack ws (packTo ws ls ls.length) = (ls, 0) := by
  have hx : ∀ n, ls.getD n 0 ≤ 9223372036854775807 := by
    intro n
    rw [List.getD]
    cases hx : ls[n]? with
    | none => simp
    | some x => exact hi x (List.mem_of_getElem? hx)
  have hp : ∀ i, i < ls.length → piece ws (packTo ws ls ls.length) i = (put (ls.getD i 0) (ws.getD i 0)).1 := by
    intro i hii
    obtain ⟨t, ht⟩ := packTo_split ws ls i ls.length hii
    have h1 := packTo_sum ws ls hi i (fun j hj => h j (by omega))
    have h2 := (put_facts _ _ (hx i) (h i hii)).2.2.1
    rw [piece, ht, List.drop_append_of_le_length (by omega), List.drop_of_length_le (by omega), List.nil_append, List.take_append_of_le_length (by omega), List.take_of_length_le (by omega)]
  have hg : ∀ i, i < ls.length → get (piece ws (packTo ws ls ls.length) i) = (ls.getD i 0, 0) := by
    intro i hii
    rw [hp i hii]
    exact (put_facts _ _ (hx i) (h i hii)).2.2.2
  have hn : ∀ i, i ≤ ls.length → numsTo ws (packTo ws ls ls.length) i = ls.take i := by
    intro i
    induction i with
    | zero => intro _; rfl
    | succ i ih =>
      intro hii
      rw [numsTo, ih (by omega), hg i (by omega), List.take_succ_eq_append_getElem (by omega)]
      simp [List.getD, show i < ls.length from by omega]
  rw [unpack_good ws _ (by rw [hl]; intro j hj; have := put_facts _ _ (hx j) (h j hj); exact ⟨this.1, this.2.1⟩) (by rw [hl]; exact packTo_sum ws ls hi _ h)
    (by rw [hl]; intro j hj; rw [hg j hj]), hl, hn _ (Nat.le_refl _), List.take_length]
theorem pack_ok (ws ls : List Int) (h : (pack ws ls).2 = 0) : ws.length = ls.length ∧ okTo ws ls ls.length ∧ pack ws ls = (packTo ws ls ls.length, 0) := by
  by_cases hg : ws.length = ls.length ∧ ∀ j, j < ls.length → (put (ls.getD j 0) (ws.getD j 0)).2 = 0
  · exact ⟨hg.1, hg.2, by rw [pack, if_pos hg]⟩
  · rw [pack, if_neg hg] at h
    simp at h
end Go.Proofs.Yteldohopagdodaa
