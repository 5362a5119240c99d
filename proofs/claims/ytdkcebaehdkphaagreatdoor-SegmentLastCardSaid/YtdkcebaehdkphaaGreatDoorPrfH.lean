/- The document's hashes of leaves: the walk of its text. No conditions but those that each lemma names. -/
import Derived.Test.YtdkcebaehdkphaaGreatDoorLPrfD
import Derived.Test.YtdkcebaehdkphaaGreatDoorMerJ
namespace Go.Proofs.YtdkcebaehdkphaaGreatDoor.PrfH
open Go.RowKit
open PrfL PrfM PrfB MerQ PrfS MerJ
theorem append_text {ops : Array Oper} {rest : List Oper} {o : Oper} {a : Act} {Q : Exit → Act → World → Prop} (w : World) (hgd : o.guard = none) (s x : Operand)
    (ho : o.op = .call { callee := .builtin .append, args := #[s, x], argTypes := #[42, 42] }) (base c : Nat) (p : Option Addr) (l : List L) (y : L) (hs : a.eval s = .slice p l.length c) (hn : l.length ≤ 1000000) (hb : base ≤ w.heap.size)
    (hx : a.eval x = .slice (some ⟨w.heap.size, 0, none⟩) 1 1) (hown : w.ownsRow base 9 1 (.slice p l.length c) l.length (l.map st))
    (h : ∀ p' c' w', w'.ownsRow base 9 1 (.slice p' (l ++ [y]).length c') (l ++ [y]).length ((l ++ [y]).map st) → Below base w w' → wpList Tryz.prog ops Q rest (a.put o.dst (.slice p' (l.length + 1) c')) w') :
    wpList Tryz.prog ops Q (o :: rest) a (w.alloc (.cells #[st y] 9)) := by
  obtain ⟨i0, hi, hz0, hz1, hz2⟩ := info_parts info_string
  refine wpList_append_own _ hgd s x 42 ho base 9 i0 (.string ByteArray.empty) 1 16 Tryz.underlying42 hi hz0 hz1 hz2 rfl (by decide) _ _ _ hs (hown.alloc _) ⟨w.heap.size, 0, none⟩ 1 1 [st y] hx rfl
    (fun k u hu => by
      cases k with
      | zero => simp only [List.getElem?_cons_zero, Option.some.injEq] at hu; subst hu; exact blk_cell (heap_alloc_new w _) rfl
      | succ k => simp at hu) (by simp [Value.oneCell']) (by unfold maxLen; omega) (by omega) (by simp; omega) ?_
  intro v' w1 h1 hgrow _
  obtain ⟨p', c', rfl⟩ := ownsRow_succ h1
  refine h _ c' w1 (by simpa using h1) ?_
  exact Below.grown ((below_new w _).mono hb) hgrow (by simp; omega) (fun k hk => (hown.lt k hk).1)
theorem hs_next {l : List Lf} {k : Nat} (hk : k < l.length) : hs (l.take (k + 1)) = hs (l.take k) ++ [lh (l.getD k no)] := by
  unfold hs
  rw [List.take_succ_eq_append_getElem hk, List.map_append, at_d _ hk]
  rfl
theorem said_le (x : Lf) : (said x).length ≤ 36 := by
  cases h : okL x with
  | false => rw [said_no h]; simp
  | true => rw [said_length h]; omega
set_option maxRecDepth 100000 in
set_option maxHeartbeats 2000000 in
theorem Hashes (a : Option Addr) (n c : Nat) (l : List Lf) (w : World) (h : Lvs w a n l) (hn : n ≤ 100000) : Calls Tryz.prog 17 #[.slice a n c] w (Own1 w.heap.size w (hs l)) := by
  obtain ⟨hln, _, hfit, hl⟩ := h
  have HL := Lib.hid hl
  have HF := Lib.hid hfit
  clear hl hfit
  go_enter Tryz.func17, Tryz.ntmps17
  go_wp2_with fail
  go_loopw [3, 4] (fun ov kv wr => ∃ (k : Nat) (p : Option Addr) (cp : Nat), k ≤ n ∧ kv = .int .i64 k ∧ ov = .slice p k cp ∧ wr.ownsRow w.heap.size 9 1 (.slice p k cp) k ((hs (l.take k)).map st) ∧ Below w.heap.size w wr) (fun _ kv _ => n - (intOf kv).toNat)
  case atStart => exact ⟨0, none, 0, Nat.zero_le _, rfl, rfl, World.ownsRow_nil _ _ _ _, Below.refl _ _⟩
  case round =>
    obtain ⟨k, p, cp, hk, rfl, rfl, ho, hb⟩ := hrel
    have HB := Lib.hid hb
    have HO := Lib.hid ho
    clear hb ho
    by_cases hlt : k < n
    · have q0 : (0 : Int) ≤ (k : Int) := by omega
      have q1 : (k : Int) < (n : Int) := by omega
      obtain ⟨g, o, rfl, hg, hc⟩ := (HL.out.step HB.out) (by omega)
      obtain ⟨c0, c1⟩ := hc k (by omega)
      have hfk := HF.out (l.getD k no) (by rw [at_d _ (by omega)]; exact List.getElem_mem _)
      have HSd := Lib.hid (fun W => Said (l.getD k no) W hfk)
      have hsl := said_le (l.getD k no)
      have HN := Lib.hid (hs_next (l := l) (k := k) (by omega))
      have hkl : (hs (l.take k)).length = k := by rw [hs_length, List.length_take]; omega
      rw [show lh (l.getD k no) = sum (0 :: said (l.getD k no)) from rfl] at HN
      generalize hs (l.take k) = out at *
      generalize said (l.getD k no) = s at *
      generalize l.getD k no = x at *
      obtain ⟨x0, x1⟩ := x
      dsimp only at HSd c0 c1
      have HS : Hid (∀ W, Calls Tryz.prog 27 #[.string (⟨#[0]⟩ ++ ⟨s.toArray⟩)] W fun e w' => e = .returned (st (sum (0 :: s))) ∧ Below W.heap.size W w') := Lib.hid fun W => by
        have e : (⟨#[0]⟩ ++ ⟨s.toArray⟩ : ByteArray) = ⟨(0 :: s).toArray⟩ := by
          apply ByteArray.ext
          simp
        rw [e]
        exact RSum.Sum (0 :: s) W (by simp only [List.length_cons]; omega)
      clear hc hfk
      generalize sum (0 :: s) = y at *
      have hfew : out.length ≤ 1000000 := by omega
      rw [← hkl] at HO
      go_wp2_with (first
        | (go_at_call 29; refine (HSd.out _).mono ?_; rintro e w1 ⟨rfl, hb⟩; have B1 := Lib.hid (HB.out.trans (hb.mono HB.out.size)); have O1 := Lib.hid (own_later HO.out hb); clear hb)
        | (go_at_call 27; refine (HS.out _).mono ?_; rintro e w2 ⟨rfl, hb⟩; have B2 := Lib.hid (B1.out.trans (hb.mono B1.out.size)); have O2 := Lib.hid (own_later O1.out hb); clear hb)
        | (at_builtin; refine append_text w2 rfl _ _ rfl w.heap.size cp p out y (by rw [hkl]; rfl) hfew B2.out.size rfl O2.out ?_; intro p' c' w3 ho3 hb3; have O3 := Lib.hid ho3; have B3 := Lib.hid (B2.out.trans hb3); clear ho3 hb3))
      go_roundw
      case rel =>
        have e : (out ++ [y]).length = k + 1 := by rw [List.length_append, hkl]; rfl
        have HO4 := O3.out
        rw [e] at HO4
        exact ⟨k + 1, p', c', by omega, by go_num, rfl, by rw [HN.out]; exact HO4, B3.out⟩
      case measure => simp [intOf]; omega
    · obtain rfl : k = n := by omega
      rw [List.take_of_length_le (by omega)] at HO
      have hkl : (hs l).length = k := by rw [hs_length]; exact hln
      go_wp2_with fail
      go_ret
      exact ⟨p, cp, by rw [hkl]; rfl, by rw [hkl]; exact HO.out, HB.out⟩
end Go.Proofs.YtdkcebaehdkphaaGreatDoor.PrfH
