/- The document's trees of hashes: Path: the walk of its text. No conditions but those that each lemma names. -/
import Derived.Test.YtcadfpaihfaabaaDoorMerI
import Derived.Test.YtcadfpaihfaabaaDoorMerB
import Derived.Maps.AppendAt
namespace Go.Proofs.YtcadfpaihfaabaaDoor.MerJ
open Go.RowKit SSum MerQ MerN MerM MerC MerP MerH MerI MerA
theorem info_string : (Tryd.prog.info? 9).map (fun i => (i.zero, i.size, i.bytes)) = some (some (.string ByteArray.empty), 1, 16) := by kernel_rfl
/-- One text put behind others that are one's own. -/
theorem wp_grow {o : Oper} {a : Act} {w : World} {K : Act → World → Prop} {Q : Exit → Act → World → Prop} (s x : Operand)
    (ho : o.op = .call { callee := .builtin .append, args := #[s, x], argTypes := #[26, 26] }) (B n : Nat) (v : Value) (l : List L) (hs : a.eval s = v)
    (hown : w.ownsRow B 9 1 v n (l.map str)) (b : Nat) (hx : a.eval x = .slice (some ⟨b, 0, none⟩) 1 1) (y : L) (hy : w.cell? ⟨b, 0, none⟩ = some (str y)) (hn : n ≤ 1000000) (hB : B ≤ w.heap.size)
    (h : ∀ a' c' w', w'.ownsRow B 9 1 (.slice a' (n + 1) c') (n + 1) ((l ++ [y]).map str) → w.grownBy w' v.ownBlock → K (a.put o.dst (.slice a' (n + 1) c')) w') : o.wp Tryd.prog a w K Q := by
  obtain ⟨i0, hi, hz0, hz1, hz2⟩ := info_parts info_string
  refine wp_append_own _ s x 26 ho B 9 i0 _ 1 16 Tryd.underlying26 hi hz0 hz1 hz2 rfl (by decide) v n (l.map str) hs hown ⟨b, 0, none⟩ 1 1 [str y] hx rfl
    (fun k u hu => by
      cases k with
      | zero => simp only [List.getElem?_cons_zero, Option.some.injEq] at hu; subst hu; exact hy
      | succ k => simp at hu) (by simp [Value.oneCell']) (by unfold maxLen; omega) (by omega) hB (fun v' w' h2 h3 _ => ?_)
  obtain ⟨g, c', rfl⟩ := ownsRow_succ h2
  exact h _ _ _ (by simpa using h2) h3
/-- An own row of texts. -/
def Own1 (n₀ : Nat) (w : World) (ps : List L) (e : Ending) (w' : World) : Prop :=
  ∃ a c, e = .returned (.slice a ps.length c) ∧ w'.ownsRow n₀ 9 1 (.slice a ps.length c) ps.length (ps.map str) ∧ Below n₀ w w'
theorem own_later {w w' : World} {base size n : Nat} {t : TypeId} {v : Value} {xs : List Value} (h : w.ownsRow base t size v n xs) (hb : Below w.heap.size w w') : w'.ownsRow base t size v n xs :=
  own_at h (fun k hk => hb.block k (h.lt k hk).2)
theorem grown_own {W w' : World} {n₀ n size : Nat} {t : TypeId} {v : Value} {xs : List Value} {o : Obj} {w : World} (hb : Below n₀ w W) (hn : n₀ ≤ W.heap.size) (h : W.ownsRow n₀ t size v n xs) (hg : (W.alloc o).grownBy w' v.ownBlock) : Below n₀ w w' :=
  (hb.alloc hn o).grown hg (by simp; omega) (fun k hk => (h.lt k hk).1)
end Go.Proofs.YtcadfpaihfaabaaDoor.MerJ
