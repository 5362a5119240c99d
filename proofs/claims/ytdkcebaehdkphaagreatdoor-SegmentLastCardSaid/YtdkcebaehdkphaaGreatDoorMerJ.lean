/- The document's trees of hashes: Path: the walk of its text. No conditions but those that each lemma names. -/
import Derived.Test.YtdkcebaehdkphaaGreatDoorLMerH
import Derived.Test.YtdkcebaehdkphaaGreatDoorMerB
import Derived.Maps.AppendAt
namespace Go.Proofs.YtdkcebaehdkphaaGreatDoor.MerJ
open Go.RowKit SSum MerQ MerN MerM MerC MerP MerH MerI MerA
theorem info_string : (Tryz.prog.info? 9).map (fun i => (i.zero, i.size, i.bytes)) = some (some (.string ByteArray.empty), 1, 16) := by kernel_rfl
/-- One text put behind others that are one's own. -/
theorem wp_grow {o : Oper} {a : Act} {w : World} {K : Act → World → Prop} {Q : Exit → Act → World → Prop} (s x : Operand)
    (ho : o.op = .call { callee := .builtin .append, args := #[s, x], argTypes := #[42, 42] }) (B n : Nat) (v : Value) (l : List L) (hs : a.eval s = v)
    (hown : w.ownsRow B 9 1 v n (l.map str)) (b : Nat) (hx : a.eval x = .slice (some ⟨b, 0, none⟩) 1 1) (y : L) (hy : w.cell? ⟨b, 0, none⟩ = some (str y)) (hn : n ≤ 1000000) (hB : B ≤ w.heap.size)
    (h : ∀ a' c' w', w'.ownsRow B 9 1 (.slice a' (n + 1) c') (n + 1) ((l ++ [y]).map str) → w.grownBy w' v.ownBlock → K (a.put o.dst (.slice a' (n + 1) c')) w') : o.wp Tryz.prog a w K Q := by
  obtain ⟨i0, hi, hz0, hz1, hz2⟩ := info_parts info_string
  refine wp_append_own _ s x 42 ho B 9 i0 _ 1 16 Tryz.underlying42 hi hz0 hz1 hz2 rfl (by decide) v n (l.map str) hs hown ⟨b, 0, none⟩ 1 1 [str y] hx rfl
    (fun k u hu => by
      cases k with
      | zero => simp only [List.getElem?_cons_zero, Option.some.injEq] at hu; subst hu; exact hy
      | succ k => simp at hu) (by simp [Value.oneCell']) (by unfold maxLen; omega) (by omega) hB (fun v' w' h2 h3 _ => ?_)
  obtain ⟨g, c', rfl⟩ := ownsRow_succ h2
  exact h _ _ _ (by simpa using h2) h3
/-- An own row of texts. -/
def Own1 (n₀ : Nat) (w : World) (ps : List L) (e : Ending) (w' : World) : Prop :=
  ∃ a c, e = .returned (.slice a ps.length c) ∧ w'.ownsRow n₀ 9 1 (.slice a ps.length c) ps.length (ps.map str) ∧ Below n₀ w w'
theorem own_later {w w' : World} {base size n : Nat} {t : TypeId} {v : Value} {xs : List Value} (h : w.ownsRow base t size v n xs) (hb : Below w.heap.size w w') : w'.ownsRow base t size v n xs :=
  own_at h (fun k hk => hb.block k (h.lt k hk).2)
theorem grown_own {W w' : World} {n₀ n size : Nat} {t : TypeId} {v : Value} {xs : List Value} {o : Obj} {w : World} (hb : Below n₀ w W) (hn : n₀ ≤ W.heap.size) (h : W.ownsRow n₀ t size v n xs) (hg : (W.alloc o).grownBy w' v.ownBlock) : Below n₀ w w' :=
  (hb.alloc hn o).grown hg (by simp; omega) (fun k hk => (h.lt k hk).1)
set_option maxRecDepth 100000 in
set_option maxHeartbeats 4000000 in
theorem Path : ∀ (n : Nat) (a : Option Addr) (c : Nat) (ls : List L) (i : Nat) (w : World), ls.length = n → n ≤ c → n ≤ 1000000 → i < n → Strs w w.heap.size a n ls → (∀ x ∈ ls, x.length = 32) →
    Calls Tryz.prog 32 #[.slice a n c, .int .i64 (i : Int)] w (Own1 w.heap.size w (pathN nd ls i)) := by
  intro n
  induction n using Nat.strongRecOn with
  | _ n ih =>
    intro a c ls i w hln hnc hn hi h h32
    by_cases h1 : n < 2
    · obtain rfl : n = 1 := by omega
      obtain rfl : i = 0 := by omega
      obtain ⟨x, rfl⟩ : ∃ x, ls = [x] := by
        match ls, hln with
        | [x], _ => exact ⟨x, rfl⟩
      rw [pathN_one]
      clear ih h h32 hln hnc hn
      go_enter Tryz.func32, Tryz.ntmps32
      go_wp2
      go_ret
      exact ⟨none, 0, rfl, World.ownsRow_nil _ _ _ _, Below.refl _ _⟩
    · obtain ⟨q, off, rfl, hq, hc⟩ := h.2 (by omega)
      have hs := half_spec (n := n) (by omega)
      have HH := Lib.hid (fun W => Half n (by omega) (by omega) W)
      have HSp := Lib.hid (path_split nd (sum []) n ls i hln (by omega) hi)
      generalize MerN.half n = k at *
      have ht := fun x hx => h32 x (List.mem_of_mem_take (i := k) hx)
      have hd := fun x hx => h32 x (List.mem_of_mem_drop (i := k) hx)
      have hlt : (ls.take k).length = k := by rw [List.length_take, hln]; omega
      have hld : (ls.drop k).length = n - k := by rw [List.length_drop, hln]
      have hc1 := cut_h q off n c k (by omega) (by omega)
      have hc2 := cut_l q off n c k (by omega) (by omega)
      have h1' : ¬ (n : Int) < 2 := by omega
      have hB0 := Lib.hid (Below.refl w.heap.size w).drew
      by_cases hk : i < k
      · have HL := Lib.hid (fun W (hb : Below w.heap.size w W) => ih k (by omega) (some ⟨q, off, none⟩) c (ls.take k) i W hlt (by omega) (by omega) hk (strs_take ((h.below hb).more hb.size) k (by omega)) ht)
        have HR := Lib.hid (fun W (hb : Below w.heap.size w W) => MerI.Root (n - k) (some ⟨q, off + k, none⟩) (c - k) (ls.drop k) W hld (by omega) (by omega) (strs_drop ((h.below hb).more hb.size) k (by omega)) hd)
        rw [if_pos hk] at HSp
        have hpl : (pathN nd (ls.take k) i).length ≤ 1000000 := by rw [pathN_length nd (by omega)]; exact Nat.le_trans (long_le _ _ _) (by omega)
        rw [HSp.out]
        generalize MerN.root nd (sum []) (ls.drop k) = v at *
        generalize pathN nd (ls.take k) i = ps at *
        have q1 : (i : Int) < (k : Int) := by omega
        clear ih h h32 hln hc ht hd HSp hlt hld h1
        go_enter Tryz.func32, Tryz.ntmps32
        go_wp2_with (go_at_call 28; refine (HH.out _).mono ?_; rintro e w' ⟨rfl, rfl⟩)
        go_region_held3 (fun _ => True) (trivial) (first
          | (go_at_call 32; refine (HL.out _ hB0.out).mono ?_; rintro e w1 ⟨a1, c1, rfl, ho1, hb1⟩; have B1 := Lib.hid (hB0.out.trans (hb1.mono hB0.out.size)); have HO1 := Lib.hid ho1; have hS1 : True := trivial; clear hb1 ho1)
          | (go_at_call 16; refine (HR.out _ B1.out).mono ?_; rintro e w2 ⟨rfl, hb2⟩; have B2 := Lib.hid (B1.out.trans (hb2.mono B1.out.size)); have HO2 := Lib.hid (own_later HO1.out hb2); have hS2 : True := trivial; clear hb2)
          | (rw [if_pos (by rfl)]
             refine wp_grow _ _ rfl _ _ _ ps rfl (HO2.out.alloc _) w2.heap.size rfl v (blk_cell (heap_alloc_new w2 _) rfl) hpl (Nat.le_trans B2.out.size (by simp)) ?_
             intro a3 c3 w3 ho3 hg3
             have HO3 := Lib.hid ho3
             have B3 := Lib.hid (grown_own B2.out B2.out.size HO2.out hg3)
             have hS3 : True := trivial
             clear ho3 hg3))
        go_wp2
        go_ret
        exact ⟨a3, c3, by rw [List.length_append]; rfl, by rw [List.length_append]; exact HO3.out, B3.out⟩
      · have HL := Lib.hid (fun W (hb : Below w.heap.size w W) => ih (n - k) (by omega) (some ⟨q, off + k, none⟩) (c - k) (ls.drop k) (i - k) W hld (by omega) (by omega) (by omega) (strs_drop ((h.below hb).more hb.size) k (by omega)) hd)
        have HR := Lib.hid (fun W (hb : Below w.heap.size w W) => MerI.Root k (some ⟨q, off, none⟩) c (ls.take k) W hlt (by omega) (by omega) (strs_take ((h.below hb).more hb.size) k (by omega)) ht)
        rw [show ((i - k : Nat) : Int) = (i : Int) - (k : Int) by omega] at HL
        rw [if_neg hk] at HSp
        have hpl : (pathN nd (ls.drop k) (i - k)).length ≤ 1000000 := by rw [pathN_length nd (by omega)]; exact Nat.le_trans (long_le _ _ _) (by omega)
        rw [HSp.out]
        generalize MerN.root nd (sum []) (ls.take k) = v at *
        generalize pathN nd (ls.drop k) (i - k) = ps at *
        have q1 : ¬ (i : Int) < (k : Int) := by omega
        have q2 : IntKind.i64.wrap ((i : Int) - (k : Int)) = (i : Int) - (k : Int) := IntWalk.i64_in _ (by omega)
        clear ih h h32 hln hc ht hd HSp hlt hld h1 hk
        go_enter Tryz.func32, Tryz.ntmps32
        go_wp2_with (go_at_call 28; refine (HH.out _).mono ?_; rintro e w' ⟨rfl, rfl⟩)
        go_region_held3 (fun _ => True) (trivial) (first
          | (go_at_call 32; refine (HL.out _ hB0.out).mono ?_; rintro e w1 ⟨a1, c1, rfl, ho1, hb1⟩; have B1 := Lib.hid (hB0.out.trans (hb1.mono hB0.out.size)); have HO1 := Lib.hid ho1; have hS1 : True := trivial; clear hb1 ho1)
          | (go_at_call 16; refine (HR.out _ B1.out).mono ?_; rintro e w2 ⟨rfl, hb2⟩; have B2 := Lib.hid (B1.out.trans (hb2.mono B1.out.size)); have HO2 := Lib.hid (own_later HO1.out hb2); have hS2 : True := trivial; clear hb2)
          | (rw [if_pos (by rfl)]
             refine wp_grow _ _ rfl _ _ _ ps rfl (HO2.out.alloc _) w2.heap.size rfl v (blk_cell (heap_alloc_new w2 _) rfl) hpl (Nat.le_trans B2.out.size (by simp)) ?_
             intro a3 c3 w3 ho3 hg3
             have HO3 := Lib.hid ho3
             have B3 := Lib.hid (grown_own B2.out B2.out.size HO2.out hg3)
             have hS3 : True := trivial
             clear ho3 hg3))
        go_wp2
        go_ret
        exact ⟨a3, c3, by rw [List.length_append]; rfl, by rw [List.length_append]; exact HO3.out, B3.out⟩
end Go.Proofs.YtdkcebaehdkphaaGreatDoor.MerJ
