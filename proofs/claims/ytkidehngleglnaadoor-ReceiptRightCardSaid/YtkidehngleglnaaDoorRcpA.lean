/- receipt.All and its closure: the walks of their texts. The condition: a row of at most 100,000 sealed records that lies there. -/
import Derived.Test.YtkidehngleglnaaDoorLRcp
import Derived.OwnWalk
namespace Go.Proofs.YtkidehngleglnaaDoor.RcpA
set_option linter.unusedVariables false
open Go.RowKit
open RecN RecC ChnN ChnM ChnC ChnD RcpN RcpC RcpQ RcpM
/-- What was gathered: its box, the call's first block; the row. -/
structure Gat (w : World) (l : List Rcp) (W : World) : Prop where
  bel : Below w.heap.size w W
  ex : ∃ p c, W.heap[w.heap.size]? = some (.cells #[.slice p l.length c] 28 (0, 0)) ∧ W.ownsRow w.heap.size 33 11 (.slice p l.length c) l.length (ps l)
theorem Gat.step {w W W' : World} {l : List Rcp} (h : Gat w l W) (hb : Below W.heap.size W W') : Gat w l W' := by
  obtain ⟨p, c, h1, h2⟩ := h.ex
  exact ⟨h.bel.trans (hb.mono h.bel.size), p, c, (hb.block _ (lt_of_some h1)).trans h1, ChnC.own_step h2 hb⟩
theorem gat_new (w : World) : Gat w [] (w.alloc (.cells #[.slice none 0 0] 28)) := ⟨below_new w _, none, 0, heap_alloc_new w _, World.ownsRow_nil _ _ _ _⟩
theorem not_own {W : World} {base : Nat} {e : TypeId} {size : Nat} {v : Value} {n : Nat} {xs : List Value} (h : W.ownsRow base e size v n xs) {X : Nat} {cs : Array Value} {t : TypeId} (hX : W.heap[X]? = some (.cells cs t (0, 0))) (ht : t ≠ e) : v.ownBlock ≠ some X := by
  intro he
  rcases h.2 with ⟨rfl, _⟩ | ⟨g, _, cur, rfl, _, hg, _⟩
  · cases he
  · have : g = X := by simpa [Value.ownBlock] using he
    subst this
    rw [hX] at hg
    cases hg
    exact ht rfl
/-- The box is written. -/
theorem gat_put {w W1 w6 : World} {l l' : List Rcp} {p p' : Option Addr} {c c' : Nat} (hb1 : Below w.heap.size w W1) (hB : W1.heap[w.heap.size]? = some (.cells #[.slice p l.length c] 28 (0, 0)))
    (ho : W1.ownsRow w.heap.size 33 11 (.slice p l.length c) l.length (ps l)) (ho6 : w6.ownsRow w.heap.size 33 11 (.slice p' l'.length c') l'.length (ps l')) (hb6 : Below w.heap.size W1 w6)
    (hk6 : ∀ k, (Value.slice p l.length c).ownBlock ≠ some k → k < W1.heap.size → w6.heap[k]? = W1.heap[k]?) :
    w6.heap[w.heap.size]? = some (.cells #[.slice p l.length c] 28 (0, 0)) ∧ Gat w l' (w6.setCell ⟨w.heap.size, 0, none⟩ (.slice p' l'.length c')) := by
  have h6 : w6.heap[w.heap.size]? = some (.cells #[.slice p l.length c] 28 (0, 0)) := (hk6 _ (not_own ho hB (by decide)) (lt_of_some hB)).trans hB
  refine ⟨h6, ⟨(hb1.trans hb6).setCell (p := ⟨w.heap.size, 0, none⟩) (Nat.le_refl _) _, p', c', ?_, ?_⟩⟩
  · exact (blk_set (i := 0) (u := .slice p' l'.length c') h6).trans (by rfl)
  · refine own_kept ho6 fun k hk => Below.heap_setCell _ _ _ _ (fun e => ?_)
    have e2 : k = w.heap.size := e
    subst e2
    exact not_own ho6 h6 (by decide) hk
set_option maxRecDepth 100000 in
set_option maxHeartbeats 4000000 in
/-- The closure, of one that was made. -/
theorem gather_yes {w W : World} {l : List Rcp} (x : Rcp) (h : Gat w l W) (hn : l.length ≤ 100000) :
    Calls Tryd.prog 23 #[.agg #[.int .i64 x.q, .int .i64 x.r.k, .int .i64 x.r.ep, .int .i64 x.r.tm, .int .i64 x.r.ct, .int .i64 x.r.tg, .int .i64 x.r.un, .string ⟨x.r.rt.toArray⟩, .string ⟨x.r.nm.toArray⟩, .string ⟨x.was.toArray⟩, .string ⟨x.tag.toArray⟩], .int .i64 0, .pointer (some ⟨w.heap.size, 0, none⟩)] W fun e W' => e = .returned (.tuple #[]) ∧ Gat w (l ++ [x]) W' := by
  obtain ⟨p, c, hB, ho⟩ := h.ex
  have hb := h.bel
  obtain ⟨W1, hW1⟩ : ∃ W1, W1 = W.alloc (.cells #[.int .i64 x.q, .int .i64 x.r.k, .int .i64 x.r.ep, .int .i64 x.r.tm, .int .i64 x.r.ct, .int .i64 x.r.tg, .int .i64 x.r.un, .string ⟨x.r.rt.toArray⟩, .string ⟨x.r.nm.toArray⟩, .string ⟨x.was.toArray⟩, .string ⟨x.tag.toArray⟩] 33) := ⟨_, rfl⟩
  have hR : Br W1 W.heap.size x := by rw [hW1]; exact heap_alloc_new W _
  have hB1 : W1.heap[w.heap.size]? = some (.cells #[.slice p l.length c] 28 (0, 0)) := by rw [hW1]; exact ((below_new W _).block _ (lt_of_some hB)).trans hB
  have ho1 : W1.ownsRow w.heap.size 33 11 (.slice p l.length c) l.length (ps l) := by rw [hW1]; exact ChnC.own_step ho (below_new W _)
  have hb1 : Below w.heap.size w W1 := by rw [hW1]; exact hb.trans ((below_new W _).mono hb.size)
  obtain ⟨k0, k1, k2, k3, k4, k5, k6, k7, k8, k9, k10⟩ := hR.cells
  have b0 := blk_cell (i := 0) hB1 rfl
  have O2 : Hid ((W1.alloc (.cells #[.int .i64 x.q, .int .i64 x.r.k, .int .i64 x.r.ep, .int .i64 x.r.tm, .int .i64 x.r.ct, .int .i64 x.r.tg, .int .i64 x.r.un, .string ⟨x.r.rt.toArray⟩, .string ⟨x.r.nm.toArray⟩, .string ⟨x.was.toArray⟩, .string ⟨x.tag.toArray⟩] 33)).ownsRow w.heap.size 33 11 (.slice p l.length c) l.length (ps l)) := Lib.hid (ChnC.own_step ho1 (below_new W1 _))
  have G2 : Hid (Br (W1.alloc (.cells #[.int .i64 x.q, .int .i64 x.r.k, .int .i64 x.r.ep, .int .i64 x.r.tm, .int .i64 x.r.ct, .int .i64 x.r.tg, .int .i64 x.r.un, .string ⟨x.r.rt.toArray⟩, .string ⟨x.r.nm.toArray⟩, .string ⟨x.was.toArray⟩, .string ⟨x.tag.toArray⟩] 33)) W1.heap.size x) := Lib.hid (heap_alloc_new W1 _)
  have B2 : Hid (Below w.heap.size w (W1.alloc (.cells #[.int .i64 x.q, .int .i64 x.r.k, .int .i64 x.r.ep, .int .i64 x.r.tm, .int .i64 x.r.ct, .int .i64 x.r.tg, .int .i64 x.r.un, .string ⟨x.r.rt.toArray⟩, .string ⟨x.r.nm.toArray⟩, .string ⟨x.was.toArray⟩, .string ⟨x.tag.toArray⟩] 33))) := Lib.hid (hb1.trans ((below_new W1 _).mono hb1.size))
  have X2 : Hid ((W1.alloc (.cells #[.int .i64 x.q, .int .i64 x.r.k, .int .i64 x.r.ep, .int .i64 x.r.tm, .int .i64 x.r.ct, .int .i64 x.r.tg, .int .i64 x.r.un, .string ⟨x.r.rt.toArray⟩, .string ⟨x.r.nm.toArray⟩, .string ⟨x.was.toArray⟩, .string ⟨x.tag.toArray⟩] 33)).heap[w.heap.size]? = some (.cells #[.slice p l.length c] 28 (0, 0))) := Lib.hid (((below_new W1 _).block _ (lt_of_some hB1)).trans hB1)
  have HP := Lib.hid (@gat_put w (W1.alloc (.cells #[.int .i64 x.q, .int .i64 x.r.k, .int .i64 x.r.ep, .int .i64 x.r.tm, .int .i64 x.r.ct, .int .i64 x.r.tg, .int .i64 x.r.un, .string ⟨x.r.rt.toArray⟩, .string ⟨x.r.nm.toArray⟩, .string ⟨x.was.toArray⟩, .string ⟨x.tag.toArray⟩] 33)) · l (l ++ [x]) p · c · B2.out X2.out O2.out)
  have HN : Hid ((l ++ [x]).length = l.length + 1) := Lib.hid (by simp)
  have HN2 := Lib.hid hn
  clear h hB ho hb hR hB1 ho1 hb1 hn
  generalize hll : l.length = n at *
  go_enter Tryd.func23, Tryd.ntmps23
  go_upto_region 1 with (fail)
  rw [← hW1]
  clear hW1
  go_wp2_with (at_builtin; refine append_rcp _ rfl _ _ rfl w.heap.size c n p l x hll rfl HN2.out B2.out.size W1.heap.size rfl G2.out O2.out ?_; intro p6 c6 w6 ho6 hb6 hk6; rw [← HN.out] at ho6; obtain ⟨h6, g6⟩ := HP.out w6 p6 c6 ho6 hb6 hk6; rw [HN.out] at g6; have G6 := Lib.hid g6; have s0 := blk_cell (i := 0) h6 rfl; have f0 := blk_free (i := 0) h6; clear ho6 hb6 hk6 h6 g6)
  go_end0
  exact ⟨rfl, G6.out⟩
set_option maxRecDepth 100000 in
/-- The closure, of none. -/
theorem gather_no (W : World) (x : Rcp) (c : Int) (v : Value) (hc : (c == 0) = false) :
    Calls Tryd.prog 23 #[.agg #[.int .i64 x.q, .int .i64 x.r.k, .int .i64 x.r.ep, .int .i64 x.r.tm, .int .i64 x.r.ct, .int .i64 x.r.tg, .int .i64 x.r.un, .string ⟨x.r.rt.toArray⟩, .string ⟨x.r.nm.toArray⟩, .string ⟨x.was.toArray⟩, .string ⟨x.tag.toArray⟩], .int .i64 c, v] W fun e W' => e = .returned (.tuple #[]) ∧ Below W.heap.size W W' := by
  have HB : Hid (Below W.heap.size W (W.alloc (.cells #[.int .i64 x.q, .int .i64 x.r.k, .int .i64 x.r.ep, .int .i64 x.r.tm, .int .i64 x.r.ct, .int .i64 x.r.tg, .int .i64 x.r.un, .string ⟨x.r.rt.toArray⟩, .string ⟨x.r.nm.toArray⟩, .string ⟨x.was.toArray⟩, .string ⟨x.tag.toArray⟩] 33))) := Lib.hid (below_new W _)
  go_enter Tryd.func23, Tryd.ntmps23
  go_wp2
  go_end0
  exact ⟨rfl, HB.out⟩
set_option maxRecDepth 100000 in
set_option maxHeartbeats 4000000 in
/-- THE CONTRACT of All: a row of its own. -/
theorem All (a : Option Addr) (n c : Nat) (s : List Sd) (w : World) (h : Lies w a (ss s)) (hl : s.length = n) (hn : n ≤ 100000) (hcap : n ≤ c) :
    Calls Tryd.prog 8 #[.slice a n c] w fun e w' => ∃ p cp, e = .returned (.slice p (allTo s n).length cp) ∧ w'.ownsRow w.heap.size 33 11 (.slice p (allTo s n).length cp) (allTo s n).length (ps (allTo s n)) ∧ Below w.heap.size w w' := by
  have HM := Lib.hid (fun (k : Nat) W (hb : Below w.heap.size w W) => RcpM.Make a n c s (k : Int) W (h.step hb) hl (by unfold maxLen; omega) hcap)
  have HG0 : Hid (Gat w [] (w.alloc (.cells #[.slice none 0 0] 28))) := Lib.hid (gat_new w)
  clear h hl hcap
  go_enter Tryd.func8, Tryd.ntmps8
  go_wp2_with fail
  go_loopw [9] (fun iv wr => ∃ k : Nat, k ≤ n ∧ iv = .int .i64 k ∧ Gat w (allTo s k) wr) (fun iv _ => n - (intOf iv).toNat)
  case atStart => exact ⟨0, Nat.zero_le _, rfl, HG0.out⟩
  case round =>
    obtain ⟨k, hk, rfl, hg⟩ := hrel
    have HG := Lib.hid hg
    have hle := all_len s k
    clear hg
    by_cases hlt : k < n
    · have p0 : (k : Int) < (n : Int) := by omega
      have hm := HM.out k
      cases hgd : good1 s k with
      | true =>
        rw [make_yes1 hgd] at hm
        dsimp only at hm
        have HK := Lib.hid hm
        have HE := Lib.hid (all_yes hgd)
        clear hm hgd
        generalize mkR s k = y at *
        generalize allTo s k = l at *
        go_wp2_with (first
          | (go_at_call 18; refine (HK.out _ HG.out.bel).mono ?_; rintro e w5 ⟨rfl, hb⟩; replace HG := Lib.hid (HG.out.step hb); clear hb HK)
          | (go_at_call 23; refine (gather_yes y HG.out (by omega)).mono ?_; rintro e w6 ⟨rfl, hg6⟩; have G6 := Lib.hid hg6; clear hg6))
        go_roundw
        case rel => exact ⟨k + 1, by omega, by go_num, by rw [HE.out]; exact G6.out⟩
        case measure => simp [intOf]; omega
      | false =>
        obtain ⟨z, hz, hz0⟩ := make_no1 hgd
        rw [hz] at hm
        dsimp only [none_, RecN.zero] at hm
        have HK := Lib.hid hm
        have HE := Lib.hid (all_no hgd)
        have HC := Lib.hid (fun W v => gather_no W none_ z v hz0)
        clear hm hgd hz hz0
        generalize allTo s k = l at *
        go_wp2_with (first
          | (go_at_call 18; refine (HK.out _ HG.out.bel).mono ?_; rintro e w5 ⟨rfl, hb⟩; replace HG := Lib.hid (HG.out.step hb); clear hb HK)
          | (go_at_call 23; refine (HC.out _ _).mono ?_; rintro e w6 ⟨rfl, hb⟩; have G6 := Lib.hid (HG.out.step hb); clear hb))
        go_roundw
        case rel => exact ⟨k + 1, by omega, by go_num, by rw [HE.out]; exact G6.out⟩
        case measure => simp [intOf]; omega
    · obtain rfl : k = n := by omega
      have pk : ¬ (k : Int) < (k : Int) := by omega
      obtain ⟨p, cp, hB, ho⟩ := HG.out.ex
      have b0 := blk_cell (i := 0) hB rfl
      have HO := Lib.hid ho
      clear ho hB
      go_wp2_with fail
      go_ret
      exact ⟨p, cp, rfl, HO.out, HG.out.bel⟩
end Go.Proofs.YtkidehngleglnaaDoor.RcpA
