/- Add of a version that may be: the walks of its text. The condition: that the row stands in its order. -/
import Derived.Test.YtnebbbloipdnbaaIdxA
namespace Go.Proofs.Ytnebbbloipdnbaa.IdxB
open Go.RowKit
open IdxN IdxM IdxC IdxD IdxF IdxH IdxI IdxK IdxJ IdxV IdxW IdxA
variable {w W W' : World} {B X H : Nat} {v : Value} {r : List V} {x : V}
/-- What stands behind the count: the place, and the cells there. -/
theorem Run.at_ (h : Run w B X H v r x W) {a : Option Addr} {c : Nat} (hv : v = .slice a r.length c) {k : Nat} (hk : k < r.length) :
    ∃ g o, a = some ⟨g, o, none⟩ ∧ W.cell? ⟨g, o + k * 3, none⟩ = some (.int .i64 r[k].1) ∧ W.cell? ⟨g, o + k * 3 + 1, none⟩ = some (.int .i64 r[k].2.1) ∧ W.cell? ⟨g, o + k * 3 + 2, none⟩ = some (.int .i64 r[k].2.2) := by
  subst hv
  obtain ⟨a', c', e, _, hlies⟩ := h.ix.lies
  cases e
  obtain ⟨g, o, rfl, _, hat⟩ := hlies.at_ (by omega)
  exact ⟨g, o, rfl, hat k hk⟩
set_option maxRecDepth 100000 in
set_option maxHeartbeats 1000000 in
theorem Add_twice (x : V) (w : World) (h : Ix B X H v r w) (hm : may x = true) (hs : Sorted r) (hl : r.length ≤ 100000) (hx : x ∈ r) :
    Calls Try.prog 10 #[.pointer (some ⟨X, 0, none⟩), .agg #[.int .i64 x.1, .int .i64 x.2.1, .int .i64 x.2.2]] w fun e w' => e = .returned (.int .i64 19) ∧ Below w.heap.size w w' := by
  have RR := Lib.hid (run_new h x)
  have HN := Lib.hid (fun W (h : Run w B X H v r x W) => isNone_no W h.ix.cx)
  have HM := Lib.hid (fun W => mayBe x W)
  rw [hm] at HM
  obtain ⟨a, c, rfl, hc, _⟩ := h.lies
  have HC := Lib.hid (fun W (h : Run w B X H (.slice a r.length c) r x W) => h.count hs hl a c rfl)
  have hf := (found_iff hs x).2 hx
  obtain ⟨k, hkk⟩ : ∃ k, k = cut (before x) r := ⟨_, rfl⟩
  rw [← hkk] at hf HC
  have hk : k < r.length := (List.getElem?_eq_some_iff.1 hf).1
  have hrk : r[k] = x := (List.getElem?_eq_some_iff.1 hf).2
  have HA := Lib.hid (fun W (h : Run w B X H (.slice a r.length c) r x W) => Run.at_ h (a := a) (c := c) rfl hk)
  rw [hrk] at HA
  have HE := Lib.hid (fun W => run_eql_ver W x x)
  have hd : decide (x = x) = true := decide_eq_true rfl
  rw [hd] at HE
  clear h hm hs hx hf hkk hd hrk
  obtain ⟨x0, x1, x2⟩ := x
  dsimp only at *
  have hki : (k : Int) < (r.length : Int) := by omega
  go_enter Try.func10, Try.ntmps10
  go_upto_region 1 with (fail)
  generalize World.alloc w _ = W1 at *
  obtain ⟨k0, k1, k2⟩ := RR.out.box
  dsimp only at k0 k1 k2
  go_upto_region 5 with (first
    | (go_at_call 25; refine (HN.out _ RR.out).mono ?_; rintro e _ ⟨rfl, rfl⟩)
    | (go_at_call 26; refine (HM.out _).mono ?_; rintro e w2 ⟨rfl, hb⟩; replace RR := Lib.hid (RR.out.step hb); clear hb))
  clear k0 k1 k2
  have c0 := RR.out.ix.cx
  have c1 := RR.out.ix.ch
  go_upto_region 7 with (go_at_call 27; refine (HC.out _ RR.out).mono ?_; rintro e w3 ⟨rfl, hb⟩; replace RR := Lib.hid (RR.out.step hb); clear hb)
  clear c0 c1
  obtain ⟨k0, k1, k2⟩ := RR.out.box
  obtain ⟨g, o, rfl, m0, m1, m2⟩ := HA.out _ RR.out
  dsimp only at k0 k1 k2
  have hE := HE.out
  have RB := Lib.hid RR.out.bel
  clear RR HA HC HM HN HE
  go_quiet (fail)
  go_wp2
  go_ret
  exact ⟨rfl, RB.out.trans (below_drewN _ _)⟩
/-- What stands behind the laying. -/
theorem behind {r' : List V} {e : Ending} {w6 : World} (h : Run w B X H v r x W) (hI : Insd B v r' ((W.alloc (.cells #[.int .i64 x.1, .int .i64 x.2.1, .int .i64 x.2.2] 27)).drew) e w6) :
    ∃ a c, e = .returned (.slice a r'.length c) ∧ (w6.cell? ⟨X, 0, none⟩ = some (.pointer (some ⟨H, 0, none⟩)) ∧ w6.cell? ⟨w.heap.size, 0, none⟩ = some (.int .i64 x.1) ∧ w6.cell? ⟨w.heap.size, 1, none⟩ = some (.int .i64 x.2.1) ∧ w6.cell? ⟨w.heap.size, 2, none⟩ = some (.int .i64 x.2.2)) ∧
      (∀ u, (w6.setCell ⟨H, 0, none⟩ u).cell? ⟨X, 0, none⟩ = some (.pointer (some ⟨H, 0, none⟩)) ∧ (w6.setCell ⟨H, 0, none⟩ u).cell? ⟨w.heap.size, 0, none⟩ = some (.int .i64 x.1) ∧ (w6.setCell ⟨H, 0, none⟩ u).cell? ⟨w.heap.size, 1, none⟩ = some (.int .i64 x.2.1) ∧ (w6.setCell ⟨H, 0, none⟩ u).cell? ⟨w.heap.size, 2, none⟩ = some (.int .i64 x.2.2)) ∧
      w6.cell? ⟨H, 0, none⟩ = some v ∧ w6.frozen? ⟨H, 0, none⟩ = false ∧ Hid (Added B X H v r' w (w6.setCell ⟨H, 0, none⟩ (.slice a r'.length c))) := by
  obtain ⟨v', rfl, hown, hgrow, hat⟩ := hI
  obtain ⟨va, c', rfl⟩ := own_slice_len hown
  generalize hW5 : (W.alloc (.cells #[.int .i64 x.1, .int .i64 x.2.1, .int .i64 x.2.2] 27)).drew = W5 at *
  have b5 : Below W.heap.size W W5 := by rw [← hW5]; exact (below_new W _).drew
  have s5 := b5.size
  have sw := h.bel.size
  have far : ∀ k, k < W.heap.size → v.ownBlock ≠ some k → w6.heap[k]? = W.heap[k]? := fun k hk hn => (hgrow.block k (by omega) (fun e => hn e.symm)).trans (b5.block k hk)
  have xX := (far X (lt_of h.ix.x) h.ix.nx).trans h.ix.x
  have xH := (far H (lt_of h.ix.h) h.ix.nh).trans h.ix.h
  have xB : ∀ i, w6.cell? ⟨w.heap.size, i, none⟩ = W.cell? ⟨w.heap.size, i, none⟩ := fun i => World.cell?_of_block (a := ⟨w.heap.size, i, none⟩) (far _ h.box.lt fun e => by have := h.far _ e; dsimp only at this; omega)
  have hXH := xh h.ix
  have hBH : w.heap.size ≠ H := Nat.ne_of_gt h.lh
  have out_ : ∀ k i u, k ≠ H → (w6.setCell ⟨H, 0, none⟩ u).cell? ⟨k, i, none⟩ = w6.cell? ⟨k, i, none⟩ := fun k i u hk => World.cell?_of_block (a := ⟨k, i, none⟩) (Below.heap_setCell _ _ _ _ hk)
  refine ⟨va, c', rfl, ⟨blk_cell xX rfl, (xB 0).trans h.box.1, (xB 1).trans h.box.2.1, (xB 2).trans h.box.2.2⟩,
    fun u => ⟨(out_ _ _ u hXH).trans (blk_cell xX rfl), (out_ _ _ u hBH).trans ((xB 0).trans h.box.1), (out_ _ _ u hBH).trans ((xB 1).trans h.box.2.1), (out_ _ _ u hBH).trans ((xB 2).trans h.box.2.2)⟩, blk_cell xH rfl, blk_free xH, ?_⟩
  have own' : ∀ k, (Value.slice va r'.length c').ownBlock = some k → k ≠ H ∧ k ≠ X := fun k hk => by
    rcases hat with e | e
    · rw [e] at hk
      exact ⟨fun e' => h.ix.nh (e' ▸ hk), fun e' => h.ix.nx (e' ▸ hk)⟩
    · rw [e] at hk
      have := Option.some.inj hk
      have l1 := h.lx
      have l2 := h.lh
      omega
  have hset : ∀ k, k ≠ H → (w6.setCell ⟨H, 0, none⟩ (.slice va r'.length c')).heap[k]? = w6.heap[k]? := fun k hk => Below.heap_setCell _ _ _ _ hk
  refine ⟨.slice va r'.length c', ⟨(hset X hXH).trans xX, (blk_set xH).trans rfl, own_kept hown fun k hk => hset k (own' k hk).1, h.ix.bx, h.ix.bh, fun e => (own' _ e).2 rfl, fun e => (own' _ e).1 rfl⟩, ?_, ?_⟩
  · rcases hat with e | e
    · exact .inl e
    · exact .inr ⟨_, e, by omega⟩
  · have k1 : Kept (Foot H v) w W5 := .of_below (h.bel.trans (b5.mono h.bel.size))
    exact (k1.trans' (Kept.of_grown hgrow) fun i hi => .inl (.inr hi)).set_ (.inl rfl) 0 _
set_option maxRecDepth 100000 in
set_option maxHeartbeats 2000000 in
theorem Add_yes (x : V) (w : World) (h : Ix B X H v r w) (hm : may x = true) (hs : Sorted r) (hl : r.length ≤ 100000) (hx : ¬ x ∈ r) :
    Calls Try.prog 10 #[.pointer (some ⟨X, 0, none⟩), .agg #[.int .i64 x.1, .int .i64 x.2.1, .int .i64 x.2.2]] w fun e w' => e = .returned (.int .i64 0) ∧ Added B X H v (ins r x) w w' := by
  have RR := Lib.hid (run_new h x)
  have HN := Lib.hid (fun W (h : Run w B X H v r x W) => isNone_no W h.ix.cx)
  have HM := Lib.hid (fun W => mayBe x W)
  rw [hm] at HM
  have hf : ∀ (k : Nat) (hk : k < r.length), k = cut (before x) r → ¬ r[k] = x := fun k hk e he => hx (he ▸ List.getElem_mem _)
  have hle := cut_le (before x) r
  have hir : ins r x = r.take (cut (before x) r) ++ x :: r.drop (cut (before x) r) := rfl
  have HI := Lib.hid (fun W (h : Run w B X H v r x W) => Insert B (cut (before x) r) W.heap.size v r x ((W.alloc (.cells #[.int .i64 x.1, .int .i64 x.2.1, .int .i64 x.2.2] 27)).drew) hl hle (by have := (h.ix.own.alloc (.cells #[.int .i64 x.1, .int .i64 x.2.1, .int .i64 x.2.2] 27)); have h1 := h.bel.size; have h2 := h.ix.bx; have h3 := h.lx; simp; omega) (own_step h.ix.own (below_new W _).drew) (heap_alloc_new W _) (fun e => by have := h.far _ e; have := h.bel.size; omega))
  rw [← hir] at HI
  have HBH := Lib.hid (fun W (h : Run w B X H v r x W) e w6 hI => behind (r' := ins r x) (e := e) (w6 := w6) h hI)
  obtain ⟨a, c, rfl, hc, _⟩ := h.lies
  have HC := Lib.hid (fun W (h : Run w B X H (.slice a r.length c) r x W) => h.count hs hl a c rfl)
  obtain ⟨k, hkk⟩ : ∃ k, k = cut (before x) r := ⟨_, rfl⟩
  rw [← hkk] at HC hle HI
  have HA := Lib.hid (fun W (h : Run w B X H (.slice a r.length c) r x W) (hk : k < r.length) => Run.at_ h (a := a) (c := c) rfl hk)
  have HQ : Hid (∀ (hk : k < r.length) W, (binOp .eql 27 (.agg #[.int .i64 r[k].1, .int .i64 r[k].2.1, .int .i64 r[k].2.2]) (.agg #[.int .i64 x.1, .int .i64 x.2.1, .int .i64 x.2.2])).run Try.prog W = .ok (.bool false) W) := Lib.hid fun hk W => by
    rw [run_eql_ver W r[k] x, decide_eq_false (hf k hk hkk)]
  clear h hm hs hx hkk hf hir
  obtain ⟨x0, x1, x2⟩ := x
  dsimp only at *
  generalize ins r (x0, x1, x2) = r' at *
  go_enter Try.func10, Try.ntmps10
  go_upto_region 1 with (fail)
  generalize World.alloc w _ = W1 at *
  obtain ⟨k0, k1, k2⟩ := RR.out.box
  dsimp only at k0 k1 k2
  go_upto_region 5 with (first
    | (go_at_call 25; refine (HN.out _ RR.out).mono ?_; rintro e _ ⟨rfl, rfl⟩)
    | (go_at_call 26; refine (HM.out _).mono ?_; rintro e w2 ⟨rfl, hb⟩; replace RR := Lib.hid (RR.out.step hb); clear hb))
  clear k0 k1 k2
  have c0 := RR.out.ix.cx
  have c1 := RR.out.ix.ch
  go_upto_region 7 with (go_at_call 27; refine (HC.out _ RR.out).mono ?_; rintro e w3 ⟨rfl, hb⟩; replace RR := Lib.hid (RR.out.step hb); clear hb)
  clear c0 c1 HC HM HN
  have N5 := Lib.hid (fun n => RR.out.step (below_drewN w3 n))
  obtain ⟨k0, k1, k2⟩ := RR.out.box
  dsimp only at k0 k1 k2
  by_cases hk : k < r.length
  · obtain ⟨g, o, rfl, m0, m1, m2⟩ := HA.out _ RR.out hk
    have hQ := HQ.out hk
    have hki : (k : Int) < (r.length : Int) := by omega
    clear HA HQ RR
    go_quiet (fail)
    generalize hW : World.drewN w3 _ = W4
    have RR := Lib.hid (show Run w B X H (.slice (some ⟨g, o, none⟩) r.length c) r (x0, x1, x2) W4 by rw [← hW]; exact N5.out _)
    clear hW N5 hQ m0 m1 m2 k0 k1 k2
    have c0 := RR.out.ix.cx
    obtain ⟨k0, k1, k2⟩ := RR.out.box
    dsimp only at k0 k1 k2
    have HIW := Lib.hid (HI.out W4 RR.out)
    have HBW := Lib.hid (HBH.out W4 RR.out)
    have HK : Hid (∀ o, (W4.alloc o).drew.cell? ⟨X, 0, none⟩ = some (.pointer (some ⟨H, 0, none⟩)) ∧ (W4.alloc o).drew.cell? ⟨w.heap.size, 0, none⟩ = some (.int .i64 x0) ∧ (W4.alloc o).drew.cell? ⟨w.heap.size, 1, none⟩ = some (.int .i64 x1) ∧ (W4.alloc o).drew.cell? ⟨w.heap.size, 2, none⟩ = some (.int .i64 x2)) := Lib.hid fun o =>
      ⟨(RR.out.step (below_new W4 o).drew).ix.cx, (RR.out.step (below_new W4 o).drew).box.1, (RR.out.step (below_new W4 o).drew).box.2.1, (RR.out.step (below_new W4 o).drew).box.2.2⟩
    clear HI HBH RR
    go_upto_region 9 with (fail)
    go_region_held3 (fun w' => w'.cell? ⟨X, 0, none⟩ = some (.pointer (some ⟨H, 0, none⟩)) ∧ w'.cell? ⟨w.heap.size, 0, none⟩ = some (.int .i64 x0) ∧ w'.cell? ⟨w.heap.size, 1, none⟩ = some (.int .i64 x1) ∧ w'.cell? ⟨w.heap.size, 2, none⟩ = some (.int .i64 x2))
      (first | exact hS | exact ⟨c0, k0, k1, k2⟩ | exact HK.out _ | exact HS7.out _)
      (first
        | (go_at_call 30; refine HIW.out.mono ?_; rintro e w6 hI; obtain ⟨va, vc', rfl, hS, h7, c6, f6, HA6⟩ := HBW.out _ _ hI; have HS7 := Lib.hid h7; clear h7; clear hI HIW HBW))
    go_wp2
    go_ret
    exact ⟨rfl, HA6.out⟩
  · obtain rfl : k = r.length := by omega
    clear HA HQ RR
    go_quiet (fail)
    generalize hW : World.drewN w3 _ = W4
    have RR := Lib.hid (show Run w B X H (.slice a r.length c) r (x0, x1, x2) W4 by rw [← hW]; exact N5.out _)
    clear hW N5 k0 k1 k2
    have c0 := RR.out.ix.cx
    obtain ⟨k0, k1, k2⟩ := RR.out.box
    dsimp only at k0 k1 k2
    have HIW := Lib.hid (HI.out W4 RR.out)
    have HBW := Lib.hid (HBH.out W4 RR.out)
    have HK : Hid (∀ o, (W4.alloc o).drew.cell? ⟨X, 0, none⟩ = some (.pointer (some ⟨H, 0, none⟩)) ∧ (W4.alloc o).drew.cell? ⟨w.heap.size, 0, none⟩ = some (.int .i64 x0) ∧ (W4.alloc o).drew.cell? ⟨w.heap.size, 1, none⟩ = some (.int .i64 x1) ∧ (W4.alloc o).drew.cell? ⟨w.heap.size, 2, none⟩ = some (.int .i64 x2)) := Lib.hid fun o =>
      ⟨(RR.out.step (below_new W4 o).drew).ix.cx, (RR.out.step (below_new W4 o).drew).box.1, (RR.out.step (below_new W4 o).drew).box.2.1, (RR.out.step (below_new W4 o).drew).box.2.2⟩
    clear HI HBH RR
    go_upto_region 9 with (fail)
    go_region_held3 (fun w' => w'.cell? ⟨X, 0, none⟩ = some (.pointer (some ⟨H, 0, none⟩)) ∧ w'.cell? ⟨w.heap.size, 0, none⟩ = some (.int .i64 x0) ∧ w'.cell? ⟨w.heap.size, 1, none⟩ = some (.int .i64 x1) ∧ w'.cell? ⟨w.heap.size, 2, none⟩ = some (.int .i64 x2))
      (first | exact hS | exact ⟨c0, k0, k1, k2⟩ | exact HK.out _ | exact HS7.out _)
      (first
        | (go_at_call 30; refine HIW.out.mono ?_; rintro e w6 hI; obtain ⟨va, vc', rfl, hS, h7, c6, f6, HA6⟩ := HBW.out _ _ hI; have HS7 := Lib.hid h7; clear h7; clear hI HIW HBW))
    go_wp2
    go_ret
    exact ⟨rfl, HA6.out⟩
/-- THE CONTRACT of Add. -/
theorem Add (x : V) (w : World) (h : Ix B X H v r w) (hs : Sorted r) (hl : r.length ≤ 100000) :
    Calls Try.prog 10 #[.pointer (some ⟨X, 0, none⟩), .agg #[.int .i64 x.1, .int .i64 x.2.1, .int .i64 x.2.2]] w fun e w' => e = .returned (.int .i64 (why r x)) ∧ Added B X H v (add r x) w w' := by
  unfold why add
  cases hm : may x with
  | false =>
    simp only [Bool.false_and, Bool.false_eq_true, if_false]
    exact (Add_no x w h hm).mono fun e w' ⟨h1, h2⟩ => ⟨h1, Added.of_below h h2⟩
  | true =>
    by_cases hx : x ∈ r
    · simp only [hx, decide_true, Bool.not_true, Bool.and_false, Bool.false_eq_true, if_false, if_true]
      exact (Add_twice x w h hm hs hl hx).mono fun e w' ⟨h1, h2⟩ => ⟨h1, Added.of_below h h2⟩
    · simp only [hx, decide_false, Bool.not_false, Bool.and_self, if_false, if_true]
      exact Add_yes x w h hm hs hl hx
end Go.Proofs.Ytnebbbloipdnbaa.IdxB
