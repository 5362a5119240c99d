/- keepsakeref21.Make: the walk of its text. The condition: a row of sealed records that lies there. -/
import Derived.Test.YtkidehngleglnaaLRcn
import Derived.Test.YtkidehngleglnaaRcpD
import Derived.Test.YtkidehngleglnaaLRcp
import Derived.Deep.RegionHeld3
namespace Go.Proofs.Ytkidehngleglnaa.RcpO
set_option linter.unusedVariables false
open Go.RowKit
open RecN RecC ChnN ChnM ChnC ChnD RcpN RcpC RcpQ
open RcpM (Tz tz_new br_lit)
section
variable (g o c n : Nat) (s : List Sd) (w : World) (hc : ∀ i (hi : i < s.length), At9 w g (o + i * 9) s[i]) (hL : Lies w (some ⟨g, o, none⟩) (ss s)) (hg : g < w.heap.size) (hl : s.length = n) (hn : n ≤ maxLen) (hcap : n ≤ c)
include hc hL hg hl hn hcap
set_option maxRecDepth 100000 in
set_option maxHeartbeats 8000000 in
theorem made (k : Nat) (hk : k < n) (h1 : isC s k = true) (out : Array Value) (ho : (decide (rok (mkR s k)) = true ∧ out = #[.agg #[.int .i64 (mkR s k).q, .int .i64 (mkR s k).r.k, .int .i64 (mkR s k).r.ep, .int .i64 (mkR s k).r.tm, .int .i64 (mkR s k).r.ct, .int .i64 (mkR s k).r.tg, .int .i64 (mkR s k).r.un, .string ⟨(mkR s k).r.rt.toArray⟩, .string ⟨(mkR s k).r.nm.toArray⟩, .string ⟨(mkR s k).was.toArray⟩, .string ⟨(mkR s k).tag.toArray⟩], .int .i64 0]) ∨ (decide (rok (mkR s k)) = false ∧ out = #[.agg #[.int .i64 0, .int .i64 0, .int .i64 0, .int .i64 0, .int .i64 0, .int .i64 0, .int .i64 0, .string ⟨#[]⟩, .string ⟨#[]⟩, .string ⟨#[]⟩, .string ⟨#[]⟩], .int .i64 2])) :
    Calls Try.prog 8 #[.slice (some ⟨g, o, none⟩) n c, .int .i64 (k : Int)] w fun e w' => e = .returned (.tuple out) ∧ Below w.heap.size w w' := by
  have hks : k < s.length := by omega
  have hxk : s[k].1.k = 1 := by rw [isC_at s hks] at h1; exact of_decide_eq_true h1
  obtain ⟨W1, hW1⟩ : ∃ W1, W1 = w.alloc (.cells #[.int .i64 0, .int .i64 0, .int .i64 0, .int .i64 0, .int .i64 0, .int .i64 0, .int .i64 0, .string ⟨#[]⟩, .string ⟨#[]⟩, .string ⟨#[]⟩, .string ⟨#[]⟩] 26) := ⟨_, rfl⟩
  have TT : Hid (Tz w W1) := Lib.hid (by rw [hW1]; exact tz_new w)
  have h9 := (hc k hks).step hg TT.out.bel
  have hg1 : g < W1.heap.size := Nat.lt_of_lt_of_le hg TT.out.bel.size
  have HY : Hid (mkR s k = ⟨(k : Int), s[k].1, lastT (s.take k), s[k].2⟩) := Lib.hid (mkR_at s hks)
  have HL : Hid (∀ W, Below W1.heap.size W1 W → Calls Try.prog 18 #[.slice (some ⟨g, o, none⟩) k c] W fun e w' => e = .returned (.string ⟨(lastT (s.take k)).toArray⟩) ∧ Below W.heap.size W w') := Lib.hid (fun W hb => RcpD.Last (some ⟨g, o, none⟩) k c (s.take k) W ((hL.take k).step (TT.out.bel.trans (hb.mono TT.out.bel.size))) (by rw [List.length_take]; omega) (by omega))
  have hcut := cut_s g o n c k (by omega) (by omega)
  generalize lastT (s.take k) = ws at *
  generalize s[k] = x at *
  have hgk : At9 W1 g (o + k * 9) x := h9
  have HM := Lib.hid (fun W => RcpD.Right (mkR s k) W)
  have hq : (x.1.k != 1) = false := by rw [hxk]; rfl
  have p0 : (0 : Int) ≤ (k : Int) := by omega
  have p1 : (k : Int) < (n : Int) := by omega
  have p2 : ¬ (k : Int) < 0 := by omega
  have p3 : ¬ (n : Int) ≤ (k : Int) := by omega
  have B0 : Hid (Below W1.heap.size W1 W1.drew) := Lib.hid (Below.refl _ _).drew
  have B1 : Hid (Below W1.heap.size W1 (W1.drew.alloc (.cells #[.int .i64 0, .int .i64 0, .int .i64 0, .int .i64 0, .int .i64 0, .int .i64 0, .int .i64 0, .string ⟨#[]⟩, .string ⟨#[]⟩, .string ⟨#[]⟩, .string ⟨#[]⟩] 26))) := Lib.hid (B0.out.trans (below_new W1.drew _))
  have N1 : Hid ((W1.drew.alloc (.cells #[.int .i64 0, .int .i64 0, .int .i64 0, .int .i64 0, .int .i64 0, .int .i64 0, .int .i64 0, .string ⟨#[]⟩, .string ⟨#[]⟩, .string ⟨#[]⟩, .string ⟨#[]⟩] 26)).heap[W1.heap.size]? = some (.cells #[.int .i64 0, .int .i64 0, .int .i64 0, .int .i64 0, .int .i64 0, .int .i64 0, .int .i64 0, .string ⟨#[]⟩, .string ⟨#[]⟩, .string ⟨#[]⟩, .string ⟨#[]⟩] 26 (0, 0))) := Lib.hid (heap_alloc_new W1.drew _)
  have HS : Hid (∀ W, Below W1.heap.size W1 W → At9 W g (o + k * 9) x) := Lib.hid (fun W hb => hgk.step hg1 hb)
  have HA : Hid (∀ W, Below W1.heap.size W1 W → Below W1.heap.size W1 (W.alloc (.cells #[.int .i64 0, .int .i64 0, .int .i64 0, .int .i64 0, .int .i64 0, .int .i64 0, .int .i64 0, .string ⟨#[]⟩, .string ⟨#[]⟩, .string ⟨#[]⟩, .string ⟨#[]⟩] 26))) := Lib.hid (fun W hb => hb.trans ((below_new W _).mono hb.size))
  have HR : Hid (∀ W, Below W1.heap.size W1 W → ∀ X, W1.heap.size ≤ X → Below W1.heap.size W1 (W.setRow X #[.int .i64 (k : Int), .int .i64 x.1.k, .int .i64 x.1.ep, .int .i64 x.1.tm, .int .i64 x.1.ct, .int .i64 x.1.tg, .int .i64 x.1.un, .string ⟨x.1.rt.toArray⟩, .string ⟨x.1.nm.toArray⟩, .string ⟨ws.toArray⟩, .string ⟨x.2.toArray⟩])) := Lib.hid (fun W hb X hX => below_setRow hb hX _)
  obtain ⟨q0, q1, q2, q3, q4, q5, q6, q7, q8⟩ := h9
  clear hc hL h1 hxk hks hgk hcap
  go_enter Try.func8, Try.ntmps8
  go_upto_region 1 with (fail)
  rw [← hW1]
  clear hW1
  go_upto_region 3 with (fail)
  clear q0 q1 q2 q3 q4 q5 q6 q7 q8
  have hS := HS.out _ B0.out
  have hS1 := HS.out _ B1.out
  refine wp_region_held_drew (S := fun W' => W'.cell? ⟨g, o + k * 9, none⟩ = some (.int .i64 x.1.k) ∧ W'.cell? ⟨g, o + k * 9 + 1, none⟩ = some (.int .i64 x.1.ep) ∧ W'.cell? ⟨g, o + k * 9 + 2, none⟩ = some (.int .i64 x.1.tm) ∧ W'.cell? ⟨g, o + k * 9 + 3, none⟩ = some (.int .i64 x.1.ct) ∧ W'.cell? ⟨g, o + k * 9 + 4, none⟩ = some (.int .i64 x.1.tg) ∧ W'.cell? ⟨g, o + k * 9 + 5, none⟩ = some (.int .i64 x.1.un) ∧ W'.cell? ⟨g, o + k * 9 + 6, none⟩ = some (.string ⟨x.1.rt.toArray⟩) ∧ W'.cell? ⟨g, o + k * 9 + 7, none⟩ = some (.string ⟨x.1.nm.toArray⟩) ∧ W'.cell? ⟨g, o + k * 9 + 8, none⟩ = some (.string ⟨x.2.toArray⟩)) (by kernel_rfl) hS (fun _ => ?_)
  change wpAnyH _ _ _ _ _ _ #[false, false, false, false, false, false, false, false, false, false, false, false, false, false, false, false, false, false] _ _
  refine wpAnyH_take (i := 0) (v := ?v1) (by rw [List.getElem?_toArray]; rfl) (by kernel_rfl) (by kernel_rfl) (by kernel_rfl) (by intro _ _ _ h; exact h) (Or.inl ⟨by rfl, ?hy1⟩) (by assumption) ?rest1
  case hy1 => (intro W hSW; (try dsimp only at hSW); go_simp; try with_reducible rfl)
  try simp only [Act.put, List.setIfInBounds_toArray, List.set_cons_zero, List.set_cons_succ]
  refine wpAnyH_take (i := 1) (v := ?v2) (by rw [List.getElem?_toArray]; rfl) (by kernel_rfl) (by kernel_rfl) (by kernel_rfl) (by intro _ _ _ h; exact h) (Or.inl ⟨by rfl, ?hy2⟩) (by assumption) ?rest2
  case hy2 => (intro W hSW; (try dsimp only at hSW); go_simp; try with_reducible rfl)
  try simp only [Act.put, List.setIfInBounds_toArray, List.set_cons_zero, List.set_cons_succ]
  refine wpAnyH_take (i := 2) (v := ?v3) (by rw [List.getElem?_toArray]; rfl) (by kernel_rfl) (by kernel_rfl) (by kernel_rfl) (by intro _ _ _ h; exact h) (Or.inl ⟨by rfl, ?hy3⟩) (by assumption) ?rest3
  case hy3 => (intro W hSW; (try dsimp only at hSW); go_simp; try with_reducible rfl)
  try simp only [Act.put, List.setIfInBounds_toArray, List.set_cons_zero, List.set_cons_succ]
  refine wpAnyH_take (i := 3) (v := ?v4) (by rw [List.getElem?_toArray]; rfl) (by kernel_rfl) (by kernel_rfl) (by kernel_rfl) (by intro _ _ _ h; exact h) (Or.inl ⟨by rfl, ?hy4⟩) (by assumption) ?rest4
  case hy4 => (intro W hSW; (try dsimp only at hSW); go_simp; try with_reducible rfl)
  try simp only [Act.put, List.setIfInBounds_toArray, List.set_cons_zero, List.set_cons_succ]
  refine wpAnyH_take (i := 4) (v := ?v5) (by rw [List.getElem?_toArray]; rfl) (by kernel_rfl) (by kernel_rfl) (by kernel_rfl) (by intro _ _ _ h; exact h) (Or.inl ⟨by rfl, ?hy5⟩) (by assumption) ?rest5
  case hy5 => (intro W hSW; (try dsimp only at hSW); go_simp; try with_reducible rfl)
  try simp only [Act.put, List.setIfInBounds_toArray, List.set_cons_zero, List.set_cons_succ]
  refine wpAnyH_take (i := 5) (v := ?v6) (by rw [List.getElem?_toArray]; rfl) (by kernel_rfl) (by kernel_rfl) (by kernel_rfl) (by intro _ _ _ h; exact h) (Or.inl ⟨by rfl, ?hy6⟩) (by assumption) ?rest6
  case hy6 => (intro W hSW; (try dsimp only at hSW); go_simp; try with_reducible rfl)
  try simp only [Act.put, List.setIfInBounds_toArray, List.set_cons_zero, List.set_cons_succ]
  refine wpAnyH_take (i := 6) (v := ?v7) (by rw [List.getElem?_toArray]; rfl) (by kernel_rfl) (by kernel_rfl) (by kernel_rfl) (by intro _ _ _ h; exact h) (Or.inl ⟨by rfl, ?hy7⟩) (by assumption) ?rest7
  case hy7 => (intro W hSW; (try dsimp only at hSW); go_simp; try with_reducible rfl)
  try simp only [Act.put, List.setIfInBounds_toArray, List.set_cons_zero, List.set_cons_succ]
  refine wpAnyH_take (i := 7) (v := ?v8) (by rw [List.getElem?_toArray]; rfl) (by kernel_rfl) (by kernel_rfl) (by kernel_rfl) (by intro _ _ _ h; exact h) (Or.inl ⟨by rfl, ?hy8⟩) (by assumption) ?rest8
  case hy8 => (intro W hSW; (try dsimp only at hSW); go_simp; try with_reducible rfl)
  try simp only [Act.put, List.setIfInBounds_toArray, List.set_cons_zero, List.set_cons_succ]
  refine wpAnyH_take (i := 8) (v := ?v9) (by rw [List.getElem?_toArray]; rfl) (by kernel_rfl) (by kernel_rfl) (by kernel_rfl) (by intro _ _ _ h; exact h) (Or.inl ⟨by rfl, ?hy9⟩) (by assumption) ?rest9
  case hy9 => (intro W hSW; (try dsimp only at hSW); go_simp; try with_reducible rfl)
  try simp only [Act.put, List.setIfInBounds_toArray, List.set_cons_zero, List.set_cons_succ]
  refine wpAnyH_take (i := 10) (v := ?v10) (by rw [List.getElem?_toArray]; rfl) (by kernel_rfl) (by kernel_rfl) (by kernel_rfl) (by intro _ _ _ h; exact h) (Or.inl ⟨by rfl, ?hy10⟩) (by assumption) ?rest10
  case hy10 => (intro W hSW; (try dsimp only at hSW); go_simp; try with_reducible rfl)
  try simp only [Act.put, List.setIfInBounds_toArray, List.set_cons_zero, List.set_cons_succ]
  refine wpAnyH_take (i := 11) (v := ?v11) (by rw [List.getElem?_toArray]; rfl) (by kernel_rfl) (by kernel_rfl) (by kernel_rfl) (by intro _ _ _ h; exact h) (Or.inl ⟨by rfl, ?hy11⟩) (by assumption) ?rest11
  case hy11 => (intro W hSW; (try dsimp only at hSW); go_simp; try with_reducible rfl)
  try simp only [Act.put, List.setIfInBounds_toArray, List.set_cons_zero, List.set_cons_succ]
  refine wpAnyH_take (i := 12) (v := ?v12) (by rw [List.getElem?_toArray]; rfl) (by kernel_rfl) (by kernel_rfl) (by kernel_rfl) (by intro _ _ _ h; exact h) (Or.inl ⟨by rfl, ?hy12⟩) (by assumption) ?rest12
  case hy12 => (intro W hSW; (try dsimp only at hSW); go_simp; try with_reducible rfl)
  try simp only [Act.put, List.setIfInBounds_toArray, List.set_cons_zero, List.set_cons_succ]
  refine wpAnyH_take (i := 13) (v := ?v13) (by rw [List.getElem?_toArray]; rfl) (by kernel_rfl) (by kernel_rfl) (by kernel_rfl) (by intro _ _ _ h; exact h) (Or.inl ⟨by rfl, ?hy13⟩) (by assumption) ?rest13
  case hy13 => (intro W hSW; (try dsimp only at hSW); go_simp; try with_reducible rfl)
  try simp only [Act.put, List.setIfInBounds_toArray, List.set_cons_zero, List.set_cons_succ]
  refine wpAnyH_take (i := 14) (v := ?v14) (by rw [List.getElem?_toArray]; rfl) (by kernel_rfl) (by kernel_rfl) (by kernel_rfl) (by intro _ _ _ h; exact h) (Or.inl ⟨by rfl, ?hy14⟩) (by assumption) ?rest14
  case hy14 => (intro W hSW; (try dsimp only at hSW); go_simp; try with_reducible rfl)
  try simp only [Act.put, List.setIfInBounds_toArray, List.set_cons_zero, List.set_cons_succ]
  refine wpAnyH_ready (rs := [9, 16]) (by kernel_rfl) (by simp) (AllReadyH.cons (by rw [List.getElem?_toArray]; rfl) (fun K hK => ?_) (AllReadyH.cons (by rw [List.getElem?_toArray]; rfl) (fun K hK => ?_) AllReadyH.nil))
  · go_simp
    refine (HL.out _ B0.out).mono ?_
    rintro e w5 ⟨rfl, hb5⟩
    have B5 := Lib.hid (B0.out.trans hb5)
    have hS := HS.out _ B5.out
    have hS1 := HS.out _ (HA.out _ B5.out)
    have N5 := Lib.hid (heap_alloc_new w5 (.cells #[.int .i64 0, .int .i64 0, .int .i64 0, .int .i64 0, .int .i64 0, .int .i64 0, .int .i64 0, .string ⟨#[]⟩, .string ⟨#[]⟩, .string ⟨#[]⟩, .string ⟨#[]⟩] 26))
    have B6 := Lib.hid (HA.out _ B5.out)
    have X5 := Lib.hid B5.out.size
    clear hb5
    refine hK.out _ _ hS (fun _ => ?_)
    clear hK K
    try simp only [List.setIfInBounds_toArray, List.set_cons_zero, List.set_cons_succ]
    refine wpAnyH_take (i := 15) (v := ?v15) (by rw [List.getElem?_toArray]; rfl) (by kernel_rfl) (by kernel_rfl) (by kernel_rfl) (by intro _ _ _ h; exact h) (Or.inl ⟨by rfl, ?hy15⟩) (by assumption) ?rest15
    case hy15 => (intro W hSW; (try dsimp only at hSW); go_simp; try with_reducible rfl)
    try simp only [Act.put, List.setIfInBounds_toArray, List.set_cons_zero, List.set_cons_succ]
    refine wpAnyH_ready (rs := [16]) (by kernel_rfl) (by simp) (AllReadyH.cons (by rw [List.getElem?_toArray]; rfl) (fun K hK => ?_) AllReadyH.nil)
    go_simp
    refine hK.out _ _ hS1 (fun _ => ?_)
    clear hK K
    try simp only [List.setIfInBounds_toArray, List.set_cons_zero, List.set_cons_succ]
    refine wpAnyH_ready (rs := [17]) (by kernel_rfl) (by simp) (AllReadyH.cons (by rw [List.getElem?_toArray]; rfl) (fun K hK => ?_) AllReadyH.nil)
    rw [if_pos (by rfl)]
    refine wp_store_row 26 _ _ rfl (w5.heap.size) #[.int .i64 (k : Int), .int .i64 x.1.k, .int .i64 x.1.ep, .int .i64 x.1.tm, .int .i64 x.1.ct, .int .i64 x.1.tg, .int .i64 x.1.un, .string ⟨x.1.rt.toArray⟩, .string ⟨x.1.nm.toArray⟩, .string ⟨ws.toArray⟩, .string ⟨x.2.toArray⟩] rfl rfl 26 #[.int .i64 0, .int .i64 0, .int .i64 0, .int .i64 0, .int .i64 0, .int .i64 0, .int .i64 0, .string ⟨#[]⟩, .string ⟨#[]⟩, .string ⟨#[]⟩, .string ⟨#[]⟩] N5.out infoP rfl (one11 ⟨(k : Int), x.1, ws, x.2⟩) ?_
    have B7 := Lib.hid (HR.out _ B6.out w5.heap.size B5.out.size)
    have hS3 := HS.out _ B7.out
    have G7 := Lib.hid (setRow_same (cs := #[.int .i64 (k : Int), .int .i64 x.1.k, .int .i64 x.1.ep, .int .i64 x.1.tm, .int .i64 x.1.ct, .int .i64 x.1.tg, .int .i64 x.1.un, .string ⟨x.1.rt.toArray⟩, .string ⟨x.1.nm.toArray⟩, .string ⟨ws.toArray⟩, .string ⟨x.2.toArray⟩]) N5.out)
    refine hK.out _ _ hS3 (fun _ => ?_)
    clear hK K
    try simp only [Act.put, List.setIfInBounds_toArray, List.set_cons_zero, List.set_cons_succ]
    refine wpAnyH_done (by kernel_rfl) ?_ _
    have T6 := Lib.hid (TT.out.step B7.out)
    have G6 := Lib.hid (br_lit G7.out HY.out)
    clear hS hS1 hS3 B7 G7 N5 B6 HL HS HA HR B0 B1 N1 HY TT hcut
    revert T6 G6
    generalize World.setRow _ _ _ = W6
    intro T6 G6
    generalize mkR s k = y at *
    obtain ⟨k0, k1, k2, k3, k4, k5, k6, k7, k8, k9, k10⟩ := G6.out.cells
    rcases ho with ⟨hr, rfl⟩ | ⟨hr, rfl⟩
    · rw [hr] at HM
      clear hr
      go_wp2_with (first
        | (go_at_call 11; refine (HM.out _).mono ?_; rintro e w8 ⟨rfl, hb⟩; have T8 := Lib.hid (T6.out.step hb); have G8 := Lib.hid (G6.out.step hb); clear hb HM k0 k1 k2 k3 k4 k5 k6 k7 k8 k9 k10; obtain ⟨k0, k1, k2, k3, k4, k5, k6, k7, k8, k9, k10⟩ := G8.out.cells)
        | (refine wpList_store_row rfl 26 _ _ rfl w.heap.size _ rfl rfl 26 _ T8.out.k infoP rfl (one11 y) ?_))
      refine bodyPost_ret (v := .tuple #[.agg #[.int .i64 y.q, .int .i64 y.r.k, .int .i64 y.r.ep, .int .i64 y.r.tm, .int .i64 y.r.ct, .int .i64 y.r.tg, .int .i64 y.r.un, .string ⟨y.r.rt.toArray⟩, .string ⟨y.r.nm.toArray⟩, .string ⟨y.was.toArray⟩, .string ⟨y.tag.toArray⟩], .int .i64 0])
        (results_cell_tmp_row Try.results8 _ _ w.heap.size 26 _ (0, 0) _ rfl (setRow_same T8.out.k) Try.underlying26 rfl infoP) rfl
        ⟨rfl, below_setRow T8.out.bel (Nat.le_refl _) _⟩
    · rw [hr] at HM
      clear hr
      go_wp2_with (first
        | (go_at_call 11; refine (HM.out _).mono ?_; rintro e w8 ⟨rfl, hb⟩; have T8 := Lib.hid (T6.out.step hb); clear hb HM k0 k1 k2 k3 k4 k5 k6 k7 k8 k9 k10)
        | (refine wpList_store_row rfl 26 _ _ rfl w.heap.size _ rfl rfl 26 _ T8.out.k infoP rfl one11_0 ?_))
      refine bodyPost_ret (v := .tuple #[.agg #[.int .i64 0, .int .i64 0, .int .i64 0, .int .i64 0, .int .i64 0, .int .i64 0, .int .i64 0, .string ⟨#[]⟩, .string ⟨#[]⟩, .string ⟨#[]⟩, .string ⟨#[]⟩], .int .i64 2])
        (results_cell_tmp_row Try.results8 _ _ w.heap.size 26 _ (0, 0) _ rfl (setRow_same T8.out.k) Try.underlying26 rfl infoP) rfl
        ⟨rfl, below_setRow T8.out.bel (Nat.le_refl _) _⟩
  · go_simp
    refine hK.out _ _ hS1 (fun _ => ?_)
    clear hK K
    try simp only [List.setIfInBounds_toArray, List.set_cons_zero, List.set_cons_succ]
    refine wpAnyH_ready (rs := [9]) (by kernel_rfl) (by simp) (AllReadyH.cons (by rw [List.getElem?_toArray]; rfl) (fun K hK => ?_) AllReadyH.nil)
    go_simp
    refine (HL.out _ B1.out).mono ?_
    rintro e w5 ⟨rfl, hb5⟩
    have B6 := Lib.hid (B1.out.trans (hb5.mono B1.out.size))
    have hS := HS.out _ B6.out
    have N5 := Lib.hid ((hb5.block _ (lt_of_some N1.out)).trans N1.out)
    have X5 := Lib.hid (Nat.le_refl W1.heap.size)
    clear hb5
    refine hK.out _ _ hS (fun _ => ?_)
    clear hK K
    try simp only [List.setIfInBounds_toArray, List.set_cons_zero, List.set_cons_succ]
    refine wpAnyH_take (i := 15) (v := ?v16) (by rw [List.getElem?_toArray]; rfl) (by kernel_rfl) (by kernel_rfl) (by kernel_rfl) (by intro _ _ _ h; exact h) (Or.inl ⟨by rfl, ?hy16⟩) (by assumption) ?rest16
    case hy16 => (intro W hSW; (try dsimp only at hSW); go_simp; try with_reducible rfl)
    try simp only [Act.put, List.setIfInBounds_toArray, List.set_cons_zero, List.set_cons_succ]
    refine wpAnyH_ready (rs := [17]) (by kernel_rfl) (by simp) (AllReadyH.cons (by rw [List.getElem?_toArray]; rfl) (fun K hK => ?_) AllReadyH.nil)
    rw [if_pos (by rfl)]
    refine wp_store_row 26 _ _ rfl (W1.heap.size) #[.int .i64 (k : Int), .int .i64 x.1.k, .int .i64 x.1.ep, .int .i64 x.1.tm, .int .i64 x.1.ct, .int .i64 x.1.tg, .int .i64 x.1.un, .string ⟨x.1.rt.toArray⟩, .string ⟨x.1.nm.toArray⟩, .string ⟨ws.toArray⟩, .string ⟨x.2.toArray⟩] rfl rfl 26 #[.int .i64 0, .int .i64 0, .int .i64 0, .int .i64 0, .int .i64 0, .int .i64 0, .int .i64 0, .string ⟨#[]⟩, .string ⟨#[]⟩, .string ⟨#[]⟩, .string ⟨#[]⟩] N5.out infoP rfl (one11 ⟨(k : Int), x.1, ws, x.2⟩) ?_
    have B7 := Lib.hid (HR.out _ B6.out W1.heap.size (Nat.le_refl _))
    have hS3 := HS.out _ B7.out
    have G7 := Lib.hid (setRow_same (cs := #[.int .i64 (k : Int), .int .i64 x.1.k, .int .i64 x.1.ep, .int .i64 x.1.tm, .int .i64 x.1.ct, .int .i64 x.1.tg, .int .i64 x.1.un, .string ⟨x.1.rt.toArray⟩, .string ⟨x.1.nm.toArray⟩, .string ⟨ws.toArray⟩, .string ⟨x.2.toArray⟩]) N5.out)
    refine hK.out _ _ hS3 (fun _ => ?_)
    clear hK K
    try simp only [Act.put, List.setIfInBounds_toArray, List.set_cons_zero, List.set_cons_succ]
    refine wpAnyH_done (by kernel_rfl) ?_ _
    have T6 := Lib.hid (TT.out.step B7.out)
    have G6 := Lib.hid (br_lit G7.out HY.out)
    clear hS hS1 hS3 B7 G7 N5 B6 HL HS HA HR B0 B1 N1 HY TT hcut
    revert T6 G6
    generalize World.setRow _ _ _ = W6
    intro T6 G6
    generalize mkR s k = y at *
    obtain ⟨k0, k1, k2, k3, k4, k5, k6, k7, k8, k9, k10⟩ := G6.out.cells
    rcases ho with ⟨hr, rfl⟩ | ⟨hr, rfl⟩
    · rw [hr] at HM
      clear hr
      go_wp2_with (first
        | (go_at_call 11; refine (HM.out _).mono ?_; rintro e w8 ⟨rfl, hb⟩; have T8 := Lib.hid (T6.out.step hb); have G8 := Lib.hid (G6.out.step hb); clear hb HM k0 k1 k2 k3 k4 k5 k6 k7 k8 k9 k10; obtain ⟨k0, k1, k2, k3, k4, k5, k6, k7, k8, k9, k10⟩ := G8.out.cells)
        | (refine wpList_store_row rfl 26 _ _ rfl w.heap.size _ rfl rfl 26 _ T8.out.k infoP rfl (one11 y) ?_))
      refine bodyPost_ret (v := .tuple #[.agg #[.int .i64 y.q, .int .i64 y.r.k, .int .i64 y.r.ep, .int .i64 y.r.tm, .int .i64 y.r.ct, .int .i64 y.r.tg, .int .i64 y.r.un, .string ⟨y.r.rt.toArray⟩, .string ⟨y.r.nm.toArray⟩, .string ⟨y.was.toArray⟩, .string ⟨y.tag.toArray⟩], .int .i64 0])
        (results_cell_tmp_row Try.results8 _ _ w.heap.size 26 _ (0, 0) _ rfl (setRow_same T8.out.k) Try.underlying26 rfl infoP) rfl
        ⟨rfl, below_setRow T8.out.bel (Nat.le_refl _) _⟩
    · rw [hr] at HM
      clear hr
      go_wp2_with (first
        | (go_at_call 11; refine (HM.out _).mono ?_; rintro e w8 ⟨rfl, hb⟩; have T8 := Lib.hid (T6.out.step hb); clear hb HM k0 k1 k2 k3 k4 k5 k6 k7 k8 k9 k10)
        | (refine wpList_store_row rfl 26 _ _ rfl w.heap.size _ rfl rfl 26 _ T8.out.k infoP rfl one11_0 ?_))
      refine bodyPost_ret (v := .tuple #[.agg #[.int .i64 0, .int .i64 0, .int .i64 0, .int .i64 0, .int .i64 0, .int .i64 0, .int .i64 0, .string ⟨#[]⟩, .string ⟨#[]⟩, .string ⟨#[]⟩, .string ⟨#[]⟩], .int .i64 2])
        (results_cell_tmp_row Try.results8 _ _ w.heap.size 26 _ (0, 0) _ rfl (setRow_same T8.out.k) Try.underlying26 rfl infoP) rfl
        ⟨rfl, below_setRow T8.out.bel (Nat.le_refl _) _⟩
omit hL hn hcap in
set_option maxRecDepth 100000 in
set_option maxHeartbeats 4000000 in
theorem other (k : Nat) (hk : k < n) (h1 : isC s k = false) :
    Calls Try.prog 8 #[.slice (some ⟨g, o, none⟩) n c, .int .i64 (k : Int)] w fun e w' => e = .returned (.tuple #[.agg #[.int .i64 0, .int .i64 0, .int .i64 0, .int .i64 0, .int .i64 0, .int .i64 0, .int .i64 0, .string ⟨#[]⟩, .string ⟨#[]⟩, .string ⟨#[]⟩, .string ⟨#[]⟩], .int .i64 7]) ∧ Below w.heap.size w w' := by
  have hks : k < s.length := by omega
  have hxk : s[k].1.k ≠ 1 := by rw [isC_at s hks] at h1; exact of_decide_eq_false h1
  obtain ⟨W1, hW1⟩ : ∃ W1, W1 = w.alloc (.cells #[.int .i64 0, .int .i64 0, .int .i64 0, .int .i64 0, .int .i64 0, .int .i64 0, .int .i64 0, .string ⟨#[]⟩, .string ⟨#[]⟩, .string ⟨#[]⟩, .string ⟨#[]⟩] 26) := ⟨_, rfl⟩
  have TT : Hid (Tz w W1) := Lib.hid (by rw [hW1]; exact tz_new w)
  have h9 := (hc k hks).step hg TT.out.bel
  generalize s[k] = x at *
  have hq : (x.1.k != 1) = true := by simpa using hxk
  have p0 : (0 : Int) ≤ (k : Int) := by omega
  have p1 : (k : Int) < (n : Int) := by omega
  have p2 : ¬ (k : Int) < 0 := by omega
  have p3 : ¬ (n : Int) ≤ (k : Int) := by omega
  obtain ⟨q0, q1, q2, q3, q4, q5, q6, q7, q8⟩ := h9
  clear hc h1 hxk hks
  go_enter Try.func8, Try.ntmps8
  go_upto_region 1 with (fail)
  rw [← hW1]
  clear hW1
  go_wp2_with (refine wpList_store_row rfl 26 _ _ rfl w.heap.size _ rfl rfl 26 _ TT.out.k infoP rfl one11_0 ?_)
  refine bodyPost_ret (v := .tuple #[.agg #[.int .i64 0, .int .i64 0, .int .i64 0, .int .i64 0, .int .i64 0, .int .i64 0, .int .i64 0, .string ⟨#[]⟩, .string ⟨#[]⟩, .string ⟨#[]⟩, .string ⟨#[]⟩], .int .i64 7])
    (results_cell_tmp_row Try.results8 _ _ w.heap.size 26 _ (0, 0) _ rfl (setRow_same TT.out.k) Try.underlying26 rfl infoP) rfl
    ⟨rfl, below_setRow TT.out.bel (Nat.le_refl _) _⟩
end
set_option maxRecDepth 100000 in
set_option maxHeartbeats 4000000 in
theorem outside (a : Option Addr) (n c : Nat) (i : Int) (w : World) (hi : i < 0 ∨ (¬ i < 0 ∧ (n : Int) ≤ i)) :
    Calls Try.prog 8 #[.slice a n c, .int .i64 i] w fun e w' => e = .returned (.tuple #[.agg #[.int .i64 0, .int .i64 0, .int .i64 0, .int .i64 0, .int .i64 0, .int .i64 0, .int .i64 0, .string ⟨#[]⟩, .string ⟨#[]⟩, .string ⟨#[]⟩, .string ⟨#[]⟩], .int .i64 7]) ∧ Below w.heap.size w w' := by
  obtain ⟨W1, hW1⟩ : ∃ W1, W1 = w.alloc (.cells #[.int .i64 0, .int .i64 0, .int .i64 0, .int .i64 0, .int .i64 0, .int .i64 0, .int .i64 0, .string ⟨#[]⟩, .string ⟨#[]⟩, .string ⟨#[]⟩, .string ⟨#[]⟩] 26) := ⟨_, rfl⟩
  have TT : Hid (Tz w W1) := Lib.hid (by rw [hW1]; exact tz_new w)
  go_enter Try.func8, Try.ntmps8
  go_upto_region 1 with (fail)
  rw [← hW1]
  clear hW1
  rcases hi with h1 | ⟨h1, h2⟩
  all_goals
    go_wp2_with (refine wpList_store_row rfl 26 _ _ rfl w.heap.size _ rfl rfl 26 _ TT.out.k infoP rfl one11_0 ?_)
    refine bodyPost_ret (v := .tuple #[.agg #[.int .i64 0, .int .i64 0, .int .i64 0, .int .i64 0, .int .i64 0, .int .i64 0, .int .i64 0, .string ⟨#[]⟩, .string ⟨#[]⟩, .string ⟨#[]⟩, .string ⟨#[]⟩], .int .i64 7])
      (results_cell_tmp_row Try.results8 _ _ w.heap.size 26 _ (0, 0) _ rfl (setRow_same TT.out.k) Try.underlying26 rfl infoP) rfl
      ⟨rfl, below_setRow TT.out.bel (Nat.le_refl _) _⟩
/-- THE CONTRACT. -/
theorem Make (a : Option Addr) (n c : Nat) (s : List Sd) (i : Int) (w : World) (h : Lies w a (ss s)) (hl : s.length = n) (hn : n ≤ maxLen) (hcap : n ≤ c) :
    Calls Try.prog 8 #[.slice a n c, .int .i64 i] w fun e w' => e = .returned (.tuple #[.agg #[.int .i64 (make s i).1.q, .int .i64 (make s i).1.r.k, .int .i64 (make s i).1.r.ep, .int .i64 (make s i).1.r.tm, .int .i64 (make s i).1.r.ct, .int .i64 (make s i).1.r.tg, .int .i64 (make s i).1.r.un, .string ⟨(make s i).1.r.rt.toArray⟩, .string ⟨(make s i).1.r.nm.toArray⟩, .string ⟨(make s i).1.was.toArray⟩, .string ⟨(make s i).1.tag.toArray⟩], .int .i64 (make s i).2]) ∧ Below w.heap.size w w' := by
  by_cases h0 : i < 0 ∨ (¬ i < 0 ∧ (n : Int) ≤ i)
  · rw [make_none (fun hh => by have := isC_lt hh.2; omega)]
    exact outside a n c i w h0
  · obtain ⟨k, rfl⟩ := Int.eq_ofNat_of_zero_le (show 0 ≤ i by omega)
    have hk : k < n := by omega
    obtain ⟨g, o, rfl, hg, hc⟩ := h.at9 (by omega)
    cases hcl : isC s k with
    | false =>
      rw [make_none (fun hh => by rw [Int.toNat_natCast, hcl] at hh; cases hh.2)]
      exact other g o c n s w hc hg hl k hk hcl
    | true =>
      by_cases hr : rok (mkR s k)
      · rw [make_nat hcl hr]
        exact made g o c n s w hc h hg hl hn hcap k hk hcl _ (.inl ⟨dt hr, rfl⟩)
      · rw [make_bad (i := (k : Int)) ⟨by omega, by rw [Int.toNat_natCast]; exact hcl⟩ (by rw [Int.toNat_natCast]; exact hr)]
        exact made g o c n s w hc h hg hl hn hcap k hk hcl _ (.inr ⟨df hr, rfl⟩)
end Go.Proofs.Ytkidehngleglnaa.RcpO
