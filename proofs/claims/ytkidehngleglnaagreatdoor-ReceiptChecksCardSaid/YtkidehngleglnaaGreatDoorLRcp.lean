/- RcpP RcpL RcpM RcpF: one behind the other. -/
import Derived.Test.YtkidehngleglnaaGreatDoorLRcn
import Derived.Test.YtkidehngleglnaaGreatDoorLRec
import Derived.Test.YtkidehngleglnaaGreatDoorLChn
import Derived.Test.YtkidehngleglnaaGreatDoorOFill
import Derived.Deep.RegionHeld3
import Derived.Test.YtkidehngleglnaaGreatDoorLChf
import Derived.Test.YtkidehngleglnaaGreatDoorLRef
import Derived.BigQuiet
/- receipt.isWide, receipt.may: the walks of their texts. No conditions. -/
namespace Go.Proofs.YtkidehngleglnaaGreatDoor.RcpP
set_option linter.unusedVariables false
open Go.RowKit
open RecN RecC RecK ChnN ChnM ChnC RcpN RcpC
theorem isWide (l : List UInt8) (w : World) : Calls Tryz.prog 31 #[.string ⟨l.toArray⟩] w fun e w' => e = .returned (.bool (decide (l.length = 32))) ∧ w = w' := by
  obtain ⟨b, hb⟩ : ∃ b : Bool, decide (l.length = 32) = b := ⟨_, rfl⟩
  rw [hb]
  have he : ((l.length : Int) == 32) = b := by
    rw [← hb]
    by_cases h : l.length = 32
    · rw [decide_eq_true h]; simp [h]
    · rw [decide_eq_false h]; simp; omega
  clear hb
  go_enter Tryz.func31, Tryz.ntmps31
  go_wp2
  go_ret
  exact ⟨rfl, rfl⟩
theorem rok_cases (x : Rcp) : ¬ x.r.k = 1 ∨ (x.r.k = 1 ∧ ¬ right x.r) ∨ (x.r.k = 1 ∧ right x.r ∧ ¬ 0 ≤ x.q) ∨ (x.r.k = 1 ∧ right x.r ∧ 0 ≤ x.q ∧ ¬ x.q ≤ 4294967295) ∨ (x.r.k = 1 ∧ right x.r ∧ 0 ≤ x.q ∧ x.q ≤ 4294967295 ∧ ¬ x.was.length = 32) ∨ (x.r.k = 1 ∧ right x.r ∧ 0 ≤ x.q ∧ x.q ≤ 4294967295 ∧ x.was.length = 32) := by
  by_cases h1 : x.r.k = 1
  · by_cases h2 : right x.r
    · by_cases h3 : 0 ≤ x.q
      · by_cases h4 : x.q ≤ 4294967295
        · by_cases h5 : x.was.length = 32
          · exact .inr (.inr (.inr (.inr (.inr ⟨h1, h2, h3, h4, h5⟩))))
          · exact .inr (.inr (.inr (.inr (.inl ⟨h1, h2, h3, h4, h5⟩))))
        · exact .inr (.inr (.inr (.inl ⟨h1, h2, h3, h4⟩)))
      · exact .inr (.inr (.inl ⟨h1, h2, h3⟩))
    · exact .inr (.inl ⟨h1, h2⟩)
  · exact .inl h1
set_option maxRecDepth 100000 in
set_option maxHeartbeats 4000000 in
/-- THE CONTRACT of may. -/
theorem may (x : Rcp) (w : World) : Calls Tryz.prog 15 #[.agg #[.int .i64 x.q, .int .i64 x.r.k, .int .i64 x.r.ep, .int .i64 x.r.tm, .int .i64 x.r.ct, .int .i64 x.r.tg, .int .i64 x.r.un, .string ⟨x.r.rt.toArray⟩, .string ⟨x.r.nm.toArray⟩, .string ⟨x.was.toArray⟩, .string ⟨x.tag.toArray⟩]] w fun e w' => e = .returned (.bool (decide (rok x))) ∧ Below w.heap.size w w' := by
  obtain ⟨W1, hW1⟩ : ∃ W1, W1 = w.alloc (.cells #[.int .i64 x.q, .int .i64 x.r.k, .int .i64 x.r.ep, .int .i64 x.r.tm, .int .i64 x.r.ct, .int .i64 x.r.tg, .int .i64 x.r.un, .string ⟨x.r.rt.toArray⟩, .string ⟨x.r.nm.toArray⟩, .string ⟨x.was.toArray⟩, .string ⟨x.tag.toArray⟩] 25) := ⟨_, rfl⟩
  have SS : Hid (Rs w x W1) := Lib.hid (by rw [hW1]; exact rs_new w x)
  obtain ⟨k0, k1, k2, k3, k4, k5, k6, k7, k8, k9, k10⟩ := SS.out.k.cells
  have HC := Lib.hid (fun W => Check x.r W)
  have HI1 := Lib.hid (fun W => isWide x.was W)
  have HI2 := Lib.hid (fun W => isWide x.tag W)
  have F1 : Hid True := Lib.hid trivial
  go_enter Tryz.func15, Tryz.ntmps15
  go_upto_region 1 with (fail)
  rw [← hW1]
  clear hW1
  rcases rok_cases x with h1 | ⟨h1, h2⟩ | ⟨h1, h2, h3⟩ | ⟨h1, h2, h3, h4⟩ | ⟨h1, h2, h3, h4, h5⟩ | ⟨h1, h2, h3, h4, h5⟩
  · have hr : Hid (decide (rok x) = false) := Lib.hid (df (fun h => h1 h.2.1))
    have hq : (x.r.k == 1) = false := by simpa using h1
    clear h1
    go_wp2
    go_ret
    rw [hr.out]
    exact ⟨rfl, SS.out.bel⟩
  · have hr : Hid (decide (rok x) = false) := Lib.hid (df (fun h => h2 h.1))
    have hq : (x.r.k == 1) = true := by simpa using h1
    rw [check_no h2] at HC
    clear h1 h2
    go_wp2_with (go_at_call 30; refine (HC.out _).mono ?_; rintro e w2 ⟨rfl, hb⟩; replace SS := Lib.hid (SS.out.step hb); clear hb HC k0 k1 k2 k3 k4 k5 k6 k7 k8 k9 k10)
    go_ret
    rw [hr.out]
    exact ⟨rfl, SS.out.bel⟩
  · have hr : Hid (decide (rok x) = false) := Lib.hid (df (fun h => h3 h.2.2.1.1))
    have hq : (x.r.k == 1) = true := by simpa using h1
    rw [check_yes h2] at HC
    clear h1 h2
    go_wp2_with (go_at_call 30; refine (HC.out _).mono ?_; rintro e w2 ⟨rfl, hb⟩; replace SS := Lib.hid (SS.out.step hb); clear hb HC k0 k1 k2 k3 k4 k5 k6 k7 k8 k9 k10; obtain ⟨k0, k1, k2, k3, k4, k5, k6, k7, k8, k9, k10⟩ := SS.out.k.cells)
    go_ret
    rw [hr.out]
    exact ⟨rfl, SS.out.bel⟩
  · have hr : Hid (decide (rok x) = false) := Lib.hid (df (fun h => h4 h.2.2.1.2))
    have hq : (x.r.k == 1) = true := by simpa using h1
    rw [check_yes h2] at HC
    clear h1 h2
    go_wp2_with (go_at_call 30; refine (HC.out _).mono ?_; rintro e w2 ⟨rfl, hb⟩; replace SS := Lib.hid (SS.out.step hb); clear hb HC k0 k1 k2 k3 k4 k5 k6 k7 k8 k9 k10; obtain ⟨k0, k1, k2, k3, k4, k5, k6, k7, k8, k9, k10⟩ := SS.out.k.cells)
    go_ret
    rw [hr.out]
    exact ⟨rfl, SS.out.bel⟩
  · have hr : Hid (decide (rok x) = false) := Lib.hid (df (fun h => h5 h.2.2.2.1))
    have hq : (x.r.k == 1) = true := by simpa using h1
    rw [check_yes h2] at HC
    rw [decide_eq_false h5] at HI1
    clear h1 h2 h5
    go_wp2_with (first
      | (go_at_call 30; refine (HC.out _).mono ?_; rintro e w2 ⟨rfl, hb⟩; replace SS := Lib.hid (SS.out.step hb); clear hb HC k0 k1 k2 k3 k4 k5 k6 k7 k8 k9 k10; obtain ⟨k0, k1, k2, k3, k4, k5, k6, k7, k8, k9, k10⟩ := SS.out.k.cells)
      | (go_at_call 31; refine (HI1.out _).mono ?_; rintro e _ ⟨rfl, rfl⟩; clear HI1))
    go_ret
    rw [hr.out]
    exact ⟨rfl, SS.out.bel⟩
  · obtain ⟨q, hq6⟩ : ∃ q, decide (x.tag.length = 32) = q := ⟨_, rfl⟩
    have hr : Hid (decide (rok x) = q) := Lib.hid (by
      rw [← hq6]
      by_cases h6 : x.tag.length = 32
      · rw [dt h6]; exact dt ⟨h2, h1, ⟨h3, h4⟩, h5, h6⟩
      · rw [df h6]; exact df (fun h => h6 h.2.2.2.2))
    have hq : (x.r.k == 1) = true := by simpa using h1
    rw [check_yes h2] at HC
    rw [decide_eq_true h5] at HI1
    rw [hq6] at HI2
    clear h1 h2 h5 hq6
    go_wp2_with (first
      | (go_at_call 30; refine (HC.out _).mono ?_; rintro e w2 ⟨rfl, hb⟩; replace SS := Lib.hid (SS.out.step hb); clear hb HC k0 k1 k2 k3 k4 k5 k6 k7 k8 k9 k10; obtain ⟨k0, k1, k2, k3, k4, k5, k6, k7, k8, k9, k10⟩ := SS.out.k.cells)
      | (clear F1; go_at_call 31; refine (HI1.out _).mono ?_; rintro e _ ⟨rfl, rfl⟩; clear HI1)
      | (go_at_call 31; refine (HI2.out _).mono ?_; rintro e _ ⟨rfl, rfl⟩; clear HI2))
    go_ret
    rw [hr.out]
    exact ⟨rfl, SS.out.bel⟩
end Go.Proofs.YtkidehngleglnaaGreatDoor.RcpP
/- chain.Begin, chain.Last, where no sums are reached: the walks of their texts. The conditions: those that each lemma names. -/
namespace Go.Proofs.YtkidehngleglnaaGreatDoor.RcpL
set_option linter.unusedVariables false
open Go.RowKit
open RecN RecC ChnN ChnM ChnC
theorem Begin (w : World) : Calls Tryz.prog 50 #[] w fun e w' => e = .returned (.string ⟨zeros.toArray⟩) ∧ Below w.heap.size w w' := by
  have HB : Hid (∀ W, Calls Tryz.prog 65 #[.string ⟨#[0]⟩, .int .i64 32] W fun e w' => e = .returned (.string ⟨zeros.toArray⟩) ∧ Below W.heap.size W w') := Lib.hid (fun W => OFill.repeated 32 W (by omega))
  generalize zeros = z at *
  go_enter Tryz.func50, Tryz.ntmps50
  go_wp2_with (go_at_call 65; refine (HB.out _).mono ?_; rintro e w1 ⟨rfl, hb⟩; have HB1 := Lib.hid hb; clear hb)
  go_ret
  exact ⟨rfl, HB1.out⟩
set_option maxRecDepth 100000 in
/-- THE CONTRACT of Last. -/
theorem Last (a : Option Addr) (n c : Nat) (s : List Sd) (w : World) (h : Lies w a (ss s)) (hl : s.length = n) (hn : n ≤ maxLen) :
    Calls Tryz.prog 29 #[.slice a n c] w fun e w' => e = .returned (.string ⟨(lastT s).toArray⟩) ∧ Below w.heap.size w w' := by
  unfold maxLen at hn
  rcases List.eq_nil_or_concat s with rfl | ⟨p, x, rfl⟩
  · obtain rfl : n = 0 := by simpa using hl.symm
    have HB := Lib.hid (fun W => Begin W)
    rw [lastT_nil]
    clear h hl hn
    generalize zeros = z at *
    go_enter Tryz.func29, Tryz.ntmps29
    go_wp2_with (go_at_call 50; refine (HB.out _).mono ?_; rintro e w1 ⟨rfl, hb⟩; have HB1 := Lib.hid hb; clear hb)
    go_ret
    exact ⟨rfl, HB1.out⟩
  · rw [List.concat_eq_append] at h hl ⊢
    rw [lastT_snoc]
    have hln : p.length + 1 = n := by simpa using hl
    obtain ⟨g, o, rfl, hg, hc⟩ := h.at9 (by simp)
    have h9 := hc p.length (by simp)
    rw [List.getElem_append_right (Nat.le_refl _)] at h9
    simp only [Nat.sub_self, List.getElem_cons_zero] at h9
    obtain ⟨q0, q1, q2, q3, q4, q5, q6, q7, q8⟩ := h9
    clear h hl hc hg
    generalize p.length = k at *
    subst hln
    have p0 : (0 : Int) ≤ (k : Int) := by omega
    have p1 : (k : Int) < ((k + 1 : Nat) : Int) := by omega
    have p2 : (((k + 1 : Nat) : Int) == 0) = false := by simp; omega
    go_enter Tryz.func29, Tryz.ntmps29
    go_wp2_with fail
    go_ret
    exact ⟨rfl, Below.refl _ _⟩
end Go.Proofs.YtkidehngleglnaaGreatDoor.RcpL
/- receipt.Make: the walk of its text. The condition: a row of sealed records that lies there. -/
namespace Go.Proofs.YtkidehngleglnaaGreatDoor.RcpM
set_option linter.unusedVariables false
open Go.RowKit
open RecN RecC ChnN ChnM ChnC ChnD RcpN RcpC RcpQ
/-- The result's variable, ahead of its last store. -/
structure Tz (w W : World) : Prop where
  bel : Below w.heap.size w W
  k : W.heap[w.heap.size]? = some (.cells #[.int .i64 0, .int .i64 0, .int .i64 0, .int .i64 0, .int .i64 0, .int .i64 0, .int .i64 0, .string ⟨#[]⟩, .string ⟨#[]⟩, .string ⟨#[]⟩, .string ⟨#[]⟩] 25 (0, 0))
theorem tz_new (w : World) : Tz w (w.alloc (.cells #[.int .i64 0, .int .i64 0, .int .i64 0, .int .i64 0, .int .i64 0, .int .i64 0, .int .i64 0, .string ⟨#[]⟩, .string ⟨#[]⟩, .string ⟨#[]⟩, .string ⟨#[]⟩] 25)) := ⟨below_new w _, heap_alloc_new w _⟩
theorem Tz.step {w W W' : World} (h : Tz w W) (hb : Below W.heap.size W W') : Tz w W' := ⟨h.bel.trans (hb.mono h.bel.size), (hb.block _ (lt_of_some h.k)).trans h.k⟩
theorem br_lit {W : World} {X : Nat} {y : Rcp} {q : Int} {r : Rec} {was tag : List UInt8} (h : W.heap[X]? = some (.cells #[.int .i64 q, .int .i64 r.k, .int .i64 r.ep, .int .i64 r.tm, .int .i64 r.ct, .int .i64 r.tg, .int .i64 r.un, .string ⟨r.rt.toArray⟩, .string ⟨r.nm.toArray⟩, .string ⟨was.toArray⟩, .string ⟨tag.toArray⟩] 25 (0, 0))) (hy : y = ⟨q, r, was, tag⟩) : Br W X y := by subst hy; exact h
section
variable (g o c n : Nat) (s : List Sd) (w : World) (hc : ∀ i (hi : i < s.length), At9 w g (o + i * 9) s[i]) (hL : Lies w (some ⟨g, o, none⟩) (ss s)) (hg : g < w.heap.size) (hl : s.length = n) (hn : n ≤ maxLen) (hcap : n ≤ c)
include hc hL hg hl hn hcap
set_option maxRecDepth 100000 in
set_option maxHeartbeats 8000000 in
theorem made (k : Nat) (hk : k < n) (h1 : isC s k = true) (out : Array Value) (ho : (decide (rok (mkR s k)) = true ∧ out = #[.agg #[.int .i64 (mkR s k).q, .int .i64 (mkR s k).r.k, .int .i64 (mkR s k).r.ep, .int .i64 (mkR s k).r.tm, .int .i64 (mkR s k).r.ct, .int .i64 (mkR s k).r.tg, .int .i64 (mkR s k).r.un, .string ⟨(mkR s k).r.rt.toArray⟩, .string ⟨(mkR s k).r.nm.toArray⟩, .string ⟨(mkR s k).was.toArray⟩, .string ⟨(mkR s k).tag.toArray⟩], .int .i64 0]) ∨ (decide (rok (mkR s k)) = false ∧ out = #[.agg #[.int .i64 0, .int .i64 0, .int .i64 0, .int .i64 0, .int .i64 0, .int .i64 0, .int .i64 0, .string ⟨#[]⟩, .string ⟨#[]⟩, .string ⟨#[]⟩, .string ⟨#[]⟩], .int .i64 2])) :
    Calls Tryz.prog 13 #[.slice (some ⟨g, o, none⟩) n c, .int .i64 (k : Int)] w fun e w' => e = .returned (.tuple out) ∧ Below w.heap.size w w' := by
  have hks : k < s.length := by omega
  have hxk : s[k].1.k = 1 := by rw [isC_at s hks] at h1; exact of_decide_eq_true h1
  obtain ⟨W1, hW1⟩ : ∃ W1, W1 = w.alloc (.cells #[.int .i64 0, .int .i64 0, .int .i64 0, .int .i64 0, .int .i64 0, .int .i64 0, .int .i64 0, .string ⟨#[]⟩, .string ⟨#[]⟩, .string ⟨#[]⟩, .string ⟨#[]⟩] 25) := ⟨_, rfl⟩
  have TT : Hid (Tz w W1) := Lib.hid (by rw [hW1]; exact tz_new w)
  have h9 := (hc k hks).step hg TT.out.bel
  have hg1 : g < W1.heap.size := Nat.lt_of_lt_of_le hg TT.out.bel.size
  have HY : Hid (mkR s k = ⟨(k : Int), s[k].1, lastT (s.take k), s[k].2⟩) := Lib.hid (mkR_at s hks)
  have HL : Hid (∀ W, Below W1.heap.size W1 W → Calls Tryz.prog 29 #[.slice (some ⟨g, o, none⟩) k c] W fun e w' => e = .returned (.string ⟨(lastT (s.take k)).toArray⟩) ∧ Below W.heap.size W w') := Lib.hid (fun W hb => RcpL.Last (some ⟨g, o, none⟩) k c (s.take k) W ((hL.take k).step (TT.out.bel.trans (hb.mono TT.out.bel.size))) (by rw [List.length_take]; omega) (by omega))
  have hcut := cut_s g o n c k (by omega) (by omega)
  generalize lastT (s.take k) = ws at *
  generalize s[k] = x at *
  have hgk : At9 W1 g (o + k * 9) x := h9
  have HM := Lib.hid (fun W => RcpP.may (mkR s k) W)
  have hq : (x.1.k != 1) = false := by rw [hxk]; rfl
  have p0 : (0 : Int) ≤ (k : Int) := by omega
  have p1 : (k : Int) < (n : Int) := by omega
  have p2 : ¬ (k : Int) < 0 := by omega
  have p3 : ¬ (n : Int) ≤ (k : Int) := by omega
  have B0 : Hid (Below W1.heap.size W1 W1.drew) := Lib.hid (Below.refl _ _).drew
  have B1 : Hid (Below W1.heap.size W1 (W1.drew.alloc (.cells #[.int .i64 0, .int .i64 0, .int .i64 0, .int .i64 0, .int .i64 0, .int .i64 0, .int .i64 0, .string ⟨#[]⟩, .string ⟨#[]⟩, .string ⟨#[]⟩, .string ⟨#[]⟩] 25))) := Lib.hid (B0.out.trans (below_new W1.drew _))
  have N1 : Hid ((W1.drew.alloc (.cells #[.int .i64 0, .int .i64 0, .int .i64 0, .int .i64 0, .int .i64 0, .int .i64 0, .int .i64 0, .string ⟨#[]⟩, .string ⟨#[]⟩, .string ⟨#[]⟩, .string ⟨#[]⟩] 25)).heap[W1.heap.size]? = some (.cells #[.int .i64 0, .int .i64 0, .int .i64 0, .int .i64 0, .int .i64 0, .int .i64 0, .int .i64 0, .string ⟨#[]⟩, .string ⟨#[]⟩, .string ⟨#[]⟩, .string ⟨#[]⟩] 25 (0, 0))) := Lib.hid (heap_alloc_new W1.drew _)
  have HS : Hid (∀ W, Below W1.heap.size W1 W → At9 W g (o + k * 9) x) := Lib.hid (fun W hb => hgk.step hg1 hb)
  have HA : Hid (∀ W, Below W1.heap.size W1 W → Below W1.heap.size W1 (W.alloc (.cells #[.int .i64 0, .int .i64 0, .int .i64 0, .int .i64 0, .int .i64 0, .int .i64 0, .int .i64 0, .string ⟨#[]⟩, .string ⟨#[]⟩, .string ⟨#[]⟩, .string ⟨#[]⟩] 25))) := Lib.hid (fun W hb => hb.trans ((below_new W _).mono hb.size))
  have HR : Hid (∀ W, Below W1.heap.size W1 W → ∀ X, W1.heap.size ≤ X → Below W1.heap.size W1 (W.setRow X #[.int .i64 (k : Int), .int .i64 x.1.k, .int .i64 x.1.ep, .int .i64 x.1.tm, .int .i64 x.1.ct, .int .i64 x.1.tg, .int .i64 x.1.un, .string ⟨x.1.rt.toArray⟩, .string ⟨x.1.nm.toArray⟩, .string ⟨ws.toArray⟩, .string ⟨x.2.toArray⟩])) := Lib.hid (fun W hb X hX => below_setRow hb hX _)
  obtain ⟨q0, q1, q2, q3, q4, q5, q6, q7, q8⟩ := h9
  clear hc hL h1 hxk hks hgk hcap
  go_enter Tryz.func13, Tryz.ntmps13
  go_upto_region 1 with (fail)
  rw [← hW1]
  clear hW1
  go_upto_region 3 with (fail)
  clear q0 q1 q2 q3 q4 q5 q6 q7 q8
  have hS := HS.out _ B0.out
  have hS1 := HS.out _ B1.out
  refine wp_region_held_drew (S := fun W' => W'.cell? ⟨g, o + k * 9, none⟩ = some (.int .i64 x.1.k) ∧ W'.cell? ⟨g, o + k * 9 + 1, none⟩ = some (.int .i64 x.1.ep) ∧ W'.cell? ⟨g, o + k * 9 + 2, none⟩ = some (.int .i64 x.1.tm) ∧ W'.cell? ⟨g, o + k * 9 + 3, none⟩ = some (.int .i64 x.1.ct) ∧ W'.cell? ⟨g, o + k * 9 + 4, none⟩ = some (.int .i64 x.1.tg) ∧ W'.cell? ⟨g, o + k * 9 + 5, none⟩ = some (.int .i64 x.1.un) ∧ W'.cell? ⟨g, o + k * 9 + 6, none⟩ = some (.string ⟨x.1.rt.toArray⟩) ∧ W'.cell? ⟨g, o + k * 9 + 7, none⟩ = some (.string ⟨x.1.nm.toArray⟩) ∧ W'.cell? ⟨g, o + k * 9 + 8, none⟩ = some (.string ⟨x.2.toArray⟩)) (by kernel_rfl) hS (fun _ => ?_)
  change wpAnyH _ _ _ _ _ _ #[false, false, false, false, false, false, false, false, false, false, false, false, false, false, false, false, false, false] _ _
  refine wpAnyH_take (i := 0) (v := ?v1) (by rw [List.getElem?_toArray]; rfl) (by kernel_rfl) (by kernel_rfl) (by kernel_rfl) (by intro _ _ _ h; exact h) (Or.inl ⟨by rfl, ?hy1⟩) (by assumption) ?rest1
  case hy1 => (intro W hSW; (try dsimp only at hSW); go_simp; try with_reducible rfl)
  try simp only [Act.put, List.setIfInBounds_toArray, List.set_cons_zero, List.set_cons_succ]
  refine wpAnyH_take (i := 1) (v := ?v2) (by rw [List.getElem?_toArray]; rfl) (by kernel_rfl) (by kernel_rfl) (by kernel_rfl) (by intro _ _ _ h; exact h) (Or.inl ⟨by rfl, ?hy2⟩) (by assumption) ?rest2
  case hy2 => (intro W hSW; (try dsimp only at hSW); go_simp; try with_reducible rfl)
  try simp only [Act.put, List.setIfInBounds_toArray, List.set_cons_zero, List.set_cons_succ]
  refine wpAnyH_take (i := 2) (v := ?v3) (by rw [List.getElem?_toArray]; rfl) (by kernel_rfl) (by kernel_rfl) (by kernel_rfl) (by intro _ _ _ h; exact h) (Or.inl ⟨by rfl, ?hy3⟩) (by assumption) ?rest3
  case hy3 => (intro W hSW; (try dsimp only at hSW); go_simp; try with_reducible rfl)
  try simp only [Act.put, List.setIfInBounds_toArray, List.set_cons_zero, List.set_cons_succ]
  refine wpAnyH_take (i := 3) (v := ?v4) (by rw [List.getElem?_toArray]; rfl) (by kernel_rfl) (by kernel_rfl) (by kernel_rfl) (by intro _ _ _ h; exact h) (Or.inl ⟨by rfl, ?hy4⟩) (by assumption) ?rest4
  case hy4 => (intro W hSW; (try dsimp only at hSW); go_simp; try with_reducible rfl)
  try simp only [Act.put, List.setIfInBounds_toArray, List.set_cons_zero, List.set_cons_succ]
  refine wpAnyH_take (i := 4) (v := ?v5) (by rw [List.getElem?_toArray]; rfl) (by kernel_rfl) (by kernel_rfl) (by kernel_rfl) (by intro _ _ _ h; exact h) (Or.inl ⟨by rfl, ?hy5⟩) (by assumption) ?rest5
  case hy5 => (intro W hSW; (try dsimp only at hSW); go_simp; try with_reducible rfl)
  try simp only [Act.put, List.setIfInBounds_toArray, List.set_cons_zero, List.set_cons_succ]
  refine wpAnyH_take (i := 5) (v := ?v6) (by rw [List.getElem?_toArray]; rfl) (by kernel_rfl) (by kernel_rfl) (by kernel_rfl) (by intro _ _ _ h; exact h) (Or.inl ⟨by rfl, ?hy6⟩) (by assumption) ?rest6
  case hy6 => (intro W hSW; (try dsimp only at hSW); go_simp; try with_reducible rfl)
  try simp only [Act.put, List.setIfInBounds_toArray, List.set_cons_zero, List.set_cons_succ]
  refine wpAnyH_take (i := 6) (v := ?v7) (by rw [List.getElem?_toArray]; rfl) (by kernel_rfl) (by kernel_rfl) (by kernel_rfl) (by intro _ _ _ h; exact h) (Or.inl ⟨by rfl, ?hy7⟩) (by assumption) ?rest7
  case hy7 => (intro W hSW; (try dsimp only at hSW); go_simp; try with_reducible rfl)
  try simp only [Act.put, List.setIfInBounds_toArray, List.set_cons_zero, List.set_cons_succ]
  refine wpAnyH_take (i := 7) (v := ?v8) (by rw [List.getElem?_toArray]; rfl) (by kernel_rfl) (by kernel_rfl) (by kernel_rfl) (by intro _ _ _ h; exact h) (Or.inl ⟨by rfl, ?hy8⟩) (by assumption) ?rest8
  case hy8 => (intro W hSW; (try dsimp only at hSW); go_simp; try with_reducible rfl)
  try simp only [Act.put, List.setIfInBounds_toArray, List.set_cons_zero, List.set_cons_succ]
  refine wpAnyH_take (i := 8) (v := ?v9) (by rw [List.getElem?_toArray]; rfl) (by kernel_rfl) (by kernel_rfl) (by kernel_rfl) (by intro _ _ _ h; exact h) (Or.inl ⟨by rfl, ?hy9⟩) (by assumption) ?rest9
  case hy9 => (intro W hSW; (try dsimp only at hSW); go_simp; try with_reducible rfl)
  try simp only [Act.put, List.setIfInBounds_toArray, List.set_cons_zero, List.set_cons_succ]
  refine wpAnyH_take (i := 10) (v := ?v10) (by rw [List.getElem?_toArray]; rfl) (by kernel_rfl) (by kernel_rfl) (by kernel_rfl) (by intro _ _ _ h; exact h) (Or.inl ⟨by rfl, ?hy10⟩) (by assumption) ?rest10
  case hy10 => (intro W hSW; (try dsimp only at hSW); go_simp; try with_reducible rfl)
  try simp only [Act.put, List.setIfInBounds_toArray, List.set_cons_zero, List.set_cons_succ]
  refine wpAnyH_take (i := 11) (v := ?v11) (by rw [List.getElem?_toArray]; rfl) (by kernel_rfl) (by kernel_rfl) (by kernel_rfl) (by intro _ _ _ h; exact h) (Or.inl ⟨by rfl, ?hy11⟩) (by assumption) ?rest11
  case hy11 => (intro W hSW; (try dsimp only at hSW); go_simp; try with_reducible rfl)
  try simp only [Act.put, List.setIfInBounds_toArray, List.set_cons_zero, List.set_cons_succ]
  refine wpAnyH_take (i := 12) (v := ?v12) (by rw [List.getElem?_toArray]; rfl) (by kernel_rfl) (by kernel_rfl) (by kernel_rfl) (by intro _ _ _ h; exact h) (Or.inl ⟨by rfl, ?hy12⟩) (by assumption) ?rest12
  case hy12 => (intro W hSW; (try dsimp only at hSW); go_simp; try with_reducible rfl)
  try simp only [Act.put, List.setIfInBounds_toArray, List.set_cons_zero, List.set_cons_succ]
  refine wpAnyH_take (i := 13) (v := ?v13) (by rw [List.getElem?_toArray]; rfl) (by kernel_rfl) (by kernel_rfl) (by kernel_rfl) (by intro _ _ _ h; exact h) (Or.inl ⟨by rfl, ?hy13⟩) (by assumption) ?rest13
  case hy13 => (intro W hSW; (try dsimp only at hSW); go_simp; try with_reducible rfl)
  try simp only [Act.put, List.setIfInBounds_toArray, List.set_cons_zero, List.set_cons_succ]
  refine wpAnyH_take (i := 14) (v := ?v14) (by rw [List.getElem?_toArray]; rfl) (by kernel_rfl) (by kernel_rfl) (by kernel_rfl) (by intro _ _ _ h; exact h) (Or.inl ⟨by rfl, ?hy14⟩) (by assumption) ?rest14
  case hy14 => (intro W hSW; (try dsimp only at hSW); go_simp; try with_reducible rfl)
  try simp only [Act.put, List.setIfInBounds_toArray, List.set_cons_zero, List.set_cons_succ]
  refine wpAnyH_ready (rs := [9, 16]) (by kernel_rfl) (by simp) (AllReadyH.cons (by rw [List.getElem?_toArray]; rfl) (fun K hK => ?_) (AllReadyH.cons (by rw [List.getElem?_toArray]; rfl) (fun K hK => ?_) AllReadyH.nil))
  · go_simp
    refine (HL.out _ B0.out).mono ?_
    rintro e w5 ⟨rfl, hb5⟩
    have B5 := Lib.hid (B0.out.trans hb5)
    have hS := HS.out _ B5.out
    have hS1 := HS.out _ (HA.out _ B5.out)
    have N5 := Lib.hid (heap_alloc_new w5 (.cells #[.int .i64 0, .int .i64 0, .int .i64 0, .int .i64 0, .int .i64 0, .int .i64 0, .int .i64 0, .string ⟨#[]⟩, .string ⟨#[]⟩, .string ⟨#[]⟩, .string ⟨#[]⟩] 25))
    have B6 := Lib.hid (HA.out _ B5.out)
    have X5 := Lib.hid B5.out.size
    clear hb5
    refine hK.out _ _ hS (fun _ => ?_)
    clear hK K
    try simp only [List.setIfInBounds_toArray, List.set_cons_zero, List.set_cons_succ]
    refine wpAnyH_take (i := 15) (v := ?v15) (by rw [List.getElem?_toArray]; rfl) (by kernel_rfl) (by kernel_rfl) (by kernel_rfl) (by intro _ _ _ h; exact h) (Or.inl ⟨by rfl, ?hy15⟩) (by assumption) ?rest15
    case hy15 => (intro W hSW; (try dsimp only at hSW); go_simp; try with_reducible rfl)
    try simp only [Act.put, List.setIfInBounds_toArray, List.set_cons_zero, List.set_cons_succ]
    refine wpAnyH_ready (rs := [16]) (by kernel_rfl) (by simp) (AllReadyH.cons (by rw [List.getElem?_toArray]; rfl) (fun K hK => ?_) AllReadyH.nil)
    go_simp
    refine hK.out _ _ hS1 (fun _ => ?_)
    clear hK K
    try simp only [List.setIfInBounds_toArray, List.set_cons_zero, List.set_cons_succ]
    refine wpAnyH_ready (rs := [17]) (by kernel_rfl) (by simp) (AllReadyH.cons (by rw [List.getElem?_toArray]; rfl) (fun K hK => ?_) AllReadyH.nil)
    rw [if_pos (by rfl)]
    refine wp_store_row 25 _ _ rfl (w5.heap.size) #[.int .i64 (k : Int), .int .i64 x.1.k, .int .i64 x.1.ep, .int .i64 x.1.tm, .int .i64 x.1.ct, .int .i64 x.1.tg, .int .i64 x.1.un, .string ⟨x.1.rt.toArray⟩, .string ⟨x.1.nm.toArray⟩, .string ⟨ws.toArray⟩, .string ⟨x.2.toArray⟩] rfl rfl 25 #[.int .i64 0, .int .i64 0, .int .i64 0, .int .i64 0, .int .i64 0, .int .i64 0, .int .i64 0, .string ⟨#[]⟩, .string ⟨#[]⟩, .string ⟨#[]⟩, .string ⟨#[]⟩] N5.out infoP rfl (one11 ⟨(k : Int), x.1, ws, x.2⟩) ?_
    have B7 := Lib.hid (HR.out _ B6.out w5.heap.size B5.out.size)
    have hS3 := HS.out _ B7.out
    have G7 := Lib.hid (setRow_same (cs := #[.int .i64 (k : Int), .int .i64 x.1.k, .int .i64 x.1.ep, .int .i64 x.1.tm, .int .i64 x.1.ct, .int .i64 x.1.tg, .int .i64 x.1.un, .string ⟨x.1.rt.toArray⟩, .string ⟨x.1.nm.toArray⟩, .string ⟨ws.toArray⟩, .string ⟨x.2.toArray⟩]) N5.out)
    refine hK.out _ _ hS3 (fun _ => ?_)
    clear hK K
    try simp only [Act.put, List.setIfInBounds_toArray, List.set_cons_zero, List.set_cons_succ]
    refine wpAnyH_done (by kernel_rfl) ?_ _
    have T6 := Lib.hid (TT.out.step B7.out)
    have G6 := Lib.hid (br_lit G7.out HY.out)
    clear hS hS1 hS3 B7 G7 N5 B6 HL HS HA HR B0 B1 N1 HY TT hcut
    revert T6 G6
    generalize World.setRow _ _ _ = W6
    intro T6 G6
    generalize mkR s k = y at *
    obtain ⟨k0, k1, k2, k3, k4, k5, k6, k7, k8, k9, k10⟩ := G6.out.cells
    rcases ho with ⟨hr, rfl⟩ | ⟨hr, rfl⟩
    · rw [hr] at HM
      clear hr
      go_wp2_with (first
        | (go_at_call 15; refine (HM.out _).mono ?_; rintro e w8 ⟨rfl, hb⟩; have T8 := Lib.hid (T6.out.step hb); have G8 := Lib.hid (G6.out.step hb); clear hb HM k0 k1 k2 k3 k4 k5 k6 k7 k8 k9 k10; obtain ⟨k0, k1, k2, k3, k4, k5, k6, k7, k8, k9, k10⟩ := G8.out.cells)
        | (refine wpList_store_row rfl 25 _ _ rfl w.heap.size _ rfl rfl 25 _ T8.out.k infoP rfl (one11 y) ?_))
      refine bodyPost_ret (v := .tuple #[.agg #[.int .i64 y.q, .int .i64 y.r.k, .int .i64 y.r.ep, .int .i64 y.r.tm, .int .i64 y.r.ct, .int .i64 y.r.tg, .int .i64 y.r.un, .string ⟨y.r.rt.toArray⟩, .string ⟨y.r.nm.toArray⟩, .string ⟨y.was.toArray⟩, .string ⟨y.tag.toArray⟩], .int .i64 0])
        (results_cell_tmp_row Tryz.results13 _ _ w.heap.size 25 _ (0, 0) _ rfl (setRow_same T8.out.k) Tryz.underlying25 rfl infoP) rfl
        ⟨rfl, below_setRow T8.out.bel (Nat.le_refl _) _⟩
    · rw [hr] at HM
      clear hr
      go_wp2_with (first
        | (go_at_call 15; refine (HM.out _).mono ?_; rintro e w8 ⟨rfl, hb⟩; have T8 := Lib.hid (T6.out.step hb); clear hb HM k0 k1 k2 k3 k4 k5 k6 k7 k8 k9 k10)
        | (refine wpList_store_row rfl 25 _ _ rfl w.heap.size _ rfl rfl 25 _ T8.out.k infoP rfl one11_0 ?_))
      refine bodyPost_ret (v := .tuple #[.agg #[.int .i64 0, .int .i64 0, .int .i64 0, .int .i64 0, .int .i64 0, .int .i64 0, .int .i64 0, .string ⟨#[]⟩, .string ⟨#[]⟩, .string ⟨#[]⟩, .string ⟨#[]⟩], .int .i64 2])
        (results_cell_tmp_row Tryz.results13 _ _ w.heap.size 25 _ (0, 0) _ rfl (setRow_same T8.out.k) Tryz.underlying25 rfl infoP) rfl
        ⟨rfl, below_setRow T8.out.bel (Nat.le_refl _) _⟩
  · go_simp
    refine hK.out _ _ hS1 (fun _ => ?_)
    clear hK K
    try simp only [List.setIfInBounds_toArray, List.set_cons_zero, List.set_cons_succ]
    refine wpAnyH_ready (rs := [9]) (by kernel_rfl) (by simp) (AllReadyH.cons (by rw [List.getElem?_toArray]; rfl) (fun K hK => ?_) AllReadyH.nil)
    go_simp
    refine (HL.out _ B1.out).mono ?_
    rintro e w5 ⟨rfl, hb5⟩
    have B6 := Lib.hid (B1.out.trans (hb5.mono B1.out.size))
    have hS := HS.out _ B6.out
    have N5 := Lib.hid ((hb5.block _ (lt_of_some N1.out)).trans N1.out)
    have X5 := Lib.hid (Nat.le_refl W1.heap.size)
    clear hb5
    refine hK.out _ _ hS (fun _ => ?_)
    clear hK K
    try simp only [List.setIfInBounds_toArray, List.set_cons_zero, List.set_cons_succ]
    refine wpAnyH_take (i := 15) (v := ?v16) (by rw [List.getElem?_toArray]; rfl) (by kernel_rfl) (by kernel_rfl) (by kernel_rfl) (by intro _ _ _ h; exact h) (Or.inl ⟨by rfl, ?hy16⟩) (by assumption) ?rest16
    case hy16 => (intro W hSW; (try dsimp only at hSW); go_simp; try with_reducible rfl)
    try simp only [Act.put, List.setIfInBounds_toArray, List.set_cons_zero, List.set_cons_succ]
    refine wpAnyH_ready (rs := [17]) (by kernel_rfl) (by simp) (AllReadyH.cons (by rw [List.getElem?_toArray]; rfl) (fun K hK => ?_) AllReadyH.nil)
    rw [if_pos (by rfl)]
    refine wp_store_row 25 _ _ rfl (W1.heap.size) #[.int .i64 (k : Int), .int .i64 x.1.k, .int .i64 x.1.ep, .int .i64 x.1.tm, .int .i64 x.1.ct, .int .i64 x.1.tg, .int .i64 x.1.un, .string ⟨x.1.rt.toArray⟩, .string ⟨x.1.nm.toArray⟩, .string ⟨ws.toArray⟩, .string ⟨x.2.toArray⟩] rfl rfl 25 #[.int .i64 0, .int .i64 0, .int .i64 0, .int .i64 0, .int .i64 0, .int .i64 0, .int .i64 0, .string ⟨#[]⟩, .string ⟨#[]⟩, .string ⟨#[]⟩, .string ⟨#[]⟩] N5.out infoP rfl (one11 ⟨(k : Int), x.1, ws, x.2⟩) ?_
    have B7 := Lib.hid (HR.out _ B6.out W1.heap.size (Nat.le_refl _))
    have hS3 := HS.out _ B7.out
    have G7 := Lib.hid (setRow_same (cs := #[.int .i64 (k : Int), .int .i64 x.1.k, .int .i64 x.1.ep, .int .i64 x.1.tm, .int .i64 x.1.ct, .int .i64 x.1.tg, .int .i64 x.1.un, .string ⟨x.1.rt.toArray⟩, .string ⟨x.1.nm.toArray⟩, .string ⟨ws.toArray⟩, .string ⟨x.2.toArray⟩]) N5.out)
    refine hK.out _ _ hS3 (fun _ => ?_)
    clear hK K
    try simp only [Act.put, List.setIfInBounds_toArray, List.set_cons_zero, List.set_cons_succ]
    refine wpAnyH_done (by kernel_rfl) ?_ _
    have T6 := Lib.hid (TT.out.step B7.out)
    have G6 := Lib.hid (br_lit G7.out HY.out)
    clear hS hS1 hS3 B7 G7 N5 B6 HL HS HA HR B0 B1 N1 HY TT hcut
    revert T6 G6
    generalize World.setRow _ _ _ = W6
    intro T6 G6
    generalize mkR s k = y at *
    obtain ⟨k0, k1, k2, k3, k4, k5, k6, k7, k8, k9, k10⟩ := G6.out.cells
    rcases ho with ⟨hr, rfl⟩ | ⟨hr, rfl⟩
    · rw [hr] at HM
      clear hr
      go_wp2_with (first
        | (go_at_call 15; refine (HM.out _).mono ?_; rintro e w8 ⟨rfl, hb⟩; have T8 := Lib.hid (T6.out.step hb); have G8 := Lib.hid (G6.out.step hb); clear hb HM k0 k1 k2 k3 k4 k5 k6 k7 k8 k9 k10; obtain ⟨k0, k1, k2, k3, k4, k5, k6, k7, k8, k9, k10⟩ := G8.out.cells)
        | (refine wpList_store_row rfl 25 _ _ rfl w.heap.size _ rfl rfl 25 _ T8.out.k infoP rfl (one11 y) ?_))
      refine bodyPost_ret (v := .tuple #[.agg #[.int .i64 y.q, .int .i64 y.r.k, .int .i64 y.r.ep, .int .i64 y.r.tm, .int .i64 y.r.ct, .int .i64 y.r.tg, .int .i64 y.r.un, .string ⟨y.r.rt.toArray⟩, .string ⟨y.r.nm.toArray⟩, .string ⟨y.was.toArray⟩, .string ⟨y.tag.toArray⟩], .int .i64 0])
        (results_cell_tmp_row Tryz.results13 _ _ w.heap.size 25 _ (0, 0) _ rfl (setRow_same T8.out.k) Tryz.underlying25 rfl infoP) rfl
        ⟨rfl, below_setRow T8.out.bel (Nat.le_refl _) _⟩
    · rw [hr] at HM
      clear hr
      go_wp2_with (first
        | (go_at_call 15; refine (HM.out _).mono ?_; rintro e w8 ⟨rfl, hb⟩; have T8 := Lib.hid (T6.out.step hb); clear hb HM k0 k1 k2 k3 k4 k5 k6 k7 k8 k9 k10)
        | (refine wpList_store_row rfl 25 _ _ rfl w.heap.size _ rfl rfl 25 _ T8.out.k infoP rfl one11_0 ?_))
      refine bodyPost_ret (v := .tuple #[.agg #[.int .i64 0, .int .i64 0, .int .i64 0, .int .i64 0, .int .i64 0, .int .i64 0, .int .i64 0, .string ⟨#[]⟩, .string ⟨#[]⟩, .string ⟨#[]⟩, .string ⟨#[]⟩], .int .i64 2])
        (results_cell_tmp_row Tryz.results13 _ _ w.heap.size 25 _ (0, 0) _ rfl (setRow_same T8.out.k) Tryz.underlying25 rfl infoP) rfl
        ⟨rfl, below_setRow T8.out.bel (Nat.le_refl _) _⟩
omit hL hn hcap in
set_option maxRecDepth 100000 in
set_option maxHeartbeats 4000000 in
theorem other (k : Nat) (hk : k < n) (h1 : isC s k = false) :
    Calls Tryz.prog 13 #[.slice (some ⟨g, o, none⟩) n c, .int .i64 (k : Int)] w fun e w' => e = .returned (.tuple #[.agg #[.int .i64 0, .int .i64 0, .int .i64 0, .int .i64 0, .int .i64 0, .int .i64 0, .int .i64 0, .string ⟨#[]⟩, .string ⟨#[]⟩, .string ⟨#[]⟩, .string ⟨#[]⟩], .int .i64 7]) ∧ Below w.heap.size w w' := by
  have hks : k < s.length := by omega
  have hxk : s[k].1.k ≠ 1 := by rw [isC_at s hks] at h1; exact of_decide_eq_false h1
  obtain ⟨W1, hW1⟩ : ∃ W1, W1 = w.alloc (.cells #[.int .i64 0, .int .i64 0, .int .i64 0, .int .i64 0, .int .i64 0, .int .i64 0, .int .i64 0, .string ⟨#[]⟩, .string ⟨#[]⟩, .string ⟨#[]⟩, .string ⟨#[]⟩] 25) := ⟨_, rfl⟩
  have TT : Hid (Tz w W1) := Lib.hid (by rw [hW1]; exact tz_new w)
  have h9 := (hc k hks).step hg TT.out.bel
  generalize s[k] = x at *
  have hq : (x.1.k != 1) = true := by simpa using hxk
  have p0 : (0 : Int) ≤ (k : Int) := by omega
  have p1 : (k : Int) < (n : Int) := by omega
  have p2 : ¬ (k : Int) < 0 := by omega
  have p3 : ¬ (n : Int) ≤ (k : Int) := by omega
  obtain ⟨q0, q1, q2, q3, q4, q5, q6, q7, q8⟩ := h9
  clear hc h1 hxk hks
  go_enter Tryz.func13, Tryz.ntmps13
  go_upto_region 1 with (fail)
  rw [← hW1]
  clear hW1
  go_wp2_with (refine wpList_store_row rfl 25 _ _ rfl w.heap.size _ rfl rfl 25 _ TT.out.k infoP rfl one11_0 ?_)
  refine bodyPost_ret (v := .tuple #[.agg #[.int .i64 0, .int .i64 0, .int .i64 0, .int .i64 0, .int .i64 0, .int .i64 0, .int .i64 0, .string ⟨#[]⟩, .string ⟨#[]⟩, .string ⟨#[]⟩, .string ⟨#[]⟩], .int .i64 7])
    (results_cell_tmp_row Tryz.results13 _ _ w.heap.size 25 _ (0, 0) _ rfl (setRow_same TT.out.k) Tryz.underlying25 rfl infoP) rfl
    ⟨rfl, below_setRow TT.out.bel (Nat.le_refl _) _⟩
end
set_option maxRecDepth 100000 in
set_option maxHeartbeats 4000000 in
theorem outside (a : Option Addr) (n c : Nat) (i : Int) (w : World) (hi : i < 0 ∨ (¬ i < 0 ∧ (n : Int) ≤ i)) :
    Calls Tryz.prog 13 #[.slice a n c, .int .i64 i] w fun e w' => e = .returned (.tuple #[.agg #[.int .i64 0, .int .i64 0, .int .i64 0, .int .i64 0, .int .i64 0, .int .i64 0, .int .i64 0, .string ⟨#[]⟩, .string ⟨#[]⟩, .string ⟨#[]⟩, .string ⟨#[]⟩], .int .i64 7]) ∧ Below w.heap.size w w' := by
  obtain ⟨W1, hW1⟩ : ∃ W1, W1 = w.alloc (.cells #[.int .i64 0, .int .i64 0, .int .i64 0, .int .i64 0, .int .i64 0, .int .i64 0, .int .i64 0, .string ⟨#[]⟩, .string ⟨#[]⟩, .string ⟨#[]⟩, .string ⟨#[]⟩] 25) := ⟨_, rfl⟩
  have TT : Hid (Tz w W1) := Lib.hid (by rw [hW1]; exact tz_new w)
  go_enter Tryz.func13, Tryz.ntmps13
  go_upto_region 1 with (fail)
  rw [← hW1]
  clear hW1
  rcases hi with h1 | ⟨h1, h2⟩
  all_goals
    go_wp2_with (refine wpList_store_row rfl 25 _ _ rfl w.heap.size _ rfl rfl 25 _ TT.out.k infoP rfl one11_0 ?_)
    refine bodyPost_ret (v := .tuple #[.agg #[.int .i64 0, .int .i64 0, .int .i64 0, .int .i64 0, .int .i64 0, .int .i64 0, .int .i64 0, .string ⟨#[]⟩, .string ⟨#[]⟩, .string ⟨#[]⟩, .string ⟨#[]⟩], .int .i64 7])
      (results_cell_tmp_row Tryz.results13 _ _ w.heap.size 25 _ (0, 0) _ rfl (setRow_same TT.out.k) Tryz.underlying25 rfl infoP) rfl
      ⟨rfl, below_setRow TT.out.bel (Nat.le_refl _) _⟩
/-- THE CONTRACT. -/
theorem Make (a : Option Addr) (n c : Nat) (s : List Sd) (i : Int) (w : World) (h : Lies w a (ss s)) (hl : s.length = n) (hn : n ≤ maxLen) (hcap : n ≤ c) :
    Calls Tryz.prog 13 #[.slice a n c, .int .i64 i] w fun e w' => e = .returned (.tuple #[.agg #[.int .i64 (make s i).1.q, .int .i64 (make s i).1.r.k, .int .i64 (make s i).1.r.ep, .int .i64 (make s i).1.r.tm, .int .i64 (make s i).1.r.ct, .int .i64 (make s i).1.r.tg, .int .i64 (make s i).1.r.un, .string ⟨(make s i).1.r.rt.toArray⟩, .string ⟨(make s i).1.r.nm.toArray⟩, .string ⟨(make s i).1.was.toArray⟩, .string ⟨(make s i).1.tag.toArray⟩], .int .i64 (make s i).2]) ∧ Below w.heap.size w w' := by
  by_cases h0 : i < 0 ∨ (¬ i < 0 ∧ (n : Int) ≤ i)
  · rw [make_none (fun hh => by have := isC_lt hh.2; omega)]
    exact outside a n c i w h0
  · obtain ⟨k, rfl⟩ := Int.eq_ofNat_of_zero_le (show 0 ≤ i by omega)
    have hk : k < n := by omega
    obtain ⟨g, o, rfl, hg, hc⟩ := h.at9 (by omega)
    cases hcl : isC s k with
    | false =>
      rw [make_none (fun hh => by rw [Int.toNat_natCast, hcl] at hh; cases hh.2)]
      exact other g o c n s w hc hg hl k hk hcl
    | true =>
      by_cases hr : rok (mkR s k)
      · rw [make_nat hcl hr]
        exact made g o c n s w hc h hg hl hn hcap k hk hcl _ (.inl ⟨dt hr, rfl⟩)
      · rw [make_bad (i := (k : Int)) ⟨by omega, by rw [Int.toNat_natCast]; exact hcl⟩ (by rw [Int.toNat_natCast]; exact hr)]
        exact made g o c n s w hc h hg hl hn hcap k hk hcl _ (.inr ⟨df hr, rfl⟩)
end Go.Proofs.YtkidehngleglnaaGreatDoor.RcpM
/- receipt.Of, receipt.Forge, the chapter's example: the walks of their texts. The condition: a row of sealed records that lies there. -/
namespace Go.Proofs.YtkidehngleglnaaGreatDoor.RcpF
set_option linter.unusedVariables false
open Go.RowKit
open RecN RecC ChnN ChnM ChnC ChnD ChnA RcpN RcpC RcpQ RcpM
/-- The chapter's example. -/
def exR : Rec := ⟨1, 0, 0, 0, 0, 0, zeros, []⟩
theorem ex_make : make [(exR, zeros)] 0 = (⟨0, exR, zeros, zeros⟩, 0) := by
  have e : mkR [(exR, zeros)] 0 = ⟨0, exR, zeros, zeros⟩ := by rw [mkR_at _ (by simp)]; simp [lastT_nil]
  have h1 : isC [(exR, zeros)] 0 = true := rfl
  have h2 : rok (mkR [(exR, zeros)] 0) := by rw [e]; decide
  have h := make_nat h1 h2
  rw [e] at h
  exact h
theorem nou32 (W : World) : Calls Tryz.prog 14 #[.int .i64 32] W fun e w' => e = .returned (.string ⟨zeros.toArray⟩) ∧ Below W.heap.size W w' := (RNou.noughts 32 W (by omega)).mono fun e w' h => ⟨h.1, h.2⟩
theorem ex_made (W : World) : Calls Tryz.prog 13 #[.slice (some ⟨W.heap.size, 0, none⟩) 1 1, .int .i64 0] (W.alloc (.cells #[.int .i64 1, .int .i64 0, .int .i64 0, .int .i64 0, .int .i64 0, .int .i64 0, .string ⟨zeros.toArray⟩, .string ⟨#[]⟩, .string ⟨zeros.toArray⟩] 45)) fun e w' => e = .returned (.tuple #[.agg #[.int .i64 0, .int .i64 1, .int .i64 0, .int .i64 0, .int .i64 0, .int .i64 0, .int .i64 0, .string ⟨zeros.toArray⟩, .string ⟨#[]⟩, .string ⟨zeros.toArray⟩, .string ⟨zeros.toArray⟩], .int .i64 0]) ∧ Below W.heap.size W w' := by
  have hlies : Lies (W.alloc (.cells #[.int .i64 1, .int .i64 0, .int .i64 0, .int .i64 0, .int .i64 0, .int .i64 0, .string ⟨zeros.toArray⟩, .string ⟨#[]⟩, .string ⟨zeros.toArray⟩] 45)) (some ⟨W.heap.size, 0, none⟩) (ss [(exR, zeros)]) := fun _ => by
    refine ⟨W.heap.size, 0, rfl, by simp, fun j u hj => ?_⟩
    rw [ss_one] at hj
    rw [Nat.zero_add]
    exact blk_cell (heap_alloc_new W _) (by rw [← Array.getElem?_toList]; exact hj)
  have := RcpM.Make (some ⟨W.heap.size, 0, none⟩) 1 1 [(exR, zeros)] 0 _ hlies rfl (by unfold maxLen; omega) (Nat.le_refl _)
  rw [ex_make] at this
  exact this.mono fun e w' ⟨h1, h2⟩ => ⟨h1, (below_new W _).trans (h2.mono (by simp))⟩
set_option maxRecDepth 100000 in
set_option maxHeartbeats 4000000 in
theorem alive (w : World) : Calls Tryz.prog 5 #[] w fun e w' => e = .returned (.bool true) ∧ Below w.heap.size w w' := by
  have HN := Lib.hid (fun W => nou32 W)
  have HM := Lib.hid (fun W => ex_made W)
  have HO : Hid ((#[.int .i64 0, .int .i64 1, .int .i64 0, .int .i64 0, .int .i64 0, .int .i64 0, .int .i64 0, .string ⟨zeros.toArray⟩, .string ⟨#[]⟩, .string ⟨zeros.toArray⟩, .string ⟨zeros.toArray⟩] : Array Value).all (·.oneCell') = true) := Lib.hid (one11 ⟨0, exR, zeros, zeros⟩)
  have F1 : Hid True := Lib.hid trivial
  generalize zeros = z at *
  have he : (z == z) = true := by simp
  go_enter Tryz.func5, Tryz.ntmps5
  go_upto_region 2 with (first
    | (clear F1; go_at_call 14; refine (HN.out _).mono ?_; rintro e w1 ⟨rfl, hb⟩; have B1 := Lib.hid hb; clear hb)
    | (go_at_call 14; refine (HN.out _).mono ?_; rintro e w2 ⟨rfl, hb⟩; replace B1 := Lib.hid (B1.out.trans (hb.mono B1.out.size)); clear hb)
    | (go_at_call 13; refine (HM.out _).mono ?_; rintro e w3 ⟨rfl, hb⟩; have B3 := Lib.hid (B1.out.trans (hb.mono B1.out.size)); clear hb HM)
    | (refine wpList_store_row rfl 25 _ _ rfl w3.heap.size _ rfl rfl 25 _ (heap_alloc_new w3 _) infoP rfl HO.out ?_))
  have B6 := Lib.hid (B3.out.trans ((kept_new w3 #[.int .i64 0, .int .i64 0, .int .i64 0, .int .i64 0, .int .i64 0, .int .i64 0, .int .i64 0, .string ⟨#[]⟩, .string ⟨#[]⟩, .string ⟨#[]⟩, .string ⟨#[]⟩] #[.int .i64 0, .int .i64 1, .int .i64 0, .int .i64 0, .int .i64 0, .int .i64 0, .int .i64 0, .string ⟨z.toArray⟩, .string ⟨#[]⟩, .string ⟨z.toArray⟩, .string ⟨z.toArray⟩] 25).mono B3.out.size))
  have G6 : Hid (((w3.alloc (.cells #[.int .i64 0, .int .i64 0, .int .i64 0, .int .i64 0, .int .i64 0, .int .i64 0, .int .i64 0, .string ⟨#[]⟩, .string ⟨#[]⟩, .string ⟨#[]⟩, .string ⟨#[]⟩] 25)).setRow w3.heap.size #[.int .i64 0, .int .i64 1, .int .i64 0, .int .i64 0, .int .i64 0, .int .i64 0, .int .i64 0, .string ⟨z.toArray⟩, .string ⟨#[]⟩, .string ⟨z.toArray⟩, .string ⟨z.toArray⟩]).heap[w3.heap.size]? = some (.cells #[.int .i64 0, .int .i64 1, .int .i64 0, .int .i64 0, .int .i64 0, .int .i64 0, .int .i64 0, .string ⟨z.toArray⟩, .string ⟨#[]⟩, .string ⟨z.toArray⟩, .string ⟨z.toArray⟩] 25 (0, 0))) := Lib.hid (has_new w3 _ _ _)
  revert B6 G6
  generalize World.setRow _ _ _ = W6
  intro B6 G6
  have BD : Hid (Below w.heap.size w W6.drew) := Lib.hid B6.out.drew
  have GD : Hid (W6.drew.heap[w3.heap.size]? = some (.cells #[.int .i64 0, .int .i64 1, .int .i64 0, .int .i64 0, .int .i64 0, .int .i64 0, .int .i64 0, .string ⟨z.toArray⟩, .string ⟨#[]⟩, .string ⟨z.toArray⟩, .string ⟨z.toArray⟩] 25 (0, 0))) := Lib.hid G6.out
  have HS := Lib.hid (fun (W : World) (h : W.heap[w3.heap.size]? = some (.cells #[.int .i64 0, .int .i64 1, .int .i64 0, .int .i64 0, .int .i64 0, .int .i64 0, .int .i64 0, .string ⟨z.toArray⟩, .string ⟨#[]⟩, .string ⟨z.toArray⟩, .string ⟨z.toArray⟩] 25 (0, 0))) => And.intro (blk_cell (i := 0) h rfl) (And.intro (blk_cell (i := 1) h rfl) (blk_cell (i := 9) h rfl)))
  clear B3 B1 B6 G6 HO
  generalize w3.heap.size = X at *
  have hS := HS.out _ GD.out
  go_region_held3 (fun W' => W'.cell? ⟨X, 0, none⟩ = some (.int .i64 0) ∧ W'.cell? ⟨X, 1, none⟩ = some (.int .i64 1) ∧ W'.cell? ⟨X, 9, none⟩ = some (.string ⟨z.toArray⟩))
    (exact hS)
    (first | (go_at_call 14; refine (HN.out _).mono ?_; rintro e w5 ⟨rfl, hb⟩; have BE := Lib.hid (BD.out.trans (hb.mono BD.out.size)); have GE := Lib.hid ((hb.block _ (lt_of_some GD.out)).trans GD.out); replace hS := HS.out _ GE.out; clear hb))
  go_wp2
  go_ret
  exact ⟨rfl, BE.out⟩
end Go.Proofs.YtkidehngleglnaaGreatDoor.RcpF
