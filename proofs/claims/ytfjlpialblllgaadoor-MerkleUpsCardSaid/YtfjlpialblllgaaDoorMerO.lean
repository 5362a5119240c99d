/- The document's trees of hashes: Up: the walk of its text. No conditions but those that each lemma names. -/
import Derived.Test.YtfjlpialblllgaaDoorMerI
namespace Go.Proofs.YtfjlpialblllgaaDoor.MerO
open Go.RowKit SSum MerQ MerN MerM MerC MerP MerH MerI
theorem climb_length {n i : Nat} {x : L} {p : List L} (hx : x.length = 32) (hp : p.length = longN n i) : (climbN nd n i x p).length = 32 := by
  rw [climbN_nodes x hp]
  exact last_length hx _ _
set_option maxHeartbeats 4000000 in
theorem Up : ∀ (n i : Nat) (x : L) (M : Nat) (a : Option Addr) (c : Nat) (p : List L) (w : World), i < n → n ≤ 1048576 → p.length = M → M = longN n i → M ≤ c → Strs w w.heap.size a M p → (∀ y ∈ p, y.length = 32) → x.length = 32 →
    Calls Tryd.prog 22 #[.int .i64 (n : Int), .int .i64 (i : Int), str x, .slice a M c] w fun e w' => e = .returned (str (climbN nd n i x p)) ∧ Below w.heap.size w w' := by
  intro n
  induction n using Nat.strongRecOn with
  | _ n ih =>
    intro i x M a c p w hi hn hpl hM hMc h h32 hx
    by_cases h2 : n < 2
    · obtain rfl : n = 1 := by omega
      obtain rfl : i = 0 := by omega
      rw [climbN_one]
      clear ih h h32 hx hM hpl
      rw [show ((1 : Nat) : Int) = 1 from rfl, show ((0 : Nat) : Int) = 0 from rfl]
      go_enter Tryd.func22, Tryd.ntmps22
      go_wp2
      go_ret
      exact ⟨rfl, Below.refl _ _⟩
    · have hs := half_spec (n := n) (by omega)
      have HH := Lib.hid (fun W => Half n (by omega) hn W)
      have hls := long_split (n := n) (i := i) (by omega) hi
      obtain ⟨m, hMm⟩ : ∃ m, M = m + 1 := ⟨M - 1, by split at hls <;> omega⟩
      have hm20 := longN_le hi hn
      obtain ⟨q, off, rfl, hq, hc⟩ := h.2 (by omega)
      have hch := hc m (by omega)
      have hyl : (p.getD m []).length = 32 := h32 _ (by rw [getD_at _ _ (by omega)]; exact List.getElem_mem (by omega))
      have hpe : p.take m ++ [p.getD m []] = p := by
        rw [getD_at _ _ (by omega), ← List.take_succ_eq_append_getElem, List.take_of_length_le (by omega)]
      have hsp := climb_split nd n i x (p.getD m []) (p.take m) (by omega) hi
      rw [hpe] at hsp
      have htl : (p.take m).length = m := by rw [List.length_take]; omega
      have ht := fun y hy => h32 y (List.mem_of_mem_take (i := m) hy)
      rw [htl] at hsp
      generalize MerN.half n = k at *
      have hst := fun W (hb : Below w.heap.size w W) => strs_take ((h.below hb).more hb.size) m (by omega)
      have hc1 := cut_h q off M c m (by omega) (by omega)
      have HCel := Lib.hid (fun W (hb : Below w.heap.size w W) => (hb.cell (p := ⟨q, off + m, none⟩) hq).trans hch)
      generalize p.getD m [] = y at *
      have hyl' : y.length ≤ 32 := by omega
      have h2' : ¬ (n : Int) < 2 := by omega
      have hB0 := Lib.hid (Below.refl w.heap.size w).drew
      have q3 : (0 : Int) ≤ (m : Int) := by omega
      have q4 : (m : Int) < (M : Int) := by omega
      have q8 : (M : Int) - 1 = (m : Int) := by omega
      have q9 : (M : Int) ≤ 20 := by omega
      have hS0 := HCel.out _ hB0.out
      by_cases hk : i < k
      · rw [if_pos hk] at hls
        have hmk : m = longN k i := by omega
        have HL := Lib.hid (fun W (hb : Below w.heap.size w W) => ih k (by omega) i x m (some ⟨q, off, none⟩) c (p.take m) W hk (by omega) htl hmk (by omega) (hst W hb) ht hx)
        have HE := Lib.hid (hsp.1 hk hmk)
        have hul := climb_length (n := k) (i := i) (p := p.take m) hx (by rw [htl]; exact hmk)
        rw [HE.out]
        generalize climbN nd k i x (p.take m) = u at *
        have HSm := Lib.hid (fun W => RSum.Sum (1 :: (u ++ y)) W (by simp [hul, hyl]))
        obtain ⟨t1, ht1⟩ : ∃ t1, 1 :: u = t1 := ⟨_, rfl⟩
        obtain ⟨t2, ht2⟩ : ∃ t2, 1 :: (u ++ y) = t2 := ⟨_, rfl⟩
        have hA1 : ∀ W, (Op.stringOp .add ⟨#[1]⟩ ⟨u.toArray⟩).run Tryd.prog W = .ok (.string ⟨t1.toArray⟩) W := add_l [1] u t1 ht1 (by simp) (by omega)
        have hA2 : ∀ W, (Op.stringOp .add ⟨t1.toArray⟩ ⟨y.toArray⟩).run Tryd.prog W = .ok (.string ⟨t2.toArray⟩) W := add_l t1 y t2 (by rw [← ht1, ← ht2]; rfl) (by rw [← ht1]; simp; omega) (by omega)
        rw [ht2] at HSm
        have HT2 := Lib.hid ht2
        have q1 : (i : Int) < (k : Int) := by omega
        clear ih h h32 hx hM hMm hpl hc hch hpe hsp htl ht hst ht1 ht2 hls hmk hul hyl h2
        go_enter Tryd.func22, Tryd.ntmps22
        go_wp2_with (go_at_call 31; refine (HH.out _).mono ?_; rintro e w' ⟨rfl, rfl⟩)
        go_region_held3 (fun w' => w'.cell? ⟨q, off + m, none⟩ = some (str y)) (first | exact hS0 | exact hS1 | exact hS2) (first
          | (go_at_call 22; refine (HL.out _ hB0.out).mono ?_; rintro e w1 ⟨rfl, hb1⟩; have B1 := Lib.hid (hB0.out.trans (hb1.mono hB0.out.size)); have hS1 := HCel.out _ B1.out; clear hb1)
          | (go_at_call 30; refine (HSm.out _).mono ?_; rintro e w2 ⟨rfl, hb2⟩; have B2 := Lib.hid (B1.out.trans (hb2.mono B1.out.size)); have hS2 := HCel.out _ B2.out; clear hb2))
        go_wp2
        go_ret
        exact ⟨by unfold nd; rw [HT2.out]; rfl, B2.out⟩
      · rw [if_neg hk] at hls
        have hmk : m = longN (n - k) (i - k) := by omega
        have HL := Lib.hid (fun W (hb : Below w.heap.size w W) => ih (n - k) (by omega) (i - k) x m (some ⟨q, off, none⟩) c (p.take m) W (by omega) (by omega) htl hmk (by omega) (hst W hb) ht hx)
        have HE := Lib.hid (hsp.2 hk hmk)
        have hul := climb_length (n := n - k) (i := i - k) (p := p.take m) hx (by rw [htl]; exact hmk)
        rw [HE.out]
        generalize climbN nd (n - k) (i - k) x (p.take m) = u at *
        rw [show ((n - k : Nat) : Int) = (n : Int) - (k : Int) by omega, show ((i - k : Nat) : Int) = (i : Int) - (k : Int) by omega] at HL
        have HSm := Lib.hid (fun W => RSum.Sum (1 :: (y ++ u)) W (by simp [hul, hyl]))
        obtain ⟨t1, ht1⟩ : ∃ t1, 1 :: y = t1 := ⟨_, rfl⟩
        obtain ⟨t2, ht2⟩ : ∃ t2, 1 :: (y ++ u) = t2 := ⟨_, rfl⟩
        have hA1 : ∀ W, (Op.stringOp .add ⟨#[1]⟩ ⟨y.toArray⟩).run Tryd.prog W = .ok (.string ⟨t1.toArray⟩) W := add_l [1] y t1 ht1 (by simp) (by omega)
        have hA2 : ∀ W, (Op.stringOp .add ⟨t1.toArray⟩ ⟨u.toArray⟩).run Tryd.prog W = .ok (.string ⟨t2.toArray⟩) W := add_l t1 u t2 (by rw [← ht1, ← ht2]; rfl) (by rw [← ht1]; simp; omega) (by omega)
        rw [ht2] at HSm
        have HT2 := Lib.hid ht2
        have q1 : ¬ (i : Int) < (k : Int) := by omega
        have q5 : IntKind.i64.wrap ((i : Int) - (k : Int)) = (i : Int) - (k : Int) := IntWalk.i64_in _ (by omega)
        have q6 : IntKind.i64.wrap ((n : Int) - (k : Int)) = (n : Int) - (k : Int) := IntWalk.i64_in _ (by omega)
        clear ih h h32 hx hM hMm hpl hc hch hpe hsp htl ht hst ht1 ht2 hls hmk hul hyl h2 hk
        go_enter Tryd.func22, Tryd.ntmps22
        go_wp2_with (go_at_call 31; refine (HH.out _).mono ?_; rintro e w' ⟨rfl, rfl⟩)
        go_region_held3 (fun w' => w'.cell? ⟨q, off + m, none⟩ = some (str y)) (first | exact hS0 | exact hS1 | exact hS2) (first
          | (go_at_call 22; refine (HL.out _ hB0.out).mono ?_; rintro e w1 ⟨rfl, hb1⟩; have B1 := Lib.hid (hB0.out.trans (hb1.mono hB0.out.size)); have hS1 := HCel.out _ B1.out; clear hb1)
          | (go_at_call 30; refine (HSm.out _).mono ?_; rintro e w2 ⟨rfl, hb2⟩; have B2 := Lib.hid (B1.out.trans (hb2.mono B1.out.size)); have hS2 := HCel.out _ B2.out; clear hb2))
        go_wp2
        go_ret
        exact ⟨by unfold nd; rw [HT2.out]; rfl, B2.out⟩
end Go.Proofs.YtfjlpialblllgaaDoor.MerO
