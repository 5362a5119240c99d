/- The closures that same hands to some and filled, and both of these over each of them: the walks of their texts. -/
import Derived.Test.YteinbhhocnjjoaaDoorSamN
import Derived.Test.YteinbhhocnjjoaaDoorRows
import Derived.Test.YteinbhhocnjjoaaDoorMem
import Derived.Outline
import Derived.Deep.QuietTactic
import Derived.BigQuiet
namespace Go.Proofs.YteinbhhocnjjoaaDoor.SClo
open Go.RowKit
open SamN
set_option maxRecDepth 100000 in
theorem bit_at (S T i : Nat) (s t : List UInt8) (W : World) (hs : W.cell? ⟨S, 0, none⟩ = some (.string ⟨s.toArray⟩)) (ht : W.cell? ⟨T, 0, none⟩ = some (.string ⟨t.toArray⟩)) (h1 : i < s.length) (h2 : i < t.length) :
    Calls Tryd.prog 60 #[.int .i64 i, .pointer (some ⟨S, 0, none⟩), .pointer (some ⟨T, 0, none⟩)] W fun e w' => e = .returned (.int .u8 (s.getD i 0 ^^^ t.getD i 0).toNat) ∧ ∃ n, w' = W.drewN n := by
  have HX : Hid (∀ h g, bits .xor .u8 (((⟨s.toArray⟩ : ByteArray)[i]'h).toNat : Int) (((⟨t.toArray⟩ : ByteArray)[i]'g).toNat : Int) = ((s.getD i 0 ^^^ t.getD i 0).toNat : Int)) := by
    intro h g
    rw [at_list, at_list]
    exact x8 _ _
  have g1 : (i : Int) < (s.length : Int) := by omega
  have g2 : (i : Int) < (t.length : Int) := by omega
  have z1 : (0 : Int) ≤ (i : Int) := by omega
  go_enter Tryd.func60, Tryd.ntmps60
  go_wp2_with fail
  go_quiet (fail)
  go_wp2
  go_ret
  rw [HX.out]
  exact ⟨rfl, _, rfl⟩
set_option maxRecDepth 100000 in
theorem any_at (S i : Nat) (s : List UInt8) (W : World) (hs : W.cell? ⟨S, 0, none⟩ = some (.string ⟨s.toArray⟩)) (h1 : i < s.length) :
    Calls Tryd.prog 59 #[.int .i64 i, .pointer (some ⟨S, 0, none⟩)] W fun e w' => e = .returned (.int .u8 (s.getD i 0).toNat) ∧ ∃ n, w' = W.drewN n := by
  have HX : Hid (∀ h, (((⟨s.toArray⟩ : ByteArray)[i]'h).toNat : Int) = ((s.getD i 0).toNat : Int)) := by
    intro h
    rw [at_list]
  have g1 : (i : Int) < (s.length : Int) := by omega
  have z1 : (0 : Int) ≤ (i : Int) := by omega
  go_enter Tryd.func59, Tryd.ntmps59
  go_wp2_with fail
  go_ret
  rw [HX.out]
  exact ⟨rfl, 0, rfl⟩
/-- some, over any closure. -/
theorem some_over (K : Nat) (cap : Array Value) (n : Nat) (f : Nat → UInt8) (w : World) (hn : n ≤ maxLen) (hK : ∀ (args : Array Value) (W : World), (callFunc K args).run Tryd.prog W = .ok (.enter K args) W)
    (hc : ∀ (i : Nat) (W : World), i < n → Below w.heap.size w W → Calls Tryd.prog K (#[.int .i64 i] ++ cap) W fun e w' => e = .returned (.int .u8 (f i).toNat) ∧ ∃ m, w' = W.drewN m) :
    Calls Tryd.prog 58 #[.int .i64 n, .func (.func K) #[] cap] w fun e w' => e = .returned (.int .i64 (some1 f n)) ∧ Below w.heap.size w w' := by
  unfold maxLen at hn
  have HC := Lib.hid hc
  clear hc
  go_enter Tryd.func58, Tryd.ntmps58
  go_wp2_with fail
  go_loopw [5, 8] (fun a i wr => ∃ j : Nat, j ≤ n ∧ i = .int .i64 j ∧ a = .int .u8 (acc f j).toNat ∧ Below w.heap.size w wr) (fun _ i _ => n - (intOf i).toNat)
  case atStart => exact ⟨0, Nat.zero_le _, rfl, rfl, Below.refl _ _⟩
  case round =>
    obtain ⟨j, hj, rfl, rfl, hbel⟩ := hrel
    by_cases hlt : j < n
    · have HD := Lib.hid (HC.out j wr hlt hbel)
      have HX : Hid (bits .or .u8 ((acc f j).toNat : Int) ((f j).toNat : Int) = ((acc f (j + 1)).toNat : Int)) := o8 _ _
      generalize hA : acc f j = aj at *
      clear hA
      go_wp2_with fail
      refine HD.out.mono ?_
      rintro e w1 ⟨rfl, nd, rfl⟩
      go_wp2
      go_roundw
      case rel =>
        exact ⟨j + 1, by omega, by go_num, by rw [HX.out], hbel.trans (below_drewN wr nd)⟩
      case measure => simp [intOf]; omega
    · have hk : j = n := by omega
      subst hk
      have HE : Hid ((((acc f j).toNat : Int) + 255) / 256 = some1 f j) := some1_shift f j
      have hb := (acc f j).toNat_lt
      generalize acc f j = aj at *
      go_wp2
      go_ret
      exact ⟨by rw [← HE.out]; rfl, hbel⟩
theorem info5 : (Tryd.prog.info? 5).map (fun i => (i.zero, i.size, i.bytes)) = some (some (.int .u8 0), 1, 1) := by kernel_rfl
def fillN (f : Nat → UInt8) (n j : Nat) : List UInt8 := (List.range j).map f ++ List.replicate (n - j) 0
theorem fillN_len (f : Nat → UInt8) (n j : Nat) (h : j ≤ n) : (fillN f n j).length = n := by simp [fillN]; omega
theorem fillN_next (f : Nat → UInt8) (n j : Nat) (h : j < n) : (fillN f n j).set j (f j) = fillN f n (j + 1) := by
  unfold fillN
  rw [List.set_append_right _ _ (by simp), show n - j = (n - (j + 1)) + 1 from by omega, List.replicate_succ]
  simp only [List.length_map, List.length_range, Nat.sub_self, List.set_cons_zero]
  rw [List.range_succ, List.map_append, List.append_assoc]
  rfl
end Go.Proofs.YteinbhhocnjjoaaDoor.SClo
