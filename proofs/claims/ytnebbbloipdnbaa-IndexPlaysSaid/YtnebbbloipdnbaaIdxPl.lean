/- The document's Places: the walk of its text. No conditions but those that each lemma names. -/
import Derived.Test.YtnebbbloipdnbaaIdxQ
namespace Go.Proofs.Ytnebbbloipdnbaa.IdxPl
open Go.RowKit
open IdxN IdxM IdxC IdxD IdxH IdxI IdxQ
theorem firsts_succ (l : List V) (j : Nat) : (firsts l (j + 1)).length = if met l j (l.getD j z0).1 then (firsts l j).length else (firsts l j).length + 1 := by
  rw [firsts]
  split <;> simp
set_option maxRecDepth 100000 in
set_option maxHeartbeats 2000000 in
theorem RPlaces (a : Option Addr) (c : Nat) (l : List V) (w : World) (h : Lies w a l) (hl : l.length ≤ 100000) :
    Calls Try.prog 20 #[.slice a l.length c] w fun e w' => e = .returned (.int .i64 (firsts l l.length).length) ∧ Below w.heap.size w w' := by
  have HL := Lib.hid h
  clear h
  go_enter Try.func20, Try.ntmps20
  go_wp2_with fail
  go_loopw [3, 4] (fun n i wr => ∃ j : Nat, j ≤ l.length ∧ i = .int .i64 j ∧ n = .int .i64 (firsts l j).length ∧ Below w.heap.size w wr) (fun _ i _ => l.length - (intOf i).toNat)
  case atStart => exact ⟨0, Nat.zero_le _, rfl, rfl, Below.refl _ _⟩
  case round =>
    obtain ⟨j, hj, rfl, rfl, hb⟩ := hrel
    have BW := Lib.hid hb
    clear hb
    by_cases hlt : j < l.length
    · have hjl : (j : Int) < (l.length : Int) := by omega
      have HF := Lib.hid (firsts_succ l j)
      have hfl := firsts_length l j
      go_wp2_with fail
      go_loopw [5, 6] (fun q k wv => ∃ t : Nat, t ≤ j ∧ k = .int .i64 t ∧ q = .bool (met l t (l.getD j z0).1) ∧ Below w.heap.size w wv) (fun _ k _ => j - (intOf k).toNat)
      case atStart => exact ⟨0, Nat.zero_le _, rfl, rfl, BW.out⟩
      case round =>
        obtain ⟨t, ht, rfl, rfl, hb⟩ := hrel
        have BV := Lib.hid hb
        clear hb
        by_cases htj : t < j
        · have htl : (t : Int) < (j : Int) := by omega
          have htll : (t : Int) < (l.length : Int) := by omega
          obtain ⟨g, o, rfl, hg, hat⟩ := (HL.out.step BV.out).at_ (by omega)
          have m0 := (hat t (by omega)).1
          have k0 := (hat j hlt).1
          have e1 : l[t]'(by omega) = l.getD t z0 := by simp [List.getD, show t < l.length by omega]
          have e2 : l[j]'hlt = l.getD j z0 := by simp [List.getD, hlt]
          rw [e1] at m0
          rw [e2] at k0
          have HM := Lib.hid (met_succ l t (l.getD j z0).1 (by omega))
          clear hat e1 e2 HF
          generalize (l.getD j z0).1 = y at *
          generalize (l.getD t z0).1 = x at *
          cases hq : met l t y
          · rw [hq] at HM
            by_cases he : x = y
            · have he' : (x == y) = true := by rw [beq_iff_eq]; exact he
              rw [he'] at HM
              clear he
              go_wp2_with fail
              go_quiet (fail)
              go_wp2
              go_roundw
              case rel => exact ⟨t + 1, by omega, by go_num, by rw [HM.out]; rfl, BV.out.trans (below_drewN _ _)⟩
              case measure => simp [intOf]; omega
            · have he' : (x == y) = false := by rw [beq_eq_false_iff_ne]; exact he
              rw [he'] at HM
              clear he
              go_wp2_with fail
              go_quiet (fail)
              go_wp2
              go_roundw
              case rel => exact ⟨t + 1, by omega, by go_num, by rw [HM.out]; rfl, BV.out.trans (below_drewN _ _)⟩
              case measure => simp [intOf]; omega
          · rw [hq] at HM
            go_wp2_with fail
            go_quiet (fail)
            go_wp2
            go_roundw
            case rel => exact ⟨t + 1, by omega, by go_num, by rw [HM.out]; rfl, BV.out.trans (below_drewN _ _)⟩
            case measure => simp [intOf]; omega
        · obtain rfl : t = j := by omega
          cases hq : met l t (l.getD t z0).1
          · have hF := HF.out
            rw [hq] at hF
            have HG := Lib.hid hF
            clear hF
            go_wp2_with fail
            go_roundw
            case rel => exact ⟨t + 1, by omega, by go_num, by rw [HG.out]; simp, BV.out⟩
            case measure => simp [intOf]; omega
          · have hF := HF.out
            rw [hq] at hF
            have HG := Lib.hid hF
            clear hF
            go_wp2_with fail
            go_roundw
            case rel => exact ⟨t + 1, by omega, by go_num, by rw [HG.out]; simp, BV.out⟩
            case measure => simp [intOf]; omega
    · obtain rfl : j = l.length := by omega
      go_wp2_with fail
      go_ret
      exact ⟨rfl, BW.out⟩
end Go.Proofs.Ytnebbbloipdnbaa.IdxPl
