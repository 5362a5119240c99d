/- The document's Right, Put, Hold: the walks of their texts. No conditions but those that each lemma names. -/
import Derived.Test.YteobimhibhfokaaCelC
import Derived.Test.YteobimhibhfokaaRText
import Derived.Test.YteobimhibhfokaaRNou
namespace Go.Proofs.Yteobimhibhfokaa.CelR
open Go.RowKit
open CelN CelC
set_option maxRecDepth 100000 in
set_option maxHeartbeats 2000000 in
theorem Right_any (ep sl lb : Int) (gn : Bool) (ci : List UInt8) (q : Bool) (hq : decide (may ⟨ep, sl, lb, gn, ci⟩) = q) (w : World) :
    Calls Try.prog 26 #[.agg #[.int .i64 ep, .int .i64 sl, .int .i64 lb, .bool gn, .string ⟨ci.toArray⟩]] w fun r w' => r = .returned (.bool q) ∧ Below w.heap.size w w' := by
  obtain ⟨W1, hW1⟩ : ∃ W1, W1 = w.alloc (.cells #[.int .i64 ep, .int .i64 sl, .int .i64 lb, .bool gn, .string ⟨ci.toArray⟩] 23) := ⟨_, rfl⟩
  have SS : Hid (Ws w ep sl lb gn ci W1) := Lib.hid (by rw [hW1]; exact ws_new w ep sl lb gn ci)
  have hz := size_mk ci
  obtain ⟨k0, k1, k2, k3, k4⟩ := SS.out.k.cells
  go_enter Try.func26, Try.ntmps26
  go_upto_region 1 with (fail)
  rw [← hW1]
  clear hW1
  by_cases h0 : 0 ≤ ep
  · by_cases h1 : ep ≤ 4294967295
    · by_cases h2 : 0 ≤ sl
      · by_cases h3 : sl ≤ 4294967295
        · by_cases h4 : 0 ≤ lb
          · by_cases h5 : lb ≤ 4095
            · by_cases h6 : ((ci.length : Nat) : Int) ≤ 4000
              · cases gn
                · obtain rfl : q = true := by rw [← hq, dt (show may ⟨ep, sl, lb, false, ci⟩ from ⟨⟨h0, h1⟩, ⟨h2, h3⟩, ⟨h4, h5⟩, by show ci.length ≤ 4000; omega, .inl rfl⟩)]
                  clear hq
                  go_wp2
                  go_ret
                  exact ⟨rfl, SS.out.bel⟩
                · by_cases h7 : ci = []
                  · obtain rfl : q = true := by rw [← hq, dt (show may ⟨ep, sl, lb, true, ci⟩ from ⟨⟨h0, h1⟩, ⟨h2, h3⟩, ⟨h4, h5⟩, by show ci.length ≤ 4000; omega, .inr h7⟩)]
                    clear hq
                    go_wp2
                    go_ret
                    exact ⟨rfl, SS.out.bel⟩
                  · obtain rfl : q = false := by rw [← hq, df (show ¬ may ⟨ep, sl, lb, true, ci⟩ from fun h => by rcases h.2.2.2.2 with hh | hh; exact absurd hh (by simp); exact h7 hh)]
                    have h8 : (ci == []) = false := by simpa using h7
                    clear hq
                    go_wp2
                    go_ret
                    exact ⟨rfl, SS.out.bel⟩
              · obtain rfl : q = false := by rw [← hq, df (show ¬ may ⟨ep, sl, lb, gn, ci⟩ from fun h => h6 (by have := h.2.2.2.1; dsimp only at this; omega))]
                clear hq
                go_wp2
                go_ret
                exact ⟨rfl, SS.out.bel⟩
            · obtain rfl : q = false := by rw [← hq, df (show ¬ may ⟨ep, sl, lb, gn, ci⟩ from fun h => h5 h.2.2.1.2)]
              clear hq
              go_wp2
              go_ret
              exact ⟨rfl, SS.out.bel⟩
          · obtain rfl : q = false := by rw [← hq, df (show ¬ may ⟨ep, sl, lb, gn, ci⟩ from fun h => h4 h.2.2.1.1)]
            clear hq
            go_wp2
            go_ret
            exact ⟨rfl, SS.out.bel⟩
        · obtain rfl : q = false := by rw [← hq, df (show ¬ may ⟨ep, sl, lb, gn, ci⟩ from fun h => h3 h.2.1.2)]
          clear hq
          go_wp2
          go_ret
          exact ⟨rfl, SS.out.bel⟩
      · obtain rfl : q = false := by rw [← hq, df (show ¬ may ⟨ep, sl, lb, gn, ci⟩ from fun h => h2 h.2.1.1)]
        clear hq
        go_wp2
        go_ret
        exact ⟨rfl, SS.out.bel⟩
    · obtain rfl : q = false := by rw [← hq, df (show ¬ may ⟨ep, sl, lb, gn, ci⟩ from fun h => h1 h.1.2)]
      clear hq
      go_wp2
      go_ret
      exact ⟨rfl, SS.out.bel⟩
  · obtain rfl : q = false := by rw [← hq, df (show ¬ may ⟨ep, sl, lb, gn, ci⟩ from fun h => h0 h.1.1)]
    clear hq
    go_wp2
    go_ret
    exact ⟨rfl, SS.out.bel⟩
/-- What the document's Right answers. -/
theorem Right (ep sl lb : Int) (gn : Bool) (ci : List UInt8) (w : World) :
    Calls Try.prog 26 #[.agg #[.int .i64 ep, .int .i64 sl, .int .i64 lb, .bool gn, .string ⟨ci.toArray⟩]] w fun r w' => r = .returned (.bool (decide (may ⟨ep, sl, lb, gn, ci⟩))) ∧ Below w.heap.size w w' := Right_any ep sl lb gn ci _ rfl w
end Go.Proofs.Yteobimhibhfokaa.CelR
