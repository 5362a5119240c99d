/- keepsakeref10.Right: the walk of its text. No conditions. -/
import Derived.Test.YtghljhohbhkdeaaDoorSupRa
import Derived.Test.YtghljhohbhkdeaaDoorSupRb
import Derived.Deep.RegionHeld3
namespace Go.Proofs.YtghljhohbhkdeaaDoor.SupR
open Go.RowKit
open GeoN GeoC GeoS SupN SupC
open SupRa SupRb
theorem dt {p : Prop} [Decidable p] (h : p) : decide p = true := decide_eq_true h
theorem df {p : Prop} [Decidable p] (h : ¬ p) : decide p = false := decide_eq_false h
/-- What the document's Right answers. -/
theorem Right (g t e k b l f : Int) (w : World) :
    Calls Tryd.prog 21 #[.agg #[.int .i64 g, .int .i64 t, .int .i64 e, .int .i64 k, .int .i64 b, .int .i64 l, .int .i64 f]] w fun r w' => r = .returned (.bool (decide (may ⟨g, t, e, k, b, l, f⟩))) ∧ Below w.heap.size w w' := by
  by_cases h0 : right b l f
  · have hd := data_yes h0
    by_cases h1 : 1 ≤ g
    · by_cases h2 : g ≤ 1152921504606846976
      · by_cases h3 : 0 ≤ t
        · by_cases h4 : t ≤ b - 4
          · by_cases h5 : f ≤ e
            · by_cases h6 : e ≤ 4294967295
              · by_cases h7 : 0 ≤ k
                · by_cases h8 : k ≤ 1099511627776
                  · rw [dt (show may ⟨g, t, e, k, b, l, f⟩ from ⟨h0, ⟨h1, h2⟩, ⟨h3, h4⟩, ⟨h5, h6⟩, h7, h8⟩)]
                    exact way9 g t e k b l f _ w (dt h0) hd (dt h1) (dt h2) (dt h3) (dt h4) (dt h5) (dt h6) (dt h7) (dt h8)
                  · rw [df (fun hh : may ⟨g, t, e, k, b, l, f⟩ => h8 hh.2.2.2.2.2)]
                    exact way8 g t e k b l f _ w (dt h0) hd (dt h1) (dt h2) (dt h3) (dt h4) (dt h5) (dt h6) (dt h7) (df h8)
                · rw [df (fun hh : may ⟨g, t, e, k, b, l, f⟩ => h7 hh.2.2.2.2.1)]
                  exact way7 g t e k b l f _ w (dt h0) hd (dt h1) (dt h2) (dt h3) (dt h4) (dt h5) (dt h6) (df h7)
              · rw [df (fun hh : may ⟨g, t, e, k, b, l, f⟩ => h6 hh.2.2.2.1.2)]
                exact way6 g t e k b l f _ w (dt h0) hd (dt h1) (dt h2) (dt h3) (dt h4) (dt h5) (df h6)
            · rw [df (fun hh : may ⟨g, t, e, k, b, l, f⟩ => h5 hh.2.2.2.1.1)]
              exact way5 g t e k b l f _ w (dt h0) hd (dt h1) (dt h2) (dt h3) (dt h4) (df h5)
          · rw [df (fun hh : may ⟨g, t, e, k, b, l, f⟩ => h4 hh.2.2.1.2)]
            exact way4 g t e k b l f _ w (dt h0) hd (dt h1) (dt h2) (dt h3) (df h4)
        · rw [df (fun hh : may ⟨g, t, e, k, b, l, f⟩ => h3 hh.2.2.1.1)]
          exact way3 g t e k b l f _ w (dt h0) hd (dt h1) (dt h2) (df h3)
      · rw [df (fun hh : may ⟨g, t, e, k, b, l, f⟩ => h2 hh.2.1.2)]
        exact way2 g t e k b l f _ w (dt h0) hd (dt h1) (df h2)
    · rw [df (fun hh : may ⟨g, t, e, k, b, l, f⟩ => h1 hh.2.1.1)]
      exact way1 g t e k b l f _ w (dt h0) hd (df h1)
  · rw [df (fun hh : may ⟨g, t, e, k, b, l, f⟩ => h0 hh.1)]
    exact way0 g t e k b l f _ w (df h0) rfl
end Go.Proofs.YtghljhohbhkdeaaDoor.SupR
