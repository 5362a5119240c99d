/- keepsakelaw08.does: the disk seized, held against the document's; and all acts together: the walks of its text. No conditions but those that each lemma names. -/
import Derived.Test.YtofpflkkbkodaaaDkDa
import Derived.Deep.RegionHeld3
namespace Go.Proofs.Ytofpflkkbkodaaa.DkDb
open Go.RowKit
open DkN DkM DkU DkC DkE DkD
theorem own_n {w : World} {base : Nat} {e : TypeId} {size : Nat} {v : Value} {n : Nat} {xs : List Value} (h : w.ownsRow base e size v n xs) : ∃ a c, v = .slice a n c := by
  rcases h.2 with ⟨rfl, h0⟩ | ⟨g, cap, cur, rfl, _⟩
  · exact ⟨none, 0, by rw [h0]⟩
  · exact ⟨_, _, rfl⟩
/-- What Seize leaves reads as an image. -/
theorem img_own {w : World} {base : Nat} {a p : Option Addr} {c d : Nat} {l : List ByteArray} {q : List (Nat × ByteArray)} (h : w.ownsRow base 9 1 (.slice a l.length c) l.length (l.map Value.string)) (h' : w.ownsRow base 76 2 (.slice p q.length d) q.length (putCells q)) (hl : l.length ≤ 100000) (hq : q.length ≤ 100000) : ImgAt w a p l q :=
  ⟨own_strs h, own_puts h', hl, hq⟩
theorem img_has {r : Bool} {w : World} {b n m c d : Nat} {a p : Option Addr} {D : Dk} (h : Has r w b (.slice a n c) (.slice p m d) D) : ImgAt w a p D.bl D.ca :=
  ⟨h.strs, h.puts, by have := h.ok.hi; omega, by have := h.ok.few; omega⟩
set_option maxRecDepth 100000 in
set_option maxHeartbeats 4000000 in
/-- Where both disks are alike. -/
theorem does_8 {w : World} {b rb : Nat} {bv cv rv ru : Value} {D R : Dk} (a : RawAct) (h1 : (a.kind == 1) = false) (h2 : (a.kind == 2) = false) (h3 : (a.kind == 3) = false) (h4 : (a.kind == 4) = false) (h5 : (a.kind == 5) = false) (h6 : (a.kind == 6) = false) (h7 : (a.kind == 7) = false)
    (N : Now w b bv cv rb rv ru w cv ru D R) (hL : D.bl = R.bl ∧ D.ca = R.ca ∧ D.down = R.down) :
    Calls Try.prog 12 #[.pointer (some ⟨b, 0, none⟩), .pointer (some ⟨rb, 0, none⟩), .agg a.cells] w (DoesPost w b bv cv rb rv ru D R D R) := by
  have NN := Lib.hid ((N.step ((Below.refl _ _).alloc (Nat.le_refl _) (.cells a.cells 33))))
  obtain ⟨kind, at_, n, s, raw, ka, kn, kc⟩ := a
  simp only [RawAct.cells] at *
  obtain ⟨ra, rc, rfl⟩ := N.r.bv_eq
  obtain ⟨pa, pc, rfl⟩ := N.r.cv_eq
  have ND := Lib.hid NN.out.drew
  have r0 := NN.out.drew.r.c0
  have r1 := NN.out.drew.r.c1
  have r2 := NN.out.drew.r.r2
  have HQ : Hid (decide (D.bl = R.bl ∧ D.ca = R.ca) = true) := Lib.hid (decide_eq_true ⟨hL.1, hL.2.1⟩)
  have hx : (D.down == R.down) = true := by rw [hL.2.2]; simp
  have hz : ((D.bl.length : Int) == (R.bl.length : Int)) = true := by rw [hL.1]; simp
  clear N NN hL
  go_enter Try.func12, Try.ntmps12
  go_wp2_with fail
  go_region_held3 (fun w' => w'.cell? ⟨rb, 0, none⟩ = some (.slice (some ⟨ra, 0, none⟩) R.bl.length rc) ∧ w'.cell? ⟨rb, 1, none⟩ = some (.slice pa R.ca.length pc) ∧ w'.cell? ⟨rb, 2, none⟩ = some (.bool R.down))
    (first | exact hS | exact ⟨r0, r1, r2⟩)
    (first
      | (go_at_call 20; refine (DkC.Seize ND.out.d).mono ?_; rintro e W3 ⟨v, u, rfl, hv, hu, _, hb3⟩; obtain ⟨va, vc, rfl⟩ := own_n hv; obtain ⟨ua, uc, rfl⟩ := own_n hu; have HI := Lib.hid (img_own hv hu (by have := ND.out.d.ok.hi; omega) (by have := ND.out.d.ok.few; omega)); replace ND := Lib.hid (ND.out.step hb3); have HI' := Lib.hid (img_has ND.out.r); have hS := And.intro ND.out.r.c0 (And.intro ND.out.r.c1 ND.out.r.r2); clear hv hu hb3)
      | (go_at_call 17; refine (DkE.Same _ _ _ _ _ _ _ _ _ _ _ _ _ HI.out HI'.out).mono ?_; rintro e W4 ⟨rfl, hb4⟩; rw [HQ.out]; replace ND := Lib.hid (ND.out.step hb4); have hS := And.intro ND.out.r.c0 (And.intro ND.out.r.c1 ND.out.r.r2); clear hb4)
      | (go_at_call 24; refine (DkQ.Down ND.out.d).mono ?_; rintro e _ ⟨rfl, rfl⟩)
      | (go_at_call 28; refine (DkQ.Size ND.out.d).mono ?_; rintro e _ ⟨rfl, rfl⟩))
  clear hS r0 r1 r2
  go_wp2
  go_ret
  exact ⟨_, rfl, fun _ => rfl, _, _, ND.out⟩
end Go.Proofs.Ytofpflkkbkodaaa.DkDb
