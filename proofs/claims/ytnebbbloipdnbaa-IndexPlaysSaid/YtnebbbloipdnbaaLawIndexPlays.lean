/- IndexPlays: at any row of at most 100 versions (longer ones: only the chapter's example), any place and any epoch: each version is taken or refused, and what is told of the place and the epoch is, as the document says. No conditions. -/
import Derived.Test.YtnebbbloipdnbaaIdxY
import Derived.Test.YtnebbbloipdnbaaIdxP
import Derived.Test.YtnebbbloipdnbaaIdxPl
import Derived.Test.YtnebbbloipdnbaaIdxAl
import Derived.Test.YtnebbbloipdnbaaRows
import Derived.WalkKit
import Derived.ProofKit
import Derived.OpenShut
import Derived.ShutString
import Derived.ChangeOld
import Derived.Below
namespace Go.Proofs.Ytnebbbloipdnbaa.indexPlays
open Go.ChangeShapes Go.WideShapes Go.ChangeAt Go.RowKit
open Go.ChangeMaps (open_string shut_string)
set_option linter.unusedVariables false
open IdxN IdxM IdxC IdxD IdxH IdxI IdxJ IdxK IdxV IdxW IdxY IdxE
theorem short (a : Option Addr) (n c : Nat) (lba ep : Int) (w : World) (hn : n ≤ maxLen) (h : 100 < n) :
    Calls Try.prog 3 #[.slice a n c, .int .i64 lba, .int .i64 ep] w fun e w' => e = .returned (.bool true) ∧ Below w.heap.size w w' := by
  have HA := Lib.hid (IdxO.alive w)
  unfold maxLen at hn
  have h0' : decide ((100 : Int) < (n : Int)) = true := decide_eq_true (by omega)
  clear h
  go_enter Try.func3, Try.ntmps3
  go_wp2_with (go_at_call 7; refine HA.out.mono ?_; rintro e w1 ⟨rfl, hb⟩)
  go_ret
  exact ⟨rfl, hb⟩
def rL (l : List V) : List V := l.foldl addR []
theorem rL_succ (l : List V) (j : Nat) (h : j < l.length) : rL (l.take (j + 1)) = addR (rL (l.take j)) l[j] := by
  rw [List.take_succ_eq_append_getElem h]
  unfold rL
  rw [List.foldl_append]
  rfl
theorem rel_fold (l : List V) : ∀ r s, Rel r s → Rel (l.foldl add r) (l.foldl addR s) := by
  induction l with
  | nil => exact fun _ _ h => h
  | cons x l ih => exact fun r s h => ih _ _ (h.add x).1
theorem rel_of_ (l : List V) : Rel (ofL l) (rL l) := rel_fold l [] [] Rel.nil
theorem addR_length (s : List V) (x : V) : (addR s x).length ≤ s.length + 1 := by
  unfold addR
  split
  · simp
  · omega
theorem rL_length (l : List V) : (rL l).length ≤ l.length := by
  have h : ∀ (l s : List V), (l.foldl addR s).length ≤ s.length + l.length := by
    intro l
    induction l with
    | nil => intro s; simp
    | cons x l ih => intro s; have h1 := ih (addR s x); have h2 := addR_length s x; simp only [List.foldl_cons, List.length_cons]; omega
  have := h l []
  unfold rL
  simpa using this
/-- The document's row lies apart from the index's. -/
def Sep (p : Option Addr) (H : Nat) (v : Value) (W : World) : Prop := ∀ g o, p = some ⟨g, o, none⟩ → ¬ Foot H v g ∧ g < W.heap.size
/-- The document's Add, then the index's. -/
theorem both {B X H : Nat} {v : Value} {r r' s' : List V} {W W4 W5 : World} {p p' : Option Addr} (hi : Ix B X H v r W) (hs : Sep p H v W) (hp : p' = p ∨ ∃ g, p' = some ⟨g, 0, none⟩ ∧ W.heap.size ≤ g ∧ g < W4.heap.size) (hl : Lies W4 p' s') (hb : Below W.heap.size W W4) (hB : B ≤ W.heap.size)
    (ha : Added B X H v r' W4 W5) : ∃ v', Ix B X H v' r' W5 ∧ Lies W5 p' s' ∧ Sep p' H v' W5 ∧ Below B W4 W5 := by
  have hsep : Sep p' H v W4 := fun g o e => by
    rcases hp with e1 | ⟨g', e1, hg, hg2⟩
    · subst e1
      exact ⟨(hs g o e).1, Nat.lt_of_lt_of_le (hs g o e).2 hb.size⟩
    · rw [e1] at e
      cases e
      exact ⟨fun hf => by have := (hi.foot g hf).2; omega, hg2⟩
  have hbel := IdxO.Added.below (hi.step hb) ha (Nat.le_trans hB hb.size)
  obtain ⟨v', h1, h2, h3⟩ := ha
  refine ⟨v', h1, hl.keep h3.size (fun g o e hg => h3.block g hg (hsep g o e).1), fun g o e => ⟨fun hf => ?_, Nat.lt_of_lt_of_le (hsep g o e).2 h3.size⟩, hbel⟩
  have hg := (hsep g o e).2
  rcases hf with rfl | hf
  · exact (hsep _ o e).1 (.inl rfl)
  · rcases h2 with h2 | ⟨k, h2, hk⟩
    · exact (hsep g o e).1 (.inr (h2 ▸ hf))
    · rw [h2] at hf
      have := Option.some.inj hf
      omega
/-- What stands in the loop. -/
structure Pl_ (w : World) (X H : Nat) (v : Value) (r s : List V) (p : Option Addr) (W : World) : Prop where
  bel : Below w.heap.size w W
  ix : Ix w.heap.size X H v r W
  lies : Lies W p s
  sep : Sep p H v W
  rel : Rel r s
theorem Pl_.step {w W W' : World} {X H : Nat} {v : Value} {r s : List V} {p : Option Addr} (h : Pl_ w X H v r s p W) (hb : Below W.heap.size W W') : Pl_ w X H v r s p W' :=
  ⟨h.bel.trans (hb.mono h.bel.size), h.ix.step hb, h.lies.step hb, fun g o e => ⟨(h.sep g o e).1, Nat.lt_of_lt_of_le (h.sep g o e).2 hb.size⟩, h.rel⟩
theorem Pl_.next {w W W4 W5 : World} {X H : Nat} {v : Value} {r s : List V} {p p' : Option Addr} {x : V} (h : Pl_ w X H v r s p W) (hp : p' = p ∨ ∃ g, p' = some ⟨g, 0, none⟩ ∧ W.heap.size ≤ g ∧ g < W4.heap.size) (hl : Lies W4 p' (addR s x)) (hb : Below W.heap.size W W4)
    (ha : Added w.heap.size X H v (add r x) W4 W5) : ∃ v', Pl_ w X H v' (add r x) (addR s x) p' W5 := by
  obtain ⟨v', h1, h2, h3, h4⟩ := both h.ix h.sep hp hl hb h.bel.size ha
  exact ⟨v', (h.bel.trans (hb.mono h.bel.size)).trans h4, h1, h2, h3, (h.rel.add x).1⟩
set_option maxRecDepth 100000 in
set_option maxHeartbeats 4000000 in
theorem long (a : Option Addr) (n c : Nat) (l : List V) (lba ep : Int) (w : World) (hz : Vers w a n l) (hn : n ≤ 100) :
    Calls Try.prog 3 #[.slice a n c, .int .i64 lba, .int .i64 ep] w fun e w' => e = .returned (.bool true) ∧ Below w.heap.size w w' := by
  obtain ⟨rfl, _, hlies⟩ := hz
  have HL := Lib.hid hlies
  have HNew := Lib.hid (New w)
  have h0' : decide ((100 : Int) < (l.length : Int)) = false := decide_eq_false (by omega)
  clear hlies
  go_enter Try.func3, Try.ntmps3
  go_upto_region 6 with (go_at_call 8; refine HNew.out.mono ?_; rintro e w1 ⟨X, H, v, rfl, hix, hb⟩; have I1 := Lib.hid hix; have B1 := Lib.hid hb; clear hix hb)
  go_loopw [8, 28] (fun sv i wr => ∃ (j : Nat) (v : Value) (p : Option Addr) (c : Nat), j ≤ l.length ∧ i = .int .i64 j ∧ sv = .slice p (rL (l.take j)).length c ∧ Pl_ w X H v (ofL (l.take j)) (rL (l.take j)) p wr) (fun _ i _ => l.length - (intOf i).toNat)
  case atStart => exact ⟨0, v, none, 0, Nat.zero_le _, rfl, rfl, ⟨B1.out, I1.out, Lies.nil _ _, fun _ _ e => (by cases e), Rel.nil⟩⟩
  case round =>
    clear I1 B1
    obtain ⟨j, v, p, cp, hj, rfl, rfl, hP⟩ := hrel
    have PP := Lib.hid hP
    clear hP
    by_cases hlt : j < l.length
    · obtain ⟨g, o, rfl, hg, hat⟩ := (HL.out.step PP.out.bel).at_ (by omega)
      obtain ⟨m0, m1, m2⟩ := hat j hlt
      have hjl : (j : Int) < (l.length : Int) := by omega
      have H1 := Lib.hid (IdxO.ofL_succ l j hlt)
      have H2 := Lib.hid (rL_succ l j hlt)
      have hle : (ofL (l.take j)).length ≤ 100 ∧ (rL (l.take j)).length ≤ 100 := by
        have h1 := ofL_length (l.take j)
        have h2 := rL_length (l.take j)
        rw [List.length_take] at h1 h2
        omega
      have hso := ofL_sorted (l.take j)
      clear hat
      generalize ofL (l.take j) = r at *
      generalize rL (l.take j) = s at *
      generalize l[j] = u at *
      have HA := Lib.hid (fun W (h : Pl_ w X H v r s p W) => IdxP.RAdd p cp s u W h.lies (by omega))
      have HB := Lib.hid (fun W (h : Ix w.heap.size X H v r W) => IdxB.Add (B := w.heap.size) (X := X) (H := H) (v := v) (r := r) u W h hso (by omega))
      have HE := Lib.hid (PP.out.rel.add u).2
      have HN := Lib.hid (fun W W4 W5 p' (h : Pl_ w X H v r s p W) hp hl hb ha => h.next (x := u) (W4 := W4) (W5 := W5) (p' := p') hp hl hb ha)
      rw [HE.out] at HB
      clear hle hso HE
      generalize addR s u = s' at *
      generalize add r u = r' at *
      generalize why s u = y at *
      obtain ⟨u0, u1, u2⟩ := u
      dsimp only at m0 m1 m2 HA HB
      go_upto_region 8 with (refine wpList_store_row rfl 27 _ _ rfl wr.heap.size _ rfl rfl 27 _ (heap_alloc_new wr _) infoV rfl (one3 (u0, u1, u2)) ?_)
      generalize hW : World.setRow _ _ _ = W3
      have b3 : Below wr.heap.size wr W3 := by rw [← hW]; exact kept_new wr _ _ _
      have g3 : W3.heap[wr.heap.size]? = some (.cells #[.int .i64 u0, .int .i64 u1, .int .i64 u2] 27 (0, 0)) := by rw [← hW]; exact has_new wr _ _ _
      clear hW
      have k0 : W3.cell? ⟨wr.heap.size, 0, none⟩ = some (.int .i64 u0) := blk_cell g3 rfl
      have k1 : W3.cell? ⟨wr.heap.size, 1, none⟩ = some (.int .i64 u1) := blk_cell g3 rfl
      have k2 : W3.cell? ⟨wr.heap.size, 2, none⟩ = some (.int .i64 u2) := blk_cell g3 rfl
      have P3 := Lib.hid (PP.out.step b3)
      have G3 := Lib.hid g3
      clear b3 g3 m0 m1 m2
      go_upto_region 9 with (go_at_call 9; refine (HA.out _ P3.out).mono ?_; rintro e w4 ⟨p', c', rfl, hl4, hp4, hb4⟩; have g4 := (hb4.block _ (lt_of G3.out)).trans G3.out; have L4 := Lib.hid hl4; have Q4 := Lib.hid hp4; have B4 := Lib.hid hb4; clear k0 k1 k2 hl4 hp4 hb4)
      have k0 : w4.cell? ⟨wr.heap.size, 0, none⟩ = some (.int .i64 u0) := blk_cell g4 rfl
      have k1 : w4.cell? ⟨wr.heap.size, 1, none⟩ = some (.int .i64 u1) := blk_cell g4 rfl
      have k2 : w4.cell? ⟨wr.heap.size, 2, none⟩ = some (.int .i64 u2) := blk_cell g4 rfl
      clear g4
      go_wp2_with (go_at_call 10; refine (HB.out _ (P3.out.ix.step B4.out)).mono ?_; rintro e w5 ⟨rfl, hadd⟩; have D5 := Lib.hid hadd; clear hadd HB)
      go_roundw
      case rel =>
        obtain ⟨v', hv'⟩ := HN.out W3 w4 w5 p' P3.out Q4.out L4.out B4.out D5.out
        exact ⟨j + 1, v', p', c', by omega, by go_num, by rw [H2.out], by rw [H1.out, H2.out]; exact hv'⟩
      case measure => simp [intOf]; omega
    · obtain rfl : j = l.length := by omega
      rw [List.take_length] at PP ⊢
      have hle : (ofL l).length ≤ 100 ∧ (rL l).length ≤ 100 := by
        have h1 := ofL_length l
        have h2 := rL_length l
        omega
      generalize ofL l = r at *
      generalize rL l = s at *
      have hrel := PP.out.rel
      have hsr := hrel.s
      have hE : (eps r ep).length ≤ 100 := by
        have h1 := List.length_filterMap_le (pick fun x => IdxM.of r x ep) (plc r)
        have h2 := plc_length r
        unfold eps
        omega
      have HN := Lib.hid (fun W (h : Rd (some ⟨X, 0, none⟩) r W) => Newest (some ⟨X, 0, none⟩) r lba ep W h (by omega) hsr)
      have HF := Lib.hid (fun W (h : Rd (some ⟨X, 0, none⟩) r W) => Of (some ⟨X, 0, none⟩) r lba ep W h (by omega) hsr)
      have HRN := Lib.hid (fun W (h : Lies W p s) => IdxR.Newest p cp s lba 0 ep W h (by omega))
      have HRF := Lib.hid (fun W (h : Lies W p s) => IdxR.Newest p cp s lba ep ep W h (by omega))
      rw [← rel_newest hrel] at HRN
      rw [← rel_of hrel] at HRF
      have HEp := Lib.hid (fun W (h : Rd (some ⟨X, 0, none⟩) r W) => IdxE.Epoch (some ⟨X, 0, none⟩) r ep W h (by omega) hsr)
      have HREp := Lib.hid (fun W (h : Lies W p s) => IdxP.REpoch p cp s ep W h (by omega))
      rw [← rel_eps hrel] at HREp
      have HAll := Lib.hid (fun q W (h : Rd q r W) => All q r W h (by omega))
      have HRAll := Lib.hid (fun W (h : Lies W p s) => IdxAl.RAll p cp r s W h (by omega) hrel)
      have HP := Lib.hid (fun W (h : Rd (some ⟨X, 0, none⟩) r W) => Places (some ⟨X, 0, none⟩) r W h (by omega) hsr)
      have HRP := Lib.hid (fun W (h : Lies W p s) => IdxPl.RPlaces p cp s W h (by omega))
      rw [rel_places hrel] at HRP
      have HCopy := Lib.hid (fun W (h : Ix w.heap.size X H v r W) => IdxX.Copy w.heap.size X H v r W h (by omega))
      have HSE := Lib.hid (fun q1 q2 c1 c2 W (h : Lies W q1 (eps r ep)) (k : Lies W q2 (eps r ep)) => IdxQ.Same q1 q2 c1 c2 (eps r ep) (eps r ep) W h k (by omega) (by omega))
      have HSR := Lib.hid (fun q1 q2 c1 c2 W (h : Lies W q1 r) (k : Lies W q2 r) => IdxQ.Same q1 q2 c1 c2 r r W h k (by omega) (by omega))
      rw [show decide (eps r ep = eps r ep) = true from decide_eq_true rfl] at HSE
      rw [show decide (r = r) = true from decide_eq_true rfl] at HSR
      clear hrel hsr hE hle
      generalize plc r = pl at *
      generalize eps r ep = E at *
      generalize newest r lba ep = x at *
      generalize IdxM.of r lba ep = z at *
      obtain ⟨⟨a0, a1, a2⟩, ab⟩ := x
      obtain ⟨⟨b0, b1, b2⟩, bb⟩ := z
      have hn1 := fun W => run_neq_ver W (a0, a1, a2) (a0, a1, a2)
      have hn2 := fun W => run_neq_ver W (b0, b1, b2) (b0, b1, b2)
      rw [show decide (((a0, a1, a2) : V) = (a0, a1, a2)) = true from decide_eq_true rfl] at hn1
      rw [show decide (((b0, b1, b2) : V) = (b0, b1, b2)) = true from decide_eq_true rfl] at hn2
      dsimp only at hn1 hn2
      go_upto_region 14 with (first
        | (go_at_call 11; refine (HN.out _ (IdxW.Ix.rd PP.out.ix)).mono ?_; rintro e wA13 ⟨rfl, hb⟩; have PA := Lib.hid (PP.out.step hb); clear hb PP HN)
        | (refine wpList_store_row rfl 27 _ _ rfl wA13.heap.size _ rfl rfl 27 _ (heap_alloc_new wA13 _) infoV rfl (one3 (a0, a1, a2)) ?_))
      generalize hW : World.setRow _ _ _ = WB13
      have hb : Below wA13.heap.size wA13 WB13 := by rw [← hW]; exact kept_new wA13 _ _ _
      have g3 : WB13.heap[wA13.heap.size]? = some (.cells #[.int .i64 a0, .int .i64 a1, .int .i64 a2] 27 (0, 0)) := by rw [← hW]; exact has_new wA13 _ _ _
      have PP := Lib.hid (PA.out.step hb)
      have GX13 := Lib.hid g3
      clear hW hb g3 PA
      generalize wA13.heap.size = X13 at *
      go_upto_region 15 with (first
        | (go_at_call 12; refine (HRN.out _ PP.out.lies).mono ?_; rintro e wA14 ⟨rfl, hb⟩; have PA := Lib.hid (PP.out.step hb); have GX13a := Lib.hid ((hb.block _ (lt_of GX13.out)).trans GX13.out); clear hb PP HRN)
        | (refine wpList_store_row rfl 27 _ _ rfl wA14.heap.size _ rfl rfl 27 _ (heap_alloc_new wA14 _) infoV rfl (one3 (a0, a1, a2)) ?_))
      generalize hW : World.setRow _ _ _ = WB14
      have hb : Below wA14.heap.size wA14 WB14 := by rw [← hW]; exact kept_new wA14 _ _ _
      have g3 : WB14.heap[wA14.heap.size]? = some (.cells #[.int .i64 a0, .int .i64 a1, .int .i64 a2] 27 (0, 0)) := by rw [← hW]; exact has_new wA14 _ _ _
      have PP := Lib.hid (PA.out.step hb)
      have GX14 := Lib.hid g3
      clear GX13
      have GX13 := Lib.hid ((hb.block _ (lt_of GX13a.out)).trans GX13a.out)
      clear GX13a
      clear hW hb g3 PA
      generalize wA14.heap.size = X14 at *
      go_upto_region 16 with (first
        | (go_at_call 13; refine (HF.out _ (IdxW.Ix.rd PP.out.ix)).mono ?_; rintro e wA15 ⟨rfl, hb⟩; have PA := Lib.hid (PP.out.step hb); have GX13a := Lib.hid ((hb.block _ (lt_of GX13.out)).trans GX13.out); have GX14a := Lib.hid ((hb.block _ (lt_of GX14.out)).trans GX14.out); clear hb PP HF)
        | (refine wpList_store_row rfl 27 _ _ rfl wA15.heap.size _ rfl rfl 27 _ (heap_alloc_new wA15 _) infoV rfl (one3 (b0, b1, b2)) ?_))
      generalize hW : World.setRow _ _ _ = WB15
      have hb : Below wA15.heap.size wA15 WB15 := by rw [← hW]; exact kept_new wA15 _ _ _
      have g3 : WB15.heap[wA15.heap.size]? = some (.cells #[.int .i64 b0, .int .i64 b1, .int .i64 b2] 27 (0, 0)) := by rw [← hW]; exact has_new wA15 _ _ _
      have PP := Lib.hid (PA.out.step hb)
      have GX15 := Lib.hid g3
      clear GX13
      have GX13 := Lib.hid ((hb.block _ (lt_of GX13a.out)).trans GX13a.out)
      clear GX13a
      clear GX14
      have GX14 := Lib.hid ((hb.block _ (lt_of GX14a.out)).trans GX14a.out)
      clear GX14a
      clear hW hb g3 PA
      generalize wA15.heap.size = X15 at *
      go_upto_region 17 with (first
        | (go_at_call 12; refine (HRF.out _ PP.out.lies).mono ?_; rintro e wA16 ⟨rfl, hb⟩; have PA := Lib.hid (PP.out.step hb); have GX13a := Lib.hid ((hb.block _ (lt_of GX13.out)).trans GX13.out); have GX14a := Lib.hid ((hb.block _ (lt_of GX14.out)).trans GX14.out); have GX15a := Lib.hid ((hb.block _ (lt_of GX15.out)).trans GX15.out); clear hb PP HRF)
        | (refine wpList_store_row rfl 27 _ _ rfl wA16.heap.size _ rfl rfl 27 _ (heap_alloc_new wA16 _) infoV rfl (one3 (b0, b1, b2)) ?_))
      generalize hW : World.setRow _ _ _ = WB16
      have hb : Below wA16.heap.size wA16 WB16 := by rw [← hW]; exact kept_new wA16 _ _ _
      have g3 : WB16.heap[wA16.heap.size]? = some (.cells #[.int .i64 b0, .int .i64 b1, .int .i64 b2] 27 (0, 0)) := by rw [← hW]; exact has_new wA16 _ _ _
      have PP := Lib.hid (PA.out.step hb)
      have GX16 := Lib.hid g3
      clear GX13
      have GX13 := Lib.hid ((hb.block _ (lt_of GX13a.out)).trans GX13a.out)
      clear GX13a
      clear GX14
      have GX14 := Lib.hid ((hb.block _ (lt_of GX14a.out)).trans GX14a.out)
      clear GX14a
      clear GX15
      have GX15 := Lib.hid ((hb.block _ (lt_of GX15a.out)).trans GX15a.out)
      clear GX15a
      clear hW hb g3 PA
      generalize wA16.heap.size = X16 at *
      have cX130 : WB16.cell? ⟨X13, 0, none⟩ = some (.int .i64 a0) := blk_cell GX13.out rfl
      have cX131 : WB16.cell? ⟨X13, 1, none⟩ = some (.int .i64 a1) := blk_cell GX13.out rfl
      have cX132 : WB16.cell? ⟨X13, 2, none⟩ = some (.int .i64 a2) := blk_cell GX13.out rfl
      have cX140 : WB16.cell? ⟨X14, 0, none⟩ = some (.int .i64 a0) := blk_cell GX14.out rfl
      have cX141 : WB16.cell? ⟨X14, 1, none⟩ = some (.int .i64 a1) := blk_cell GX14.out rfl
      have cX142 : WB16.cell? ⟨X14, 2, none⟩ = some (.int .i64 a2) := blk_cell GX14.out rfl
      have cX150 : WB16.cell? ⟨X15, 0, none⟩ = some (.int .i64 b0) := blk_cell GX15.out rfl
      have cX151 : WB16.cell? ⟨X15, 1, none⟩ = some (.int .i64 b1) := blk_cell GX15.out rfl
      have cX152 : WB16.cell? ⟨X15, 2, none⟩ = some (.int .i64 b2) := blk_cell GX15.out rfl
      have cX160 : WB16.cell? ⟨X16, 0, none⟩ = some (.int .i64 b0) := blk_cell GX16.out rfl
      have cX161 : WB16.cell? ⟨X16, 1, none⟩ = some (.int .i64 b1) := blk_cell GX16.out rfl
      have cX162 : WB16.cell? ⟨X16, 2, none⟩ = some (.int .i64 b2) := blk_cell GX16.out rfl
      clear GX13 GX14 GX15 GX16
      have F1 : Hid True := Lib.hid trivial
      have F2 : Hid True := Lib.hid trivial
      have F3 : Hid True := Lib.hid trivial
      have F4 : Hid True := Lib.hid trivial
      cases ab <;> cases bb
      all_goals
        go_upto_region 19 with (fail)
        clear cX130 cX131 cX132 cX140 cX141 cX142 cX150 cX151 cX152 cX160 cX161 cX162 hn1 hn2
        go_wp2_with (first
          | (go_at_call 15; refine (HEp.out _ (IdxW.Ix.rd PP.out.ix)).mono ?_; rintro e w8 ⟨v8, rfl, o8, k⟩; obtain ⟨p8, c8, rfl⟩ := own_slice_len o8; have L8 := Lib.hid (own_lies o8); replace PP := Lib.hid (PP.out.step k); clear o8 k)
          | (go_at_call 16; refine (HREp.out _ PP.out.lies).mono ?_; rintro e w9 ⟨v9, rfl, o9, k⟩; obtain ⟨p9, c9, rfl⟩ := own_slice_len o9; have L9 := Lib.hid (own_lies o9); replace L8 := Lib.hid (L8.out.step k); replace PP := Lib.hid (PP.out.step k); clear o9 k)
          | (clear F1; go_at_call 14; refine (HSE.out _ _ _ _ _ L8.out L9.out).mono ?_; rintro e w10 ⟨rfl, k⟩; replace PP := Lib.hid (PP.out.step k); clear k L8 L9)
          | (clear F2; go_at_call 17; refine (HAll.out _ _ (IdxW.Ix.rd PP.out.ix)).mono ?_; rintro e w11 ⟨v11, rfl, o11, k⟩; obtain ⟨p11, c11, rfl⟩ := own_slice_len o11; have L11 := Lib.hid (own_lies o11); replace PP := Lib.hid (PP.out.step k); clear o11 k)
          | (go_at_call 18; refine (HRAll.out _ PP.out.lies).mono ?_; rintro e w12 ⟨v12, rfl, o12, k⟩; obtain ⟨p12, c12, rfl⟩ := own_slice_len o12; have L12 := Lib.hid (own_lies o12); replace L11 := Lib.hid (L11.out.step k); replace PP := Lib.hid (PP.out.step k); clear o12 k)
          | (clear F3; go_at_call 14; refine (HSR.out _ _ _ _ _ L11.out L12.out).mono ?_; rintro e w13 ⟨rfl, k⟩; replace PP := Lib.hid (PP.out.step k); clear k L11 L12)
          | (go_at_call 19; refine (HP.out _ (IdxW.Ix.rd PP.out.ix)).mono ?_; rintro e w14 ⟨rfl, k⟩; replace PP := Lib.hid (PP.out.step k); clear k)
          | (go_at_call 20; refine (HRP.out _ PP.out.lies).mono ?_; rintro e w15 ⟨rfl, k⟩; replace PP := Lib.hid (PP.out.step k); clear k)
          | (go_at_call 21; refine (HCopy.out _ PP.out.ix).mono ?_; rintro e w16 ⟨C, K, vcc, rfl, hic, k⟩; have RC := Lib.hid (IdxW.Ix.rd hic); replace PP := Lib.hid (PP.out.step k); clear k hic)
          | (clear F4; go_at_call 17; refine (HAll.out _ _ RC.out).mono ?_; rintro e w17 ⟨v17, rfl, o17, k⟩; obtain ⟨p17, c17, rfl⟩ := own_slice_len o17; have L17 := Lib.hid (own_lies o17); replace PP := Lib.hid (PP.out.step k); clear o17 k RC)
          | (go_at_call 17; refine (HAll.out _ _ (IdxW.Ix.rd PP.out.ix)).mono ?_; rintro e w18 ⟨v18, rfl, o18, k⟩; obtain ⟨p18, c18, rfl⟩ := own_slice_len o18; have L18 := Lib.hid (own_lies o18); replace L17 := Lib.hid (L17.out.step k); replace PP := Lib.hid (PP.out.step k); clear o18 k)
          | (go_at_call 14; refine (HSR.out _ _ _ _ _ L17.out L18.out).mono ?_; rintro e w19 ⟨rfl, k⟩; replace PP := Lib.hid (PP.out.step k); clear k L17 L18)
          | (go_at_call 7; refine (IdxO.alive _).mono ?_; rintro e w20 ⟨rfl, k⟩; replace PP := Lib.hid (PP.out.step k); clear k))
        go_ret
        exact ⟨rfl, PP.out.bel⟩
theorem walk (a : Option Addr) (n c : Nat) (l : List V) (lba ep : Int) (w : World) (wl : Vers w a n l) (w1 : (Lit.int .i64 lba).wf = true) (w2 : (Lit.int .i64 ep).wf = true) :
    Calls Try.prog 3 #[.slice a n c, .int .i64 lba, .int .i64 ep] w fun e w' => e = .returned (.bool true) ∧ Below w.heap.size w w' := by
  by_cases h : 100 < n
  · exact short a n c lba ep w wl.2.1 h
  · exact long a n c l lba ep w wl (by omega)
theorem own : ownKnob Try.prog.godebug = none := by kernel_rfl
theorem laidOut : laidOutB Try.prog = true := by kernel_rfl
set_option maxRecDepth 100000 in
theorem lifted (os : Os) (started : os.Started) (H : Type) (enc : TypeId × Value → H) :
    ReturnsInHanded {} Try.checked os 3 .any (Rows.indexPlaysSpec.pre6 enc Try.prog Try.f3 Rows.indexPlaysRow.domain false) (Rows.indexPlaysSpec.post enc Try.prog Try.f3 false true false false) := by
  refine returnsInHanded_of_change (C := Try.checked) own started (by kernel_rfl) Try.func3
    (ChangeSpec.witness6 (enc := enc) (C := Try.checked) false ⟨#[], #[.slice none 0 0, .int .i64 0, .int .i64 0], []⟩ 8 (by kernel_rfl) (by kernel_rfl) (by kernel_rfl) (by kernel_rfl)) ?_
  intro W base args ds gs before hval0 hW hcnd _
  have hval : ∀ (j : Nat) t v, Try.f3.params[j]? = some t → args[j]? = some v → Value.okWide Try.prog W .any base t v := hval0
  have hW' := hW
  obtain ⟨p, q, hA0, hV, rfl, hfz, hnd⟩ := hW
  have hA : DataW.TrodAll enc Try.prog W 0 (fun _ => true) true Try.f3.params.toList args.toList ds p := hA0
  rw [Try.params3] at hA hval
  obtain ⟨v0, vs0, d0, ds0, p0, q0, hargs, rfl, rfl, h0, r0⟩ := trodAll_cons hA
  obtain ⟨v1, vs1, d1, ds1, p1, q1, rfl, rfl, rfl, h1, r1⟩ := trodAll_cons r0
  obtain ⟨v2, vs2, d2, ds2, p2, q2, rfl, rfl, rfl, h2, r2⟩ := trodAll_cons r1
  obtain ⟨rfl, rfl, rfl⟩ := trodAll_nil r2
  obtain rfl : args = #[v0, v1, v2] := by cases args; simp_all
  obtain ⟨rfl, rfl⟩ := trodVars_none hV
  have k0 := h0
  have lt0 : ∀ x ∈ p0, x.block < W.heap.size := by obtain ⟨m, hm⟩ := k0; exact DataW.trod_lt m _ _ _ hm
  obtain ⟨b0, len0, ca0, rfl⟩ := okWide_slice Try.underlying22 (hval 0 22 v0 rfl rfl)
  obtain ⟨a0, n0, cap0, z0, he0, w0⟩ := IdxY.open_vers h0
  simp only [Value.cells, List.cons.injEq, Value.slice.injEq, and_true] at he0
  obtain ⟨rfl, rfl, rfl⟩ := he0
  obtain ⟨a1, rfl, rfl, rfl, w1⟩ := open_int Try.underlying3 (hval 1 3 v1 rfl rfl) h1
  obtain ⟨a2, rfl, rfl, rfl, w2⟩ := open_int Try.underlying3 (hval 2 3 v2 rfl rfl) h2
  clear hA0 hval0
  refine (walk b0 len0 ca0 z0 a1 a2 W w0 w1 w2).mono fun e W' ⟨he, bel⟩ => ?_
  subst he
  exact ⟨_, rfl, _, _, _, [], _, [], hW', trodAll_mk1 (shut_bool Try.underlying4 _), (trodAll_cons_mk (Below.trod laidOut (by kernel_rfl) (of_decide_eq_true (by kernel_rfl)) k0 bel lt0) (trodAll_cons_mk (shut_int Try.underlying3 w1) (trodAll_cons_mk (shut_int Try.underlying3 w2) trodAll_mk0))), rfl, bel.frame _, fun h => by cases h⟩
theorem over : Rows.indexPlaysRow.holds Try.pinned (OpenSpec.ofChange Rows.indexPlaysSpec) :=
  OpenClaim.holds_of_wide 3 Try.f3 rfl rfl rfl rfl rfl rfl rfl ⟨rfl, rfl, rfl, rfl, rfl⟩ rfl rfl rfl rfl rfl (by kernel_rfl) Try.func3 (by kernel_rfl)
    (of_decide_eq_true (by kernel_rfl)) (by unfold Func.isWrapper; first | (rw [if_pos (by decide +kernel)]; kernel_rfl) | (rw [if_neg (by decide +kernel)]; exact ⟨rfl, rfl⟩))
    (fun os started H enc _ => lifted os started H enc)
/-- THE STATEMENT, proved. -/
theorem proved : Rows.IndexPlaysSaid := over
#print axioms proved
end Go.Proofs.Ytnebbbloipdnbaa.indexPlays
