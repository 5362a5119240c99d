/- ChnS ChnK ChnV: one behind the other. -/
import Derived.Test.YtkidehngleglnaaDoorLChn
import Derived.Test.YtkidehngleglnaaDoorLChf
import Derived.Test.YtkidehngleglnaaDoorChnT
import Derived.Test.YtkidehngleglnaaDoorLChy
import Derived.Deep.RegionHeld3
import Derived.OwnWalk
import Derived.Test.YtkidehngleglnaaDoorLChp
/- chain.sealed, chain.Seal: the walks of their texts. The conditions: the rounds' numbers lie in the program's variable; a row of at most 100,000 records that lies there. -/
namespace Go.Proofs.YtkidehngleglnaaDoor.ChnS
set_option linter.unusedVariables false
open Go.RowKit
open RecN RecC STurn EvoN ChnN ChnM ChnC ChnD ChnA ChnF ChnG ChnT ChnL
/-- What stands in a round: a record in its block, what has been sealed. -/
structure Now (w : World) (X : Nat) (r : Rec) (v : Value) (k : Nat) (cs : List Value) (W : World) : Prop where
  bel : Below w.heap.size w W
  bk : Bk W X r
  own : W.ownsRow w.heap.size 45 9 v k cs
theorem Now.step {w W W' : World} {X : Nat} {r : Rec} {v : Value} {k : Nat} {cs : List Value} (h : Now w X r v k cs W) (hb : Below W.heap.size W W') : Now w X r v k cs W' := ⟨h.bel.trans (hb.mono h.bel.size), h.bk.step hb, own_step h.own hb⟩
theorem Now.drew {w W : World} {X : Nat} {r : Rec} {v : Value} {k : Nat} {cs : List Value} (h : Now w X r v k cs W) : Now w X r v k cs W.drew := h.step (Below.refl _ _).drew
theorem own_apart {W : World} {base : Nat} {e : TypeId} {size : Nat} {v : Value} {n : Nat} {xs : List Value} (h : W.ownsRow base e size v n xs) {X : Nat} {cs : Array Value} {t : TypeId} (hX : W.heap[X]? = some (.cells cs t (0, 0))) (ht : t ≠ e) : v.ownBlock ≠ some X := by
  intro he
  rcases h.2 with ⟨rfl, _⟩ | ⟨g, _, cur, rfl, _, hg, _⟩
  · cases he
  · have : g = X := by simpa [Value.ownBlock] using he
    subst this
    rw [hX] at hg
    cases hg
    exact ht rfl
theorem own_base {w : World} {base B : Nat} {e : TypeId} {size : Nat} {v : Value} {n : Nat} {xs : List Value} (h : w.ownsRow base e size v n xs) (hb : B ≤ base) : w.ownsRow B e size v n xs := by
  refine ⟨h.1, ?_⟩
  rcases h.2 with hn | ⟨g, cap, cur, hv, hg, rest⟩
  · exact .inl hn
  · exact .inr ⟨g, cap, cur, hv, Nat.le_trans hb hg, rest⟩
theorem cell_new (w : World) (cs : Array Value) (t : TypeId) : Below w.heap.size w (w.alloc (.cells cs t)) := below_new w _
set_option maxRecDepth 100000 in
set_option maxHeartbeats 4000000 in
theorem sealed (root : List UInt8) (f : Int) (a : Option Addr) (n c : Nat) (l : List Rec) (w : World) (h : Lies w a (rr l)) (hl : l.length = n) (hn : n ≤ 100000) (hr : Rds w) (hk : root.length = 32) (hf : 0 ≤ f ∧ f ≤ 4294967295) (hc : chainTo f l) :
    Calls Tryd.prog 22 #[.string ⟨root.toArray⟩, .int .i64 f, .slice a n c] w fun e w' => ∃ p cp, e = .returned (.slice p n cp) ∧ w'.ownsRow w.heap.size 45 9 (.slice p n cp) n (ss (sealR root f [] l)) ∧ Below w.heap.size w w' := by
  obtain ⟨i0, hi, hz0, hz1, hz2⟩ := info_parts info_sd
  have HI := Lib.hid hi
  have HZ := Lib.hid hz0
  have HZ1 := Lib.hid hz1
  have HZ2 := Lib.hid hz2
  have HL := Lib.hid h
  have HR := Lib.hid hr
  have HC := Lib.hid hc
  have H1 := Lib.hid (fun W hr => EvoP.First root f W hr (by omega))
  rw [first_good hk hf.1 hf.2, ← key_first] at H1
  clear h hr hc hi hz0 hz1 hz2 hk
  go_enter Tryd.func22, Tryd.ntmps22
  go_wp2_with (first
    | (at_make; refine wpList_make_own w rfl _ _ 22 rfl w.heap.size 45 i0 (.agg #[.int .i64 0, .int .i64 0, .int .i64 0, .int .i64 0, .int .i64 0, .int .i64 0, .string ⟨#[]⟩, .string ⟨#[]⟩, .string ⟨#[]⟩]) 9 Tryd.underlying22 HI.out HZ.out HZ1.out .i64 .i64 (n : Int) n rfl rfl rfl (by rw [HZ2.out]; omega) (by unfold maxLen; omega) (Nat.le_refl _) ?_; intro w3 hown3 hg3; have O3 := Lib.hid hown3; have B3 := Lib.hid ((Below.refl w.heap.size w).grown hg3 (Nat.le_refl _) (fun k e => by cases e)); clear hown3 hg3)
    | (go_at_call 27; refine (H1.out _ (HR.out.step B3.out)).mono ?_; rintro e w4 ⟨rfl, hb⟩; have O4 := Lib.hid (own_step O3.out hb); have B4 := Lib.hid (B3.out.trans (hb.mono B3.out.size)); clear hb H1))
  go_loopw [7, 8, 25] (fun ov kv iv wr => ∃ (k : Nat) (p : Option Addr) (cp : Nat), k ≤ n ∧ iv = .int .i64 k ∧ ov = .slice p k cp ∧ kv = .string ⟨(keyAt root f (opn f (l.take k))).toArray⟩ ∧ wr.ownsRow w.heap.size 45 9 (.slice p k cp) k (ss (sealR root f [] (l.take k))) ∧ Below w.heap.size w wr) (fun _ _ iv _ => n - (intOf iv).toNat)
  case atStart => exact ⟨0, _, _, Nat.zero_le _, rfl, rfl, by rw [List.take_zero, opn_nil], O4.out, B4.out⟩
  case round =>
    obtain ⟨k, p, cp, hkn, rfl, rfl, rfl, ho, hb⟩ := hrel
    have HB := Lib.hid hb
    have HO := Lib.hid ho
    clear hb ho
    by_cases hlt : k < n
    · obtain ⟨g, o, rfl, hg, hc⟩ := HL.out.at8 (by omega)
      have hkl : k < l.length := by omega
      have hk8 := (hc k hkl).step hg HB.out
      obtain ⟨hri, hep⟩ := chain_take HC.out k hkl
      have HT : Hid (l.take (k + 1) = l.take k ++ [l[k]]) := Lib.hid (List.take_succ_eq_append_getElem hkl)
      have hge := opn_ge f (l.take k)
      have hsl := seal_len root f (l.take k) []
      have hsn := seal_snoc root f (l.take k) [] l[k]
      have htk := seal_ok root f (l.take k) [] (tagsOk_nil root f)
      have hlt32 := lastT_len htk
      have hop := opn_snoc f (l.take k) l[k]
      have hlk : (l.take k).length = k := by rw [List.length_take]; omega
      generalize l[k] = r at *
      rw [hlk] at hsl
      simp only [List.length_nil, Nat.zero_add] at hsl
      generalize l.take k = q at *
      generalize sealR root f [] q = P at *
      have HLa := Lib.hid (fun (W : World) (hW : W.ownsRow w.heap.size 45 9 (.slice p k cp) k (ss P)) => Last p k cp P W (own_lies hW) hsl (by unfold maxLen; omega))
      have hbn := (bounds hri).2.1
      have hsy : sayOk (lastT P) (k : Int) r := ⟨hlt32, by omega, hri⟩
      have HTg := Lib.hid (fun W hr => Tag_yes (keyAt root f (opn f q)) (lastT P) (k : Int) r W hr (key_len _ _ _) hsy)
      have htg : tagOf (keyAt root f (opn f q)) (lastT P) (k : Int) r = tg root f P r := by rw [tg, hep, hsl]
      rw [htg] at HTg
      have HNx := Lib.hid (fun W hr => EvoP.Next (keyAt root f (opn f q)) W hr)
      rw [key_next root hge] at HNx
      have HSn := Lib.hid hsn
      obtain ⟨q0, q1, q2, q3, q4, q5, q6, q7⟩ := hk8
      have p0 : (0 : Int) ≤ (k : Int) := by omega
      have p1 : (k : Int) < (n : Int) := by omega
      clear hc hsn htk hlt32 hsy htg hbn hri hge hep
      generalize lastT P = la at *
      generalize tg root f P r = t at *
      go_upto_region 6 with (refine wpList_store_row rfl 31 _ _ rfl wr.heap.size _ rfl rfl 31 _ (heap_alloc_new wr _) infoR rfl (one8 r) ?_)
      generalize hW : World.setRow _ _ _ = W4
      have b4 : Below wr.heap.size wr W4 := by rw [← hW]; exact kept_new wr _ _ _
      have g4 : Bk W4 wr.heap.size r := by rw [← hW]; exact has_new wr _ _ _
      clear hW q0 q1 q2 q3 q4 q5 q6 q7
      have SS : Hid (Now w wr.heap.size r (.slice p k cp) k (ss P) W4) := Lib.hid ⟨HB.out.trans (b4.mono HB.out.size), g4, own_step HO.out b4⟩
      clear b4 g4
      replace SS := Lib.hid SS.out.drew
      have hS := SS.out.bk.cells
      go_region_held3 (fun W' => W'.cell? ⟨wr.heap.size, 0, none⟩ = some (.int .i64 r.k) ∧ W'.cell? ⟨wr.heap.size, 1, none⟩ = some (.int .i64 r.ep) ∧ W'.cell? ⟨wr.heap.size, 2, none⟩ = some (.int .i64 r.tm) ∧ W'.cell? ⟨wr.heap.size, 3, none⟩ = some (.int .i64 r.ct) ∧ W'.cell? ⟨wr.heap.size, 4, none⟩ = some (.int .i64 r.tg) ∧ W'.cell? ⟨wr.heap.size, 5, none⟩ = some (.int .i64 r.un) ∧ W'.cell? ⟨wr.heap.size, 6, none⟩ = some (.string ⟨r.rt.toArray⟩) ∧ W'.cell? ⟨wr.heap.size, 7, none⟩ = some (.string ⟨r.nm.toArray⟩))
        (exact hS)
        (first
          | (go_at_call 17; refine (HLa.out _ SS.out.own).mono ?_; rintro e w5 ⟨rfl, hb⟩; replace SS := Lib.hid (SS.out.step hb); replace hS := SS.out.bk.cells; clear hb HLa)
          | (go_at_call 25; refine (HTg.out _ (HR.out.step SS.out.bel)).mono ?_; rintro e w6 ⟨rfl, hb⟩; replace SS := Lib.hid (SS.out.step hb); replace hS := SS.out.bk.cells; clear hb HTg))
      obtain ⟨k0, k1, k2, k3, k4, k5, k6, k7⟩ := hS
      have HAb := Lib.hid (below_new w6 (.cells #[.int .i64 (r, t).1.k, .int .i64 (r, t).1.ep, .int .i64 (r, t).1.tm, .int .i64 (r, t).1.ct, .int .i64 (r, t).1.tg, .int .i64 (r, t).1.un, .string ⟨(r, t).1.rt.toArray⟩, .string ⟨(r, t).1.nm.toArray⟩, .string ⟨(r, t).2.toArray⟩] 45))
      have HAs : Hid (Bs (w6.alloc (.cells #[.int .i64 (r, t).1.k, .int .i64 (r, t).1.ep, .int .i64 (r, t).1.tm, .int .i64 (r, t).1.ct, .int .i64 (r, t).1.tg, .int .i64 (r, t).1.un, .string ⟨(r, t).1.rt.toArray⟩, .string ⟨(r, t).1.nm.toArray⟩, .string ⟨(r, t).2.toArray⟩] 45)) w6.heap.size (r, t)) := Lib.hid (heap_alloc_new w6 _)
      have SA := Lib.hid (SS.out.step HAb.out)
      by_cases h1k : r.k = 1
      · rw [if_pos h1k] at hop
        have HOp := Lib.hid hop
        have hk1 : (r.k == 1) = true := by simp [h1k]
        clear hop h1k
        generalize hkx : keyAt root f (opn f q + 1) = kx at *
        have HKx := Lib.hid hkx
        clear hkx
        generalize keyAt root f (opn f q) = ky at *
        go_wp2_with (first
          | (at_builtin; refine append_sd _ rfl _ _ rfl w.heap.size cp k p P (r, t) hsl rfl (by omega) SA.out.bel.size w6.heap.size rfl HAs.out SA.out.own ?_; intro p7 c7 w7 ho7 hb7 hk7; have O7 := Lib.hid ho7; have B7 := Lib.hid (SA.out.bel.trans hb7); have G7 : Hid (Bk w7 wr.heap.size r) := Lib.hid ((hk7 _ (own_apart SA.out.own SA.out.bk (by decide)) SA.out.bk.lt).trans SA.out.bk); obtain ⟨k0, k1, k2, k3, k4, k5, k6, k7⟩ := G7.out.cells; clear ho7 hb7 hk7)
          | (go_at_call 28; refine (HNx.out _ (HR.out.step B7.out)).mono ?_; rintro e w8 ⟨rfl, hb⟩; have O8 := Lib.hid (own_step O7.out hb); have B8 := Lib.hid (B7.out.trans (hb.mono B7.out.size)); clear hb HNx))
        go_roundw
        case rel => exact ⟨k + 1, p7, c7, by omega, by go_num, rfl, by rw [HT.out, HOp.out, HKx.out], by rw [HT.out, HSn.out]; exact O8.out, B8.out⟩
        case measure => simp [intOf]; omega
      · rw [if_neg h1k] at hop
        have HOp := Lib.hid hop
        have hk1 : (r.k == 1) = false := by simp [h1k]
        clear hop h1k HNx
        generalize hkx : keyAt root f (opn f q) = ky at *
        have HKx := Lib.hid hkx
        clear hkx
        go_wp2_with (at_builtin; refine append_sd _ rfl _ _ rfl w.heap.size cp k p P (r, t) hsl rfl (by omega) SA.out.bel.size w6.heap.size rfl HAs.out SA.out.own ?_; intro p7 c7 w7 ho7 hb7 hk7; have O7 := Lib.hid ho7; have B7 := Lib.hid (SA.out.bel.trans hb7); have G7 : Hid (Bk w7 wr.heap.size r) := Lib.hid ((hk7 _ (own_apart SA.out.own SA.out.bk (by decide)) SA.out.bk.lt).trans SA.out.bk); obtain ⟨k0, k1, k2, k3, k4, k5, k6, k7⟩ := G7.out.cells; clear ho7 hb7 hk7)
        go_roundw
        case rel => exact ⟨k + 1, p7, c7, by omega, by go_num, rfl, by rw [HT.out, HOp.out, HKx.out], by rw [HT.out, HSn.out]; exact O7.out, B7.out⟩
        case measure => simp [intOf]; omega
    · obtain rfl : k = n := by omega
      have pk : ¬ (k : Int) < (k : Int) := by omega
      have HE : Hid (l.take k = l) := Lib.hid (List.take_of_length_le (by omega))
      go_wp2_with fail
      go_ret
      have ho := HO.out
      rw [HE.out] at ho
      exact ⟨p, cp, rfl, ho, HB.out⟩
end Go.Proofs.YtkidehngleglnaaDoor.ChnS
/- Plain mathematics of which rows are right; chain.Check: the walk of its text. The conditions: the rounds' numbers lie in the program's variable; a row of at most 100,000 that lies there. -/
namespace Go.Proofs.YtkidehngleglnaaDoor.ChnK
set_option linter.unusedVariables false
open Go.RowKit
open RecN RecC STurn EvoN ChnN ChnM ChnC ChnD ChnA ChnF ChnG ChnS ChnQ
theorem part_first {m t : List Sd} {j : Nat} (hj : j < t.length) (h : m.take j = t.take j) (hn : m[j]? ≠ t[j]?) : ChnM.partAt m t 0 = some j := by
  have at_ : ∀ {i k : Nat}, m.take k = t.take k → i < k → m[i]? = t[i]? := fun {i k} e hi => by
    have := congrArg (·[i]?) e
    simpa [List.getElem?_take, hi] using this
  cases hp : ChnM.partAt m t 0 with
  | none =>
    obtain ⟨_, h2⟩ := part_none hp
    refine absurd ?_ hn
    have := congrArg (·[j]?) h2
    simpa [List.getElem?_take, hj] using this
  | some k =>
    obtain ⟨k', e, hk, _, h4, h5⟩ := part_some hp
    rw [Nat.zero_add] at e
    subst e
    by_cases h1 : k < j
    · exact absurd (at_ h h1) h5
    · by_cases h2 : j < k
      · exact absurd (at_ h4 h2) hn
      · rw [show k = j by omega]
theorem part_same (s : List Sd) : ChnM.partAt s s 0 = none := by
  cases hp : ChnM.partAt s s 0 with
  | none => rfl
  | some k =>
    obtain ⟨_, _, _, _, _, h5⟩ := part_some hp
    exact absurd rfl h5
theorem seal_is {root : List UInt8} {f : Int} {s : List Sd} (h : tagsOk root f s) : sealR root f [] (recs s) = s := by
  have key : ∀ k, k ≤ s.length → sealR root f [] (recs (s.take k)) = s.take k := by
    intro k
    induction k with
    | zero => intro _; simp [recs, sealR]
    | succ k ih =>
      intro hk
      have e : s.take (k + 1) = s.take k ++ [s[k]] := List.take_succ_eq_append_getElem (by omega)
      have e2 : recs (s.take k ++ [s[k]]) = recs (s.take k) ++ [s[k].1] := by unfold recs; rw [List.map_append]; rfl
      rw [e, e2, seal_snoc, ih (by omega), ← h k (by omega)]
  have := key s.length (Nat.le_refl _)
  rwa [List.take_length] at this
def checkR (root : List UInt8) (f : Int) (s : List Sd) : Int × Int × Int :=
  if (mayR root f (recs s)).2.2 = 0 then
    match ChnM.partAt (sealR root f [] (recs s)) s 0 with
    | none => (opn f (recs s), (s.length : Int), 0)
    | some k => ((s.getD k (zero, [])).1.ep, (k : Int), 15)
  else mayR root f (recs s)
theorem may_rec {root : List UInt8} {f : Int} {s : List Sd} (h : okR root f (recs s)) : mayR root f (recs s) = (opn f (recs s), (s.length : Int), 0) := by rw [may_ok h, recs_len]
theorem check_none {root : List UInt8} {f : Int} {s : List Sd} (h : okR root f (recs s)) (hp : ChnM.partAt (sealR root f [] (recs s)) s 0 = none) : checkR root f s = (opn f (recs s), (s.length : Int), 0) := by
  rw [checkR, if_pos (by rw [may_rec h]), hp]
theorem check_some {root : List UInt8} {f : Int} {s : List Sd} {k : Nat} (h : okR root f (recs s)) (hp : ChnM.partAt (sealR root f [] (recs s)) s 0 = some k) (hk : k < s.length) : checkR root f s = (s[k].1.ep, (k : Int), 15) := by
  rw [checkR, if_pos (by rw [may_rec h]), hp]
  simp [List.getD, hk]
theorem check_no {root : List UInt8} {f : Int} {s : List Sd} (h : ¬ okR root f (recs s)) : checkR root f s = mayR root f (recs s) := if_neg (fun e => h (may_zero e))
/-- What is right is told so. -/
theorem check_good {root : List UInt8} {f : Int} {s : List Sd} (h : okR root f (recs s)) (ht : tagsOk root f s) : checkR root f s = (opn f (recs s), (s.length : Int), 0) :=
  check_none h (by rw [seal_is ht, part_same])
theorem check_zero {root : List UInt8} {f : Int} {s : List Sd} (h : (checkR root f s).2.2 = 0) : okR root f (recs s) ∧ tagsOk root f s := by
  by_cases ho : okR root f (recs s)
  · refine ⟨ho, ?_⟩
    cases hp : ChnM.partAt (sealR root f [] (recs s)) s 0 with
    | none =>
      obtain ⟨_, h2⟩ := part_none hp
      have hl : (sealR root f [] (recs s)).length = s.length := by rw [seal_len, recs_len]; simp
      rw [← hl, List.take_length] at h2
      rw [← h2]
      exact seal_ok root f _ [] (tagsOk_nil root f)
    | some k =>
      obtain ⟨k', e, hk, _⟩ := part_some hp
      rw [Nat.zero_add] at e
      subst e
      rw [check_some ho hp hk] at h
      exact absurd h (by simp)
  · rw [check_no ho] at h
    exact absurd (may_zero h) ho
/-- A tag that is turned is told, at its place. -/
theorem check_turned {root : List UInt8} {f : Int} {s : List Sd} {i : Nat} {t : List UInt8} (h : okR root f (recs s)) (ht : tagsOk root f s) (hi : i < s.length) (hn : t ≠ s[i].2) : checkR root f (s.set i (s[i].1, t)) = (s[i].1.ep, (i : Int), 15) := by
  have hl : i < (s.set i (s[i].1, t)).length := by simpa using hi
  have he : recs (s.set i (s[i].1, t)) = recs s := by
    unfold recs
    rw [List.map_set]
    apply List.ext_getElem
    · simp
    · intro j h1 h2
      rw [List.getElem_set]
      split
      · rename_i e; subst e; simp
      · rfl
  have := check_some (root := root) (f := f) (s := s.set i (s[i].1, t)) (k := i) (by rw [he]; exact h) (by
    rw [he, seal_is ht]
    refine part_first hl (by rw [List.take_set_of_le (Nat.le_refl _)]) ?_
    rw [List.getElem?_eq_getElem hi, List.getElem?_eq_getElem hl, List.getElem_set_self]
    intro e
    exact hn (congrArg Prod.snd (Option.some.inj e)).symm) hl
  rw [this, List.getElem_set_self]
theorem below_setCells {b : Nat} {u : World} {g : Nat} (hg : b ≤ g) : ∀ (vs : List Value) (o : Nat) (w : World), Below b u w → Below b u (w.setCells g o vs)
  | [], _, _, h => h
  | v :: vs, o, _, h => below_setCells hg vs (o + 1) _ (h.setCell hg v)
/-- The row of records as it is filled. -/
def Half (W : World) (R : Nat) (l : List Rec) (m : Nat) : Prop := ∃ zs : List Value, zs.length = m * 8 ∧ W.heap[R]? = some (.cells (rr l ++ zs).toArray 31 (0, 0))
theorem Half.step {W W' : World} {R : Nat} {l : List Rec} {m : Nat} (h : Half W R l m) (hb : Below W.heap.size W W') : Half W' R l m := by
  obtain ⟨zs, hz, hh⟩ := h
  exact ⟨zs, hz, (hb.block _ (lt_of_some hh)).trans hh⟩
theorem Half.lt {W : World} {R : Nat} {l : List Rec} {m : Nat} (h : Half W R l m) : R < W.heap.size := by
  obtain ⟨zs, hz, hh⟩ := h
  exact lt_of_some hh
theorem Half.there {W : World} {R : Nat} {l : List Rec} {m k : Nat} (h : Half W R l (m + 1)) (hk : l.length = k) : W.there R (k * 8) 8 := fun j hj => by
  obtain ⟨zs, hz, hh⟩ := h
  have hs : k * 8 + j < (rr l ++ zs).length := by rw [List.length_append, rr_len, hz, hk]; omega
  refine ⟨?_, blk_free hh⟩
  rw [blk_cell hh (u := (rr l ++ zs)[k * 8 + j]) (by simp)]
  rfl
theorem Half.set_ {W : World} {R : Nat} {l : List Rec} {m k : Nat} (h : Half W R l (m + 1)) (hk : l.length = k) (r : Rec) : Half (W.setCells R (k * 8) (rcL r)) R (l ++ [r]) m := by
  have hlz : (rcL r).length = 8 := rfl
  have he : rr (l ++ [r]) = rr l ++ rcL r := by rw [rr_app, rr_one]
  have hlr : (rr l).length = k * 8 := by rw [rr_len, hk]
  unfold Half at h ⊢
  rw [he]
  generalize rcL r = vs at *
  generalize rr l = cs at *
  obtain ⟨zs, hz, hh⟩ := h
  have := setCells_blk vs (k * 8) (cs ++ zs) W hh (by rw [List.length_append, hlr, hz, hlz]; omega)
  refine ⟨zs.drop 8, by rw [List.length_drop, hz]; omega, ?_⟩
  rw [this]
  congr 3
  rw [List.take_append_of_le_length (by omega), List.take_of_length_le (by omega), List.drop_append, List.drop_of_length_le (by omega), List.nil_append, hlr, hlz, show k * 8 + 8 - k * 8 = 8 by omega]
/-- A record stored amid a block. -/
theorem wpList_store_rec {ops : Array Oper} {rest : List Oper} {op : Oper} {a : Act} {W : World} {Q : Exit → Act → World → Prop} (hgd : op.guard = none) (x y : Operand) (ho : op.op = .store 31 x y)
    (b o : Nat) (r : Rec) (hx : a.eval x = .pointer (some ⟨b, o, none⟩)) (hy : a.eval y = .agg #[.int .i64 r.k, .int .i64 r.ep, .int .i64 r.tm, .int .i64 r.ct, .int .i64 r.tg, .int .i64 r.un, .string ⟨r.rt.toArray⟩, .string ⟨r.nm.toArray⟩]) (ht : W.there b o 8)
    (h : ∀ W', W' = W.setCells b o (rcL r) → wpList Tryd.prog ops Q rest (a.put op.dst undef) W') : wpList Tryd.prog ops Q (op :: rest) a W :=
  wpList_store_mid hgd 31 x y ho b o #[.int .i64 r.k, .int .i64 r.ep, .int .i64 r.tm, .int .i64 r.ct, .int .i64 r.tg, .int .i64 r.un, .string ⟨r.rt.toArray⟩, .string ⟨r.nm.toArray⟩] hx hy ht infoR (one8 r) (h _ rfl)
theorem Half.lies {W : World} {R : Nat} {l : List Rec} (h : Half W R l 0) : Lies W (some ⟨R, 0, none⟩) (rr l) := fun _ => by
  obtain ⟨zs, hz, hh⟩ := h
  refine ⟨R, 0, rfl, lt_of_some hh, fun j u hj => ?_⟩
  rw [Nat.zero_add]
  refine blk_cell hh ?_
  rw [List.getElem?_toArray, List.getElem?_append_left (List.getElem?_eq_some_iff.1 hj).1]
  exact hj
end Go.Proofs.YtkidehngleglnaaDoor.ChnK
/- chain.Check: the walk of its text. The conditions: the rounds' numbers lie in the program's variable; a row of at most 100,000 that lies there. -/
namespace Go.Proofs.YtkidehngleglnaaDoor.ChnV
set_option linter.unusedVariables false
open Go.RowKit
open RecN RecC STurn EvoN ChnN ChnM ChnC ChnD ChnA ChnF ChnG ChnS ChnQ ChnK
set_option maxRecDepth 100000 in
set_option maxHeartbeats 4000000 in
/-- THE CONTRACT of Check. -/
theorem Check (root : List UInt8) (f : Int) (a : Option Addr) (n c : Nat) (s : List Sd) (w : World) (h : Lies w a (ss s)) (hl : s.length = n) (hn : n ≤ 100000) (hr : Rds w) :
    Calls Tryd.prog 7 #[.string ⟨root.toArray⟩, .int .i64 f, .slice a n c] w fun e w' => e = .returned (.tuple #[.int .i64 (checkR root f s).1, .int .i64 (checkR root f s).2.1, .int .i64 (checkR root f s).2.2]) ∧ Below w.heap.size w w' := by
  obtain ⟨i0, hi, hz0, hz1, hz2⟩ := info_parts info_rec
  have HI := Lib.hid hi
  have HZ := Lib.hid hz0
  have HZ1 := Lib.hid hz1
  have HZ2 := Lib.hid hz2
  have HL := Lib.hid h
  have HR := Lib.hid hr
  have HRl := Lib.hid (recs_len s)
  clear h hr hi hz0 hz1 hz2
  go_enter Tryd.func7, Tryd.ntmps7
  go_wp2_with (at_make; refine wpList_make_full w rfl _ _ 52 rfl w.heap.size 31 i0 (.agg #[.int .i64 0, .int .i64 0, .int .i64 0, .int .i64 0, .int .i64 0, .int .i64 0, .string ⟨#[]⟩, .string ⟨#[]⟩]) 8 Tryd.underlying52 HI.out HZ.out HZ1.out .i64 .i64 (n : Int) (n : Int) n rfl rfl rfl rfl (by rw [HZ2.out]; omega) (by unfold maxLen; omega) (Nat.le_refl _) ?_; intro w3 hown3 hg3; have B3 := Lib.hid ((Below.refl w.heap.size w).grown hg3 (Nat.le_refl _) (fun k e => by cases e)); have O3 := Lib.hid hown3; clear hown3 hg3)
  have H3 : Hid (Half w3 w.heap.size (recs (s.take 0)) (n - 0)) := Lib.hid (by
    rcases O3.out.2 with ⟨e, _⟩ | ⟨g, cap, cur, hv, _, hg, _, _, hcs, _⟩
    · cases e
    · injection hv with hv1 hv2 hv3
      injection hv1 with hv1
      injection hv1 with hv1
      subst hv1 hv3
      refine ⟨cur.toList, by rw [Nat.sub_zero, Array.length_toList, hcs], ?_⟩
      rw [hg]
      congr 2)
  clear O3
  go_loopw [22] (fun iv wr => ∃ k : Nat, k ≤ n ∧ iv = .int .i64 k ∧ Half wr w.heap.size (recs (s.take k)) (n - k) ∧ Below w.heap.size w wr) (fun iv _ => n - (intOf iv).toNat)
  case atStart => exact ⟨0, Nat.zero_le _, rfl, H3.out, B3.out⟩
  case round =>
    obtain ⟨k, hk, rfl, hh, hb⟩ := hrel
    have HB := Lib.hid hb
    have HH := Lib.hid hh
    clear hb hh
    by_cases hlt : k < n
    · obtain ⟨g, o, rfl, hg, hc⟩ := HL.out.at9 (by omega)
      have hks : k < s.length := by omega
      have h9 := (hc k hks).step hg HB.out
      have e : s.take (k + 1) = s.take k ++ [s[k]] := List.take_succ_eq_append_getElem hks
      have HT : Hid (recs (s.take (k + 1)) = recs (s.take k) ++ [s[k].1]) := Lib.hid (by rw [e]; unfold recs; rw [List.map_append]; rfl)
      have hlk : (recs (s.take k)).length = k := by rw [recs_len, List.length_take]; omega
      generalize s[k] = x at *
      obtain ⟨q0, q1, q2, q3, q4, q5, q6, q7, q8⟩ := h9
      have p0 : (0 : Int) ≤ (k : Int) := by omega
      have p1 : (k : Int) < (n : Int) := by omega
      clear hc e
      go_upto_region 5 with (refine wpList_store_row rfl 45 _ _ rfl wr.heap.size _ rfl rfl 45 _ (heap_alloc_new wr _) infoS rfl (one9 x) ?_)
      generalize hW : World.setRow _ _ _ = W4
      have b4 : Below wr.heap.size wr W4 := by rw [← hW]; exact kept_new wr _ _ _
      have g4 : Bs W4 wr.heap.size x := by rw [← hW]; exact has_new wr _ _ _
      clear hW q0 q1 q2 q3 q4 q5 q6 q7 q8
      have B4 := Lib.hid (HB.out.trans (b4.mono HB.out.size))
      have h4 := HH.out.step b4
      rw [show n - k = (n - (k + 1)) + 1 by omega] at h4
      have HTh := Lib.hid (h4.there hlk)
      have HSe := Lib.hid (h4.set_ hlk x.1)
      rw [← HT.out] at HSe
      obtain ⟨k0, k1, k2, k3, k4, k5, k6, k7, k8⟩ := g4.cells
      clear b4 g4 h4
      go_wp2_with (refine wpList_store_rec rfl (.tmp 31) (.tmp 30) rfl w.heap.size (k * 8) x.1 rfl rfl HTh.out ?_; intro W5 hW5; have H5 : Hid (Half W5 w.heap.size (recs (s.take (k + 1))) (n - (k + 1)) ∧ Below w.heap.size w W5) := Lib.hid (by rw [hW5]; exact ⟨HSe.out, below_setCells (Nat.le_refl _) _ _ _ B4.out⟩); clear hW5)
      go_roundw
      case rel => exact ⟨k + 1, by omega, by go_num, H5.out.1, H5.out.2⟩
      case measure => simp [intOf]; omega
    · obtain rfl : k = n := by omega
      have pk : ¬ (k : Int) < (k : Int) := by omega
      have hh := HH.out
      rw [Nat.sub_self, ← hl, List.take_length] at hh
      have hrl : (recs s).length = k := by rw [recs_len, hl]
      have HM := Lib.hid (may root f (some ⟨w.heap.size, 0, none⟩) k k (recs s) wr hh.lies hrl (by unfold maxLen; omega))
      by_cases ho : okR root f (recs s)
      · have HSl := Lib.hid (fun W (hb : Below wr.heap.size wr W) => sealed root f (some ⟨w.heap.size, 0, none⟩) k k (recs s) W (hh.lies.step hb) hrl hn (HR.out.step (HB.out.trans (hb.mono HB.out.size))) ho.1 ho.2.1 ho.2.2.1)
        rw [may_rec ho, hl] at HM
        have hsl : (sealR root f [] (recs s)).length = k := by rw [seal_len, hrl]; simp
        have HPa := Lib.hid (fun (p : Option Addr) (cp : Nat) W (h1 : Lies W p (ss (sealR root f [] (recs s)))) (h2 : Lies W a (ss s)) => parting p cp (sealR root f [] (recs s)) a c s W h1 h2 (by rw [hsl]; unfold maxLen; omega) (by rw [hl]; unfold maxLen; omega))
        rw [hsl, hl] at HPa
        cases hp : ChnM.partAt (sealR root f [] (recs s)) s 0 with
        | none =>
          rw [par_none hp] at HPa
          have HCk := Lib.hid (check_none ho hp)
          rw [hl] at HCk
          clear ho hsl hp hh HRl H3
          generalize sealR root f [] (recs s) = S at *
          generalize opn f (recs s) = x at *
          go_wp2_with (first
            | (go_at_call 20; refine HM.out.mono ?_; rintro e w5 ⟨rfl, hb⟩; have B5 := Lib.hid hb; clear hb HM)
            | (go_at_call 22; refine (HSl.out _ B5.out).mono ?_; rintro e w6 ⟨p, cp, rfl, ho, hb⟩; have O6 := Lib.hid ho; have B6 := Lib.hid (B5.out.trans (hb.mono B5.out.size)); clear ho hb HSl)
            | (go_at_call 21; refine (HPa.out _ _ _ (own_lies O6.out) (HL.out.step (HB.out.trans (B6.out.mono HB.out.size)))).mono ?_; rintro e w7 ⟨rfl, hb⟩; have B7 := Lib.hid (B6.out.trans (hb.mono B6.out.size)); clear hb HPa))
          go_ret3
          rw [HCk.out]
          exact ⟨rfl, HB.out.trans (B7.out.mono HB.out.size)⟩
        | some j =>
          obtain ⟨j', e, hj, _⟩ := part_some hp
          rw [Nat.zero_add] at e
          subst e
          rw [par_some hp] at HPa
          have HCk := Lib.hid (check_some ho hp hj)
          obtain ⟨g, o, rfl, hg, hc⟩ := HL.out.at9 (by omega)
          have H9 := Lib.hid (fun W (hb : Below w.heap.size w W) => (hc j hj).step hg hb)
          generalize s[j] = y at *
          have hjk : j < k := by omega
          have p0 : (0 : Int) ≤ (j : Int) := by omega
          have p1 : (j : Int) < (k : Int) := by omega
          clear ho hsl hp hh HRl H3 hc
          generalize sealR root f [] (recs s) = S at *
          generalize opn f (recs s) = x at *
          go_wp2_with (first
            | (go_at_call 20; refine HM.out.mono ?_; rintro e w5 ⟨rfl, hb⟩; have B5 := Lib.hid hb; clear hb HM)
            | (go_at_call 22; refine (HSl.out _ B5.out).mono ?_; rintro e w6 ⟨p, cp, rfl, ho, hb⟩; have O6 := Lib.hid ho; have B6 := Lib.hid (B5.out.trans (hb.mono B5.out.size)); clear ho hb HSl)
            | (go_at_call 21; refine (HPa.out _ _ _ (own_lies O6.out) (HL.out.step (HB.out.trans (B6.out.mono HB.out.size)))).mono ?_; rintro e w7 ⟨rfl, hb⟩; have B7 := Lib.hid (B6.out.trans (hb.mono B6.out.size)); have B8 := Lib.hid (HB.out.trans (B7.out.mono HB.out.size)); obtain ⟨q0, q1, q2, q3, q4, q5, q6, q7, q8⟩ := H9.out _ B8.out; clear hb HPa))
          go_ret3
          rw [HCk.out]
          exact ⟨rfl, B8.out⟩
      · have HCk := Lib.hid (check_no ho)
        have hz : ((mayR root f (recs s)).2.2 != 0) = true := by
          rw [bne_iff_ne]
          exact fun e => ho (may_zero e)
        clear ho hh HRl H3
        generalize mayR root f (recs s) = z at *
        obtain ⟨z1, z2, z3⟩ := z
        dsimp only at hz HM
        go_wp2_with (go_at_call 20; refine HM.out.mono ?_; rintro e w5 ⟨rfl, hb⟩; have B5 := Lib.hid hb; clear hb HM)
        go_ret3
        rw [HCk.out]
        exact ⟨rfl, HB.out.trans (B5.out.mono HB.out.size)⟩
end Go.Proofs.YtkidehngleglnaaDoor.ChnV
