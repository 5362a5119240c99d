/- disk.Load: the walk of its text. No conditions but those that each lemma names. -/
import Derived.Test.YtofpflkkbkodaaaDkV
import Derived.Test.YtofpflkkbkodaaaDkDb
namespace Go.Proofs.Ytofpflkkbkodaaa.DkX
open Go.RowKit
open DkN DkM DkQ DkC DkV DkNew
def natPuts (l : List (Int × ByteArray)) : List (Nat × ByteArray) := l.map fun x => (x.1.toNat, x.2)
theorem natPuts_length (l : List (Int × ByteArray)) : (natPuts l).length = l.length := List.length_map ..
/-- The disk that an image makes. -/
def held (bl : List ByteArray) (ca : List (Int × ByteArray)) : Dk := { bl := bl, ca := natPuts ca, armed := 0, down := false }
theorem putB_yes {n : Nat} {x : Int × ByteArray} (h : putB n x = true) : 0 ≤ x.1 ∧ x.1 < (n : Int) ∧ x.2.size = 4096 := by
  have h := of_decide_eq_true h
  unfold noB hasB at h
  by_cases hi : 0 ≤ x.1 ∧ x.1 < (n : Int)
  · by_cases hs : x.2.size = 4096
    · exact ⟨hi.1, hi.2, hs⟩
    · simp [hi, hs] at h
  · simp [hi] at h
theorem may_parts {bl : List ByteArray} {ca : List (Int × ByteArray)} (h : mayB bl ca = true) : (8 ≤ bl.length ∧ bl.length ≤ 1024 ∧ ca.length ≤ 4096) ∧ (∀ s ∈ bl, s.size = 4096) ∧ ∀ x ∈ ca, 0 ≤ x.1 ∧ x.1 < (bl.length : Int) ∧ x.2.size = 4096 := by
  unfold mayB at h
  rw [Bool.and_eq_true, Bool.and_eq_true, List.all_eq_true, List.all_eq_true] at h
  exact ⟨of_decide_eq_true h.1, fun s hs => of_decide_eq_true (h.2.1 s hs), fun x hx => putB_yes (h.2.2 x hx)⟩
theorem held_ok {bl : List ByteArray} {ca : List (Int × ByteArray)} (h : mayB bl ca = true) : (held bl ca).ok := by
  obtain ⟨⟨h1, h2, h3⟩, h4, h5⟩ := may_parts h
  refine ⟨h1, h2, h4, by rw [show (held bl ca).ca = natPuts ca from rfl, natPuts_length]; exact h3, fun x hx => ?_, Nat.zero_le _⟩
  obtain ⟨y, hy, rfl⟩ := List.mem_map.1 hx
  obtain ⟨q1, q2, q3⟩ := h5 y hy
  exact ⟨by show y.1.toNat < bl.length; omega, q3⟩
theorem puts_of {w : World} {a : Option Addr} {l : List (Int × ByteArray)} (h : RRow w a l) (hB : ∀ x ∈ l, 0 ≤ x.1) : PutRow w a (natPuts l) := by
  intro hl
  rw [natPuts_length] at hl
  obtain ⟨g, o, e, hg, hc⟩ := h hl
  refine ⟨g, o, e, hg, fun k hk => ?_⟩
  have hk' : k < l.length := by rwa [natPuts_length] at hk
  have e' : (natPuts l)[k] = (l[k].1.toNat, l[k].2) := List.getElem_map ..
  have h0 := hB _ (List.getElem_mem hk')
  rw [e']
  refine ⟨?_, (hc k hk').2⟩
  rw [(hc k hk').1]
  show _ = some (Value.int .i64 ((l[k].1.toNat : Nat) : Int))
  rw [show ((l[k].1.toNat : Nat) : Int) = l[k].1 by omega]
/-- A disk's own block around copied rows. -/
theorem fresh_copied {w w1 : World} {D : Dk} (hok : D.ok) (h0 : D.armed = 0) (h1 : D.down = false) {v u : Value} (hv : w1.ownsRow w.heap.size 9 1 v D.bl.length (D.bl.map Value.string)) (hu : w1.ownsRow w.heap.size 76 2 u D.ca.length (putCells D.ca)) (hb : Below w.heap.size w w1) :
    Fresh false D w w1.heap.size v u (w1.alloc (.cells #[v, u, .int .i64 0, .bool false] 58)) := by
  refine ⟨⟨hok, ?_, own_base (hv.alloc _) (Nat.zero_le _), own_base (hu.alloc _) (Nat.zero_le _)⟩, hb.alloc hb.size _, fun k hk => ?_⟩
  · have := heap_alloc_new w1 (.cells #[v, u, .int .i64 0, .bool false] 58)
    rw [this]
    unfold headObj
    rw [h0, h1]
    rfl
  · rcases hk with rfl | hk | hk
    · exact hb.size
    · exact (hv.lt k hk).1
    · exact (hu.lt k hk).1
/-- What Load leaves. -/
def Loaded (D : Dk) (w : World) (e : Ending) (w' : World) : Prop := ∃ b bv cv, e = .returned (.tuple #[.pointer (some ⟨b, 0, none⟩), .int .i64 0]) ∧ Fresh false D w b bv cv w'
theorem ptr2 (w : World) (X Y : Obj) (b i : Nat) (v : Value) (cs : Array Value) (t : TypeId) (hY : Y = .cells cs t) (hb : b = w.heap.size + 1) (hi : cs[i]? = some v) : ((w.alloc X).alloc Y).cell? ⟨b, i, none⟩ = some v := by
  subst hY hb
  have := heap_alloc_new (w.alloc X) (.cells cs t)
  rw [World.size_alloc] at this
  exact blk_cell this hi
set_option maxRecDepth 100000 in
theorem Load_no (c c' : Nat) (a a' : Option Addr) (bl : List ByteArray) (ca : List (Int × ByteArray)) (w : World) (hs : StrRow w a bl) (hp : RRow w a' ca) (hm : mayB bl ca = false) :
    Calls Try.prog 15 #[.agg #[.slice a bl.length c, .slice a' ca.length c']] w fun e w' => e = .returned (.tuple #[.pointer none, .int .i64 2]) ∧ Below w.heap.size w w' := by
  have hb2 : Below w.heap.size w ((w.alloc (.cells #[.slice a bl.length c, .slice a' ca.length c'] 39)).alloc (.cells #[.slice a bl.length c, .slice a' ca.length c'] 56)) := ((Below.refl _ _).alloc (Nat.le_refl _) _).alloc (by simp) _
  have HM := Lib.hid (mayBe (w.heap.size + 1) c c' a a' bl ca _ (ptr2 w _ _ _ 0 _ _ _ rfl rfl rfl) (ptr2 w (.cells #[.slice a bl.length c, .slice a' ca.length c'] 39) (.cells #[.slice a bl.length c, .slice a' ca.length c'] 56) _ 1 _ _ _ rfl rfl rfl) (StrRow.below hs hb2) (hp.below hb2))
  rw [hm] at HM
  have HB := Lib.hid hb2
  clear hs hp hm hb2
  generalize bl.length = n at *
  generalize ca.length = m at *
  go_enter Try.func15, Try.ntmps15
  go_wp2_with fail
  refine (HM.out).mono ?_
  rintro e w1 ⟨rfl, hb1⟩
  have HB1 := Lib.hid (HB.out.trans (hb1.mono HB.out.size))
  clear hb1
  go_wp2
  go_ret2
  exact ⟨rfl, HB1.out⟩
set_option maxRecDepth 100000 in
set_option maxHeartbeats 1000000 in
theorem Load_yes (c c' : Nat) (a a' : Option Addr) (bl : List ByteArray) (ca : List (Int × ByteArray)) (w : World) (hs : StrRow w a bl) (hp : RRow w a' ca) (hm : mayB bl ca = true) :
    Calls Try.prog 15 #[.agg #[.slice a bl.length c, .slice a' ca.length c']] w (Loaded (held bl ca) w) := by
  have hb2 : Below w.heap.size w ((w.alloc (.cells #[.slice a bl.length c, .slice a' ca.length c'] 39)).alloc (.cells #[.slice a bl.length c, .slice a' ca.length c'] 56)) := ((Below.refl _ _).alloc (Nat.le_refl _) _).alloc (by simp) _
  have k0 := ptr2 w (.cells #[.slice a bl.length c, .slice a' ca.length c'] 39) (.cells #[.slice a bl.length c, .slice a' ca.length c'] 56) (w.heap.size + 1) 0 _ _ _ rfl rfl rfl
  have k1 := ptr2 w (.cells #[.slice a bl.length c, .slice a' ca.length c'] 39) (.cells #[.slice a bl.length c, .slice a' ca.length c'] 56) (w.heap.size + 1) 1 _ _ _ rfl rfl rfl
  have hsz : ((w.alloc (.cells #[.slice a bl.length c, .slice a' ca.length c'] 39)).alloc (.cells #[.slice a bl.length c, .slice a' ca.length c'] 56)).heap.size = w.heap.size + 2 := by simp
  have HM := Lib.hid (mayBe (w.heap.size + 1) c c' a a' bl ca _ k0 k1 (StrRow.below hs hb2) (hp.below hb2))
  rw [hm] at HM
  obtain ⟨⟨l1, l2, l3⟩, _, l5⟩ := may_parts hm
  have hp2 := puts_of hp (fun x hx => (l5 x hx).1)
  have HC : Hid (∀ W, Below ((w.alloc (.cells #[.slice a bl.length c, .slice a' ca.length c'] 39)).alloc (.cells #[.slice a bl.length c, .slice a' ca.length c'] 56)).heap.size ((w.alloc (.cells #[.slice a bl.length c, .slice a' ca.length c'] 39)).alloc (.cells #[.slice a bl.length c, .slice a' ca.length c'] 56)) W → Calls Try.prog 43 #[.pointer (some ⟨w.heap.size + 1, 0, none⟩)] W (Copied bl (natPuts ca) W)) := Lib.hid fun W hW => by
    have hW0 : Below w.heap.size w W := hb2.trans (hW.mono hb2.size)
    refine copied_any (w.heap.size + 1) c c' a a' bl (natPuts ca) W ((hW.cell (p := ⟨w.heap.size + 1, 0, none⟩) (show w.heap.size + 1 < _ by rw [hsz]; omega)).trans k0) ?_ (StrRow.below hs hW0) (PutRow.below hp2 hW0) (by omega) (by rw [natPuts_length]; omega)
    rw [natPuts_length]
    exact (hW.cell (p := ⟨w.heap.size + 1, 1, none⟩) (show w.heap.size + 1 < _ by rw [hsz]; omega)).trans k1
  have HOk := Lib.hid (held_ok hm)
  have HB := Lib.hid hb2
  clear hs hp hm hb2 hp2 l1 l2 l3 l5 k0 k1 hsz
  generalize bl.length = n at *
  generalize ca.length = m at *
  go_enter Try.func15, Try.ntmps15
  go_wp2_with fail
  refine (HM.out).mono ?_
  rintro e w1 ⟨rfl, hb1⟩
  have HB1 := Lib.hid (HB.out.trans (hb1.mono HB.out.size))
  have HB1' := Lib.hid hb1
  clear hb1
  go_wp2_with fail
  refine (HC.out _ HB1'.out).mono ?_
  rintro e w2 ⟨v, u, rfl, hv, hu, _, hb2⟩
  obtain ⟨va, vl, vc, rfl⟩ := own_slice hv
  obtain ⟨ua, ul, uc, rfl⟩ := own_slice hu
  have HF := Lib.hid (fresh_copied (w := w) (D := held bl ca) HOk.out rfl rfl (own_base hv HB1.out.size) (own_base hu HB1.out.size) (HB1.out.trans (hb2.mono HB1.out.size)))
  clear hv hu hb2
  go_wp2
  go_ret2
  exact ⟨_, _, _, rfl, HF.out⟩
end Go.Proofs.Ytofpflkkbkodaaa.DkX
