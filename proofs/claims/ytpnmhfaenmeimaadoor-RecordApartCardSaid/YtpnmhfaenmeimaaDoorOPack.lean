/- What octet.Pack answers, for slices of at most 10,000 numbers: the walk of its text. -/
import Derived.Test.YtpnmhfaenmeimaaDoorOFirst
import Derived.Test.YtpnmhfaenmeimaaDoorOPackF
namespace Go.Proofs.YtpnmhfaenmeimaaDoor.OPack
open Go.RowKit
/-- What stands ahead of the closure's i-th call. -/
def I (B : Nat) (aw al : Option Addr) (n cw cl : Nat) (ws ls : List Int) (w : World) (i : Nat) (W : World) : Prop :=
  okTo ws ls i ∧ W.heap[B]? = some (.cells #[.slice aw n cw] 42 (0, 0)) ∧ W.heap[B + 1]? = some (.cells #[.slice al n cl] 42 (0, 0)) ∧
  (∃ v, W.heap[B + 2]? = some (.cells #[v] 57 (0, 0)) ∧ W.ownsRow (B + 3) 5 1 v (packTo ws ls i).length (Lib.strCells ⟨(packTo ws ls i).toArray⟩)) ∧ Below B w W
/-- What stands where an error was told. -/
def Bad (B n : Nat) (ws ls : List Int) (w : World) (c : Int) (W : World) : Prop := c = 2 ∧ ¬ okTo ws ls n ∧ Below B w W
theorem step (aw al : Option Addr) (n cw cl : Nat) (ws ls : List Int) (w : World) (hw : Row w w.heap.size aw n ws) (hl : Row w w.heap.size al n ls) (hn : n ≤ 10000) (i : Nat) (W : World) (hi : i < n)
    (h : I w.heap.size aw al n cw cl ws ls w i W) :
    Calls Tryd.prog 36 #[.int .i64 i, .pointer (some ⟨w.heap.size + 1, 0, none⟩), .pointer (some ⟨w.heap.size, 0, none⟩), .pointer (some ⟨w.heap.size + 2, 0, none⟩)] W
      (OFirst.Step (I w.heap.size aw al n cw cl ws ls w) (Bad w.heap.size n ws ls w) i) := by
  obtain ⟨hok, hb0, hb1, ⟨v, hb2, hown⟩, hbel⟩ := h
  obtain ⟨b1, o1, rfl, hlt1, hc1⟩ := (hw.below hbel).2 (by omega)
  obtain ⟨b2, o2, rfl, hlt2, hc2⟩ := (hl.below hbel).2 (by omega)
  have hlen := packTo_length ws ls i
  refine (OPackF.any w.heap.size b1 o1 cw b2 o2 cl i n _ (ls.getD i 0) (ws.getD i 0) v (packTo ws ls i) W (blk_cell hb0 rfl) (blk_cell hb1 rfl) hi (hc2 i hi) (hc1 i hi) hb2 hown (by omega)).mono ?_
  rintro e w1 ⟨v', rfl, h2, hown', hbel'⟩
  refine ⟨_, rfl, ?_⟩
  by_cases hz : (put (ls.getD i 0) (ws.getD i 0)).2 = 0
  · refine .inl ⟨hz, okTo_next hok hz, (hbel'.block _ (by omega)).trans hb0, (hbel'.block _ (by omega)).trans hb1, ⟨v', h2, ?_⟩, hbel.trans (hbel'.mono (by omega))⟩
    have := hown'
    rw [← List.length_append] at this
    exact this
  · refine .inr ⟨hz, by rw [put_no _ _ hz], fun hall => hz (hall i hi), hbel.trans (hbel'.mono (by omega))⟩
theorem other (aw al : Option Addr) (nw nl cw cl : Nat) (w : World) (h : ((nl : Int) != (nw : Int)) = true) :
    Calls Tryd.prog 18 #[.slice aw nw cw, .slice al nl cl] w fun e w' => e = .returned (.tuple #[.string ⟨#[]⟩, .int .i64 2]) ∧ Below w.heap.size w w' := by
  have hb : Below w.heap.size w ((w.alloc (.cells #[.slice aw nw cw] 42)).alloc (.cells #[.slice al nl cl] 42)) :=
    ((Below.refl _ _).alloc (Nat.le_refl _) _).alloc (by simp) _
  go_enter Tryd.func18, Tryd.ntmps18
  go_wp2_with fail
  go_ret2
  exact ⟨rfl, hb⟩
theorem same (aw al : Option Addr) (n cw cl : Nat) (ws ls : List Int) (w : World) (hw : Row w w.heap.size aw n ws) (hl : Row w w.heap.size al n ls) (hn : n ≤ 10000) :
    Calls Tryd.prog 18 #[.slice aw n cw, .slice al n cl] w fun e w' => e = .returned (.tuple #[.string ⟨(pack ws ls).1.toArray⟩, .int .i64 (pack ws ls).2]) ∧ Below w.heap.size w w' := by
  have hmf : ∀ (fn : Fn) (first cap : Array Value) (w : World), (Instr.makeFunc fn first cap).run Tryd.prog w = .ok (.func fn first cap) w := fun _ _ _ _ => rfl
  have hs := Lib.hid (fun i W => step aw al n cw cl ws ls w hw hl hn i W)
  have hlw : ws.length = n := hw.1
  have hll : ls.length = n := hl.1
  have H1 := Lib.hid hlw
  have H2 := Lib.hid hll
  clear hlw hll hw hl
  have h0 : I w.heap.size aw al n cw cl ws ls w 0 (((w.alloc (.cells #[.slice aw n cw] 42)).alloc (.cells #[.slice al n cl] 42)).alloc (.cells #[.slice none 0 0] 57)) := by
    refine ⟨fun j hj => absurd hj (by omega), ?_, ?_, ⟨.slice none 0 0, ?_, ?_⟩, (((Below.refl _ _).alloc (Nat.le_refl _) _).alloc (by simp) _).alloc (by simp; omega) _⟩
    · rw [Below.heap_alloc _ _ _ (by simp; omega), Below.heap_alloc _ _ _ (by simp)]; exact heap_alloc_new w _
    · rw [Below.heap_alloc _ _ _ (by simp)]
      have := heap_alloc_new (w.alloc (.cells #[.slice aw n cw] 42)) (.cells #[.slice al n cl] 42)
      simpa using this
    · have := heap_alloc_new ((w.alloc (.cells #[.slice aw n cw] 42)).alloc (.cells #[.slice al n cl] 42)) (.cells #[.slice none 0 0] 57)
      simpa using this
    · exact World.ownsRow_nil _ _ _ _
  have H0 := Lib.hid h0
  clear h0
  go_enter Tryd.func18, Tryd.ntmps18
  go_wp2_with fail
  refine (OFirst.over_pack n (by omega) _ _ _ _ _ hs.out _ H0.out).mono ?_
  rintro e w1 hpost
  rcases hpost with ⟨rfl, hI⟩ | ⟨c, hne, rfl, hB⟩
  · obtain ⟨hok, _, _, ⟨v, hb2, hown⟩, hbel⟩ := hI
    have hp : pack ws ls = (packTo ws ls n, 0) := by
      rw [pack, if_pos ⟨by rw [H1.out, H2.out], by rw [H2.out]; exact hok⟩, H2.out]
    obtain ⟨a', n', c', rfl⟩ := own_slice hown
    have hcv := conv_own (P := Tryd.prog) (src := 57) (dst := 9) Tryd.underlying57 Tryd.underlying5 Tryd.underlying9 hown
    have hc2 := blk_cell (i := 0) hb2 rfl
    have HP := Lib.hid hp
    clear hp hown hb2 hok
    go_wp2_with fail
    go_ret2
    exact ⟨by rw [HP.out]; rfl, hbel⟩
  · obtain ⟨rfl, hbad, hbel⟩ := hB
    have hp : pack ws ls = ([], 2) := by
      rw [pack, if_neg (fun h => hbad (by have := h.2; rw [H2.out] at this; exact this))]
    have HP := Lib.hid hp
    clear hp hbad hne
    go_wp2_with fail
    go_ret2
    exact ⟨by rw [HP.out]; rfl, hbel⟩
/-- THE CONTRACT of octet.Pack. -/
theorem any (aw al : Option Addr) (nw nl cw cl : Nat) (ws ls : List Int) (w : World) (hw : Row w w.heap.size aw nw ws) (hl : Row w w.heap.size al nl ls) (hn : nl ≤ 10000) :
    Calls Tryd.prog 18 #[.slice aw nw cw, .slice al nl cl] w fun e w' => e = .returned (.tuple #[.string ⟨(pack ws ls).1.toArray⟩, .int .i64 (pack ws ls).2]) ∧ Below w.heap.size w w' := by
  by_cases h : nl = nw
  · subst h
    exact same aw al nl cw cl ws ls w hw hl hn
  · have hp : pack ws ls = ([], 2) := by
      rw [pack, if_neg (fun hh => h (by rw [← hl.1, ← hw.1]; exact hh.1.symm))]
    rw [hp]
    exact other aw al nw nl cw cl w (by rw [bne_iff_ne]; omega)
end Go.Proofs.YtpnmhfaenmeimaaDoor.OPack
