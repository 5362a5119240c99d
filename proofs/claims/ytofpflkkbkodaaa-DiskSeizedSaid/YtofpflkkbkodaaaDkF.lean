/- The program's disk: Flush and Crash: the walks of their texts; a map of numbers, made, filled and asked. No conditions but those that each lemma names. -/
import Derived.Test.YtofpflkkbkodaaaDkT
import Derived.Maps.OwnSet
namespace Go.Proofs.Ytofpflkkbkodaaa.DkF
open Go.RowKit
open DkN DkM DkQ DkS DkT
theorem flush1 (i : Int) (W : World) : Calls Try.prog 50 #[.int .i64 i] W fun e w' => e = .returned (.bool true) ∧ Below W.heap.size W w' := by
  go_enter Try.func50, Try.ntmps50
  go_wp2
  go_ret
  exact ⟨rfl, Below.refl _ _⟩
set_option maxRecDepth 100000 in
theorem Flush {w : World} {b : Nat} {bv cv : Value} {D : Dk} (h : Has false w b bv cv D) :
    Calls Try.prog 19 #[.pointer (some ⟨b, 0, none⟩)] w fun e w' => e = .returned (.int .i64 (D.flush.1 : Nat)) ∧ Did false w b bv cv D.flush.2 w' := by
  have HR := Lib.hid (ready h)
  by_cases hd : D.down = true
  · have e : D.flush = (14, D) := by unfold Dk.flush; rw [if_pos hd]
    rw [e]
    rw [if_pos hd] at HR
    have HD := Lib.hid h.same
    clear h hd e
    go_enter Try.func19, Try.ntmps19
    go_wp2_with (go_at_call 47; refine (HR.out).mono ?_; rintro e w' ⟨rfl, rfl⟩)
    go_ret
    exact ⟨rfl, HD.out⟩
  · rw [if_neg hd] at HR
    have HS := Lib.hid (DkS.step h (by simpa using hd))
    by_cases ha : D.armed = 1
    · have e : D.flush = (14, D.tick) := by unfold Dk.flush; rw [if_neg hd, if_pos ha]
      rw [e]
      rw [if_pos (decide_eq_true ha)] at HS
      clear h hd e ha
      generalize D.tick = T at *
      go_enter Try.func19, Try.ntmps19
      go_wp2_with (first
        | (go_at_call 47; refine (HR.out).mono ?_; rintro e w' ⟨rfl, rfl⟩)
        | (go_at_call 48; refine (HS.out).mono ?_; rintro e w1 ⟨rfl, hd1⟩; have HD := Lib.hid hd1; clear hd1))
      go_ret
      exact ⟨rfl, HD.out⟩
    · have e : D.flush = (0, { D.tick with bl := kset (fun _ => true) 0 D.tick.ca D.tick.bl, ca := [] }) := by unfold Dk.flush; rw [if_neg hd, if_neg ha]; rfl
      rw [e]
      rw [if_neg (by simpa using ha)] at HS
      clear h hd e ha
      generalize D.tick = T at *
      go_enter Try.func19, Try.ntmps19
      go_wp2_with (first
        | (go_at_call 47; refine (HR.out).mono ?_; rintro e w' ⟨rfl, rfl⟩)
        | (go_at_call 48; refine (HS.out).mono ?_; rintro e w1 ⟨rfl, cv1, hh1, hn1, hk1⟩; have HN := Lib.hid hn1; have HK := Lib.hid hk1; have HH := Lib.hid hh1; clear hn1 hk1 hh1)
        | (go_at_call 49; refine (settle_any HH.out 50 #[] (fun _ => true) (fun _ _ => rfl) (fun i W _ _ => flush1 _ W)).mono ?_; rintro e w2 ⟨rfl, hd2⟩; have HD := Lib.hid hd2; clear hd2))
      go_ret
      exact ⟨rfl, Did.then_ HH.out HN.out HK.out HD.out⟩
/-! The map of the kept numbers. -/
open Go.Maps
def lits (l : List Int) : List Lit := l.map (Lit.int .i64)
/-- The map in block M has the numbers of the row. -/
def Kept_ (w : World) (M n : Nat) (l : List Int) : Prop := w.ownsMap Try.prog 3 (unitElem (H := Unit)) M n (Maps.setOf (.agg []) (lits l))
theorem has_lits (l : List Int) (i : Int) : Maps.has (Maps.setOf (H := Unit) (.agg []) (lits l)) (.int .i64 i) = decide (i ∈ l) := by
  rw [Maps.has_setOf _ _ _ (fun x hx => by obtain ⟨y, _, rfl⟩ := List.mem_map.1 hx; trivial)]
  rw [Bool.eq_iff_iff]
  simp only [lits, List.any_map, List.any_eq_true, Function.comp, Lit.sameKey, decide_eq_true_eq, true_and]
  exact ⟨fun ⟨x, h, e⟩ => e ▸ h, fun h => ⟨i, h, rfl⟩⟩
theorem lits_next (l : List Int) (k : Nat) (h : k < l.length) : lits (l.take (k + 1)) = lits (l.take k) ++ [.int .i64 (l.getD k 0)] := by
  rw [List.take_succ_eq_append_getElem h, lits, List.map_append]
  simp [lits, List.getD, h]
theorem map_block {P : Program} {k : TypeId} {R : Value → Option (DataW Unit × List MemPlace)} {w w' : World} {b n : Nat} {D : DataW Unit} (h : w.ownsMap P k R b n D) (e : w'.heap[b]? = w.heap[b]?) : w'.ownsMap P k R b n D := by
  obtain ⟨es, clock, hb, r⟩ := h
  exact ⟨es, clock, e.trans hb, r⟩
theorem law : Keyed Try.prog 3 := int_keyed Try.underlying3
theorem zero81 (w : World) : (zeroValue 81).run Try.prog w = .ok (.agg #[]) w := by kernel_rfl
theorem wf_int {x : Int} (h : IsInt x) : (Lit.int .i64 x).wf = true := WalkArith.wf_i64 ⟨by have := h.1; omega, by have := h.2; omega⟩
set_option maxRecDepth 100000 in
theorem crash1 (P M n : Nat) (l : List Int) (i : Int) (W : World) (hP : W.cell? ⟨P, 0, none⟩ = some (.map (some M))) (hM : Kept_ W M n l) (hi : IsInt i) :
    Calls Try.prog 52 #[.int .i64 i, .pointer (some ⟨P, 0, none⟩)] W fun e w' => e = .returned (.bool (decide (i ∈ l))) ∧ Below W.heap.size W w' := by
  have HK := Lib.hid (keyOf_int_mk Try.underlying3 (wf_int hi))
  have HL := Lib.hid (has_lits l i)
  have HM := Lib.hid hM
  clear hM hi
  generalize decide (i ∈ l) = q at *
  go_enter Try.func52, Try.ntmps52
  go_wp2_with (at_lookup; refine wpList_lookup_own_unit _ rfl _ _ 80 rfl 3 81 law Try.underlying80 (zero81 _) M n _ rfl HM.out _ _ rfl HK.out ?_; rw [HL.out])
  go_ret
  exact ⟨rfl, (Below.refl _ _).alloc (Nat.le_refl _) _⟩
theorem set3 {w : World} {b : Nat} {bv cv : Value} {D : Dk} (h : Has false w b bv cv D) :
    Has false (w.setCell ⟨b, 3, none⟩ (.bool true)) b bv cv { D with down := true } := by
  refine h.rehead ?_ (fun k hk => set_cell_block hk) rfl rfl ⟨h.ok.lo, h.ok.hi, h.ok.full, h.ok.few, h.ok.good, h.ok.arm⟩
  exact (blk_set h.head).trans rfl
theorem did_set3 {w w' : World} {b : Nat} {bv cv : Value} {D : Dk} (h : Did false w b bv cv D w') : w'.cell? ⟨b, 3, none⟩ = some (.bool D.down) ∧ w'.frozen? ⟨b, 3, none⟩ = false ∧ Did false w b bv cv { D with down := true } (w'.setCell ⟨b, 3, none⟩ (.bool true)) := by
  obtain ⟨c, h1, n1, k1⟩ := h
  exact ⟨h1.d3, h1.free 3, c, set3 h1, n1, k1.set_ (.inl rfl) _ _⟩
set_option maxRecDepth 100000 in
set_option maxHeartbeats 1000000 in
/-- THE CONTRACT of Crash. -/
theorem Crash {w : World} {b : Nat} {bv cv : Value} {D : Dk} (h : Has false w b bv cv D) (ka : Option Addr) (kn kc : Nat) (keep : List Int) (hr : Row w w.heap.size ka kn keep) (hi : ∀ x ∈ keep, IsInt x) (hn : kn ≤ maxLen) :
    Calls Try.prog 23 #[.pointer (some ⟨b, 0, none⟩), .slice ka kn kc] w fun e w' => e = .returned (.int .i64 0) ∧ Did false w b bv cv (D.crash keep) w' := by
  have H := Lib.hid (isNone h)
  have HH := Lib.hid h
  have HR := Lib.hid hr
  have HI := Lib.hid hi
  have hmm := @run_makeMap Try.prog
  have hlen := hr.1
  have HN : Hid (kn ≤ maxLen) := Lib.hid hn
  unfold maxLen at hn
  have HLen := Lib.hid hlen
  clear h hr hi hlen
  go_enter Try.func23, Try.ntmps23
  go_wp2_with (go_at_call 46; refine (H.out).mono ?_; rintro e w' ⟨rfl, rfl⟩)
  go_loopw [13] (fun i wr => ∃ k : Nat, k ≤ kn ∧ i = .int .i64 k ∧ Kept_ wr w.heap.size k (keep.take k) ∧ wr.heap[w.heap.size + 1]? = some (.cells #[.map (some w.heap.size)] 80 (0, 0)) ∧ Below w.heap.size w wr) (fun i _ => kn - (intOf i).toNat)
  case atStart =>
    refine ⟨0, Nat.zero_le _, rfl, ?_, ?_, ?_⟩
    · exact World.ownsMap.alloc (World.ownsMap_made _ _ _ _) _
    · have := heap_alloc_new (w.alloc (.map #[] 0)) (.cells #[.map (some w.heap.size)] 80)
      rw [World.size_alloc] at this
      exact this
    · exact ((Below.refl _ _).alloc (Nat.le_refl _) _).alloc (by simp) _
  case round =>
    obtain ⟨k, hk, rfl, hmap, hbox, hbel⟩ := hrel
    have HM := Lib.hid hmap
    have HB := Lib.hid hbel
    have HX := Lib.hid hbox
    have cP : wr.cell? ⟨w.heap.size + 1, 0, none⟩ = some (.map (some w.heap.size)) := blk_cell hbox rfl
    clear hmap hbel hbox
    by_cases hlt : k < kn
    · obtain ⟨g, o, rfl, hg, hc⟩ := HR.out.2 (by omega)
      have hcell : wr.cell? ⟨g, o + k, none⟩ = some (.int .i64 (keep.getD k 0)) := (HB.out.cell (p := ⟨g, o + k, none⟩) hg).trans (hc k hlt)
      have HK := Lib.hid (keyOf_int_mk Try.underlying3 (wf_int (getD_isInt HI.out k)))
      have HS := Lib.hid (lits_next keep k (by rw [HLen.out]; exact hlt))
      clear hc
      generalize keep.getD k 0 = x at *
      have hkm : k < maxLen := Nat.lt_of_lt_of_le hlt HN.out
      have HKM := Lib.hid hkm
      clear hkm
      go_wp2_with (at_mapUpdate; refine wpList_mapUpdate_own _ rfl _ _ _ 80 rfl 3 81 law Try.underlying80 (unitElem (H := Unit)) w.heap.size k _ rfl HM.out HKM.out _ _ _ rfl rfl HK.out (.agg []) [] unitElem_mk ?_; intro w1 hown1 hgrow1)
      go_roundw
      case rel =>
        refine ⟨k + 1, by omega, by go_num, ?_, ?_, ?_⟩
        · rw [Kept_, HS.out, Maps.setOf_snoc]; exact hown1
        · rw [hgrow1.block _ (Array.getElem?_eq_some_iff.1 HX.out).1 (by simp)]; exact HX.out
        · exact HB.out.grown hgrow1 HB.out.size (fun k e => by cases e; exact Nat.le_refl _)
      case measure => simp [intOf]; omega
    · obtain rfl : k = kn := by omega
      rw [List.take_of_length_le (by rw [HLen.out]; exact Nat.le_refl _)] at HM
      have HHR := Lib.hid (HH.out.step HB.out)
      have HC : Hid (∀ (i : Nat) (W : World), i < D.ca.length → Kept (Foot b bv cv) wr W → Calls Try.prog 52 (#[.int .i64 i] ++ #[.pointer (some ⟨w.heap.size + 1, 0, none⟩)]) W fun e w' => e = .returned (.bool (keepB keep i)) ∧ Below W.heap.size W w') := by
        intro i W hi hW
        have n0 : ¬ Foot b bv cv w.heap.size := fun f => by have := HH.out.foot_lt _ f; omega
        have n1 : ¬ Foot b bv cv (w.heap.size + 1) := fun f => by have := HH.out.foot_lt _ f; omega
        have hlt1 := (Array.getElem?_eq_some_iff.1 HX.out).1
        have e1 := hW.block _ hlt1 n1
        have e0 := hW.block w.heap.size (by omega) n0
        have hf := HH.out.ok.few
        exact crash1 _ _ _ keep i W ((World.cell?_of_block (a := ⟨w.heap.size + 1, 0, none⟩) e1).trans (blk_cell HX.out rfl)) (map_block HM.out e0) ⟨by omega, by omega⟩
      clear HM HX
      go_wp2_with (go_at_call 49; refine (settle_any HHR.out 52 #[.pointer (some ⟨w.heap.size + 1, 0, none⟩)] (keepB keep) (fun _ _ => rfl) HC.out).mono ?_; rintro e w2 ⟨rfl, hd2⟩; obtain ⟨q3, f3, hd3⟩ := did_set3 hd2; have HD := Lib.hid hd3; clear hd2 hd3)
      go_ret
      exact ⟨rfl, Did.then_ HHR.out (fun _ => .inl) (.of_below HB.out) HD.out⟩
end Go.Proofs.Ytofpflkkbkodaaa.DkF
