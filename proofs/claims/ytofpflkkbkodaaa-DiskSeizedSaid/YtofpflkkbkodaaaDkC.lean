/- slices.Clone of a row of texts (by the library's own contract) and of a row of writes (the walk of its text); the program's disk: copied, Seize. No conditions but those that each lemma names. -/
import Derived.Test.YtofpflkkbkodaaaDkA
import Derived.Deep.RegionHeld3
import Derived.Lib.SliceRun
namespace Go.Proofs.Ytofpflkkbkodaaa.DkC
open Go.RowKit
open DkN DkM DkQ DkW
/-- What a copy of a row leaves. -/
def Cloned (e : TypeId) (size : Nat) (xs : List Value) (n : Nat) (w : World) (r : Ending) (w' : World) : Prop :=
  ∃ v, r = .returned v ∧ w'.ownsRow w.heap.size e size v n xs ∧ Below w.heap.size w w'
theorem cloneS (a : Option Addr) (c : Nat) (l : List ByteArray) (w : World) (h : StrRow w a l) (hl : l.length ≤ 100000) :
    Calls Try.prog 64 #[.slice a l.length c] w (Cloned 9 1 (l.map Value.string) l.length w) := by
  cases a with
  | none =>
    have h0 : l = [] := by
      cases l with
      | nil => rfl
      | cons x l => obtain ⟨g, o, e, _⟩ := h (by simp); cases e
    subst h0
    exact (Try.slices_Clone_string_nil 0 c w).mono fun e w' ⟨h1, h2⟩ => ⟨_, h1, World.ownsRow_nil _ _ _ _, h2 ▸ Below.refl _ _⟩
  | some ad =>
    by_cases h0 : 0 < l.length
    · obtain ⟨g, o, e, hg, hc⟩ := h h0
      cases e
      refine (Try.slices_Clone_string g o l.length c l w (Nat.le_refl _) (by omega) (fun j hj => ?_)).mono fun e w' ⟨v, h1, h2, h3, h4⟩ => ⟨v, h1, by rw [List.take_length] at h2; exact h2, h4⟩
      rw [hc j hj]
      simp [List.getD, hj]
    · have h1 : l = [] := List.eq_nil_of_length_eq_zero (by omega)
      subst h1
      exact (Try.slices_Clone_string_zero ad c w).mono fun e w' ⟨v, h1, h2, h3, h4⟩ => ⟨v, h1, h2, h4⟩
theorem nil_eq (w : World) (a : Option Addr) (n c n' c' : Nat) : (binOp .eql 37 (.slice a n c) (.slice none n' c')).run Try.prog w = .ok (.bool a.isNone) w := Lib.run_eql_slice_nil w _ _ a n c n' c' Try.underlying37
set_option maxRecDepth 100000 in
theorem cloneP_none (n c : Nat) (w : World) : Calls Try.prog 65 #[.slice none n c] w fun e w' => e = .returned (.slice none 0 0) ∧ w = w' := by
  have q := nil_eq
  go_enter Try.func65, Try.ntmps65
  go_wp2
  go_ret
  exact ⟨rfl, rfl⟩
set_option maxRecDepth 100000 in
set_option maxHeartbeats 2000000 in
theorem cloneP_some (ad : Addr) (n c : Nat) (xs : List Value) (w : World) (hl : xs.length = n * 2) (hn : n ≤ 100000) (hc : ∀ j u, xs[j]? = some u → w.cell? (ad.add j) = some u) (h1 : ∀ v ∈ xs, v.oneCell' = true) :
    Calls Try.prog 65 #[.slice (some ad) n c] w (Cloned 76 2 xs n w) := by
  have q := nil_eq
  obtain ⟨i0, hi, hz0, hz1, hz2⟩ := info_parts info_put
  have HA : Hid (∀ j u, xs[j]? = some u → (w.alloc (.cells #[] 76)).cell? (ad.add j) = some u) := Lib.hid fun j u hj => Lib.cell?_alloc_some _ (hc j u hj)
  clear hc
  go_enter Try.func65, Try.ntmps65
  go_wp2_with (at_builtin; refine wpList_append_own _ rfl _ _ 37 rfl w.heap.size 76 i0 (.agg #[.int .i64 0, .string ⟨#[]⟩]) 2 24 Try.underlying37 hi hz0 hz1 hz2 rfl (by decide) _ _ _ rfl (World.ownsRow_made w #[] 0 (Nat.le_refl _) (Nat.zero_le _) rfl) ad n c xs rfl hl HA.out h1 (by unfold maxLen; omega) (by omega) (by simp) ?_; intro v' w1 hown hgrow hnil; obtain ⟨a2, l2, c2, rfl⟩ := own_slice hown)
  go_ret
  refine ⟨_, rfl, by simpa using hown, ?_⟩
  exact ((Below.refl _ w).alloc (Nat.le_refl _) _).grown hgrow (by simp) (fun k hk => by have e : w.heap.size = k := Option.some.inj hk; omega)
theorem puts_at {w : World} {g o : Nat} {l : List (Nat × ByteArray)} (h : ∀ k (_ : k < l.length), w.cell? ⟨g, o + k * 2, none⟩ = some (.int .i64 l[k].1) ∧ w.cell? ⟨g, o + k * 2 + 1, none⟩ = some (.string l[k].2)) :
    ∀ j u, (putCells l)[j]? = some u → w.cell? ((⟨g, o, none⟩ : Addr).add j) = some u := by
  intro j u hj
  rw [add_off]
  have hlt : j < l.length * 2 := by rw [← putCells_length]; exact (List.getElem?_eq_some_iff.1 hj).1
  rcases Nat.mod_two_eq_zero_or_one j with hm | hm
  · obtain ⟨k, rfl⟩ : ∃ k, j = k * 2 := ⟨j / 2, by omega⟩
    rw [putCells_0 l k (by omega)] at hj
    rw [(h k (by omega)).1]; exact hj
  · obtain ⟨k, rfl⟩ : ∃ k, j = k * 2 + 1 := ⟨j / 2, by omega⟩
    rw [putCells_1 l k (by omega)] at hj
    rw [← Nat.add_assoc, (h k (by omega)).2]; exact hj
theorem cloneP (a : Option Addr) (c : Nat) (l : List (Nat × ByteArray)) (w : World) (h : PutRow w a l) (hl : l.length ≤ 100000) :
    Calls Try.prog 65 #[.slice a l.length c] w (Cloned 76 2 (putCells l) l.length w) := by
  cases a with
  | none =>
    have h0 : l = [] := by
      cases l with
      | nil => rfl
      | cons x l => obtain ⟨g, o, e, _⟩ := h (by simp); cases e
    subst h0
    exact (cloneP_none _ c w).mono fun e w' ⟨h1, h2⟩ => ⟨_, h1, World.ownsRow_nil _ _ _ _, h2 ▸ Below.refl _ _⟩
  | some ad =>
    refine cloneP_some ad l.length c (putCells l) w (putCells_length l) hl ?_ (putCells_one l)
    intro j u hj
    have hlt : j < l.length * 2 := by rw [← putCells_length]; exact (List.getElem?_eq_some_iff.1 hj).1
    obtain ⟨g, o, e, hg, hc⟩ := h (by omega)
    cases e
    exact puts_at hc j u hj
theorem far2 {w : World} {b r i : Nat} (hne : b < r) (u v : Value) : ((w.setCell ⟨r, 0, none⟩ u).setCell ⟨r, 1, none⟩ v).cell? ⟨b, i, none⟩ = w.cell? ⟨b, i, none⟩ :=
  World.cell?_of_block (a := ⟨b, i, none⟩) ((set_cell_block (Nat.ne_of_lt hne)).trans (set_cell_block (Nat.ne_of_lt hne)))
theorem own_base {w : World} {base B : Nat} {e : TypeId} {size : Nat} {v : Value} {n : Nat} {xs : List Value} (h : w.ownsRow base e size v n xs) (hb : B ≤ base) : w.ownsRow B e size v n xs := by
  refine ⟨h.1, ?_⟩
  rcases h.2 with hn | ⟨g, cap, cur, hv, hg, rest⟩
  · exact .inl hn
  · exact .inr ⟨g, cap, cur, hv, Nat.le_trans hb hg, rest⟩
/-- What a copy of an image leaves. -/
def Copied (bl : List ByteArray) (ca : List (Nat × ByteArray)) (w : World) (r : Ending) (w' : World) : Prop :=
  ∃ v u, r = .returned (.agg #[v, u]) ∧ w'.ownsRow w.heap.size 9 1 v bl.length (bl.map Value.string) ∧ w'.ownsRow w.heap.size 76 2 u ca.length (putCells ca) ∧ (∀ k, v.ownBlock = some k → u.ownBlock ≠ some k) ∧ Below w.heap.size w w'
theorem StrRow.below {w w' : World} {a : Option Addr} {l : List ByteArray} (h : StrRow w a l) (hb : Below w.heap.size w w') : StrRow w' a l := h.keep hb.block hb.size
theorem PutRow.below {w w' : World} {a : Option Addr} {l : List (Nat × ByteArray)} (h : PutRow w a l) (hb : Below w.heap.size w w') : PutRow w' a l := h.keep hb.block hb.size
set_option maxRecDepth 100000 in
set_option maxHeartbeats 2000000 in
theorem copied_any (b c c' : Nat) (a a' : Option Addr) (bl : List ByteArray) (ca : List (Nat × ByteArray)) (w : World) (h0 : w.cell? ⟨b, 0, none⟩ = some (.slice a bl.length c)) (h1 : w.cell? ⟨b, 1, none⟩ = some (.slice a' ca.length c')) (hs : StrRow w a bl) (hp : PutRow w a' ca) (hl : bl.length ≤ 100000) (hm : ca.length ≤ 100000) :
    Calls Try.prog 43 #[.pointer (some ⟨b, 0, none⟩)] w (Copied bl ca w) := by
  have HS : Hid (∀ W, Below w.heap.size w W → Calls Try.prog 64 #[.slice a bl.length c] W (Cloned 9 1 (bl.map Value.string) bl.length W)) := Lib.hid fun W hW => cloneS a c bl W (StrRow.below hs hW) hl
  have HP : Hid (∀ W, Below w.heap.size w W → Calls Try.prog 65 #[.slice a' ca.length c'] W (Cloned 76 2 (putCells ca) ca.length W)) := Lib.hid fun W hW => cloneP a' c' ca W (PutRow.below hp hW) hm
  clear hs hp hl hm
  have hblt : b < w.heap.size := World.block_lt_of_cell? w _ h0
  go_enter Try.func43, Try.ntmps43
  go_wp2_with fail
  have hB0 : Below w.heap.size w (w.alloc (.cells #[.slice none 0 0, .slice none 0 0] 56)).drew := ((Below.refl _ _).alloc (Nat.le_refl _) _).drew
  have hR : (w.alloc (.cells #[.slice none 0 0, .slice none 0 0] 56)).drew.heap[w.heap.size]? = some (.cells #[.slice none 0 0, .slice none 0 0] 56 (0, 0)) := heap_alloc_new w _
  have hz : (w.alloc (.cells #[.slice none 0 0, .slice none 0 0] 56)).drew.heap.size = w.heap.size + 1 := by simp
  have HB0 := Lib.hid hB0
  have HR := Lib.hid hR
  have HZ := Lib.hid hz
  have k0 : (w.alloc (.cells #[.slice none 0 0, .slice none 0 0] 56)).drew.cell? ⟨b, 0, none⟩ = some (.slice a bl.length c) := (hB0.cell (p := ⟨b, 0, none⟩) hblt).trans h0
  have k1 : (w.alloc (.cells #[.slice none 0 0, .slice none 0 0] 56)).drew.cell? ⟨b, 1, none⟩ = some (.slice a' ca.length c') := (hB0.cell (p := ⟨b, 1, none⟩) hblt).trans h1
  clear hB0 hR hz
  go_region_held3 (fun w' => w'.cell? ⟨b, 0, none⟩ = some (.slice a bl.length c) ∧ w'.cell? ⟨b, 1, none⟩ = some (.slice a' ca.length c'))
    (first | exact ⟨k0, k1⟩ | exact hS2 | exact hS1 | exact ⟨(far2 hblt _ _).trans hS2.1, (far2 hblt _ _).trans hS2.2⟩)
    (first
      | (go_at_call 64; refine (HS.out _ HB0.out).mono ?_; rintro e w1 ⟨v, rfl, hv, hb1⟩; obtain ⟨va, vl, vc, rfl⟩ := own_slice hv; have HV := Lib.hid hv; have HB1 := Lib.hid hb1; clear hv; have HB01 := Lib.hid (HB0.out.trans (hb1.mono HB0.out.size)); have hS1 : w1.cell? ⟨b, 0, none⟩ = some (.slice a bl.length c) ∧ w1.cell? ⟨b, 1, none⟩ = some (.slice a' ca.length c') := ⟨(HB01.out.cell (p := ⟨b, 0, none⟩) hblt).trans h0, (HB01.out.cell (p := ⟨b, 1, none⟩) hblt).trans h1⟩; clear hb1)
      | (go_at_call 65; refine (HP.out _ HB01.out).mono ?_; rintro e w2 ⟨u, rfl, hu, hb2⟩; obtain ⟨ua, ul, uc, rfl⟩ := own_slice hu; have HU := Lib.hid hu; have HB2 := Lib.hid hb2; clear hu; have HB12 := Lib.hid (HB01.out.trans (hb2.mono HB01.out.size)); have hS2 : w2.cell? ⟨b, 0, none⟩ = some (.slice a bl.length c) ∧ w2.cell? ⟨b, 1, none⟩ = some (.slice a' ca.length c') := ⟨(HB12.out.cell (p := ⟨b, 0, none⟩) hblt).trans h0, (HB12.out.cell (p := ⟨b, 1, none⟩) hblt).trans h1⟩; have hR2 : w2.heap[w.heap.size]? = some (.cells #[.slice none 0 0, .slice none 0 0] 56 (0, 0)) := (hb2.block _ (by have := HB1.out.size; rw [HZ.out] at this; omega)).trans ((HB1.out.block _ (by rw [HZ.out]; omega)).trans HR.out); have r0 : w2.cell? ⟨w.heap.size, 0, none⟩ = some (.slice none 0 0) := blk_cell hR2 rfl; have r1 : w2.cell? ⟨w.heap.size, 1, none⟩ = some (.slice none 0 0) := blk_cell hR2 rfl; have f0 := blk_free (i := 0) hR2; have f1 := blk_free (i := 1) hR2; have HR2 := Lib.hid hR2; clear hb2 hR2))
  rename_i hHeld
  have hb3 : (((w2.setCell ⟨w.heap.size, 0, none⟩ (.slice va vl vc)).setCell ⟨w.heap.size, 1, none⟩ (.slice ua ul uc))).heap[w.heap.size]? = some (.cells #[.slice va vl vc, .slice ua ul uc] 56 (0, 0)) := (blk_set (blk_set HR2.out)).trans rfl
  have hfar : ∀ k, w.heap.size < k → (((w2.setCell ⟨w.heap.size, 0, none⟩ (.slice va vl vc)).setCell ⟨w.heap.size, 1, none⟩ (.slice ua ul uc))).heap[k]? = w2.heap[k]? := fun k hk => (set_cell_block (Nat.ne_of_gt hk)).trans (set_cell_block (Nat.ne_of_gt hk))
  have hb4 : Below w.heap.size w ((w2.setCell ⟨w.heap.size, 0, none⟩ (.slice va vl vc)).setCell ⟨w.heap.size, 1, none⟩ (.slice ua ul uc)) := (HB12.out.setCell (p := ⟨w.heap.size, 0, none⟩) (Nat.le_refl _) _).setCell (p := ⟨w.heap.size, 1, none⟩) (Nat.le_refl _) _
  have hv := HV.out
  have hu := HU.out
  rw [HZ.out] at hv
  have s1 := HB1.out.size
  rw [HZ.out] at s1
  have hne : ∀ k, (Value.slice va vl vc).ownBlock = some k → (Value.slice ua ul uc).ownBlock ≠ some k := fun k e f => by
    have q1 := (hv.lt k e).2
    have q2 := (hu.lt k f).1
    omega
  have hv' := own_base (own_kept hv (fun k e => (hfar k (by have := (hv.lt k e).1; omega)).trans (HB2.out.block k (hv.lt k e).2))) (B := w.heap.size) (by omega)
  have hu' := own_base (own_kept hu (fun k e => hfar k (by have := (hu.lt k e).1; omega))) (B := w.heap.size) (by omega)
  have HV' := Lib.hid hv'
  have HU' := Lib.hid hu'
  have HN := Lib.hid hne
  have HB4 := Lib.hid hb4
  have c0 : _ = some (Value.slice va vl vc) := blk_cell (i := 0) hb3 rfl
  have c1 : _ = some (Value.slice ua ul uc) := blk_cell (i := 1) hb3 rfl
  clear hHeld hb3 hfar hv hu hne hv' hu' hb4 r0 r1 f0 f1 HR2 hS2 hS1 k0 k1 h0 h1 HV HU HB1 HB2 HB12 HB01 HZ HR HB0
  generalize (w2.setCell ⟨w.heap.size, 0, none⟩ (.slice va vl vc)).setCell ⟨w.heap.size, 1, none⟩ (.slice ua ul uc) = W at *
  go_wp2
  exact bodyPost_ret (v := .agg #[.slice va vl vc, .slice ua ul uc]) (by simp [results, Try.results43, go_sem, c0, c1]) rfl ⟨_, _, rfl, HV'.out, HU'.out, HN.out, HB4.out⟩
theorem copied {r : Bool} {w : World} {b : Nat} {bv cv : Value} {D : Dk} (h : Has r w b bv cv D) :
    Calls Try.prog 43 #[.pointer (some ⟨b, 0, none⟩)] w (Copied D.bl D.ca w) := by
  obtain ⟨a, c, rfl⟩ := h.cv_eq
  obtain ⟨g, c', rfl⟩ := h.bv_eq
  exact copied_any b _ _ _ _ D.bl D.ca w h.c0 h.c1 h.strs h.puts (by have := h.ok.hi; omega) (by have := h.ok.few; omega)
set_option maxRecDepth 100000 in
set_option maxHeartbeats 1000000 in
/-- THE CONTRACT of Seize. -/
theorem Seize {w : World} {b : Nat} {bv cv : Value} {D : Dk} (h : Has false w b bv cv D) :
    Calls Try.prog 20 #[.pointer (some ⟨b, 0, none⟩)] w (Copied D.bl D.ca w) := by
  have hz : (w.alloc (.cells #[.slice none 0 0, .slice none 0 0] 39)).heap.size = w.heap.size + 1 := by simp
  have hB0 : Below w.heap.size w (w.alloc (.cells #[.slice none 0 0, .slice none 0 0] 39)) := (Below.refl _ _).alloc (Nat.le_refl _) _
  have H := Lib.hid (isNone (h.step hB0))
  have HC := Lib.hid (copied (h.step hB0))
  have HZ := Lib.hid hz
  have HB0 := Lib.hid hB0
  have HR := Lib.hid (heap_alloc_new w (.cells #[.slice none 0 0, .slice none 0 0] 39))
  clear h hz hB0
  go_enter Try.func20, Try.ntmps20
  go_wp2_with (go_at_call 46; refine (H.out).mono ?_; rintro e w' ⟨rfl, rfl⟩)
  refine (HC.out).mono ?_
  rintro e w1 ⟨v, u, rfl, hv, hu, hne, hb1⟩
  obtain ⟨va, vl, vc, rfl⟩ := own_slice hv
  obtain ⟨ua, ul, uc, rfl⟩ := own_slice hu
  rw [HZ.out] at hv hu hb1
  have hR1 : w1.heap[w.heap.size]? = some (.cells #[.slice none 0 0, .slice none 0 0] 39 (0, 0)) := (hb1.block _ (by omega)).trans HR.out
  have hs1 := hb1.size
  rw [HZ.out] at hs1
  have hR2 : (w1.alloc (.cells #[.slice va vl vc, .slice ua ul uc] 56)).heap[w.heap.size]? = some (.cells #[.slice none 0 0, .slice none 0 0] 39 (0, 0)) := (heap_alloc_old _ _ _ (by omega)).trans hR1
  have hb2 : Below w.heap.size w (w1.alloc (.cells #[.slice va vl vc, .slice ua ul uc] 56)) := (HB0.out.trans (hb1.mono (by omega))).alloc (by omega) _
  have hv2 := hv.alloc (.cells #[.slice va vl vc, .slice ua ul uc] 56)
  have hu2 := hu.alloc (.cells #[.slice va vl vc, .slice ua ul uc] 56)
  generalize hW2 : w1.alloc (.cells #[.slice va vl vc, .slice ua ul uc] 56) = W2 at *
  have r0 : W2.cell? ⟨w.heap.size, 0, none⟩ = some (.slice none 0 0) := blk_cell hR2 rfl
  have r1 : W2.cell? ⟨w.heap.size, 1, none⟩ = some (.slice none 0 0) := blk_cell hR2 rfl
  have f0 := blk_free (i := 0) hR2
  have f1 := blk_free (i := 1) hR2
  have hb3 : ((W2.setCell ⟨w.heap.size, 0, none⟩ (.slice va vl vc)).setCell ⟨w.heap.size, 1, none⟩ (.slice ua ul uc)).heap[w.heap.size]? = some (.cells #[.slice va vl vc, .slice ua ul uc] 39 (0, 0)) := (blk_set (blk_set hR2)).trans rfl
  have hfar : ∀ k, w.heap.size < k → ((W2.setCell ⟨w.heap.size, 0, none⟩ (.slice va vl vc)).setCell ⟨w.heap.size, 1, none⟩ (.slice ua ul uc)).heap[k]? = W2.heap[k]? := fun k hk => (set_cell_block (Nat.ne_of_gt hk)).trans (set_cell_block (Nat.ne_of_gt hk))
  have HB4 := Lib.hid ((hb2.setCell (p := ⟨w.heap.size, 0, none⟩) (Nat.le_refl _) (.slice va vl vc)).setCell (p := ⟨w.heap.size, 1, none⟩) (Nat.le_refl _) (.slice ua ul uc))
  have HV' := Lib.hid (own_base (own_kept hv2 (fun k e => hfar k (by have := (hv2.lt k e).1; omega))) (B := w.heap.size) (by omega))
  have HU' := Lib.hid (own_base (own_kept hu2 (fun k e => hfar k (by have := (hu2.lt k e).1; omega))) (B := w.heap.size) (by omega))
  have HN := Lib.hid hne
  have hw1 : w1.heap.size ≠ w.heap.size := by omega
  have i0 : W2.cell? ⟨w1.heap.size, 0, none⟩ = some (.slice va vl vc) := by rw [← hW2]; exact blk_cell (heap_alloc_new w1 _) rfl
  have i1 : W2.cell? ⟨w1.heap.size, 1, none⟩ = some (.slice ua ul uc) := by rw [← hW2]; exact blk_cell (heap_alloc_new w1 _) rfl
  have c0 : _ = some (Value.slice va vl vc) := blk_cell (i := 0) hb3 rfl
  have c1 : _ = some (Value.slice ua ul uc) := blk_cell (i := 1) hb3 rfl
  clear hv hu hne hR1 hs1 hR2 hb2 hv2 hu2 hb3 hfar hb1
  go_wp2
  exact bodyPost_ret (v := .agg #[.slice va vl vc, .slice ua ul uc]) (by simp [results, Try.results20, go_sem, c0, c1]) rfl ⟨_, _, rfl, HV'.out, HU'.out, HN.out, HB4.out⟩
end Go.Proofs.Ytofpflkkbkodaaa.DkC
