/- The program's disk: Write: the walk of its text. No conditions but those that each lemma names. -/
import Derived.Test.YtofpflkkbkodaaaDkB
import Derived.Maps.AppendAt
import Derived.OwnWalk
namespace Go.Proofs.Ytofpflkkbkodaaa.DkW
open Go.RowKit
open DkN DkM DkQ DkS DkB
theorem info_put : (Try.prog.info? 76).map (fun i => (i.zero, i.size, i.bytes)) = some (some (.agg #[.int .i64 0, .string ⟨#[]⟩]), 2, 24) := by kernel_rfl
theorem new_put (w : World) (x y : Value) (t : TypeId) : ∀ j u, [x, y][j]? = some u → (w.alloc (.cells #[x, y] t)).cell? ((⟨w.heap.size, 0, none⟩ : Addr).add j) = some u := by
  intro j u hj
  rw [add_off, Nat.zero_add]
  exact blk_cell (heap_alloc_new w _) (by simpa using hj)
/-- Behind an append to the cache, and the store of the field. -/
theorem appended {r : Bool} {w w2 : World} {b : Nat} {bv cv v' : Value} {D : Dk} (h : Has r w b bv cv D) (k : Nat) (s : ByteArray) (o : Obj)
    (ho : Dk.ok { D with ca := D.ca ++ [(k, s)] })
    (hown : w2.ownsRow 0 76 2 v' (D.ca.length + 1) (putCells D.ca ++ [.int .i64 k, .string s])) (hg : (w.alloc o).grownBy w2 cv.ownBlock)
    (hl : v'.ownBlock = cv.ownBlock ∨ v'.ownBlock = some (w.alloc o).heap.size) :
    w2.cell? ⟨b, 1, none⟩ = some cv ∧ w2.frozen? ⟨b, 1, none⟩ = false ∧ Did r w b bv cv { D with ca := D.ca ++ [(k, s)] } (w2.setCell ⟨b, 1, none⟩ v') := by
  have hbs := h.lt
  have ha := World.grownBy_alloc w o none
  have hk : Kept (Foot b bv cv) w w2 := ⟨hg.os.trans ha.os, hg.tape.trans ha.tape, hg.output.trans ha.output, Nat.le_trans ha.size hg.size, fun i hi hn =>
    (hg.block i (Nat.lt_of_lt_of_le hi ha.size) (fun e => hn (.inr (.inr e.symm)))).trans (ha.block i hi (by simp))⟩
  have hold : ∀ i, i < w.heap.size → cv.ownBlock ≠ some i → w2.heap[i]? = w.heap[i]? := fun i hi hn => (hg.block i (Nat.lt_of_lt_of_le hi ha.size) (fun e => hn e.symm)).trans (ha.block i hi (by simp))
  have hb2 : w2.heap[b]? = w.heap[b]? := hold b hbs h.cne
  have hvb : v'.ownBlock ≠ some b := by
    intro e
    rcases hl with e' | e'
    · exact h.cne (e'.symm.trans e)
    · rw [e', World.size_alloc] at e; injection e; omega
  refine ⟨(World.cell?_of_block (a := ⟨b, 1, none⟩) hb2).trans h.c1, (World.frozen?_of_block (a := ⟨b, 1, none⟩) hb2).trans (h.free 1), v', ⟨ho, ?_, ?_, ?_⟩, ?_, hk.set_ (.inl rfl) _ _⟩
  · have hh := hb2.trans h.head
    cases r
    · exact (blk_set hh).trans rfl
    · exact (blk_set hh).trans rfl
  · refine own_kept h.rb fun i e => ?_
    rw [set_cell_block (fun e' => h.bne (by rw [← e']; exact e))]
    exact hold i (h.rb.lt i e).2 (h.bcne i e)
  · refine own_kept (w := w2) ?_ fun i e => set_cell_block (fun e' => hvb (by rw [← e']; exact e))
    rw [show (D.ca ++ [(k, s)]).length = D.ca.length + 1 from by simp, putCells_append]
    exact hown
  · intro i e
    rcases hl with e' | e'
    · exact .inl (e'.symm.trans e)
    · rw [e'] at e
      injection e with e
      rw [World.size_alloc] at e
      exact .inr (by omega)
theorem Write_down {w : World} {b : Nat} {bv cv : Value} {D : Dk} (h : Has false w b bv cv D) (i : Int) (s : ByteArray) (hd : D.down = true) :
    Calls Try.prog 21 #[.pointer (some ⟨b, 0, none⟩), .int .i64 i, .string s] w fun e w' => e = .returned (.int .i64 ((D.wr i s).1 : Nat)) ∧ Did false w b bv cv (D.wr i s).2 w' := by
  have HR := Lib.hid (ready h)
  have e : D.wr i s = (14, D) := by unfold Dk.wr; rw [if_pos hd]
  rw [e]
  rw [if_pos hd] at HR
  have HD := Lib.hid h.same
  clear h hd e
  go_enter Try.func21, Try.ntmps21
  go_wp2_with (go_at_call 47; refine (HR.out).mono ?_; rintro e w' ⟨rfl, rfl⟩)
  go_ret
  exact ⟨rfl, HD.out⟩
theorem Write_no {w : World} {b : Nat} {bv cv : Value} {D : Dk} (h : Has false w b bv cv D) (i : Int) (s : ByteArray) (hd : ¬ D.down = true) (m : Nat) (hm : D.no i s = m + 1) :
    Calls Try.prog 21 #[.pointer (some ⟨b, 0, none⟩), .int .i64 i, .string s] w fun e w' => e = .returned (.int .i64 ((D.wr i s).1 : Nat)) ∧ Did false w b bv cv (D.wr i s).2 w' := by
  have HR := Lib.hid (ready h)
  have HT := Lib.hid (takes h i s)
  have e : D.wr i s = (D.no i s, D) := by unfold Dk.wr; rw [if_neg hd, if_neg (by omega)]
  rw [e]
  rw [if_neg hd] at HR
  have HD := Lib.hid h.same
  have hne : (((m + 1 : Nat) : Int) != 0) = true := by rw [bne_iff_ne]; omega
  rw [hm] at HT ⊢
  clear h hd e hm
  generalize m + 1 = q at *
  go_enter Try.func21, Try.ntmps21
  go_wp2_with (first
    | (go_at_call 47; refine (HR.out).mono ?_; rintro e w' ⟨rfl, rfl⟩)
    | (go_at_call 51; refine (HT.out).mono ?_; rintro e w' ⟨rfl, rfl⟩))
  go_ret
  exact ⟨rfl, HD.out⟩
theorem Write_full {w : World} {b : Nat} {bv cv : Value} {D : Dk} (h : Has false w b bv cv D) (i : Int) (s : ByteArray) (hd : ¬ D.down = true) (hm : D.no i s = 0) (hf : 4096 ≤ D.ca.length) :
    Calls Try.prog 21 #[.pointer (some ⟨b, 0, none⟩), .int .i64 i, .string s] w fun e w' => e = .returned (.int .i64 ((D.wr i s).1 : Nat)) ∧ Did false w b bv cv (D.wr i s).2 w' := by
  have HR := Lib.hid (ready h)
  have HT := Lib.hid (takes h i s)
  have e : D.wr i s = (5, D) := by unfold Dk.wr; rw [if_neg hd, if_pos hm, if_pos hf]
  rw [e]
  rw [if_neg hd] at HR
  have HD := Lib.hid h.same
  rw [hm] at HT
  have c1 := h.c1
  obtain ⟨a, c, rfl⟩ := h.cv_eq
  have hge : 4096 ≤ (D.ca.length : Int) := by omega
  clear h hd e hm hf
  generalize D.ca.length = n at *
  go_enter Try.func21, Try.ntmps21
  go_wp2_with (first
    | (go_at_call 47; refine (HR.out).mono ?_; rintro e w' ⟨rfl, rfl⟩)
    | (go_at_call 51; refine (HT.out).mono ?_; rintro e w' ⟨rfl, rfl⟩))
  go_ret
  exact ⟨rfl, HD.out⟩
set_option maxRecDepth 100000 in
theorem Write_off {w : World} {b : Nat} {bv cv : Value} {D : Dk} (h : Has false w b bv cv D) (i : Int) (s : ByteArray) (hd : ¬ D.down = true) (hm : D.no i s = 0) (hf : ¬ 4096 ≤ D.ca.length) (ha : D.armed = 1) :
    Calls Try.prog 21 #[.pointer (some ⟨b, 0, none⟩), .int .i64 i, .string s] w fun e w' => e = .returned (.int .i64 ((D.wr i s).1 : Nat)) ∧ Did false w b bv cv (D.wr i s).2 w' := by
  have HR := Lib.hid (ready h)
  have HT := Lib.hid (takes h i s)
  have HS := Lib.hid (DkS.step h (by simpa using hd))
  have e : D.wr i s = (14, D.tick) := by unfold Dk.wr; rw [if_neg hd, if_pos hm, if_neg hf, if_pos ha]
  rw [e]
  rw [if_neg hd] at HR
  rw [if_pos (decide_eq_true ha)] at HS
  rw [hm] at HT
  have c1 := h.c1
  obtain ⟨a, c, rfl⟩ := h.cv_eq
  have hge : ¬ 4096 ≤ (D.ca.length : Int) := by omega
  clear h hd e hm hf ha
  generalize D.ca.length = n at *
  generalize D.tick = T at *
  go_enter Try.func21, Try.ntmps21
  go_wp2_with (first
    | (go_at_call 47; refine (HR.out).mono ?_; rintro e w' ⟨rfl, rfl⟩)
    | (go_at_call 51; refine (HT.out).mono ?_; rintro e w' ⟨rfl, rfl⟩)
    | (go_at_call 48; refine (HS.out).mono ?_; rintro e w1 ⟨rfl, hd1⟩; have HD := Lib.hid hd1; clear hd1))
  go_ret
  exact ⟨rfl, HD.out⟩
set_option maxRecDepth 100000 in
theorem Write_yes {w : World} {b : Nat} {bv cv : Value} {D : Dk} (h : Has false w b bv cv D) (i : Int) (s : ByteArray) (hd : ¬ D.down = true) (hm : D.no i s = 0) (hf : ¬ 4096 ≤ D.ca.length) (ha : ¬ D.armed = 1) :
    Calls Try.prog 21 #[.pointer (some ⟨b, 0, none⟩), .int .i64 i, .string s] w fun e w' => e = .returned (.int .i64 ((D.wr i s).1 : Nat)) ∧ Did false w b bv cv (D.wr i s).2 w' := by
  have HR := Lib.hid (ready h)
  have HT := Lib.hid (takes h i s)
  have HS := Lib.hid (DkS.step h (by simpa using hd))
  have hok := wr_ok h.ok i s
  have e : D.wr i s = (0, { D.tick with ca := D.tick.ca ++ [(i.toNat, s)] }) := by unfold Dk.wr; rw [if_neg hd, if_pos hm, if_neg hf, if_neg ha]; rfl
  rw [e] at hok ⊢
  rw [if_neg hd] at HR
  rw [if_neg (by simpa using ha)] at HS
  rw [hm] at HT
  obtain ⟨k, rfl⟩ : ∃ k : Nat, i = (k : Int) := ⟨i.toNat, by have := (no_zero hm).1; omega⟩
  rw [Int.toNat_natCast] at *
  have c1 := h.c1
  obtain ⟨a, c, rfl⟩ := h.cv_eq
  have hge : ¬ 4096 ≤ (D.ca.length : Int) := by omega
  have hl4 : D.tick.ca.length < 4096 := by show D.ca.length < 4096; omega
  clear h hd e hm hf ha
  generalize D.ca.length = n at *
  generalize D.tick = T at *
  have HO := Lib.hid hok
  clear hok
  obtain ⟨i0, hi, hz0, hz1, hz2⟩ := info_parts info_put
  go_enter Try.func21, Try.ntmps21
  go_wp2_with (first
    | (go_at_call 47; refine (HR.out).mono ?_; rintro e w' ⟨rfl, rfl⟩)
    | (go_at_call 51; refine (HT.out).mono ?_; rintro e w' ⟨rfl, rfl⟩)
    | (go_at_call 48; refine (HS.out).mono ?_; rintro e w1 ⟨rfl, cv1, hh1, hn1, hk1⟩; have HN := Lib.hid hn1; have HK := Lib.hid hk1; have HH := Lib.hid hh1; have cc1 := hh1.c1; have hrc := hh1.rc; clear hn1 hk1 hh1)
    | (at_builtin; refine wpList_append_own_at _ rfl _ _ 37 rfl 0 76 i0 (.agg #[.int .i64 0, .string ⟨#[]⟩]) 2 24 Try.underlying37 hi hz0 hz1 hz2 rfl (by decide) _ _ _ rfl (hrc.alloc _) ⟨w1.heap.size, 0, none⟩ 1 1 [.int .i64 (k : Int), .string s] rfl rfl (new_put _ _ _ _) (by simp [Value.oneCell']) (by unfold maxLen; omega) (by omega) (by omega) ?_; intro v' w2 hown hgrow _ hloc; obtain ⟨hc2, hf2, hd2⟩ := appended HH.out k s _ HO.out hown hgrow hloc; obtain ⟨a2, l2, c2, rfl⟩ := own_slice hown; have HD := Lib.hid hd2; clear hd2 hgrow hloc hown hrc cc1))
  go_ret
  exact ⟨rfl, Did.then_ HH.out HN.out HK.out HD.out⟩
/-- THE CONTRACT of Write. -/
theorem Write {w : World} {b : Nat} {bv cv : Value} {D : Dk} (h : Has false w b bv cv D) (i : Int) (s : ByteArray) :
    Calls Try.prog 21 #[.pointer (some ⟨b, 0, none⟩), .int .i64 i, .string s] w fun e w' => e = .returned (.int .i64 ((D.wr i s).1 : Nat)) ∧ Did false w b bv cv (D.wr i s).2 w' := by
  by_cases hd : D.down = true
  · exact Write_down h i s hd
  match hm : D.no i s with
  | m + 1 => exact Write_no h i s hd m hm
  | 0 =>
    by_cases hf : 4096 ≤ D.ca.length
    · exact Write_full h i s hd hm hf
    by_cases ha : D.armed = 1
    · exact Write_off h i s hd hm hf ha
    · exact Write_yes h i s hd hm hf ha
end Go.Proofs.Ytofpflkkbkodaaa.DkW
