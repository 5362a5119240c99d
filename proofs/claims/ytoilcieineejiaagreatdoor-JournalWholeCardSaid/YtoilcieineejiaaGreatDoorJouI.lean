/- The program's journal: what a disk shows; what is committed: the walks of their texts. No conditions but those that each lemma names. -/
import Derived.Test.YtoilcieineejiaaGreatDoorLJog
import Derived.Test.YtoilcieineejiaaGreatDoorLDki
import Derived.Test.YtoilcieineejiaaGreatDoorLDkr
import Derived.Test.YtoilcieineejiaaGreatDoorLSuv
import Derived.Test.YtoilcieineejiaaGreatDoorLSlv
namespace Go.Proofs.YtoilcieineejiaaGreatDoor.JouI
set_option linter.unusedVariables false
open Go.RowKit
open DkN DkM JouN JouP JouQ JouR JouS JouC JouW JouX JouY JouZ JouB JouD
open SupP (Gl)
open SupC (infoS one7)
/-- A row of texts that is filled so far. -/
def part (l : List B) (k : Nat) : List Value := (l.take k).map Value.string ++ List.replicate (l.length - k) (.string ⟨#[]⟩)
theorem part_len (l : List B) (k : Nat) (h : k ≤ l.length) : (part l k).length = l.length := by simp [part]; omega
theorem part_0 (l : List B) : part l 0 = List.replicate l.length (.string ⟨#[]⟩) := by simp [part]
theorem part_all (l : List B) : part l l.length = l.map Value.string := by simp [part]
theorem part_at (l : List B) (k : Nat) (h : k < l.length) : (part l k)[k]? = some (.string ⟨#[]⟩) := by
  unfold part
  have hl : ((l.take k).map Value.string).length = k := by rw [List.length_map, List.length_take]; omega
  rw [List.getElem?_append_right (by omega), hl, Nat.sub_self, List.getElem?_replicate, if_pos (by omega)]
theorem part_next (l : List B) (k : Nat) (h : k < l.length) : (part l k).set k (.string l[k]) = part l (k + 1) := by
  apply List.ext_getElem?
  intro i
  have h1 : (part l k).length = l.length := part_len l k (by omega)
  by_cases hi : i = k
  · subst hi
    rw [List.getElem?_set_self (by omega)]
    unfold part
    rw [List.getElem?_append_left (by simp; omega)]
    simp
    rw [List.getElem?_eq_getElem h]
    rfl
  · rw [List.getElem?_set_ne (fun e => hi e.symm)]
    unfold part
    by_cases hlt : i < k
    · rw [List.getElem?_append_left (by simp; omega), List.getElem?_append_left (by simp; omega), List.getElem?_map, List.getElem?_map, List.getElem?_take_of_lt hlt, List.getElem?_take_of_lt (by omega)]
    · rw [List.getElem?_append_right (by simp; omega), List.getElem?_append_right (by simp; omega), List.getElem?_replicate, List.getElem?_replicate]
      simp only [List.length_map, List.length_take]
      by_cases hl : i < l.length
      · rw [if_pos (by omega), if_pos (by omega)]
      · rw [if_neg (by omega), if_neg (by omega)]
theorem make_strs (n : Nat) (hn : n ≤ 1024) : ∀ W : World, (Instr.makeSlice 34 (.int .i64 (n : Int)) (.int .i64 (n : Int))).run Tryz.prog W = .ok (.slice (some ⟨W.heap.size, 0, none⟩) n n) (W.alloc (.cells (List.replicate n (.string ⟨#[]⟩)).toArray 9)) := by
  obtain ⟨i0, hi, hz0, hz1, hz2⟩ := info_parts DkR.info9
  intro W
  have := run_make (P := Tryz.prog) W 34 9 i0 (.string ⟨#[]⟩) Tryz.underlying34 hi hz0 .i64 .i64 (n : Nat) (n : Nat) (by omega) (by omega) (by rw [hz2]; omega) (by omega)
  simp only [hz1, Value.cells, Int.toNat_natCast, Nat.mul_one] at this
  rw [this]
  have e : madeCells #[Value.string ⟨#[]⟩] n = (List.replicate n (.string ⟨#[]⟩)).toArray := by
    have h0 : ∀ i, i % 1 = 0 := fun i => by omega
    simp [madeCells, Array.ext_iff, h0]
  rw [e]
theorem rd_up {D : Dk} (h : D.down = false) (i : Nat) (hi : i < (shows D).length) : D.rd (i : Int) = ((shows D)[i], 0) := by
  have hi' : i < D.bl.length := by rw [shows_len] at hi; exact hi
  unfold Dk.rd Dk.has
  rw [if_neg (by rw [h]; decide), if_pos (decide_eq_true ⟨by omega, by omega⟩)]
  simp [shows]
/-- What show leaves. -/
def Shown (sh : List B) (w : World) (e : Ending) (w' : World) : Prop :=
  e = .returned (.tuple #[.slice (some ⟨w.heap.size, 0, none⟩) sh.length sh.length, .int .i64 0]) ∧ w'.heap[w.heap.size]? = some (.cells (sh.map Value.string).toArray 9 (0, 0)) ∧ Below w.heap.size w w'
set_option maxRecDepth 100000 in
set_option maxHeartbeats 1000000 in
theorem show_ok {w : World} {b : Nat} {bv cv : Value} {D : Dk} (h : Has false w b bv cv D) (hd : D.down = false) :
    Calls Tryz.prog 36 #[.pointer (some ⟨b, 0, none⟩)] w (Shown (shows D) w) := by
  have hlo := h.ok.lo
  have hhi := h.ok.hi
  have HSz := Lib.hid (DkQ.Size h)
  have HRd := Lib.hid (fun W (hW : Has false W b bv cv D) (i : Nat) => DkI.Read hW (i : Int))
  have HUp := Lib.hid (fun i hi => rd_up hd i hi)
  have hlen := shows_len D
  obtain ⟨n, hn⟩ : ∃ n, D.bl.length = n := ⟨_, rfl⟩
  rw [hn] at hlo hhi HSz hlen
  generalize shows D = sh at *
  have hmk := make_strs n hhi
  have hmax : ∀ (W : World) (ts : Array TypeId) (t : TypeId), (Builtin.max_ ts t #[.int .i64 (n : Int), .int .i64 1]).run Tryz.prog W = .ok (.int .i64 (n : Int)) W := fun W ts t => by rw [run_max_int2, GeoN.ite_max, show max (n : Int) 1 = n by omega]
  have HLen := Lib.hid hlen
  have HH := Lib.hid h
  have HD := Lib.hid hd
  unfold Shown
  rw [hlen]
  clear h hd hn hlen
  go_enter Tryz.func36, Tryz.ntmps36
  go_wp2_with (go_at_call 35; refine HSz.out.mono ?_; rintro e _ ⟨rfl, rfl⟩)
  go_loopw [14] (fun i wr => ∃ k : Nat, k ≤ n ∧ i = .int .i64 k ∧ wr.heap[w.heap.size]? = some (.cells (part sh k).toArray 9 (0, 0)) ∧ Below w.heap.size w wr) (fun i _ => n - (intOf i).toNat)
  case atStart =>
    refine ⟨0, Nat.zero_le _, rfl, ?_, below_new _ _⟩
    rw [part_0, HLen.out]
    exact heap_alloc_new w _
  case round =>
    obtain ⟨k, hk, rfl, hrow, hbel⟩ := hrel
    have HB := Lib.hid hbel
    have HR := Lib.hid hrow
    clear hrow hbel
    by_cases hlt : k < n
    · have hlt' : k < sh.length := by rw [HLen.out]; exact hlt
      have HC := Lib.hid (HRd.out wr (HH.out.step HB.out) k)
      rw [HUp.out k hlt'] at HC
      have HN := Lib.hid (part_next sh k hlt')
      have HAt := Lib.hid (part_at sh k hlt')
      generalize sh[k] = x at *
      go_upto_region 6 with (go_at_call 73; refine HC.out.mono ?_; rintro e w2 ⟨rfl, hb2⟩; have R2 := Lib.hid ((hb2.block _ (lt_of_some HR.out)).trans HR.out); have B2 := Lib.hid (HB.out.trans (hb2.mono HB.out.size)); clear hb2)
      have c2 : w2.cell? ⟨w.heap.size, k, none⟩ = some (.string ⟨#[]⟩) := blk_cell R2.out (by rw [List.getElem?_toArray]; exact HAt.out)
      have f2 : w2.frozen? ⟨w.heap.size, k, none⟩ = false := blk_free R2.out
      go_wp2_with fail
      go_roundw
      case rel =>
        refine ⟨k + 1, by omega, by go_num, ?_, B2.out.setCell (Nat.le_refl _) _⟩
        rw [blk_set R2.out, ← HN.out]
        simp
      case measure => simp [intOf]; omega
    · obtain rfl : k = n := by omega
      rw [show part sh k = part sh sh.length by rw [HLen.out], part_all] at HR
      go_wp2_with fail
      go_ret2
      exact ⟨rfl, HR.out, HB.out⟩
theorem make_one : ∀ W : World, (Instr.makeSlice 34 (.int .i64 1) (.int .i64 1)).run Tryz.prog W = .ok (.slice (some ⟨W.heap.size, 0, none⟩) 1 1) (W.alloc (.cells (List.replicate 1 (.string ⟨#[]⟩)).toArray 9)) := make_strs 1 (by omega)
set_option maxRecDepth 100000 in
theorem show_un (p : Option Addr) (w : World) (h : DkU.Un w p) :
    Calls Tryz.prog 36 #[.pointer p] w fun e w' => e = .returned (.tuple #[.slice none 0 0, .int .i64 1]) ∧ Below w.heap.size w w' := by
  have HSz := Lib.hid (DkU.Size h)
  have HRd := Lib.hid (fun W (hb : Below w.heap.size w W) => DkU.Read (h.step hb) 0)
  have hmk := make_one
  have hmax : ∀ (W : World) (ts : Array TypeId) (t : TypeId), (Builtin.max_ ts t #[.int .i64 0, .int .i64 1]).run Tryz.prog W = .ok (.int .i64 1) W := fun W ts t => by rw [run_max_int2]; rfl
  clear h
  go_enter Tryz.func36, Tryz.ntmps36
  go_wp2_with (go_at_call 35; refine HSz.out.mono ?_; rintro e _ ⟨rfl, rfl⟩)
  go_loopw [14] (fun i wr => i = .int .i64 0 ∧ Below w.heap.size w wr) (fun i _ => 0)
  case atStart => exact ⟨rfl, below_new _ _⟩
  case round =>
    obtain ⟨rfl, hbel⟩ := hrel
    have HB := Lib.hid hbel
    clear hbel
    have HC := Lib.hid (HRd.out wr HB.out)
    go_wp2_with (go_at_call 73; refine HC.out.mono ?_; rintro e _ ⟨rfl, rfl⟩)
    go_ret2
    exact ⟨rfl, HB.out⟩
/-- The first four texts of a row. -/
structure Four (W : World) (g : Nat) (a0 a1 a2 a3 : List UInt8) : Prop where
  c0 : W.cell? ⟨g, 0, none⟩ = some (.string ⟨a0.toArray⟩)
  c1 : W.cell? ⟨g, 1, none⟩ = some (.string ⟨a1.toArray⟩)
  c2 : W.cell? ⟨g, 2, none⟩ = some (.string ⟨a2.toArray⟩)
  c3 : W.cell? ⟨g, 3, none⟩ = some (.string ⟨a3.toArray⟩)
theorem Four.step {W W' : World} {g : Nat} {a0 a1 a2 a3 : List UInt8} (h : Four W g a0 a1 a2 a3) (hb : Below W.heap.size W W') : Four W' g a0 a1 a2 a3 :=
  have hl := World.block_lt_of_cell? W _ h.c0
  ⟨(hb.cell (p := ⟨g, 0, none⟩) hl).trans h.c0, (hb.cell (p := ⟨g, 1, none⟩) hl).trans h.c1, (hb.cell (p := ⟨g, 2, none⟩) hl).trans h.c2, (hb.cell (p := ⟨g, 3, none⟩) hl).trans h.c3⟩
theorem turn_0 (W : World) : Calls Tryz.prog 87 #[.int .i64 0] W fun e w' => e = .returned (.int .i64 0) ∧ W = w' := GeoD.Super 0 W (by omega)
theorem turn_1 (W : World) : Calls Tryz.prog 87 #[.int .i64 1] W fun e w' => e = .returned (.int .i64 1) ∧ W = w' := GeoD.Super 1 W (by omega)
theorem key_0 (W : World) : Calls Tryz.prog 43 #[.int .i64 0] W fun e w' => e = .returned (.int .i64 2) ∧ W = w' := GeoD.Key 0 W (by omega)
theorem key_1 (W : World) : Calls Tryz.prog 43 #[.int .i64 1] W fun e w' => e = .returned (.int .i64 3) ∧ W = w' := GeoD.Key 1 W (by omega)
set_option maxRecDepth 100000 in
set_option maxHeartbeats 2000000 in
theorem committed_ok (g n : Nat) (a0 a1 a2 a3 key : List UInt8) (s : SupN.Sb) (q : Int) (w : World) (h : Four w g a0 a1 a2 a3) (hn : 8 ≤ n) (hg : Gl w) (hc : SupN.choose a0 a1 = (s, q, 0)) (hb : s.b = n) (hp : SloN.pick a2 a3 s.e = (key, 0)) :
    Calls Tryz.prog 45 #[.slice (some ⟨g, 0, none⟩) n n] w fun e w' => e = .returned (.tuple #[.agg #[.int .i64 s.g, .int .i64 s.t, .int .i64 s.e, .int .i64 s.k, .int .i64 s.b, .int .i64 s.l, .int .i64 s.f], .string ⟨key.toArray⟩, .int .i64 0]) ∧ Below w.heap.size w w' := by
  have HC := Lib.hid (fun W hW => SupV.Choose a0 a1 W hW)
  rw [hc] at HC
  dsimp only at HC
  have HP := Lib.hid (fun W hW => SloV.Pick a2 a3 s.e W hW)
  rw [hp] at HP
  dsimp only at HP
  have T0 := Lib.hid turn_0
  have T1 := Lib.hid turn_1
  have K0 := Lib.hid key_0
  have K1 := Lib.hid key_1
  have hbn : (s.b != (n : Int)) = false := by rw [hb]; simp
  obtain ⟨W1, hW1⟩ : ∃ W1, W1 = w.alloc (.cells #[.int .i64 0, .int .i64 0, .int .i64 0, .int .i64 0, .int .i64 0, .int .i64 0, .int .i64 0] 53) := ⟨_, rfl⟩
  have B1 : Hid (Below w.heap.size w W1) := Lib.hid (by rw [hW1]; exact below_new _ _)
  have X1 : Hid (W1.heap[w.heap.size]? = some (.cells #[.int .i64 0, .int .i64 0, .int .i64 0, .int .i64 0, .int .i64 0, .int .i64 0, .int .i64 0] 53 (0, 0))) := Lib.hid (by rw [hW1]; exact heap_alloc_new w _)
  have F1 := Lib.hid (h.step B1.out)
  have G1 := Lib.hid (hg.step B1.out)
  have HF : Hid (∀ W : World, Below W1.heap.size W1 W → W.cell? ⟨g, 0, none⟩ = some (.string ⟨a0.toArray⟩) ∧ W.cell? ⟨g, 1, none⟩ = some (.string ⟨a1.toArray⟩) ∧ W.cell? ⟨g, 2, none⟩ = some (.string ⟨a2.toArray⟩) ∧ W.cell? ⟨g, 3, none⟩ = some (.string ⟨a3.toArray⟩)) := Lib.hid (fun W hb => ⟨(F1.out.step hb).c0, (F1.out.step hb).c1, (F1.out.step hb).c2, (F1.out.step hb).c3⟩)
  have HG : Hid (∀ W : World, Below W1.heap.size W1 W → Gl W) := Lib.hid (fun W hb => G1.out.step hb)
  have HR : Hid (∀ W : World, Below W1.heap.size W1 W → W.heap[w.heap.size]? = some (.cells #[.int .i64 0, .int .i64 0, .int .i64 0, .int .i64 0, .int .i64 0, .int .i64 0, .int .i64 0] 53 (0, 0))) := Lib.hid (fun W hb => (hb.block _ (lt_of_some X1.out)).trans X1.out)
  have HL : Hid (w.heap.size < W1.heap.size) := Lib.hid (lt_of_some X1.out)
  have m0 : 0 < n := by omega
  have m1 : 1 < n := by omega
  have m2 : 2 < n := by omega
  have m3 : 3 < n := by omega
  have n0 : (0 : Int) < (n : Int) := by omega
  have n1 : (1 : Int) < (n : Int) := by omega
  have n2 : (2 : Int) < (n : Int) := by omega
  have n3 : (3 : Int) < (n : Int) := by omega
  have BB : Hid (Below W1.heap.size W1 W1.drew) := Lib.hid (Below.refl _ _).drew
  have hS := HF.out _ BB.out
  clear h hg hc hp hb F1 G1 X1 hn
  go_enter Tryz.func45, Tryz.ntmps45
  go_upto_region 1 with (fail)
  rw [← hW1]
  clear hW1
  refine wp_region_held_drew (S := fun W => W.cell? ⟨g, 0, none⟩ = some (.string ⟨a0.toArray⟩) ∧ W.cell? ⟨g, 1, none⟩ = some (.string ⟨a1.toArray⟩) ∧ W.cell? ⟨g, 2, none⟩ = some (.string ⟨a2.toArray⟩) ∧ W.cell? ⟨g, 3, none⟩ = some (.string ⟨a3.toArray⟩)) (by kernel_rfl) hS (fun _ => ?_)
  change wpAnyH _ _ _ _ _ _ #[false, false, false, false, false, false, false, false, false, false, false, false, false, false, false, false, false] _ _
  refine wpAnyH_take (i := 0) (v := ?v1) (by rw [List.getElem?_toArray]; rfl) (by kernel_rfl) (by kernel_rfl) (by kernel_rfl) (by intro _ _ _ h; exact h) (Or.inl ⟨by rfl, ?hy1⟩) (by assumption) ?rest1
  case hy1 => (intro W hSW; (try dsimp only at hSW); go_simp; try with_reducible rfl)
  try simp only [Act.put, List.setIfInBounds_toArray, List.set_cons_zero, List.set_cons_succ]
  refine wpAnyH_take (i := 4) (v := ?v2) (by rw [List.getElem?_toArray]; rfl) (by kernel_rfl) (by kernel_rfl) (by kernel_rfl) (by intro _ _ _ h; exact h) (Or.inl ⟨by rfl, ?hy2⟩) (by assumption) ?rest2
  case hy2 => (intro W hSW; (try dsimp only at hSW); go_simp; try with_reducible rfl)
  try simp only [Act.put, List.setIfInBounds_toArray, List.set_cons_zero, List.set_cons_succ]
  refine wpAnyH_ready (rs := [1, 13]) (by kernel_rfl) (by simp) (AllReadyH.cons (by rw [List.getElem?_toArray]; rfl) (fun K hK => ?_) (AllReadyH.cons (by rw [List.getElem?_toArray]; rfl) (fun K hK => ?_) AllReadyH.nil))
  · go_simp
    refine (T0.out _).mono ?_
    rintro e _ ⟨rfl, rfl⟩
    refine hK.out _ _ hS (fun _ => ?_)
    clear hK K
    try simp only [List.setIfInBounds_toArray, List.set_cons_zero, List.set_cons_succ]
    refine wpAnyH_take (i := 2) (v := ?v3) (by rw [List.getElem?_toArray]; rfl) (by kernel_rfl) (by kernel_rfl) (by kernel_rfl) (by intro _ _ _ h; exact h) (Or.inl ⟨by rfl, ?hy3⟩) (by assumption) ?rest3
    case hy3 => (intro W hSW; (try dsimp only at hSW); go_simp; try with_reducible rfl)
    try simp only [Act.put, List.setIfInBounds_toArray, List.set_cons_zero, List.set_cons_succ]
    refine wpAnyH_take (i := 3) (v := ?v4) (by rw [List.getElem?_toArray]; rfl) (by kernel_rfl) (by kernel_rfl) (by kernel_rfl) (by intro _ _ _ h; exact h) (Or.inl ⟨by rfl, ?hy4⟩) (by assumption) ?rest4
    case hy4 => (intro W hSW; (try dsimp only at hSW); go_simp; try with_reducible rfl)
    try simp only [Act.put, List.setIfInBounds_toArray, List.set_cons_zero, List.set_cons_succ]
    refine wpAnyH_ready (rs := [5, 13]) (by kernel_rfl) (by simp) (AllReadyH.cons (by rw [List.getElem?_toArray]; rfl) (fun K hK => ?_) (AllReadyH.cons (by rw [List.getElem?_toArray]; rfl) (fun K hK => ?_) AllReadyH.nil))
    · go_simp
      refine (T1.out _).mono ?_
      rintro e _ ⟨rfl, rfl⟩
      refine hK.out _ _ hS (fun _ => ?_)
      clear hK K
      try simp only [List.setIfInBounds_toArray, List.set_cons_zero, List.set_cons_succ]
      refine wpAnyH_take (i := 6) (v := ?v5) (by rw [List.getElem?_toArray]; rfl) (by kernel_rfl) (by kernel_rfl) (by kernel_rfl) (by intro _ _ _ h; exact h) (Or.inl ⟨by rfl, ?hy5⟩) (by assumption) ?rest5
      case hy5 => (intro W hSW; (try dsimp only at hSW); go_simp; try with_reducible rfl)
      try simp only [Act.put, List.setIfInBounds_toArray, List.set_cons_zero, List.set_cons_succ]
      refine wpAnyH_take (i := 7) (v := ?v6) (by rw [List.getElem?_toArray]; rfl) (by kernel_rfl) (by kernel_rfl) (by kernel_rfl) (by intro _ _ _ h; exact h) (Or.inl ⟨by rfl, ?hy6⟩) (by assumption) ?rest6
      case hy6 => (intro W hSW; (try dsimp only at hSW); go_simp; try with_reducible rfl)
      try simp only [Act.put, List.setIfInBounds_toArray, List.set_cons_zero, List.set_cons_succ]
      refine wpAnyH_ready (rs := [8, 13]) (by kernel_rfl) (by simp) (AllReadyH.cons (by rw [List.getElem?_toArray]; rfl) (fun K hK => ?_) (AllReadyH.cons (by rw [List.getElem?_toArray]; rfl) (fun K hK => ?_) AllReadyH.nil))
      · go_simp
        refine (HC.out _ (HG.out _ BB.out)).mono ?_
        rintro e w2 ⟨rfl, hb2⟩
        replace BB := Lib.hid (BB.out.trans (hb2.mono BB.out.size))
        replace hS := HF.out _ BB.out
        clear hb2
        refine hK.out _ _ hS (fun _ => ?_)
        clear hK K
        try simp only [List.setIfInBounds_toArray, List.set_cons_zero, List.set_cons_succ]
        refine wpAnyH_take (i := 9) (v := ?v7) (by rw [List.getElem?_toArray]; rfl) (by kernel_rfl) (by kernel_rfl) (by kernel_rfl) (by intro _ _ _ h; exact h) (Or.inl ⟨by rfl, ?hy7⟩) (by assumption) ?rest7
        case hy7 => (intro W hSW; (try dsimp only at hSW); go_simp; try with_reducible rfl)
        try simp only [Act.put, List.setIfInBounds_toArray, List.set_cons_zero, List.set_cons_succ]
        refine wpAnyH_take (i := 10) (v := ?v8) (by rw [List.getElem?_toArray]; rfl) (by kernel_rfl) (by kernel_rfl) (by kernel_rfl) (by intro _ _ _ h; exact h) (Or.inl ⟨by rfl, ?hy8⟩) (by assumption) ?rest8
        case hy8 => (intro W hSW; (try dsimp only at hSW); go_simp; try with_reducible rfl)
        try simp only [Act.put, List.setIfInBounds_toArray, List.set_cons_zero, List.set_cons_succ]
        refine wpAnyH_take (i := 11) (v := ?v9) (by rw [List.getElem?_toArray]; rfl) (by kernel_rfl) (by kernel_rfl) (by kernel_rfl) (by intro _ _ _ h; exact h) (Or.inl ⟨by rfl, ?hy9⟩) (by assumption) ?rest9
        case hy9 => (intro W hSW; (try dsimp only at hSW); go_simp; try with_reducible rfl)
        try simp only [Act.put, List.setIfInBounds_toArray, List.set_cons_zero, List.set_cons_succ]
        refine wpAnyH_take (i := 12) (v := ?v10) (by rw [List.getElem?_toArray]; rfl) (by kernel_rfl) (by kernel_rfl) (by kernel_rfl) (by intro _ _ _ h; exact h) (Or.inl ⟨by rfl, ?hy10⟩) (by assumption) ?rest10
        case hy10 => (intro W hSW; (try dsimp only at hSW); go_simp; try with_reducible rfl)
        try simp only [Act.put, List.setIfInBounds_toArray, List.set_cons_zero, List.set_cons_succ]
        refine wpAnyH_ready (rs := [13]) (by kernel_rfl) (by simp) (AllReadyH.cons (by rw [List.getElem?_toArray]; rfl) (fun K hK => ?_) AllReadyH.nil)
        go_simp
        have XL := Lib.hid BB.out.size
        replace BB := Lib.hid (BB.out.alloc BB.out.size (.cells #[.int .i64 0, .int .i64 0, .int .i64 0, .int .i64 0, .int .i64 0, .int .i64 0, .int .i64 0] 53))
        have XX := Lib.hid (heap_alloc_new w2 (.cells #[.int .i64 0, .int .i64 0, .int .i64 0, .int .i64 0, .int .i64 0, .int .i64 0, .int .i64 0] 53))
        replace hS := HF.out _ BB.out
        refine hK.out _ _ hS (fun _ => ?_)
        clear hK K
        try simp only [List.setIfInBounds_toArray, List.set_cons_zero, List.set_cons_succ]
        refine wpAnyH_ready (rs := [14]) (by kernel_rfl) (by simp) (AllReadyH.cons (by rw [List.getElem?_toArray]; rfl) (fun K hK => ?_) AllReadyH.nil)
        rw [if_pos (by rfl)]
        refine wp_store_row 53 _ _ rfl _ #[.int .i64 s.g, .int .i64 s.t, .int .i64 s.e, .int .i64 s.k, .int .i64 s.b, .int .i64 s.l, .int .i64 s.f] rfl rfl 53 #[.int .i64 0, .int .i64 0, .int .i64 0, .int .i64 0, .int .i64 0, .int .i64 0, .int .i64 0] XX.out infoS rfl (one7 _ _ _ _ _ _ _) ?_
        replace BB := Lib.hid (below_setRow BB.out XL.out #[.int .i64 s.g, .int .i64 s.t, .int .i64 s.e, .int .i64 s.k, .int .i64 s.b, .int .i64 s.l, .int .i64 s.f])
        have YY := Lib.hid (setRow_same (cs := #[.int .i64 s.g, .int .i64 s.t, .int .i64 s.e, .int .i64 s.k, .int .i64 s.b, .int .i64 s.l, .int .i64 s.f]) XX.out)
        replace hS := HF.out _ BB.out
        refine hK.out _ _ hS (fun _ => ?_)
        clear hK K
        try simp only [List.setIfInBounds_toArray, List.set_cons_zero, List.set_cons_succ]
        refine wpAnyH_take (i := 15) (v := ?v11) (by rw [List.getElem?_toArray]; rfl) (by kernel_rfl) (by kernel_rfl) (by kernel_rfl) (by intro _ _ _ h; exact h) (Or.inl ⟨by rfl, ?hy11⟩) (by assumption) ?rest11
        case hy11 => (intro W hSW; (try dsimp only at hSW); go_simp; try with_reducible rfl)
        try simp only [Act.put, List.setIfInBounds_toArray, List.set_cons_zero, List.set_cons_succ]
        refine wpAnyH_take (i := 16) (v := ?v12) (by rw [List.getElem?_toArray]; rfl) (by kernel_rfl) (by kernel_rfl) (by kernel_rfl) (by intro _ _ _ h; exact h) (Or.inl ⟨by rfl, ?hy12⟩) (by assumption) ?rest12
        case hy12 => (intro W hSW; (try dsimp only at hSW); go_simp; try with_reducible rfl)
        try simp only [Act.put, List.setIfInBounds_toArray, List.set_cons_zero, List.set_cons_succ]
        refine wpAnyH_done (by kernel_rfl) ?_ _
        generalize hW : World.setRow _ _ _ = W4
        have B4 : Hid (Below W1.heap.size W1 W4) := Lib.hid (by rw [← hW]; exact BB.out)
        have Y4 : Hid (W4.heap[w2.heap.size]? = some (.cells #[.int .i64 s.g, .int .i64 s.t, .int .i64 s.e, .int .i64 s.k, .int .i64 s.b, .int .i64 s.l, .int .i64 s.f] 53 (0, 0))) := Lib.hid (by rw [← hW]; exact YY.out)
        have y2 := blk_cell (i := 2) (u := .int .i64 s.e) Y4.out rfl
        have y4 := blk_cell (i := 4) (u := .int .i64 s.b) Y4.out rfl
        obtain ⟨_, _, d2, d3⟩ := HF.out _ B4.out
        clear hW hS BB YY XX HC T0 T1
        go_upto_region 6 with (fail)
        have FL0 : Hid True := Lib.hid trivial
        go_region_held3 (fun W => W.cell? ⟨g, 2, none⟩ = some (.string ⟨a2.toArray⟩) ∧ W.cell? ⟨g, 3, none⟩ = some (.string ⟨a3.toArray⟩) ∧ W.cell? ⟨w2.heap.size, 2, none⟩ = some (.int .i64 s.e))
          (first | exact ⟨d2, d3, y2⟩ | exact hS1)
          (first
            | (clear FL0; go_at_call 43; refine (K0.out _).mono ?_; rintro e _ ⟨rfl, rfl⟩)
            | (go_at_call 43; refine (K1.out _).mono ?_; rintro e _ ⟨rfl, rfl⟩)
            | (go_at_call 89; refine (HP.out _ (HG.out _ B4.out.drew).rd).mono ?_; rintro e w6 ⟨rfl, hb6⟩; have B6 := Lib.hid (B4.out.drew.trans (hb6.mono B4.out.drew.size)); have Y6 : Hid (w6.heap[w2.heap.size]? = some (.cells #[.int .i64 s.g, .int .i64 s.t, .int .i64 s.e, .int .i64 s.k, .int .i64 s.b, .int .i64 s.l, .int .i64 s.f] 53 (0, 0))) := Lib.hid ((hb6.block _ (lt_of_some Y4.out)).trans Y4.out); have hS1 := And.intro (HF.out _ B6.out).2.2.1 (And.intro (HF.out _ B6.out).2.2.2 (blk_cell (i := 2) (u := .int .i64 s.e) Y6.out rfl)); clear hb6))
        clear y2 y4 d2 d3 hS1
        have z0 := blk_cell (i := 0) (u := .int .i64 s.g) Y6.out rfl
        have z1 := blk_cell (i := 1) (u := .int .i64 s.t) Y6.out rfl
        have z2 := blk_cell (i := 2) (u := .int .i64 s.e) Y6.out rfl
        have z3 := blk_cell (i := 3) (u := .int .i64 s.k) Y6.out rfl
        have z4 := blk_cell (i := 4) (u := .int .i64 s.b) Y6.out rfl
        have z5 := blk_cell (i := 5) (u := .int .i64 s.l) Y6.out rfl
        have z6 := blk_cell (i := 6) (u := .int .i64 s.f) Y6.out rfl
        go_wp2_with (refine wpList_store_row rfl 53 _ _ rfl w.heap.size _ rfl rfl 53 _ (HR.out _ B6.out) infoS rfl (one7 s.g s.t s.e s.k s.b s.l s.f) ?_)
        refine bodyPost_ret (v := .tuple #[.agg #[.int .i64 s.g, .int .i64 s.t, .int .i64 s.e, .int .i64 s.k, .int .i64 s.b, .int .i64 s.l, .int .i64 s.f], .string ⟨key.toArray⟩, .int .i64 0])
          (SupV.results_cell_two_row Tryz.results45 _ _ w.heap.size 53 _ (0, 0) _ rfl (setRow_same (HR.out _ B6.out)) Tryz.underlying53 rfl infoS) rfl
          ⟨rfl, below_setRow (B1.out.trans (B6.out.mono (Nat.le_of_lt HL.out))) (Nat.le_refl _) _⟩
      · go_simp
        have XL := Lib.hid BB.out.size
        replace BB := Lib.hid (BB.out.alloc BB.out.size (.cells #[.int .i64 0, .int .i64 0, .int .i64 0, .int .i64 0, .int .i64 0, .int .i64 0, .int .i64 0] 53))
        have XX : Hid ((W1.alloc (.cells #[.int .i64 0, .int .i64 0, .int .i64 0, .int .i64 0, .int .i64 0, .int .i64 0, .int .i64 0] 53)).drew.heap[W1.heap.size]? = some (.cells #[.int .i64 0, .int .i64 0, .int .i64 0, .int .i64 0, .int .i64 0, .int .i64 0, .int .i64 0] 53 (0, 0))) := Lib.hid (heap_alloc_new W1 (.cells #[.int .i64 0, .int .i64 0, .int .i64 0, .int .i64 0, .int .i64 0, .int .i64 0, .int .i64 0] 53))
        replace hS := HF.out _ BB.out
        refine hK.out _ _ hS (fun _ => ?_)
        clear hK K
        try simp only [List.setIfInBounds_toArray, List.set_cons_zero, List.set_cons_succ]
        refine wpAnyH_ready (rs := [8]) (by kernel_rfl) (by simp) (AllReadyH.cons (by rw [List.getElem?_toArray]; rfl) (fun K hK => ?_) AllReadyH.nil)
        go_simp
        refine (HC.out _ (HG.out _ BB.out)).mono ?_
        rintro e w2 ⟨rfl, hb2⟩
        replace BB := Lib.hid (BB.out.trans (hb2.mono BB.out.size))
        replace XX := Lib.hid ((hb2.block _ (lt_of_some XX.out)).trans XX.out)
        replace hS := HF.out _ BB.out
        clear hb2
        refine hK.out _ _ hS (fun _ => ?_)
        clear hK K
        try simp only [List.setIfInBounds_toArray, List.set_cons_zero, List.set_cons_succ]
        refine wpAnyH_take (i := 9) (v := ?v13) (by rw [List.getElem?_toArray]; rfl) (by kernel_rfl) (by kernel_rfl) (by kernel_rfl) (by intro _ _ _ h; exact h) (Or.inl ⟨by rfl, ?hy13⟩) (by assumption) ?rest13
        case hy13 => (intro W hSW; (try dsimp only at hSW); go_simp; try with_reducible rfl)
        try simp only [Act.put, List.setIfInBounds_toArray, List.set_cons_zero, List.set_cons_succ]
        refine wpAnyH_take (i := 10) (v := ?v14) (by rw [List.getElem?_toArray]; rfl) (by kernel_rfl) (by kernel_rfl) (by kernel_rfl) (by intro _ _ _ h; exact h) (Or.inl ⟨by rfl, ?hy14⟩) (by assumption) ?rest14
        case hy14 => (intro W hSW; (try dsimp only at hSW); go_simp; try with_reducible rfl)
        try simp only [Act.put, List.setIfInBounds_toArray, List.set_cons_zero, List.set_cons_succ]
        refine wpAnyH_take (i := 11) (v := ?v15) (by rw [List.getElem?_toArray]; rfl) (by kernel_rfl) (by kernel_rfl) (by kernel_rfl) (by intro _ _ _ h; exact h) (Or.inl ⟨by rfl, ?hy15⟩) (by assumption) ?rest15
        case hy15 => (intro W hSW; (try dsimp only at hSW); go_simp; try with_reducible rfl)
        try simp only [Act.put, List.setIfInBounds_toArray, List.set_cons_zero, List.set_cons_succ]
        refine wpAnyH_take (i := 12) (v := ?v16) (by rw [List.getElem?_toArray]; rfl) (by kernel_rfl) (by kernel_rfl) (by kernel_rfl) (by intro _ _ _ h; exact h) (Or.inl ⟨by rfl, ?hy16⟩) (by assumption) ?rest16
        case hy16 => (intro W hSW; (try dsimp only at hSW); go_simp; try with_reducible rfl)
        try simp only [Act.put, List.setIfInBounds_toArray, List.set_cons_zero, List.set_cons_succ]
        refine wpAnyH_ready (rs := [14]) (by kernel_rfl) (by simp) (AllReadyH.cons (by rw [List.getElem?_toArray]; rfl) (fun K hK => ?_) AllReadyH.nil)
        rw [if_pos (by rfl)]
        refine wp_store_row 53 _ _ rfl _ #[.int .i64 s.g, .int .i64 s.t, .int .i64 s.e, .int .i64 s.k, .int .i64 s.b, .int .i64 s.l, .int .i64 s.f] rfl rfl 53 #[.int .i64 0, .int .i64 0, .int .i64 0, .int .i64 0, .int .i64 0, .int .i64 0, .int .i64 0] XX.out infoS rfl (one7 _ _ _ _ _ _ _) ?_
        replace BB := Lib.hid (below_setRow BB.out XL.out #[.int .i64 s.g, .int .i64 s.t, .int .i64 s.e, .int .i64 s.k, .int .i64 s.b, .int .i64 s.l, .int .i64 s.f])
        have YY := Lib.hid (setRow_same (cs := #[.int .i64 s.g, .int .i64 s.t, .int .i64 s.e, .int .i64 s.k, .int .i64 s.b, .int .i64 s.l, .int .i64 s.f]) XX.out)
        replace hS := HF.out _ BB.out
        refine hK.out _ _ hS (fun _ => ?_)
        clear hK K
        try simp only [List.setIfInBounds_toArray, List.set_cons_zero, List.set_cons_succ]
        refine wpAnyH_take (i := 15) (v := ?v17) (by rw [List.getElem?_toArray]; rfl) (by kernel_rfl) (by kernel_rfl) (by kernel_rfl) (by intro _ _ _ h; exact h) (Or.inl ⟨by rfl, ?hy17⟩) (by assumption) ?rest17
        case hy17 => (intro W hSW; (try dsimp only at hSW); go_simp; try with_reducible rfl)
        try simp only [Act.put, List.setIfInBounds_toArray, List.set_cons_zero, List.set_cons_succ]
        refine wpAnyH_take (i := 16) (v := ?v18) (by rw [List.getElem?_toArray]; rfl) (by kernel_rfl) (by kernel_rfl) (by kernel_rfl) (by intro _ _ _ h; exact h) (Or.inl ⟨by rfl, ?hy18⟩) (by assumption) ?rest18
        case hy18 => (intro W hSW; (try dsimp only at hSW); go_simp; try with_reducible rfl)
        try simp only [Act.put, List.setIfInBounds_toArray, List.set_cons_zero, List.set_cons_succ]
        refine wpAnyH_done (by kernel_rfl) ?_ _
        generalize hW : World.setRow _ _ _ = W4
        have B4 : Hid (Below W1.heap.size W1 W4) := Lib.hid (by rw [← hW]; exact BB.out)
        have Y4 : Hid (W4.heap[W1.heap.size]? = some (.cells #[.int .i64 s.g, .int .i64 s.t, .int .i64 s.e, .int .i64 s.k, .int .i64 s.b, .int .i64 s.l, .int .i64 s.f] 53 (0, 0))) := Lib.hid (by rw [← hW]; exact YY.out)
        have y2 := blk_cell (i := 2) (u := .int .i64 s.e) Y4.out rfl
        have y4 := blk_cell (i := 4) (u := .int .i64 s.b) Y4.out rfl
        obtain ⟨_, _, d2, d3⟩ := HF.out _ B4.out
        clear hW hS BB YY XX HC T0 T1
        go_upto_region 6 with (fail)
        have FL0 : Hid True := Lib.hid trivial
        go_region_held3 (fun W => W.cell? ⟨g, 2, none⟩ = some (.string ⟨a2.toArray⟩) ∧ W.cell? ⟨g, 3, none⟩ = some (.string ⟨a3.toArray⟩) ∧ W.cell? ⟨W1.heap.size, 2, none⟩ = some (.int .i64 s.e))
          (first | exact ⟨d2, d3, y2⟩ | exact hS1)
          (first
            | (clear FL0; go_at_call 43; refine (K0.out _).mono ?_; rintro e _ ⟨rfl, rfl⟩)
            | (go_at_call 43; refine (K1.out _).mono ?_; rintro e _ ⟨rfl, rfl⟩)
            | (go_at_call 89; refine (HP.out _ (HG.out _ B4.out.drew).rd).mono ?_; rintro e w6 ⟨rfl, hb6⟩; have B6 := Lib.hid (B4.out.drew.trans (hb6.mono B4.out.drew.size)); have Y6 : Hid (w6.heap[W1.heap.size]? = some (.cells #[.int .i64 s.g, .int .i64 s.t, .int .i64 s.e, .int .i64 s.k, .int .i64 s.b, .int .i64 s.l, .int .i64 s.f] 53 (0, 0))) := Lib.hid ((hb6.block _ (lt_of_some Y4.out)).trans Y4.out); have hS1 := And.intro (HF.out _ B6.out).2.2.1 (And.intro (HF.out _ B6.out).2.2.2 (blk_cell (i := 2) (u := .int .i64 s.e) Y6.out rfl)); clear hb6))
        clear y2 y4 d2 d3 hS1
        have z0 := blk_cell (i := 0) (u := .int .i64 s.g) Y6.out rfl
        have z1 := blk_cell (i := 1) (u := .int .i64 s.t) Y6.out rfl
        have z2 := blk_cell (i := 2) (u := .int .i64 s.e) Y6.out rfl
        have z3 := blk_cell (i := 3) (u := .int .i64 s.k) Y6.out rfl
        have z4 := blk_cell (i := 4) (u := .int .i64 s.b) Y6.out rfl
        have z5 := blk_cell (i := 5) (u := .int .i64 s.l) Y6.out rfl
        have z6 := blk_cell (i := 6) (u := .int .i64 s.f) Y6.out rfl
        go_wp2_with (refine wpList_store_row rfl 53 _ _ rfl w.heap.size _ rfl rfl 53 _ (HR.out _ B6.out) infoS rfl (one7 s.g s.t s.e s.k s.b s.l s.f) ?_)
        refine bodyPost_ret (v := .tuple #[.agg #[.int .i64 s.g, .int .i64 s.t, .int .i64 s.e, .int .i64 s.k, .int .i64 s.b, .int .i64 s.l, .int .i64 s.f], .string ⟨key.toArray⟩, .int .i64 0])
          (SupV.results_cell_two_row Tryz.results45 _ _ w.heap.size 53 _ (0, 0) _ rfl (setRow_same (HR.out _ B6.out)) Tryz.underlying53 rfl infoS) rfl
          ⟨rfl, below_setRow (B1.out.trans (B6.out.mono (Nat.le_of_lt HL.out))) (Nat.le_refl _) _⟩
    · go_simp
      have XL := Lib.hid BB.out.size
      replace BB := Lib.hid (BB.out.alloc BB.out.size (.cells #[.int .i64 0, .int .i64 0, .int .i64 0, .int .i64 0, .int .i64 0, .int .i64 0, .int .i64 0] 53))
      have XX : Hid ((W1.alloc (.cells #[.int .i64 0, .int .i64 0, .int .i64 0, .int .i64 0, .int .i64 0, .int .i64 0, .int .i64 0] 53)).drew.heap[W1.heap.size]? = some (.cells #[.int .i64 0, .int .i64 0, .int .i64 0, .int .i64 0, .int .i64 0, .int .i64 0, .int .i64 0] 53 (0, 0))) := Lib.hid (heap_alloc_new W1 (.cells #[.int .i64 0, .int .i64 0, .int .i64 0, .int .i64 0, .int .i64 0, .int .i64 0, .int .i64 0] 53))
      replace hS := HF.out _ BB.out
      refine hK.out _ _ hS (fun _ => ?_)
      clear hK K
      try simp only [List.setIfInBounds_toArray, List.set_cons_zero, List.set_cons_succ]
      refine wpAnyH_ready (rs := [5]) (by kernel_rfl) (by simp) (AllReadyH.cons (by rw [List.getElem?_toArray]; rfl) (fun K hK => ?_) AllReadyH.nil)
      go_simp
      refine (T1.out _).mono ?_
      rintro e _ ⟨rfl, rfl⟩
      refine hK.out _ _ hS (fun _ => ?_)
      clear hK K
      try simp only [List.setIfInBounds_toArray, List.set_cons_zero, List.set_cons_succ]
      refine wpAnyH_take (i := 6) (v := ?v19) (by rw [List.getElem?_toArray]; rfl) (by kernel_rfl) (by kernel_rfl) (by kernel_rfl) (by intro _ _ _ h; exact h) (Or.inl ⟨by rfl, ?hy19⟩) (by assumption) ?rest19
      case hy19 => (intro W hSW; (try dsimp only at hSW); go_simp; try with_reducible rfl)
      try simp only [Act.put, List.setIfInBounds_toArray, List.set_cons_zero, List.set_cons_succ]
      refine wpAnyH_take (i := 7) (v := ?v20) (by rw [List.getElem?_toArray]; rfl) (by kernel_rfl) (by kernel_rfl) (by kernel_rfl) (by intro _ _ _ h; exact h) (Or.inl ⟨by rfl, ?hy20⟩) (by assumption) ?rest20
      case hy20 => (intro W hSW; (try dsimp only at hSW); go_simp; try with_reducible rfl)
      try simp only [Act.put, List.setIfInBounds_toArray, List.set_cons_zero, List.set_cons_succ]
      refine wpAnyH_ready (rs := [8]) (by kernel_rfl) (by simp) (AllReadyH.cons (by rw [List.getElem?_toArray]; rfl) (fun K hK => ?_) AllReadyH.nil)
      go_simp
      refine (HC.out _ (HG.out _ BB.out)).mono ?_
      rintro e w2 ⟨rfl, hb2⟩
      replace BB := Lib.hid (BB.out.trans (hb2.mono BB.out.size))
      replace XX := Lib.hid ((hb2.block _ (lt_of_some XX.out)).trans XX.out)
      replace hS := HF.out _ BB.out
      clear hb2
      refine hK.out _ _ hS (fun _ => ?_)
      clear hK K
      try simp only [List.setIfInBounds_toArray, List.set_cons_zero, List.set_cons_succ]
      refine wpAnyH_take (i := 9) (v := ?v21) (by rw [List.getElem?_toArray]; rfl) (by kernel_rfl) (by kernel_rfl) (by kernel_rfl) (by intro _ _ _ h; exact h) (Or.inl ⟨by rfl, ?hy21⟩) (by assumption) ?rest21
      case hy21 => (intro W hSW; (try dsimp only at hSW); go_simp; try with_reducible rfl)
      try simp only [Act.put, List.setIfInBounds_toArray, List.set_cons_zero, List.set_cons_succ]
      refine wpAnyH_take (i := 10) (v := ?v22) (by rw [List.getElem?_toArray]; rfl) (by kernel_rfl) (by kernel_rfl) (by kernel_rfl) (by intro _ _ _ h; exact h) (Or.inl ⟨by rfl, ?hy22⟩) (by assumption) ?rest22
      case hy22 => (intro W hSW; (try dsimp only at hSW); go_simp; try with_reducible rfl)
      try simp only [Act.put, List.setIfInBounds_toArray, List.set_cons_zero, List.set_cons_succ]
      refine wpAnyH_take (i := 11) (v := ?v23) (by rw [List.getElem?_toArray]; rfl) (by kernel_rfl) (by kernel_rfl) (by kernel_rfl) (by intro _ _ _ h; exact h) (Or.inl ⟨by rfl, ?hy23⟩) (by assumption) ?rest23
      case hy23 => (intro W hSW; (try dsimp only at hSW); go_simp; try with_reducible rfl)
      try simp only [Act.put, List.setIfInBounds_toArray, List.set_cons_zero, List.set_cons_succ]
      refine wpAnyH_take (i := 12) (v := ?v24) (by rw [List.getElem?_toArray]; rfl) (by kernel_rfl) (by kernel_rfl) (by kernel_rfl) (by intro _ _ _ h; exact h) (Or.inl ⟨by rfl, ?hy24⟩) (by assumption) ?rest24
      case hy24 => (intro W hSW; (try dsimp only at hSW); go_simp; try with_reducible rfl)
      try simp only [Act.put, List.setIfInBounds_toArray, List.set_cons_zero, List.set_cons_succ]
      refine wpAnyH_ready (rs := [14]) (by kernel_rfl) (by simp) (AllReadyH.cons (by rw [List.getElem?_toArray]; rfl) (fun K hK => ?_) AllReadyH.nil)
      rw [if_pos (by rfl)]
      refine wp_store_row 53 _ _ rfl _ #[.int .i64 s.g, .int .i64 s.t, .int .i64 s.e, .int .i64 s.k, .int .i64 s.b, .int .i64 s.l, .int .i64 s.f] rfl rfl 53 #[.int .i64 0, .int .i64 0, .int .i64 0, .int .i64 0, .int .i64 0, .int .i64 0, .int .i64 0] XX.out infoS rfl (one7 _ _ _ _ _ _ _) ?_
      replace BB := Lib.hid (below_setRow BB.out XL.out #[.int .i64 s.g, .int .i64 s.t, .int .i64 s.e, .int .i64 s.k, .int .i64 s.b, .int .i64 s.l, .int .i64 s.f])
      have YY := Lib.hid (setRow_same (cs := #[.int .i64 s.g, .int .i64 s.t, .int .i64 s.e, .int .i64 s.k, .int .i64 s.b, .int .i64 s.l, .int .i64 s.f]) XX.out)
      replace hS := HF.out _ BB.out
      refine hK.out _ _ hS (fun _ => ?_)
      clear hK K
      try simp only [List.setIfInBounds_toArray, List.set_cons_zero, List.set_cons_succ]
      refine wpAnyH_take (i := 15) (v := ?v25) (by rw [List.getElem?_toArray]; rfl) (by kernel_rfl) (by kernel_rfl) (by kernel_rfl) (by intro _ _ _ h; exact h) (Or.inl ⟨by rfl, ?hy25⟩) (by assumption) ?rest25
      case hy25 => (intro W hSW; (try dsimp only at hSW); go_simp; try with_reducible rfl)
      try simp only [Act.put, List.setIfInBounds_toArray, List.set_cons_zero, List.set_cons_succ]
      refine wpAnyH_take (i := 16) (v := ?v26) (by rw [List.getElem?_toArray]; rfl) (by kernel_rfl) (by kernel_rfl) (by kernel_rfl) (by intro _ _ _ h; exact h) (Or.inl ⟨by rfl, ?hy26⟩) (by assumption) ?rest26
      case hy26 => (intro W hSW; (try dsimp only at hSW); go_simp; try with_reducible rfl)
      try simp only [Act.put, List.setIfInBounds_toArray, List.set_cons_zero, List.set_cons_succ]
      refine wpAnyH_done (by kernel_rfl) ?_ _
      generalize hW : World.setRow _ _ _ = W4
      have B4 : Hid (Below W1.heap.size W1 W4) := Lib.hid (by rw [← hW]; exact BB.out)
      have Y4 : Hid (W4.heap[W1.heap.size]? = some (.cells #[.int .i64 s.g, .int .i64 s.t, .int .i64 s.e, .int .i64 s.k, .int .i64 s.b, .int .i64 s.l, .int .i64 s.f] 53 (0, 0))) := Lib.hid (by rw [← hW]; exact YY.out)
      have y2 := blk_cell (i := 2) (u := .int .i64 s.e) Y4.out rfl
      have y4 := blk_cell (i := 4) (u := .int .i64 s.b) Y4.out rfl
      obtain ⟨_, _, d2, d3⟩ := HF.out _ B4.out
      clear hW hS BB YY XX HC T0 T1
      go_upto_region 6 with (fail)
      have FL0 : Hid True := Lib.hid trivial
      go_region_held3 (fun W => W.cell? ⟨g, 2, none⟩ = some (.string ⟨a2.toArray⟩) ∧ W.cell? ⟨g, 3, none⟩ = some (.string ⟨a3.toArray⟩) ∧ W.cell? ⟨W1.heap.size, 2, none⟩ = some (.int .i64 s.e))
        (first | exact ⟨d2, d3, y2⟩ | exact hS1)
        (first
          | (clear FL0; go_at_call 43; refine (K0.out _).mono ?_; rintro e _ ⟨rfl, rfl⟩)
          | (go_at_call 43; refine (K1.out _).mono ?_; rintro e _ ⟨rfl, rfl⟩)
          | (go_at_call 89; refine (HP.out _ (HG.out _ B4.out.drew).rd).mono ?_; rintro e w6 ⟨rfl, hb6⟩; have B6 := Lib.hid (B4.out.drew.trans (hb6.mono B4.out.drew.size)); have Y6 : Hid (w6.heap[W1.heap.size]? = some (.cells #[.int .i64 s.g, .int .i64 s.t, .int .i64 s.e, .int .i64 s.k, .int .i64 s.b, .int .i64 s.l, .int .i64 s.f] 53 (0, 0))) := Lib.hid ((hb6.block _ (lt_of_some Y4.out)).trans Y4.out); have hS1 := And.intro (HF.out _ B6.out).2.2.1 (And.intro (HF.out _ B6.out).2.2.2 (blk_cell (i := 2) (u := .int .i64 s.e) Y6.out rfl)); clear hb6))
      clear y2 y4 d2 d3 hS1
      have z0 := blk_cell (i := 0) (u := .int .i64 s.g) Y6.out rfl
      have z1 := blk_cell (i := 1) (u := .int .i64 s.t) Y6.out rfl
      have z2 := blk_cell (i := 2) (u := .int .i64 s.e) Y6.out rfl
      have z3 := blk_cell (i := 3) (u := .int .i64 s.k) Y6.out rfl
      have z4 := blk_cell (i := 4) (u := .int .i64 s.b) Y6.out rfl
      have z5 := blk_cell (i := 5) (u := .int .i64 s.l) Y6.out rfl
      have z6 := blk_cell (i := 6) (u := .int .i64 s.f) Y6.out rfl
      go_wp2_with (refine wpList_store_row rfl 53 _ _ rfl w.heap.size _ rfl rfl 53 _ (HR.out _ B6.out) infoS rfl (one7 s.g s.t s.e s.k s.b s.l s.f) ?_)
      refine bodyPost_ret (v := .tuple #[.agg #[.int .i64 s.g, .int .i64 s.t, .int .i64 s.e, .int .i64 s.k, .int .i64 s.b, .int .i64 s.l, .int .i64 s.f], .string ⟨key.toArray⟩, .int .i64 0])
        (SupV.results_cell_two_row Tryz.results45 _ _ w.heap.size 53 _ (0, 0) _ rfl (setRow_same (HR.out _ B6.out)) Tryz.underlying53 rfl infoS) rfl
        ⟨rfl, below_setRow (B1.out.trans (B6.out.mono (Nat.le_of_lt HL.out))) (Nat.le_refl _) _⟩
  · go_simp
    have XL := Lib.hid BB.out.size
    replace BB := Lib.hid (BB.out.alloc BB.out.size (.cells #[.int .i64 0, .int .i64 0, .int .i64 0, .int .i64 0, .int .i64 0, .int .i64 0, .int .i64 0] 53))
    have XX : Hid ((W1.alloc (.cells #[.int .i64 0, .int .i64 0, .int .i64 0, .int .i64 0, .int .i64 0, .int .i64 0, .int .i64 0] 53)).drew.heap[W1.heap.size]? = some (.cells #[.int .i64 0, .int .i64 0, .int .i64 0, .int .i64 0, .int .i64 0, .int .i64 0, .int .i64 0] 53 (0, 0))) := Lib.hid (heap_alloc_new W1 (.cells #[.int .i64 0, .int .i64 0, .int .i64 0, .int .i64 0, .int .i64 0, .int .i64 0, .int .i64 0] 53))
    replace hS := HF.out _ BB.out
    refine hK.out _ _ hS (fun _ => ?_)
    clear hK K
    try simp only [List.setIfInBounds_toArray, List.set_cons_zero, List.set_cons_succ]
    refine wpAnyH_ready (rs := [1]) (by kernel_rfl) (by simp) (AllReadyH.cons (by rw [List.getElem?_toArray]; rfl) (fun K hK => ?_) AllReadyH.nil)
    go_simp
    refine (T0.out _).mono ?_
    rintro e _ ⟨rfl, rfl⟩
    refine hK.out _ _ hS (fun _ => ?_)
    clear hK K
    try simp only [List.setIfInBounds_toArray, List.set_cons_zero, List.set_cons_succ]
    refine wpAnyH_take (i := 2) (v := ?v27) (by rw [List.getElem?_toArray]; rfl) (by kernel_rfl) (by kernel_rfl) (by kernel_rfl) (by intro _ _ _ h; exact h) (Or.inl ⟨by rfl, ?hy27⟩) (by assumption) ?rest27
    case hy27 => (intro W hSW; (try dsimp only at hSW); go_simp; try with_reducible rfl)
    try simp only [Act.put, List.setIfInBounds_toArray, List.set_cons_zero, List.set_cons_succ]
    refine wpAnyH_take (i := 3) (v := ?v28) (by rw [List.getElem?_toArray]; rfl) (by kernel_rfl) (by kernel_rfl) (by kernel_rfl) (by intro _ _ _ h; exact h) (Or.inl ⟨by rfl, ?hy28⟩) (by assumption) ?rest28
    case hy28 => (intro W hSW; (try dsimp only at hSW); go_simp; try with_reducible rfl)
    try simp only [Act.put, List.setIfInBounds_toArray, List.set_cons_zero, List.set_cons_succ]
    refine wpAnyH_ready (rs := [5]) (by kernel_rfl) (by simp) (AllReadyH.cons (by rw [List.getElem?_toArray]; rfl) (fun K hK => ?_) AllReadyH.nil)
    go_simp
    refine (T1.out _).mono ?_
    rintro e _ ⟨rfl, rfl⟩
    refine hK.out _ _ hS (fun _ => ?_)
    clear hK K
    try simp only [List.setIfInBounds_toArray, List.set_cons_zero, List.set_cons_succ]
    refine wpAnyH_take (i := 6) (v := ?v29) (by rw [List.getElem?_toArray]; rfl) (by kernel_rfl) (by kernel_rfl) (by kernel_rfl) (by intro _ _ _ h; exact h) (Or.inl ⟨by rfl, ?hy29⟩) (by assumption) ?rest29
    case hy29 => (intro W hSW; (try dsimp only at hSW); go_simp; try with_reducible rfl)
    try simp only [Act.put, List.setIfInBounds_toArray, List.set_cons_zero, List.set_cons_succ]
    refine wpAnyH_take (i := 7) (v := ?v30) (by rw [List.getElem?_toArray]; rfl) (by kernel_rfl) (by kernel_rfl) (by kernel_rfl) (by intro _ _ _ h; exact h) (Or.inl ⟨by rfl, ?hy30⟩) (by assumption) ?rest30
    case hy30 => (intro W hSW; (try dsimp only at hSW); go_simp; try with_reducible rfl)
    try simp only [Act.put, List.setIfInBounds_toArray, List.set_cons_zero, List.set_cons_succ]
    refine wpAnyH_ready (rs := [8]) (by kernel_rfl) (by simp) (AllReadyH.cons (by rw [List.getElem?_toArray]; rfl) (fun K hK => ?_) AllReadyH.nil)
    go_simp
    refine (HC.out _ (HG.out _ BB.out)).mono ?_
    rintro e w2 ⟨rfl, hb2⟩
    replace BB := Lib.hid (BB.out.trans (hb2.mono BB.out.size))
    replace XX := Lib.hid ((hb2.block _ (lt_of_some XX.out)).trans XX.out)
    replace hS := HF.out _ BB.out
    clear hb2
    refine hK.out _ _ hS (fun _ => ?_)
    clear hK K
    try simp only [List.setIfInBounds_toArray, List.set_cons_zero, List.set_cons_succ]
    refine wpAnyH_take (i := 9) (v := ?v31) (by rw [List.getElem?_toArray]; rfl) (by kernel_rfl) (by kernel_rfl) (by kernel_rfl) (by intro _ _ _ h; exact h) (Or.inl ⟨by rfl, ?hy31⟩) (by assumption) ?rest31
    case hy31 => (intro W hSW; (try dsimp only at hSW); go_simp; try with_reducible rfl)
    try simp only [Act.put, List.setIfInBounds_toArray, List.set_cons_zero, List.set_cons_succ]
    refine wpAnyH_take (i := 10) (v := ?v32) (by rw [List.getElem?_toArray]; rfl) (by kernel_rfl) (by kernel_rfl) (by kernel_rfl) (by intro _ _ _ h; exact h) (Or.inl ⟨by rfl, ?hy32⟩) (by assumption) ?rest32
    case hy32 => (intro W hSW; (try dsimp only at hSW); go_simp; try with_reducible rfl)
    try simp only [Act.put, List.setIfInBounds_toArray, List.set_cons_zero, List.set_cons_succ]
    refine wpAnyH_take (i := 11) (v := ?v33) (by rw [List.getElem?_toArray]; rfl) (by kernel_rfl) (by kernel_rfl) (by kernel_rfl) (by intro _ _ _ h; exact h) (Or.inl ⟨by rfl, ?hy33⟩) (by assumption) ?rest33
    case hy33 => (intro W hSW; (try dsimp only at hSW); go_simp; try with_reducible rfl)
    try simp only [Act.put, List.setIfInBounds_toArray, List.set_cons_zero, List.set_cons_succ]
    refine wpAnyH_take (i := 12) (v := ?v34) (by rw [List.getElem?_toArray]; rfl) (by kernel_rfl) (by kernel_rfl) (by kernel_rfl) (by intro _ _ _ h; exact h) (Or.inl ⟨by rfl, ?hy34⟩) (by assumption) ?rest34
    case hy34 => (intro W hSW; (try dsimp only at hSW); go_simp; try with_reducible rfl)
    try simp only [Act.put, List.setIfInBounds_toArray, List.set_cons_zero, List.set_cons_succ]
    refine wpAnyH_ready (rs := [14]) (by kernel_rfl) (by simp) (AllReadyH.cons (by rw [List.getElem?_toArray]; rfl) (fun K hK => ?_) AllReadyH.nil)
    rw [if_pos (by rfl)]
    refine wp_store_row 53 _ _ rfl _ #[.int .i64 s.g, .int .i64 s.t, .int .i64 s.e, .int .i64 s.k, .int .i64 s.b, .int .i64 s.l, .int .i64 s.f] rfl rfl 53 #[.int .i64 0, .int .i64 0, .int .i64 0, .int .i64 0, .int .i64 0, .int .i64 0, .int .i64 0] XX.out infoS rfl (one7 _ _ _ _ _ _ _) ?_
    replace BB := Lib.hid (below_setRow BB.out XL.out #[.int .i64 s.g, .int .i64 s.t, .int .i64 s.e, .int .i64 s.k, .int .i64 s.b, .int .i64 s.l, .int .i64 s.f])
    have YY := Lib.hid (setRow_same (cs := #[.int .i64 s.g, .int .i64 s.t, .int .i64 s.e, .int .i64 s.k, .int .i64 s.b, .int .i64 s.l, .int .i64 s.f]) XX.out)
    replace hS := HF.out _ BB.out
    refine hK.out _ _ hS (fun _ => ?_)
    clear hK K
    try simp only [List.setIfInBounds_toArray, List.set_cons_zero, List.set_cons_succ]
    refine wpAnyH_take (i := 15) (v := ?v35) (by rw [List.getElem?_toArray]; rfl) (by kernel_rfl) (by kernel_rfl) (by kernel_rfl) (by intro _ _ _ h; exact h) (Or.inl ⟨by rfl, ?hy35⟩) (by assumption) ?rest35
    case hy35 => (intro W hSW; (try dsimp only at hSW); go_simp; try with_reducible rfl)
    try simp only [Act.put, List.setIfInBounds_toArray, List.set_cons_zero, List.set_cons_succ]
    refine wpAnyH_take (i := 16) (v := ?v36) (by rw [List.getElem?_toArray]; rfl) (by kernel_rfl) (by kernel_rfl) (by kernel_rfl) (by intro _ _ _ h; exact h) (Or.inl ⟨by rfl, ?hy36⟩) (by assumption) ?rest36
    case hy36 => (intro W hSW; (try dsimp only at hSW); go_simp; try with_reducible rfl)
    try simp only [Act.put, List.setIfInBounds_toArray, List.set_cons_zero, List.set_cons_succ]
    refine wpAnyH_done (by kernel_rfl) ?_ _
    generalize hW : World.setRow _ _ _ = W4
    have B4 : Hid (Below W1.heap.size W1 W4) := Lib.hid (by rw [← hW]; exact BB.out)
    have Y4 : Hid (W4.heap[W1.heap.size]? = some (.cells #[.int .i64 s.g, .int .i64 s.t, .int .i64 s.e, .int .i64 s.k, .int .i64 s.b, .int .i64 s.l, .int .i64 s.f] 53 (0, 0))) := Lib.hid (by rw [← hW]; exact YY.out)
    have y2 := blk_cell (i := 2) (u := .int .i64 s.e) Y4.out rfl
    have y4 := blk_cell (i := 4) (u := .int .i64 s.b) Y4.out rfl
    obtain ⟨_, _, d2, d3⟩ := HF.out _ B4.out
    clear hW hS BB YY XX HC T0 T1
    go_upto_region 6 with (fail)
    have FL0 : Hid True := Lib.hid trivial
    go_region_held3 (fun W => W.cell? ⟨g, 2, none⟩ = some (.string ⟨a2.toArray⟩) ∧ W.cell? ⟨g, 3, none⟩ = some (.string ⟨a3.toArray⟩) ∧ W.cell? ⟨W1.heap.size, 2, none⟩ = some (.int .i64 s.e))
      (first | exact ⟨d2, d3, y2⟩ | exact hS1)
      (first
        | (clear FL0; go_at_call 43; refine (K0.out _).mono ?_; rintro e _ ⟨rfl, rfl⟩)
        | (go_at_call 43; refine (K1.out _).mono ?_; rintro e _ ⟨rfl, rfl⟩)
        | (go_at_call 89; refine (HP.out _ (HG.out _ B4.out.drew).rd).mono ?_; rintro e w6 ⟨rfl, hb6⟩; have B6 := Lib.hid (B4.out.drew.trans (hb6.mono B4.out.drew.size)); have Y6 : Hid (w6.heap[W1.heap.size]? = some (.cells #[.int .i64 s.g, .int .i64 s.t, .int .i64 s.e, .int .i64 s.k, .int .i64 s.b, .int .i64 s.l, .int .i64 s.f] 53 (0, 0))) := Lib.hid ((hb6.block _ (lt_of_some Y4.out)).trans Y4.out); have hS1 := And.intro (HF.out _ B6.out).2.2.1 (And.intro (HF.out _ B6.out).2.2.2 (blk_cell (i := 2) (u := .int .i64 s.e) Y6.out rfl)); clear hb6))
    clear y2 y4 d2 d3 hS1
    have z0 := blk_cell (i := 0) (u := .int .i64 s.g) Y6.out rfl
    have z1 := blk_cell (i := 1) (u := .int .i64 s.t) Y6.out rfl
    have z2 := blk_cell (i := 2) (u := .int .i64 s.e) Y6.out rfl
    have z3 := blk_cell (i := 3) (u := .int .i64 s.k) Y6.out rfl
    have z4 := blk_cell (i := 4) (u := .int .i64 s.b) Y6.out rfl
    have z5 := blk_cell (i := 5) (u := .int .i64 s.l) Y6.out rfl
    have z6 := blk_cell (i := 6) (u := .int .i64 s.f) Y6.out rfl
    go_wp2_with (refine wpList_store_row rfl 53 _ _ rfl w.heap.size _ rfl rfl 53 _ (HR.out _ B6.out) infoS rfl (one7 s.g s.t s.e s.k s.b s.l s.f) ?_)
    refine bodyPost_ret (v := .tuple #[.agg #[.int .i64 s.g, .int .i64 s.t, .int .i64 s.e, .int .i64 s.k, .int .i64 s.b, .int .i64 s.l, .int .i64 s.f], .string ⟨key.toArray⟩, .int .i64 0])
      (SupV.results_cell_two_row Tryz.results45 _ _ w.heap.size 53 _ (0, 0) _ rfl (setRow_same (HR.out _ B6.out)) Tryz.underlying53 rfl infoS) rfl
      ⟨rfl, below_setRow (B1.out.trans (B6.out.mono (Nat.le_of_lt HL.out))) (Nat.le_refl _) _⟩
end Go.Proofs.YtoilcieineejiaaGreatDoor.JouI
