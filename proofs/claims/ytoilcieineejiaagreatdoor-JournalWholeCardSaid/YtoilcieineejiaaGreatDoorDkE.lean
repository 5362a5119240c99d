/- keepsakeref01.Texts, keepsakeref08.Same: the walks of their texts; two writes held against each other. No conditions but those that each lemma names. -/
import Derived.Test.YtoilcieineejiaaGreatDoorLDrs
import Derived.Laws.StructEq
import Derived.Deep.QuietTactic
import Derived.BigQuiet
namespace Go.Proofs.YtoilcieineejiaaGreatDoor.DkE
open Go.RowKit
open DkN DkM DkC
theorem str_beq (s t : ByteArray) : (s.toList == t.toList) = decide (s = t) := by
  rw [Bool.eq_iff_iff, beq_iff_eq, decide_eq_true_eq, ByteArray.toList_eq, ByteArray.toList_eq]
  refine ⟨fun h => ?_, fun h => by rw [h]⟩
  obtain ⟨x⟩ := s
  obtain ⟨y⟩ := t
  have : x = y := Array.toList_inj.1 h
  rw [this]
theorem fields_put : Tryz.prog.fieldsOf 107 = #[{ name := "At", type := 3, offset := 0, embedded := false, tag := "", pkgPath := "", byteOffset := 0 }, { name := "Data", type := 9, offset := 1, embedded := false, tag := "", pkgPath := "", byteOffset := 8 }] := by kernel_rfl
theorem under_put : Tryz.prog.underlying 107 = some (.struct (Tryz.prog.fieldsOf 107)) := by kernel_rfl
theorem stood_put : Tryz.prog.stoodInHeld 107 = false := by kernel_rfl
theorem run_neq_put (W : World) (a b : Int) (s t : ByteArray) (q : Bool) (h : (decide (a = b) && decide (s = t)) = q) :
    (binOp .neq 107 (.agg #[.int .i64 a, .string s]) (.agg #[.int .i64 b, .string t])).run Tryz.prog W = .ok (.bool (!q)) W := by
  have e1 : (Op.equalIn 9999 3 (.int .i64 a) (.int .i64 b)).run Tryz.prog W = .ok (a == b) W := run_equalIn_int W 9998 3 .i64 .i64 a b Tryz.underlying3
  have e2 : (Op.equalIn 9999 9 (.string s) (.string t)).run Tryz.prog W = .ok (s.toList == t.toList) W := run_equalIn_string W 9998 9 s t Tryz.underlying9
  have p0 : ∀ (x : Int) (u : ByteArray), (part 3 #[.int .i64 x, .string u] 0).run Tryz.prog W = .ok (.int .i64 x) W := fun x u => by simp [part, isAgg, run_underlying Tryz.underlying3]
  have p1 : ∀ (x : Int) (u : ByteArray), (part 9 #[.int .i64 x, .string u] 1).run Tryz.prog W = .ok (.string u) W := fun x u => by simp [part, isAgg, run_underlying Tryz.underlying9]
  rw [run_neq_struct, run_equalIn_struct W 9999 _ _ _ under_put stood_put, fields_put]
  rw [str_beq] at e2
  subst h
  simp only [Op.eqFields, Sem.run_bind, Sem.run_ite, p0, p1, e1, e2, Result.andThen_ok]
  by_cases h1 : a = b <;> by_cases h2 : s = t <;> simp [h1, h2]
theorem take_next {α : Type} {l m : List α} {j : Nat} (hl : j < l.length) (hm : j < m.length) (h : l.take j = m.take j) (e : l[j] = m[j]) : l.take (j + 1) = m.take (j + 1) := by
  rw [List.take_succ_eq_append_getElem hl, List.take_succ_eq_append_getElem hm, h, e]
theorem ne_at {α : Type} {l m : List α} {j : Nat} (hl : j < l.length) (hm : j < m.length) (e : l[j] ≠ m[j]) : l ≠ m := fun h => e (by subst h; rfl)
theorem ret_bool {a b : Bool} (h : a = b) : Ending.returned (.bool a) = .returned (.bool b) := by rw [h]
set_option maxRecDepth 100000 in
set_option maxHeartbeats 1000000 in
theorem Texts_same (a a' : Option Addr) (c c' : Nat) (l m : List ByteArray) (w : World) (h : StrRow w a l) (h' : StrRow w a' m) (hl : l.length ≤ 100000) (hlm : l.length = m.length) :
    Calls Tryz.prog 18 #[.slice a l.length c, .slice a' m.length c'] w fun e w' => e = .returned (.bool (decide (l = m))) ∧ Below w.heap.size w w' := by
  have HH := Lib.hid h
  have HH' := Lib.hid h'
  have HLM := Lib.hid hlm
  rw [← hlm]
  obtain ⟨n, hn⟩ : ∃ n, l.length = n := ⟨_, rfl⟩
  rw [hn] at hl ⊢
  have HN := Lib.hid hn
  clear h h' hlm hn
  go_enter Tryz.func18, Tryz.ntmps18
  go_wp2_with fail
  go_loopw [5] (fun i wr => ∃ j : Nat, j ≤ n ∧ i = .int .i64 j ∧ l.take j = m.take j ∧ Below w.heap.size w wr) (fun i _ => n - (intOf i).toNat)
  case atStart => exact ⟨0, Nat.zero_le _, rfl, rfl, Below.refl _ _⟩
  case round =>
    obtain ⟨j, hj, rfl, heq, hbel⟩ := hrel
    have HB := Lib.hid hbel
    have HE := Lib.hid heq
    clear hbel heq
    by_cases hlt : j < n
    · have hjl : j < l.length := by rw [HN.out]; exact hlt
      have hjm : j < m.length := by rw [← HLM.out]; exact hjl
      obtain ⟨g, o, rfl, hg, hcs⟩ := HH.out (by omega)
      obtain ⟨g', o', rfl, hg', hcs'⟩ := HH'.out (by omega)
      have q0 : wr.cell? ⟨g, o + j, none⟩ = some (.string l[j]) := (HB.out.cell (p := ⟨g, o + j, none⟩) hg).trans (hcs j hjl)
      have q1 : wr.cell? ⟨g', o' + j, none⟩ = some (.string m[j]) := (HB.out.cell (p := ⟨g', o' + j, none⟩) hg').trans (hcs' j hjm)
      have HT := Lib.hid (take_next hjl hjm HE.out)
      have HNe := Lib.hid (ne_at hjl hjm)
      clear hcs hcs'
      generalize l[j] = s at *
      generalize m[j] = t at *
      clear hjl hjm
      have hjn : (j : Int) < (n : Int) := by omega
      have hj0 : (0 : Int) ≤ (j : Int) := by omega
      by_cases hst : s = t
      · have he : (s.toList == t.toList) = true := by rw [str_beq]; exact decide_eq_true hst
        have HT' := Lib.hid (HT.out hst)
        clear HT HNe hst
        go_wp2_with fail
        go_quiet (fail)
        go_wp2
        go_roundw
        case rel => exact ⟨j + 1, by omega, by go_num, HT'.out, ⟨HB.out.os, HB.out.tape, HB.out.output, HB.out.size, HB.out.block⟩⟩
        case measure => simp [intOf]; omega
      · have he : (s.toList == t.toList) = false := by rw [str_beq]; exact decide_eq_false hst
        have HV := Lib.hid (decide_eq_false (HNe.out hst))
        clear HT HNe hst
        go_wp2_with fail
        go_quiet (fail)
        go_wp2
        go_ret
        exact ⟨ret_bool HV.out.symm, ⟨HB.out.os, HB.out.tape, HB.out.output, HB.out.size, HB.out.block⟩⟩
    · obtain rfl : j = n := by omega
      have hv : l = m := by
        have := HE.out
        rwa [List.take_of_length_le (by rw [HN.out]; exact Nat.le_refl _), List.take_of_length_le (by rw [← HLM.out, HN.out]; exact Nat.le_refl _)] at this
      have HV := Lib.hid (decide_eq_true hv)
      clear hv HE
      go_wp2
      go_ret
      exact ⟨ret_bool HV.out.symm, HB.out⟩
set_option maxRecDepth 100000 in
/-- THE CONTRACT of Texts. -/
theorem Texts (a a' : Option Addr) (c c' : Nat) (l m : List ByteArray) (w : World) (h : StrRow w a l) (h' : StrRow w a' m) (hl : l.length ≤ 100000) :
    Calls Tryz.prog 18 #[.slice a l.length c, .slice a' m.length c'] w fun e w' => e = .returned (.bool (decide (l = m))) ∧ Below w.heap.size w w' := by
  by_cases hlm : l.length = m.length
  · exact Texts_same a a' c c' l m w h h' hl hlm
  · have hne : ((l.length : Int) != (m.length : Int)) = true := by rw [bne_iff_ne]; omega
    have HV := Lib.hid (decide_eq_false (fun e : l = m => hlm (by rw [e])))
    clear h h' hlm
    rw [HV.out]
    clear HV
    generalize l.length = n at *
    generalize m.length = n' at *
    go_enter Tryz.func18, Tryz.ntmps18
    go_wp2
    go_ret
    exact ⟨rfl, Below.refl _ _⟩
/-- An image's value reads as these. -/
structure ImgAt (w : World) (a : Option Addr) (p : Option Addr) (l : List ByteArray) (q : List (Nat × ByteArray)) : Prop where
  strs : StrRow w a l
  puts : PutRow w p q
  few : l.length ≤ 100000
  fewp : q.length ≤ 100000
theorem ImgAt.below {w w' : World} {a p : Option Addr} {l : List ByteArray} {q : List (Nat × ByteArray)} (h : ImgAt w a p l q) (hb : Below w.heap.size w w') : ImgAt w' a p l q :=
  ⟨StrRow.below h.strs hb, PutRow.below h.puts hb, h.few, h.fewp⟩
theorem put_eq {x y : Nat × ByteArray} : (decide ((x.1 : Int) = (y.1 : Int)) && decide (x.2 = y.2)) = decide (x = y) := by
  obtain ⟨a, s⟩ := x
  obtain ⟨b, t⟩ := y
  rw [Bool.eq_iff_iff]
  simp [Prod.ext_iff]
  intro _
  omega
set_option maxRecDepth 100000 in
set_option maxHeartbeats 2000000 in
theorem Same_puts (a a' p p' : Option Addr) (c c' d d' : Nat) (l m : List ByteArray) (q r : List (Nat × ByteArray)) (w : World) (h : ImgAt w a p l q) (h' : ImgAt w a' p' m r) (hlm : l = m) (hqr : q.length = r.length) :
    Calls Tryz.prog 20 #[.agg #[.slice a l.length c, .slice p q.length d], .agg #[.slice a' m.length c', .slice p' r.length d']] w fun e w' => e = .returned (.bool (decide (q = r))) ∧ Below w.heap.size w w' := by
  have hb2 : Below w.heap.size w ((w.alloc (.cells #[.slice a l.length c, .slice p q.length d] 49)).alloc (.cells #[.slice a' m.length c', .slice p' r.length d'] 49)) := ((Below.refl _ _).alloc (Nat.le_refl _) _).alloc (by simp) _
  have HT := Lib.hid (Texts a a' c c' l m _ (StrRow.below h.strs hb2) (StrRow.below h'.strs hb2) h.few)
  have x0 := heap_alloc2_old w (.cells #[.slice a l.length c, .slice p q.length d] 49) (.cells #[.slice a' m.length c', .slice p' r.length d'] 49)
  have x1 := heap_alloc2_new w (.cells #[.slice a l.length c, .slice p q.length d] 49) (.cells #[.slice a' m.length c', .slice p' r.length d'] 49)
  have hsz : ((w.alloc (.cells #[.slice a l.length c, .slice p q.length d] 49)).alloc (.cells #[.slice a' m.length c', .slice p' r.length d'] 49)).heap.size = w.heap.size + 2 := by simp
  have HP := Lib.hid h.puts
  have HP' := Lib.hid h'.puts
  have hfp := h.fewp
  have HQR := Lib.hid hqr
  rw [decide_eq_true hlm] at HT
  rw [← hqr] at HT x0 x1 hb2 hsz ⊢
  obtain ⟨n, hn⟩ : ∃ n, q.length = n := ⟨_, rfl⟩
  rw [hn] at HT x0 x1 hb2 hfp hsz ⊢
  have HN := Lib.hid hn
  clear h h' hlm hqr hn
  generalize l.length = ln at *
  generalize m.length = mn at *
  go_enter Tryz.func20, Tryz.ntmps20
  go_wp2_with fail
  refine (HT.out).mono ?_
  rintro e w1 ⟨rfl, hb1⟩
  have HB1 := Lib.hid (hb2.trans (hb1.mono hb2.size))
  have y0 := (hb1.block w.heap.size (by rw [hsz]; omega)).trans x0
  have y1 := (hb1.block (w.heap.size + 1) (by rw [hsz]; omega)).trans x1
  have hs1 := hb1.size
  rw [hsz] at hs1
  have z0 : w1.cell? ⟨w.heap.size, 1, none⟩ = some (.slice p n d) := blk_cell y0 rfl
  have z1 : w1.cell? ⟨w.heap.size + 1, 1, none⟩ = some (.slice p' n d') := blk_cell y1 rfl
  clear hb1 hb2 x0 x1 hsz HT y0 y1
  have hnn : ((n : Int) != (n : Int)) = false := by simp
  have HZ0 := Lib.hid z0
  have HZ1 := Lib.hid z1
  go_wp2_with fail
  clear z0 z1
  go_loopw [5] (fun i wr => ∃ j : Nat, j ≤ n ∧ i = .int .i64 j ∧ q.take j = r.take j ∧ Below w1.heap.size w1 wr) (fun i _ => n - (intOf i).toNat)
  case atStart => exact ⟨0, Nat.zero_le _, rfl, rfl, Below.refl _ _⟩
  case round =>
    obtain ⟨j, hj, rfl, heq, hbel⟩ := hrel
    have HB := Lib.hid hbel
    have HE := Lib.hid heq
    have z0 : wr.cell? ⟨w.heap.size, 1, none⟩ = some (.slice p n d) := (hbel.cell (p := ⟨w.heap.size, 1, none⟩) (by simp; omega)).trans HZ0.out
    have z1 : wr.cell? ⟨w.heap.size + 1, 1, none⟩ = some (.slice p' n d') := (hbel.cell (p := ⟨w.heap.size + 1, 1, none⟩) (by simp; omega)).trans HZ1.out
    have HBB := Lib.hid (HB1.out.trans (hbel.mono (by omega)))
    clear hbel heq
    by_cases hlt : j < n
    · have hjl : j < q.length := by rw [HN.out]; exact hlt
      have hjm : j < r.length := by rw [← HQR.out]; exact hjl
      obtain ⟨g, o, rfl, hg, hcs⟩ := HP.out (by omega)
      obtain ⟨g', o', rfl, hg', hcs'⟩ := HP'.out (by omega)
      have q0 := (HBB.out.cell (p := ⟨g, o + j * 2, none⟩) hg).trans (hcs j hjl).1
      have q1 := (HBB.out.cell (p := ⟨g, o + j * 2 + 1, none⟩) hg).trans (hcs j hjl).2
      have r0 := (HBB.out.cell (p := ⟨g', o' + j * 2, none⟩) hg').trans (hcs' j hjm).1
      have r1 := (HBB.out.cell (p := ⟨g', o' + j * 2 + 1, none⟩) hg').trans (hcs' j hjm).2
      have HT := Lib.hid (take_next hjl hjm HE.out)
      have HNe := Lib.hid (ne_at hjl hjm)
      clear hcs hcs'
      generalize q[j] = x at *
      generalize r[j] = y at *
      clear hjl hjm
      have hjn : (j : Int) < (n : Int) := by omega
      have hj0 : (0 : Int) ≤ (j : Int) := by omega
      by_cases hst : x = y
      · have he : ∀ W, (binOp .neq 107 (.agg #[.int .i64 (x.1 : Int), .string x.2]) (.agg #[.int .i64 (y.1 : Int), .string y.2])).run Tryz.prog W = .ok (.bool false) W := fun W => run_neq_put W _ _ _ _ true (by rw [put_eq]; exact decide_eq_true hst)
        have HT' := Lib.hid (HT.out hst)
        clear HT HNe hst
        generalize x.1 = xa at *
        generalize x.2 = xs at *
        generalize y.1 = ya at *
        generalize y.2 = ys at *
        go_wp2_with fail
        go_quiet (fail)
        go_wp2
        go_roundw
        case rel => exact ⟨j + 1, by omega, by go_num, HT'.out, ⟨HB.out.os, HB.out.tape, HB.out.output, HB.out.size, HB.out.block⟩⟩
        case measure => simp [intOf]; omega
      · have he : ∀ W, (binOp .neq 107 (.agg #[.int .i64 (x.1 : Int), .string x.2]) (.agg #[.int .i64 (y.1 : Int), .string y.2])).run Tryz.prog W = .ok (.bool true) W := fun W => run_neq_put W _ _ _ _ false (by rw [put_eq]; exact decide_eq_false hst)
        have HV := Lib.hid (decide_eq_false (HNe.out hst))
        clear HT HNe hst
        generalize x.1 = xa at *
        generalize x.2 = xs at *
        generalize y.1 = ya at *
        generalize y.2 = ys at *
        go_wp2_with fail
        go_quiet (fail)
        go_wp2
        go_ret
        exact ⟨ret_bool HV.out.symm, ⟨HBB.out.os, HBB.out.tape, HBB.out.output, HBB.out.size, HBB.out.block⟩⟩
    · obtain rfl : j = n := by omega
      have hv : q = r := by
        have := HE.out
        rwa [List.take_of_length_le (by rw [HN.out]; exact Nat.le_refl _), List.take_of_length_le (by rw [← HQR.out, HN.out]; exact Nat.le_refl _)] at this
      have HV := Lib.hid (decide_eq_true hv)
      clear hv HE
      go_wp2
      go_ret
      exact ⟨ret_bool HV.out.symm, HBB.out⟩
set_option maxRecDepth 100000 in
set_option maxHeartbeats 1000000 in
theorem Same_not (a a' p p' : Option Addr) (c c' d d' : Nat) (l m : List ByteArray) (q r : List (Nat × ByteArray)) (w : World) (h : ImgAt w a p l q) (h' : ImgAt w a' p' m r) (hn : l ≠ m ∨ q.length ≠ r.length) :
    Calls Tryz.prog 20 #[.agg #[.slice a l.length c, .slice p q.length d], .agg #[.slice a' m.length c', .slice p' r.length d']] w fun e w' => e = .returned (.bool false) ∧ Below w.heap.size w w' := by
  have hb2 : Below w.heap.size w ((w.alloc (.cells #[.slice a l.length c, .slice p q.length d] 49)).alloc (.cells #[.slice a' m.length c', .slice p' r.length d'] 49)) := ((Below.refl _ _).alloc (Nat.le_refl _) _).alloc (by simp) _
  have HT := Lib.hid (Texts a a' c c' l m _ (StrRow.below h.strs hb2) (StrRow.below h'.strs hb2) h.few)
  have x0 := heap_alloc2_old w (.cells #[.slice a l.length c, .slice p q.length d] 49) (.cells #[.slice a' m.length c', .slice p' r.length d'] 49)
  have x1 := heap_alloc2_new w (.cells #[.slice a l.length c, .slice p q.length d] 49) (.cells #[.slice a' m.length c', .slice p' r.length d'] 49)
  have hsz : ((w.alloc (.cells #[.slice a l.length c, .slice p q.length d] 49)).alloc (.cells #[.slice a' m.length c', .slice p' r.length d'] 49)).heap.size = w.heap.size + 2 := by simp
  clear h h'
  by_cases hlm : l = m
  · have hne : ((q.length : Int) != (r.length : Int)) = true := by
      rw [bne_iff_ne]
      have := hn.resolve_left (fun x => x hlm)
      omega
    rw [decide_eq_true hlm] at HT
    clear hn hlm
    generalize q.length = qn at *
    generalize r.length = rn at *
    generalize l.length = ln at *
    generalize m.length = mn at *
    go_enter Tryz.func20, Tryz.ntmps20
    go_wp2_with fail
    refine (HT.out).mono ?_
    rintro e w1 ⟨rfl, hb1⟩
    have HB1 := Lib.hid (hb2.trans (hb1.mono hb2.size))
    have y0 := (hb1.block w.heap.size (by rw [hsz]; omega)).trans x0
    have y1 := (hb1.block (w.heap.size + 1) (by rw [hsz]; omega)).trans x1
    have z0 : w1.cell? ⟨w.heap.size, 1, none⟩ = some (.slice p qn d) := blk_cell y0 rfl
    have z1 : w1.cell? ⟨w.heap.size + 1, 1, none⟩ = some (.slice p' rn d') := blk_cell y1 rfl
    clear hb1 hb2 x0 x1 hsz HT y0 y1
    go_wp2
    go_ret
    exact ⟨rfl, HB1.out⟩
  · rw [decide_eq_false hlm] at HT
    clear hn hlm
    generalize q.length = qn at *
    generalize r.length = rn at *
    generalize l.length = ln at *
    generalize m.length = mn at *
    go_enter Tryz.func20, Tryz.ntmps20
    go_wp2_with fail
    refine (HT.out).mono ?_
    rintro e w1 ⟨rfl, hb1⟩
    have HB1 := Lib.hid (hb2.trans (hb1.mono hb2.size))
    clear hb1 hb2 x0 x1 hsz HT
    go_wp2
    go_ret
    exact ⟨rfl, HB1.out⟩
/-- THE CONTRACT of Same. -/
theorem Same (a a' p p' : Option Addr) (c c' d d' : Nat) (l m : List ByteArray) (q r : List (Nat × ByteArray)) (w : World) (h : ImgAt w a p l q) (h' : ImgAt w a' p' m r) :
    Calls Tryz.prog 20 #[.agg #[.slice a l.length c, .slice p q.length d], .agg #[.slice a' m.length c', .slice p' r.length d']] w fun e w' => e = .returned (.bool (decide (l = m ∧ q = r))) ∧ Below w.heap.size w w' := by
  by_cases hlm : l = m
  · by_cases hqr : q.length = r.length
    · rw [show decide (l = m ∧ q = r) = decide (q = r) by simp [hlm]]
      exact Same_puts a a' p p' c c' d d' l m q r w h h' hlm hqr
    · rw [decide_eq_false (fun x => hqr (by rw [x.2]))]
      exact Same_not a a' p p' c c' d d' l m q r w h h' (.inr hqr)
  · rw [decide_eq_false (fun x => hlm x.1)]
    exact Same_not a a' p p' c c' d d' l m q r w h h' (.inl hlm)
end Go.Proofs.YtoilcieineejiaaGreatDoor.DkE
