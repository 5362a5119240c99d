/- The document's Take, Held and Kind: the walks of their texts. No conditions but those that each lemma names. -/
import Derived.Test.YteobimhibhfokaaCelQ
import Derived.Test.YteobimhibhfokaaRCut
import Derived.Deep.DeepCutAuto
import Derived.Laws.ResultCell
namespace Go.Proofs.Yteobimhibhfokaa.CelU
open Go.RowKit
open CelN CelC CelR CelQ
theorem get_at (p : List UInt8) (h : p.length = 4) (w : World) :
    Calls Try.prog 32 #[.string ⟨p.toArray⟩] w fun r w' => r = .returned (.tuple #[.int .i64 (num p), .int .i64 0]) ∧ w = w' := by
  have := RGet.any ⟨p.toArray⟩ w
  rw [show (⟨p.toArray⟩ : ByteArray).data.toList = p from rfl, get_of p (by omega) (by omega)] at this
  exact this
/-- What Cut answers. -/
theorem cutted (l a b : List UInt8) (c : Int) (h : cut l = (a, b, c)) (hm : l.length ≤ maxLen) (w : World) :
    Calls Try.prog 33 #[.string ⟨l.toArray⟩] w fun r w' => r = .returned (.tuple #[.string ⟨a.toArray⟩, .string ⟨b.toArray⟩, .int .i64 c]) ∧ Below w.heap.size w w' := by
  have := RCut.any ⟨l.toArray⟩ w (by rw [size_mk]; exact hm)
  rw [show (⟨l.toArray⟩ : ByteArray).data.toList = l from rfl, h] at this
  exact this.mono fun r w' ⟨h1, n, h2⟩ => ⟨h1, h2 ▸ below_drewN _ _⟩
theorem slices (s : List UInt8) (h : s.length = 4096) : (∀ W, (Instr.slice 9 (.string ⟨s.toArray⟩) (some (.int .i64 1)) (some (.int .i64 5)) none).run Try.prog W = .ok (.string ⟨(r1 s).toArray⟩) W) ∧
    (∀ W, (Instr.slice 9 (.string ⟨s.toArray⟩) (some (.int .i64 5)) (some (.int .i64 9)) none).run Try.prog W = .ok (.string ⟨(r2 s).toArray⟩) W) ∧
    (∀ W, (Instr.slice 9 (.string ⟨s.toArray⟩) (some (.int .i64 9)) (some (.int .i64 13)) none).run Try.prog W = .ok (.string ⟨(r3 s).toArray⟩) W) ∧
    (∀ W, (Instr.slice 9 (.string ⟨s.toArray⟩) (some (.int .i64 13)) none none).run Try.prog W = .ok (.string ⟨(r4 s).toArray⟩) W) ∧
    (∀ W, (Instr.slice 9 (.string ⟨s.toArray⟩) (some (.int .i64 1)) none none).run Try.prog W = .ok (.string ⟨(s.drop 1).toArray⟩) W) := by
  have s0 := fun W => run_slice_string (P := Try.prog) (w := W) 9 ⟨s.toArray⟩ .i64 .i64 1 5 Try.underlying9 (by omega) (by omega) (show (5 : Int) ≤ ((s.length : Nat) : Int) by omega)
  rw [show (⟨s.toArray⟩ : ByteArray).extract (1 : Int).toNat (5 : Int).toNat = ⟨(r1 s).toArray⟩ from ext_at s 1 5] at s0
  have s1 := fun W => run_slice_string (P := Try.prog) (w := W) 9 ⟨s.toArray⟩ .i64 .i64 5 9 Try.underlying9 (by omega) (by omega) (show (9 : Int) ≤ ((s.length : Nat) : Int) by omega)
  rw [show (⟨s.toArray⟩ : ByteArray).extract (5 : Int).toNat (9 : Int).toNat = ⟨(r2 s).toArray⟩ from ext_at s 5 9] at s1
  have s2 := fun W => run_slice_string (P := Try.prog) (w := W) 9 ⟨s.toArray⟩ .i64 .i64 9 13 Try.underlying9 (by omega) (by omega) (show (13 : Int) ≤ ((s.length : Nat) : Int) by omega)
  rw [show (⟨s.toArray⟩ : ByteArray).extract (9 : Int).toNat (13 : Int).toNat = ⟨(r3 s).toArray⟩ from ext_at s 9 13] at s2
  have s3 := fun W => run_slice_string_l (P := Try.prog) (w := W) 9 ⟨s.toArray⟩ Try.underlying9 .i64 13 (by omega) (show (13 : Int) ≤ ((s.length : Nat) : Int) by omega)
  rw [show (⟨s.toArray⟩ : ByteArray).extract (13 : Int).toNat (⟨s.toArray⟩ : ByteArray).size = ⟨(r4 s).toArray⟩ from by
    rw [ext_at, size_mk]
    unfold r4
    rw [show (13 : Int).toNat = 13 from rfl, List.take_of_length_le (by simp)]] at s3
  have s4 := fun W => run_slice_string_l (P := Try.prog) (w := W) 9 ⟨s.toArray⟩ Try.underlying9 .i64 1 (by omega) (show (1 : Int) ≤ ((s.length : Nat) : Int) by omega)
  rw [show (⟨s.toArray⟩ : ByteArray).extract (1 : Int).toNat (⟨s.toArray⟩ : ByteArray).size = ⟨(s.drop 1).toArray⟩ from by
    rw [ext_at, size_mk, show (1 : Int).toNat = 1 from rfl, List.take_of_length_le (by simp)]] at s4
  exact ⟨s0, s1, s2, s3, s4⟩
theorem byte0 (s : List UInt8) (h : 0 < (⟨s.toArray⟩ : ByteArray).size) : ((((⟨s.toArray⟩ : ByteArray)[0]'h).toNat : Int) == 2) = isGone s := by
  have e := take_snoc ⟨s.toArray⟩ 0 h
  rw [show (⟨s.toArray⟩ : ByteArray).data.toList = s from rfl, List.take_zero, List.nil_append] at e
  unfold isGone r0
  rw [show (0 + 1 : Nat) = 1 from rfl] at e
  rw [e, num_cons]
  simp only [List.length_nil, Nat.pow_zero, Nat.one_mul, show num [] = 0 from rfl, Nat.add_zero]
  rfl
/-- What stands while Take runs: what was stays, the result's block. -/
structure Tk (w W : World) : Prop where
  bel : Below w.heap.size w W
  k : Bk W w.heap.size 0 0 0 false []
theorem tk_new (w : World) : Tk w (w.alloc (.cells #[.int .i64 0, .int .i64 0, .int .i64 0, .bool false, .string ⟨#[]⟩] 23)) := ⟨below_new w _, heap_alloc_new w _⟩
theorem Tk.step {w W W' : World} (h : Tk w W) (hb : Below W.heap.size W W') : Tk w W' := ⟨h.bel.trans (hb.mono h.bel.size), h.k.step hb⟩
set_option maxRecDepth 100000 in
theorem Take_len (s : List UInt8) (w : World) (h : (((s.length : Nat) : Int) == 4096) = false) :
    Calls Try.prog 15 #[.string ⟨s.toArray⟩] w fun r w' => r = .returned (.tuple #[.agg #[.int .i64 0, .int .i64 0, .int .i64 0, .bool false, .string ⟨#[]⟩], .bool false]) ∧ Below w.heap.size w w' := by
  have hz := size_mk s
  go_enter Try.func15, Try.ntmps15
  go_wp2_with (refine wpList_store_row rfl 23 _ _ rfl w.heap.size _ rfl rfl 23 _ (heap_alloc_new w _) infoC rfl (one5 0 0 0 false []) ?_)
  refine bodyPost_ret (v := .tuple #[.agg #[.int .i64 0, .int .i64 0, .int .i64 0, .bool false, .string ⟨#[]⟩], .bool false])
    (results_cell_tmp_row Try.results15 _ _ w.heap.size 23 _ (0, 0) _ rfl (setRow_same (heap_alloc_new w _)) Try.underlying23 rfl infoC) rfl
    ⟨rfl, below_setRow (below_new w _) (Nat.le_refl _) _⟩
set_option maxRecDepth 100000 in
set_option maxHeartbeats 2000000 in
theorem Take_cut (s : List UInt8) (w : World) (h : s.length = 4096) (hc : cut (r4 s) = ([], [], 3)) :
    Calls Try.prog 15 #[.string ⟨s.toArray⟩] w fun r w' => r = .returned (.tuple #[.agg #[.int .i64 0, .int .i64 0, .int .i64 0, .bool false, .string ⟨#[]⟩], .bool false]) ∧ Below w.heap.size w w' := by
  obtain ⟨W1, hW1⟩ : ∃ W1, W1 = w.alloc (.cells #[.int .i64 0, .int .i64 0, .int .i64 0, .bool false, .string ⟨#[]⟩] 23) := ⟨_, rfl⟩
  have TT : Hid (Tk w W1) := Lib.hid (by rw [hW1]; exact tk_new w)
  have hz := size_mk s
  obtain ⟨s0, s1, s2, s3, _⟩ := slices s h
  obtain ⟨_, l1, l2, l3, l4⟩ := r_len h
  have G1 := Lib.hid (fun W => get_at (r1 s) l1 W)
  have G2 := Lib.hid (fun W => get_at (r2 s) l2 W)
  have G3 := Lib.hid (fun W => get_at (r3 s) l3 W)
  have HC := Lib.hid (fun W => cutted (r4 s) [] [] 3 hc (by rw [l4]; unfold maxLen; omega) W)
  generalize num (r1 s) = n1 at *
  generalize num (r2 s) = n2 at *
  generalize num (r3 s) = n3 at *
  generalize r1 s = p1 at *
  generalize r2 s = p2 at *
  generalize r3 s = p3 at *
  generalize r4 s = p4 at *
  clear hc l1 l2 l3 l4
  go_enter Try.func15, Try.ntmps15
  go_upto_region 1 with (fail)
  rw [← hW1]
  clear hW1
  go_wp2_with (first
    | (go_at_call 32; refine (G1.out _).mono ?_; rintro r _ ⟨rfl, rfl⟩; clear G1)
    | (go_at_call 32; refine (G2.out _).mono ?_; rintro r _ ⟨rfl, rfl⟩; clear G2)
    | (go_at_call 32; refine (G3.out _).mono ?_; rintro r _ ⟨rfl, rfl⟩; clear G3)
    | (go_at_call 33; refine (HC.out _).mono ?_; rintro r w4 ⟨rfl, hb⟩; replace TT := Lib.hid (TT.out.step hb); clear hb HC)
    | (refine wpList_store_row rfl 23 _ _ rfl w.heap.size _ rfl rfl 23 _ TT.out.k infoC rfl (one5 0 0 0 false []) ?_))
  refine bodyPost_ret (v := .tuple #[.agg #[.int .i64 0, .int .i64 0, .int .i64 0, .bool false, .string ⟨#[]⟩], .bool false])
    (results_cell_tmp_row Try.results15 _ _ w.heap.size 23 _ (0, 0) _ rfl (setRow_same TT.out.k) Try.underlying23 rfl infoC) rfl
    ⟨rfl, below_setRow TT.out.bel (Nat.le_refl _) _⟩
set_option maxRecDepth 100000 in
set_option maxHeartbeats 2000000 in
theorem Take_any (s a b : List UInt8) (n1 n2 n3 : Nat) (g : Bool) (p : List UInt8) (is : Bool) (w : World) (h : s.length = 4096) (hc : cut (r4 s) = (a, b, 0)) (e1 : num (r1 s) = n1) (e2 : num (r2 s) = n2) (e3 : num (r3 s) = n3) (hg : isGone s = g)
    (hp : (put_ ⟨n1, n2, n3, g, a⟩).1 = p) (hi : decide (may ⟨n1, n2, n3, g, a⟩) = is) (out : Array Value)
    (ho : (is = false ∧ out = #[.agg #[.int .i64 0, .int .i64 0, .int .i64 0, .bool false, .string ⟨#[]⟩], .bool false]) ∨ (is = true ∧ (p == s) = false ∧ out = #[.agg #[.int .i64 0, .int .i64 0, .int .i64 0, .bool false, .string ⟨#[]⟩], .bool false]) ∨ (is = true ∧ p = s ∧ out = #[.agg #[.int .i64 n1, .int .i64 n2, .int .i64 n3, .bool g, .string ⟨a.toArray⟩], .bool true])) :
    Calls Try.prog 15 #[.string ⟨s.toArray⟩] w fun r w' => r = .returned (.tuple out) ∧ Below w.heap.size w w' := by
  obtain ⟨W1, hW1⟩ : ∃ W1, W1 = w.alloc (.cells #[.int .i64 0, .int .i64 0, .int .i64 0, .bool false, .string ⟨#[]⟩] 23) := ⟨_, rfl⟩
  have TT : Hid (Tk w W1) := Lib.hid (by rw [hW1]; exact tk_new w)
  have hz := size_mk s
  obtain ⟨s0, s1, s2, s3, _⟩ := slices s h
  obtain ⟨_, l1, l2, l3, l4⟩ := r_len h
  have G1 := Lib.hid (fun W => get_at (r1 s) l1 W)
  have G2 := Lib.hid (fun W => get_at (r2 s) l2 W)
  have G3 := Lib.hid (fun W => get_at (r3 s) l3 W)
  have HC := Lib.hid (fun W => cutted (r4 s) a b 0 hc (by rw [l4]; unfold maxLen; omega) W)
  have HP := Lib.hid (fun W => CelQ.Put n1 n2 n3 g a W)
  rw [hp, hi] at HP
  rw [e1] at G1
  rw [e2] at G2
  rw [e3] at G3
  clear e1 e2 e3 hp hi
  generalize r1 s = p1 at *
  generalize r2 s = p2 at *
  generalize r3 s = p3 at *
  generalize r4 s = p4 at *
  clear hc l1 l2 l3 l4
  go_enter Try.func15, Try.ntmps15
  go_upto_region 1 with (fail)
  rw [← hW1]
  clear hW1
  go_upto_region 9 with (first
    | (go_at_call 32; refine (G1.out _).mono ?_; rintro r _ ⟨rfl, rfl⟩; clear G1)
    | (go_at_call 32; refine (G2.out _).mono ?_; rintro r _ ⟨rfl, rfl⟩; clear G2)
    | (go_at_call 32; refine (G3.out _).mono ?_; rintro r _ ⟨rfl, rfl⟩; clear G3)
    | (go_at_call 33; refine (HC.out _).mono ?_; rintro r w4 ⟨rfl, hb⟩; replace TT := Lib.hid (TT.out.step hb); clear hb HC))
  have hg0 := byte0 s (by rw [size_mk]; omega)
  rw [hg] at hg0
  clear hg
  go_upto_region 10 with (fail)
  generalize hW5 : World.alloc w4 _ = W5
  replace TT : Hid (Tk w W5) := Lib.hid (by rw [← hW5]; exact TT.out.step (below_new _ _))
  have KK : Hid (Bk W5 w4.heap.size n1 n2 n3 g a) := Lib.hid (by rw [← hW5]; exact heap_alloc_new _ _)
  clear hW5 hg0 s0 s1 s2 s3
  generalize w4.heap.size = X at *
  obtain ⟨k0, k1, k2, k3, k4⟩ := KK.out.cells
  rcases ho with ⟨rfl, rfl⟩ | ⟨rfl, hn, rfl⟩ | ⟨rfl, rfl, rfl⟩
  · go_wp2_with (first
      | (go_at_call 9; refine (HP.out _).mono ?_; rintro r w6 ⟨rfl, hb⟩; replace TT := Lib.hid (TT.out.step hb); clear hb k0 k1 k2 k3 k4)
      | (refine wpList_store_row rfl 23 _ _ rfl w.heap.size _ rfl rfl 23 _ TT.out.k infoC rfl (one5 0 0 0 false []) ?_))
    refine bodyPost_ret (v := .tuple #[.agg #[.int .i64 0, .int .i64 0, .int .i64 0, .bool false, .string ⟨#[]⟩], .bool false])
      (results_cell_tmp_row Try.results15 _ _ w.heap.size 23 _ (0, 0) _ rfl (setRow_same TT.out.k) Try.underlying23 rfl infoC) rfl
      ⟨rfl, below_setRow TT.out.bel (Nat.le_refl _) _⟩
  · go_wp2_with (first
      | (go_at_call 9; refine (HP.out _).mono ?_; rintro r w6 ⟨rfl, hb⟩; replace TT := Lib.hid (TT.out.step hb); clear hb k0 k1 k2 k3 k4)
      | (refine wpList_store_row rfl 23 _ _ rfl w.heap.size _ rfl rfl 23 _ TT.out.k infoC rfl (one5 0 0 0 false []) ?_))
    refine bodyPost_ret (v := .tuple #[.agg #[.int .i64 0, .int .i64 0, .int .i64 0, .bool false, .string ⟨#[]⟩], .bool false])
      (results_cell_tmp_row Try.results15 _ _ w.heap.size 23 _ (0, 0) _ rfl (setRow_same TT.out.k) Try.underlying23 rfl infoC) rfl
      ⟨rfl, below_setRow TT.out.bel (Nat.le_refl _) _⟩
  · go_wp2_with (first
      | (go_at_call 9; refine (HP.out _).mono ?_; rintro r w6 ⟨rfl, hb⟩; replace TT := Lib.hid (TT.out.step hb); replace KK := Lib.hid (KK.out.step hb); clear hb k0 k1 k2 k3 k4; obtain ⟨k0, k1, k2, k3, k4⟩ := KK.out.cells)
      | (refine wpList_store_row rfl 23 _ _ rfl w.heap.size _ rfl rfl 23 _ TT.out.k infoC rfl (one5 n1 n2 n3 g a) ?_))
    refine bodyPost_ret (v := .tuple #[.agg #[.int .i64 n1, .int .i64 n2, .int .i64 n3, .bool g, .string ⟨a.toArray⟩], .bool true])
      (results_cell_tmp_row Try.results15 _ _ w.heap.size 23 _ (0, 0) _ rfl (setRow_same TT.out.k) Try.underlying23 rfl infoC) rfl
      ⟨rfl, below_setRow TT.out.bel (Nat.le_refl _) _⟩
/-- What the document's Take answers. -/
theorem Take (s : List UInt8) (w : World) :
    Calls Try.prog 15 #[.string ⟨s.toArray⟩] w fun r w' => r = .returned (.tuple #[.agg #[.int .i64 ((take s).1).ep, .int .i64 ((take s).1).sl, .int .i64 ((take s).1).lb, .bool ((take s).1).gn, .string ⟨((take s).1).ci.toArray⟩], .bool (decide (good s))]) ∧ Below w.heap.size w w' := by
  by_cases h : s.length = 4096
  · by_cases hr : readable s
    · have hc : cut (r4 s) = ((cut (r4 s)).1, (cut (r4 s)).2.1, 0) := by rw [← hr.2]
      by_cases hs : good s
      · rw [take_yes hs, dt hs]
        exact Take_any s _ _ _ _ _ _ s true w h hc rfl rfl rfl rfl (congrArg Prod.fst (put_take hs)) (dt hs.2.1) _ (.inr (.inr ⟨rfl, rfl, rfl⟩))
      · rw [take_no hs, df hs]
        by_cases hm : may (rd s)
        · have hne : ¬ (put_ (rd s)).1 = s := fun hh => hs ((again_good hr).1 hh)
          exact Take_any s _ _ _ _ _ _ _ true w h hc rfl rfl rfl rfl rfl (dt hm) _ (.inr (.inl ⟨rfl, beq_eq_false_iff_ne.2 hne, rfl⟩))
        · exact Take_any s _ _ _ _ _ _ _ false w h hc rfl rfl rfl rfl rfl (df hm) _ (.inl ⟨rfl, rfl⟩)
    · rw [take_no (fun hs => hr hs.1), df (fun hs : good s => hr hs.1)]
      exact Take_cut s w h (cut_no (fun hh => hr ⟨h, hh⟩))
  · rw [take_no (fun hs => h hs.1.1), df (fun hs : good s => h hs.1.1)]
    exact Take_len s w (by rw [beq_eq_false_iff_ne]; omega)
theorem Held_len (s : List UInt8) (w : World) (h : (((s.length : Nat) : Int) == 4096) = false) :
    Calls Try.prog 17 #[.string ⟨s.toArray⟩] w fun r w' => r = .returned (.tuple #[.string ⟨#[]⟩, .bool false]) ∧ w = w' := by
  have hz := size_mk s
  go_enter Try.func17, Try.ntmps17
  go_wp2
  go_ret2
  exact ⟨rfl, rfl⟩
set_option maxRecDepth 100000 in
theorem Held_any (s a b p : List UInt8) (c : Int) (is : Bool) (w : World) (h : s.length = 4096) (hc : cut (s.drop 1) = (a, b, c)) (hp : (hold a).1 = p) (hi : decide (hmay a) = is) (out : Array Value)
    (ho : (c = 3 ∧ out = #[.string ⟨#[]⟩, .bool false]) ∨ (c = 0 ∧ is = false ∧ out = #[.string ⟨#[]⟩, .bool false]) ∨ (c = 0 ∧ is = true ∧ (p == s) = false ∧ out = #[.string ⟨#[]⟩, .bool false]) ∨ (c = 0 ∧ is = true ∧ p = s ∧ out = #[.string ⟨a.toArray⟩, .bool true])) :
    Calls Try.prog 17 #[.string ⟨s.toArray⟩] w fun r w' => r = .returned (.tuple out) ∧ Below w.heap.size w w' := by
  have hz := size_mk s
  obtain ⟨_, _, _, _, s1⟩ := slices s h
  have HC := Lib.hid (fun W => cutted (s.drop 1) a b c hc (by simp [maxLen]; omega) W)
  have HH := Lib.hid (fun W => Hold a W)
  rw [hp, hi] at HH
  clear hp hc hi
  generalize s.drop 1 = q at *
  go_enter Try.func17, Try.ntmps17
  go_upto_region 5 with (first
    | (go_at_call 33; refine (HC.out _).mono ?_; rintro r w4 ⟨rfl, hb⟩; have B4 := Lib.hid hb; clear hb)
    | (go_at_call 11; refine (HH.out _).mono ?_; rintro r w5 ⟨rfl, hb⟩; have B5 := Lib.hid (B4.out.trans (hb.mono B4.out.size)); clear hb))
  rcases ho with ⟨rfl, rfl⟩ | ⟨rfl, rfl, rfl⟩ | ⟨rfl, rfl, hn, rfl⟩ | ⟨rfl, rfl, rfl, rfl⟩
  all_goals
    go_wp2_with fail
    go_ret2
    exact ⟨rfl, B5.out⟩
/-- What the document's Held answers. -/
theorem Held (s : List UInt8) (w : World) :
    Calls Try.prog 17 #[.string ⟨s.toArray⟩] w fun r w' => r = .returned (.tuple #[.string ⟨(held s).1.toArray⟩, .bool (decide (hgood s))]) ∧ Below w.heap.size w w' := by
  by_cases h : s.length = 4096
  · by_cases hr : hread s
    · have hc : cut (s.drop 1) = (ht s, (cut (s.drop 1)).2.1, 0) := by rw [← hr.2]; rfl
      by_cases hg : hgood s
      · rw [held_yes hg, dt hg]
        exact Held_any s _ _ s 0 true w h hc (congrArg Prod.fst (hold_held hg)) (dt hg.2.1) _ (.inr (.inr (.inr ⟨rfl, rfl, rfl, rfl⟩)))
      · rw [held_no hg, df hg]
        by_cases hm : hmay (ht s)
        · have hne : ¬ (hold (ht s)).1 = s := fun hh => hg ((again_held hr).1 hh)
          exact Held_any s _ _ _ 0 true w h hc rfl (dt hm) _ (.inr (.inr (.inl ⟨rfl, rfl, beq_eq_false_iff_ne.2 hne, rfl⟩)))
        · exact Held_any s _ _ _ 0 false w h hc rfl (df hm) _ (.inr (.inl ⟨rfl, rfl, rfl⟩))
    · rw [held_no (fun hg => hr hg.1), df (fun hg : hgood s => hr hg.1)]
      exact Held_any s [] [] _ 3 _ w h (cut_no (fun hh => hr ⟨h, hh⟩)) rfl rfl _ (.inl ⟨rfl, rfl⟩)
  · rw [held_no (fun hg => h hg.1.1), df (fun hg : hgood s => h hg.1.1)]
    exact (Held_len s w (by rw [beq_eq_false_iff_ne]; omega)).mono fun r w' ⟨h1, h2⟩ => ⟨h1, h2 ▸ Below.refl _ _⟩
set_option maxRecDepth 100000 in
theorem Kind_cell (s : List UInt8) (ep sl lb : Int) (gn : Bool) (ci : List UInt8) (hs : (take s).1 = ⟨ep, sl, lb, gn, ci⟩) (hg : good s) (n : Int) (hn : (gn = true ∧ n = 2) ∨ (gn = false ∧ n = 1)) (w : World) :
    Calls Try.prog 19 #[.string ⟨s.toArray⟩] w fun r w' => r = .returned (.int .i64 n) ∧ Below w.heap.size w w' := by
  have HT := Lib.hid (fun W => Take s W)
  rw [hs, dt hg] at HT
  clear hs hg
  go_enter Try.func19, Try.ntmps19
  go_upto_region 2 with (first
    | (go_at_call 15; refine (HT.out _).mono ?_; rintro r w2 ⟨rfl, hb⟩; have B2 := Lib.hid hb; clear hb)
    | (refine wpList_store_row rfl 23 _ _ rfl w2.heap.size _ rfl rfl 23 _ (heap_alloc_new w2 _) infoC rfl (one5 ep sl lb gn ci) ?_))
  generalize hW3 : World.setRow (World.alloc w2 _) _ _ = W3
  have B3 : Hid (Below w.heap.size w W3) := Lib.hid (by rw [← hW3]; exact B2.out.trans ((kept_new _ _ _ _).mono B2.out.size))
  have KK : Hid (Bk W3 w2.heap.size ep sl lb gn ci) := Lib.hid (by rw [← hW3]; exact has_new _ _ _ _)
  clear hW3
  generalize w2.heap.size = X at *
  obtain ⟨k0, k1, k2, k3, k4⟩ := KK.out.cells
  rcases hn with ⟨rfl, rfl⟩ | ⟨rfl, rfl⟩
  · go_wp2_with fail
    go_ret
    exact ⟨rfl, B3.out⟩
  · go_wp2_with fail
    go_ret
    exact ⟨rfl, B3.out⟩
set_option maxRecDepth 100000 in
theorem Kind_other (s a : List UInt8) (is : Bool) (n : Int) (hs : take s = (nil_, 3)) (hg : ¬ good s) (hh : (held s).1 = a) (hi : decide (hgood s) = is) (hn : (is = true ∧ n = 3) ∨ (is = false ∧ (s == empty) = true ∧ n = 0) ∨ (is = false ∧ (s == empty) = false ∧ n = -1)) (w : World) :
    Calls Try.prog 19 #[.string ⟨s.toArray⟩] w fun r w' => r = .returned (.int .i64 n) ∧ Below w.heap.size w w' := by
  have HT := Lib.hid (fun W => Take s W)
  rw [hs, df hg] at HT
  have HH := Lib.hid (fun W => Held s W)
  rw [hh, hi] at HH
  have HN : Hid (∀ W, Calls Try.prog 20 #[.int .i64 4096] W fun r w' => r = .returned (.string ⟨empty.toArray⟩) ∧ Below W.heap.size W w') := Lib.hid (fun W => RNou.noughts 4096 W (by omega))
  generalize empty = z at *
  clear hs hh hi hg
  go_enter Try.func19, Try.ntmps19
  go_upto_region 2 with (first
    | (go_at_call 15; refine (HT.out _).mono ?_; rintro r w2 ⟨rfl, hb⟩; have B2 := Lib.hid hb; clear hb)
    | (refine wpList_store_row rfl 23 _ _ rfl w2.heap.size _ rfl rfl 23 _ (heap_alloc_new w2 _) infoC rfl (one5 0 0 0 false []) ?_))
  generalize hW3 : World.setRow (World.alloc w2 _) _ _ = W3
  have B3 : Hid (Below w.heap.size w W3) := Lib.hid (by rw [← hW3]; exact B2.out.trans ((kept_new _ _ _ _).mono B2.out.size))
  clear hW3
  go_upto_region 7 with (go_at_call 17; refine (HH.out _).mono ?_; rintro r w4 ⟨rfl, hb⟩; have B4 := Lib.hid (B3.out.trans (hb.mono B3.out.size)); clear hb)
  rcases hn with ⟨rfl, rfl⟩ | ⟨rfl, hz, rfl⟩ | ⟨rfl, hz, rfl⟩
  · go_wp2_with fail
    go_ret
    exact ⟨rfl, B4.out⟩
  · go_wp2_with (go_at_call 20; refine (HN.out _).mono ?_; rintro r w5 ⟨rfl, hb⟩; have B5 := Lib.hid (B4.out.trans (hb.mono B4.out.size)); clear hb)
    go_ret
    exact ⟨rfl, B5.out⟩
  · go_wp2_with (go_at_call 20; refine (HN.out _).mono ?_; rintro r w5 ⟨rfl, hb⟩; have B5 := Lib.hid (B4.out.trans (hb.mono B4.out.size)); clear hb)
    go_ret
    exact ⟨rfl, B5.out⟩
/-- What the document's Kind answers. -/
theorem Kind (s : List UInt8) (w : World) :
    Calls Try.prog 19 #[.string ⟨s.toArray⟩] w fun r w' => r = .returned (.int .i64 (CelN.kind s)) ∧ Below w.heap.size w w' := by
  by_cases h : good s
  · rw [kind_cell h]
    refine Kind_cell s _ _ _ _ _ (congrArg Prod.fst (take_yes h)) h _ ?_ w
    show (isGone s = true ∧ kd (isGone s) = 2) ∨ (isGone s = false ∧ kd (isGone s) = 1)
    cases isGone s
    · exact .inr ⟨rfl, rfl⟩
    · exact .inl ⟨rfl, rfl⟩
  · have ht := take_no h
    by_cases hh : hgood s
    · rw [kind_held h hh]
      exact Kind_other s _ _ _ ht h rfl (dt hh) (.inl ⟨rfl, rfl⟩) w
    · by_cases he : s = empty
      · rw [kind_empty h hh he]
        exact Kind_other s _ _ _ ht h rfl (df hh) (.inr (.inl ⟨rfl, by rw [beq_iff_eq]; exact he, rfl⟩)) w
      · rw [kind_none h hh he]
        exact Kind_other s _ _ _ ht h rfl (df hh) (.inr (.inr ⟨rfl, beq_eq_false_iff_ne.2 he, rfl⟩)) w
end Go.Proofs.Yteobimhibhfokaa.CelU
