/- SpaC SpaE SpaF SpaD SpaG SpaH SpaI: one behind the other. -/
import Derived.Test.YtoilcieineejiaaGreatDoorSpaN
import Derived.Test.YtoilcieineejiaaGreatDoorLGeo
import Derived.LoopN
import Derived.StillTailTactics
/- A space in its block, and a pointer that has none; what stays where a call turns the block; isNone, geo and refused (over any closure): the walks of their texts. No conditions but those that each lemma names. -/
namespace Go.Proofs.YtoilcieineejiaaGreatDoor.SpaC
open Go.RowKit
open GeoN GeoC GeoS SpaN
/-- A space in a block. -/
def Sp (W : World) (B : Nat) (b l f u : Int) : Prop := W.heap[B]? = some (.cells #[.int .i64 b, .int .i64 l, .int .i64 f, .int .i64 u] 135 (0, 0))
theorem Sp.lt {W : World} {B : Nat} {b l f u : Int} (h : Sp W B b l f u) : B < W.heap.size := (Array.getElem?_eq_some_iff.1 h).1
theorem Sp.step {W W' : World} {B : Nat} {b l f u : Int} (h : Sp W B b l f u) (hb : Below W.heap.size W W') : Sp W' B b l f u := (hb.block _ h.lt).trans h
theorem Sp.cells {W : World} {B : Nat} {b l f u : Int} (h : Sp W B b l f u) : W.cell? ⟨B, 0, none⟩ = some (.int .i64 b) ∧ W.cell? ⟨B, 1, none⟩ = some (.int .i64 l) ∧ W.cell? ⟨B, 2, none⟩ = some (.int .i64 f) ∧ W.cell? ⟨B, 3, none⟩ = some (.int .i64 u) :=
  ⟨blk_cell h rfl, blk_cell h rfl, blk_cell h rfl, blk_cell h rfl⟩
/-- A pointer to no space: none, or to one that no call made. -/
def Non (W : World) (s : Option Addr) : Prop := s = none ∨ ∃ B l f u, s = some ⟨B, 0, none⟩ ∧ Sp W B 0 l f u
theorem Non.step {W W' : World} {s : Option Addr} (h : Non W s) (hb : Below W.heap.size W W') : Non W' s := by
  rcases h with h | ⟨B, l, f, u, h, k⟩
  · exact .inl h
  · exact .inr ⟨B, l, f, u, h, k.step hb⟩
/-- All but one block is as it was. -/
structure But (B : Nat) (w w' : World) : Prop where
  os : w'.os = w.os
  tape : w'.tape = w.tape
  output : w'.output = w.output
  size : w.heap.size ≤ w'.heap.size
  block : ∀ k, k < w.heap.size → k ≠ B → w'.heap[k]? = w.heap[k]?
theorem But.of_below {B : Nat} {w w' : World} (h : Below w.heap.size w w') : But B w w' := ⟨h.os, h.tape, h.output, h.size, fun k hk _ => h.block k hk⟩
theorem But.trans {B : Nat} {u v w : World} (h : But B u v) (k : But B v w) : But B u w :=
  ⟨k.os.trans h.os, k.tape.trans h.tape, k.output.trans h.output, Nat.le_trans h.size k.size, fun i hi hb => (k.block i (Nat.lt_of_lt_of_le hi h.size) hb).trans (h.block i hi hb)⟩
theorem But.step {B : Nat} {u v w : World} (h : But B u v) (k : Below v.heap.size v w) : But B u w := h.trans (.of_below k)
theorem But.set_ {B : Nat} {u w : World} (h : But B u w) (i : Nat) (v : Value) : But B u (w.setCell ⟨B, i, none⟩ v) :=
  h.trans ⟨rfl, rfl, rfl, by simp [World.setCell], fun k _ hk => Below.heap_setCell _ _ _ _ hk⟩
theorem But.below {B C : Nat} {w w' : World} (h : But B w w') (hb : C ≤ B) (hC : C ≤ w.heap.size) : Below C w w' := ⟨h.os, h.tape, h.output, h.size, fun k hk => h.block k (by omega) (by omega)⟩
theorem But.drew {B : Nat} {u w : World} (h : But B u w) : But B u w.drew := ⟨h.os, h.tape, h.output, h.size, h.block⟩
/-- The last cell of a space, stored to. -/
theorem Sp.set_ {W : World} {B : Nat} {b l f u : Int} (h : Sp W B b l f u) (v : Int) : Sp (W.setCell ⟨B, 3, none⟩ (.int .i64 v)) B b l f v := by
  unfold Sp
  rw [blk_set h]
  rfl
theorem isNone_yes (s : Option Addr) (w : World) (h : Non w s) :
    Calls Tryz.prog 99 #[.pointer s] w fun e w' => e = .returned (.bool true) ∧ w = w' := by
  rcases h with rfl | ⟨B, l, f, u, rfl, h⟩
  · go_enter Tryz.func99, Tryz.ntmps99
    go_wp2
    go_ret
    exact ⟨rfl, rfl⟩
  · obtain ⟨k0, _⟩ := h.cells
    clear h
    go_enter Tryz.func99, Tryz.ntmps99
    go_wp2
    go_ret
    exact ⟨rfl, rfl⟩
theorem isNone_no (B : Nat) (b l f u : Int) (w : World) (h : Sp w B b l f u) (hb : (b == 0) = false) :
    Calls Tryz.prog 99 #[.pointer (some ⟨B, 0, none⟩)] w fun e w' => e = .returned (.bool false) ∧ w = w' := by
  obtain ⟨k0, _⟩ := h.cells
  clear h
  go_enter Tryz.func99, Tryz.ntmps99
  go_wp2
  go_ret
  exact ⟨rfl, rfl⟩
end Go.Proofs.YtoilcieineejiaaGreatDoor.SpaC
/- geo, Used, Room, Open, isFull, isOver and Back's closure, where there is a space and where there is none: the walks of their texts. The condition: that the least and the most numbers lie in the program's two variables. -/
namespace Go.Proofs.YtoilcieineejiaaGreatDoor.SpaE
open Go.RowKit
open GeoN GeoC GeoS SpaN SpaC
set_option maxRecDepth 100000 in
/-- What geo answers. -/
theorem geo (B : Nat) (b l f u : Int) (w : World) (h : Sp w B b l f u) :
    Calls Tryz.prog 103 #[.pointer (some ⟨B, 0, none⟩)] w fun e w' => e = .returned (.agg #[.int .i64 b, .int .i64 l, .int .i64 f]) ∧ Below w.heap.size w w' := by
  have HS := Lib.hid h
  clear h
  go_enter Tryz.func103, Tryz.ntmps103
  go_upto_region 1 with (fail)
  obtain ⟨W1, hW1⟩ : ∃ W1, W1 = w.alloc (.cells #[.int .i64 0, .int .i64 0, .int .i64 0] 32) := ⟨_, rfl⟩
  rw [← hW1]
  have B1 := Lib.hid (show Below w.heap.size w W1 by rw [hW1]; exact (Below.refl _ _).alloc (Nat.le_refl _) _)
  have G1 := Lib.hid (show W1.heap[w.heap.size]? = some (.cells #[.int .i64 0, .int .i64 0, .int .i64 0] 32 (0, 0)) by rw [hW1]; exact heap_alloc_new w _)
  clear hW1
  obtain ⟨k0, k1, k2, _⟩ := (HS.out.step B1.out).cells
  refine wp_region_still_tail 16 (by kernel_rfl) (by kernel_rfl) ?_
  simp only [List.take_succ_cons, List.take_zero, List.drop_succ_cons, List.drop_zero]
  change wpStill _ _ W1.drew _ _ _
  repeat still_step
  refine wpStill_nil ?_
  go_wp2_with (refine wpList_store_row rfl 32 _ _ rfl w.heap.size _ rfl rfl 32 _ G1.out infoG rfl (one3 b l f) ?_)
  refine bodyPost_ret (v := .agg #[.int .i64 b, .int .i64 l, .int .i64 f])
    (results_cell_row Tryz.results103 _ _ w.heap.size 32 _ (0, 0) _ rfl (setRow_same G1.out) Tryz.underlying32 rfl infoG) rfl
    ⟨rfl, below_setRow B1.out.drew (Nat.le_refl _) _⟩
theorem Used_none (s : Option Addr) (w : World) (h : Non w s) :
    Calls Tryz.prog 60 #[.pointer s] w fun e w' => e = .returned (.int .i64 0) ∧ w = w' := by
  have HN := Lib.hid (isNone_yes s w h)
  clear h
  go_enter Tryz.func60, Tryz.ntmps60
  go_wp2_with (go_at_call 99; refine HN.out.mono ?_; rintro e _ ⟨rfl, rfl⟩)
  go_ret
  exact ⟨rfl, rfl⟩
theorem Room_none (s : Option Addr) (w : World) (h : Non w s) :
    Calls Tryz.prog 65 #[.pointer s] w fun e w' => e = .returned (.int .i64 0) ∧ w = w' := by
  have HN := Lib.hid (isNone_yes s w h)
  clear h
  go_enter Tryz.func65, Tryz.ntmps65
  go_wp2_with (go_at_call 99; refine HN.out.mono ?_; rintro e _ ⟨rfl, rfl⟩)
  go_ret
  exact ⟨rfl, rfl⟩
theorem Used (B : Nat) (b l f u : Int) (w : World) (h : Sp w B b l f u) (hb : (b == 0) = false) :
    Calls Tryz.prog 60 #[.pointer (some ⟨B, 0, none⟩)] w fun e w' => e = .returned (.int .i64 u) ∧ w = w' := by
  have HN := Lib.hid (isNone_no B b l f u w h hb)
  obtain ⟨k0, k1, k2, k3⟩ := h.cells
  clear h hb
  go_enter Tryz.func60, Tryz.ntmps60
  go_wp2_with (go_at_call 99; refine HN.out.mono ?_; rintro e _ ⟨rfl, rfl⟩)
  go_ret
  exact ⟨rfl, rfl⟩
set_option maxRecDepth 100000 in
theorem Room (B : Nat) (b l f u : Int) (w : World) (h : Sp w B b l f u) (hb : (b == 0) = false) (hg : Bnd w) (hu : u ≤ 9223372036854775807) :
    Calls Tryz.prog 65 #[.pointer (some ⟨B, 0, none⟩)] w fun e w' => e = .returned (.int .i64 (room b l f u)) ∧ Below w.heap.size w w' := by
  have HN := Lib.hid (isNone_no B b l f u w h hb)
  have HG := Lib.hid (fun W h => geo B b l f u W h)
  have HR := Lib.hid (fun W h => GeoD.Room b l f u W h hu)
  have HS := Lib.hid h
  have HB := Lib.hid hg
  obtain ⟨k0, k1, k2, k3⟩ := h.cells
  clear h hb hg hu
  generalize room b l f u = n at *
  go_enter Tryz.func65, Tryz.ntmps65
  go_upto_region 3 with (go_at_call 99; refine HN.out.mono ?_; rintro e _ ⟨rfl, rfl⟩)
  go_region_held3 (fun w' => w'.cell? ⟨B, 3, none⟩ = some (.int .i64 u))
    (first | exact hS | exact k3)
    (first
      | (go_at_call 103; refine (HG.out _ (HS.out.step (Below.refl _ _).drew)).mono ?_; rintro e w1 ⟨rfl, hb1⟩; have B1 := Lib.hid ((Below.refl w.heap.size w).drew.trans hb1); have hS := (HS.out.step B1.out).cells.2.2.2; clear hb1)
      | (go_at_call 102; refine (HR.out _ (HB.out.step B1.out)).mono ?_; rintro e w2 ⟨rfl, hb2⟩; have B2 := Lib.hid (B1.out.trans (hb2.mono B1.out.size)); have hS := (HS.out.step B2.out).cells.2.2.2; clear hb2))
  clear hS k0 k1 k2 k3
  go_wp2
  go_ret
  exact ⟨rfl, B2.out⟩
end Go.Proofs.YtoilcieineejiaaGreatDoor.SpaE
/- Open, isFull, isOver and Back's closure: the walks of their texts. The condition: that the least and the most numbers lie in the program's two variables. -/
namespace Go.Proofs.YtoilcieineejiaaGreatDoor.SpaF
open Go.RowKit
open GeoN GeoC GeoS SpaN SpaC SpaE
theorem quiet_eq {P : Program} {f : FuncId} {args : Array Value} {w : World} {n : Nat} {v : Value}
    (h : Calls P f args (w.drewN n) fun e w' => e = .returned v ∧ w.drewN n = w') : Calls P f args (w.drewN n) fun e w'' => e = .returned v ∧ ∃ m, w'' = w.drewN m :=
  h.mono fun _ _ ⟨he, hm⟩ => ⟨he, n, hm.symm⟩
set_option maxRecDepth 100000 in
theorem Open_none (s : Option Addr) (w : World) (h : Non w s) :
    Calls Tryz.prog 149 #[.pointer s] w fun e w' => e = .returned (.bool false) ∧ Below w.heap.size w w' := by
  have HN := Lib.hid (fun n => isNone_yes s (w.drewN n) (h.step (below_drewN w n)))
  clear h
  go_enter Tryz.func149, Tryz.ntmps149
  go_wp2_with fail
  go_quiet ((go_at_call 99; exact quiet_eq (HN.out _)))
  go_wp2
  go_ret
  exact ⟨rfl, below_drewN w _⟩
set_option maxRecDepth 100000 in
theorem Open (B : Nat) (b l f u : Int) (w : World) (h : Sp w B b l f u) (hb : (b == 0) = false) (hg : Bnd w) :
    Calls Tryz.prog 149 #[.pointer (some ⟨B, 0, none⟩)] w fun e w' => e = .returned (.bool (opened b l f u)) ∧ Below w.heap.size w w' := by
  have HN := Lib.hid (isNone_no B b l f u w.drew (h.step (Below.refl _ _).drew) hb)
  have HG := Lib.hid (fun W h => geo B b l f u W h)
  have HD := Lib.hid (fun W h => GeoD.Data b l f W h)
  have HO : Hid (opened b l f u = decide (u < data b l f)) := Lib.hid rfl
  have HS := Lib.hid h
  have HB := Lib.hid hg
  obtain ⟨k0, k1, k2, k3⟩ := h.cells
  clear h hb hg
  generalize data b l f = n at *
  generalize opened b l f u = q at *
  go_enter Tryz.func149, Tryz.ntmps149
  go_wp2_with fail
  go_region_held3 (fun w' => w'.cell? ⟨B, 3, none⟩ = some (.int .i64 u))
    (first | exact hS | exact k3)
    (first
      | (go_at_call 99; refine HN.out.mono ?_; rintro e _ ⟨rfl, rfl⟩; have hS := (HS.out.step (Below.refl w.heap.size w).drew).cells.2.2.2)
      | (go_at_call 103; refine (HG.out _ (HS.out.step (Below.refl _ _).drew)).mono ?_; rintro e w1 ⟨rfl, hb1⟩; have B1 := Lib.hid ((Below.refl w.heap.size w).drew.trans hb1); have hS := (HS.out.step B1.out).cells.2.2.2; clear hb1)
      | (go_at_call 91; refine (HD.out _ (HB.out.step B1.out)).mono ?_; rintro e w2 ⟨rfl, hb2⟩; have B2 := Lib.hid (B1.out.trans (hb2.mono B1.out.size)); have hS := (HS.out.step B2.out).cells.2.2.2; clear hb2))
  rw [← HO.out]
  go_wp2
  go_ret
  exact ⟨rfl, B2.out⟩
theorem isFull (B : Nat) (b l f u : Int) (w : World) (h : Sp w B b l f u) (hb : (b == 0) = false) (hg : Bnd w) (hu : u ≤ 9223372036854775807) :
    Calls Tryz.prog 131 #[.pointer (some ⟨B, 0, none⟩)] w fun e w' => e = .returned (.bool (full b l f u)) ∧ Below w.heap.size w w' := by
  have HR := Lib.hid (Room B b l f u w h hb hg hu)
  have HF := Lib.hid (show full b l f u = decide (room b l f u = 0) from rfl)
  clear h hb hg hu
  generalize full b l f u = q at *
  generalize room b l f u = n at *
  go_enter Tryz.func131, Tryz.ntmps131
  by_cases h : n = 0
  · subst h
    go_wp2_with (go_at_call 65; refine HR.out.mono ?_; rintro e w1 ⟨rfl, hb1⟩; have B1 := Lib.hid hb1; clear hb1)
    go_ret
    exact ⟨by rw [HF.out] <;> rfl, B1.out⟩
  · have HH := Lib.hid h
    have hz : (n == 0) = false := by rw [beq_eq_false_iff_ne]; exact h
    clear h
    go_wp2_with (go_at_call 65; refine HR.out.mono ?_; rintro e w1 ⟨rfl, hb1⟩; have B1 := Lib.hid hb1; clear hb1)
    go_ret
    exact ⟨by rw [HF.out, decide_eq_false HH.out] <;> rfl, B1.out⟩
theorem isOver (B : Nat) (b l f u : Int) (w : World) (h : Sp w B b l f u) (hb : (b == 0) = false) (hg : Bnd w) :
    Calls Tryz.prog 129 #[.pointer (some ⟨B, 0, none⟩)] w fun e w' => e = .returned (.bool (!opened b l f u)) ∧ Below w.heap.size w w' := by
  have HR := Lib.hid (Open B b l f u w h hb hg)
  clear h hb hg
  generalize opened b l f u = q at *
  go_enter Tryz.func129, Tryz.ntmps129
  go_wp2_with (go_at_call 149; refine HR.out.mono ?_; rintro e w1 ⟨rfl, hb1⟩; have B1 := Lib.hid hb1; clear hb1)
  go_ret
  exact ⟨rfl, B1.out⟩
/-- What Back's closure answers: is the number none that may be given back to? Its two boxes hold the number and the space. -/
def out (n u : Int) : Bool := decide (n < 0 ∨ u < n)
theorem out_yes {n u : Int} (h : n < 0 ∨ u < n) : out n u = true := decide_eq_true h
theorem out_no {n u : Int} (h0 : ¬ n < 0) (h1 : ¬ u < n) : out n u = false := decide_eq_false (fun h => h.elim h0 h1)
end Go.Proofs.YtoilcieineejiaaGreatDoor.SpaF
/- refused, over any closure: the walks of its text. No conditions but those that each lemma names. -/
namespace Go.Proofs.YtoilcieineejiaaGreatDoor.SpaD
open Go.RowKit
open GeoN GeoC GeoS SpaN SpaC
theorem makes (fn : Fn) (first cap : Array Value) (w : World) : (Instr.makeFunc fn first cap).run Tryz.prog w = .ok (.func fn first cap) w := rfl
theorem one2 (K : Nat) (first cap : Array Value) (y : Int) : (#[.func (.func K) first cap, .int .i64 y] : Array Value).all (·.oneCell') = true := by simp [Value.oneCell']
theorem infoR : (Tryz.prog.info? 172).map (·.size) = some 2 := by kernel_rfl
set_option maxRecDepth 100000 in
theorem refused_some (B : Nat) (b l f u why : Int) (K : Nat) (first cap : Array Value) (q : Bool) (w : World) (h : Sp w B b l f u) (hb : (b == 0) = false)
    (hK : ∀ (args : Array Value) (W : World), (callFunc K args).run Tryz.prog W = .ok (.enter K args) W)
    (hc : ∀ W : World, Below w.heap.size w W → Calls Tryz.prog K (first ++ cap) W fun e w' => e = .returned (.bool q) ∧ Below W.heap.size W w') :
    Calls Tryz.prog 148 #[.pointer (some ⟨B, 0, none⟩), .agg #[.func (.func K) first cap, .int .i64 why]] w fun e w' => e = .returned (.int .i64 (if q then why else 0)) ∧ Below w.heap.size w w' := by
  have HC := Lib.hid hc
  have HS := Lib.hid h
  have HN := Lib.hid (fun W h => isNone_no B b l f u W h hb)
  have hmf := makes
  clear hc h hb
  go_enter Tryz.func148, Tryz.ntmps148
  go_wp2_with fail
  generalize hW : World.alloc (World.alloc w _) _ = W2
  have g : W2.heap[w.heap.size + 1]? = some (.cells #[.func (.func 99) #[.pointer (some ⟨B, 0, none⟩)] #[], .int .i64 1, .func (.func K) first cap, .int .i64 why] 172 (0, 0)) := by rw [← hW]; exact heap_alloc2_new w _ _
  have fB : Below w.heap.size w W2 := by rw [← hW]; exact ((Below.refl _ _).alloc (Nat.le_refl _) _).alloc (by simp) _
  have hlt : w.heap.size + 1 < W2.heap.size := (Array.getElem?_eq_some_iff.1 g).1
  have G2 := Lib.hid g
  have B2 := Lib.hid fB
  have L2 := Lib.hid hlt
  clear hW g fB hlt
  generalize w.heap.size + 1 = X at *
  have k0 : W2.cell? ⟨X, 0, none⟩ = some (.func (.func 99) #[.pointer (some ⟨B, 0, none⟩)] #[]) := blk_cell G2.out rfl
  have k1 : W2.cell? ⟨X, 1, none⟩ = some (.int .i64 1) := blk_cell G2.out rfl
  refine wp_loop_rounds 3 ?_
  rw [rounds_succ]
  go_upto_region 4 with (refine wpList_store_row rfl 172 _ _ rfl W2.heap.size _ rfl rfl 172 _ (heap_alloc_new W2 _) infoR rfl (one2 99 #[.pointer (some ⟨B, 0, none⟩)] #[] 1) ?_)
  generalize hW : World.setRow _ _ _ = W3
  have B3 := Lib.hid (show Below W2.heap.size W2 W3 by rw [← hW]; exact kept_new W2 _ _ _)
  have G3 := Lib.hid (show W3.heap[W2.heap.size]? = some (.cells #[.func (.func 99) #[.pointer (some ⟨B, 0, none⟩)] #[], .int .i64 1] 172 (0, 0)) by rw [← hW]; exact has_new W2 _ _ _)
  clear hW k0 k1
  have S2 := Lib.hid (show w.heap.size ≤ W2.heap.size from B2.out.size)
  generalize W2.heap.size = Y at *
  have c0 : W3.cell? ⟨Y, 0, none⟩ = some (.func (.func 99) #[.pointer (some ⟨B, 0, none⟩)] #[]) := blk_cell G3.out rfl
  have E3 := Lib.hid (B2.out.trans (B3.out.mono S2.out))
  go_wp2_with (go_at_call 99; refine (HN.out _ (HS.out.step E3.out)).mono ?_; rintro e _ ⟨rfl, rfl⟩)
  have H3 := Lib.hid ((B3.out.block X L2.out).trans G2.out)
  have k2 : W3.cell? ⟨X, 2, none⟩ = some (.func (.func K) first cap) := blk_cell H3.out rfl
  have k3 : W3.cell? ⟨X, 3, none⟩ = some (.int .i64 why) := blk_cell H3.out rfl
  clear c0 G3 B3 B2 G2 L2 S2 H3
  rw [rounds_succ]
  go_upto_region 4 with (refine wpList_store_row rfl 172 _ _ rfl W3.heap.size _ rfl rfl 172 _ (heap_alloc_new W3 _) infoR rfl (one2 K first cap why) ?_)
  generalize hW : World.setRow _ _ _ = W4
  have B4 := Lib.hid (show Below W3.heap.size W3 W4 by rw [← hW]; exact kept_new W3 _ _ _)
  have G4 := Lib.hid (show W4.heap[W3.heap.size]? = some (.cells #[.func (.func K) first cap, .int .i64 why] 172 (0, 0)) by rw [← hW]; exact has_new W3 _ _ _)
  have L4 := Lib.hid (show W3.heap.size < W4.heap.size from (Array.getElem?_eq_some_iff.1 G4.out).1)
  clear hW k2 k3
  have E4 := Lib.hid (E3.out.trans (B4.out.mono E3.out.size))
  generalize W3.heap.size = Z at *
  have c0 : W4.cell? ⟨Z, 0, none⟩ = some (.func (.func K) first cap) := blk_cell G4.out rfl
  have c1 : W4.cell? ⟨Z, 1, none⟩ = some (.int .i64 why) := blk_cell G4.out rfl
  go_wp2_with fail
  refine (HC.out _ E4.out).mono ?_
  rintro e W5 ⟨rfl, hb5⟩
  have E5 := Lib.hid (E4.out.trans (hb5.mono E4.out.size))
  have c2 : W5.cell? ⟨Z, 1, none⟩ = some (.int .i64 why) := (hb5.cell (p := ⟨Z, 1, none⟩) L4.out).trans c1
  clear hb5 c0 c1 HC
  cases q
  · go_wp2_with fail
    rw [rounds_succ]
    go_wp2_with fail
    go_ret
    exact ⟨rfl, E5.out⟩
  · go_wp2_with fail
    go_ret
    exact ⟨rfl, E5.out⟩
set_option maxRecDepth 100000 in
theorem refused_none (s : Option Addr) (why : Int) (K : Nat) (first cap : Array Value) (w : World) (h : Non w s) :
    Calls Tryz.prog 148 #[.pointer s, .agg #[.func (.func K) first cap, .int .i64 why]] w fun e w' => e = .returned (.int .i64 1) ∧ Below w.heap.size w w' := by
  have HS := Lib.hid h
  have HN := Lib.hid (fun W h => isNone_yes s W h)
  have hmf := makes
  clear h
  go_enter Tryz.func148, Tryz.ntmps148
  go_wp2_with fail
  generalize hW : World.alloc (World.alloc w _) _ = W2
  have g : W2.heap[w.heap.size + 1]? = some (.cells #[.func (.func 99) #[.pointer s] #[], .int .i64 1, .func (.func K) first cap, .int .i64 why] 172 (0, 0)) := by rw [← hW]; exact heap_alloc2_new w _ _
  have fB : Below w.heap.size w W2 := by rw [← hW]; exact ((Below.refl _ _).alloc (Nat.le_refl _) _).alloc (by simp) _
  have hlt : w.heap.size + 1 < W2.heap.size := (Array.getElem?_eq_some_iff.1 g).1
  have G2 := Lib.hid g
  have B2 := Lib.hid fB
  have L2 := Lib.hid hlt
  clear hW g fB hlt
  generalize w.heap.size + 1 = X at *
  have k0 : W2.cell? ⟨X, 0, none⟩ = some (.func (.func 99) #[.pointer s] #[]) := blk_cell G2.out rfl
  have k1 : W2.cell? ⟨X, 1, none⟩ = some (.int .i64 1) := blk_cell G2.out rfl
  refine wp_loop_rounds 3 ?_
  rw [rounds_succ]
  go_upto_region 4 with (refine wpList_store_row rfl 172 _ _ rfl W2.heap.size _ rfl rfl 172 _ (heap_alloc_new W2 _) infoR rfl (one2 99 #[.pointer s] #[] 1) ?_)
  generalize hW : World.setRow _ _ _ = W3
  have B3 := Lib.hid (show Below W2.heap.size W2 W3 by rw [← hW]; exact kept_new W2 _ _ _)
  have G3 := Lib.hid (show W3.heap[W2.heap.size]? = some (.cells #[.func (.func 99) #[.pointer s] #[], .int .i64 1] 172 (0, 0)) by rw [← hW]; exact has_new W2 _ _ _)
  clear hW k0 k1
  have S2 := Lib.hid (show w.heap.size ≤ W2.heap.size from B2.out.size)
  generalize W2.heap.size = Y at *
  have c0 : W3.cell? ⟨Y, 0, none⟩ = some (.func (.func 99) #[.pointer s] #[]) := blk_cell G3.out rfl
  have c1 : W3.cell? ⟨Y, 1, none⟩ = some (.int .i64 1) := blk_cell G3.out rfl
  have E3 := Lib.hid (B2.out.trans (B3.out.mono S2.out))
  go_wp2_with (go_at_call 99; refine (HN.out _ (HS.out.step E3.out)).mono ?_; rintro e _ ⟨rfl, rfl⟩)
  go_ret
  exact ⟨rfl, E3.out⟩
end Go.Proofs.YtoilcieineejiaaGreatDoor.SpaD
/- next (over any closure), Take, Close and Back: the walks of their texts. The condition: that the least and the most numbers lie in the program's two variables. -/
namespace Go.Proofs.YtoilcieineejiaaGreatDoor.SpaG
open Go.RowKit
open GeoN GeoC GeoS SpaN SpaC SpaE SpaF SpaD
theorem box_new (w : World) (o : Obj) : Below w.heap.size w (w.alloc o) := (Below.refl _ _).alloc (Nat.le_refl _) _
set_option maxRecDepth 100000 in
theorem next_none (s : Option Addr) (why : Int) (K : Nat) (first cap : Array Value) (w : World) (h : Non w s) :
    Calls Tryz.prog 128 #[.pointer s, .agg #[.func (.func K) first cap, .int .i64 why]] w fun e w' => e = .returned (.tuple #[.int .i64 0, .int .i64 1]) ∧ Below w.heap.size w w' := by
  have HN := Lib.hid (fun W h => refused_none s why K first cap W h)
  have HS := Lib.hid h
  clear h
  go_enter Tryz.func128, Tryz.ntmps128
  go_upto_region 1 with (fail)
  generalize hW : World.alloc w _ = W1
  have B1 := Lib.hid (show Below w.heap.size w W1 by rw [← hW]; exact box_new w _)
  have k0 : W1.cell? ⟨w.heap.size, 0, none⟩ = some (.func (.func K) first cap) := blk_cell (by rw [← hW]; exact heap_alloc_new w _) rfl
  have k1 : W1.cell? ⟨w.heap.size, 1, none⟩ = some (.int .i64 why) := blk_cell (by rw [← hW]; exact heap_alloc_new w _) rfl
  clear hW
  go_wp2_with (go_at_call 148; refine (HN.out _ (HS.out.step B1.out)).mono ?_; rintro e w2 ⟨rfl, hb2⟩; have B2 := Lib.hid (B1.out.trans (hb2.mono B1.out.size)); clear hb2 k0 k1)
  go_ret2
  exact ⟨rfl, B2.out⟩
set_option maxRecDepth 100000 in
theorem next_no (B : Nat) (b l f u why : Int) (K : Nat) (first cap : Array Value) (w : World) (h : Sp w B b l f u) (hb : (b == 0) = false) (hw : (why == 0) = false)
    (hK : ∀ (args : Array Value) (W : World), (callFunc K args).run Tryz.prog W = .ok (.enter K args) W)
    (hc : ∀ W : World, Below w.heap.size w W → Calls Tryz.prog K (first ++ cap) W fun e w' => e = .returned (.bool true) ∧ Below W.heap.size W w') :
    Calls Tryz.prog 128 #[.pointer (some ⟨B, 0, none⟩), .agg #[.func (.func K) first cap, .int .i64 why]] w fun e w' => e = .returned (.tuple #[.int .i64 0, .int .i64 why]) ∧ Below w.heap.size w w' := by
  have HN := Lib.hid (fun W (h1 : Below w.heap.size w W) => refused_some B b l f u why K first cap true W (h.step h1) hb hK (fun V h2 => hc V (h1.trans (h2.mono h1.size))))
  clear h hc hK hb
  go_enter Tryz.func128, Tryz.ntmps128
  go_upto_region 1 with (fail)
  generalize hW : World.alloc w _ = W1
  have B1 := Lib.hid (show Below w.heap.size w W1 by rw [← hW]; exact box_new w _)
  have k0 : W1.cell? ⟨w.heap.size, 0, none⟩ = some (.func (.func K) first cap) := blk_cell (by rw [← hW]; exact heap_alloc_new w _) rfl
  have k1 : W1.cell? ⟨w.heap.size, 1, none⟩ = some (.int .i64 why) := blk_cell (by rw [← hW]; exact heap_alloc_new w _) rfl
  clear hW
  go_wp2_with (go_at_call 148; refine (HN.out _ B1.out).mono ?_; rintro e w2 ⟨rfl, hb2⟩; have B2 := Lib.hid (B1.out.trans (hb2.mono B1.out.size)); clear hb2 k0 k1)
  go_ret2
  exact ⟨rfl, B2.out⟩
set_option maxRecDepth 100000 in
theorem next_yes (B : Nat) (b l f u why : Int) (K : Nat) (first cap : Array Value) (w : World) (h : Sp w B b l f u) (hb : (b == 0) = false) (hu0 : 0 ≤ u) (hu1 : u ≤ 1020)
    (hK : ∀ (args : Array Value) (W : World), (callFunc K args).run Tryz.prog W = .ok (.enter K args) W)
    (hc : ∀ W : World, Below w.heap.size w W → Calls Tryz.prog K (first ++ cap) W fun e w' => e = .returned (.bool false) ∧ Below W.heap.size W w') :
    Calls Tryz.prog 128 #[.pointer (some ⟨B, 0, none⟩), .agg #[.func (.func K) first cap, .int .i64 why]] w fun e w' => e = .returned (.tuple #[.int .i64 u, .int .i64 0]) ∧ Sp w' B b l f (u + 1) ∧ But B w w' := by
  have HN := Lib.hid (fun W (h1 : Below w.heap.size w W) => refused_some B b l f u why K first cap false W (h.step h1) hb hK (fun V h2 => hc V (h1.trans (h2.mono h1.size))))
  have HS := Lib.hid h
  clear h hc hK hb
  go_enter Tryz.func128, Tryz.ntmps128
  go_upto_region 1 with (fail)
  generalize hW : World.alloc w _ = W1
  have B1 := Lib.hid (show Below w.heap.size w W1 by rw [← hW]; exact box_new w _)
  have k0 : W1.cell? ⟨w.heap.size, 0, none⟩ = some (.func (.func K) first cap) := blk_cell (by rw [← hW]; exact heap_alloc_new w _) rfl
  have k1 : W1.cell? ⟨w.heap.size, 1, none⟩ = some (.int .i64 why) := blk_cell (by rw [← hW]; exact heap_alloc_new w _) rfl
  clear hW
  go_wp2_with (go_at_call 148; refine (HN.out _ B1.out).mono ?_; rintro e w2 ⟨rfl, hb2⟩; have B2 := Lib.hid (B1.out.trans (hb2.mono B1.out.size)); have c3 := (HS.out.step B2.out).cells.2.2.2; have f3 := blk_free (i := 3) (HS.out.step B2.out); clear hb2 k0 k1)
  go_ret2
  exact ⟨rfl, (HS.out.step B2.out).set_ _, (But.of_below B2.out).set_ _ _⟩
end Go.Proofs.YtoilcieineejiaaGreatDoor.SpaG
/- Take, Close and Back: the walks of their texts. The condition: that the least and the most numbers lie in the program's two variables. -/
namespace Go.Proofs.YtoilcieineejiaaGreatDoor.SpaH
open Go.RowKit
open GeoN GeoC GeoS SpaN SpaC SpaE SpaF SpaD SpaG
set_option maxRecDepth 100000 in
theorem Take_none (s : Option Addr) (w : World) (h : Non w s) :
    Calls Tryz.prog 98 #[.pointer s] w fun e w' => e = .returned (.tuple #[.int .i64 0, .int .i64 1]) ∧ Below w.heap.size w w' := by
  have HN := Lib.hid (next_none s 5 131 #[.pointer s] #[] w h)
  have hmf := makes
  clear h
  go_enter Tryz.func98, Tryz.ntmps98
  go_wp2_with (go_at_call 128; refine HN.out.mono ?_; rintro e w2 ⟨rfl, hb2⟩; have B2 := Lib.hid hb2; clear hb2)
  go_ret2
  exact ⟨rfl, B2.out⟩
set_option maxRecDepth 100000 in
theorem Close_none (s : Option Addr) (w : World) (h : Non w s) :
    Calls Tryz.prog 95 #[.pointer s] w fun e w' => e = .returned (.tuple #[.int .i64 0, .int .i64 1]) ∧ Below w.heap.size w w' := by
  have HN := Lib.hid (next_none s 6 129 #[.pointer s] #[] w h)
  have hmf := makes
  clear h
  go_enter Tryz.func95, Tryz.ntmps95
  go_wp2_with (go_at_call 128; refine HN.out.mono ?_; rintro e w2 ⟨rfl, hb2⟩; have B2 := Lib.hid hb2; clear hb2)
  go_ret2
  exact ⟨rfl, B2.out⟩
set_option maxRecDepth 100000 in
theorem Take_no (B : Nat) (b l f u : Int) (w : World) (h : Sp w B b l f u) (hb : (b == 0) = false) (hg : Bnd w) (hu : u ≤ 9223372036854775807) (hr : room b l f u = 0) :
    Calls Tryz.prog 98 #[.pointer (some ⟨B, 0, none⟩)] w fun e w' => e = .returned (.tuple #[.int .i64 0, .int .i64 5]) ∧ Below w.heap.size w w' := by
  have HN := Lib.hid (next_no B b l f u 5 131 #[.pointer (some ⟨B, 0, none⟩)] #[] w h hb rfl (fun _ _ => rfl) (fun W h1 => by have := isFull B b l f u W (h.step h1) hb (hg.step h1) hu; rw [full_yes hr] at this; exact this))
  have hmf := makes
  clear h hb hg hu hr
  go_enter Tryz.func98, Tryz.ntmps98
  go_wp2_with (go_at_call 128; refine HN.out.mono ?_; rintro e w2 ⟨rfl, hb2⟩; have B2 := Lib.hid hb2; clear hb2)
  go_ret2
  exact ⟨rfl, B2.out⟩
set_option maxRecDepth 100000 in
theorem Take_yes (B : Nat) (b l f u : Int) (w : World) (h : Sp w B b l f u) (hb : (b == 0) = false) (hg : Bnd w) (hu0 : 0 ≤ u) (hu1 : u ≤ 1020) (hr : ¬ room b l f u = 0) :
    Calls Tryz.prog 98 #[.pointer (some ⟨B, 0, none⟩)] w fun e w' => e = .returned (.tuple #[.int .i64 u, .int .i64 0]) ∧ Sp w' B b l f (u + 1) ∧ But B w w' := by
  have HN := Lib.hid (next_yes B b l f u 5 131 #[.pointer (some ⟨B, 0, none⟩)] #[] w h hb hu0 hu1 (fun _ _ => rfl) (fun W h1 => by have := isFull B b l f u W (h.step h1) hb (hg.step h1) (by omega); rw [full_no hr] at this; exact this))
  have hmf := makes
  clear h hb hg hu0 hu1 hr
  go_enter Tryz.func98, Tryz.ntmps98
  go_wp2_with (go_at_call 128; refine HN.out.mono ?_; rintro e w2 ⟨rfl, hb2⟩; have B2 := Lib.hid hb2; clear hb2)
  go_ret2
  exact ⟨rfl, B2.out⟩
set_option maxRecDepth 100000 in
theorem Close_no (B : Nat) (b l f u : Int) (w : World) (h : Sp w B b l f u) (hb : (b == 0) = false) (hg : Bnd w) (hr : ¬ u < data b l f) :
    Calls Tryz.prog 95 #[.pointer (some ⟨B, 0, none⟩)] w fun e w' => e = .returned (.tuple #[.int .i64 0, .int .i64 6]) ∧ Below w.heap.size w w' := by
  have HN := Lib.hid (next_no B b l f u 6 129 #[.pointer (some ⟨B, 0, none⟩)] #[] w h hb rfl (fun _ _ => rfl) (fun W h1 => by have := isOver B b l f u W (h.step h1) hb (hg.step h1); rw [opened_no hr] at this; exact this))
  have hmf := makes
  clear h hb hg hr
  go_enter Tryz.func95, Tryz.ntmps95
  go_wp2_with (go_at_call 128; refine HN.out.mono ?_; rintro e w2 ⟨rfl, hb2⟩; have B2 := Lib.hid hb2; clear hb2)
  go_ret2
  exact ⟨rfl, B2.out⟩
set_option maxRecDepth 100000 in
theorem Close_yes (B : Nat) (b l f u : Int) (w : World) (h : Sp w B b l f u) (hb : (b == 0) = false) (hg : Bnd w) (hu0 : 0 ≤ u) (hu1 : u ≤ 1020) (hr : u < data b l f) :
    Calls Tryz.prog 95 #[.pointer (some ⟨B, 0, none⟩)] w fun e w' => e = .returned (.tuple #[.int .i64 u, .int .i64 0]) ∧ Sp w' B b l f (u + 1) ∧ But B w w' := by
  have HN := Lib.hid (next_yes B b l f u 6 129 #[.pointer (some ⟨B, 0, none⟩)] #[] w h hb hu0 hu1 (fun _ _ => rfl) (fun W h1 => by have := isOver B b l f u W (h.step h1) hb (hg.step h1); rw [opened_yes hr] at this; exact this))
  have hmf := makes
  clear h hb hg hu0 hu1 hr
  go_enter Tryz.func95, Tryz.ntmps95
  go_wp2_with (go_at_call 128; refine HN.out.mono ?_; rintro e w2 ⟨rfl, hb2⟩; have B2 := Lib.hid hb2; clear hb2)
  go_ret2
  exact ⟨rfl, B2.out⟩
/-- Both boxes of Back. -/
structure Bx (w : World) (s : Option Addr) (n : Int) (W : World) : Prop where
  bel : Below w.heap.size w W
  s : W.heap[w.heap.size]? = some (.cells #[.pointer s] 95 (0, 0))
  n : W.heap[w.heap.size + 1]? = some (.cells #[.int .i64 n] 3 (0, 0))
theorem bx_new (w : World) (s : Option Addr) (n : Int) : Bx w s n ((w.alloc (.cells #[.pointer s] 95)).alloc (.cells #[.int .i64 n] 3)) :=
  ⟨(box_new w _).trans ((box_new _ _).mono (by simp)), heap_alloc2_old w _ _, heap_alloc2_new w _ _⟩
theorem Bx.lt {w W : World} {s : Option Addr} {n : Int} (h : Bx w s n W) : w.heap.size + 1 < W.heap.size := (Array.getElem?_eq_some_iff.1 h.n).1
theorem Bx.step {w W W' : World} {s : Option Addr} {n : Int} (h : Bx w s n W) (hb : Below W.heap.size W W') : Bx w s n W' :=
  ⟨h.bel.trans (hb.mono h.bel.size), (hb.block _ (by have := h.lt; omega)).trans h.s, (hb.block _ h.lt).trans h.n⟩
theorem Bx.cells {w W : World} {s : Option Addr} {n : Int} (h : Bx w s n W) : W.cell? ⟨w.heap.size, 0, none⟩ = some (.pointer s) ∧ W.cell? ⟨w.heap.size + 1, 0, none⟩ = some (.int .i64 n) := ⟨blk_cell h.s rfl, blk_cell h.n rfl⟩
end Go.Proofs.YtoilcieineejiaaGreatDoor.SpaH
/- New: the walk of its text. The condition: that the least and the most numbers lie in the program's two variables. -/
namespace Go.Proofs.YtoilcieineejiaaGreatDoor.SpaI
open Go.RowKit
open GeoN GeoC GeoS SpaN SpaC
/-- A space of the call's own. -/
def Made (w : World) (b l f u : Int) (e : Ending) (w' : World) : Prop := ∃ B, w.heap.size ≤ B ∧ e = .returned (.tuple #[.pointer (some ⟨B, 0, none⟩), .int .i64 0]) ∧ Sp w' B b l f u ∧ Below w.heap.size w w'
set_option maxRecDepth 100000 in
theorem New_no (b l f u : Int) (w : World) (hg : Bnd w) (h : ¬ good b l f u) :
    Calls Tryz.prog 47 #[.agg #[.int .i64 b, .int .i64 l, .int .i64 f], .int .i64 u] w fun e w' => e = .returned (.tuple #[.pointer none, .int .i64 2]) ∧ Below w.heap.size w w' := by
  obtain ⟨W1, hW1⟩ : ∃ W1, W1 = w.alloc (.cells #[.int .i64 b, .int .i64 l, .int .i64 f] 32) := ⟨_, rfl⟩
  have S1 := Lib.hid (show St w b l f W1 by rw [hW1]; exact st_new b l f hg)
  have HC := Lib.hid (fun W h => GeoD.Check b l f W h)
  have HD := Lib.hid (fun W h => GeoD.Data b l f W h)
  obtain ⟨k0, k1, k2⟩ := S1.out.cells
  by_cases hr : right b l f
  · rw [check_yes hr] at HC
    rw [data_yes hr] at HD
    have hb := hr.1
    have hb2 := hr.2.1
    by_cases h0 : u < 0
    · clear h hg hr
      go_enter Tryz.func47, Tryz.ntmps47
      go_upto_region 1 with (fail)
      rw [← hW1]
      clear hW1
      go_wp2_with (go_at_call 34; refine (HC.out _ S1.out.bn).mono ?_; rintro e w2 ⟨rfl, hb2⟩; replace S1 := Lib.hid (S1.out.step hb2); clear hb2)
      go_ret2
      exact ⟨rfl, S1.out.bel⟩
    · have h1 : b - 4 < u := by
        by_cases hh : b - 4 < u
        · exact hh
        · exact absurd ⟨hr, by omega, by omega⟩ h
      clear h hg hr
      go_enter Tryz.func47, Tryz.ntmps47
      go_upto_region 1 with (fail)
      rw [← hW1]
      clear hW1
      go_wp2_with (first
        | (go_at_call 34; refine (HC.out _ S1.out.bn).mono ?_; rintro e w2 ⟨rfl, hb2⟩; clear k0 k1 k2; replace S1 := Lib.hid (S1.out.step hb2); obtain ⟨k0, k1, k2⟩ := S1.out.cells; clear hb2)
        | (go_at_call 91; refine (HD.out _ S1.out.bn).mono ?_; rintro e w3 ⟨rfl, hb3⟩; replace S1 := Lib.hid (S1.out.step hb3); clear hb3))
      go_ret2
      exact ⟨rfl, S1.out.bel⟩
  · rw [check_no hr] at HC
    clear h hg hr
    go_enter Tryz.func47, Tryz.ntmps47
    go_upto_region 1 with (fail)
    rw [← hW1]
    clear hW1
    go_wp2_with (go_at_call 34; refine (HC.out _ S1.out.bn).mono ?_; rintro e w2 ⟨rfl, hb2⟩; replace S1 := Lib.hid (S1.out.step hb2); clear hb2)
    go_ret2
    exact ⟨rfl, S1.out.bel⟩
set_option maxRecDepth 100000 in
theorem New_yes (b l f u : Int) (w : World) (hg : Bnd w) (h : good b l f u) :
    Calls Tryz.prog 47 #[.agg #[.int .i64 b, .int .i64 l, .int .i64 f], .int .i64 u] w (Made w b l f u) := by
  obtain ⟨W1, hW1⟩ : ∃ W1, W1 = w.alloc (.cells #[.int .i64 b, .int .i64 l, .int .i64 f] 32) := ⟨_, rfl⟩
  have S1 := Lib.hid (show St w b l f W1 by rw [hW1]; exact st_new b l f hg)
  have HC := Lib.hid (fun W h => GeoD.Check b l f W h)
  have HD := Lib.hid (fun W h => GeoD.Data b l f W h)
  obtain ⟨k0, k1, k2⟩ := S1.out.cells
  rw [check_yes h.1] at HC
  rw [data_yes h.1] at HD
  have hb := h.b
  have h0 : 0 ≤ u := h.2.1
  have h1 : u ≤ b - 4 := h.2.2
  obtain ⟨hb0, hb1⟩ := hb
  clear h hg
  go_enter Tryz.func47, Tryz.ntmps47
  go_upto_region 1 with (fail)
  rw [← hW1]
  clear hW1
  go_wp2_with (first
    | (go_at_call 34; refine (HC.out _ S1.out.bn).mono ?_; rintro e w2 ⟨rfl, hb2⟩; clear k0 k1 k2; replace S1 := Lib.hid (S1.out.step hb2); obtain ⟨k0, k1, k2⟩ := S1.out.cells; clear hb2)
    | (go_at_call 91; refine (HD.out _ S1.out.bn).mono ?_; rintro e w3 ⟨rfl, hb3⟩; clear k0 k1 k2; replace S1 := Lib.hid (S1.out.step hb3); obtain ⟨k0, k1, k2⟩ := S1.out.cells; clear hb3))
  go_ret2
  exact ⟨_, S1.out.bel.size, rfl, heap_alloc_new _ _, S1.out.bel.alloc S1.out.bel.size _⟩
end Go.Proofs.YtoilcieineejiaaGreatDoor.SpaI
