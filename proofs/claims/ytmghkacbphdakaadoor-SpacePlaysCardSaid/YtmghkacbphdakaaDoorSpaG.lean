/- next (over any closure), Take, Close and Back: the walks of their texts. The condition: that the least and the most numbers lie in the program's two variables. -/
import Derived.Test.YtmghkacbphdakaaDoorSpaF
import Derived.Test.YtmghkacbphdakaaDoorSpaD
namespace Go.Proofs.YtmghkacbphdakaaDoor.SpaG
open Go.RowKit
open GeoN GeoC GeoS SpaN SpaC SpaE SpaF SpaD
theorem box_new (w : World) (o : Obj) : Below w.heap.size w (w.alloc o) := (Below.refl _ _).alloc (Nat.le_refl _) _
set_option maxRecDepth 100000 in
theorem next_none (s : Option Addr) (why : Int) (K : Nat) (first cap : Array Value) (w : World) (h : Non w s) :
    Calls Tryd.prog 19 #[.pointer s, .agg #[.func (.func K) first cap, .int .i64 why]] w fun e w' => e = .returned (.tuple #[.int .i64 0, .int .i64 1]) ∧ Below w.heap.size w w' := by
  have HN := Lib.hid (fun W h => refused_none s why K first cap W h)
  have HS := Lib.hid h
  clear h
  go_enter Tryd.func19, Tryd.ntmps19
  go_upto_region 1 with (fail)
  generalize hW : World.alloc w _ = W1
  have B1 := Lib.hid (show Below w.heap.size w W1 by rw [← hW]; exact box_new w _)
  have k0 : W1.cell? ⟨w.heap.size, 0, none⟩ = some (.func (.func K) first cap) := blk_cell (by rw [← hW]; exact heap_alloc_new w _) rfl
  have k1 : W1.cell? ⟨w.heap.size, 1, none⟩ = some (.int .i64 why) := blk_cell (by rw [← hW]; exact heap_alloc_new w _) rfl
  clear hW
  go_wp2_with (go_at_call 23; refine (HN.out _ (HS.out.step B1.out)).mono ?_; rintro e w2 ⟨rfl, hb2⟩; have B2 := Lib.hid (B1.out.trans (hb2.mono B1.out.size)); clear hb2 k0 k1)
  go_ret2
  exact ⟨rfl, B2.out⟩
set_option maxRecDepth 100000 in
theorem next_no (B : Nat) (b l f u why : Int) (K : Nat) (first cap : Array Value) (w : World) (h : Sp w B b l f u) (hb : (b == 0) = false) (hw : (why == 0) = false)
    (hK : ∀ (args : Array Value) (W : World), (callFunc K args).run Tryd.prog W = .ok (.enter K args) W)
    (hc : ∀ W : World, Below w.heap.size w W → Calls Tryd.prog K (first ++ cap) W fun e w' => e = .returned (.bool true) ∧ Below W.heap.size W w') :
    Calls Tryd.prog 19 #[.pointer (some ⟨B, 0, none⟩), .agg #[.func (.func K) first cap, .int .i64 why]] w fun e w' => e = .returned (.tuple #[.int .i64 0, .int .i64 why]) ∧ Below w.heap.size w w' := by
  have HN := Lib.hid (fun W (h1 : Below w.heap.size w W) => refused_some B b l f u why K first cap true W (h.step h1) hb hK (fun V h2 => hc V (h1.trans (h2.mono h1.size))))
  clear h hc hK hb
  go_enter Tryd.func19, Tryd.ntmps19
  go_upto_region 1 with (fail)
  generalize hW : World.alloc w _ = W1
  have B1 := Lib.hid (show Below w.heap.size w W1 by rw [← hW]; exact box_new w _)
  have k0 : W1.cell? ⟨w.heap.size, 0, none⟩ = some (.func (.func K) first cap) := blk_cell (by rw [← hW]; exact heap_alloc_new w _) rfl
  have k1 : W1.cell? ⟨w.heap.size, 1, none⟩ = some (.int .i64 why) := blk_cell (by rw [← hW]; exact heap_alloc_new w _) rfl
  clear hW
  go_wp2_with (go_at_call 23; refine (HN.out _ B1.out).mono ?_; rintro e w2 ⟨rfl, hb2⟩; have B2 := Lib.hid (B1.out.trans (hb2.mono B1.out.size)); clear hb2 k0 k1)
  go_ret2
  exact ⟨rfl, B2.out⟩
set_option maxRecDepth 100000 in
theorem next_yes (B : Nat) (b l f u why : Int) (K : Nat) (first cap : Array Value) (w : World) (h : Sp w B b l f u) (hb : (b == 0) = false) (hu0 : 0 ≤ u) (hu1 : u ≤ 1020)
    (hK : ∀ (args : Array Value) (W : World), (callFunc K args).run Tryd.prog W = .ok (.enter K args) W)
    (hc : ∀ W : World, Below w.heap.size w W → Calls Tryd.prog K (first ++ cap) W fun e w' => e = .returned (.bool false) ∧ Below W.heap.size W w') :
    Calls Tryd.prog 19 #[.pointer (some ⟨B, 0, none⟩), .agg #[.func (.func K) first cap, .int .i64 why]] w fun e w' => e = .returned (.tuple #[.int .i64 u, .int .i64 0]) ∧ Sp w' B b l f (u + 1) ∧ But B w w' := by
  have HN := Lib.hid (fun W (h1 : Below w.heap.size w W) => refused_some B b l f u why K first cap false W (h.step h1) hb hK (fun V h2 => hc V (h1.trans (h2.mono h1.size))))
  have HS := Lib.hid h
  clear h hc hK hb
  go_enter Tryd.func19, Tryd.ntmps19
  go_upto_region 1 with (fail)
  generalize hW : World.alloc w _ = W1
  have B1 := Lib.hid (show Below w.heap.size w W1 by rw [← hW]; exact box_new w _)
  have k0 : W1.cell? ⟨w.heap.size, 0, none⟩ = some (.func (.func K) first cap) := blk_cell (by rw [← hW]; exact heap_alloc_new w _) rfl
  have k1 : W1.cell? ⟨w.heap.size, 1, none⟩ = some (.int .i64 why) := blk_cell (by rw [← hW]; exact heap_alloc_new w _) rfl
  clear hW
  go_wp2_with (go_at_call 23; refine (HN.out _ B1.out).mono ?_; rintro e w2 ⟨rfl, hb2⟩; have B2 := Lib.hid (B1.out.trans (hb2.mono B1.out.size)); have c3 := (HS.out.step B2.out).cells.2.2.2; have f3 := blk_free (i := 3) (HS.out.step B2.out); clear hb2 k0 k1)
  go_ret2
  exact ⟨rfl, (HS.out.step B2.out).set_ _, (But.of_below B2.out).set_ _ _⟩
end Go.Proofs.YtmghkacbphdakaaDoor.SpaG
