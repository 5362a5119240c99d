/- refused, over any closure: the walks of its text. No conditions but those that each lemma names. -/
import Derived.Test.YtmghkacbphdakaaDoorSpaC
namespace Go.Proofs.YtmghkacbphdakaaDoor.SpaD
open Go.RowKit
open GeoN GeoC GeoS SpaN SpaC
theorem makes (fn : Fn) (first cap : Array Value) (w : World) : (Instr.makeFunc fn first cap).run Tryd.prog w = .ok (.func fn first cap) w := rfl
theorem one2 (K : Nat) (first cap : Array Value) (y : Int) : (#[.func (.func K) first cap, .int .i64 y] : Array Value).all (·.oneCell') = true := by simp [Value.oneCell']
theorem infoR : (Tryd.prog.info? 50).map (·.size) = some 2 := by kernel_rfl
set_option maxRecDepth 100000 in
theorem refused_some (B : Nat) (b l f u why : Int) (K : Nat) (first cap : Array Value) (q : Bool) (w : World) (h : Sp w B b l f u) (hb : (b == 0) = false)
    (hK : ∀ (args : Array Value) (W : World), (callFunc K args).run Tryd.prog W = .ok (.enter K args) W)
    (hc : ∀ W : World, Below w.heap.size w W → Calls Tryd.prog K (first ++ cap) W fun e w' => e = .returned (.bool q) ∧ Below W.heap.size W w') :
    Calls Tryd.prog 23 #[.pointer (some ⟨B, 0, none⟩), .agg #[.func (.func K) first cap, .int .i64 why]] w fun e w' => e = .returned (.int .i64 (if q then why else 0)) ∧ Below w.heap.size w w' := by
  have HC := Lib.hid hc
  have HS := Lib.hid h
  have HN := Lib.hid (fun W h => isNone_no B b l f u W h hb)
  have hmf := makes
  clear hc h hb
  go_enter Tryd.func23, Tryd.ntmps23
  go_wp2_with fail
  generalize hW : World.alloc (World.alloc w _) _ = W2
  have g : W2.heap[w.heap.size + 1]? = some (.cells #[.func (.func 24) #[.pointer (some ⟨B, 0, none⟩)] #[], .int .i64 1, .func (.func K) first cap, .int .i64 why] 50 (0, 0)) := by rw [← hW]; exact heap_alloc2_new w _ _
  have fB : Below w.heap.size w W2 := by rw [← hW]; exact ((Below.refl _ _).alloc (Nat.le_refl _) _).alloc (by simp) _
  have hlt : w.heap.size + 1 < W2.heap.size := (Array.getElem?_eq_some_iff.1 g).1
  have G2 := Lib.hid g
  have B2 := Lib.hid fB
  have L2 := Lib.hid hlt
  clear hW g fB hlt
  generalize w.heap.size + 1 = X at *
  have k0 : W2.cell? ⟨X, 0, none⟩ = some (.func (.func 24) #[.pointer (some ⟨B, 0, none⟩)] #[]) := blk_cell G2.out rfl
  have k1 : W2.cell? ⟨X, 1, none⟩ = some (.int .i64 1) := blk_cell G2.out rfl
  refine wp_loop_rounds 3 ?_
  rw [rounds_succ]
  go_upto_region 4 with (refine wpList_store_row rfl 50 _ _ rfl W2.heap.size _ rfl rfl 50 _ (heap_alloc_new W2 _) infoR rfl (one2 24 #[.pointer (some ⟨B, 0, none⟩)] #[] 1) ?_)
  generalize hW : World.setRow _ _ _ = W3
  have B3 := Lib.hid (show Below W2.heap.size W2 W3 by rw [← hW]; exact kept_new W2 _ _ _)
  have G3 := Lib.hid (show W3.heap[W2.heap.size]? = some (.cells #[.func (.func 24) #[.pointer (some ⟨B, 0, none⟩)] #[], .int .i64 1] 50 (0, 0)) by rw [← hW]; exact has_new W2 _ _ _)
  clear hW k0 k1
  have S2 := Lib.hid (show w.heap.size ≤ W2.heap.size from B2.out.size)
  generalize W2.heap.size = Y at *
  have c0 : W3.cell? ⟨Y, 0, none⟩ = some (.func (.func 24) #[.pointer (some ⟨B, 0, none⟩)] #[]) := blk_cell G3.out rfl
  have E3 := Lib.hid (B2.out.trans (B3.out.mono S2.out))
  go_wp2_with (go_at_call 24; refine (HN.out _ (HS.out.step E3.out)).mono ?_; rintro e _ ⟨rfl, rfl⟩)
  have H3 := Lib.hid ((B3.out.block X L2.out).trans G2.out)
  have k2 : W3.cell? ⟨X, 2, none⟩ = some (.func (.func K) first cap) := blk_cell H3.out rfl
  have k3 : W3.cell? ⟨X, 3, none⟩ = some (.int .i64 why) := blk_cell H3.out rfl
  clear c0 G3 B3 B2 G2 L2 S2 H3
  rw [rounds_succ]
  go_upto_region 4 with (refine wpList_store_row rfl 50 _ _ rfl W3.heap.size _ rfl rfl 50 _ (heap_alloc_new W3 _) infoR rfl (one2 K first cap why) ?_)
  generalize hW : World.setRow _ _ _ = W4
  have B4 := Lib.hid (show Below W3.heap.size W3 W4 by rw [← hW]; exact kept_new W3 _ _ _)
  have G4 := Lib.hid (show W4.heap[W3.heap.size]? = some (.cells #[.func (.func K) first cap, .int .i64 why] 50 (0, 0)) by rw [← hW]; exact has_new W3 _ _ _)
  have L4 := Lib.hid (show W3.heap.size < W4.heap.size from (Array.getElem?_eq_some_iff.1 G4.out).1)
  clear hW k2 k3
  have E4 := Lib.hid (E3.out.trans (B4.out.mono E3.out.size))
  generalize W3.heap.size = Z at *
  have c0 : W4.cell? ⟨Z, 0, none⟩ = some (.func (.func K) first cap) := blk_cell G4.out rfl
  have c1 : W4.cell? ⟨Z, 1, none⟩ = some (.int .i64 why) := blk_cell G4.out rfl
  go_wp2_with fail
  refine (HC.out _ E4.out).mono ?_
  rintro e W5 ⟨rfl, hb5⟩
  have E5 := Lib.hid (E4.out.trans (hb5.mono E4.out.size))
  have c2 : W5.cell? ⟨Z, 1, none⟩ = some (.int .i64 why) := (hb5.cell (p := ⟨Z, 1, none⟩) L4.out).trans c1
  clear hb5 c0 c1 HC
  cases q
  · go_wp2_with fail
    rw [rounds_succ]
    go_wp2_with fail
    go_ret
    exact ⟨rfl, E5.out⟩
  · go_wp2_with fail
    go_ret
    exact ⟨rfl, E5.out⟩
set_option maxRecDepth 100000 in
theorem refused_none (s : Option Addr) (why : Int) (K : Nat) (first cap : Array Value) (w : World) (h : Non w s) :
    Calls Tryd.prog 23 #[.pointer s, .agg #[.func (.func K) first cap, .int .i64 why]] w fun e w' => e = .returned (.int .i64 1) ∧ Below w.heap.size w w' := by
  have HS := Lib.hid h
  have HN := Lib.hid (fun W h => isNone_yes s W h)
  have hmf := makes
  clear h
  go_enter Tryd.func23, Tryd.ntmps23
  go_wp2_with fail
  generalize hW : World.alloc (World.alloc w _) _ = W2
  have g : W2.heap[w.heap.size + 1]? = some (.cells #[.func (.func 24) #[.pointer s] #[], .int .i64 1, .func (.func K) first cap, .int .i64 why] 50 (0, 0)) := by rw [← hW]; exact heap_alloc2_new w _ _
  have fB : Below w.heap.size w W2 := by rw [← hW]; exact ((Below.refl _ _).alloc (Nat.le_refl _) _).alloc (by simp) _
  have hlt : w.heap.size + 1 < W2.heap.size := (Array.getElem?_eq_some_iff.1 g).1
  have G2 := Lib.hid g
  have B2 := Lib.hid fB
  have L2 := Lib.hid hlt
  clear hW g fB hlt
  generalize w.heap.size + 1 = X at *
  have k0 : W2.cell? ⟨X, 0, none⟩ = some (.func (.func 24) #[.pointer s] #[]) := blk_cell G2.out rfl
  have k1 : W2.cell? ⟨X, 1, none⟩ = some (.int .i64 1) := blk_cell G2.out rfl
  refine wp_loop_rounds 3 ?_
  rw [rounds_succ]
  go_upto_region 4 with (refine wpList_store_row rfl 50 _ _ rfl W2.heap.size _ rfl rfl 50 _ (heap_alloc_new W2 _) infoR rfl (one2 24 #[.pointer s] #[] 1) ?_)
  generalize hW : World.setRow _ _ _ = W3
  have B3 := Lib.hid (show Below W2.heap.size W2 W3 by rw [← hW]; exact kept_new W2 _ _ _)
  have G3 := Lib.hid (show W3.heap[W2.heap.size]? = some (.cells #[.func (.func 24) #[.pointer s] #[], .int .i64 1] 50 (0, 0)) by rw [← hW]; exact has_new W2 _ _ _)
  clear hW k0 k1
  have S2 := Lib.hid (show w.heap.size ≤ W2.heap.size from B2.out.size)
  generalize W2.heap.size = Y at *
  have c0 : W3.cell? ⟨Y, 0, none⟩ = some (.func (.func 24) #[.pointer s] #[]) := blk_cell G3.out rfl
  have c1 : W3.cell? ⟨Y, 1, none⟩ = some (.int .i64 1) := blk_cell G3.out rfl
  have E3 := Lib.hid (B2.out.trans (B3.out.mono S2.out))
  go_wp2_with (go_at_call 24; refine (HN.out _ (HS.out.step E3.out)).mono ?_; rintro e _ ⟨rfl, rfl⟩)
  go_ret
  exact ⟨rfl, E3.out⟩
end Go.Proofs.YtmghkacbphdakaaDoor.SpaD
