/- The program's calls of a model that is none: the walks of their texts. No conditions but those that each lemma names. -/
import Derived.Test.YtopnodkdpehdoaaGreatDoorLPgk
namespace Go.Proofs.YtopnodkdpehdoaaGreatDoor.PgZ
set_option linter.unusedVariables false
open Go.RowKit
open RecN RecC RetN RetC RetR DbN DbA MdN MdO MdC MdG AnsC PgN PgC PgI PgW PgX PgA PgR PgS PgM PgT PgD PgE PgL PgK
open PgA (Non)
theorem Epoch {p : Option Addr} {w : World} (h : PgA.Non w p) : Calls Tryz.prog 18 #[.pointer p] w fun e w' => e = .returned (.int .i64 0) ∧ w = w' := by
  have HN := Lib.hid (isNone_yes h)
  clear h
  go_enter Tryz.func18, Tryz.ntmps18
  go_wp2_with (go_at_call 26; refine HN.out.mono ?_; rintro e _ ⟨rfl, rfl⟩)
  go_ret
  exact ⟨rfl, rfl⟩
theorem Block {p : Option Addr} {w : World} (h : PgA.Non w p) (ep lba : Int) : Calls Tryz.prog 19 #[.pointer p, .int .i64 ep, .int .i64 lba] w fun e w' => e = .returned (.tuple #[.string ⟨#[]⟩, .bool false]) ∧ w = w' := by
  have HN := Lib.hid (isNone_yes h)
  clear h
  go_enter Tryz.func19, Tryz.ntmps19
  go_wp2_with (go_at_call 26; refine HN.out.mono ?_; rintro e _ ⟨rfl, rfl⟩)
  go_ret2
  exact ⟨rfl, rfl⟩
theorem Gone {p : Option Addr} {w : World} (h : PgA.Non w p) (t : Int) : Calls Tryz.prog 20 #[.pointer p, .int .i64 t] w fun e w' => e = .returned (.bool false) ∧ w = w' := by
  have HN := Lib.hid (isNone_yes h)
  clear h
  go_enter Tryz.func20, Tryz.ntmps20
  go_wp2_with (go_at_call 26; refine HN.out.mono ?_; rintro e _ ⟨rfl, rfl⟩)
  go_ret
  exact ⟨rfl, rfl⟩
theorem Records {p : Option Addr} {w : World} (h : PgA.Non w p) : Calls Tryz.prog 21 #[.pointer p] w fun e w' => e = .returned (.slice none 0 0) ∧ w = w' := by
  have HN := Lib.hid (isNone_yes h)
  clear h
  go_enter Tryz.func21, Tryz.ntmps21
  go_wp2_with (go_at_call 26; refine HN.out.mono ?_; rintro e _ ⟨rfl, rfl⟩)
  go_ret
  exact ⟨rfl, rfl⟩
theorem Copy {p : Option Addr} {w : World} (h : PgA.Non w p) : Calls Tryz.prog 16 #[.pointer p] w fun e w' => e = .returned (.pointer none) ∧ w = w' := by
  have HN := Lib.hid (isNone_yes h)
  clear h
  go_enter Tryz.func16, Tryz.ntmps16
  go_wp2_with (go_at_call 26; refine HN.out.mono ?_; rintro e _ ⟨rfl, rfl⟩)
  go_ret
  exact ⟨rfl, rfl⟩
theorem quiet_eq {P : Program} {f : FuncId} {args : Array Value} {w : World} {n : Nat} {v : Value}
    (h : Calls P f args (w.drewN n) fun e w' => e = .returned v ∧ w.drewN n = w') : Calls P f args (w.drewN n) fun e w'' => e = .returned v ∧ ∃ m, w'' = w.drewN m :=
  h.mono fun _ _ ⟨he, hm⟩ => ⟨he, n, hm.symm⟩
set_option maxRecDepth 100000 in
theorem Same {p q : Option Addr} {w : World} (h : PgA.Non w p) : Calls Tryz.prog 17 #[.pointer p, .pointer q] w fun e w' => e = .returned (.bool false) ∧ Below w.heap.size w w' := by
  have HN := Lib.hid (fun n => isNone_yes (w := w.drewN n) (h.step (below_drewN w n)))
  clear h
  go_enter Tryz.func17, Tryz.ntmps17
  go_wp2_with fail
  go_quiet ((go_at_call 26; exact quiet_eq (HN.out _)))
  go_wp2
  go_ret
  exact ⟨rfl, below_drewN w _⟩
set_option maxRecDepth 100000 in
set_option maxHeartbeats 4000000 in
theorem Do {p : Option Addr} {w : World} (h : PgA.Non w p) (c : Cl) (pk : Option Addr) (nk ck : Nat) : Calls Tryz.prog 12 #[.pointer p, .agg #[.int .i64 c.k, .int .i64 c.lb, .int .i64 c.ep, .int .i64 c.tm, .string ⟨c.da.toArray⟩, .string ⟨c.nm.toArray⟩, .slice pk nk ck]] w fun e w' => e = .returned (.agg #[.int .i64 1, .string ⟨#[]⟩, .int .i64 0, .int .i64 0, .int .i64 0, .int .i64 0, .int .i64 0, .int .i64 0]) ∧ Below w.heap.size w w' := by
  obtain ⟨W1, hW1⟩ : ∃ W1, W1 = (w.alloc (.cells #[.int .i64 c.k, .int .i64 c.lb, .int .i64 c.ep, .int .i64 c.tm, .string ⟨c.da.toArray⟩, .string ⟨c.nm.toArray⟩, .slice pk nk ck] 35)).alloc (.cells #[.int .i64 0, .string ⟨#[]⟩, .int .i64 0, .int .i64 0, .int .i64 0, .int .i64 0, .int .i64 0, .int .i64 0] 39) := ⟨_, rfl⟩
  have BB : Hid (Below w.heap.size w W1) := Lib.hid (by rw [hW1]; exact (below_new w _).trans ((below_new _ _).mono (by simp)))
  have KK : Hid (W1.heap[w.heap.size + 1]? = some (.cells #[.int .i64 0, .string ⟨#[]⟩, .int .i64 0, .int .i64 0, .int .i64 0, .int .i64 0, .int .i64 0, .int .i64 0] 39 (0, 0))) := Lib.hid (by
    rw [hW1]
    have := heap_alloc_new (w.alloc (.cells #[.int .i64 c.k, .int .i64 c.lb, .int .i64 c.ep, .int .i64 c.tm, .string ⟨c.da.toArray⟩, .string ⟨c.nm.toArray⟩, .slice pk nk ck] 35)) (.cells #[.int .i64 0, .string ⟨#[]⟩, .int .i64 0, .int .i64 0, .int .i64 0, .int .i64 0, .int .i64 0, .int .i64 0] 39)
    rw [World.size_alloc] at this
    exact this)
  have HN := Lib.hid (isNone_yes (h.step BB.out))
  clear h
  go_enter Tryz.func12, Tryz.ntmps12
  go_upto_region 1 with (fail)
  rw [← hW1]
  clear hW1
  go_wp2_with (first
    | (go_at_call 26; refine HN.out.mono ?_; rintro e _ ⟨rfl, rfl⟩)
    | (refine wpList_store_row rfl 39 _ _ rfl (w.heap.size + 1) _ rfl rfl 39 _ KK.out infoA rfl (one8A ⟨1, [], sta0⟩) ?_))
  exact bodyPost_ret (v := .agg #[.int .i64 1, .string ⟨#[]⟩, .int .i64 0, .int .i64 0, .int .i64 0, .int .i64 0, .int .i64 0, .int .i64 0])
    (results_cell_row Tryz.results12 _ _ (w.heap.size + 1) 39 _ (0, 0) _ rfl (setRow_same KK.out) Tryz.underlying39 rfl infoA) rfl ⟨rfl, below_setRow BB.out (by omega) _⟩
end Go.Proofs.YtopnodkdpehdoaaGreatDoor.PgZ
