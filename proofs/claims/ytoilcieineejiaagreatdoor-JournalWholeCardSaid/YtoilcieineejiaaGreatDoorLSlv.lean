/- SloI SloV: one behind the other. -/
import Derived.Test.YtoilcieineejiaaGreatDoorLSlc
import Derived.BigQuiet
/- A text of two in an array, by its place. -/
namespace Go.Proofs.YtoilcieineejiaaGreatDoor.SloI
open Go.RowKit
theorem part_str (W : World) (cs : Array Value) (i : Nat) (v : Value) (h : cs[i]? = some v) : (part 9 cs (i * 1)).run Tryz.prog W = .ok v W := by
  simp [part, isAgg, run_underlying Tryz.underlying9, h]
/-- One of two texts, by its place. -/
theorem index_0 (a b : ByteArray) (W : World) : (Instr.index 167 (.agg #[.string a, .string b]) (.int .i64 0)).run Tryz.prog W = .ok (.string a) W := by
  have h := part_str W #[.string a, .string b] 0 _ rfl
  have e : (Instr.index 167 (.agg #[.string a, .string b]) (.int .i64 0)).run Tryz.prog W = (part 9 #[.string a, .string b] (0 * 1)).run Tryz.prog W := by
    simp [Instr.index, asIntOf, run_underlying Tryz.underlying167, Sem.run_bind]
  exact e.trans h
theorem index_1 (a b : ByteArray) (W : World) : (Instr.index 167 (.agg #[.string a, .string b]) (.int .i64 1)).run Tryz.prog W = .ok (.string b) W := by
  have h := part_str W #[.string a, .string b] 1 _ rfl
  have e : (Instr.index 167 (.agg #[.string a, .string b]) (.int .i64 1)).run Tryz.prog W = (part 9 #[.string a, .string b] (1 * 1)).run Tryz.prog W := by
    simp [Instr.index, asIntOf, run_underlying Tryz.underlying167, Sem.run_bind]
  exact e.trans h
end Go.Proofs.YtoilcieineejiaaGreatDoor.SloI
/- slots.Pick, Evolve: the walks of their texts. The condition: that the rounds' numbers lie in the program's variable. -/
namespace Go.Proofs.YtoilcieineejiaaGreatDoor.SloV
open Go.RowKit
open SloN SloC STurn
theorem kept_new (w : World) (old cs : Array Value) (t : TypeId) : Below w.heap.size w ((w.alloc (.cells old t)).setRow w.heap.size cs) := below_setRow ((Below.refl _ _).alloc (Nat.le_refl _) _) (Nat.le_refl _) _
theorem has_new (w : World) (old cs : Array Value) (t : TypeId) : ((w.alloc (.cells old t)).setRow w.heap.size cs).heap[w.heap.size]? = some (.cells cs t (0, 0)) := setRow_same (heap_alloc_new w _)
theorem infoB : (Tryz.prog.info? 167).map (·.size) = some 2 := by kernel_rfl
theorem two (a b : ByteArray) : (#[.string a, .string b] : Array Value).all (·.oneCell') = true := by simp [Value.oneCell']
/-- Two texts in a block. -/
def Bk (W : World) (X : Nat) (t : TypeId) (a b : List UInt8) : Prop := W.heap[X]? = some (.cells #[.string ⟨a.toArray⟩, .string ⟨b.toArray⟩] t (0, 0))
theorem Bk.lt {W : World} {X : Nat} {t : TypeId} {a b : List UInt8} (h : Bk W X t a b) : X < W.heap.size := (Array.getElem?_eq_some_iff.1 h).1
theorem Bk.step {W W' : World} {X : Nat} {t : TypeId} {a b : List UInt8} (h : Bk W X t a b) (hb : Below W.heap.size W W') : Bk W' X t a b := (hb.block _ h.lt).trans h
theorem Bk.cells {W : World} {X : Nat} {t : TypeId} {a b : List UInt8} (h : Bk W X t a b) : W.cell? ⟨X, 0, none⟩ = some (.string ⟨a.toArray⟩) ∧ W.cell? ⟨X, 1, none⟩ = some (.string ⟨b.toArray⟩) :=
  ⟨blk_cell h rfl, blk_cell h rfl⟩
theorem Pick_no (a b : List UInt8) (e : Int) (w : World) (h : ¬ may e) :
    Calls Tryz.prog 89 #[.string ⟨a.toArray⟩, .string ⟨b.toArray⟩, .int .i64 e] w fun r w' => r = .returned (.tuple #[.string ⟨#[]⟩, .int .i64 2]) ∧ Below w.heap.size w w' := by
  have HR := Lib.hid (fun W => isEpoch e W)
  rw [df h] at HR
  clear h
  go_enter Tryz.func89, Tryz.ntmps89
  go_wp2_with (go_at_call 74; refine (HR.out _).mono ?_; rintro r _ ⟨rfl, rfl⟩)
  go_ret2
  exact ⟨rfl, Below.refl _ _⟩
set_option maxRecDepth 100000 in
/-- Of a block that Take takes so. -/
theorem Pick_of (a b s : List UInt8) (e n c : Int) (k : List UInt8) (w : World) (hr : Rds w) (h : may e) (hm : (e % 2 = 1 ∧ b = s) ∨ (e % 2 = 0 ∧ a = s)) (ht : take s = (n, k, c)) (hc : c = 0 ∧ ((n != e) = true ∨ (n != e) = false) ∨ ((c != 0) = true ∧ k = [])) :
    Calls Tryz.prog 89 #[.string ⟨a.toArray⟩, .string ⟨b.toArray⟩, .int .i64 e] w fun r w' => r = .returned (.tuple #[.string ⟨(pick1 s e).1.toArray⟩, .int .i64 (pick1 s e).2]) ∧ Below w.heap.size w w' := by
  have HR := Lib.hid (fun W => isEpoch e W)
  rw [dt h] at HR
  have HT := Lib.hid (fun W h => SloP.Take s W h)
  rw [ht] at HT
  have HL := Lib.hid (fun W => place e W h.1)
  have GG := Lib.hid hr
  have HV : Hid (pick1 s e = if c = 0 then if n = e then (k, 0) else ([], 7) else ([], c)) := Lib.hid (by rw [pick1, ht])
  generalize pick1 s e = v at *
  clear ht h hr
  have i0 := fun W => SloI.index_0 ⟨a.toArray⟩ ⟨b.toArray⟩ W
  have i1 := fun W => SloI.index_1 ⟨a.toArray⟩ ⟨b.toArray⟩ W
  go_enter Tryz.func89, Tryz.ntmps89
  rcases hm with ⟨he, hs⟩ | ⟨he, hs⟩ <;> subst hs <;> rw [he] at HL <;> clear he <;> rcases hc with ⟨rfl, hn | hn⟩ | ⟨hc, rfl⟩
  all_goals
    go_wp2_with (first
      | (go_at_call 74; refine (HR.out _).mono ?_; rintro r _ ⟨rfl, rfl⟩)
      | (go_at_call 124; refine (HL.out _).mono ?_; rintro r _ ⟨rfl, rfl⟩)
      | (go_at_call 123; refine (HT.out _ GG.out).mono ?_; rintro r w8 ⟨rfl, hb8⟩; have B8 := Lib.hid hb8; clear hb8))
    go_ret2
    refine ⟨?_, B8.out⟩
    rw [HV.out]
    simp_all
theorem three (p : Int × List UInt8 × Int) : ∃ n k c, p = (n, k, c) := ⟨_, _, _, rfl⟩
/-- What slots.Pick answers. -/
theorem Pick (a b : List UInt8) (e : Int) (w : World) (hr : Rds w) :
    Calls Tryz.prog 89 #[.string ⟨a.toArray⟩, .string ⟨b.toArray⟩, .int .i64 e] w fun r w' => r = .returned (.tuple #[.string ⟨(pick a b e).1.toArray⟩, .int .i64 (pick a b e).2]) ∧ Below w.heap.size w w' := by
  by_cases h : may e
  · have hv : pick a b e = pick1 (for_ a b e) e := if_pos h
    rw [hv]
    obtain ⟨n, k, c, ht⟩ := three (take (for_ a b e))
    have hw := take_err (for_ a b e)
    rw [ht] at hw
    dsimp only at hw
    refine Pick_of a b (for_ a b e) e n c k w hr h (by unfold for_; by_cases ho : e % 2 = 1 <;> simp [ho]; omega) ht ?_
    rcases hw with rfl | ⟨_, rfl, rfl | rfl⟩
    · refine .inl ⟨rfl, ?_⟩
      cases (n != e)
      · exact .inr rfl
      · exact .inl rfl
    · exact .inr ⟨rfl, rfl⟩
    · exact .inr ⟨rfl, rfl⟩
  · rw [pick_no h]
    exact Pick_no a b e w h
end Go.Proofs.YtoilcieineejiaaGreatDoor.SloV
