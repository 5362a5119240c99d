/- A strings.Builder's WriteString and String, by the library's own contracts at this program's numbers. -/
import Derived.Shelf.Strings.BuilderK
import Derived.Test.YtjlepjnfacmieaaRows
import Derived.Test.YtjlepjnfacmieaaMem
namespace Go.Proofs.Ytjlepjnfacmieaa.BWrite
open Go.RowKit
def nums : Go.Shelf.Ren := ⟨fun
  | 166 => 26
  | 169 => 27
  | 240 => 37
  | 276 => 45
  | n => n, fun
  | 0 => 0
  | 3 => 3
  | 4 => 4
  | 5 => 5
  | 9 => 9
  | 20 => 20
  | 37 => 42
  | 70 => 53
  | 72 => 55
  | 75 => 57
  | 80 => 60
  | 127 => 79
  | 164 => 86
  | n => n, fun n => n⟩
theorem lays166 : Go.Proofs.Lays.n166 Try.prog nums := {
  mixed := by kernel_rfl
  f166 := Try.func26.trans (congrArg some (by kernel_rfl))
  f240 := Try.func37.trans (congrArg some (by kernel_rfl))
  f276 := Try.func45.trans (congrArg some (by kernel_rfl))
  t0 := Try.underlying0, a0 := Try.isAgg0, z0 := Try.sizeOf0, v0 := Try.zeroValue0
  t3 := Try.underlying3, a3 := Try.isAgg3, z3 := Try.sizeOf3, v3 := Try.zeroValue3
  t4 := Try.underlying4, a4 := Try.isAgg4, z4 := Try.sizeOf4, v4 := Try.zeroValue4
  t9 := Try.underlying9, a9 := Try.isAgg9, z9 := Try.sizeOf9, v9 := Try.zeroValue9
  t20 := Try.underlying20, a20 := Try.isAgg20, z20 := Try.sizeOf20, v20 := Try.zeroValue20
  t37 := Try.underlying42, a37 := Try.isAgg42, z37 := Try.sizeOf42, v37 := Try.zeroValue42
  t70 := Try.underlying53, a70 := Try.isAgg53, z70 := Try.sizeOf53, v70 := Try.zeroValue53
  t72 := Try.underlying55, a72 := Try.isAgg55, z72 := Try.sizeOf55, v72 := Try.zeroValue55
  t75 := Try.underlying57, a75 := Try.isAgg57, z75 := Try.sizeOf57, v75 := Try.zeroValue57
  t164 := Try.underlying86, a164 := Try.isAgg86, z164 := Try.sizeOf86, v164 := Try.zeroValue86 }
theorem lays169 : Go.Proofs.Lays.n169 Try.prog nums := {
  mixed := by kernel_rfl
  f169 := Try.func27.trans (congrArg some (by kernel_rfl))
  t0 := Try.underlying0, a0 := Try.isAgg0, z0 := Try.sizeOf0, v0 := Try.zeroValue0
  t3 := Try.underlying3, a3 := Try.isAgg3, z3 := Try.sizeOf3, v3 := Try.zeroValue3
  t9 := Try.underlying9, a9 := Try.isAgg9, z9 := Try.sizeOf9, v9 := Try.zeroValue9
  t37 := Try.underlying42, a37 := Try.isAgg42, z37 := Try.sizeOf42, v37 := Try.zeroValue42
  t70 := Try.underlying53, a70 := Try.isAgg53, z70 := Try.sizeOf53, v70 := Try.zeroValue53
  t72 := Try.underlying55, a72 := Try.isAgg55, z72 := Try.sizeOf55, v72 := Try.zeroValue55
  t127 := Try.underlying79, a127 := Try.isAgg79, z127 := Try.sizeOf79, v127 := Try.zeroValue79 }
theorem extra : Go.Proofs.Builder.Extra Try.prog nums := {
  sizeBuilder := by kernel_rfl
  liesBuilder := by kernel_rfl
  t5 := Try.underlying5
  a5 := Try.isAgg5
  z5 := Try.sizeOf5
  v5 := Try.zeroValue5
  infoByte := by kernel_rfl
  cellsByte := by kernel_rfl
  sizeByte := by kernel_rfl
  neB5 := by decide }
/-- Block 'B' is a builder that holds these bytes. -/
def Holds (B : Nat) (l : List UInt8) (w : World) : Prop := Lib.IsBuilderF 55 5 B B (Lib.byteCells l) w
theorem fresh (w : World) : Holds w.heap.size [] (w.alloc (.cells #[.pointer none, .slice none 0 0] 55)) :=
  Lib.IsBuilderF.of (.inl ⟨Nat.le_refl _, .slice none 0 0, heap_alloc_new w _, World.ownsRow_nil _ _ _ _, by simp [Value.ownBlock]⟩)
/-- A builder stays one while blocks turn that are neither its own nor its buffer's. -/
theorem Holds.over {B : Nat} {l : List UInt8} {W W' : World} (h : Holds B l W) (hk : ∀ g, B ≤ g → g < W.heap.size → W'.heap[g]? = W.heap[g]?) : Holds B l W' := by
  have one : ∀ p, Lib.BuilderAtF 55 5 B B p (Lib.byteCells l) W → Lib.BuilderAtF 55 5 B B p (Lib.byteCells l) W' := by
    rintro p ⟨hB, v, hb, hown, hne⟩
    refine ⟨hB, v, (hk B hB (Array.getElem?_eq_some_iff.1 hb).1).trans hb, ⟨hown.1, ?_⟩, hne⟩
    rcases hown.2 with hn | ⟨g, cap, cur, fz, hv, hbg, hg, rest⟩
    · exact .inl hn
    · exact .inr ⟨g, cap, cur, fz, hv, hbg, (hk g hbg (Array.getElem?_eq_some_iff.1 hg).1).trans hg, rest⟩
  exact Or.elim h (fun x => .inl (one _ x)) (fun x => .inr (one _ x))
theorem Holds.step {B : Nat} {l : List UInt8} {W W' : World} (h : Holds B l W) (hb : Below W.heap.size W W') : Holds B l W' := h.over fun g _ hg => hb.block g hg
/-- What the builder holds behind a text more. -/
theorem write (B : Nat) (l p : List UInt8) (w : World) (h : Holds B l w) (hlen : l.length + p.length ≤ 1000000) (hB : B ≤ w.heap.size) :
    Calls Try.prog 26 #[.pointer (some ⟨B, 0, none⟩), .string ⟨p.toArray⟩] w fun e w' => e = .returned (.tuple #[.int .i64 p.length, .nilIface]) ∧ Holds B (l ++ p) w' ∧ Below B w w' := by
  have := Any.Builder_WriteString_k lays166 extra B B (Lib.byteCells l) ⟨p.toArray⟩ w h (by rw [Lib.byteCells_length]; show l.length + p.length ≤ _; omega) hB
  refine this.mono ?_
  rintro e w' ⟨h1, h2, h3, _⟩
  refine ⟨h1, .inr ?_, h3⟩
  rw [Lib.byteCells_append]
  exact h2
theorem text (B : Nat) (l : List UInt8) (w : World) (h : Holds B l w) (hB : B ≤ w.heap.size) :
    Calls Try.prog 27 #[.pointer (some ⟨B, 0, none⟩)] w fun e w' => e = .returned (.string ⟨l.toArray⟩) ∧ Holds B l w' ∧ Below B w w' :=
  (Any.Builder_String_any_k lays169 extra B B l w h hB).mono fun _ _ ⟨h1, h2, h3, _⟩ => ⟨h1, h2, h3⟩
end Go.Proofs.Ytjlepjnfacmieaa.BWrite
