/- The document's disk: last, Arm, Boot, Over, Write: the walks of their texts. No conditions but those that each lemma names. -/
import Derived.Test.YtoilcieineejiaaGreatDoorLDki
namespace Go.Proofs.YtoilcieineejiaaGreatDoor.DkRA
open Go.RowKit
open DkN DkM DkB DkW
theorem set23 {w : World} {b : Nat} {bv cv : Value} {D : Dk} (h : Has true w b bv cv D) (a' : Nat) (ha : a' ≤ 9223372036854775807) :
    Has true (w.setCell ⟨b, 3, none⟩ (.int .i64 a')) b bv cv { D with armed := a' } := by
  refine h.rehead ?_ (fun k hk => set_cell_block hk) rfl rfl ⟨h.ok.lo, h.ok.hi, h.ok.full, h.ok.few, h.ok.good, ha⟩
  exact (blk_set h.head).trans rfl
theorem set32 {w : World} {b : Nat} {bv cv : Value} {D : Dk} (h : Has true w b bv cv D) (a' : Nat) (f : Bool) (ha : a' ≤ 9223372036854775807) :
    Has true ((w.setCell ⟨b, 3, none⟩ (.int .i64 a')).setCell ⟨b, 2, none⟩ (.bool f)) b bv cv { D with armed := a', down := f } := by
  refine h.rehead ?_ (fun k hk => (set_cell_block hk).trans (set_cell_block hk)) rfl rfl ⟨h.ok.lo, h.ok.hi, h.ok.full, h.ok.few, h.ok.good, ha⟩
  exact (blk_set (blk_set h.head)).trans rfl
theorem set123 {w : World} {b : Nat} {bv cv : Value} {D : Dk} (h : Has true w b bv cv D) :
    Has true (((w.setCell ⟨b, 1, none⟩ (.slice none 0 0)).setCell ⟨b, 2, none⟩ (.bool false)).setCell ⟨b, 3, none⟩ (.int .i64 0)) b bv (.slice none 0 0) D.boot := by
  refine h.renil ?_ (fun k hk => ((set_cell_block hk).trans (set_cell_block hk)).trans (set_cell_block hk)) rfl rfl (boot_ok h.ok)
  exact (blk_set (blk_set (blk_set h.head))).trans rfl
end Go.Proofs.YtoilcieineejiaaGreatDoor.DkRA
