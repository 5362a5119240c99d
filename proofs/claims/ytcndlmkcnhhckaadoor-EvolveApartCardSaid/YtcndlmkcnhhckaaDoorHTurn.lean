/- hmac's closure: the key's block, each byte held against one; and 'turner', that makes it. The condition: the rounds' numbers lie in the program's variable. -/
import Derived.Test.YtcndlmkcnhhckaaDoorHKey
import Derived.Test.YtcndlmkcnhhckaaDoorHXor
namespace Go.Proofs.YtcndlmkcnhhckaaDoor.HTurn
open Go.RowKit
open STurn
theorem turner (k : List UInt8) (w : World) (hr : Rds w) (hl : k.length ≤ 576460752303423488) :
    Calls Tryd.prog 54 #[.string ⟨k.toArray⟩] w fun e w' => ∃ c, w.heap.size ≤ c ∧ c < w'.heap.size ∧ e = .returned (.func (.func 68) #[] #[.pointer (some ⟨c, 0, none⟩)]) ∧ w'.cell? ⟨c, 0, none⟩ = some (.string ⟨(keyBlock k).toArray⟩) ∧ Below w.heap.size w w' := by
  have H := Lib.hid (fun W hr => HKey.Key k W hr hl)
  have HR := Lib.hid hr
  clear hr
  go_enter Tryd.func54, Tryd.ntmps54
  go_wp2_with fail
  refine (H.out _ HR.out).mono ?_
  rintro e w1 ⟨rfl, hb1⟩
  have HB1 := Lib.hid hb1
  clear hb1
  go_wp2_with fail
  go_ret
  exact ⟨w1.heap.size, HB1.out.size, by simp, rfl, blk_cell (heap_alloc_new w1 _) rfl, HB1.out.alloc HB1.out.size _⟩
end Go.Proofs.YtcndlmkcnhhckaaDoor.HTurn
