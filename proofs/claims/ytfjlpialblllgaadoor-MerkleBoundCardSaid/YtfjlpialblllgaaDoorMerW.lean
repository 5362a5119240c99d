/- The program's package merkle: Clash: its contract; what the statements want of a leaf's own path. No conditions but those that each lemma names. -/
import Derived.Test.YtfjlpialblllgaaDoorMerY
import Derived.Test.YtfjlpialblllgaaDoorMerZ
namespace Go.Proofs.YtfjlpialblllgaaDoor.MerW
open Go.RowKit Go.Shelf STurn SSum MerG MerQ MerN MerM MerC MerP MerR MerU MerV MerX MerY MerZ
/-- What Clash answers. -/
def ClashAns (w : World) (ls : List L) (i : Int) (x : L) (p : List L) (e : Ending) (w' : World) : Prop :=
  if clashB ls i x p = true then ∃ u v, e = .returned (.tuple #[str u, str v, .bool true]) ∧ (u ≠ v ∧ sum u = sum v ∧ u.length = 65 ∧ v.length = 65) ∧ Below w.heap.size w w'
  else e = .returned (.tuple #[str [], str [], .bool false]) ∧ Below w.heap.size w w'
section
variable (b : Option Addr) (ls : List L) (d : Nat) (i : Int) (x : L) (a : Option Addr) (p : List L) (c : Nat) (w : World) (hls : Strs w w.heap.size b ls.length ls) (hln : ls.length ≤ 100000) (hll : ∀ l ∈ ls, l.length ≤ 9223372036854775807)
  (h : Strs w w.heap.size a p.length p) (hp : p.length ≤ 1000000) (hx : x.length ≤ 9223372036854775807) (hl : ∀ l ∈ p, l.length ≤ 9223372036854775807) (hr : Rds w)
include hls hln hll h hp hx hl hr
theorem clash_any : Calls Tryd.prog 34 #[sv, .slice b ls.length d, .int .i64 i, str x, .slice a p.length c] w (ClashAns w ls i x p) := by
  unfold ClashAns
  by_cases hc : clashB ls i x p = true
  · simp only [if_pos hc]
    unfold clashB at hc
    rw [Bool.and_eq_true, Bool.and_eq_true] at hc
    obtain ⟨⟨hall, hck⟩, hne⟩ := hc
    obtain ⟨hm, hf, hcl⟩ := check_in hck
    unfold mayBe at hm
    rw [Bool.and_eq_true, decide_eq_true_eq, decide_eq_true_eq] at hm
    obtain ⟨k, rfl⟩ : ∃ k : Nat, i = (k : Int) := ⟨i.toNat, by omega⟩
    rw [Int.toNat_natCast] at hne hf hcl
    rw [Int.toNat_natCast] at hf hcl
    exact clash_yes b ls d k x a p c w hls hln h hp hr (by omega) hall hf hcl hck (by simpa using hne)
  · simp only [if_neg hc]
    exact clash_no b ls d i x a p c w hls hln hll h hp hx hl hr (by simpa using hc)
theorem Clash : Calls Tryd.prog 23 #[.slice b ls.length d, .int .i64 i, str x, .slice a p.length c] w (ClashAns w ls i x p) := by
  have HC := Lib.hid (clash_any b ls d i x a p c w hls hln hll h hp hx hl hr)
  clear hls hll h hp hx hl hr
  unfold ClashAns at *
  by_cases hc : clashB ls i x p = true
  · simp only [if_pos hc] at HC ⊢
    clear hc
    go_enter Tryd.func23, Tryd.ntmps23
    go_wp2_with (go_at_call 34; refine HC.out.mono ?_; rintro e w' ⟨u, v, rfl, hu, hb⟩; have HB := Lib.hid hb; have HU := Lib.hid hu; clear hb hu)
    go_ret3
    exact ⟨u, v, rfl, HU.out, HB.out⟩
  · simp only [if_neg hc] at HC ⊢
    clear hc
    go_enter Tryd.func23, Tryd.ntmps23
    go_wp2_with (go_at_call 34; refine HC.out.mono ?_; rintro e w' ⟨rfl, hb⟩; have HB := Lib.hid hb; clear hb)
    go_ret3
    exact ⟨rfl, HB.out⟩
end
theorem path_32 {ls : List L} {k : Nat} (h : all32 ls = true) : ∀ x ∈ pathN nd ls k, x.length = 32 := path_all (fun x : L => x.length = 32) nd_length _ ls k (all32_at h)
theorem all32_of {ls : List L} (h : ∀ x ∈ ls, x.length = 32) : all32 ls = true := by
  unfold all32
  rw [List.all_eq_true]
  intro x hx
  exact decide_eq_true (h x hx)
/-- A leaf's own path leads to the root. -/
theorem own_check {ls : List L} {k : Nat} (hk : k < ls.length) (hn : ls.length ≤ 1048576) (h : all32 ls = true) : checkB (MerN.root nd (sum []) ls) (ls.length : Int) (k : Int) (ls.getD k []) (pathN nd ls k) = true := by
  have hm : mayBe (ls.length : Int) (k : Int) = true := by
    unfold mayBe
    rw [Bool.and_eq_true, decide_eq_true_eq, decide_eq_true_eq]
    omega
  have hf : fitB ls.length k (ls.getD k []) (pathN nd ls k) = true := by
    unfold fitB
    rw [Bool.and_eq_true, Bool.and_eq_true, decide_eq_true_eq, decide_eq_true_eq]
    exact ⟨⟨all32_at h _ (by rw [getD_at _ _ hk]; exact List.getElem_mem hk), all32_of (path_32 h)⟩, pathN_length nd hk⟩
  have hc := climb_own nd (sum []) ls k hk
  rw [← getD_at _ _ hk] at hc
  unfold checkB upR
  rw [hm, Int.toNat_natCast, Int.toNat_natCast, hf]
  simpa [List.getD_eq_getElem?_getD] using hc
end Go.Proofs.YtfjlpialblllgaaDoor.MerW
