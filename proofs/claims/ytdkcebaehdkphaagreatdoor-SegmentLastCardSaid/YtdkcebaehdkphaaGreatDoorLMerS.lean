/- MerS MerL: one behind the other. -/
import Derived.Shelf.Abstract
import Derived.Shelf.RegionOpen
import Derived.WalkKit
import Derived.OwnWalkIn
import Derived.TacticsInMore
import Derived.LoopNIn
import Derived.LoopIn
import Derived.Test.YtdkcebaehdkphaaGreatDoorMerC
import Derived.Test.YtdkcebaehdkphaaGreatDoorMerB
import Derived.Maps.AppendAt
import Derived.Deep.RegionHeld3
/- The program's package merkle: sides: the walk of its text; the contract of what it iterates over. No conditions but those that each lemma names. -/
namespace Go.Proofs.YtdkcebaehdkphaaGreatDoor.MerS
open Go.RowKit Go.Shelf STurn SSum MerG MerQ MerN MerM MerC MerB
attribute [local go_sem] Oper.semAt_some
theorem sides_in (n i : Int) (w : World) : Calls Tryz.prog 118 #[.int .i64 n, .int .i64 i] w fun e w' =>
    e = .returned (.func (.func 129) #[] #[.pointer (some ⟨w.heap.size, 0, none⟩), .pointer (some ⟨w.heap.size + 1, 0, none⟩)]) ∧ w' = (w.alloc (.cells #[.int .i64 n] 3)).alloc (.cells #[.int .i64 i] 3) := by
  go_enter Tryz.func118, Tryz.ntmps118
  go_wp2
  go_ret
  exact ⟨rfl, rfl⟩
set_option maxRecDepth 100000 in
set_option maxHeartbeats 2000000 in
theorem sides1 (k n i : Nat) (hk : 1 ≤ k) (hi : i < n) (hn : n ≤ 1048576) (Bn Bi : Nat) (RO : Nat → Prop) (hRn : RO Bn) (hRi : RO Bi) (w : World) (h0 : w.cell? ⟨Bn, 0, none⟩ = some (.int .i64 n)) (h1 : w.cell? ⟨Bi, 0, none⟩ = some (.int .i64 i)) :
    Seq false Fence.wide k Tryz.prog 129 #[.pointer (some ⟨Bn, 0, none⟩), .pointer (some ⟨Bi, 0, none⟩)] (fun b : Bool => #[Value.bool b]) (Nxt (sidesN n i)) (fun ys => ys = sidesN n i) (fun _ => True) RO w := by
  intro l J Jx W hW hJ hJx hY hJ0
  have c0 := hW.cell h0 hRn
  have c1 := hW.cell h1 hRi
  have HY := Lib.hid hY
  have HJ := Lib.hid hJ
  have HJ0 := Lib.hid (hJ _ _ _ _ _ hJ0 (Turns.drew W) (.no _ _))
  clear hW hJ hJx hY h0 h1 hJ0
  refine callsIn_of_wp Tryz.func129 rfl trivial ?_ rfl
  simp only [Tryz.ntmps129, List.size_toArray, List.length_cons, List.length_nil, Nat.reduceAdd, Nat.reduceSub, Array.replicate_succ, Array.replicate_zero, List.push_toArray, List.append_toArray, List.nil_append, List.cons_append]
  gi_wp2
  gi_region
  gi_wp2
  gi_loopw [4, 5] (fun a b wr => ∃ (m j : Nat) (pre : List Bool) (T : Nat → Prop), a = .int .i64 m ∧ b = .int .i64 j ∧ j < m ∧ m ≤ n ∧ pre ++ sidesN m j = sidesN n i ∧ J T pre wr) (fun a _ _ => (intOf a).toNat)
  case atStart => exact ⟨n, i, [], _, rfl, rfl, hi, Nat.le_refl _, rfl, HJ0.out⟩
  case round =>
    obtain ⟨m, j, pre, T, rfl, rfl, hjm, hmn, hpre, hJ1⟩ := hrel
    have HP := Lib.hid hpre
    have HJ1 := Lib.hid hJ1
    clear hpre hJ1
    by_cases h2 : 2 ≤ m
    · have q1 : (1 : Int) < (m : Int) := by omega
      have HS := Lib.hid (sidesN_succ hjm)
      have HO := Lib.hid (fun W => other j (by omega) W)
      have ho : oth j = if j % 2 = 1 then j - 1 else j + 1 := rfl
      by_cases c : j % 2 = 1 ∨ j + 1 < m
      · have hc1 : (oth j : Int) < (m : Int) := by rw [ho]; split <;> omega
        obtain ⟨b, hb⟩ : ∃ b : Bool, decide (j % 2 = 1) = b := ⟨_, rfl⟩
        have hc2 : decide (oth j < j) = b := by
          rw [← hb, ho]
          by_cases hj : j % 2 = 1
          · rw [if_pos hj, decide_eq_true hj]; exact decide_eq_true (by omega)
          · rw [if_neg hj, decide_eq_false hj]; exact decide_eq_false (by omega)
        rw [if_pos c, hb] at HS
        have HG := Lib.hid (show (pre ++ [b]) ++ sidesN ((m + 1) / 2) (j / 2) = sidesN n i by rw [← HP.out, HS.out, List.append_assoc])
        have hol : oth j ≤ j + 1 := by rw [ho]; split <;> omega
        clear ho hb c
        generalize oth j = o at *
        obtain ⟨fn, tmps, assign, body, hy, hR⟩ := HY.out T pre b wr HJ1.out ⟨_, HG.out⟩
        gi_wp2_with (first
          | (refine ⟨trivial, ?_⟩; gi_at_call 116; refine (callsIn_wide.2 (HO.out _)).mono ?_; rintro e w' ⟨rfl, rfl⟩))
        refine hR.mono ?_
        rintro e W3 ⟨⟨rfl, hJ3⟩ | ⟨rfl, hJx3⟩, hk3⟩
        · gi_wp2
          go_roundw
          case rel => exact ⟨(m + 1) / 2, j / 2, pre ++ [b], T, by go_num, by go_num, by omega, by omega, HG.out, hJ3⟩
          case measure => simp [intOf]; omega
        · gi_wp2
          refine bodyPost_ret (results_none rfl _ _ _) rfl ?_
          exact ⟨⟨_, rfl⟩, T, .inr ⟨_, trivial, hJx3⟩⟩
      · have hc1 : ¬ (oth j : Int) < (m : Int) := by rw [ho]; split <;> omega
        rw [if_neg c, List.nil_append] at HS
        have HG := Lib.hid (show pre ++ sidesN ((m + 1) / 2) (j / 2) = sidesN n i by rw [← HP.out, HS.out])
        have hol : oth j ≤ j + 1 := by rw [ho]; split <;> omega
        clear ho c
        generalize oth j = o at *
        gi_wp2_with (first
          | (refine ⟨trivial, ?_⟩; gi_at_call 116; refine (callsIn_wide.2 (HO.out _)).mono ?_; rintro e w' ⟨rfl, rfl⟩))
        refine ⟨fun _ h => (by cases h), ?_⟩
        gi_wp2
        go_roundw
        case rel => exact ⟨(m + 1) / 2, j / 2, pre, T, by go_num, by go_num, by omega, by omega, HG.out, HJ1.out⟩
        case measure => simp [intOf]; omega
    · obtain rfl : m = 1 := by omega
      obtain rfl : j = 0 := by omega
      have HE := Lib.hid (show pre = sidesN n i by rw [← HP.out, sidesN_one, List.append_nil])
      rw [show ((1 : Nat) : Int) = 1 from rfl, show ((0 : Nat) : Int) = 0 from rfl]
      gi_wp2
      go_end0
      exact ⟨⟨_, rfl⟩, T, .inl ⟨pre, HE.out, HJ1.out⟩⟩
end Go.Proofs.YtdkcebaehdkphaaGreatDoor.MerS
/- The program's package merkle: levels: the walk of its text; the contract of what it iterates over. No conditions but those that each lemma names. -/
namespace Go.Proofs.YtdkcebaehdkphaaGreatDoor.MerL
open Go.RowKit Go.Shelf STurn SSum MerG MerQ MerN MerM MerC MerS
attribute [local go_sem] Oper.semAt_some
theorem info_string : (Tryz.prog.info? 9).map (fun i => (i.zero, i.size, i.bytes)) = some (some (.string ByteArray.empty), 1, 16) := by kernel_rfl
/-- One text put behind others, where there is room. -/
theorem wp_app {o : Oper} {a : Act} {w : World} {K : Act → World → Prop} {Q : Exit → Act → World → Prop} (s x : Operand)
    (ho : o.op = .call { callee := .builtin .append, args := #[s, x], argTypes := #[42, 42] }) (B g j M : Nat) (l : List L) (hs : a.eval s = .slice (some ⟨g, 0, none⟩) j M)
    (hown : w.ownsRow B 9 1 (.slice (some ⟨g, 0, none⟩) j M) j (l.map str)) (b : Nat) (hx : a.eval x = .slice (some ⟨b, 0, none⟩) 1 1) (y : L) (hy : w.cell? ⟨b, 0, none⟩ = some (str y)) (hM : j + 1 ≤ M)
    (h : ∀ w', w'.ownsRow B 9 1 (.slice (some ⟨g, 0, none⟩) (j + 1) M) (j + 1) ((l ++ [y]).map str) → w.grownBy w' (some g) → K (a.put o.dst (.slice (some ⟨g, 0, none⟩) (j + 1) M)) w') : o.wp Tryz.prog a w K Q := by
  obtain ⟨i0, hi, hz0, hz1, hz2⟩ := info_parts info_string
  obtain ⟨w', hr, h2, h3⟩ := run_append_fits (P := Tryz.prog) (w := w) B 42 o.type 9 i0 1 Tryz.underlying42 hi hz1 g j M (l.map str) hown ⟨b, 0, none⟩ 1 1 [str y] rfl
    (fun k u hu => by
      cases k with
      | zero => simp only [List.getElem?_cons_zero, Option.some.injEq] at hu; subst hu; exact hy
      | succ k => simp at hu) (by simp [Value.oneCell']) hM
  unfold Oper.wp execOp
  simp only [ho, resolve, invoke, builtin, Sem.run_bind, Sem.run_pure, Result.andThen_ok, List.map_toArray, List.map_cons, List.map_nil, hs, hx, hr]
  exact h w' (by simpa using h2) h3
theorem wpList_app {k : Nat} {F : Fence} {ops : Array Oper} {rest : List Oper} {o : Oper} {a : Act} {w : World} {Q : Exit → Act → World → Prop} (hg : o.guard = none) (s x : Operand)
    (ho : o.op = .call { callee := .builtin .append, args := #[s, x], argTypes := #[42, 42] }) (B g j M : Nat) (l : List L) (hs : a.eval s = .slice (some ⟨g, 0, none⟩) j M)
    (hown : w.ownsRow B 9 1 (.slice (some ⟨g, 0, none⟩) j M) j (l.map str)) (b : Nat) (hx : a.eval x = .slice (some ⟨b, 0, none⟩) 1 1) (y : L) (hy : w.cell? ⟨b, 0, none⟩ = some (str y)) (hM : j + 1 ≤ M)
    (h : ∀ w', w'.ownsRow B 9 1 (.slice (some ⟨g, 0, none⟩) (j + 1) M) (j + 1) ((l ++ [y]).map str) → w.grownBy w' (some g) → wpListIn F k Tryz.prog ops Q rest (a.put o.dst (.slice (some ⟨g, 0, none⟩) (j + 1) M)) w') :
    wpListIn F k Tryz.prog ops Q (o :: rest) a w := by
  obtain ⟨i0, hi, hz0, hz1, hz2⟩ := info_parts info_string
  refine wpListIn_append_fits w hg s x 42 ho B 9 i0 1 Tryz.underlying42 hi hz1 g j M (l.map str) hs hown ⟨b, 0, none⟩ 1 1 [str y] hx rfl
    (fun k u hu => by
      cases k with
      | zero => simp only [List.getElem?_cons_zero, Option.some.injEq] at hu; subst hu; exact hy
      | succ k => simp at hu) (by simp [Value.oneCell']) hM (fun w' h2 h3 => h w' (by simpa using h2) h3)
/-- Sum of a row of three, laid in a region that draws. -/
theorem summed_d (s t : L) (hs : s.length ≤ 1000000) (ht : t.length ≤ 1000000) (w : World) (hr : Rds w) :
    Calls Tryz.prog 34 #[.slice (some ⟨w.heap.size, 0, none⟩) 3 3] ((w.alloc (.cells #[.string { data := #[1] }, str s, str t] 9)).drew) fun r w' => r = .returned (str (nd s t)) ∧ Below w.heap.size w w' :=
  (summed_node s t hs ht w.drew hr).mono fun _ _ ⟨h1, h2⟩ => ⟨h1, (Below.refl _ w).drew.trans h2⟩
/-- What a region reads: the function that sums, and two texts that stand beside each other. -/
structure Sc (W : World) (B q off p r : Nat) (y z : L) : Prop where
  s : W.cell? ⟨B, 0, none⟩ = some sv
  y : W.cell? ⟨q, off + p, none⟩ = some (str y)
  z : W.cell? ⟨q, off + r, none⟩ = some (str z)
theorem Sc.alloc {W : World} {B q off p r : Nat} {y z : L} (h : Sc W B q off p r y z) (o : Obj) : Sc (W.alloc o) B q off p r y z :=
  have hb := (Below.refl _ W).alloc (Nat.le_refl _) o
  ⟨(hb.cell (World.block_lt_of_cell? W _ h.s)).trans h.s, (hb.cell (World.block_lt_of_cell? W _ h.y)).trans h.y, (hb.cell (World.block_lt_of_cell? W _ h.z)).trans h.z⟩
theorem Sc.below {W W' : World} {B q off p r : Nat} {y z : L} (h : Sc W B q off p r y z) (hb : Below W.heap.size W W') : Sc W' B q off p r y z :=
  ⟨(hb.cell (World.block_lt_of_cell? W _ h.s)).trans h.s, (hb.cell (World.block_lt_of_cell? W _ h.y)).trans h.y, (hb.cell (World.block_lt_of_cell? W _ h.z)).trans h.z⟩
theorem sc3 {W : World} {B q off p r : Nat} {y z : L} (h : Sc W B q off p r y z) : W.cell? ⟨B, 0, none⟩ = some sv ∧ W.cell? ⟨q, off + p, none⟩ = some (str y) ∧ W.cell? ⟨q, off + r, none⟩ = some (str z) := ⟨h.s, h.y, h.z⟩
theorem own_below {W W' : World} {B g j M : Nat} {l : List Value} (h : W.ownsRow B 9 1 (.slice (some ⟨g, 0, none⟩) j M) j l) (hb : Below W.heap.size W W') : W'.ownsRow B 9 1 (.slice (some ⟨g, 0, none⟩) j M) j l :=
  h.kept (row := none) ⟨hb.os, hb.tape, hb.output, hb.size, fun k hk _ => hb.block k hk⟩ (.inr (by simp [Value.ownBlock]))
theorem grown_app {W A C : World} {n₀ : Nat} (h : Below n₀ W A) (o : Obj) (hn : n₀ ≤ A.heap.size) (hg : (A.alloc o).grownBy C (some n₀)) : Below n₀ W C :=
  (h.alloc hn o).grown hg (by simp; omega) (fun k e => by cases e; exact Nat.le_refl _)
/-- What is handed over: a slice, and its texts. -/
abbrev It := Option Addr × Nat × Nat × List L
def encs (x : It) : Array Value := #[.slice x.1 x.2.1 x.2.2.1]
/-- What is told of it: it is the next level, in blocks that stay. -/
def Told (ls : List L) (K : Nat → Prop) (pre : List It) (x : It) (W : World) : Prop := RowK K W x.1 x.2.1 x.2.2.2 ∧ x.2.2.2 = lvl nd pre.length ls
/-- All levels have come, up to one of a single hash. -/
def All (ls : List L) (ys : List It) : Prop := ∃ k, ys.length = k + 1 ∧ (lvl nd k ls).length ≤ 1
theorem row_own {K : Nat → Prop} {w : World} {B g j M : Nat} {l : List L} (h : w.ownsRow B 9 1 (.slice (some ⟨g, 0, none⟩) j M) j (l.map str)) (hK : K g) : RowK K w (some ⟨g, 0, none⟩) j l := by
  have hl : l.length = j := by have := h.1; simpa using this
  refine ⟨hl, fun hn => ⟨g, 0, rfl, hK, fun i hi => ?_⟩⟩
  have := h.cells (g := g) rfl i (str (l.getD i [])) (by simp [List.getD, show i < l.length by omega])
  rwa [add_off] at this
theorem lift_next (l : List L) (j : Nat) (h : j < (l.length + 1) / 2) : (lift nd l).take (j + 1) = (lift nd l).take j ++ [if 2 * j + 1 < l.length then nd (l.getD (2 * j) []) (l.getD (2 * j + 1) []) else l.getD (2 * j) []] := by
  have hl := lift_length nd l
  have h' : j < (lift nd l).length := by omega
  rw [List.take_succ_eq_append_getElem h', lift_at]
  congr 2
  by_cases c : 2 * j + 1 < l.length
  · rw [dif_pos c, if_pos c, getD_at _ _ (by omega), getD_at _ _ c]
  · rw [dif_neg c, if_neg c, getD_at _ _ (by omega)]
def slen : Value → Nat | .slice _ n _ => n | _ => 0
theorem levels_in (a : Option Addr) (n c : Nat) (w : World) : Calls Tryz.prog 91 #[sv, .slice a n c] w fun e w' =>
    e = .returned (.func (.func 113) #[] #[.pointer (some ⟨w.heap.size + 1, 0, none⟩), .pointer (some ⟨w.heap.size, 0, none⟩)]) ∧ w' = (w.alloc (.cells #[sv] 125)).alloc (.cells #[.slice a n c] 42) := by
  go_enter Tryz.func91, Tryz.ntmps91
  go_wp2
  go_ret
  exact ⟨rfl, rfl⟩
set_option maxRecDepth 100000 in
set_option maxHeartbeats 4000000 in
theorem levels1 (k : Nat) (hk : 1 ≤ k) (ls : List L) (hlen : ls.length ≤ 100000) (h32 : ∀ x ∈ ls, x.length = 32) (a : Option Addr) (c n₀ Bl Bs : Nat) (RO : Nat → Prop) (hRO : ∀ b, b < n₀ → RO b) (hRl : RO Bl) (hRs : RO Bs) (w : World)
    (hrow : Strs w n₀ a ls.length ls) (hrd : Rds w) (hgn : 0 < n₀) (h0 : w.cell? ⟨Bl, 0, none⟩ = some (.slice a ls.length c)) (h1 : w.cell? ⟨Bs, 0, none⟩ = some sv) :
    Seq true Fence.wide k Tryz.prog 113 #[.pointer (some ⟨Bl, 0, none⟩), .pointer (some ⟨Bs, 0, none⟩)] encs (Told ls) (All ls) (fun _ => True) RO w := by
  intro l J Jx W hW hJ hJx hY hJ0
  have c0 := hW.cell h0 hRl
  have c1 := hW.cell h1 hRs
  have HR0 := Lib.hid (rds_kept hrd hW (hRO _ hgn))
  have HW0 := Lib.hid ((RowK.of hrow hRO).kept hW (fun _ h => h))
  have HRg := Lib.hid (hRO _ hgn)
  have HY := Lib.hid hY
  have HJ := Lib.hid hJ
  have HJ0 := Lib.hid hJ0
  have H32 := Lib.hid (fun i => lvl_all (fun x : L => x.length = 32) nd_length i ls h32)
  have HLen : Hid (∀ i, (lvl nd i ls).length ≤ 100000) := by
    intro i
    have : ∀ (i : Nat) (l : List L), l.length ≤ 100000 → (lvl nd i l).length ≤ 100000 := fun i => by
      induction i with
      | zero => intro l h; exact h
      | succ i ih => intro l h; exact ih _ (by rw [lift_length]; omega)
    exact this i ls hlen
  obtain ⟨N, hN⟩ : ∃ N, ls.length = N := ⟨_, rfl⟩
  have HB1 := Lib.hid c1
  clear hW hJ hJx hY h0 h1 hJ0 hrd hrow h32 hlen hRO hgn
  rw [hN] at c0 HW0
  clear hN
  refine callsIn_of_wp Tryz.func113 rfl trivial ?_ rfl
  simp only [Tryz.ntmps113, List.size_toArray, List.length_cons, List.length_nil, Nat.reduceAdd, Nat.reduceSub, Array.replicate_succ, Array.replicate_zero, List.push_toArray, List.append_toArray, List.nil_append, List.cons_append]
  refine wpIn_wide.2 ?_
  go_step3
  go_wp2
  go_step3
  go_wp2
  refine (wpIn_wide (n := k)).1 ?_
  gi_wp2
  gi_loopw [4] (fun v wr => ∃ (i : Nat) (pre : List It) (T : Nat → Prop) (a' : Option Addr) (n' c' : Nat), v = .slice a' n' c' ∧ pre.length = i ∧ RowK (fun b => T b ∨ RO b) wr a' n' (lvl nd i ls) ∧ J T pre wr ∧ Rds wr ∧ wr.cell? ⟨Bs, 0, none⟩ = some sv) (fun v _ => slen v)
  case atStart => exact ⟨0, [], _, a, N, c, rfl, rfl, HW0.out.mono (fun _ h => .inr h), HJ0.out, HR0.out, HB1.out⟩
  case round =>
    obtain ⟨i, pre, T, a', n', c', rfl, hpi, hrow, hJ1, hrd, hbs⟩ := hrel
    have HRow := Lib.hid hrow
    have HRd := Lib.hid hrd
    have HBs := Lib.hid hbs
    have HPi := Lib.hid hpi
    have hn' : n' ≤ 100000 := by rw [← hrow.1]; exact HLen.out i
    obtain ⟨fn, tmps, assign, body, hy, hR⟩ := HY.out T pre (a', n', c', lvl nd i ls) wr hJ1 ⟨hrow, by rw [hpi]⟩
    simp only [encs] at hy
    clear hrow hrd hbs hpi hJ1
    gi_wp2
    refine hR.mono ?_
    rintro e W3 ⟨⟨rfl, hJ3⟩ | ⟨rfl, hJx3⟩, hk3⟩
    · have HJ3 := Lib.hid hJ3
      have HRow3 := Lib.hid (HRow.out.kept hk3 (fun _ h => h))
      have HRd3 := Lib.hid (rds_kept HRd.out hk3 (.inr HRg.out))
      have HBs3 := Lib.hid (hk3.cell HBs.out (.inr hRs))
      clear hJ3 hk3 hy hR c0 c1
      by_cases h2 : 1 < n'
      · have q1 : (1 : Int) < (n' : Int) := by omega
        obtain ⟨M, hM⟩ : ∃ M, (n' + 1) / 2 = M := ⟨_, rfl⟩
        have hMM : ((n' : Int) + 1) / 2 = (M : Int) := by omega
        have hM1 : 2 * M ≤ n' + 1 := by omega
        have hM2 : n' ≤ 2 * M := by omega
        obtain ⟨i0, hi, hz0, hz1, hz2⟩ := info_parts info_string
        gi_wp2_with (gi_at_make; refine wpListIn_make_own _ rfl _ _ 42 rfl W3.heap.size 9 i0 (.string ByteArray.empty) 1 Tryz.underlying42 hi hz0 hz1 .i64 .i64 (M : Int) M rfl (by rw [← hMM]; rfl) rfl (by rw [hz2]; omega) (by unfold maxLen; omega) (Nat.le_refl _) ?_; intro w4 hown4 hg4)
        have HO4 := Lib.hid hown4
        have HB4 := Lib.hid ((Below.refl W3.heap.size W3).grown hg4 (Nat.le_refl _) (fun k e => by cases e))
        clear hown4 hg4
        have HOff : Hid (∃ q off, a' = some ⟨q, off, none⟩ ∧ (T q ∨ RO q) ∧ ∀ i_1, i_1 < n' → W3.cell? ⟨q, off + i_1, none⟩ = some (str ((lvl nd i ls).getD i_1 []))) := Lib.hid (HRow3.out.2 (by omega))
        have HLn := Lib.hid HRow3.out.1
        gi_loopw [4, 5, 6] (fun v u t wr => ∃ (j p : Nat), Hid (p = 2 * j) ∧ v = .slice a' n' c' ∧ p ≤ n' + 1 ∧ u = .slice (some ⟨W3.heap.size, 0, none⟩) j M ∧ t = .int .i64 (p : Int) ∧ wr.ownsRow W3.heap.size 9 1 (.slice (some ⟨W3.heap.size, 0, none⟩) j M) j (((lift nd (lvl nd i ls)).take j).map str) ∧ Below W3.heap.size W3 wr ∧ p ≤ n') (fun _ _ t _ => n' - (intOf t).toNat)
        case atStart => exact ⟨0, 0, Lib.hid rfl, rfl, by omega, rfl, rfl, HO4.out, HB4.out, by omega⟩
        case round =>
          obtain ⟨j, p, hp, rfl, hp1, rfl, rfl, hown, hbel, hp2⟩ := hrel
          have HOwn := Lib.hid hown
          have HB := Lib.hid hbel
          obtain ⟨q, off, hae, hq, hc⟩ := HOff.out
          have hj3 := hbel.size
          clear hown hbel
          by_cases h3 : p = n'
          · subst h3
            have hj : j = M := by have := hp.out; omega
            subst hj
            have HE : Hid ((lift nd (lvl nd i ls)).take j = lvl nd (i + 1) ls) := Lib.hid (by rw [List.take_of_length_le (by rw [lift_length, HLn.out, hM]; exact Nat.le_refl _), lift_lvl])
            gi_wp2
            refine ⟨⟨i + 1, pre ++ [(a', p, c', lvl nd i ls)], _, some ⟨W3.heap.size, 0, none⟩, j, j, rfl, by simp [HPi.out], ?_, HJ.out _ _ _ _ _ HJ3.out (Turns.of_below HB.out) (Stays.of_below HB.out), HRd3.out.step HB.out, (HB.out.cell (p := ⟨Bs, 0, none⟩) (World.block_lt_of_cell? W3 _ HBs3.out)).trans HBs3.out⟩, by simp only [slen]; omega⟩
            have := row_own (K := fun b => (T b ∨ (W3.heap.size ≤ b ∧ b < wr.heap.size)) ∨ RO b) HOwn.out (.inl (.inr ⟨Nat.le_refl _, (HOwn.out.lt _ rfl).2⟩))
            rw [HE.out] at this
            exact this
          · have HN := Lib.hid (lift_next (lvl nd i ls) j (by rw [HLn.out]; have := hp.out; omega))
            rw [HLn.out] at HN
            have hcp := (HB.out.cell (p := ⟨q, off + p, none⟩) (World.block_lt_of_cell? W3 _ (hc p (by omega)))).trans (hc p (by omega))
            have h3' : p < n' := by omega
            have q2 : (p : Int) < (n' : Int) := by omega
            have q3 : (0 : Int) ≤ (p : Int) := by omega
            subst hae
            by_cases h4 : p + 1 = n'
            · have hj : j + 1 = M := by have := hp.out; omega
              rw [if_neg (by have := hp.out; omega), ← hp.out] at HN
              have HE : Hid ((lift nd (lvl nd i ls)).take (j + 1) = lvl nd (i + 1) ls) := Lib.hid (by rw [List.take_of_length_le (by rw [lift_length, HLn.out]; omega), lift_lvl])
              rw [HE.out] at HN
              have e1 : ((n' : Int) - (p : Int) == 1) = true := by rw [beq_iff_eq]; omega
              have e0 : ((n' : Int) - (p : Int) == 0) = false := by rw [beq_eq_false_iff_ne]; omega
              have HX := Lib.hid (hc p (by omega))
              clear hc hq
              generalize (lvl nd i ls).getD p [] = y at *
              gi_wp2_with (gi_at_builtin; refine wpList_app rfl _ _ rfl W3.heap.size W3.heap.size j M _ rfl (HOwn.out.alloc _) wr.heap.size rfl y (blk_cell (heap_alloc_new wr _) rfl) (by omega) ?_; intro w5 hown5 hg5)
              have HB5 := Lib.hid ((HB.out.alloc HB.out.size (.cells #[str y] 9)).grown hg5 (by simp; omega) (fun k e => by cases e; exact Nat.le_refl _))
              have HO5 : Hid (w5.ownsRow W3.heap.size 9 1 (.slice (some ⟨W3.heap.size, 0, none⟩) M M) M ((lvl nd (i + 1) ls).map str)) := by
                show _
                rw [HN.out, ← hj]
                rw [← hj] at hown5
                exact hown5
              refine ⟨⟨i + 1, pre ++ [(some ⟨q, off, none⟩, n', c', lvl nd i ls)], _, some ⟨W3.heap.size, 0, none⟩, M, M, rfl, by simp [HPi.out], ?_, HJ.out _ _ _ _ _ HJ3.out (Turns.of_below HB5.out) (Stays.of_below HB5.out), HRd3.out.step HB5.out, (HB5.out.cell (p := ⟨Bs, 0, none⟩) (World.block_lt_of_cell? W3 _ HBs3.out)).trans HBs3.out⟩, by simp only [slen]; omega⟩
              exact row_own (K := fun b => (T b ∨ (W3.heap.size ≤ b ∧ b < w5.heap.size)) ∨ RO b) HO5.out (.inl (.inr ⟨Nat.le_refl _, (HO5.out.lt _ rfl).2⟩))
            · have hj : j + 1 ≤ M := by have := hp.out; omega
              rw [if_pos (by have := hp.out; omega), ← hp.out] at HN
              obtain ⟨r, hr⟩ : ∃ r, r = p + 1 := ⟨_, rfl⟩
              rw [← hr] at HN
              have e1 : ((n' : Int) - (p : Int) == 1) = false := by rw [beq_eq_false_iff_ne]; omega
              have e0 : ((n' : Int) - (p : Int) == 0) = false := by rw [beq_eq_false_iff_ne]; omega
              have hrdr := HRd3.out.step HB.out
              have HS3 : Hid (Sc W3 Bs q off p r ((lvl nd i ls).getD p []) ((lvl nd i ls).getD r [])) := Lib.hid ⟨HBs3.out, hc p (by omega), hc r (by omega)⟩
              have hy1 : ((lvl nd i ls).getD p []).length = 32 := H32.out i _ (by rw [getD_at _ _ (by rw [HLn.out]; exact h3')]; exact List.getElem_mem _)
              have hy2 : ((lvl nd i ls).getD r []).length = 32 := H32.out i _ (by rw [getD_at _ _ (by rw [HLn.out]; omega)]; exact List.getElem_mem _)
              have q4 : (r : Int) < (n' : Int) := by omega
              have q5 : IntKind.i64.wrap ((p : Int) + 1) = (r : Int) := by rw [IntWalk.i64_in _ (by omega)]; omega
              have q6 : (0 : Int) ≤ (r : Int) := by omega
              clear hc hq hcp hr
              generalize (lvl nd i ls).getD p [] = y at *
              generalize (lvl nd i ls).getD r [] = z at *
              have HS := Lib.hid (summed_d y z (by omega) (by omega) wr hrdr)
              have HS0 := Lib.hid (HS3.out.below HB.out)
              have s1 := HS0.out.alloc (.cells #[.string { data := #[1] }, str y, str z] 9)
              clear hrdr
              gi_wp2
              refine wpIn_wide.2 ?_
              have HB2 := Lib.hid (fun (w5 : World) (h : Below wr.heap.size wr w5) => HB.out.trans (h.mono HB.out.size))
              go_region_held3 (fun w' => w'.cell? ⟨Bs, 0, none⟩ = some sv ∧ w'.cell? ⟨q, off + p, none⟩ = some (str y) ∧ w'.cell? ⟨q, off + r, none⟩ = some (str z))
                (first | exact ⟨HS0.out.s, HS0.out.y, HS0.out.z⟩ | exact ⟨s1.s, s1.y, s1.z⟩ | exact hS7 | exact hS6 | exact hS5)
                (first
                  | (go_at_call 34
                     refine HS.out.mono ?_
                     rintro r w5 ⟨rfl, hb5⟩
                     have HB5 := Lib.hid (HB2.out _ hb5)
                     have HO5 := Lib.hid (own_below HOwn.out hb5)
                     have hS6 := sc3 ((HS3.out.below HB5.out).alloc (.cells #[str (nd y z)] 9))
                     have hS5 := sc3 (HS3.out.below HB5.out)
                     clear hb5)
                  | (rw [if_pos (by rfl)]
                     refine wp_app _ _ rfl W3.heap.size W3.heap.size j M _ rfl (HO5.out.alloc _) w5.heap.size rfl (nd y z) (blk_cell (heap_alloc_new w5 _) rfl) hj ?_
                     intro w6 hown6 hg6
                     have HO6 := Lib.hid hown6
                     have HB6 := Lib.hid (grown_app HB5.out _ HB5.out.size hg6)
                     have hS7 := sc3 (HS3.out.below HB6.out)
                     clear hown6 hg6))
              gi_wp2
              go_roundw
              case rel =>
                refine ⟨j + 1, p + 2, Lib.hid (by have := hp.out; omega), rfl, by omega, rfl, by go_num, ?_, HB6.out, by omega⟩
                rw [HN.out]
                exact HO6.out
              case measure => simp [intOf]; omega
      · have HS3 : Hid (All ls (pre ++ [(a', n', c', lvl nd i ls)])) := Lib.hid ⟨i, by simp [HPi.out], by rw [HRow3.out.1]; omega⟩
        gi_wp2
        rw [Exit.noGoto_normal]
        go_end0
        exact ⟨⟨_, rfl⟩, T, .inl ⟨_, HS3.out, HJ3.out⟩⟩
    · gi_wp2
      rw [Exit.noGoto_normal]
      go_end0
      exact ⟨⟨_, rfl⟩, T, .inr ⟨_, trivial, hJx3⟩⟩
end Go.Proofs.YtdkcebaehdkphaaGreatDoor.MerL
