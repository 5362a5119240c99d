/- The document's All: the walk of its text. The condition: that no version stands twice in the row. -/
import Derived.Test.YtnebbbloipdnbaaIdxSl
import Derived.Deep.RegionHeld3
import Derived.Deep.RegionLaw
namespace Go.Proofs.Ytnebbbloipdnbaa.IdxAl
open Go.RowKit
open IdxN IdxM IdxC IdxD IdxH IdxI IdxK IdxJ IdxW IdxQ IdxE IdxZ IdxSl
theorem step_append_eq {P : Program} {ops : Array Oper} {o : Oper} {a : Act} {w : World} {K : Act → World → Prop} {Q : Exit → Act → World → Prop} {E : Prop}
    (d0 : Option Tmp) (hd0 : o.dst = d0) (hg : o.guard = none) (d x : Operand) (dT sT : TypeId) (hop : o.op = Op.call { callee := Callee.builtin Builtin.append, args := #[d, x], argTypes := #[dT, sT] })
    (v u : Value) (hd : a.eval d = v) (hx : a.eval x = u) {v' : Value} {w' : World} (hr : (Builtin.append_ #[dT, sT] o.type #[v, u]).run P w = .ok v' w') (hK : K (a.put d0 v') w') :
    if Region.wanted o (yielded ops a.tmps) = true then Oper.wp P o a w K Q else E := by
  subst hd0
  have hw : Region.wanted o (yielded ops a.tmps) = true := by simp [Region.wanted, hg]
  rw [if_pos hw]
  unfold Oper.wp
  simp [execOp, hop, resolve, invoke, builtin, hd, hx, hr, Result.andThen]
  exact hK
def slen (v : Value) : Nat := match v with | .slice _ n _ => n | _ => 0
/-- What stands while All runs. -/
structure Al (w w1 : World) (g cap : Nat) (l L O : List V) (p : Option Addr) (c : Nat) (W : World) : Prop where
  sel : Sel l L O
  left : W.ownsRow w.heap.size 27 3 (.slice (some ⟨g, 0, none⟩) L.length cap) L.length (rc L)
  out : W.ownsRow w1.heap.size 27 3 (.slice p O.length c) O.length (rc O)
  bel : Below w.heap.size w W
  size : w1.heap.size ≤ W.heap.size
variable {w w1 W W' : World} {g cap c : Nat} {l L O : List V} {p : Option Addr}
theorem Al.step (h : Al w w1 g cap l L O p c W) (hb : Below W.heap.size W W') : Al w w1 g cap l L O p c W' :=
  ⟨h.sel, own_step h.left hb, own_step h.out hb, h.bel.trans (hb.mono h.bel.size), Nat.le_trans h.size hb.size⟩
theorem Al.at_ (h : Al w w1 g cap l L O p c W) {i : Nat} (hi : i < L.length) : W.cell? ⟨g, i * 3, none⟩ = some (.int .i64 L[i].1) ∧ W.cell? ⟨g, i * 3 + 1, none⟩ = some (.int .i64 L[i].2.1) ∧ W.cell? ⟨g, i * 3 + 2, none⟩ = some (.int .i64 L[i].2.2) := by
  have hl := own_lies h.left
  obtain ⟨g', o, e, _, hat⟩ := hl.at_ (by omega)
  cases e
  have := hat i hi
  simpa using this
set_option maxRecDepth 100000 in
set_option maxHeartbeats 4000000 in
theorem RAll (a : Option Addr) (c : Nat) (r l : List V) (w : World) (h : Lies w a l) (hl : l.length ≤ 100000) (hr : Rel r l) :
    Calls Try.prog 18 #[.slice a l.length c] w (Cloned r w) := by
  have HL := Lib.hid h
  have HR := Lib.hid hr
  have HLess := Lib.hid less
  have hnd := hr.nd
  clear h hr
  go_enter Try.func18, Try.ntmps18
  go_upto_region 3 with (at_builtin; refine list_append_any _ rfl _ _ rfl w.heap.size w.heap.size 0 0 [] rfl (made_own (heap_alloc_new w _) (Nat.le_refl _)) a l.length c l rfl rfl (Src.of (HL.out.step (below_new w _))) (by omega) (by simp) ?_; intro g cap w1 hown hgrow)
  have hb1 : Below w.heap.size w w1 := (below_new w _).grown hgrow (by simp) (fun k hk => by have e : w.heap.size = k := Option.some.inj hk; omega)
  rw [Nat.zero_add, List.nil_append] at hown
  have hgl := (hown.lt g rfl).2
  have AA : Hid (Al w w1 g cap l l [] none 0 w1) := Lib.hid ⟨Sel.first hnd, hown, World.ownsRow_nil _ _ _ _, hb1, Nat.le_refl _⟩
  have B1 := Lib.hid hb1
  have GL := Lib.hid hgl
  clear hown hgrow hb1 hnd hgl
  go_loopw [3, 4] (fun lv ov wr => ∃ (L O : List V) (p : Option Addr) (c : Nat), lv = .slice (some ⟨g, 0, none⟩) L.length cap ∧ ov = .slice p O.length c ∧ Al w w1 g cap l L O p c wr) (fun lv _ _ => slen lv)
  case atStart => exact ⟨l, [], none, 0, rfl, rfl, AA.out⟩
  case round =>
    clear AA
    obtain ⟨L, O, p, cp, rfl, rfl, hA⟩ := hrel
    have AA := Lib.hid hA
    have hlen := hA.sel.len
    clear hA
    by_cases hz : L.length = 0
    · have hL0 : L = [] := List.eq_nil_of_length_eq_zero hz
      subst hL0
      have hO := AA.out.sel.last HR.out
      go_wp2_with fail
      go_ret
      rw [← hO]
      exact ⟨_, rfl, own_base AA.out.out B1.out.size, AA.out.bel⟩
    · have hpos : 0 < L.length := by omega
      have hposi : (0 : Int) < (L.length : Int) := by omega
      go_upto_region 6 with (fail)
      obtain ⟨w0, hw0⟩ : ∃ w0 : World, w0 = wr := ⟨_, rfl⟩
      subst hw0
      go_loopw [5, 6] (fun kv iv wr => ∃ k i : Nat, kv = .int .i64 k ∧ iv = .int .i64 i ∧ 1 ≤ i ∧ i ≤ L.length ∧ k < L.length ∧ Least L k i ∧ Below w0.heap.size w0 wr) (fun _ iv _ => L.length - (intOf iv).toNat)
      case atStart => exact ⟨0, 1, rfl, rfl, Nat.le_refl _, hpos, hpos, Least.first hpos, Below.refl _ _⟩
      case round =>
        obtain ⟨k, i, rfl, rfl, hi1, hi2, hk, hmin, hb⟩ := hrel
        have BV := Lib.hid hb
        have AV := Lib.hid (AA.out.step hb)
        clear hb
        have hkl : (k : Int) < (L.length : Int) := by omega
        by_cases hlt : i < L.length
        · obtain ⟨m0, m1, m2⟩ := AV.out.at_ hlt
          obtain ⟨k0, k1, k2⟩ := AV.out.at_ hk
          have hil : (i : Int) < (L.length : Int) := by omega
          have HN := Lib.hid (hmin.next hk hlt)
          have HQ := Lib.hid (HLess.out L[i] L[k])
          have HS : Hid (∀ W, Below wr.heap.size wr W → W.cell? ⟨g, i * 3, none⟩ = some (.int .i64 L[i].1) ∧ W.cell? ⟨g, i * 3 + 1, none⟩ = some (.int .i64 L[i].2.1) ∧ W.cell? ⟨g, i * 3 + 2, none⟩ = some (.int .i64 L[i].2.2) ∧ W.cell? ⟨g, k * 3, none⟩ = some (.int .i64 L[k].1) ∧ W.cell? ⟨g, k * 3 + 1, none⟩ = some (.int .i64 L[k].2.1) ∧ W.cell? ⟨g, k * 3 + 2, none⟩ = some (.int .i64 L[k].2.2)) := Lib.hid fun W hb =>
            ⟨((AV.out.step hb).at_ hlt).1, ((AV.out.step hb).at_ hlt).2.1, ((AV.out.step hb).at_ hlt).2.2, ((AV.out.step hb).at_ hk).1, ((AV.out.step hb).at_ hk).2.1, ((AV.out.step hb).at_ hk).2.2⟩
          clear hmin
          generalize L[i] = u at *
          generalize L[k] = v at *
          obtain ⟨u0, u1, u2⟩ := u
          obtain ⟨v0, v1, v2⟩ := v
          dsimp only at m0 m1 m2 k0 k1 k2 HQ HS
          have hS0 := HS.out wr (Below.refl _ _)
          go_wp2_with fail
          cases hq : lt (u0, u1, u2) (v0, v1, v2) <;> rw [hq] at HQ HN
          · go_region_held3 (fun w' => w'.cell? ⟨g, i * 3, none⟩ = some (.int .i64 u0) ∧ w'.cell? ⟨g, i * 3 + 1, none⟩ = some (.int .i64 u1) ∧ w'.cell? ⟨g, i * 3 + 2, none⟩ = some (.int .i64 u2) ∧ w'.cell? ⟨g, k * 3, none⟩ = some (.int .i64 v0) ∧ w'.cell? ⟨g, k * 3 + 1, none⟩ = some (.int .i64 v1) ∧ w'.cell? ⟨g, k * 3 + 2, none⟩ = some (.int .i64 v2))
              (first | exact hS | exact hS0)
              (first
                | (go_at_call 33; refine (HQ.out _).mono ?_; rintro e w2 ⟨rfl, hb⟩; have hS := HS.out _ ((Below.refl _ _).drew.trans hb); have B2 := Lib.hid (BV.out.trans (((Below.refl wr.heap.size wr).drew.trans hb).mono BV.out.size)); clear hb))
            go_wp2
            go_roundw
            case rel => exact ⟨k, i + 1, rfl, by go_num, by omega, by omega, hk, HN.out.2 trivial, B2.out⟩
            case measure => simp [intOf]; omega
          · go_region_held3 (fun w' => w'.cell? ⟨g, i * 3, none⟩ = some (.int .i64 u0) ∧ w'.cell? ⟨g, i * 3 + 1, none⟩ = some (.int .i64 u1) ∧ w'.cell? ⟨g, i * 3 + 2, none⟩ = some (.int .i64 u2) ∧ w'.cell? ⟨g, k * 3, none⟩ = some (.int .i64 v0) ∧ w'.cell? ⟨g, k * 3 + 1, none⟩ = some (.int .i64 v1) ∧ w'.cell? ⟨g, k * 3 + 2, none⟩ = some (.int .i64 v2))
              (first | exact hS | exact hS0)
              (first
                | (go_at_call 33; refine (HQ.out _).mono ?_; rintro e w2 ⟨rfl, hb⟩; have hS := HS.out _ ((Below.refl _ _).drew.trans hb); have B2 := Lib.hid (BV.out.trans (((Below.refl wr.heap.size wr).drew.trans hb).mono BV.out.size)); clear hb))
            go_wp2
            go_roundw
            case rel => exact ⟨i, i + 1, rfl, by go_num, by omega, by omega, hlt, HN.out.1 trivial, B2.out⟩
            case measure => simp [intOf]; omega
        · obtain rfl : i = L.length := by omega
          obtain ⟨k0, k1, k2⟩ := AV.out.at_ hk
          have HT := Lib.hid (AV.out.sel.take hmin hk)
          have HLL := Lib.hid (less_length hk)
          have HC := Lib.hid (fun W ty base ad c' hown had => run_cut W ty base g L.length cap k L rfl hk hown ad c' had)
          have hwk : IntKind.i64.wrap ((k : Int) + 1) = (k : Int) + 1 := by rw [IntKind.wrap_i64]; omega
          have hk1 : (0 : Int) ≤ (k : Int) + 1 := by omega
          have hk2 : (k : Int) + 1 ≤ (L.length : Int) := by omega
          have hcap : L.length ≤ cap := by
            rcases AV.out.left.2 with ⟨e, _⟩ | ⟨g', cap', cur, e, _, _, hc, _⟩
            · cases e
            · cases e; exact hc
          have hkc : (k : Int) ≤ (cap : Int) := by omega
          have hfew : O.length ≤ 100000 := by omega
          clear hmin
          have hLk : (less_ L k).length = L.length - 1 := by have := HLL.out; omega
          have HLK := Lib.hid hLk
          clear hLk
          generalize L[k] = v at *
          obtain ⟨v0, v1, v2⟩ := v
          dsimp only at k0 k1 k2
          go_upto_region 11 with (at_builtin; refine append_ver wr rfl _ _ rfl w1.heap.size cp p O (v0, v1, v2) rfl hfew AV.out.size rfl AV.out.out ?_; intro p' c' w4 ho4 hb4; have O4 := Lib.hid ho4; have B4 := Lib.hid hb4; clear ho4 hb4)
          have L4 : w4.drew.ownsRow w.heap.size 27 3 (.slice (some ⟨g, 0, none⟩) L.length cap) L.length (rc L) := own_kept (w' := w4.drew) AV.out.left fun j hj => by
            have e : g = j := Option.some.inj hj
            exact B4.out.block j (by have := GL.out; omega)
          have b4 : Below w.heap.size w w4.drew := (AV.out.bel.trans (B4.out.mono B1.out.size)).drew
          have hfin : ∀ w5, w5.ownsRow w.heap.size 27 3 (.slice (some ⟨g, 0, none⟩) (L.length - 1) cap) (L.length - 1) (rc (less_ L k)) → w4.drew.grownBy w5 (some g) → Al w w1 g cap l (less_ L k) (O ++ [(v0, v1, v2)]) p' c' w5 := fun w5 h1 h2 => by
            refine ⟨HT.out, by rw [HLK.out]; exact h1, own_kept O4.out (fun j hj => h2.block j (O4.out.lt j hj).2 (fun e => by have e' : j = g := Option.some.inj e; have := (O4.out.lt j hj).1; have := GL.out; omega)), b4.grown h2 b4.size (fun j hj => by have e : g = j := Option.some.inj hj; have := (AV.out.left.lt g rfl).1; omega), ?_⟩
            have h3 := h2.size
            have h4 := B4.out.size
            have h5 := AV.out.size
            exact Nat.le_trans (Nat.le_trans h5 h4) h3
          have HFIN := Lib.hid hfin
          clear hfin b4 k0 k1 k2 O4 HT
          by_cases hck : cap = k + 1
          · subst hck
            have hk9 : (k : Int) ≤ (k : Int) + 1 := by omega
            obtain ⟨w5, hr5, own5, gr5⟩ := HC.out w4.drew 22 w.heap.size ⟨g, 0, none⟩ 0 L4 (fun h => by omega)
            have e0 : L.length - (k + 1) = 0 := by omega
            rw [e0] at hr5
            clear e0
            have F5 := Lib.hid (HFIN.out w5 own5 gr5)
            clear own5 gr5 L4 HC HFIN
            go_region_law (refine step_append_eq (some 43) rfl rfl _ _ 22 22 rfl (.slice (some ⟨g, 0, none⟩) k (k + 1)) (.slice (some ⟨g, 0, none⟩) 0 0) (by simp [Act.eval, Act.put]) (by simp [Act.eval, Act.put]) hr5 ?_)
            go_wp2
            go_roundw
            case rel => refine ⟨_, _, _, _, _, _, _, _, _, _, _, _, _, _, _, _, _, _, _, _, _, _, _, _, _, _, _, _, _, _, _, _, _, _, _, _, _, _, ?_, rfl⟩; exact ⟨less_ L k, O ++ [(v0, v1, v2)], p', c', by rw [HLK.out], by rw [List.length_append]; rfl, F5.out⟩
            case measure => show L.length - 1 < L.length; omega
          · obtain ⟨w5, hr5, own5, gr5⟩ := HC.out w4.drew 22 w.heap.size ⟨g, (k + 1) * 3, none⟩ (cap - (k + 1)) L4 (fun h => rfl)
            have F5 := Lib.hid (HFIN.out w5 own5 gr5)
            clear own5 gr5 L4 HC HFIN
            go_region_law (refine step_append_eq (some 43) rfl rfl _ _ 22 22 rfl (.slice (some ⟨g, 0, none⟩) k cap) (.slice (some ⟨g, (k + 1) * 3, none⟩) (L.length - (k + 1)) (cap - (k + 1))) (by simp [Act.eval, Act.put]) (by simp [Act.eval, Act.put]) hr5 ?_)
            go_wp2
            go_roundw
            case rel => refine ⟨_, _, _, _, _, _, _, _, _, _, _, _, _, _, _, _, _, _, _, _, _, _, _, _, _, _, _, _, _, _, _, _, _, _, _, _, _, _, ?_, rfl⟩; exact ⟨less_ L k, O ++ [(v0, v1, v2)], p', c', by rw [HLK.out], by rw [List.length_append]; rfl, F5.out⟩
            case measure => show L.length - 1 < L.length; omega
end Go.Proofs.Ytnebbbloipdnbaa.IdxAl
