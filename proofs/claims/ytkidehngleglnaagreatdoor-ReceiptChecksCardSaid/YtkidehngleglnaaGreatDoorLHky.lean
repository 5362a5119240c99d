/- HXor HKey HTurn HInn HPart: one behind the other. -/
import Derived.Test.YtkidehngleglnaaGreatDoorHmac
import Derived.Test.YtkidehngleglnaaGreatDoorRows
import Derived.Test.YtkidehngleglnaaGreatDoorMem
import Derived.Test.YtkidehngleglnaaGreatDoorLHash
import Derived.Test.YtkidehngleglnaaGreatDoorSlice
import Derived.Laws.AppendOwn
import Derived.Laws.AppendOwnNone
/- hmac's closure: the key's block, each byte held against one. -/
namespace Go.Proofs.YtkidehngleglnaaGreatDoor.HXor
open Go.RowKit
theorem info5 : (Tryz.prog.info? 5).map (fun i => (i.zero, i.size, i.bytes)) = some (some (.int .u8 0), 1, 1) := by kernel_rfl
theorem u8_xor (a b : UInt8) : bits .xor .u8 (a.toNat : Int) (b.toNat : Int) = ((a ^^^ b).toNat : Int) := by
  have ha := a.toNat_lt
  have hb := b.toNat_lt
  show IntKind.u8.wrap ((BitVec.ofInt 8 (a.toNat : Int) ^^^ BitVec.ofInt 8 (b.toNat : Int)).toNat : Int) = _
  have e : ∀ c : UInt8, BitVec.ofInt 8 (c.toNat : Int) = c.toBitVec := by
    intro c
    apply BitVec.eq_of_toNat_eq
    have := c.toNat_lt
    simp
  rw [e, e, ← UInt8.toBitVec_xor]
  show IntKind.u8.wrap (((a ^^^ b).toNat : Nat) : Int) = _
  have hc := (a ^^^ b).toNat_lt
  exact IntWalk.u8_in _ (by omega)
/-- What stands behind 'j' rounds. -/
def row (b : List UInt8) (n : UInt8) (j : Nat) : List UInt8 := (heldBy b n).take j ++ List.replicate (64 - j) 0
theorem row_length (b : List UInt8) (n : UInt8) (j : Nat) (hb : b.length = 64) (h : j ≤ 64) : (row b n j).length = 64 := by
  rw [row, List.length_append, List.length_take, heldBy_length, List.length_replicate]; omega
theorem row_next (b : List UInt8) (n : UInt8) (j : Nat) (hb : b.length = 64) (h : j < 64) : (row b n j).set j (b.getD j 0 ^^^ n) = row b n (j + 1) := by
  have hl := heldBy_length b n
  have e : b.getD j 0 ^^^ n = (heldBy b n)[j]'(by omega) := by simp [heldBy, List.getD, show j < b.length from by omega]
  rw [row, row, List.set_append, if_neg (by rw [List.length_take]; omega), show 64 - j = (64 - (j + 1)) + 1 from by omega, List.replicate_succ]
  rw [List.length_take, Nat.min_eq_left (by omega), Nat.sub_self, List.set_cons_zero]
  rw [List.take_succ_eq_append_getElem (by omega), List.append_assoc, e]
  rfl
set_option maxRecDepth 100000 in
theorem turned (b : List UInt8) (n : UInt8) (c : Nat) (w : World) (hb : b.length = 64) (hc : w.cell? ⟨c, 0, none⟩ = some (.string ⟨b.toArray⟩)) :
    Calls Tryz.prog 92 #[.int .u8 n.toNat, .pointer (some ⟨c, 0, none⟩)] w fun e w' => e = .returned (.string ⟨(heldBy b n).toArray⟩) ∧ Below w.heap.size w w' := by
  obtain ⟨i0, hi, hz0, hz1, hz2⟩ := info_parts info5
  have hmk : ∀ W : World, (Instr.makeSlice 65 (.int .i64 64) (.int .i64 64)).run Tryz.prog W = .ok (.slice (some ⟨W.heap.size, 0, none⟩) 64 64) (W.alloc (.cells (bytesRow (List.replicate 64 0)) 5)) := by
    intro W
    have := run_make (P := Tryz.prog) W 65 5 i0 (.int .u8 0) Tryz.underlying65 hi hz0 .i64 .i64 (64 : Nat) (64 : Nat) (by omega) (by omega) (by rw [hz2]; omega) (by omega)
    simp only [hz1, Value.cells, Int.toNat_natCast, Nat.mul_one, made_bytes] at this
    exact this
  clear hi hz0 hz1 hz2
  have hrow : bytesRow (List.replicate 64 0) = bytesRow (row b n 0) := by simp [row]
  rw [hrow] at hmk
  clear hrow
  go_enter Tryz.func92, Tryz.ntmps92
  go_wp2_with fail
  have hcl : c < w.heap.size := World.block_lt_of_cell? w _ hc
  go_loopw [7] (fun i wr => ∃ j : Nat, j ≤ 64 ∧ i = .int .i64 j ∧ wr.heap[w.heap.size]? = some (.cells (bytesRow (row b n j)) 5 (0, 0)) ∧ Below w.heap.size w wr) (fun i _ => 64 - (intOf i).toNat)
  case atStart => exact ⟨0, Nat.zero_le _, rfl, heap_alloc_new w _, (Below.refl _ _).alloc (Nat.le_refl _) _⟩
  case round =>
    obtain ⟨j, hj, rfl, hblk, hbel⟩ := hrel
    clear hmk
    by_cases hlt : j < 64
    · have hcw := (hbel.cell (p := ⟨c, 0, none⟩) hcl).trans hc
      have hfz := blk_free (i := j) hblk
      have hv2 := blk_cell hblk (bytesRow_at _ j (by rw [row_length b n j hb hj]; exact hlt))
      have HN := Lib.hid (row_next b n j hb hlt)
      have HX : Hid (∀ h, bits .xor .u8 (((⟨b.toArray⟩ : ByteArray)[j]'h).toNat : Int) (n.toNat : Int) = ((b.getD j 0 ^^^ n).toNat : Int)) := by
        intro h
        rw [show (⟨b.toArray⟩ : ByteArray)[j]'h = b.getD j 0 from by
          have hj2 : j < b.length := by omega
          simp only [List.getD, List.getElem?_eq_getElem hj2, Option.getD_some]
          rfl]
        exact u8_xor _ n
      have HB := Lib.hid hblk
      have HBe := Lib.hid hbel
      clear hblk hbel
      go_wp2
      go_roundw
      case rel =>
        refine ⟨j + 1, by omega, by go_num, ?_, HBe.out.setCell (Nat.le_refl _) _⟩
        rw [blk_set HB.out, HX.out, bytesRow_set, HN.out]
      case measure => simp [intOf]; omega
    · have hk : j = 64 := by omega
      subst hk
      have hb' : wr.heap[w.heap.size]? = some (.cells (bytesRow (heldBy b n ++ [])) 5 (0, 0)) := by rw [hblk]; rw [row, List.take_of_length_le (by rw [heldBy_length]; omega), Nat.sub_self]; rfl
      have hcv := conv_row (P := Tryz.prog) (src := 65) (dst := 9) (len := 64) (cap := 64) Tryz.underlying65 Tryz.underlying5 Tryz.underlying9 hb' (by rw [heldBy_length]; exact hb)
      clear hblk hb'
      go_wp2
      go_ret
      exact ⟨rfl, hbel⟩
end Go.Proofs.YtkidehngleglnaaGreatDoor.HXor
/- What hmac's 'Key' answers, and the texts that make a key's block turned by a byte: the walks of their texts. The condition: the rounds' numbers lie in the program's variable. -/
namespace Go.Proofs.YtkidehngleglnaaGreatDoor.HKey
open Go.RowKit
open STurn
theorem noughts (h : List UInt8) (hh : h.length ≤ 64) (n : Int) (hn : n = 64 - (h.length : Int)) (w : World) :
    Calls Tryz.prog 65 #[.string ⟨#[0]⟩, .int .i64 n] w fun e w' => e = .returned (.string ⟨(List.replicate (64 - h.length) 0).toArray⟩) ∧ Below w.heap.size w w' := by
  subst hn
  rw [show (64 - (h.length : Int)) = ((64 - h.length : Nat) : Int) from by omega]
  exact SPad.repeated (64 - h.length) w (by omega)
theorem Key (k : List UInt8) (w : World) (hr : Rds w) (hl : k.length ≤ 576460752303423488) :
    Calls Tryz.prog 91 #[.string ⟨k.toArray⟩] w fun e w' => e = .returned (.string ⟨(keyBlock k).toArray⟩) ∧ Below w.heap.size w w' := by
  have HE : Hid ((⟨(keyHead k).toArray⟩ ++ ⟨(List.replicate (64 - (keyHead k).length) 0).toArray⟩ : ByteArray) = ⟨(keyBlock k).toArray⟩) := by
    show _ = _
    rw [ByteArray.mk_append_mk]; rfl
  have HN := Lib.hid (fun n hn W => noughts (keyHead k) (keyHead_le k) n hn W)
  have hzl : (List.replicate (64 - (keyHead k).length) (0 : UInt8)).length ≤ 64 := by rw [List.length_replicate]; omega
  generalize List.replicate (64 - (keyHead k).length) (0 : UInt8) = z at *
  by_cases h : (64 : Int) < (k.length : Int)
  · have e : keyHead k = sum k := if_pos (by omega)
    have H1 := Lib.hid (SFold.one k w hr hl)
    rw [e] at HE HN
    have hs := sum_length k
    generalize sum k = s at *
    generalize keyBlock k = b at *
    clear e hr
    go_enter Tryz.func91, Tryz.ntmps91
    go_wp2_with (go_at_call 72; refine H1.out.mono ?_; rintro e w1 ⟨rfl, hb1⟩; have HB1 := Lib.hid hb1; clear hb1)
    refine (HN.out _ (by omega) _).mono ?_
    rintro e w2 ⟨rfl, hb2⟩
    have HB2 := Lib.hid (HB1.out.trans (hb2.mono HB1.out.size))
    clear hb2
    go_wp2
    rw [HE.out]
    go_ret
    exact ⟨rfl, HB2.out⟩
  · have e : keyHead k = k := if_neg (by omega)
    rw [e] at HE HN
    generalize keyBlock k = b at *
    clear e hr
    go_enter Tryz.func91, Tryz.ntmps91
    go_wp2_with fail
    refine (HN.out _ rfl _).mono ?_
    rintro e w2 ⟨rfl, hb2⟩
    have HB2 := Lib.hid hb2
    clear hb2
    go_wp2
    rw [HE.out]
    go_ret
    exact ⟨rfl, HB2.out⟩
end Go.Proofs.YtkidehngleglnaaGreatDoor.HKey
/- hmac's closure: the key's block, each byte held against one; and 'turner', that makes it. The condition: the rounds' numbers lie in the program's variable. -/
namespace Go.Proofs.YtkidehngleglnaaGreatDoor.HTurn
open Go.RowKit
open STurn
theorem turner (k : List UInt8) (w : World) (hr : Rds w) (hl : k.length ≤ 576460752303423488) :
    Calls Tryz.prog 71 #[.string ⟨k.toArray⟩] w fun e w' => ∃ c, w.heap.size ≤ c ∧ c < w'.heap.size ∧ e = .returned (.func (.func 92) #[] #[.pointer (some ⟨c, 0, none⟩)]) ∧ w'.cell? ⟨c, 0, none⟩ = some (.string ⟨(keyBlock k).toArray⟩) ∧ Below w.heap.size w w' := by
  have H := Lib.hid (fun W hr => HKey.Key k W hr hl)
  have HR := Lib.hid hr
  clear hr
  go_enter Tryz.func71, Tryz.ntmps71
  go_wp2_with fail
  refine (H.out _ HR.out).mono ?_
  rintro e w1 ⟨rfl, hb1⟩
  have HB1 := Lib.hid hb1
  clear hb1
  go_wp2_with fail
  go_ret
  exact ⟨w1.heap.size, HB1.out.size, by simp, rfl, blk_cell (heap_alloc_new w1 _) rfl, HB1.out.alloc HB1.out.size _⟩
end Go.Proofs.YtkidehngleglnaaGreatDoor.HTurn
/- What hmac's 'Inner' and 'Outer' answer: the walks of their texts. The condition: the rounds' numbers lie in the program's variable. -/
namespace Go.Proofs.YtkidehngleglnaaGreatDoor.HInn
open Go.RowKit
open STurn SSum
/-- The closure over a key's block. -/
theorem by_ (k : List UInt8) (n : UInt8) (c : Nat) (w : World) (hc : w.cell? ⟨c, 0, none⟩ = some (.string ⟨(keyBlock k).toArray⟩)) :
    Calls Tryz.prog 92 #[.int .u8 n.toNat, .pointer (some ⟨c, 0, none⟩)] w fun e w' => e = .returned (.string ⟨(heldBy (keyBlock k) n).toArray⟩) ∧ Below w.heap.size w w' :=
  HXor.turned (keyBlock k) n c w (keyBlock_length k) hc
theorem one (k : List UInt8) (c : Nat) (w : World) (hc : w.cell? ⟨c, 0, none⟩ = some (.string ⟨(keyBlock k).toArray⟩)) :
    Calls Tryz.prog 92 #[.int .u8 54, .pointer (some ⟨c, 0, none⟩)] w fun e w' => e = .returned (.string ⟨(heldBy (keyBlock k) 54).toArray⟩) ∧ Below w.heap.size w w' := by_ k 54 c w hc
theorem two (k : List UInt8) (c : Nat) (w : World) (hc : w.cell? ⟨c, 0, none⟩ = some (.string ⟨(keyBlock k).toArray⟩)) :
    Calls Tryz.prog 92 #[.int .u8 92, .pointer (some ⟨c, 0, none⟩)] w fun e w' => e = .returned (.string ⟨(heldBy (keyBlock k) 92).toArray⟩) ∧ Below w.heap.size w w' := by_ k 92 c w hc
/-- The sum of two texts, as the program calls it. -/
theorem pair (x y : List UInt8) (w : World) (hr : Rds w) (hl : x.length + y.length ≤ 576460752303423488) :
    Calls Tryz.prog 72 #[.slice (some ⟨w.heap.size, 0, none⟩) 2 2] (w.alloc (.cells #[.string ⟨x.toArray⟩, .string ⟨y.toArray⟩] 9)) fun e w' => e = .returned (.string ⟨(sum (x ++ y)).toArray⟩) ∧ Below w.heap.size w w' := by
  have h := sums (some ⟨w.heap.size, 0, none⟩) 2 2 [x, y] (w.alloc (.cells #[.string ⟨x.toArray⟩, .string ⟨y.toArray⟩] 9))
    ⟨rfl, fun _ => ⟨_, _, rfl, by simp, fun i hi => by
      match i, hi with
      | 0, _ => exact blk_cell (heap_alloc_new w _) rfl
      | 1, _ => exact blk_cell (heap_alloc_new w _) rfl⟩⟩ (hr.step ((Below.refl _ _).alloc (Nat.le_refl _) _)) (by simpa using hl) (by omega)
  rw [show ([x, y] : List (List UInt8)).flatten = x ++ y from by simp] at h
  exact h.mono fun e w' ⟨h1, h2⟩ => ⟨h1, ((Below.refl w.heap.size w).alloc (Nat.le_refl _) _).trans (h2.mono (by simp))⟩
end Go.Proofs.YtkidehngleglnaaGreatDoor.HInn
/- What hmac's 'Parts' and 'Mac' answer: the walks of their texts. The condition: the rounds' numbers lie in the program's variable. -/
namespace Go.Proofs.YtkidehngleglnaaGreatDoor.HPart
open Go.RowKit
open STurn SSum
theorem info9 : (Tryz.prog.info? 9).map (fun i => (i.zero, i.size, i.bytes)) = some (some (.string ⟨#[]⟩), 1, 16) := by kernel_rfl
/-- The cells of a row of texts. -/
def strCells (ls : List (List UInt8)) : List Value := ls.map fun l => Value.string ⟨l.toArray⟩
theorem strCells_at (ls : List (List UInt8)) (i : Nat) (h : i < ls.length) : (strCells ls)[i]? = some (.string ⟨(ls.getD i []).toArray⟩) := by
  simp [strCells, List.getD, h]
theorem strs_cells {w : World} {B n : Nat} {ad : Addr} {ls : List (List UInt8)} (h : Strs w B (some ad) n ls) : ∀ j u, (strCells ls)[j]? = some u → w.cell? (ad.add j) = some u := by
  intro j u hu
  have hj : j < ls.length := by
    have := (List.getElem?_eq_some_iff.1 hu).1
    simpa [strCells] using this
  rw [strCells_at ls j hj] at hu
  obtain ⟨b, o, e, _, hc⟩ := h.2 (by have := h.1; omega)
  obtain rfl := Option.some.inj e
  rw [add_off, hc j (by have := h.1; omega)]
  exact hu
theorem strCells_one (ls : List (List UInt8)) : ∀ u ∈ strCells ls, u.oneCell' = true := by
  intro u hu
  obtain ⟨l, _, rfl⟩ := List.mem_map.1 hu
  rfl
theorem strCells_length (ls : List (List UInt8)) : (strCells ls).length = ls.length := List.length_map _
/-- An own row of texts, read as texts. -/
theorem own_strs {w : World} {base n c : Nat} {a : Option Addr} {e : TypeId} {ls : List (List UInt8)} (h : w.ownsRow base e 1 (.slice a n c) n (strCells ls)) : Strs w w.heap.size a n ls := by
  have hl : ls.length = n := by have := h.1; simpa [strCells] using this
  refine ⟨hl, fun hn => ?_⟩
  rcases h.2 with ⟨_, h0⟩ | ⟨g, cap, cur, hv, _, hg, _⟩
  · omega
  · simp only [Value.slice.injEq] at hv
    obtain ⟨rfl, _, rfl⟩ := hv
    refine ⟨g, 0, rfl, (Array.getElem?_eq_some_iff.1 hg).1, fun i hi => ?_⟩
    have := h.cells rfl i _ (strCells_at ls i (by omega))
    rwa [add_off] at this
theorem own_first (x : List UInt8) (w : World) : (w.alloc (.cells #[.string ⟨x.toArray⟩] 9)).ownsRow w.heap.size 9 1 (.slice (some ⟨w.heap.size, 0, none⟩) 1 1) 1 (strCells [x]) :=
  ⟨rfl, .inr ⟨w.heap.size, 1, #[.string ⟨x.toArray⟩], rfl, Nat.le_refl _, heap_alloc_new w _, Nat.le_refl _, by unfold maxLen; omega, rfl, rfl⟩⟩
theorem own_len {w : World} {base n n' c : Nat} {a : Option Addr} {e : TypeId} {size : Nat} {xs : List Value} (h : w.ownsRow base e size (.slice a n' c) n xs) : n' = n := by
  rcases h.2 with ⟨e, h0⟩ | ⟨g, cap, cur, hv, _⟩
  · simp only [Value.slice.injEq] at e
    omega
  · simp only [Value.slice.injEq] at hv
    exact hv.2.1
set_option maxHeartbeats 1000000 in
theorem some_ (k : List UInt8) (ad : Addr) (n c : Nat) (ls : List (List UInt8)) (w : World) (h : Strs w w.heap.size (some ad) n ls) (hr : Rds w)
    (hk : k.length ≤ 576460752303423488) (hn : n ≤ 1000000) (hm : ls.flatten.length ≤ 576460752303423400) :
    Calls Tryz.prog 56 #[.string ⟨k.toArray⟩, .slice (some ad) n c] w fun e w' => e = .returned (.string ⟨(macOf k ls.flatten).toArray⟩) ∧ Below w.heap.size w w' := by
  have HT := Lib.hid (HTurn.turner k w hr hk)
  have HX := Lib.hid (fun c W hc => HInn.one k c W hc)
  have HY := Lib.hid (fun c W hc => HInn.two k c W hc)
  have hxl : (heldBy (keyBlock k) 54).length = 64 := by rw [heldBy_length, keyBlock_length]
  have hyl : (heldBy (keyBlock k) 92).length = 64 := by rw [heldBy_length, keyBlock_length]
  have hls := h.1
  have hfl : (heldBy (keyBlock k) 54 :: ls).flatten = innerOf k ls.flatten := by rw [List.flatten_cons]; rfl
  have hil := inner_length k ls.flatten
  have hzl := sum_length (innerOf k ls.flatten)
  have HS := Lib.hid (fun a c W h hr => sums a (1 + n) c (heldBy (keyBlock k) 54 :: ls) W h hr (by rw [hfl]; omega) (by omega))
  rw [hfl] at HS
  have HP : Hid (∀ W, Rds W → Calls Tryz.prog 72 #[.slice (some ⟨W.heap.size, 0, none⟩) 2 2] (W.alloc (.cells #[.string ⟨(heldBy (keyBlock k) 92).toArray⟩, .string ⟨(sum (innerOf k ls.flatten)).toArray⟩] 9)) fun e w' => e = .returned (.string ⟨(macOf k ls.flatten).toArray⟩) ∧ Below W.heap.size W w') :=
    Lib.hid (fun W hr => HInn.pair (heldBy (keyBlock k) 92) (sum (innerOf k ls.flatten)) W hr (by omega))
  clear hfl hil
  generalize sum (innerOf k ls.flatten) = z at *
  generalize macOf k ls.flatten = o at *
  generalize heldBy (keyBlock k) 54 = x at *
  generalize heldBy (keyBlock k) 92 = y at *
  obtain ⟨i0, hi, hz0, hz1, hz2⟩ := info_parts info9
  have HR := Lib.hid hr
  have HH := Lib.hid h
  clear hr h hk hm
  go_enter Tryz.func56, Tryz.ntmps56
  go_wp2_with fail
  refine HT.out.mono ?_
  rintro e w1 ⟨g, hwg, hgl, rfl, hc, hb1⟩
  have HC := Lib.hid hc
  have HB1 := Lib.hid hb1
  clear hc hb1
  go_wp2_with fail
  refine (HX.out g _ HC.out).mono ?_
  rintro e w2 ⟨rfl, hb2⟩
  have HC2 := Lib.hid ((hb2.cell (p := ⟨g, 0, none⟩) hgl).trans HC.out)
  have hgl2 : g < w2.heap.size := Nat.lt_of_lt_of_le hgl hb2.size
  have HB2 := Lib.hid (HB1.out.trans (hb2.mono HB1.out.size))
  clear hb2
  have HBA := Lib.hid (HB2.out.alloc HB2.out.size (.cells #[.string ⟨x.toArray⟩] 9))
  have hCA : (w2.alloc (.cells #[.string ⟨x.toArray⟩] 9)).cell? ⟨g, 0, none⟩ = some (.string ⟨(keyBlock k).toArray⟩) := ((Below.refl w2.heap.size w2).alloc (Nat.le_refl _) _).cell (p := ⟨g, 0, none⟩) hgl2 |>.trans HC2.out
  have HCA := Lib.hid hCA
  clear hCA HC2
  go_wp2_with
    (at_builtin
     refine wpList_append_own _ rfl (.tmp 11) (.tmp 12) 99 rfl w2.heap.size 9 i0 (.string ⟨#[]⟩) 1 16 Tryz.underlying99 hi hz0 hz1 hz2 rfl (by omega) _ 1 (strCells [x]) rfl (own_first x w2) ad n c (strCells ls) rfl (by rw [strCells_length, hls, Nat.mul_one]) (strs_cells (HH.out.below HBA.out)) (strCells_one ls) (by unfold maxLen; omega) (by omega) (by simp) ?_
     intro v' w3 hown3 hg3 hnil3
     obtain ⟨a', n', c', rfl⟩ := own_slice hown3
     obtain rfl := own_len hown3
     have HT3 : Hid (Strs w3 w3.heap.size a' (1 + n) (x :: ls)) := own_strs hown3
     have HG3 := Lib.hid hg3
     clear hown3 hg3 hnil3)
  have HC3 : Hid (w3.cell? ⟨g, 0, none⟩ = some (.string ⟨(keyBlock k).toArray⟩)) := HG3.out.cell HCA.out (by intro e; have e2 : g = w2.heap.size := Option.some.inj e; omega)
  have HB3 : Hid (Below w.heap.size w w3) := HBA.out.grown HG3.out HBA.out.size (fun j hj => by have e2 : w2.heap.size = j := Option.some.inj hj; have := HB2.out.size; omega)
  go_wp2_with fail
  refine (HY.out g _ HC3.out).mono ?_
  rintro e w4 ⟨rfl, hb4⟩
  have HB4 := Lib.hid (HB3.out.trans (hb4.mono HB3.out.size))
  have HT4 := Lib.hid ((HT3.out.below hb4).more hb4.size)
  clear hb4
  go_wp2_with fail
  refine (HS.out _ _ _ HT4.out (HR.out.step HB4.out)).mono ?_
  rintro e w5 ⟨rfl, hb5⟩
  have HB5 := Lib.hid (HB4.out.trans (hb5.mono HB4.out.size))
  clear hb5
  go_wp2_with fail
  refine (HP.out _ (HR.out.step HB5.out)).mono ?_
  rintro e w6 ⟨rfl, hb6⟩
  have HB6 := Lib.hid (HB5.out.trans (hb6.mono HB5.out.size))
  clear hb6
  go_wp2
  go_ret
  exact ⟨rfl, HB6.out⟩
set_option maxHeartbeats 1000000 in
theorem none_ (k : List UInt8) (w : World) (hr : Rds w)
    (hk : k.length ≤ 576460752303423488)  :
    Calls Tryz.prog 56 #[.string ⟨k.toArray⟩, .slice none 0 0] w fun e w' => e = .returned (.string ⟨(macOf k []).toArray⟩) ∧ Below w.heap.size w w' := by
  have HT := Lib.hid (HTurn.turner k w hr hk)
  have HX := Lib.hid (fun c W hc => HInn.one k c W hc)
  have HY := Lib.hid (fun c W hc => HInn.two k c W hc)
  have hxl : (heldBy (keyBlock k) 54).length = 64 := by rw [heldBy_length, keyBlock_length]
  have hyl : (heldBy (keyBlock k) 92).length = 64 := by rw [heldBy_length, keyBlock_length]
  have hfl : [heldBy (keyBlock k) 54].flatten = innerOf k [] := rfl
  have hil : (innerOf k []).length = 64 := inner_length k []
  have hzl := sum_length (innerOf k [])
  have HS := Lib.hid (fun a c W h hr => sums a 1 c [heldBy (keyBlock k) 54] W h hr (by rw [hfl]; omega) (by omega))
  rw [hfl] at HS
  have HP : Hid (∀ W, Rds W → Calls Tryz.prog 72 #[.slice (some ⟨W.heap.size, 0, none⟩) 2 2] (W.alloc (.cells #[.string ⟨(heldBy (keyBlock k) 92).toArray⟩, .string ⟨(sum (innerOf k [])).toArray⟩] 9)) fun e w' => e = .returned (.string ⟨(macOf k []).toArray⟩) ∧ Below W.heap.size W w') :=
    Lib.hid (fun W hr => HInn.pair (heldBy (keyBlock k) 92) (sum (innerOf k [])) W hr (by omega))
  clear hfl hil
  generalize sum (innerOf k []) = z at *
  generalize macOf k [] = o at *
  generalize heldBy (keyBlock k) 54 = x at *
  generalize heldBy (keyBlock k) 92 = y at *
  obtain ⟨i0, hi, hz0, hz1, hz2⟩ := info_parts info9
  have HR := Lib.hid hr
  clear hr hk
  go_enter Tryz.func56, Tryz.ntmps56
  go_wp2_with fail
  refine HT.out.mono ?_
  rintro e w1 ⟨g, hwg, hgl, rfl, hc, hb1⟩
  have HC := Lib.hid hc
  have HB1 := Lib.hid hb1
  clear hc hb1
  go_wp2_with fail
  refine (HX.out g _ HC.out).mono ?_
  rintro e w2 ⟨rfl, hb2⟩
  have HC2 := Lib.hid ((hb2.cell (p := ⟨g, 0, none⟩) hgl).trans HC.out)
  have hgl2 : g < w2.heap.size := Nat.lt_of_lt_of_le hgl hb2.size
  have HB2 := Lib.hid (HB1.out.trans (hb2.mono HB1.out.size))
  clear hb2
  have HBA := Lib.hid (HB2.out.alloc HB2.out.size (.cells #[.string ⟨x.toArray⟩] 9))
  have hCA : (w2.alloc (.cells #[.string ⟨x.toArray⟩] 9)).cell? ⟨g, 0, none⟩ = some (.string ⟨(keyBlock k).toArray⟩) := ((Below.refl w2.heap.size w2).alloc (Nat.le_refl _) _).cell (p := ⟨g, 0, none⟩) hgl2 |>.trans HC2.out
  have HCA := Lib.hid hCA
  clear hCA HC2
  have HT3 : Hid (Strs (w2.alloc (.cells #[.string ⟨x.toArray⟩] 9)) (w2.alloc (.cells #[.string ⟨x.toArray⟩] 9)).heap.size (some ⟨w2.heap.size, 0, none⟩) 1 [x]) := own_strs (own_first x w2)
  have HF := Lib.hid (own_first x w2)
  go_wp2_with
    (at_builtin
     refine wpList_append_own_none _ rfl (.tmp 11) (.tmp 12) 99 rfl w2.heap.size 9 i0 1 Tryz.underlying99 hi _ 1 (strCells [x]) rfl HF.out rfl ?_
     obtain ⟨w3, hw3⟩ : ∃ w3, w3 = w2.alloc (.cells #[.string ⟨x.toArray⟩] 9) := ⟨_, rfl⟩
     rw [← hw3] at HT3 HBA HCA ⊢
     clear hw3)
  have HB3 := HBA
  have HC3 := HCA
  go_wp2_with fail
  refine (HY.out g _ HC3.out).mono ?_
  rintro e w4 ⟨rfl, hb4⟩
  have HB4 := Lib.hid (HB3.out.trans (hb4.mono HB3.out.size))
  have HT4 := Lib.hid ((HT3.out.below hb4).more hb4.size)
  clear hb4
  go_wp2_with fail
  refine (HS.out _ _ _ HT4.out (HR.out.step HB4.out)).mono ?_
  rintro e w5 ⟨rfl, hb5⟩
  have HB5 := Lib.hid (HB4.out.trans (hb5.mono HB4.out.size))
  clear hb5
  go_wp2_with fail
  refine (HP.out _ (HR.out.step HB5.out)).mono ?_
  rintro e w6 ⟨rfl, hb6⟩
  have HB6 := Lib.hid (HB5.out.trans (hb6.mono HB5.out.size))
  clear hb6
  go_wp2
  go_ret
  exact ⟨rfl, HB6.out⟩
/-- THE CONTRACT of hmac's Parts, at a row of texts as it came in. -/
theorem Parts (k : List UInt8) (a : Option Addr) (n c : Nat) (ls : List (List UInt8)) (w : World) (h : Strs w w.heap.size a n ls) (ha : a = none → n = 0 ∧ c = 0) (hr : Rds w)
    (hk : k.length ≤ 576460752303423488) (hn : n ≤ 1000000) (hm : ls.flatten.length ≤ 576460752303423400) :
    Calls Tryz.prog 56 #[.string ⟨k.toArray⟩, .slice a n c] w fun e w' => e = .returned (.string ⟨(macOf k ls.flatten).toArray⟩) ∧ Below w.heap.size w w' := by
  cases a with
  | none =>
    obtain ⟨rfl, rfl⟩ := ha rfl
    obtain rfl : ls = [] := List.eq_nil_of_length_eq_zero h.1
    exact none_ k w hr hk
  | some ad => exact some_ k ad n c ls w h hr hk hn hm
/-- THE CONTRACT of hmac's Mac. -/
theorem Mac (k m : List UInt8) (w : World) (hr : Rds w) (hk : k.length ≤ 576460752303423488) (hm : m.length ≤ 576460752303423400) :
    Calls Tryz.prog 36 #[.string ⟨k.toArray⟩, .string ⟨m.toArray⟩] w fun e w' => e = .returned (.string ⟨(macOf k m).toArray⟩) ∧ Below w.heap.size w w' := by
  have HP : Hid (Calls Tryz.prog 56 #[.string ⟨k.toArray⟩, .slice (some ⟨w.heap.size, 0, none⟩) 1 1] (w.alloc (.cells #[.string ⟨m.toArray⟩] 9)) fun e w' => e = .returned (.string ⟨(macOf k m).toArray⟩) ∧ Below w.heap.size w w') := by
    have h := Parts k (some ⟨w.heap.size, 0, none⟩) 1 1 [m] (w.alloc (.cells #[.string ⟨m.toArray⟩] 9)) (own_strs (own_first m w)) (fun e => by cases e) (hr.step ((Below.refl _ _).alloc (Nat.le_refl _) _)) hk (by omega) (by simpa using hm)
    rw [show ([m] : List (List UInt8)).flatten = m from by simp] at h
    exact h.mono fun e w' ⟨h1, h2⟩ => ⟨h1, ((Below.refl w.heap.size w).alloc (Nat.le_refl _) _).trans (h2.mono (by simp))⟩
  clear hr hk hm
  generalize macOf k m = z at *
  go_enter Tryz.func36, Tryz.ntmps36
  go_wp2_with fail
  refine HP.out.mono ?_
  rintro e w1 ⟨rfl, hb1⟩
  have HB1 := Lib.hid hb1
  clear hb1
  go_wp2
  go_ret
  exact ⟨rfl, HB1.out⟩
end Go.Proofs.YtkidehngleglnaaGreatDoor.HPart
