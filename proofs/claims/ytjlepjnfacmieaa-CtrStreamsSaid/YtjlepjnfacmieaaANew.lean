/- aes's Cipher in memory; what New answers: the walk of its text. -/
import Derived.Test.YtjlepjnfacmieaaAExp
import Derived.Test.YtjlepjnfacmieaaAFo
import Derived.Test.YtjlepjnfacmieaaABack
namespace Go.Proofs.Ytjlepjnfacmieaa.ANew
open Go.RowKit
open AesM ADbl ATab AFill AOps AMix AForth ASub ACopy AExp
/-- The cells of a cipher: that it was made, its stand-ins, its words. -/
def cCells (t ws : List UInt8) : List Value := .bool true :: ((bytesRow t).toList ++ (bytesRow ws).toList)
/-- Block 'b' holds the cipher of the key 'k'. -/
def Cip (w : World) (b : Nat) (k : List UInt8) : Prop := w.heap[b]? = some (.cells (cCells boxL (expL boxL k)).toArray 72 (0, 0))
theorem short (k : ByteArray) (w : World) (h : ((k.size : Int) != 16) = true) :
    Calls Try.prog 21 #[.string k] w fun e w' => e = .returned (.tuple #[.pointer none, .int .i64 2]) ∧ w = w' := by
  go_enter Try.func21, Try.ntmps21
  go_wp2
  go_ret2
  exact ⟨rfl, rfl⟩
theorem wpList_build_at {P : Program} {ops : Array Oper} {rest : List Oper} {o : Oper} {a : Act} {w : World} {Q : Exit → Act → World → Prop} (hg : o.guard = none) (t : TypeId) (parts : Array (Nat × Operand)) (ho : o.op = .build t parts) (cells : Array Value)
    (hc : P.built t (parts.map fun (i, x) => (i, a.eval x)).toList = some cells) (h : wpList P ops Q rest (a.put o.dst (.agg cells)) w) : wpList P ops Q (o :: rest) a w :=
  wpList_build hg t parts ho (by rw [hc]; rfl) (by rw [hc]; exact h)
def zw : List UInt8 := List.replicate 176 0
theorem builtC : Try.prog.built 72 [(0, .bool true), (1, .agg (bytesRow boxL))] = some (cCells boxL zw).toArray := by kernel_rfl
theorem cCells_tab (t ws : List UInt8) (ht : t.length = 256) (i : Nat) (hi : i < 256) : (cCells t ws)[1 + i]? = some (.int .u8 (t.getD i 0).toNat) := by
  have h1 : (bytesRow t).toList[i]? = some (.int .u8 (t.getD i 0).toNat) := by have := byte_at t i (by omega); simpa using this
  have h2 : i < (bytesRow t).toList.length := (List.getElem?_eq_some_iff.1 h1).1
  rw [cCells, Nat.add_comm, List.getElem?_cons_succ, List.getElem?_append_left h2, h1]
theorem cCells_words (t ws : List UInt8) (ht : t.length = 256) (hw : ws.length = 176) (i : Nat) (hi : i < 176) : (cCells t ws)[257 + i]? = some (.int .u8 (ws.getD i 0).toNat) := by
  have h1 : (bytesRow ws).toList[i]? = some (.int .u8 (ws.getD i 0).toNat) := by have := byte_at ws i (by omega); simpa using this
  have h2 : (bytesRow t).toList.length = 256 := by rw [Array.length_toList, bytesRow_size, ht]
  rw [cCells, show 257 + i = (256 + i) + 1 from by omega, List.getElem?_cons_succ, List.getElem?_append_right (by omega), h2, show 256 + i - 256 = i from by omega, h1]
theorem cCells_length (t ws : List UInt8) (ht : t.length = 256) (hw : ws.length = 176) : (cCells t ws).length = 433 := by
  rw [cCells, List.length_cons, List.length_append, Array.length_toList, Array.length_toList, bytesRow_size, bytesRow_size, ht, hw]
theorem cCells_set (t ws vs : List UInt8) (ht : t.length = 256) (hw : ws.length = 176) (hv : vs.length = 176) : (cCells t ws).take 257 ++ (bytesRow vs).toList ++ (cCells t ws).drop (257 + (bytesRow vs).toList.length) = cCells t vs := by
  have h2 : (bytesRow t).toList.length = 256 := by rw [Array.length_toList, bytesRow_size, ht]
  have h3 : (bytesRow vs).toList.length = 176 := by rw [Array.length_toList, bytesRow_size, hv]
  rw [List.drop_of_length_le (by rw [cCells_length t ws ht hw, h3]; omega), List.append_nil, cCells, cCells, List.take_succ_cons, List.take_append_of_le_length (by omega), List.take_of_length_le (by omega)]
  rfl
theorem Cip.made {w : World} {b : Nat} {k : List UInt8} (h : Cip w b k) : w.cell? ⟨b, 0, none⟩ = some (.bool true) := blk_cell h (by simp [cCells])
theorem Cip.tab {w : World} {b : Nat} {k : List UInt8} (h : Cip w b k) : TabAt w b 1 boxL := fun i hi => blk_cell h (by simpa using cCells_tab boxL (expL boxL k) boxL_len i hi)
theorem Cip.words {w : World} {b : Nat} {k : List UInt8} (h : Cip w b k) (hl : k.length = 16) : WordsAt w b (expL boxL k) := fun i hi => blk_cell h (by simpa using cCells_words boxL (expL boxL k) boxL_len (expL_length _ _ hl) i hi)
theorem Cip.lt {w : World} {b : Nat} {k : List UInt8} (h : Cip w b k) : b < w.heap.size := World_lt h
theorem Cip.step {w w' : World} {b : Nat} {k : List UInt8} (h : Cip w b k) (hb : Below w.heap.size w w') : Cip w' b k := (hb.block b h.lt).trans h
set_option maxRecDepth 100000 in
theorem New (k : List UInt8) (w : World) (hl : k.length = 16) :
    Calls Try.prog 21 #[.string ⟨k.toArray⟩] w fun e w' => ∃ b, e = .returned (.tuple #[.pointer (some ⟨b, 0, none⟩), .int .i64 0]) ∧ Cip w' b k ∧ w.heap.size ≤ b ∧ Below w.heap.size w w' := by
  have h1 : ((k.length : Int) != 16) = false := by rw [hl]; rfl
  have HS := Lib.hid standIns
  have HE := Lib.hid (fun (g : Nat) (W : World) (h : TabAt W g 1 boxL) => expanded k g 1 boxL W hl h)
  have HBu := Lib.hid builtC
  have HTab : Hid (∀ (W : World) (b : Nat), W.heap[b]? = some (.cells (cCells boxL zw).toArray 72 (0, 0)) → TabAt W b 1 boxL) := fun W b h i hi => blk_cell h (by simpa using cCells_tab boxL zw boxL_len i hi)
  have HLen := Lib.hid (cCells_length boxL zw boxL_len (by rw [zw, List.length_replicate]))
  have HFin : Hid (∀ (W : World) (b : Nat), W.heap[b]? = some (.cells (cCells boxL zw).toArray 72 (0, 0)) → Cip (W.setCells b 257 (bytesRow (expL boxL k)).toList) b k) := by
    intro W b h
    have h2 := setCells_blk (bytesRow (expL boxL k)).toList 257 (cCells boxL zw) W h (by rw [HLen.out, Array.length_toList, bytesRow_size, expL_length _ _ hl]; omega)
    rw [cCells_set boxL zw _ boxL_len (by rw [zw, List.length_replicate]) (expL_length _ _ hl)] at h2
    exact h2
  have hes : (bytesRow (expL boxL k)).size = 176 := by rw [bytesRow_size, expL_length _ _ hl]
  have HEO := Lib.hid (bytes_one (expL boxL k))
  have HI := Lib.hid (show (Try.prog.info? 70).map (·.size) = some (bytesRow (expL boxL k)).size by rw [hes]; exact info176)
  have HES := Lib.hid hes
  clear hes hl
  generalize bytesRow (expL boxL k) = es at *
  generalize cCells boxL zw = cs at *
  generalize bytesRow boxL = rs at *
  go_enter Try.func21, Try.ntmps21
  go_upto_region 4 with (first
    | (go_at_call 33; refine (HS.out _).mono ?_; rintro e w1 ⟨rfl, hb1⟩; have HB1 := Lib.hid hb1; clear hb1)
    | (refine wpList_build_at rfl 72 _ rfl cs.toArray ?_ ?_; · simpa [Act.eval] using HBu.out))
  generalize hW : World.alloc w1 _ = W2
  have HC : Hid (W2.heap[w1.heap.size]? = some (.cells cs.toArray 72 (0, 0))) := by show _ = _; rw [← hW]; exact heap_alloc_new w1 _
  have HBL : Hid (Below w.heap.size w W2) := by show Below _ _ _; rw [← hW]; exact HB1.out.alloc HB1.out.size _
  have HG := Lib.hid HB1.out.size
  generalize w1.heap.size = b at *
  clear hW HB1
  go_wp2_with (first
    | (go_at_call 34; refine (HE.out b _ (HTab.out _ _ HC.out)).mono ?_; rintro e w3 ⟨rfl, hb3⟩; have HB3 := Lib.hid hb3; clear hb3)
    | (refine wpList_store_mid rfl 70 _ _ rfl b 257 es rfl rfl (there_of ((HB3.out.block _ (World_lt HC.out)).trans HC.out) (by rw [HLen.out, HES.out]; omega)) HI.out HEO.out ?_))
  go_ret2
  have h3 := (HB3.out.block _ (World_lt HC.out)).trans HC.out
  exact ⟨b, rfl, HFin.out _ _ h3, HG.out, below_setCells HG.out _ _ _ (HBL.out.trans (HB3.out.mono HBL.out.size))⟩
end Go.Proofs.Ytjlepjnfacmieaa.ANew
