/- What a cipher's Encrypt, and aes's Encrypt, Decrypt and Expand answer: the walks of their texts. -/
import Derived.Test.YtjlepjnfacmieaaANew
namespace Go.Proofs.Ytjlepjnfacmieaa.AEnc
open Go.RowKit
open AesM ADbl ATab AFill AOps AMix AForth ASub ACopy AExp ANew
theorem of_nil (s : ByteArray) (w : World) : Calls Try.prog 22 #[.pointer none, .string s] w fun e w' => e = .returned (.tuple #[.string ⟨#[]⟩, .int .i64 1]) ∧ w = w' := by
  go_enter Try.func22, Try.ntmps22
  go_wp2
  go_ret2
  exact ⟨rfl, rfl⟩
theorem of_un (b : Nat) (s : ByteArray) (w : World) (h : w.cell? ⟨b, 0, none⟩ = some (.bool false)) : Calls Try.prog 22 #[.pointer (some ⟨b, 0, none⟩), .string s] w fun e w' => e = .returned (.tuple #[.string ⟨#[]⟩, .int .i64 1]) ∧ w = w' := by
  go_enter Try.func22, Try.ntmps22
  go_wp2
  go_ret2
  exact ⟨rfl, rfl⟩
theorem of_len (b : Nat) (s : ByteArray) (w : World) (h : w.cell? ⟨b, 0, none⟩ = some (.bool true)) (hs : ((s.size : Int) != 16) = true) : Calls Try.prog 22 #[.pointer (some ⟨b, 0, none⟩), .string s] w fun e w' => e = .returned (.tuple #[.string ⟨#[]⟩, .int .i64 2]) ∧ w = w' := by
  go_enter Try.func22, Try.ntmps22
  go_wp2
  go_ret2
  exact ⟨rfl, rfl⟩
theorem arr16 : Try.prog.arrayLen 76 = 16 := by kernel_rfl
theorem und16 : Try.prog.underlying 76 = some (.array (Try.prog.arrayLen 76) (Try.prog.elem 76)) := by kernel_rfl
theorem size16 (W : World) : (sizeOf (Try.prog.elem 76)).run Try.prog W = .ok 1 W := by kernel_rfl
theorem sliceState (g o : Nat) (W : World) : (Instr.sliceAt 76 (.pointer (some ⟨g, o, none⟩)) none none none).run Try.prog W = .ok (.slice (some ⟨g, o, none⟩) 16 16) W := by
  rw [run_sliceAt_array_all W _ _ und16, size16, arr16]
  have ha : (⟨g, o, none⟩ : Addr).add 0 = ⟨g, o, none⟩ := by unfold Addr.add; split <;> simp_all
  simp [slicedAt, ha]
theorem conv_state {W : World} {g : Nat} {l : List UInt8} {ty : TypeId} {f : Nat × Nat} (h : W.heap[g]? = some (.cells (bytesRow l) ty f)) (hl : l.length = 16) :
    (convert 42 9 (.slice (some ⟨g, 0, none⟩) 16 16)).run Try.prog W = .ok (.string ⟨l.toArray⟩) W :=
  conv_row (m := []) Try.underlying42 Try.underlying5 Try.underlying9 (by rw [List.append_nil]; exact h) hl
theorem range_of {W : World} {g : Nat} {l : List UInt8} (h : ∀ i, i < l.length → W.cell? ⟨g, i, none⟩ = some (.int .u8 (l.getD i 0).toNat)) : W.rangeAt g 0 (bytesRow l).toList := by
  intro i v hv
  have hi : i < (bytesRow l).toList.length := (List.getElem?_eq_some_iff.1 hv).1
  rw [Array.length_toList, bytesRow_size] at hi
  have hv2 : (bytesRow l)[i]? = some v := by simpa using hv
  rw [byte_at l i hi] at hv2
  rw [Nat.zero_add, ← hv2]
  exact h i hi
theorem row_list (l : List UInt8) : (bytesRow l).toList.toArray = bytesRow l := Array.toArray_toList
set_option maxRecDepth 100000 in
theorem enc_ok (b : Nat) (k s : List UInt8) (w : World) (hc : Cip w b k) (hk : k.length = 16) (hs : s.length = 16) :
    Calls Try.prog 22 #[.pointer (some ⟨b, 0, none⟩), .string ⟨s.toArray⟩] w fun e w' => e = .returned (.tuple #[.string ⟨(encL k s).toArray⟩, .int .i64 0]) ∧ Below w.heap.size w w' := by
  have hmd := hc.made
  have HC := Lib.hid hc
  have HF := Lib.hid (fun (W : World) (h : Cip W b k) => AFo.forth b s (expL boxL k) boxL W hs (h.words hk) h.tab)
  rw [show forthL (expL boxL k) boxL s = encL k s from rfl] at HF
  clear hc hk
  have HL := Lib.hid hs
  have hgt : ((s.length : Int) != 16) = false := by rw [hs]; rfl
  have HOut := Lib.hid (fun (W : World) (g : Nat) (ty : TypeId) (h : W.heap[g]? = some (.cells (bytesRow (encL k s)) ty (0, 0))) => conv_state h (encL_length k s))
  have HK := Lib.hid (rowOk (encL k s) (encL_length k s))
  obtain ⟨r2, hr2⟩ : ∃ r, r = bytesRow (encL k s) := ⟨_, rfl⟩
  rw [← hr2] at HOut HK HF
  clear hs hr2
  generalize encL k s = out at *
  go_enter Try.func22, Try.ntmps22
  go_upto_region 5 with (fail)
  obtain ⟨W0, hW0⟩ : ∃ W0, W0 = w := ⟨_, rfl⟩
  have HBL : Hid (Below w.heap.size w W0) := by show Below _ _ _; rw [hW0]; exact Below.refl _ _
  have HC0 : Hid (Cip W0 b k) := by show Cip _ _ _; rw [hW0]; exact HC.out
  have HW0 := Lib.hid hW0
  rw [← hW0]
  clear hW0 hmd
  obtain ⟨cap, wc, hcv, hcc, hcb, hcs⟩ := conv_new (P := Try.prog) W0 (src := 9) (dst := 42) s Try.underlying9 Try.underlying42 Try.underlying5
  rw [HL.out] at hcv
  have HRg := Lib.hid (range_of hcc)
  have HI16 := Lib.hid (show (Try.prog.info? 76).map (·.size) = some (bytesRow s).toList.length by rw [Array.length_toList, bytesRow_size, HL.out]; exact info16)
  have HBc := Lib.hid hcb
  have HRL := Lib.hid (row_list s)
  have lp := fun (W : World) => run_arrayAt (P := Try.prog) (w := W) 76 5 16 (some ⟨W0.heap.size, 0, none⟩) 16 cap Try.underlying76 (Nat.le_refl _)
  have HF2 := Lib.hid (fun h => HF.out wc h)
  rw [← HRL.out] at HF2
  generalize (bytesRow s).toList = rl at *
  clear hcc hcb hcs
  go_upto_region 6 with (first
    | (refine wpList_load_mid rfl 76 _ rfl W0.heap.size 0 rfl rl _ HRg.out Try.underlying76 rfl HI16.out ?_)
    | (go_at_call 35; refine (HF2.out (HC0.out.step HBc.out)).mono ?_; rintro e w3 ⟨rfl, hb3⟩; have HB3 := Lib.hid hb3; clear hb3)
    | (refine wpList_store_row rfl 76 _ _ rfl w3.heap.size _ rfl rfl 76 _ (heap_alloc_new w3 _) HK.out.1 HK.out.2.1.symm HK.out.2.2 ?_))
  generalize hW : World.setRow (World.alloc w3 _) _ _ = W4
  have h4 : W4.heap[w3.heap.size]? = some (.cells r2 76 (0, 0)) := by rw [← hW]; exact setRow_same (heap_alloc_new w3 _)
  have hcv4 := HOut.out W4 w3.heap.size _ h4
  have hsl := sliceState w3.heap.size 0
  have HBF : Hid (Below w.heap.size w W4) := by
    show Below _ _ _
    rw [← hW]
    have h1 := HBL.out.trans (HBc.out.mono HBL.out.size)
    have h2 := h1.trans (HB3.out.mono h1.size)
    exact below_setRow (h2.alloc h2.size _) h2.size _
  clear hW h4
  go_wp2
  go_ret2
  exact ⟨rfl, HBF.out⟩
/-- What aes's Encrypt and Decrypt answer, of any two texts. -/
def enc (k s : List UInt8) : List UInt8 × Int := if k.length = 16 ∧ s.length = 16 then (encL k s, 0) else ([], 2)
def dec (k s : List UInt8) : List UInt8 × Int := if k.length = 16 ∧ s.length = 16 then (decL k s, 0) else ([], 2)
theorem bne_of {l : List UInt8} (h : ¬ l.length = 16) : (((⟨l.toArray⟩ : ByteArray).size : Int) != 16) = true := by
  rw [bne_iff_ne]; show ((l.length : Nat) : Int) ≠ 16; omega
theorem CEnc (b : Nat) (k s : List UInt8) (w : World) (hc : Cip w b k) (hk : k.length = 16) : Calls Try.prog 22 #[.pointer (some ⟨b, 0, none⟩), .string ⟨s.toArray⟩] w fun e w' => e = .returned (.tuple #[.string ⟨(enc k s).1.toArray⟩, .int .i64 (enc k s).2]) ∧ Below w.heap.size w w' := by
  by_cases h2 : s.length = 16
  · rw [enc, if_pos ⟨hk, h2⟩]
    exact enc_ok b k s w hc hk h2
  · rw [enc, if_neg (fun h => h2 h.2)]
    exact (of_len b _ w hc.made (bne_of h2)).mono fun _ _ ⟨h1, h2⟩ => ⟨h1, h2 ▸ Below.refl _ _⟩
theorem enc_key (k s : ByteArray) (w : World) (h : ((k.size : Int) != 16) = true) : Calls Try.prog 14 #[.string k, .string s] w fun e w' => e = .returned (.tuple #[.string ⟨#[]⟩, .int .i64 2]) ∧ w = w' := by
  have HN := Lib.hid (fun W => short k W h)
  go_enter Try.func14, Try.ntmps14
  go_wp2_with (go_at_call 21; refine (HN.out _).mono ?_; rintro e w1 ⟨rfl, rfl⟩)
  go_ret2
  exact ⟨rfl, rfl⟩
theorem enc_some (k s : List UInt8) (w : World) (hk : k.length = 16) : Calls Try.prog 14 #[.string ⟨k.toArray⟩, .string ⟨s.toArray⟩] w fun e w' => e = .returned (.tuple #[.string ⟨(enc k s).1.toArray⟩, .int .i64 (enc k s).2]) ∧ Below w.heap.size w w' := by
  have HN := Lib.hid (fun W => New k W hk)
  have HE := Lib.hid (fun b W h => CEnc b k s W h hk)
  generalize enc k s = r at *
  obtain ⟨r1, r2⟩ := r
  clear hk
  go_enter Try.func14, Try.ntmps14
  go_wp2_with (first
    | (go_at_call 21; refine (HN.out _).mono ?_; rintro e w1 ⟨b, rfl, hc, _, hb1⟩; have HC := Lib.hid hc; have HB1 := Lib.hid hb1; clear hc hb1)
    | (go_at_call 22; refine (HE.out b _ HC.out).mono ?_; rintro e w2 ⟨rfl, hb2⟩; have HB2 := Lib.hid (HB1.out.trans (hb2.mono HB1.out.size)); clear hb2))
  go_ret2
  exact ⟨rfl, HB2.out⟩
theorem Enc (k s : List UInt8) (w : World) : Calls Try.prog 14 #[.string ⟨k.toArray⟩, .string ⟨s.toArray⟩] w fun e w' => e = .returned (.tuple #[.string ⟨(enc k s).1.toArray⟩, .int .i64 (enc k s).2]) ∧ Below w.heap.size w w' := by
  by_cases h1 : k.length = 16
  · exact enc_some k s w h1
  · rw [enc, if_neg (fun h => h1 h.1)]
    exact (enc_key _ _ w (bne_of h1)).mono fun _ _ ⟨h1, h2⟩ => ⟨h1, h2 ▸ Below.refl _ _⟩
theorem conv_words {W : World} {g : Nat} {ks : List UInt8} (h : Cip W g ks) (hl : ks.length = 16) :
    (convert 42 9 (.slice (some ⟨g, 257, none⟩) 176 176)).run Try.prog W = .ok (.string ⟨(expL boxL ks).toArray⟩) W := by
  have hw := h.words hl
  have hel := expL_length boxL ks hl
  generalize expL boxL ks = l at *
  rw [← nums_bytes]
  refine run_convert_bytes_arg W 42 5 Try.underlying42 Try.underlying5 g 257 176 176 (l.map fun b => (b.toNat : Int)) (by simpa using hel) (fun i hi => ?_) 9 Try.underlying9
  have hi' : i < l.length := by omega
  rw [hw i (by omega)]
  simp [List.getD, hi']
end Go.Proofs.Ytjlepjnfacmieaa.AEnc
