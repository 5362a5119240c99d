/- The walks of the statement of sound receipts. The condition: the rounds' numbers lie in the program's variable. -/
import Derived.Test.YtkidehngleglnaaDoorLRcp
import Derived.Test.YtkidehngleglnaaDoorRcpK
import Derived.Test.YtkidehngleglnaaDoorRcpD
import Derived.Test.YtkidehngleglnaaDoorChnE
import Derived.Test.YtkidehngleglnaaDoorLChs
import Derived.Deep.RegionHeld3
namespace Go.Proofs.YtkidehngleglnaaDoor.RcpZ
set_option linter.unusedVariables false
open Go.RowKit
open RecN RecC STurn EvoN ChnN ChnM ChnC ChnD ChnA ChnE ChnG ChnT ChnK RcpN RcpC RcpQ RcpD
set_option maxRecDepth 100000 in
set_option maxHeartbeats 8000000 in
theorem short (root : List UInt8) (f : Int) (a : Option Addr) (n c : Nat) (s : List Sd) (x : Rcp) (w : World) (hf : f ≤ 9223372036854775807) (hs : Came w a n c s) (hr : Rds w) (h : fewB s = false ∨ (fewB s = true ∧ fewR x = false) ∨ (fewB s = true ∧ fewR x = true ∧ ¬ checkC root f x = 0) ∨ (fewB s = true ∧ fewR x = true ∧ checkC root f x = 0 ∧ 40 < x.r.ep - f)) :
    Calls Tryd.prog 4 #[.string ⟨root.toArray⟩, .int .i64 f, .slice a n c, .agg #[.int .i64 x.q, .int .i64 x.r.k, .int .i64 x.r.ep, .int .i64 x.r.tm, .int .i64 x.r.ct, .int .i64 x.r.tg, .int .i64 x.r.un, .string ⟨x.r.rt.toArray⟩, .string ⟨x.r.nm.toArray⟩, .string ⟨x.was.toArray⟩, .string ⟨x.tag.toArray⟩]] w fun e w' => e = .returned (.bool true) ∧ Below w.heap.size w w' := by
  obtain ⟨W1, hW1⟩ : ∃ W1, W1 = w.alloc (.cells #[.int .i64 x.q, .int .i64 x.r.k, .int .i64 x.r.ep, .int .i64 x.r.tm, .int .i64 x.r.ct, .int .i64 x.r.tg, .int .i64 x.r.un, .string ⟨x.r.rt.toArray⟩, .string ⟨x.r.nm.toArray⟩, .string ⟨x.was.toArray⟩, .string ⟨x.tag.toArray⟩] 33) := ⟨_, rfl⟩
  have SS : Hid (Rs w x W1) := Lib.hid (by rw [hW1]; exact rs_new w x)
  obtain ⟨k0, k1, k2, k3, k4, k5, k6, k7, k8, k9, k10⟩ := SS.out.k.cells
  have HFew := Lib.hid (fun W (hb : Below w.heap.size w W) => ChnE.Few a n c s W (hs.2.2.2.2.step hb) hs.1 hs.2.1 hs.2.2.2.1)
  have HFx := Lib.hid (fun W => RcpD.Few x W)
  have HK := Lib.hid (fun W (hb : Below w.heap.size w W) => RcpK.Check root f x W (hr.step hb) hf)
  generalize hck : checkC root f x = ck at *
  rcases h with h1 | ⟨h1, h2⟩ | ⟨h1, h2, h3⟩ | ⟨h1, h2, h3, h4⟩
  · rw [h1] at HFew
    clear hs hr hf h1 HFx HK hck
    go_enter Tryd.func4, Tryd.ntmps4
    go_upto_region 1 with (fail)
    rw [← hW1]
    clear hW1
    go_wp2_with (first
      | (go_at_call 5; refine (HFew.out _ SS.out.bel).mono ?_; rintro e w2 ⟨rfl, hb⟩; replace SS := Lib.hid (SS.out.step hb); clear hb HFew k0 k1 k2 k3 k4 k5 k6 k7 k8 k9 k10; obtain ⟨k0, k1, k2, k3, k4, k5, k6, k7, k8, k9, k10⟩ := SS.out.k.cells)
      | (go_at_call 6; refine (RcpF.alive _).mono ?_; rintro e wA ⟨rfl, hb⟩; replace SS := Lib.hid (SS.out.step hb); clear hb k0 k1 k2 k3 k4 k5 k6 k7 k8 k9 k10))
    go_ret
    exact ⟨rfl, SS.out.bel⟩
  · rw [h1] at HFew
    rw [h2] at HFx
    clear hs hr hf h1 h2 HK hck
    go_enter Tryd.func4, Tryd.ntmps4
    go_upto_region 1 with (fail)
    rw [← hW1]
    clear hW1
    go_wp2_with (first
      | (go_at_call 5; refine (HFew.out _ SS.out.bel).mono ?_; rintro e w2 ⟨rfl, hb⟩; replace SS := Lib.hid (SS.out.step hb); clear hb HFew k0 k1 k2 k3 k4 k5 k6 k7 k8 k9 k10; obtain ⟨k0, k1, k2, k3, k4, k5, k6, k7, k8, k9, k10⟩ := SS.out.k.cells)
      | (go_at_call 11; refine (HFx.out _).mono ?_; rintro e w3 ⟨rfl, hb⟩; replace SS := Lib.hid (SS.out.step hb); clear hb HFx k0 k1 k2 k3 k4 k5 k6 k7 k8 k9 k10; obtain ⟨k0, k1, k2, k3, k4, k5, k6, k7, k8, k9, k10⟩ := SS.out.k.cells)
      | (go_at_call 6; refine (RcpF.alive _).mono ?_; rintro e wA ⟨rfl, hb⟩; replace SS := Lib.hid (SS.out.step hb); clear hb k0 k1 k2 k3 k4 k5 k6 k7 k8 k9 k10))
    go_ret
    exact ⟨rfl, SS.out.bel⟩
  · rw [h1] at HFew
    rw [h2] at HFx
    have hz : (ck != 0) = true := by simpa using h3
    clear hs hr hf h1 h2 h3 hck
    go_enter Tryd.func4, Tryd.ntmps4
    go_upto_region 1 with (fail)
    rw [← hW1]
    clear hW1
    go_wp2_with (first
      | (go_at_call 5; refine (HFew.out _ SS.out.bel).mono ?_; rintro e w2 ⟨rfl, hb⟩; replace SS := Lib.hid (SS.out.step hb); clear hb HFew k0 k1 k2 k3 k4 k5 k6 k7 k8 k9 k10; obtain ⟨k0, k1, k2, k3, k4, k5, k6, k7, k8, k9, k10⟩ := SS.out.k.cells)
      | (go_at_call 11; refine (HFx.out _).mono ?_; rintro e w3 ⟨rfl, hb⟩; replace SS := Lib.hid (SS.out.step hb); clear hb HFx k0 k1 k2 k3 k4 k5 k6 k7 k8 k9 k10; obtain ⟨k0, k1, k2, k3, k4, k5, k6, k7, k8, k9, k10⟩ := SS.out.k.cells)
      | (go_at_call 9; refine (HK.out _ SS.out.bel).mono ?_; rintro e w4 ⟨rfl, hb⟩; replace SS := Lib.hid (SS.out.step hb); clear hb HK k0 k1 k2 k3 k4 k5 k6 k7 k8 k9 k10; obtain ⟨k0, k1, k2, k3, k4, k5, k6, k7, k8, k9, k10⟩ := SS.out.k.cells)
      | (go_at_call 6; refine (RcpF.alive _).mono ?_; rintro e wA ⟨rfl, hb⟩; replace SS := Lib.hid (SS.out.step hb); clear hb k0 k1 k2 k3 k4 k5 k6 k7 k8 k9 k10))
    go_ret
    exact ⟨rfl, SS.out.bel⟩
  · rw [h1] at HFew
    rw [h2] at HFx
    subst h3
    obtain ⟨_, hf0, hk, _, hle, h46, _⟩ := RcpN.check_zero hck
    have hep := (bounds hk.1).2.1
    clear hs hr hf h1 h2 hck hk
    go_enter Tryd.func4, Tryd.ntmps4
    go_upto_region 1 with (fail)
    rw [← hW1]
    clear hW1
    go_wp2_with (first
      | (go_at_call 5; refine (HFew.out _ SS.out.bel).mono ?_; rintro e w2 ⟨rfl, hb⟩; replace SS := Lib.hid (SS.out.step hb); clear hb HFew k0 k1 k2 k3 k4 k5 k6 k7 k8 k9 k10; obtain ⟨k0, k1, k2, k3, k4, k5, k6, k7, k8, k9, k10⟩ := SS.out.k.cells)
      | (go_at_call 11; refine (HFx.out _).mono ?_; rintro e w3 ⟨rfl, hb⟩; replace SS := Lib.hid (SS.out.step hb); clear hb HFx k0 k1 k2 k3 k4 k5 k6 k7 k8 k9 k10; obtain ⟨k0, k1, k2, k3, k4, k5, k6, k7, k8, k9, k10⟩ := SS.out.k.cells)
      | (go_at_call 9; refine (HK.out _ SS.out.bel).mono ?_; rintro e w4 ⟨rfl, hb⟩; replace SS := Lib.hid (SS.out.step hb); clear hb HK k0 k1 k2 k3 k4 k5 k6 k7 k8 k9 k10; obtain ⟨k0, k1, k2, k3, k4, k5, k6, k7, k8, k9, k10⟩ := SS.out.k.cells)
      | (go_at_call 6; refine (RcpF.alive _).mono ?_; rintro e wA ⟨rfl, hb⟩; replace SS := Lib.hid (SS.out.step hb); clear hb k0 k1 k2 k3 k4 k5 k6 k7 k8 k9 k10))
    go_ret
    exact ⟨rfl, SS.out.bel⟩
set_option maxRecDepth 100000 in
set_option maxHeartbeats 8000000 in
theorem wrong (root : List UInt8) (f : Int) (a : Option Addr) (n c : Nat) (s : List Sd) (x : Rcp) (w : World) (hf : f ≤ 9223372036854775807) (hs : Came w a n c s) (hr : Rds w) (h1 : fewB s = true) (h2 : fewR x = true) (h3 : checkC root f x = 0) (h4 : ¬ 40 < x.r.ep - f) (h5 : ¬ (checkR root f s).2.2 = 0) :
    Calls Tryd.prog 4 #[.string ⟨root.toArray⟩, .int .i64 f, .slice a n c, .agg #[.int .i64 x.q, .int .i64 x.r.k, .int .i64 x.r.ep, .int .i64 x.r.tm, .int .i64 x.r.ct, .int .i64 x.r.tg, .int .i64 x.r.un, .string ⟨x.r.rt.toArray⟩, .string ⟨x.r.nm.toArray⟩, .string ⟨x.was.toArray⟩, .string ⟨x.tag.toArray⟩]] w fun e w' => e = .returned (.bool true) ∧ Below w.heap.size w w' := by
  obtain ⟨W1, hW1⟩ : ∃ W1, W1 = w.alloc (.cells #[.int .i64 x.q, .int .i64 x.r.k, .int .i64 x.r.ep, .int .i64 x.r.tm, .int .i64 x.r.ct, .int .i64 x.r.tg, .int .i64 x.r.un, .string ⟨x.r.rt.toArray⟩, .string ⟨x.r.nm.toArray⟩, .string ⟨x.was.toArray⟩, .string ⟨x.tag.toArray⟩] 33) := ⟨_, rfl⟩
  have SS : Hid (Rs w x W1) := Lib.hid (by rw [hW1]; exact rs_new w x)
  obtain ⟨k0, k1, k2, k3, k4, k5, k6, k7, k8, k9, k10⟩ := SS.out.k.cells
  have HFew := Lib.hid (fun W (hb : Below w.heap.size w W) => ChnE.Few a n c s W (hs.2.2.2.2.step hb) hs.1 hs.2.1 hs.2.2.2.1)
  have HFx := Lib.hid (fun W => RcpD.Few x W)
  have HK := Lib.hid (fun W (hb : Below w.heap.size w W) => RcpK.Check root f x W (hr.step hb) hf)
  obtain ⟨_, hf0, hk, _, hle, h46, _⟩ := RcpN.check_zero h3
  have hep := (bounds hk.1).2.1
  obtain ⟨hn60, _⟩ := few_in h1
  rw [hs.1] at hn60
  have HC := Lib.hid (fun W (hb : Below w.heap.size w W) => ChnV.Check root f a n c s W (hs.2.2.2.2.step hb) hs.1 (by omega) (hr.step hb))
  rw [h1] at HFew
  rw [h2] at HFx
  rw [h3] at HK
  generalize checkR root f s = m at *
  obtain ⟨t0, t1, z⟩ := m
  dsimp only at h5 HC
  have hz : (z != 0) = true := by simpa using h5
  clear hs hr hf h1 h2 h3 h5 hk
  go_enter Tryd.func4, Tryd.ntmps4
  go_upto_region 1 with (fail)
  rw [← hW1]
  clear hW1
  go_wp2_with (first
    | (go_at_call 5; refine (HFew.out _ SS.out.bel).mono ?_; rintro e w2 ⟨rfl, hb⟩; replace SS := Lib.hid (SS.out.step hb); clear hb HFew k0 k1 k2 k3 k4 k5 k6 k7 k8 k9 k10; obtain ⟨k0, k1, k2, k3, k4, k5, k6, k7, k8, k9, k10⟩ := SS.out.k.cells)
    | (go_at_call 11; refine (HFx.out _).mono ?_; rintro e w3 ⟨rfl, hb⟩; replace SS := Lib.hid (SS.out.step hb); clear hb HFx k0 k1 k2 k3 k4 k5 k6 k7 k8 k9 k10; obtain ⟨k0, k1, k2, k3, k4, k5, k6, k7, k8, k9, k10⟩ := SS.out.k.cells)
    | (go_at_call 9; refine (HK.out _ SS.out.bel).mono ?_; rintro e w4 ⟨rfl, hb⟩; replace SS := Lib.hid (SS.out.step hb); clear hb HK k0 k1 k2 k3 k4 k5 k6 k7 k8 k9 k10; obtain ⟨k0, k1, k2, k3, k4, k5, k6, k7, k8, k9, k10⟩ := SS.out.k.cells)
    | (go_at_call 7; refine (HC.out _ SS.out.bel).mono ?_; rintro e w5 ⟨rfl, hb⟩; replace SS := Lib.hid (SS.out.step hb); clear hb HC k0 k1 k2 k3 k4 k5 k6 k7 k8 k9 k10; obtain ⟨k0, k1, k2, k3, k4, k5, k6, k7, k8, k9, k10⟩ := SS.out.k.cells)
    | (go_at_call 6; refine (RcpF.alive _).mono ?_; rintro e wA ⟨rfl, hb⟩; replace SS := Lib.hid (SS.out.step hb); clear hb k0 k1 k2 k3 k4 k5 k6 k7 k8 k9 k10))
  go_ret
  exact ⟨rfl, SS.out.bel⟩
set_option maxRecDepth 100000 in
set_option maxHeartbeats 8000000 in
theorem mine (root : List UInt8) (f : Int) (a : Option Addr) (n c : Nat) (s : List Sd) (x : Rcp) (w : World) (hf : f ≤ 9223372036854775807) (hs : Came w a n c s) (hr : Rds w) (h1 : fewB s = true) (h2 : fewR x = true) (h3 : checkC root f x = 0) (h4 : ¬ 40 < x.r.ep - f) (ho : okR root f (recs s)) (ht : tagsOk root f s) (hm : ofB s x = true) :
    Calls Tryd.prog 4 #[.string ⟨root.toArray⟩, .int .i64 f, .slice a n c, .agg #[.int .i64 x.q, .int .i64 x.r.k, .int .i64 x.r.ep, .int .i64 x.r.tm, .int .i64 x.r.ct, .int .i64 x.r.tg, .int .i64 x.r.un, .string ⟨x.r.rt.toArray⟩, .string ⟨x.r.nm.toArray⟩, .string ⟨x.was.toArray⟩, .string ⟨x.tag.toArray⟩]] w fun e w' => e = .returned (.bool true) ∧ Below w.heap.size w w' := by
  obtain ⟨W1, hW1⟩ : ∃ W1, W1 = w.alloc (.cells #[.int .i64 x.q, .int .i64 x.r.k, .int .i64 x.r.ep, .int .i64 x.r.tm, .int .i64 x.r.ct, .int .i64 x.r.tg, .int .i64 x.r.un, .string ⟨x.r.rt.toArray⟩, .string ⟨x.r.nm.toArray⟩, .string ⟨x.was.toArray⟩, .string ⟨x.tag.toArray⟩] 33) := ⟨_, rfl⟩
  have SS : Hid (Rs w x W1) := Lib.hid (by rw [hW1]; exact rs_new w x)
  obtain ⟨k0, k1, k2, k3, k4, k5, k6, k7, k8, k9, k10⟩ := SS.out.k.cells
  have HFew := Lib.hid (fun W (hb : Below w.heap.size w W) => ChnE.Few a n c s W (hs.2.2.2.2.step hb) hs.1 hs.2.1 hs.2.2.2.1)
  have HFx := Lib.hid (fun W => RcpD.Few x W)
  have HK := Lib.hid (fun W (hb : Below w.heap.size w W) => RcpK.Check root f x W (hr.step hb) hf)
  obtain ⟨_, hf0, hk, _, hle, h46, _⟩ := RcpN.check_zero h3
  have hep := (bounds hk.1).2.1
  obtain ⟨hn60, _⟩ := few_in h1
  rw [hs.1] at hn60
  have HC := Lib.hid (fun W (hb : Below w.heap.size w W) => ChnV.Check root f a n c s W (hs.2.2.2.2.step hb) hs.1 (by omega) (hr.step hb))
  rw [check_good ho ht] at HC
  have HF := Lib.hid (fun W (hb : Below w.heap.size w W) => RcpF.Forge a n c s x W (hs.2.2.2.2.step hb) hs.1 (by unfold maxLen; omega) hs.2.2.1)
  have HO := Lib.hid (fun W (hb : Below w.heap.size w W) => RcpF.Of a n c s x W (hs.2.2.2.2.step hb) hs.1 (by unfold maxLen; omega) hs.2.2.1)
  rw [forge_of hm] at HF
  rw [hm] at HO
  dsimp only at HF
  rw [h1] at HFew
  rw [h2] at HFx
  rw [h3] at HK
  generalize opn f (recs s) = X at *
  clear hs hr hf h1 h2 h3 hk ho ht hm
  go_enter Tryd.func4, Tryd.ntmps4
  go_upto_region 1 with (fail)
  rw [← hW1]
  clear hW1
  go_wp2_with (first
    | (go_at_call 5; refine (HFew.out _ SS.out.bel).mono ?_; rintro e w2 ⟨rfl, hb⟩; replace SS := Lib.hid (SS.out.step hb); clear hb HFew k0 k1 k2 k3 k4 k5 k6 k7 k8 k9 k10; obtain ⟨k0, k1, k2, k3, k4, k5, k6, k7, k8, k9, k10⟩ := SS.out.k.cells)
    | (go_at_call 11; refine (HFx.out _).mono ?_; rintro e w3 ⟨rfl, hb⟩; replace SS := Lib.hid (SS.out.step hb); clear hb HFx k0 k1 k2 k3 k4 k5 k6 k7 k8 k9 k10; obtain ⟨k0, k1, k2, k3, k4, k5, k6, k7, k8, k9, k10⟩ := SS.out.k.cells)
    | (go_at_call 9; refine (HK.out _ SS.out.bel).mono ?_; rintro e w4 ⟨rfl, hb⟩; replace SS := Lib.hid (SS.out.step hb); clear hb HK k0 k1 k2 k3 k4 k5 k6 k7 k8 k9 k10; obtain ⟨k0, k1, k2, k3, k4, k5, k6, k7, k8, k9, k10⟩ := SS.out.k.cells)
    | (go_at_call 7; refine (HC.out _ SS.out.bel).mono ?_; rintro e w5 ⟨rfl, hb⟩; replace SS := Lib.hid (SS.out.step hb); clear hb HC k0 k1 k2 k3 k4 k5 k6 k7 k8 k9 k10; obtain ⟨k0, k1, k2, k3, k4, k5, k6, k7, k8, k9, k10⟩ := SS.out.k.cells)
    | (go_at_call 12; refine (HF.out _ SS.out.bel).mono ?_; rintro e w6 ⟨rfl, hb⟩; replace SS := Lib.hid (SS.out.step hb); clear hb HF k0 k1 k2 k3 k4 k5 k6 k7 k8 k9 k10; obtain ⟨k0, k1, k2, k3, k4, k5, k6, k7, k8, k9, k10⟩ := SS.out.k.cells)
    | (go_at_call 10; refine (HO.out _ SS.out.bel).mono ?_; rintro e w7 ⟨rfl, hb⟩; replace SS := Lib.hid (SS.out.step hb); clear hb HO k0 k1 k2 k3 k4 k5 k6 k7 k8 k9 k10; obtain ⟨k0, k1, k2, k3, k4, k5, k6, k7, k8, k9, k10⟩ := SS.out.k.cells)
    | (go_at_call 6; refine (RcpF.alive _).mono ?_; rintro e wA ⟨rfl, hb⟩; replace SS := Lib.hid (SS.out.step hb); clear hb k0 k1 k2 k3 k4 k5 k6 k7 k8 k9 k10))
  go_ret
  exact ⟨rfl, SS.out.bel⟩
set_option maxRecDepth 100000 in
set_option maxHeartbeats 8000000 in
theorem forged (root : List UInt8) (f : Int) (a : Option Addr) (n c : Nat) (s : List Sd) (x : Rcp) (w : World) (hf : f ≤ 9223372036854775807) (hs : Came w a n c s) (hr : Rds w) (h1 : fewB s = true) (h2 : fewR x = true) (h3 : checkC root f x = 0) (h4 : ¬ 40 < x.r.ep - f) (ho : okR root f (recs s)) (ht : tagsOk root f s) (hm : ofB s x = false) :
    Calls Tryd.prog 4 #[.string ⟨root.toArray⟩, .int .i64 f, .slice a n c, .agg #[.int .i64 x.q, .int .i64 x.r.k, .int .i64 x.r.ep, .int .i64 x.r.tm, .int .i64 x.r.ct, .int .i64 x.r.tg, .int .i64 x.r.un, .string ⟨x.r.rt.toArray⟩, .string ⟨x.r.nm.toArray⟩, .string ⟨x.was.toArray⟩, .string ⟨x.tag.toArray⟩]] w fun e w' => e = .returned (.bool true) ∧ Below w.heap.size w w' := by
  obtain ⟨W1, hW1⟩ : ∃ W1, W1 = w.alloc (.cells #[.int .i64 x.q, .int .i64 x.r.k, .int .i64 x.r.ep, .int .i64 x.r.tm, .int .i64 x.r.ct, .int .i64 x.r.tg, .int .i64 x.r.un, .string ⟨x.r.rt.toArray⟩, .string ⟨x.r.nm.toArray⟩, .string ⟨x.was.toArray⟩, .string ⟨x.tag.toArray⟩] 33) := ⟨_, rfl⟩
  have SS : Hid (Rs w x W1) := Lib.hid (by rw [hW1]; exact rs_new w x)
  obtain ⟨k0, k1, k2, k3, k4, k5, k6, k7, k8, k9, k10⟩ := SS.out.k.cells
  have HFew := Lib.hid (fun W (hb : Below w.heap.size w W) => ChnE.Few a n c s W (hs.2.2.2.2.step hb) hs.1 hs.2.1 hs.2.2.2.1)
  have HFx := Lib.hid (fun W => RcpD.Few x W)
  have HK := Lib.hid (fun W (hb : Below w.heap.size w W) => RcpK.Check root f x W (hr.step hb) hf)
  obtain ⟨_, hf0, hk, hat, hle, h46, _⟩ := RcpN.check_zero h3
  have hep := (bounds hk.1).2.1
  obtain ⟨hn60, _⟩ := few_in h1
  have hsl := hs.1
  rw [hsl] at hn60
  have HC := Lib.hid (fun W (hb : Below w.heap.size w W) => ChnV.Check root f a n c s W (hs.2.2.2.2.step hb) hs.1 (by omega) (hr.step hb))
  rw [check_good ho ht] at HC
  have HF := Lib.hid (fun W (hb : Below w.heap.size w W) => RcpF.Forge a n c s x W (hs.2.2.2.2.step hb) hs.1 (by unfold maxLen; omega) hs.2.2.1)
  have HO := Lib.hid (fun W (hb : Below w.heap.size w W) => RcpF.Of a n c s x W (hs.2.2.2.2.step hb) hs.1 (by unfold maxLen; omega) hs.2.2.1)
  have hG := good_of ho ht
  obtain ⟨hfo, hmac, hnone⟩ := sound hG (by omega) h3 hm
  rw [hfo] at HF
  rw [hm] at HO
  dsimp only at HF
  rw [h1] at HFew
  rw [h2] at HFx
  rw [h3] at HK
  have HA := Lib.hid (fun W (hb : Below w.heap.size w W) => EvoA.At root f x.r.ep W (hr.step hb) hf)
  rw [hat] at HA
  have HM := Lib.hid (fun W (hb : Below w.heap.size w W) => EvoP.Mac (keyAt root f x.r.ep) W (hr.step hb))
  rw [mac_yes (key_len _ _ _)] at HM
  have hmk : (mkey (keyAt root f x.r.ep)).length = 32 := mac_length _ _
  have hsay := say_len (rok_say hk)
  have hbl := bytes_len hk.1
  have hbd := bounds hk.1
  have HH := Lib.hid (fun W (hb : Below w.heap.size w W) => HPart.Mac (mkey (keyAt root f x.r.ep)) (say x.was x.q x.r) W (hr.step hb) (by omega) (by omega))
  rw [hmac] at HH
  dsimp only at HA HM
  have HLa := Lib.hid (fun (g o k : Nat) W (hb : Below w.heap.size w W) (ha : a = some ⟨g, o, none⟩) (hkn : k ≤ n) => RcpL.Last (some ⟨g, o, none⟩) k c (s.take k) W (ha ▸ (hs.2.2.2.2.step hb).take k) (by rw [List.length_take]; omega) (by unfold maxLen; omega))
  have HSa := Lib.hid (fun (k : Nat) (hk : k < s.length) W => Said_yes (lastT (s.take k)) (k : Int) s[k].1 W ⟨lastT_len (tagsOk_take hG.tg k), by omega, (hG.at_ hk).1⟩)
  have HLi := Lib.hid hs.2.2.2.2
  have HNo := Lib.hid hnone
  have hcap := hs.2.2.1
  have hXm : (x.tag != x.tag) = false := by simp
  generalize opn f (recs s) = X at *
  clear hs hr hf h1 h2 h3 hk ho ht hm hG hfo hmac hnone hat hmk hsay hbl hbd
  generalize say x.was x.q x.r = msg at *
  generalize mkey (keyAt root f x.r.ep) = mk at *
  generalize keyAt root f x.r.ep = key at *
  go_enter Tryd.func4, Tryd.ntmps4
  go_upto_region 1 with (fail)
  rw [← hW1]
  clear hW1
  go_wp2_with (first
    | (go_at_call 5; refine (HFew.out _ SS.out.bel).mono ?_; rintro e w2 ⟨rfl, hb⟩; replace SS := Lib.hid (SS.out.step hb); clear hb HFew k0 k1 k2 k3 k4 k5 k6 k7 k8 k9 k10; obtain ⟨k0, k1, k2, k3, k4, k5, k6, k7, k8, k9, k10⟩ := SS.out.k.cells)
    | (go_at_call 11; refine (HFx.out _).mono ?_; rintro e w3 ⟨rfl, hb⟩; replace SS := Lib.hid (SS.out.step hb); clear hb HFx k0 k1 k2 k3 k4 k5 k6 k7 k8 k9 k10; obtain ⟨k0, k1, k2, k3, k4, k5, k6, k7, k8, k9, k10⟩ := SS.out.k.cells)
    | (go_at_call 9; refine (HK.out _ SS.out.bel).mono ?_; rintro e w4 ⟨rfl, hb⟩; replace SS := Lib.hid (SS.out.step hb); clear hb HK k0 k1 k2 k3 k4 k5 k6 k7 k8 k9 k10; obtain ⟨k0, k1, k2, k3, k4, k5, k6, k7, k8, k9, k10⟩ := SS.out.k.cells)
    | (go_at_call 7; refine (HC.out _ SS.out.bel).mono ?_; rintro e w5 ⟨rfl, hb⟩; replace SS := Lib.hid (SS.out.step hb); clear hb HC k0 k1 k2 k3 k4 k5 k6 k7 k8 k9 k10; obtain ⟨k0, k1, k2, k3, k4, k5, k6, k7, k8, k9, k10⟩ := SS.out.k.cells)
    | (go_at_call 12; refine (HF.out _ SS.out.bel).mono ?_; rintro e w6 ⟨rfl, hb⟩; replace SS := Lib.hid (SS.out.step hb); clear hb HF k0 k1 k2 k3 k4 k5 k6 k7 k8 k9 k10; obtain ⟨k0, k1, k2, k3, k4, k5, k6, k7, k8, k9, k10⟩ := SS.out.k.cells)
    | (go_at_call 10; refine (HO.out _ SS.out.bel).mono ?_; rintro e w7 ⟨rfl, hb⟩; replace SS := Lib.hid (SS.out.step hb); clear hb HO k0 k1 k2 k3 k4 k5 k6 k7 k8 k9 k10; obtain ⟨k0, k1, k2, k3, k4, k5, k6, k7, k8, k9, k10⟩ := SS.out.k.cells)
    | (go_at_call 13; refine (HA.out _ SS.out.bel).mono ?_; rintro e w8 ⟨rfl, hb⟩; replace SS := Lib.hid (SS.out.step hb); clear hb HA k0 k1 k2 k3 k4 k5 k6 k7 k8 k9 k10; obtain ⟨k0, k1, k2, k3, k4, k5, k6, k7, k8, k9, k10⟩ := SS.out.k.cells)
    | (go_at_call 14; refine (HM.out _ SS.out.bel).mono ?_; rintro e w9 ⟨rfl, hb⟩; replace SS := Lib.hid (SS.out.step hb); clear hb HM k0 k1 k2 k3 k4 k5 k6 k7 k8 k9 k10; obtain ⟨k0, k1, k2, k3, k4, k5, k6, k7, k8, k9, k10⟩ := SS.out.k.cells)
    | (go_at_call 15; refine (HH.out _ SS.out.bel).mono ?_; rintro e w10 ⟨rfl, hb⟩; replace SS := Lib.hid (SS.out.step hb); clear hb HH k0 k1 k2 k3 k4 k5 k6 k7 k8 k9 k10; obtain ⟨k0, k1, k2, k3, k4, k5, k6, k7, k8, k9, k10⟩ := SS.out.k.cells))
  go_loopw [104] (fun iv wr => ∃ k : Nat, k ≤ n ∧ iv = .int .i64 k ∧ Below w.heap.size w wr) (fun iv _ => n - (intOf iv).toNat)
  case atStart => exact ⟨0, Nat.zero_le _, rfl, SS.out.bel⟩
  case round =>
    clear SS k0 k1 k2 k3 k4 k5 k6 k7 k8 k9 k10
    obtain ⟨k, hk, rfl, hb⟩ := hrel
    have B := Lib.hid hb
    clear hb
    by_cases hlt : k < n
    · have hks : k < s.length := by omega
      obtain ⟨g, o, rfl, hg, hc⟩ := HLi.out.at9 (by omega)
      have h9 := (hc k hks).step hg B.out
      have HLk := Lib.hid (fun W hb => HLa.out g o k W hb rfl (by omega))
      have HSk := Lib.hid (HSa.out k hks)
      have hno := HNo.out k hks
      have hcut := cut_s g o n c k (by omega) (by omega)
      clear HLa HSa HNo HLi hc
      generalize lastT (s.take k) = ws at *
      generalize s[k] = y at *
      generalize say ws (k : Int) y.1 = st at *
      have hq1 : (st == msg) = false := by simpa using hno
      clear hno
      obtain ⟨q0, q1, q2, q3, q4, q5, q6, q7, q8⟩ := h9
      have p0 : (0 : Int) ≤ (k : Int) := by omega
      have p1 : (k : Int) < (n : Int) := by omega
      go_upto_region 16 with (refine wpList_store_row rfl 45 _ _ rfl wr.heap.size _ rfl rfl 45 _ (heap_alloc_new wr _) infoS rfl (one9 y) ?_)
      have B4 := Lib.hid (B.out.trans ((kept_new wr #[.int .i64 0, .int .i64 0, .int .i64 0, .int .i64 0, .int .i64 0, .int .i64 0, .string ⟨#[]⟩, .string ⟨#[]⟩, .string ⟨#[]⟩] #[.int .i64 y.1.k, .int .i64 y.1.ep, .int .i64 y.1.tm, .int .i64 y.1.ct, .int .i64 y.1.tg, .int .i64 y.1.un, .string ⟨y.1.rt.toArray⟩, .string ⟨y.1.nm.toArray⟩, .string ⟨y.2.toArray⟩] 45).mono B.out.size))
      have G4 : Hid (Bs ((wr.alloc (.cells #[.int .i64 0, .int .i64 0, .int .i64 0, .int .i64 0, .int .i64 0, .int .i64 0, .string ⟨#[]⟩, .string ⟨#[]⟩, .string ⟨#[]⟩] 45)).setRow wr.heap.size #[.int .i64 y.1.k, .int .i64 y.1.ep, .int .i64 y.1.tm, .int .i64 y.1.ct, .int .i64 y.1.tg, .int .i64 y.1.un, .string ⟨y.1.rt.toArray⟩, .string ⟨y.1.nm.toArray⟩, .string ⟨y.2.toArray⟩]) wr.heap.size y) := Lib.hid (has_new wr _ _ _)
      clear q0 q1 q2 q3 q4 q5 q6 q7 q8
      revert B4 G4
      generalize World.setRow _ _ _ = W4
      generalize wr.heap.size = X4
      intro B4 G4
      have B5 := Lib.hid (B4.out.trans ((Below.refl W4.heap.size W4).drew.mono B4.out.size))
      have G5 := Lib.hid (G4.out.step (Below.refl W4.heap.size W4).drew)
      have HS := Lib.hid (fun (W : World) (h : Bs W X4 y) => And.intro (blk_cell (i := 0) h rfl) (And.intro (blk_cell (i := 1) h rfl) (And.intro (blk_cell (i := 2) h rfl) (And.intro (blk_cell (i := 3) h rfl) (And.intro (blk_cell (i := 4) h rfl) (And.intro (blk_cell (i := 5) h rfl) (And.intro (blk_cell (i := 6) h rfl) (blk_cell (i := 7) h rfl))))))))
      have hS := HS.out _ G5.out
      clear B4 G4
      go_region_held3 (fun W' => W'.cell? ⟨X4, 0, none⟩ = some (.int .i64 y.1.k) ∧ W'.cell? ⟨X4, 1, none⟩ = some (.int .i64 y.1.ep) ∧ W'.cell? ⟨X4, 2, none⟩ = some (.int .i64 y.1.tm) ∧ W'.cell? ⟨X4, 3, none⟩ = some (.int .i64 y.1.ct) ∧ W'.cell? ⟨X4, 4, none⟩ = some (.int .i64 y.1.tg) ∧ W'.cell? ⟨X4, 5, none⟩ = some (.int .i64 y.1.un) ∧ W'.cell? ⟨X4, 6, none⟩ = some (.string ⟨y.1.rt.toArray⟩) ∧ W'.cell? ⟨X4, 7, none⟩ = some (.string ⟨y.1.nm.toArray⟩))
        (exact hS)
        (first
          | (go_at_call 17; refine (HLk.out _ B5.out).mono ?_; rintro e w11 ⟨rfl, hb⟩; replace B5 := Lib.hid (B5.out.trans (hb.mono B5.out.size)); replace G5 := Lib.hid (G5.out.step hb); replace hS := HS.out _ G5.out; clear hb HLk)
          | (go_at_call 16; refine (HSk.out _).mono ?_; rintro e w12 ⟨rfl, hb⟩; replace B5 := Lib.hid (B5.out.trans (hb.mono B5.out.size)); replace G5 := Lib.hid (G5.out.step hb); replace hS := HS.out _ G5.out; clear hb HSk))
      clear hS
      go_wp2_with fail
      go_roundw
      case rel => exact ⟨k + 1, by omega, by go_num, B5.out⟩
      case measure => simp [intOf]; omega
    · obtain rfl : k = n := by omega
      have pk : ¬ (k : Int) < (k : Int) := by omega
      go_wp2_with (go_at_call 6; refine (RcpF.alive _).mono ?_; rintro e wA ⟨rfl, hb⟩; replace B := Lib.hid (B.out.trans (hb.mono B.out.size)); clear hb)
      go_ret
      exact ⟨rfl, B.out⟩
end Go.Proofs.YtkidehngleglnaaDoor.RcpZ
