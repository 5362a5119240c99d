/- keepsakeref10.Put: the walk of its text. No conditions. -/
import Derived.Test.YtghljhohbhkdeaaDoorSupR
import Derived.Test.YtghljhohbhkdeaaDoorGeoQ
import Derived.Test.YtghljhohbhkdeaaDoorRSum
import Derived.Test.YtghljhohbhkdeaaDoorLRef
namespace Go.Proofs.YtghljhohbhkdeaaDoor.SupS
open Go.RowKit
open GeoN GeoC GeoS SupN SupC
theorem told5 (na nb nc nd ne : List UInt8) : (⟨#[107, 101, 101, 112, 115, 97, 107, 101, 49]⟩ : ByteArray) ++ ⟨na.toArray⟩ ++ ⟨nb.toArray⟩ ++ ⟨nc.toArray⟩ ++ ⟨nd.toArray⟩ ++ ⟨ne.toArray⟩ = ⟨(SupN.mark ++ (na ++ nb ++ nc ++ nd) ++ ne).toArray⟩ := by
  rw [show (⟨#[107, 101, 101, 112, 115, 97, 107, 101, 49]⟩ : ByteArray) = ⟨SupN.mark.toArray⟩ from rfl]
  simp only [GeoQ.mk_append, List.append_assoc]
set_option maxRecDepth 100000 in
set_option maxHeartbeats 2000000 in
theorem Put_yes (g t e k b l f : Int) (w : World) (hm : may ⟨g, t, e, k, b, l, f⟩) :
    Calls Tryd.prog 8 #[.agg #[.int .i64 g, .int .i64 t, .int .i64 e, .int .i64 k, .int .i64 b, .int .i64 l, .int .i64 f]] w fun r w' => r = .returned (.tuple #[.string ⟨(blk ⟨g, t, e, k, b, l, f⟩).toArray⟩, .bool true]) ∧ Below w.heap.size w w' := by
  obtain ⟨W1, hW1⟩ : ∃ W1, W1 = w.alloc (.cells #[.int .i64 g, .int .i64 t, .int .i64 e, .int .i64 k, .int .i64 b, .int .i64 l, .int .i64 f] 25) := ⟨_, rfl⟩
  have SS : Hid (Wn w g t e k b l f W1) := Lib.hid (by rw [hW1]; exact sn_new g t e k b l f)
  obtain ⟨k0, k1, k2, k3, k4, k5, k6⟩ := SS.out.k.cells
  have HR := Lib.hid (fun W => SupR.Right g t e k b l f W)
  rw [SupR.dt hm] at HR
  obtain ⟨p0, p1, p2, p3⟩ := may_nums hm
  have hr := hm.1
  have hg := hm.2.1.2
  have ht := hm.2.2.1.2
  have he := hm.2.2.2.1.2
  have hk := hm.2.2.2.2.2
  dsimp only at p0 p1 p2 p3 hr hg ht he hk
  have P0 := Lib.hid (fun W => RPut.any g 8 W (by omega))
  have P1 := Lib.hid (fun W => RPut.any t 4 W (by have := hr.2.1; omega))
  have P2 := Lib.hid (fun W => RPut.any e 4 W (by omega))
  have P3 := Lib.hid (fun W => RPut.any k 8 W (by omega))
  have P4 := Lib.hid (fun W => GeoQ.Put b l f W)
  rw [p0] at P0
  rw [p1] at P1
  rw [p2] at P2
  rw [p3] at P3
  rw [GeoP.put_yes hr, GeoR.dec_yes hr] at P4
  have HH : Hid (head ⟨g, t, e, k, b, l, f⟩ = SupN.mark ++ (be 8 g.toNat ++ be 4 t.toNat ++ be 4 e.toNat ++ be 8 k.toNat) ++ bytes3 b l f) := rfl
  have HHL := Lib.hid (head_len ⟨g, t, e, k, b, l, f⟩)
  have HE : Hid (blk ⟨g, t, e, k, b, l, f⟩ = head ⟨g, t, e, k, b, l, f⟩ ++ sum (head ⟨g, t, e, k, b, l, f⟩) ++ List.replicate 4019 0) := rfl
  have la := be_length 8 g.toNat
  have lb := be_length 4 t.toNat
  have lc := be_length 4 e.toNat
  have ld := be_length 8 k.toNat
  have le := bytes_len b l f
  generalize be 8 g.toNat = na at *
  generalize be 4 t.toNat = nb at *
  generalize be 4 e.toNat = nc at *
  generalize be 8 k.toNat = nd at *
  generalize bytes3 b l f = ne at *
  generalize blk ⟨g, t, e, k, b, l, f⟩ = bk at *
  generalize head ⟨g, t, e, k, b, l, f⟩ = hd at *
  clear hm p0 p1 p2 p3 hr hg ht he hk
  go_enter Tryd.func8, Tryd.ntmps8
  go_upto_region 1 with (fail)
  rw [← hW1]
  clear hW1
  go_upto_region 4 with (first
    | (go_at_call 21; refine (HR.out _).mono ?_; rintro r w2 ⟨rfl, hb2⟩; replace SS := Lib.hid (SS.out.step hb2); clear hb2 k0 k1 k2 k3 k4 k5 k6; obtain ⟨k0, k1, k2, k3, k4, k5, k6⟩ := SS.out.k.cells)
    | (go_at_call 22; refine (P0.out _).mono ?_; rintro r w3 ⟨rfl, hb3⟩; replace SS := Lib.hid (SS.out.step hb3); clear hb3 k0 k1 k2 k3 k4 k5 k6; obtain ⟨k0, k1, k2, k3, k4, k5, k6⟩ := SS.out.k.cells))
  clear P0 HR
  go_upto_region 5 with (go_at_call 22; refine (P1.out _).mono ?_; rintro r w4 ⟨rfl, hb4⟩; replace SS := Lib.hid (SS.out.step hb4); clear hb4 k0 k1 k2 k3 k4 k5 k6; obtain ⟨k0, k1, k2, k3, k4, k5, k6⟩ := SS.out.k.cells)
  clear P1
  go_upto_region 6 with (go_at_call 22; refine (P2.out _).mono ?_; rintro r w5 ⟨rfl, hb5⟩; replace SS := Lib.hid (SS.out.step hb5); clear hb5 k0 k1 k2 k3 k4 k5 k6; obtain ⟨k0, k1, k2, k3, k4, k5, k6⟩ := SS.out.k.cells)
  clear P2
  go_upto_region 7 with (go_at_call 22; refine (P3.out _).mono ?_; rintro r w6 ⟨rfl, hb6⟩; replace SS := Lib.hid (SS.out.step hb6); clear hb6 k0 k1 k2 k3 k4 k5 k6; obtain ⟨k0, k1, k2, k3, k4, k5, k6⟩ := SS.out.k.cells)
  clear P3
  go_upto_region 9 with (go_at_call 23; refine (P4.out _).mono ?_; rintro r w7 ⟨rfl, hb7⟩; replace SS := Lib.hid (SS.out.step hb7); clear hb7 k0 k1 k2 k3 k4 k5 k6)
  clear P4
  rw [told5, ← HH.out]
  have HS := Lib.hid (fun W => RSum.Sum hd W (by rw [HHL.out]; omega))
  have HN := Lib.hid (fun W => RNou.noughts 4019 W (by omega))
  have hs := sum_length hd
  have hh := HHL.out
  have HE2 : Hid (((⟨hd.toArray⟩ : ByteArray) ++ ⟨(sum hd).toArray⟩) ++ ⟨(List.replicate 4019 0).toArray⟩ = ⟨bk.toArray⟩) := Lib.hid (by rw [HE.out, GeoQ.mk_append, GeoQ.mk_append])
  clear HE HH HHL la lb lc ld le
  have hrl : (List.replicate 4019 (0 : UInt8)).length = 4019 := List.length_replicate
  generalize List.replicate 4019 (0 : UInt8) = z at *
  generalize sum hd = sm at *
  go_wp2_with (first
    | (go_at_call 24; refine (HS.out _).mono ?_; rintro r w8 ⟨rfl, hb8⟩; replace SS := Lib.hid (SS.out.step hb8); clear hb8)
    | (go_at_call 25; refine (HN.out _).mono ?_; rintro r w9 ⟨rfl, hb9⟩; replace SS := Lib.hid (SS.out.step hb9); clear hb9))
  go_ret2
  exact ⟨by rw [← HE2.out] <;> rfl, SS.out.bel⟩
set_option maxRecDepth 100000 in
theorem Put_no (g t e k b l f : Int) (w : World) (hm : ¬ may ⟨g, t, e, k, b, l, f⟩) :
    Calls Tryd.prog 8 #[.agg #[.int .i64 g, .int .i64 t, .int .i64 e, .int .i64 k, .int .i64 b, .int .i64 l, .int .i64 f]] w fun r w' => r = .returned (.tuple #[.string ⟨#[]⟩, .bool false]) ∧ Below w.heap.size w w' := by
  obtain ⟨W1, hW1⟩ : ∃ W1, W1 = w.alloc (.cells #[.int .i64 g, .int .i64 t, .int .i64 e, .int .i64 k, .int .i64 b, .int .i64 l, .int .i64 f] 25) := ⟨_, rfl⟩
  have SS : Hid (Wn w g t e k b l f W1) := Lib.hid (by rw [hW1]; exact sn_new g t e k b l f)
  obtain ⟨k0, k1, k2, k3, k4, k5, k6⟩ := SS.out.k.cells
  have HR := Lib.hid (fun W => SupR.Right g t e k b l f W)
  rw [SupR.df hm] at HR
  clear hm
  go_enter Tryd.func8, Tryd.ntmps8
  go_upto_region 1 with (fail)
  rw [← hW1]
  clear hW1
  go_wp2_with (go_at_call 21; refine (HR.out _).mono ?_; rintro r w2 ⟨rfl, hb2⟩; replace SS := Lib.hid (SS.out.step hb2); clear hb2)
  go_ret2
  exact ⟨rfl, SS.out.bel⟩
/-- What the document's Put answers. -/
theorem Put (g t e k b l f : Int) (w : World) :
    Calls Tryd.prog 8 #[.agg #[.int .i64 g, .int .i64 t, .int .i64 e, .int .i64 k, .int .i64 b, .int .i64 l, .int .i64 f]] w fun r w' => r = .returned (.tuple #[.string ⟨(put_ ⟨g, t, e, k, b, l, f⟩).1.toArray⟩, .bool (decide (may ⟨g, t, e, k, b, l, f⟩))]) ∧ Below w.heap.size w w' := by
  by_cases hm : may ⟨g, t, e, k, b, l, f⟩
  · rw [SupN.put_yes hm, SupR.dt hm]; exact Put_yes g t e k b l f w hm
  · rw [SupN.put_no hm, SupR.df hm]; exact Put_no g t e k b l f w hm
end Go.Proofs.YtghljhohbhkdeaaDoor.SupS
