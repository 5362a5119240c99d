/- What keepsakeref06.Count answers: the walk of its text. -/
import Derived.Test.YtjlepjnfacmieaaCtrN
import Derived.Test.YtjlepjnfacmieaaRPut
import Derived.Test.YtjlepjnfacmieaaSlice
namespace Go.Proofs.Ytjlepjnfacmieaa.RCount
open Go.RowKit
open CtrN
/-- Whether there is a block of these numbers. -/
def is (e s i : Int) : Bool := (cnt e s i).2 == 0
theorem four_bytes : (#[.int .u8 117, .int .u8 0, .int .u8 0, .int .u8 0] : Array Value) = bytesRow ([117, 0, 0, 0] ++ []) := rfl
theorem conv4 (w : World) : (convert 42 9 (.slice (some ⟨w.heap.size, 0, none⟩) 4 4)).run Try.prog (w.alloc (.cells #[.int .u8 117, .int .u8 0, .int .u8 0, .int .u8 0] 5)) =
    .ok (.string ⟨#[117, 0, 0, 0]⟩) (w.alloc (.cells #[.int .u8 117, .int .u8 0, .int .u8 0, .int .u8 0] 5)) :=
  conv_row (l := [117, 0, 0, 0]) Try.underlying42 Try.underlying5 Try.underlying9 (by rw [heap_alloc_new, four_bytes]) rfl
theorem bad (e s i : Int) (w : World) (he : IsInt e) (hs : IsInt s) (hi : IsInt i) (h : ¬ (cnt e s i).2 = 0) :
    Calls Try.prog 9 #[.int .i64 e, .int .i64 s, .int .i64 i] w fun x w' => x = .returned (.tuple #[.string ⟨#[]⟩, .bool false]) ∧ Below w.heap.size w w' := by
  have H1 := Lib.hid (fun W => RPut.any e 4 W he.2)
  have H2 := Lib.hid (fun W => RPut.any s 4 W hs.2)
  have H3 := Lib.hid (fun W => RPut.any i 4 W hi.2)
  have h2 : ∀ n, (put n 4).2 = 0 ∨ (put n 4).2 = 2 := fun n => by
    by_cases hh : 0 ≤ n ∧ n < 4294967296
    · rw [put4 n hh]; exact .inl rfl
    · rw [put4_no n hh]; exact .inr rfl
  have hne : ¬ ((put e 4).2 = 0 ∧ (put s 4).2 = 0 ∧ (put i 4).2 = 0) := by
    rintro ⟨ha, hb, hc⟩
    apply h
    rw [cnt, if_pos ⟨put4_ok e ha, put4_ok s hb, put4_ok i hc⟩]
  have a1 := h2 e
  have a2 := h2 s
  have a3 := h2 i
  generalize put e 4 = p at *
  generalize put s 4 = q at *
  generalize put i 4 = r at *
  obtain ⟨p1, p2⟩ := p
  obtain ⟨q1, q2⟩ := q
  obtain ⟨r1, r2⟩ := r
  have hsum : (p2 + q2 + r2 != 0) = true := by rw [bne_iff_ne]; simp only at *; omega
  have ha : p2 = 0 ∨ p2 = 2 := a1
  have hb : q2 = 0 ∨ q2 = 2 := a2
  have hc : r2 = 0 ∨ r2 = 2 := a3
  have w1 : wrap64 (p2 + q2) = p2 + q2 := IntWalk.wrap64_in _ (by omega)
  have w2 : wrap64 (p2 + q2 + r2) = p2 + q2 + r2 := IntWalk.wrap64_in _ (by omega)
  clear h h2 hne a1 a2 a3 ha hb hc he hs hi
  go_enter Try.func9, Try.ntmps9
  go_wp2_with fail
  refine (H1.out _).mono ?_
  rintro x u1 ⟨rfl, hb1⟩
  have HB1 := Lib.hid hb1
  clear hb1
  go_wp2_with fail
  refine (H2.out _).mono ?_
  rintro x u2 ⟨rfl, hb2⟩
  have HB2 := Lib.hid (HB1.out.trans (hb2.mono HB1.out.size))
  clear hb2
  go_wp2_with fail
  refine (H3.out _).mono ?_
  rintro x u3 ⟨rfl, hb3⟩
  have HB3 := Lib.hid (HB2.out.trans (hb3.mono HB2.out.size))
  clear hb3
  go_wp2
  go_ret2
  exact ⟨rfl, HB3.out⟩
theorem good (e s i : Nat) (w : World) (he : e < 4294967296) (hs : s < 4294967296) (hi : i < 4294967296) :
    Calls Try.prog 9 #[.int .i64 e, .int .i64 s, .int .i64 i] w fun x w' => x = .returned (.tuple #[.string ⟨(cntB e s i).toArray⟩, .bool true]) ∧ Below w.heap.size w w' := by
  have H1 := Lib.hid (fun W => RPut.any e 4 W (by omega))
  have H2 := Lib.hid (fun W => RPut.any s 4 W (by omega))
  have H3 := Lib.hid (fun W => RPut.any i 4 W (by omega))
  rw [put4 _ (by omega)] at H1 H2 H3
  have HS : Hid ((((⟨#[117, 0, 0, 0]⟩ : ByteArray) ++ ⟨(be 4 (e : Int).toNat).toArray⟩) ++ ⟨(be 4 (s : Int).toNat).toArray⟩) ++ ⟨(be 4 (i : Int).toNat).toArray⟩ = ⟨(cntB e s i).toArray⟩) := by
    show _ = _
    rw [show (⟨#[117, 0, 0, 0]⟩ : ByteArray) = ⟨[117, 0, 0, 0].toArray⟩ from rfl, ByteArray.mk_append_mk, ByteArray.mk_append_mk, ByteArray.mk_append_mk]
    simp [cntB]
  have l1 := be_length 4 (e : Int).toNat
  have l2 := be_length 4 (s : Int).toNat
  have l3 := be_length 4 (i : Int).toNat
  generalize be 4 (e : Int).toNat = p at *
  generalize be 4 (s : Int).toNat = q at *
  generalize be 4 (i : Int).toNat = r at *
  generalize cntB e s i = out at *
  have hcv := fun W => conv4 W
  clear he hs hi
  go_enter Try.func9, Try.ntmps9
  go_wp2_with fail
  refine (H1.out _).mono ?_
  rintro x u1 ⟨rfl, hb1⟩
  have HB1 := Lib.hid hb1
  clear hb1
  go_wp2_with fail
  refine (H2.out _).mono ?_
  rintro x u2 ⟨rfl, hb2⟩
  have HB2 := Lib.hid (HB1.out.trans (hb2.mono HB1.out.size))
  clear hb2
  go_wp2_with fail
  refine (H3.out _).mono ?_
  rintro x u3 ⟨rfl, hb3⟩
  have HB3 := Lib.hid (HB2.out.trans (hb3.mono HB2.out.size))
  clear hb3
  go_wp2
  go_ret2
  exact ⟨by rw [HS.out]; rfl, HB3.out.alloc HB3.out.size _⟩
/-- THE CONTRACT of keepsakeref06.Count. -/
theorem any (e s i : Int) (w : World) (he : IsInt e) (hs : IsInt s) (hi : IsInt i) :
    Calls Try.prog 9 #[.int .i64 e, .int .i64 s, .int .i64 i] w fun x w' => x = .returned (.tuple #[.string ⟨(cnt e s i).1.toArray⟩, .bool (is e s i)]) ∧ Below w.heap.size w w' := by
  by_cases h : (cnt e s i).2 = 0
  · obtain ⟨h1, h2, h3⟩ := cnt_ok e s i h
    obtain ⟨a, rfl⟩ := Int.eq_ofNat_of_zero_le h1.1
    obtain ⟨b, rfl⟩ := Int.eq_ofNat_of_zero_le h2.1
    obtain ⟨c, rfl⟩ := Int.eq_ofNat_of_zero_le h3.1
    have hg := cnt_good a b c (by omega) (by omega) (by omega)
    unfold is
    rw [hg]
    exact good a b c w (by omega) (by omega) (by omega)
  · unfold is
    rw [cnt_no e s i h]
    exact bad e s i w he hs hi h
end Go.Proofs.Ytjlepjnfacmieaa.RCount
