/- OFirst OPackF OPack: one behind the other. -/
import Derived.Test.YtkidehngleglnaaGreatDoorSlice
import Derived.Test.YtkidehngleglnaaGreatDoorRows
import Derived.Test.YtkidehngleglnaaGreatDoorOPut
import Derived.Deep.RegionHeld3
import Derived.Deep.DeepMust
/- octet.first, over each of the closures that it is handed: it goes over the numbers below n, and answers the first error that the closure tells. -/
namespace Go.Proofs.YtkidehngleglnaaGreatDoor.OFirst
open Go.RowKit
/-- All went well, and 'I n' stands; or an error was told, and 'Bad' stands. -/
def Post (I : Nat → World → Prop) (Bad : Int → World → Prop) (n : Nat) (e : Ending) (w' : World) : Prop :=
  (e = .returned (.int .i64 0) ∧ I n w') ∨ ∃ c : Int, c ≠ 0 ∧ e = .returned (.int .i64 c) ∧ Bad c w'
/-- One call of the closure. -/
def Step (I : Nat → World → Prop) (Bad : Int → World → Prop) (i : Nat) (e : Ending) (w' : World) : Prop :=
  ∃ c : Int, e = .returned (.int .i64 c) ∧ ((c = 0 ∧ I (i + 1) w') ∨ (c ≠ 0 ∧ Bad c w'))
theorem over_pack (n : Nat) (hn : n ≤ 140737488355328) (p q r : Value) (I : Nat → World → Prop) (Bad : Int → World → Prop)
    (hc : ∀ i W, i < n → I i W → Calls Tryz.prog 62 #[.int .i64 i, p, q, r] W (Step I Bad i)) (w : World) (h0 : I 0 w) :
    Calls Tryz.prog 61 #[.int .i64 n, .func (.func 62) #[] #[p, q, r]] w (Post I Bad n) := by
  have HC := Lib.hid hc
  have H0 := Lib.hid h0
  clear hc h0
  go_enter Tryz.func61, Tryz.ntmps61
  go_wp2_with fail
  go_loopw [8] (fun i wr => ∃ k : Nat, k ≤ n ∧ i = .int .i64 k ∧ I k wr) (fun i _ => n - (intOf i).toNat)
  case atStart => exact ⟨0, Nat.zero_le _, rfl, H0.out⟩
  case round =>
    obtain ⟨k, hk, rfl, hI⟩ := hrel
    by_cases hlt : k < n
    · have HI := Lib.hid hI
      clear hI
      go_wp2_with fail
      refine (HC.out k _ hlt HI.out).mono ?_
      rintro e w1 ⟨c, rfl, hr⟩
      rcases hr with ⟨rfl, hI1⟩ | ⟨hne, hB⟩
      · have HI1 := Lib.hid hI1
        clear hI1
        go_wp2_with fail
        go_roundw
        case rel => exact ⟨k + 1, by omega, by go_num, HI1.out⟩
        case measure => simp [intOf]; omega
      · have hb : (c != 0) = true := by rw [bne_iff_ne]; exact hne
        have HB := Lib.hid hB
        have HN := Lib.hid hne
        clear hB hne
        go_wp2_with fail
        go_ret
        exact .inr ⟨c, HN.out, rfl, HB.out⟩
    · obtain rfl : k = n := by omega
      have HI := Lib.hid hI
      clear hI
      go_wp2_with fail
      go_ret
      exact .inl ⟨rfl, HI.out⟩
theorem over_unpack1 (n : Nat) (hn : n ≤ 140737488355328) (p q : Value) (I : Nat → World → Prop) (Bad : Int → World → Prop)
    (hc : ∀ i W, i < n → I i W → Calls Tryz.prog 80 #[.int .i64 i, p, q] W (Step I Bad i)) (w : World) (h0 : I 0 w) :
    Calls Tryz.prog 61 #[.int .i64 n, .func (.func 80) #[] #[p, q]] w (Post I Bad n) := by
  have HC := Lib.hid hc
  have H0 := Lib.hid h0
  clear hc h0
  go_enter Tryz.func61, Tryz.ntmps61
  go_wp2_with fail
  go_loopw [8] (fun i wr => ∃ k : Nat, k ≤ n ∧ i = .int .i64 k ∧ I k wr) (fun i _ => n - (intOf i).toNat)
  case atStart => exact ⟨0, Nat.zero_le _, rfl, H0.out⟩
  case round =>
    obtain ⟨k, hk, rfl, hI⟩ := hrel
    by_cases hlt : k < n
    · have HI := Lib.hid hI
      clear hI
      go_wp2_with fail
      refine (HC.out k _ hlt HI.out).mono ?_
      rintro e w1 ⟨c, rfl, hr⟩
      rcases hr with ⟨rfl, hI1⟩ | ⟨hne, hB⟩
      · have HI1 := Lib.hid hI1
        clear hI1
        go_wp2_with fail
        go_roundw
        case rel => exact ⟨k + 1, by omega, by go_num, HI1.out⟩
        case measure => simp [intOf]; omega
      · have hb : (c != 0) = true := by rw [bne_iff_ne]; exact hne
        have HB := Lib.hid hB
        have HN := Lib.hid hne
        clear hB hne
        go_wp2_with fail
        go_ret
        exact .inr ⟨c, HN.out, rfl, HB.out⟩
    · obtain rfl : k = n := by omega
      have HI := Lib.hid hI
      clear hI
      go_wp2_with fail
      go_ret
      exact .inl ⟨rfl, HI.out⟩
theorem over_unpack2 (n : Nat) (hn : n ≤ 140737488355328) (p q r : Value) (I : Nat → World → Prop) (Bad : Int → World → Prop)
    (hc : ∀ i W, i < n → I i W → Calls Tryz.prog 81 #[.int .i64 i, p, q, r] W (Step I Bad i)) (w : World) (h0 : I 0 w) :
    Calls Tryz.prog 61 #[.int .i64 n, .func (.func 81) #[] #[p, q, r]] w (Post I Bad n) := by
  have HC := Lib.hid hc
  have H0 := Lib.hid h0
  clear hc h0
  go_enter Tryz.func61, Tryz.ntmps61
  go_wp2_with fail
  go_loopw [8] (fun i wr => ∃ k : Nat, k ≤ n ∧ i = .int .i64 k ∧ I k wr) (fun i _ => n - (intOf i).toNat)
  case atStart => exact ⟨0, Nat.zero_le _, rfl, H0.out⟩
  case round =>
    obtain ⟨k, hk, rfl, hI⟩ := hrel
    by_cases hlt : k < n
    · have HI := Lib.hid hI
      clear hI
      go_wp2_with fail
      refine (HC.out k _ hlt HI.out).mono ?_
      rintro e w1 ⟨c, rfl, hr⟩
      rcases hr with ⟨rfl, hI1⟩ | ⟨hne, hB⟩
      · have HI1 := Lib.hid hI1
        clear hI1
        go_wp2_with fail
        go_roundw
        case rel => exact ⟨k + 1, by omega, by go_num, HI1.out⟩
        case measure => simp [intOf]; omega
      · have hb : (c != 0) = true := by rw [bne_iff_ne]; exact hne
        have HB := Lib.hid hB
        have HN := Lib.hid hne
        clear hB hne
        go_wp2_with fail
        go_ret
        exact .inr ⟨c, HN.out, rfl, HB.out⟩
    · obtain rfl : k = n := by omega
      have HI := Lib.hid hI
      clear hI
      go_wp2_with fail
      go_ret
      exact .inl ⟨rfl, HI.out⟩
end Go.Proofs.YtkidehngleglnaaGreatDoor.OFirst
/- octet.Pack's closure: one number more is laid behind the others. -/
namespace Go.Proofs.YtkidehngleglnaaGreatDoor.OPackF
open Go.RowKit
theorem info5 : (Tryz.prog.info? 5).map (fun i => (i.zero, i.size, i.bytes)) = some (some (.int .u8 0), 1, 1) := by kernel_rfl
/-- What the closure leaves: the bytes are behind the others; below it nothing has turned. -/
def Post (B m : Nat) (xs : List UInt8) (r : List UInt8 × Int) (w : World) (e : Ending) (w' : World) : Prop :=
  ∃ v, e = .returned (.int .i64 r.2) ∧ w'.heap[B + 2]? = some (.cells #[v] 65 (0, 0)) ∧
    w'.ownsRow (B + 3) 5 1 v (m + r.1.length) (Lib.strCells ⟨(xs ++ r.1).toArray⟩) ∧ Below (B + 2) w w'
theorem kept4 {w w1 : World} {B b1 o1 c1 b2 o2 c2 i k : Nat} {x y : Int} (hb : Below w.heap.size w w1)
    (h1 : w.cell? ⟨B, 0, none⟩ = some (.slice (some ⟨b1, o1, none⟩) k c1)) (h2 : w.cell? ⟨B + 1, 0, none⟩ = some (.slice (some ⟨b2, o2, none⟩) k c2))
    (hx : w.cell? ⟨b2, o2 + i, none⟩ = some (.int .i64 x)) (hy : w.cell? ⟨b1, o1 + i, none⟩ = some (.int .i64 y)) :
    w1.cell? ⟨B, 0, none⟩ = some (.slice (some ⟨b1, o1, none⟩) k c1) ∧ w1.cell? ⟨B + 1, 0, none⟩ = some (.slice (some ⟨b2, o2, none⟩) k c2) ∧ w1.cell? ⟨b2, o2 + i, none⟩ = some (.int .i64 x) ∧ w1.cell? ⟨b1, o1 + i, none⟩ = some (.int .i64 y) := by
  have k := fun {p : Addr} {v : Value} (h : w.cell? p = some v) => (hb.cell (World.block_lt_of_cell? w p h)).trans h
  exact ⟨k h1, k h2, k hx, k hy⟩
theorem any (B b1 o1 c1 b2 o2 c2 i k m : Nat) (x y : Int) (v : Value) (xs : List UInt8) (w : World)
    (h1 : w.cell? ⟨B, 0, none⟩ = some (.slice (some ⟨b1, o1, none⟩) k c1)) (h2 : w.cell? ⟨B + 1, 0, none⟩ = some (.slice (some ⟨b2, o2, none⟩) k c2)) (hi : i < k)
    (hx : w.cell? ⟨b2, o2 + i, none⟩ = some (.int .i64 x)) (hy : w.cell? ⟨b1, o1 + i, none⟩ = some (.int .i64 y))
    (ho : w.heap[B + 2]? = some (.cells #[v] 65 (0, 0))) (hown : w.ownsRow (B + 3) 5 1 v m (Lib.strCells ⟨xs.toArray⟩)) (hm : m ≤ 100000) :
    Calls Tryz.prog 62 #[.int .i64 i, .pointer (some ⟨B + 1, 0, none⟩), .pointer (some ⟨B, 0, none⟩), .pointer (some ⟨B + 2, 0, none⟩)] w (Post B m xs (put x y) w) := by
  have hl := be_le x y
  have P := fun W => OPut.any x y W
  generalize put x y = r at *
  obtain ⟨bs, c⟩ := r
  obtain ⟨i0, hi0, hz0, hz1, hz2⟩ := info_parts info5
  have hvb := hown.lt
  have HO := Lib.hid ho
  have HV := Lib.hid hvb
  have HP := Lib.hid P
  clear ho hvb P
  have HW := Lib.hid hown
  clear hown
  go_enter Tryz.func62, Tryz.ntmps62
  go_wp2_with fail
  go_region_held3 (fun w' => w'.cell? ⟨B, 0, none⟩ = some (.slice (some ⟨b1, o1, none⟩) k c1) ∧ w'.cell? ⟨B + 1, 0, none⟩ = some (.slice (some ⟨b2, o2, none⟩) k c2) ∧ w'.cell? ⟨b2, o2 + i, none⟩ = some (.int .i64 x) ∧ w'.cell? ⟨b1, o1 + i, none⟩ = some (.int .i64 y))
    (first | exact ⟨h1, h2, hx, hy⟩ | exact hS1)
    (first | (go_at_call 21; refine (HP.out _).mono ?_; rintro e w1 ⟨rfl, hb1⟩; have hS1 := kept4 hb1 h1 h2 hx hy))
  rename_i hHeld
  clear hHeld hS1
  have hlt : B + 2 < w.heap.size := (Array.getElem?_eq_some_iff.1 HO.out).1
  have hb0 : Below w.heap.size w w1 := ⟨hb1.os, hb1.tape, hb1.output, hb1.size, hb1.block⟩
  have ho1 : w1.heap[B + 2]? = some (.cells #[v] 65 (0, 0)) := (hb0.block _ hlt).trans HO.out
  have hown1 : w1.ownsRow (B + 3) 5 1 v m (Lib.strCells ⟨xs.toArray⟩) :=
    HW.out.kept (row := none) ⟨hb0.os, hb0.tape, hb0.output, hb0.size, fun k hk _ => hb0.block k hk⟩ (by cases v.ownBlock <;> simp)
  have hc1 : w1.cell? ⟨B + 2, 0, none⟩ = some v := blk_cell ho1 rfl
  have HO1 := Lib.hid ho1
  have hsz1 : B + 3 ≤ w1.heap.size := by have := hb0.size; omega
  have HB0 := Lib.hid hb0
  clear ho1 h1 h2 hx hy hb1 hb0
  have hbs : (⟨bs.toArray⟩ : ByteArray).size = bs.length := rfl
  have HBS := Lib.hid hbs
  clear hbs
  go_wp2_with
    (at_builtin
     go_must (refine Lib.wpList_append_own_string _ rfl (.tmp 20) (.tmp 21) _ _ rfl (B + 3) 5 i0 Tryz.underlying65 Tryz.underlying9 hi0 hz0 hz1 hz2 v m _ rfl hown1 ⟨bs.toArray⟩ rfl (by rw [HBS.out]; unfold maxLen; omega) (by rw [HBS.out]; omega) hsz1 ?_)
     intro v' w2 hown2 hg2 hnil2
     obtain ⟨a', n', c', rfl⟩ := own_slice hown2
     have hlt1 : B + 2 < w1.heap.size := by omega
     have hne : some (B + 2) ≠ v.ownBlock := fun e => by have := (hown1.lt _ e.symm).1; omega
     have ho2 : w2.heap[B + 2]? = some (.cells #[v] 65 (0, 0)) := (hg2.block _ hlt1 hne).trans HO1.out
     have hc2 : w2.cell? ⟨B + 2, 0, none⟩ = some v := blk_cell ho2 rfl
     have hf2 : w2.frozen? ⟨B + 2, 0, none⟩ = false := blk_free ho2
     have HO2 := Lib.hid ho2
     have HG2 := Lib.hid hg2
     have HN2 := Lib.hid hnil2
     have HV1 := Lib.hid hown1.lt
     clear ho2 hg2 hnil2 hc1 hown1)
  go_ret
  refine ⟨.slice a' n' c', rfl, ?_, ?_, ?_⟩
  · rw [blk_set HO2.out]; rfl
  · have h := own_set (i := 0) hown2 (show B + 2 < B + 3 by omega) (.slice a' n' c')
    rw [HBS.out] at h
    simpa [Lib.strCells] using h
  · refine (((HB0.out.mono (by omega)).grown HG2.out (by omega) (fun k hk => ?_)).setCell (by simp) _)
    have := (HV1.out k hk).1
    omega
end Go.Proofs.YtkidehngleglnaaGreatDoor.OPackF
/- What octet.Pack answers, for slices of at most 10,000 numbers: the walk of its text. -/
namespace Go.Proofs.YtkidehngleglnaaGreatDoor.OPack
open Go.RowKit
/-- What stands ahead of the closure's i-th call. -/
def I (B : Nat) (aw al : Option Addr) (n cw cl : Nat) (ws ls : List Int) (w : World) (i : Nat) (W : World) : Prop :=
  okTo ws ls i ∧ W.heap[B]? = some (.cells #[.slice aw n cw] 73 (0, 0)) ∧ W.heap[B + 1]? = some (.cells #[.slice al n cl] 73 (0, 0)) ∧
  (∃ v, W.heap[B + 2]? = some (.cells #[v] 65 (0, 0)) ∧ W.ownsRow (B + 3) 5 1 v (packTo ws ls i).length (Lib.strCells ⟨(packTo ws ls i).toArray⟩)) ∧ Below B w W
/-- What stands where an error was told. -/
def Bad (B n : Nat) (ws ls : List Int) (w : World) (c : Int) (W : World) : Prop := c = 2 ∧ ¬ okTo ws ls n ∧ Below B w W
theorem step (aw al : Option Addr) (n cw cl : Nat) (ws ls : List Int) (w : World) (hw : Row w w.heap.size aw n ws) (hl : Row w w.heap.size al n ls) (hn : n ≤ 10000) (i : Nat) (W : World) (hi : i < n)
    (h : I w.heap.size aw al n cw cl ws ls w i W) :
    Calls Tryz.prog 62 #[.int .i64 i, .pointer (some ⟨w.heap.size + 1, 0, none⟩), .pointer (some ⟨w.heap.size, 0, none⟩), .pointer (some ⟨w.heap.size + 2, 0, none⟩)] W
      (OFirst.Step (I w.heap.size aw al n cw cl ws ls w) (Bad w.heap.size n ws ls w) i) := by
  obtain ⟨hok, hb0, hb1, ⟨v, hb2, hown⟩, hbel⟩ := h
  obtain ⟨b1, o1, rfl, hlt1, hc1⟩ := (hw.below hbel).2 (by omega)
  obtain ⟨b2, o2, rfl, hlt2, hc2⟩ := (hl.below hbel).2 (by omega)
  have hlen := packTo_length ws ls i
  refine (OPackF.any w.heap.size b1 o1 cw b2 o2 cl i n _ (ls.getD i 0) (ws.getD i 0) v (packTo ws ls i) W (blk_cell hb0 rfl) (blk_cell hb1 rfl) hi (hc2 i hi) (hc1 i hi) hb2 hown (by omega)).mono ?_
  rintro e w1 ⟨v', rfl, h2, hown', hbel'⟩
  refine ⟨_, rfl, ?_⟩
  by_cases hz : (put (ls.getD i 0) (ws.getD i 0)).2 = 0
  · refine .inl ⟨hz, okTo_next hok hz, (hbel'.block _ (by omega)).trans hb0, (hbel'.block _ (by omega)).trans hb1, ⟨v', h2, ?_⟩, hbel.trans (hbel'.mono (by omega))⟩
    have := hown'
    rw [← List.length_append] at this
    exact this
  · refine .inr ⟨hz, by rw [put_no _ _ hz], fun hall => hz (hall i hi), hbel.trans (hbel'.mono (by omega))⟩
theorem other (aw al : Option Addr) (nw nl cw cl : Nat) (w : World) (h : ((nl : Int) != (nw : Int)) = true) :
    Calls Tryz.prog 42 #[.slice aw nw cw, .slice al nl cl] w fun e w' => e = .returned (.tuple #[.string ⟨#[]⟩, .int .i64 2]) ∧ Below w.heap.size w w' := by
  have hb : Below w.heap.size w ((w.alloc (.cells #[.slice aw nw cw] 73)).alloc (.cells #[.slice al nl cl] 73)) :=
    ((Below.refl _ _).alloc (Nat.le_refl _) _).alloc (by simp) _
  go_enter Tryz.func42, Tryz.ntmps42
  go_wp2_with fail
  go_ret2
  exact ⟨rfl, hb⟩
theorem same (aw al : Option Addr) (n cw cl : Nat) (ws ls : List Int) (w : World) (hw : Row w w.heap.size aw n ws) (hl : Row w w.heap.size al n ls) (hn : n ≤ 10000) :
    Calls Tryz.prog 42 #[.slice aw n cw, .slice al n cl] w fun e w' => e = .returned (.tuple #[.string ⟨(pack ws ls).1.toArray⟩, .int .i64 (pack ws ls).2]) ∧ Below w.heap.size w w' := by
  have hmf : ∀ (fn : Fn) (first cap : Array Value) (w : World), (Instr.makeFunc fn first cap).run Tryz.prog w = .ok (.func fn first cap) w := fun _ _ _ _ => rfl
  have hs := Lib.hid (fun i W => step aw al n cw cl ws ls w hw hl hn i W)
  have hlw : ws.length = n := hw.1
  have hll : ls.length = n := hl.1
  have H1 := Lib.hid hlw
  have H2 := Lib.hid hll
  clear hlw hll hw hl
  have h0 : I w.heap.size aw al n cw cl ws ls w 0 (((w.alloc (.cells #[.slice aw n cw] 73)).alloc (.cells #[.slice al n cl] 73)).alloc (.cells #[.slice none 0 0] 65)) := by
    refine ⟨fun j hj => absurd hj (by omega), ?_, ?_, ⟨.slice none 0 0, ?_, ?_⟩, (((Below.refl _ _).alloc (Nat.le_refl _) _).alloc (by simp) _).alloc (by simp; omega) _⟩
    · rw [Below.heap_alloc _ _ _ (by simp; omega), Below.heap_alloc _ _ _ (by simp)]; exact heap_alloc_new w _
    · rw [Below.heap_alloc _ _ _ (by simp)]
      have := heap_alloc_new (w.alloc (.cells #[.slice aw n cw] 73)) (.cells #[.slice al n cl] 73)
      simpa using this
    · have := heap_alloc_new ((w.alloc (.cells #[.slice aw n cw] 73)).alloc (.cells #[.slice al n cl] 73)) (.cells #[.slice none 0 0] 65)
      simpa using this
    · exact World.ownsRow_nil _ _ _ _
  have H0 := Lib.hid h0
  clear h0
  go_enter Tryz.func42, Tryz.ntmps42
  go_wp2_with fail
  refine (OFirst.over_pack n (by omega) _ _ _ _ _ hs.out _ H0.out).mono ?_
  rintro e w1 hpost
  rcases hpost with ⟨rfl, hI⟩ | ⟨c, hne, rfl, hB⟩
  · obtain ⟨hok, _, _, ⟨v, hb2, hown⟩, hbel⟩ := hI
    have hp : pack ws ls = (packTo ws ls n, 0) := by
      rw [pack, if_pos ⟨by rw [H1.out, H2.out], by rw [H2.out]; exact hok⟩, H2.out]
    obtain ⟨a', n', c', rfl⟩ := own_slice hown
    have hcv := conv_own (P := Tryz.prog) (src := 65) (dst := 9) Tryz.underlying65 Tryz.underlying5 Tryz.underlying9 hown
    have hc2 := blk_cell (i := 0) hb2 rfl
    have HP := Lib.hid hp
    clear hp hown hb2 hok
    go_wp2_with fail
    go_ret2
    exact ⟨by rw [HP.out]; rfl, hbel⟩
  · obtain ⟨rfl, hbad, hbel⟩ := hB
    have hp : pack ws ls = ([], 2) := by
      rw [pack, if_neg (fun h => hbad (by have := h.2; rw [H2.out] at this; exact this))]
    have HP := Lib.hid hp
    clear hp hbad hne
    go_wp2_with fail
    go_ret2
    exact ⟨by rw [HP.out]; rfl, hbel⟩
/-- THE CONTRACT of octet.Pack. -/
theorem any (aw al : Option Addr) (nw nl cw cl : Nat) (ws ls : List Int) (w : World) (hw : Row w w.heap.size aw nw ws) (hl : Row w w.heap.size al nl ls) (hn : nl ≤ 10000) :
    Calls Tryz.prog 42 #[.slice aw nw cw, .slice al nl cl] w fun e w' => e = .returned (.tuple #[.string ⟨(pack ws ls).1.toArray⟩, .int .i64 (pack ws ls).2]) ∧ Below w.heap.size w w' := by
  by_cases h : nl = nw
  · subst h
    exact same aw al nl cw cl ws ls w hw hl hn
  · have hp : pack ws ls = ([], 2) := by
      rw [pack, if_neg (fun hh => h (by rw [← hl.1, ← hw.1]; exact hh.1.symm))]
    rw [hp]
    exact other aw al nw nl cw cl w (by rw [bne_iff_ne]; omega)
end Go.Proofs.YtkidehngleglnaaGreatDoor.OPack
