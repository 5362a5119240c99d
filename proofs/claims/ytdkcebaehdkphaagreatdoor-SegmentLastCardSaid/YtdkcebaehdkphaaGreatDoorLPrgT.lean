/- PrgT PrgI: one behind the other. -/
import Derived.Test.YtdkcebaehdkphaaGreatDoorLPrgA
import Derived.Test.YtdkcebaehdkphaaGreatDoorLPrfN
import Derived.Test.YtdkcebaehdkphaaGreatDoorMerJ
import Derived.Test.YtdkcebaehdkphaaGreatDoorLPrgH
import Derived.Deep.DeepCutAuto
/- The program's package proof: seats: the walk of its text. No conditions but those that each lemma names. -/
namespace Go.Proofs.YtdkcebaehdkphaaGreatDoor.PrgT
open Go.RowKit
open PrfL PrfN PrfM PrfB PrgN PrgC MerQ
/-- A leaf that a proof names, as it lies in memory. -/
structure MSeat where
  s : Seat
  a : Option Addr
  c : Nat
def sa (m : MSeat) : Array Value := #[.int .i64 m.s.at_, .int .i64 m.s.side, .int .i64 m.s.leaf.1, st m.s.leaf.2, .slice m.a m.s.path.length m.c]
def sc (m : MSeat) : List Value := [.int .i64 m.s.at_, .int .i64 m.s.side, .int .i64 m.s.leaf.1, st m.s.leaf.2, .slice m.a m.s.path.length m.c]
def rs (l : List MSeat) : List Value := l.flatMap sc
theorem rs_append (l m : List MSeat) : rs (l ++ m) = rs l ++ rs m := by simp [rs]
theorem sc_one (m : MSeat) : ∀ u ∈ sc m, u.oneCell' = true := by
  intro u hu
  simp only [sc, List.mem_cons, List.not_mem_nil, or_false] at hu
  rcases hu with rfl | rfl | rfl | rfl | rfl <;> rfl
theorem info_seat : ((Tryz.prog.info? 129).map fun i => (i.zero, i.size, i.bytes)) = some (some (.agg #[.int .i64 0, .int .i64 0, .int .i64 0, .string ByteArray.empty, .slice none 0 0]), 5, 64) := by kernel_rfl
theorem own_slice_len {w : World} {base : Nat} {e : TypeId} {size : Nat} {v : Value} {n : Nat} {xs : List Value} (h : w.ownsRow base e size v n xs) : ∃ a c, v = .slice a n c := by
  rcases h.2 with ⟨rfl, rfl⟩ | ⟨g, cap, cur, rfl, _⟩
  · exact ⟨_, _, rfl⟩
  · exact ⟨_, _, rfl⟩
theorem cell_row_new (w : World) (m : MSeat) (t : TypeId) : ∀ j u, (sc m)[j]? = some u → (w.alloc (.cells (sa m) t)).cell? ((⟨w.heap.size, 0, none⟩ : Addr).add j) = some u := fun j u hj => by
  rw [add_off, Nat.zero_add]
  exact blk_cell (heap_alloc_new w _) (by rw [← Array.getElem?_toList]; exact hj)
/-- A seat appended to a row of the call's own. -/
theorem append_seat {ops : Array Oper} {rest : List Oper} {o : Oper} {a : Act} {Q : Exit → Act → World → Prop} (w : World) (m : MSeat) (hgd : o.guard = none) (s x : Operand)
    (ho : o.op = .call { callee := .builtin .append, args := #[s, x], argTypes := #[131, 131] }) (base c : Nat) (p : Option Addr) (l : List MSeat) (hs : a.eval s = .slice p l.length c) (hn : l.length ≤ 100000) (hb : base ≤ w.heap.size)
    (hx : a.eval x = .slice (some ⟨w.heap.size, 0, none⟩) 1 1) (hown : w.ownsRow base 129 5 (.slice p l.length c) l.length (rs l))
    (h : ∀ p' c' w', w'.ownsRow base 129 5 (.slice p' (l ++ [m]).length c') (l ++ [m]).length (rs (l ++ [m])) → Below base w w' → wpList Tryz.prog ops Q rest (a.put o.dst (.slice p' (l.length + 1) c')) w') :
    wpList Tryz.prog ops Q (o :: rest) a (w.alloc (.cells (sa m) 129)) := by
  obtain ⟨i0, hi, hz0, hz1, hz2⟩ := info_parts info_seat
  refine wpList_append_own _ hgd s x 131 ho base 129 i0 (.agg #[.int .i64 0, .int .i64 0, .int .i64 0, .string ByteArray.empty, .slice none 0 0]) 5 64 Tryz.underlying131 hi hz0 hz1 hz2 rfl (by decide) _ _ _ hs (hown.alloc _) ⟨w.heap.size, 0, none⟩ 1 1 (sc m) hx rfl (cell_row_new w m _) (sc_one m) (by unfold maxLen; omega) (by omega) (by simp; omega) ?_
  intro v' w1 h1 hgrow _
  obtain ⟨p', c', rfl⟩ := own_slice_len h1
  refine h p' c' w1 (by rw [rs_append, List.length_append]; simpa [rs] using h1) ?_
  exact Below.grown ((below_new w _).mono hb) hgrow (by simp; omega) (fun k hk => (hown.lt k hk).1)
/-- The leaves that a proof names, as they lie in memory. -/
def seatsR (n : Int) (x : Raw) : List MSeat := (if hereP n (pf x) = true then [⟨hereS (pf x), x.ua, x.uc⟩] else []) ++ (if aheadP (pf x) = true then [⟨aheadS (pf x), x.la, x.lc⟩] else [])
theorem seats_map (n : Int) (x : Raw) : (seatsR n x).map (·.s) = seatsP n (pf x) := by
  unfold seatsR seatsP
  rw [List.map_append]
  cases hereP n (pf x) <;> cases aheadP (pf x) <;> rfl
theorem seats_few (n : Int) (x : Raw) : (seatsR n x).length ≤ 2 := by
  unfold seatsR
  rw [List.length_append]
  cases hereP n (pf x) <;> cases aheadP (pf x) <;> simp
/-- What seats answers. -/
def SeatsAns (w : World) (l : List MSeat) (e : Ending) (w' : World) : Prop :=
  ∃ p c, e = .returned (.slice p l.length c) ∧ w'.ownsRow w.heap.size 129 5 (.slice p l.length c) l.length (rs l) ∧ Below w.heap.size w w'
set_option maxRecDepth 100000 in
set_option maxHeartbeats 2000000 in
theorem wayha (n : Int) (x : Raw) (w : World) (hh : hereP n (pf x) = true) (ha : aheadP (pf x) = true) (hf : x.f = false) (hi : x.at_ ≤ 9223372036854775807) : Calls Tryz.prog 81 #[.int .i64 n, .agg x.cells] w (SeatsAns w (seatsR n x)) := by
  obtain ⟨W1, hW1⟩ : ∃ W1, W1 = w.alloc (.cells x.cells 48) := ⟨_, rfl⟩
  have BX := Lib.hid (show BoxP w.heap.size x W1 by rw [hW1]; exact boxp_new w x)
  have B1 := Lib.hid (show Below w.heap.size w W1 by rw [hW1]; exact below_new w _)
  have HN := Lib.hid (fun W => namesHere n x W)
  have HA := Lib.hid (fun W => namesAhead x W)
  rw [hh] at HN
  rw [ha] at HA
  have hl : seatsR n x = [⟨⟨x.at_, 1, x.here, x.up⟩, x.ua, x.uc⟩, ⟨⟨x.at_ - 1, -1, x.ahead, x.left⟩, x.la, x.lc⟩] := by
    unfold seatsR; rw [hh, ha]; show [(⟨⟨x.at_, if x.f = true then 0 else 1, x.here, x.up⟩, x.ua, x.uc⟩ : MSeat)] ++ [⟨⟨x.at_ - 1, -1, x.ahead, x.left⟩, x.la, x.lc⟩] = _; rw [hf]; rfl
  rw [hl]
  have hpos : 0 < x.at_ := by
    have := ha
    unfold aheadP at this
    rw [Bool.and_eq_true, decide_eq_true_eq] at this
    exact this.2
  have hw : IntKind.i64.wrap (x.at_ - 1) = x.at_ - 1 := IntWalk.i64_in _ (by omega)
  have hw2 : wrap64 (x.at_ - 1) = x.at_ - 1 := IntWalk.wrap64_in _ (by omega)
  clear hpos hi
  have HXF := Lib.hid hf
  clear hh ha hl hf
  go_enter Tryz.func81, Tryz.ntmps81
  go_upto_region 2 with (fail)
  rw [← hW1]
  clear hW1
  go_upto_region 3 with (first | (refine wpList_load_row rfl 48 _ rfl w.heap.size rfl 48 _ (0, 0) _ BX.out Tryz.underlying48 rfl infoP ?_) | (go_at_call 66; refine (HN.out _).mono ?_; rintro e V0 ⟨rfl, hb⟩; replace BX := Lib.hid ((show BoxP w.heap.size x _ from BX.out).step hb); replace B1 := Lib.hid (B1.out.trans (hb.mono B1.out.size)); clear hb))
  obtain ⟨c0, c1, c2, c3, c4, c5, c6, c7⟩ := (show BoxP w.heap.size x _ from BX.out).cells
  rw [HXF.out] at c0
  go_upto_region 6 with (fail)
  have HV := Lib.hid (show BoxP w.heap.size x _ from BX.out).lt
  go_upto_region 7 with (at_builtin; refine append_seat V0 ⟨⟨x.at_, 1, x.here, x.up⟩, x.ua, x.uc⟩ rfl _ _ rfl (w.heap.size + 1) 0 none [] rfl (by simp) HV.out rfl (World.ownsRow_nil _ _ _ _) ?_; intro p0 d0 X0 ho hb; have O0 := Lib.hid ho; replace BX := Lib.hid ((hb.block w.heap.size (Nat.lt_succ_self _)).trans BX.out); replace B1 := Lib.hid (B1.out.trans (hb.mono (Nat.le_succ _))); clear ho hb)
  clear HV
  clear c0 c1 c2 c3 c4 c5 c6 c7
  go_upto_region 8 with (first | (refine wpList_load_row rfl 48 _ rfl w.heap.size rfl 48 _ (0, 0) _ BX.out Tryz.underlying48 rfl infoP ?_) | (go_at_call 67; refine (HA.out _).mono ?_; rintro e V1 ⟨rfl, hb⟩; replace BX := Lib.hid ((show BoxP w.heap.size x _ from BX.out).step hb); replace B1 := Lib.hid (B1.out.trans (hb.mono B1.out.size)); replace O0 := Lib.hid (MerJ.own_later O0.out hb); clear hb))
  obtain ⟨c0, c1, c2, c3, c4, c5, c6, c7⟩ := (show BoxP w.heap.size x _ from BX.out).cells
  rw [HXF.out] at c0
  have HV := Lib.hid (show BoxP w.heap.size x _ from BX.out).lt
  go_upto_region 9 with (at_builtin; refine append_seat V1 ⟨⟨x.at_ - 1, -1, x.ahead, x.left⟩, x.la, x.lc⟩ rfl _ _ rfl (w.heap.size + 1) d0 p0 [⟨⟨x.at_, 1, x.here, x.up⟩, x.ua, x.uc⟩] rfl (by simp) HV.out rfl (O0.out) ?_; intro p1 d1 X1 ho hb; have O1 := Lib.hid ho; replace BX := Lib.hid ((hb.block w.heap.size (Nat.lt_succ_self _)).trans BX.out); replace B1 := Lib.hid (B1.out.trans (hb.mono (Nat.le_succ _))); clear ho hb)
  clear HV
  clear c0 c1 c2 c3 c4 c5 c6 c7
  go_wp2
  go_ret
  exact ⟨p1, d1, rfl, PrgO.own_base O1.out (Nat.le_succ _), B1.out⟩
set_option maxRecDepth 100000 in
set_option maxHeartbeats 2000000 in
theorem wayhf (n : Int) (x : Raw) (w : World) (hh : hereP n (pf x) = true) (ha : aheadP (pf x) = false) (hf : x.f = true) : Calls Tryz.prog 81 #[.int .i64 n, .agg x.cells] w (SeatsAns w (seatsR n x)) := by
  obtain ⟨W1, hW1⟩ : ∃ W1, W1 = w.alloc (.cells x.cells 48) := ⟨_, rfl⟩
  have BX := Lib.hid (show BoxP w.heap.size x W1 by rw [hW1]; exact boxp_new w x)
  have B1 := Lib.hid (show Below w.heap.size w W1 by rw [hW1]; exact below_new w _)
  have HN := Lib.hid (fun W => namesHere n x W)
  have HA := Lib.hid (fun W => namesAhead x W)
  rw [hh] at HN
  rw [ha] at HA
  have hl : seatsR n x = [⟨⟨x.at_, 0, x.here, x.up⟩, x.ua, x.uc⟩] := by
    unfold seatsR; rw [hh, ha]; show [(⟨⟨x.at_, if x.f = true then 0 else 1, x.here, x.up⟩, x.ua, x.uc⟩ : MSeat)] ++ [] = _; rw [hf]; rfl
  rw [hl]
  have HXF := Lib.hid hf
  clear hh ha hl hf
  go_enter Tryz.func81, Tryz.ntmps81
  go_upto_region 2 with (fail)
  rw [← hW1]
  clear hW1
  go_upto_region 3 with (first | (refine wpList_load_row rfl 48 _ rfl w.heap.size rfl 48 _ (0, 0) _ BX.out Tryz.underlying48 rfl infoP ?_) | (go_at_call 66; refine (HN.out _).mono ?_; rintro e V0 ⟨rfl, hb⟩; replace BX := Lib.hid ((show BoxP w.heap.size x _ from BX.out).step hb); replace B1 := Lib.hid (B1.out.trans (hb.mono B1.out.size)); clear hb))
  obtain ⟨c0, c1, c2, c3, c4, c5, c6, c7⟩ := (show BoxP w.heap.size x _ from BX.out).cells
  rw [HXF.out] at c0
  go_upto_region 6 with (fail)
  have HV := Lib.hid (show BoxP w.heap.size x _ from BX.out).lt
  go_upto_region 7 with (at_builtin; refine append_seat V0 ⟨⟨x.at_, 0, x.here, x.up⟩, x.ua, x.uc⟩ rfl _ _ rfl (w.heap.size + 1) 0 none [] rfl (by simp) HV.out rfl (World.ownsRow_nil _ _ _ _) ?_; intro p0 d0 X0 ho hb; have O0 := Lib.hid ho; replace BX := Lib.hid ((hb.block w.heap.size (Nat.lt_succ_self _)).trans BX.out); replace B1 := Lib.hid (B1.out.trans (hb.mono (Nat.le_succ _))); clear ho hb)
  clear HV
  clear c0 c1 c2 c3 c4 c5 c6 c7
  go_upto_region 9 with (first | (refine wpList_load_row rfl 48 _ rfl w.heap.size rfl 48 _ (0, 0) _ BX.out Tryz.underlying48 rfl infoP ?_) | (go_at_call 67; refine (HA.out _).mono ?_; rintro e V1 ⟨rfl, hb⟩; replace BX := Lib.hid ((show BoxP w.heap.size x _ from BX.out).step hb); replace B1 := Lib.hid (B1.out.trans (hb.mono B1.out.size)); replace O0 := Lib.hid (MerJ.own_later O0.out hb); clear hb))
  go_wp2
  go_ret
  exact ⟨p0, d0, rfl, PrgO.own_base O0.out (Nat.le_succ _), B1.out⟩
set_option maxRecDepth 100000 in
set_option maxHeartbeats 2000000 in
theorem wayh (n : Int) (x : Raw) (w : World) (hh : hereP n (pf x) = true) (ha : aheadP (pf x) = false) (hf : x.f = false) : Calls Tryz.prog 81 #[.int .i64 n, .agg x.cells] w (SeatsAns w (seatsR n x)) := by
  obtain ⟨W1, hW1⟩ : ∃ W1, W1 = w.alloc (.cells x.cells 48) := ⟨_, rfl⟩
  have BX := Lib.hid (show BoxP w.heap.size x W1 by rw [hW1]; exact boxp_new w x)
  have B1 := Lib.hid (show Below w.heap.size w W1 by rw [hW1]; exact below_new w _)
  have HN := Lib.hid (fun W => namesHere n x W)
  have HA := Lib.hid (fun W => namesAhead x W)
  rw [hh] at HN
  rw [ha] at HA
  have hl : seatsR n x = [⟨⟨x.at_, 1, x.here, x.up⟩, x.ua, x.uc⟩] := by
    unfold seatsR; rw [hh, ha]; show [(⟨⟨x.at_, if x.f = true then 0 else 1, x.here, x.up⟩, x.ua, x.uc⟩ : MSeat)] ++ [] = _; rw [hf]; rfl
  rw [hl]
  have HXF := Lib.hid hf
  clear hh ha hl hf
  go_enter Tryz.func81, Tryz.ntmps81
  go_upto_region 2 with (fail)
  rw [← hW1]
  clear hW1
  go_upto_region 3 with (first | (refine wpList_load_row rfl 48 _ rfl w.heap.size rfl 48 _ (0, 0) _ BX.out Tryz.underlying48 rfl infoP ?_) | (go_at_call 66; refine (HN.out _).mono ?_; rintro e V0 ⟨rfl, hb⟩; replace BX := Lib.hid ((show BoxP w.heap.size x _ from BX.out).step hb); replace B1 := Lib.hid (B1.out.trans (hb.mono B1.out.size)); clear hb))
  obtain ⟨c0, c1, c2, c3, c4, c5, c6, c7⟩ := (show BoxP w.heap.size x _ from BX.out).cells
  rw [HXF.out] at c0
  go_upto_region 6 with (fail)
  have HV := Lib.hid (show BoxP w.heap.size x _ from BX.out).lt
  go_upto_region 7 with (at_builtin; refine append_seat V0 ⟨⟨x.at_, 1, x.here, x.up⟩, x.ua, x.uc⟩ rfl _ _ rfl (w.heap.size + 1) 0 none [] rfl (by simp) HV.out rfl (World.ownsRow_nil _ _ _ _) ?_; intro p0 d0 X0 ho hb; have O0 := Lib.hid ho; replace BX := Lib.hid ((hb.block w.heap.size (Nat.lt_succ_self _)).trans BX.out); replace B1 := Lib.hid (B1.out.trans (hb.mono (Nat.le_succ _))); clear ho hb)
  clear HV
  clear c0 c1 c2 c3 c4 c5 c6 c7
  go_upto_region 9 with (first | (refine wpList_load_row rfl 48 _ rfl w.heap.size rfl 48 _ (0, 0) _ BX.out Tryz.underlying48 rfl infoP ?_) | (go_at_call 67; refine (HA.out _).mono ?_; rintro e V1 ⟨rfl, hb⟩; replace BX := Lib.hid ((show BoxP w.heap.size x _ from BX.out).step hb); replace B1 := Lib.hid (B1.out.trans (hb.mono B1.out.size)); replace O0 := Lib.hid (MerJ.own_later O0.out hb); clear hb))
  go_wp2
  go_ret
  exact ⟨p0, d0, rfl, PrgO.own_base O0.out (Nat.le_succ _), B1.out⟩
set_option maxRecDepth 100000 in
set_option maxHeartbeats 2000000 in
theorem waya (n : Int) (x : Raw) (w : World) (hh : hereP n (pf x) = false) (ha : aheadP (pf x) = true) (hf : x.f = false) (hi : x.at_ ≤ 9223372036854775807) : Calls Tryz.prog 81 #[.int .i64 n, .agg x.cells] w (SeatsAns w (seatsR n x)) := by
  obtain ⟨W1, hW1⟩ : ∃ W1, W1 = w.alloc (.cells x.cells 48) := ⟨_, rfl⟩
  have BX := Lib.hid (show BoxP w.heap.size x W1 by rw [hW1]; exact boxp_new w x)
  have B1 := Lib.hid (show Below w.heap.size w W1 by rw [hW1]; exact below_new w _)
  have HN := Lib.hid (fun W => namesHere n x W)
  have HA := Lib.hid (fun W => namesAhead x W)
  rw [hh] at HN
  rw [ha] at HA
  have hl : seatsR n x = [⟨⟨x.at_ - 1, -1, x.ahead, x.left⟩, x.la, x.lc⟩] := by
    unfold seatsR; rw [hh, ha]; rfl
  rw [hl]
  have hpos : 0 < x.at_ := by
    have := ha
    unfold aheadP at this
    rw [Bool.and_eq_true, decide_eq_true_eq] at this
    exact this.2
  have hw : IntKind.i64.wrap (x.at_ - 1) = x.at_ - 1 := IntWalk.i64_in _ (by omega)
  have hw2 : wrap64 (x.at_ - 1) = x.at_ - 1 := IntWalk.wrap64_in _ (by omega)
  clear hpos hi
  have HXF := Lib.hid hf
  clear hh ha hl hf
  go_enter Tryz.func81, Tryz.ntmps81
  go_upto_region 2 with (fail)
  rw [← hW1]
  clear hW1
  go_upto_region 7 with (first | (refine wpList_load_row rfl 48 _ rfl w.heap.size rfl 48 _ (0, 0) _ BX.out Tryz.underlying48 rfl infoP ?_) | (go_at_call 66; refine (HN.out _).mono ?_; rintro e V0 ⟨rfl, hb⟩; replace BX := Lib.hid ((show BoxP w.heap.size x _ from BX.out).step hb); replace B1 := Lib.hid (B1.out.trans (hb.mono B1.out.size)); clear hb))
  go_upto_region 8 with (first | (refine wpList_load_row rfl 48 _ rfl w.heap.size rfl 48 _ (0, 0) _ BX.out Tryz.underlying48 rfl infoP ?_) | (go_at_call 67; refine (HA.out _).mono ?_; rintro e V1 ⟨rfl, hb⟩; replace BX := Lib.hid ((show BoxP w.heap.size x _ from BX.out).step hb); replace B1 := Lib.hid (B1.out.trans (hb.mono B1.out.size)); clear hb))
  obtain ⟨c0, c1, c2, c3, c4, c5, c6, c7⟩ := (show BoxP w.heap.size x _ from BX.out).cells
  rw [HXF.out] at c0
  have HV := Lib.hid (show BoxP w.heap.size x _ from BX.out).lt
  go_upto_region 9 with (at_builtin; refine append_seat V1 ⟨⟨x.at_ - 1, -1, x.ahead, x.left⟩, x.la, x.lc⟩ rfl _ _ rfl (w.heap.size + 1) 0 none [] rfl (by simp) HV.out rfl (World.ownsRow_nil _ _ _ _) ?_; intro p1 d1 X1 ho hb; have O1 := Lib.hid ho; replace BX := Lib.hid ((hb.block w.heap.size (Nat.lt_succ_self _)).trans BX.out); replace B1 := Lib.hid (B1.out.trans (hb.mono (Nat.le_succ _))); clear ho hb)
  clear HV
  clear c0 c1 c2 c3 c4 c5 c6 c7
  go_wp2
  go_ret
  exact ⟨p1, d1, rfl, PrgO.own_base O1.out (Nat.le_succ _), B1.out⟩
set_option maxRecDepth 100000 in
set_option maxHeartbeats 2000000 in
theorem wayf (n : Int) (x : Raw) (w : World) (hh : hereP n (pf x) = false) (ha : aheadP (pf x) = false) (hf : x.f = true) : Calls Tryz.prog 81 #[.int .i64 n, .agg x.cells] w (SeatsAns w (seatsR n x)) := by
  obtain ⟨W1, hW1⟩ : ∃ W1, W1 = w.alloc (.cells x.cells 48) := ⟨_, rfl⟩
  have BX := Lib.hid (show BoxP w.heap.size x W1 by rw [hW1]; exact boxp_new w x)
  have B1 := Lib.hid (show Below w.heap.size w W1 by rw [hW1]; exact below_new w _)
  have HN := Lib.hid (fun W => namesHere n x W)
  have HA := Lib.hid (fun W => namesAhead x W)
  rw [hh] at HN
  rw [ha] at HA
  have hl : seatsR n x = [] := by
    unfold seatsR; rw [hh, ha]; rfl
  rw [hl]
  have HXF := Lib.hid hf
  clear hh ha hl hf
  go_enter Tryz.func81, Tryz.ntmps81
  go_upto_region 2 with (fail)
  rw [← hW1]
  clear hW1
  go_upto_region 7 with (first | (refine wpList_load_row rfl 48 _ rfl w.heap.size rfl 48 _ (0, 0) _ BX.out Tryz.underlying48 rfl infoP ?_) | (go_at_call 66; refine (HN.out _).mono ?_; rintro e V0 ⟨rfl, hb⟩; replace BX := Lib.hid ((show BoxP w.heap.size x _ from BX.out).step hb); replace B1 := Lib.hid (B1.out.trans (hb.mono B1.out.size)); clear hb))
  go_upto_region 9 with (first | (refine wpList_load_row rfl 48 _ rfl w.heap.size rfl 48 _ (0, 0) _ BX.out Tryz.underlying48 rfl infoP ?_) | (go_at_call 67; refine (HA.out _).mono ?_; rintro e V1 ⟨rfl, hb⟩; replace BX := Lib.hid ((show BoxP w.heap.size x _ from BX.out).step hb); replace B1 := Lib.hid (B1.out.trans (hb.mono B1.out.size)); clear hb))
  go_wp2
  go_ret
  exact ⟨none, 0, rfl, World.ownsRow_nil _ _ _ _, B1.out⟩
set_option maxRecDepth 100000 in
set_option maxHeartbeats 2000000 in
theorem way (n : Int) (x : Raw) (w : World) (hh : hereP n (pf x) = false) (ha : aheadP (pf x) = false) (hf : x.f = false) : Calls Tryz.prog 81 #[.int .i64 n, .agg x.cells] w (SeatsAns w (seatsR n x)) := by
  obtain ⟨W1, hW1⟩ : ∃ W1, W1 = w.alloc (.cells x.cells 48) := ⟨_, rfl⟩
  have BX := Lib.hid (show BoxP w.heap.size x W1 by rw [hW1]; exact boxp_new w x)
  have B1 := Lib.hid (show Below w.heap.size w W1 by rw [hW1]; exact below_new w _)
  have HN := Lib.hid (fun W => namesHere n x W)
  have HA := Lib.hid (fun W => namesAhead x W)
  rw [hh] at HN
  rw [ha] at HA
  have hl : seatsR n x = [] := by
    unfold seatsR; rw [hh, ha]; rfl
  rw [hl]
  have HXF := Lib.hid hf
  clear hh ha hl hf
  go_enter Tryz.func81, Tryz.ntmps81
  go_upto_region 2 with (fail)
  rw [← hW1]
  clear hW1
  go_upto_region 7 with (first | (refine wpList_load_row rfl 48 _ rfl w.heap.size rfl 48 _ (0, 0) _ BX.out Tryz.underlying48 rfl infoP ?_) | (go_at_call 66; refine (HN.out _).mono ?_; rintro e V0 ⟨rfl, hb⟩; replace BX := Lib.hid ((show BoxP w.heap.size x _ from BX.out).step hb); replace B1 := Lib.hid (B1.out.trans (hb.mono B1.out.size)); clear hb))
  go_upto_region 9 with (first | (refine wpList_load_row rfl 48 _ rfl w.heap.size rfl 48 _ (0, 0) _ BX.out Tryz.underlying48 rfl infoP ?_) | (go_at_call 67; refine (HA.out _).mono ?_; rintro e V1 ⟨rfl, hb⟩; replace BX := Lib.hid ((show BoxP w.heap.size x _ from BX.out).step hb); replace B1 := Lib.hid (B1.out.trans (hb.mono B1.out.size)); clear hb))
  go_wp2
  go_ret
  exact ⟨none, 0, rfl, World.ownsRow_nil _ _ _ _, B1.out⟩
theorem seats (n : Int) (x : Raw) (w : World) (hi : x.at_ ≤ 9223372036854775807) : Calls Tryz.prog 81 #[.int .i64 n, .agg x.cells] w (SeatsAns w (seatsR n x)) := by
  cases hh : hereP n (pf x) <;> cases ha : aheadP (pf x) <;> cases hf : x.f
  · exact way n x w hh ha hf
  · exact wayf n x w hh ha hf
  · exact waya n x w hh ha hf hi
  · unfold aheadP at ha; rw [show (pf x).found = x.f from rfl, hf] at ha; simp at ha
  · exact wayh n x w hh ha hf
  · exact wayhf n x w hh ha hf
  · exact wayha n x w hh ha hf hi
  · unfold aheadP at ha; rw [show (pf x).found = x.f from rfl, hf] at ha; simp at ha
end Go.Proofs.YtdkcebaehdkphaaGreatDoor.PrgT
/- slices.IndexFunc, slices.ContainsFunc over seats, and the program's every, over any closure: the walks of their texts. The condition: that the closure answers. -/
namespace Go.Proofs.YtdkcebaehdkphaaGreatDoor.PrgI
open Go.RowKit
open PrfL PrfN PrfM PrfB PrgN PrgC PrgT MerQ
/-- A row reads as these seats. -/
def Seats (W : World) (B : Nat) (a : Option Addr) (l : List MSeat) : Prop :=
  0 < l.length → ∃ g o, a = some ⟨g, o, none⟩ ∧ g < B ∧ ∀ j u, (rs l)[j]? = some u → W.cell? ⟨g, o + j, none⟩ = some u
theorem Seats.below {W W' : World} {B : Nat} {a : Option Addr} {l : List MSeat} (h : Seats W B a l) (hb : Below B W W') : Seats W' B a l := fun h0 => by
  obtain ⟨g, o, e, hg, hc⟩ := h h0
  exact ⟨g, o, e, hg, fun j u hj => (hb.cell (p := ⟨g, o + j, none⟩) hg).trans (hc j u hj)⟩
theorem Seats.more {W : World} {B B' : Nat} {a : Option Addr} {l : List MSeat} (h : Seats W B a l) (hb : B ≤ B') : Seats W B' a l := fun h0 => by
  obtain ⟨g, o, e, hg, hc⟩ := h h0
  exact ⟨g, o, e, Nat.lt_of_lt_of_le hg hb, hc⟩
theorem rs_cons (m : MSeat) (l : List MSeat) : rs (m :: l) = .int .i64 m.s.at_ :: .int .i64 m.s.side :: .int .i64 m.s.leaf.1 :: st m.s.leaf.2 :: .slice m.a m.s.path.length m.c :: rs l := rfl
theorem rs_at : ∀ (l : List MSeat) (i : Nat) (h : i < l.length), (rs l)[i * 5]? = some (.int .i64 l[i].s.at_) ∧ (rs l)[i * 5 + 1]? = some (.int .i64 l[i].s.side) ∧ (rs l)[i * 5 + 2]? = some (.int .i64 l[i].s.leaf.1) ∧ (rs l)[i * 5 + 3]? = some (st l[i].s.leaf.2) ∧ (rs l)[i * 5 + 4]? = some (.slice l[i].a l[i].s.path.length l[i].c)
  | [], i, h => by simp at h
  | m :: l, 0, _ => ⟨rfl, rfl, rfl, rfl, rfl⟩
  | m :: l, i + 1, h => by
    have := rs_at l i (by simpa using h)
    rw [rs_cons, show (i + 1) * 5 = i * 5 + 1 + 1 + 1 + 1 + 1 by omega]
    simpa using this
def noM : MSeat := ⟨noSeat, none, 0⟩
theorem Seats.at_ {W : World} {B : Nat} {a : Option Addr} {l : List MSeat} (h : Seats W B a l) {i : Nat} (hi : i < l.length) : ∃ g o, a = some ⟨g, o, none⟩ ∧ g < B ∧ W.cell? ⟨g, o + i * 5, none⟩ = some (.int .i64 (l.getD i noM).s.at_) ∧ W.cell? ⟨g, o + i * 5 + 1, none⟩ = some (.int .i64 (l.getD i noM).s.side) ∧
    W.cell? ⟨g, o + i * 5 + 2, none⟩ = some (.int .i64 (l.getD i noM).s.leaf.1) ∧ W.cell? ⟨g, o + i * 5 + 3, none⟩ = some (st (l.getD i noM).s.leaf.2) ∧ W.cell? ⟨g, o + i * 5 + 4, none⟩ = some (.slice (l.getD i noM).a (l.getD i noM).s.path.length (l.getD i noM).c) := by
  obtain ⟨g, o, e, hg, hc⟩ := h (by omega)
  have e1 : l.getD i noM = l[i] := by simp [List.getD, hi]
  rw [e1]
  obtain ⟨r0, r1, r2, r3, r4⟩ := rs_at l i hi
  exact ⟨g, o, e, hg, hc _ _ r0, by rw [Nat.add_assoc]; exact hc _ _ r1, by rw [Nat.add_assoc]; exact hc _ _ r2, by rw [Nat.add_assoc]; exact hc _ _ r3, by rw [Nat.add_assoc]; exact hc _ _ r4⟩
theorem own_seats {w : World} {base n c : Nat} {a : Option Addr} {l : List MSeat} (h : w.ownsRow base 129 5 (.slice a n c) n (rs l)) : Seats w w.heap.size a l := fun h0 => by
  rcases h.2 with ⟨h1, h2⟩ | ⟨g, cap, cur, h1, _⟩
  · have hz := h.1
    have : (rs l).length = 0 := by rw [hz, h2]
    obtain ⟨r0, _⟩ := rs_at l 0 h0
    have := (List.getElem?_eq_some_iff.1 r0).1
    omega
  · cases h1
    exact ⟨g, 0, rfl, (h.lt g rfl).2, fun j u hj => by
      have := h.cells (g := g) rfl j u hj
      rwa [add_off] at this⟩
theorem infoS : (Tryz.prog.info? 129).map (·.size) = some 5 := by kernel_rfl
theorem oneS (m : MSeat) : (sa m).all (·.oneCell') = true := by simp [sa, Value.oneCell']
section
variable (K : Nat) (first cap : Array Value) (f : MSeat → Bool)
  (hK : ∀ (args : Array Value) (W : World), (callFunc K args).run Tryz.prog W = .ok (.enter K args) W)
include hK
set_option maxRecDepth 100000 in
/-- What every's closure answers: that a seat is not so. -/
theorem not_so (m : MSeat) (X : Nat) (w : World) (hx : w.cell? ⟨X, 0, none⟩ = some (.func (.func K) first cap))
    (hc : ∀ W : World, Below w.heap.size w W → Calls Tryz.prog K (first.push (.agg (sa m)) ++ cap) W fun e w' => e = .returned (.bool (f m)) ∧ Below W.heap.size W w') :
    Calls Tryz.prog 100 #[.agg (sa m), .pointer (some ⟨X, 0, none⟩)] w fun e w' => e = .returned (.bool (!f m)) ∧ Below w.heap.size w w' := by
  have G1 := Lib.hid (heap_alloc_new w (.cells (sa m) 129))
  have B1 := Lib.hid (below_new w (.cells (sa m) 129))
  have hx1 : (w.alloc (.cells (sa m) 129)).cell? ⟨X, 0, none⟩ = some (.func (.func K) first cap) := (B1.out.cell (p := ⟨X, 0, none⟩) (World.block_lt_of_cell? w _ hx)).trans hx
  have HC := Lib.hid hc
  have HI := Lib.hid infoS
  have HS : Hid ((sa m).size = 5) := Lib.hid rfl
  have HIS : Hid ((Tryz.prog.info? 129).map (·.size) = some (sa m).size) := Lib.hid infoS
  clear hc hx
  generalize sa m = cs at *
  generalize f m = q at *
  go_enter Tryz.func100, Tryz.ntmps100
  go_upto_region 1 with (fail)
  generalize World.alloc w _ = W1 at *
  go_wp2_with (refine wpList_load_row rfl 129 _ rfl w.heap.size rfl 129 _ (0, 0) _ G1.out Tryz.underlying129 rfl HIS.out ?_)
  refine (HC.out _ B1.out).mono ?_
  rintro e w2 ⟨rfl, hb⟩
  have B2 := Lib.hid (B1.out.trans (hb.mono B1.out.size))
  clear hb
  go_wp2_with fail
  go_ret
  exact ⟨rfl, B2.out⟩
set_option maxRecDepth 100000 in
set_option maxHeartbeats 1000000 in
/-- The first seat that is not so. -/
theorem index (X : Nat) (a : Option Addr) (n c : Nat) (l : List MSeat) (w : World) (hln : l.length = n) (hn : n ≤ 1000000) (hl : Seats w w.heap.size a l) (hx : w.cell? ⟨X, 0, none⟩ = some (.func (.func K) first cap))
    (hc : ∀ (W : World) (i : Nat), Below w.heap.size w W → i < n → Calls Tryz.prog K (first.push (.agg (sa (l.getD i noM))) ++ cap) W fun e w' => e = .returned (.bool (f (l.getD i noM))) ∧ Below W.heap.size W w') :
    Calls Tryz.prog 121 #[.slice a n c, .func (.func 100) #[] #[.pointer (some ⟨X, 0, none⟩)]] w fun e w' => (∃ k : Int, e = .returned (.int .i64 k) ∧ decide (0 ≤ k) = !l.all f) ∧ Below w.heap.size w w' := by
  have HL := Lib.hid hl
  have hxl := World.block_lt_of_cell? w _ hx
  have HN := Lib.hid (fun (W : World) (i : Nat) (hb : Below w.heap.size w W) (hi : i < n) => not_so K first cap f hK (l.getD i noM) X W ((hb.cell (p := ⟨X, 0, none⟩) hxl).trans hx) (fun V hv => hc V i (hb.trans (hv.mono hb.size)) hi))
  have HI := Lib.hid infoS
  have hmf : ∀ (fn : Fn) (first cap : Array Value) (w : World), (Instr.makeFunc fn first cap).run Tryz.prog w = .ok (.func fn first cap) w := fun _ _ _ _ => rfl
  clear hl hx hc hxl hK
  go_enter Tryz.func121, Tryz.ntmps121
  go_wp2_with fail
  go_loopw [8] (fun i wr => ∃ j : Nat, j ≤ n ∧ i = .int .i64 j ∧ (l.take j).all f = true ∧ Below w.heap.size w wr) (fun i _ => n - (intOf i).toNat)
  case atStart => exact ⟨0, Nat.zero_le _, rfl, rfl, Below.refl _ _⟩
  case round =>
    obtain ⟨j, hj, rfl, ht, hb⟩ := hrel
    have HT := Lib.hid ht
    have HB := Lib.hid hb
    clear ht hb
    by_cases hlt : j < n
    · obtain ⟨g, o, rfl, hg, c0, c1, c2, c3, c4⟩ := ((HL.out.below HB.out).more HB.out.size).at_ (i := j) (by omega)
      have hjl : j < l.length := by omega
      have HU := Lib.hid (HN.out wr j HB.out hlt)
      have HNx : Hid ((l.take (j + 1)).all f = ((l.take j).all f && f (l.getD j noM))) := Lib.hid (by
        rw [List.take_succ_eq_append_getElem hjl, List.all_append, show l.getD j noM = l[j] by simp [List.getD, hjl]]; simp only [List.all_cons, List.all_nil, Bool.and_true])
      have HA : Hid (f (l.getD j noM) = false → l.all f = false) := Lib.hid (fun h => by
        rw [show l.getD j noM = l[j] by simp [List.getD, hjl]] at h
        rw [List.all_eq_false]
        exact ⟨_, List.getElem_mem hjl, by rw [h]; simp⟩)
      generalize f (l.getD j noM) = b at *
      generalize l.getD j noM = m at *
      obtain ⟨⟨s0, s1, ⟨s2, s3⟩, s4⟩, ma, mc⟩ := m
      dsimp only [sa] at c0 c1 c2 c3 c4 HU
      have q0 : (0 : Int) ≤ (j : Int) := by omega
      have q1 : (j : Int) < (n : Int) := by omega
      cases b
      · go_wp2_with (go_at_call 100; refine HU.out.mono ?_; rintro e w' ⟨rfl, hb⟩; have B2 := Lib.hid (HB.out.trans (hb.mono HB.out.size)); clear hb)
        go_ret
        exact ⟨⟨_, rfl, by rw [HA.out (by trivial)]; simp⟩, B2.out⟩
      · go_wp2_with (go_at_call 100; refine HU.out.mono ?_; rintro e w' ⟨rfl, hb⟩; have B2 := Lib.hid (HB.out.trans (hb.mono HB.out.size)); clear hb)
        go_roundw
        case rel => exact ⟨j + 1, by omega, by go_num, by rw [HNx.out, HT.out]; rfl, B2.out⟩
        case measure => simp [intOf]; omega
    · obtain rfl : j = n := by omega
      have ha : l.all f = true := by rw [← HT.out, List.take_of_length_le (by omega)]
      have HA := Lib.hid ha
      clear ha
      go_wp2_with fail
      go_ret
      exact ⟨⟨-1, rfl, by rw [HA.out]; rfl⟩, HB.out⟩
theorem contains (X : Nat) (a : Option Addr) (n c : Nat) (l : List MSeat) (w : World) (hln : l.length = n) (hn : n ≤ 1000000) (hl : Seats w w.heap.size a l) (hx : w.cell? ⟨X, 0, none⟩ = some (.func (.func K) first cap))
    (hc : ∀ (W : World) (i : Nat), Below w.heap.size w W → i < n → Calls Tryz.prog K (first.push (.agg (sa (l.getD i noM))) ++ cap) W fun e w' => e = .returned (.bool (f (l.getD i noM))) ∧ Below W.heap.size W w') :
    Calls Tryz.prog 99 #[.slice a n c, .func (.func 100) #[] #[.pointer (some ⟨X, 0, none⟩)]] w fun e w' => e = .returned (.bool (!l.all f)) ∧ Below w.heap.size w w' := by
  have HI := Lib.hid (index K first cap f hK X a n c l w hln hn hl hx hc)
  clear hl hx hc hK
  generalize (!l.all f) = b at *
  go_enter Tryz.func99, Tryz.ntmps99
  go_wp2_with (go_at_call 121; refine HI.out.mono ?_; rintro e w' ⟨⟨k, rfl, hk⟩, hb⟩; have HK := Lib.hid hk; have HB := Lib.hid hb; clear hk hb)
  go_ret
  exact ⟨by rw [← HK.out]; rfl, HB.out⟩
/-- THE CONTRACT of every: are all seats so? -/
theorem every (a : Option Addr) (n c : Nat) (l : List MSeat) (w : World) (hln : l.length = n) (hn : n ≤ 1000000) (hl : Seats w w.heap.size a l)
    (hc : ∀ (W : World) (i : Nat), Below w.heap.size w W → i < n → Calls Tryz.prog K (first.push (.agg (sa (l.getD i noM))) ++ cap) W fun e w' => e = .returned (.bool (f (l.getD i noM))) ∧ Below W.heap.size W w') :
    Calls Tryz.prog 82 #[.slice a n c, .func (.func K) first cap] w fun e w' => e = .returned (.bool (l.all f)) ∧ Below w.heap.size w w' := by
  obtain ⟨W1, hW1⟩ : ∃ W1, W1 = w.alloc (.cells #[.func (.func K) first cap] 130) := ⟨_, rfl⟩
  have b1 : Below w.heap.size w W1 := by rw [hW1]; exact below_new w _
  have x1 : W1.cell? ⟨w.heap.size, 0, none⟩ = some (.func (.func K) first cap) := by rw [hW1]; exact blk_cell (heap_alloc_new w _) rfl
  have HI := Lib.hid (contains K first cap f hK w.heap.size a n c l W1 hln hn ((hl.below b1).more b1.size) x1 (fun W i hb hi => hc W i (b1.trans (hb.mono b1.size)) hi))
  have B1 := Lib.hid b1
  have hmf : ∀ (fn : Fn) (first cap : Array Value) (w : World), (Instr.makeFunc fn first cap).run Tryz.prog w = .ok (.func fn first cap) w := fun _ _ _ _ => rfl
  clear hl hc hK b1 x1
  generalize l.all f = b at *
  go_enter Tryz.func82, Tryz.ntmps82
  go_upto_region 1 with (fail)
  rw [← hW1]
  clear hW1
  go_wp2_with (go_at_call 99; refine HI.out.mono ?_; rintro e w' ⟨rfl, hb⟩; have B2 := Lib.hid (B1.out.trans (hb.mono B1.out.size)); clear hb)
  go_ret
  exact ⟨by simp, B2.out⟩
end
end Go.Proofs.YtdkcebaehdkphaaGreatDoor.PrgI
