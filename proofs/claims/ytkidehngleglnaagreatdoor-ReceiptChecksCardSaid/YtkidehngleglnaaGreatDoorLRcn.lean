/- RcpN RcpC RcpQ: one behind the other. -/
import Derived.Test.YtkidehngleglnaaGreatDoorLChf
import Derived.Test.YtkidehngleglnaaGreatDoorLChn
/- Plain mathematics: receipts of closures, which are right, what is forged. No program is reached here; no conditions but those that each lemma names. -/
namespace Go.Proofs.YtkidehngleglnaaGreatDoor.RcpN
open RecN RecC EvoN ChnN ChnM ChnG
/-- A receipt. -/
structure Rcp where
  q : Int
  r : Rec
  was : List UInt8
  tag : List UInt8
theorem rcp_iff {a b : Rcp} : a = b ↔ a.q = b.q ∧ a.r = b.r ∧ a.was = b.was ∧ a.tag = b.tag := by
  obtain ⟨_, _, _, _⟩ := a
  obtain ⟨_, _, _, _⟩ := b
  simp
instance (a b : Rcp) : Decidable (a = b) := decidable_of_iff _ rcp_iff.symm
def none_ : Rcp := ⟨0, RecN.zero, [], []⟩
/-- A receipt that may be. -/
def rok (x : Rcp) : Prop := right x.r ∧ x.r.k = 1 ∧ (0 ≤ x.q ∧ x.q ≤ 4294967295) ∧ x.was.length = 32 ∧ x.tag.length = 32
instance (x : Rcp) : Decidable (rok x) := inferInstanceAs (Decidable (_ ∧ _ ∧ (_ ∧ _) ∧ _ ∧ _))
theorem rok_say {x : Rcp} (h : rok x) : sayOk x.was x.q x.r := ⟨h.2.2.2.1, h.2.2.1, h.1⟩
/-- The receipt of one of these, and is it a closure? -/
def mkR (s : List Sd) (k : Nat) : Rcp := match s[k]? with | none => none_ | some x => ⟨(k : Int), x.1, lastT (s.take k), x.2⟩
def isC (s : List Sd) (k : Nat) : Bool := match s[k]? with | none => false | some x => decide (x.1.k = 1)
theorem mkR_at (s : List Sd) {k : Nat} (h : k < s.length) : mkR s k = ⟨(k : Int), s[k].1, lastT (s.take k), s[k].2⟩ := by
  rw [mkR, List.getElem?_eq_getElem h]
theorem isC_at (s : List Sd) {k : Nat} (h : k < s.length) : isC s k = decide (s[k].1.k = 1) := by
  rw [isC, List.getElem?_eq_getElem h]
theorem isC_lt {s : List Sd} {k : Nat} (h : isC s k = true) : k < s.length := by
  rw [isC] at h
  by_cases hk : k < s.length
  · exact hk
  · rw [List.getElem?_eq_none (by omega)] at h
    cases h
def make (s : List Sd) (i : Int) : Rcp × Int := if 0 ≤ i ∧ isC s i.toNat = true then (if rok (mkR s i.toNat) then (mkR s i.toNat, 0) else (none_, 2)) else (none_, 7)
theorem make_none {s : List Sd} {i : Int} (h : ¬ (0 ≤ i ∧ isC s i.toNat = true)) : make s i = (none_, 7) := if_neg h
theorem make_bad {s : List Sd} {i : Int} (h : 0 ≤ i ∧ isC s i.toNat = true) (hr : ¬ rok (mkR s i.toNat)) : make s i = (none_, 2) := by rw [make, if_pos h, if_neg hr]
theorem make_yes {s : List Sd} {i : Int} (h : 0 ≤ i ∧ isC s i.toNat = true) (hr : rok (mkR s i.toNat)) : make s i = (mkR s i.toNat, 0) := by rw [make, if_pos h, if_pos hr]
theorem make_nat {s : List Sd} {k : Nat} (h : isC s k = true) (hr : rok (mkR s k)) : make s (k : Int) = (mkR s k, 0) := make_yes ⟨by omega, by rw [Int.toNat_natCast]; exact h⟩ (by rw [Int.toNat_natCast]; exact hr)
/-- All of them, of the first n. -/
def good1 (s : List Sd) (k : Nat) : Bool := isC s k && decide (rok (mkR s k))
def allTo (s : List Sd) : Nat → List Rcp
  | 0 => []
  | n + 1 => allTo s n ++ (if good1 s n = true then [mkR s n] else [])
theorem all_yes {s : List Sd} {n : Nat} (h : good1 s n = true) : allTo s (n + 1) = allTo s n ++ [mkR s n] := by rw [allTo, if_pos h]
theorem all_no {s : List Sd} {n : Nat} (h : good1 s n = false) : allTo s (n + 1) = allTo s n := by rw [allTo, if_neg (by rw [h]; simp), List.append_nil]
theorem all_len (s : List Sd) : ∀ n, (allTo s n).length ≤ n
  | 0 => Nat.le_refl _
  | n + 1 => by
    have := all_len s n
    rw [allTo, List.length_append]
    split <;> simp <;> omega
theorem all_mem {s : List Sd} : ∀ {n : Nat} {x : Rcp}, x ∈ allTo s n → ∃ k, k < n ∧ good1 s k = true ∧ x = mkR s k
  | 0, x, h => by simp [allTo] at h
  | n + 1, x, h => by
    rw [allTo, List.mem_append] at h
    rcases h with h | h
    · obtain ⟨k, hk, h1, h2⟩ := all_mem h
      exact ⟨k, by omega, h1, h2⟩
    · by_cases hg : good1 s n = true
      · rw [if_pos hg, List.mem_singleton] at h
        exact ⟨n, by omega, hg, h⟩
      · rw [if_neg hg] at h
        simp at h
/-- Is a receipt of these? What is forged. -/
def ofB (s : List Sd) (x : Rcp) : Bool := decide ((make s x.q).2 = 0) && decide ((make s x.q).1 = x)
def forgeR (s : List Sd) (x : Rcp) : List UInt8 × List UInt8 × Bool := if rok x ∧ ofB s x = false then (say x.was x.q x.r, x.tag, true) else ([], [], false)
theorem of_mk {s : List Sd} {k : Nat} (h : good1 s k = true) : ofB s (mkR s k) = true := by
  unfold good1 at h
  rw [Bool.and_eq_true, decide_eq_true_eq] at h
  have hk := isC_lt h.1
  have hq : (mkR s k).q = (k : Int) := by rw [mkR_at s hk]
  rw [ofB, hq, make_nat h.1 h.2]
  simp
/-- What of a receipt is wrong, if anything. -/
def checkC (root : List UInt8) (f : Int) (x : Rcp) : Int :=
  if root.length = 32 ∧ (0 ≤ f ∧ f ≤ 4294967295) ∧ rok x then (if (at_ root f x.r.ep).2 = 0 then (if tagOf (at_ root f x.r.ep).1 x.was x.q x.r = x.tag then 0 else 15) else (at_ root f x.r.ep).2) else 2
theorem at_kind (k : List UInt8) (f e : Int) : (at_ k f e).2 = 0 ∨ (at_ k f e).2 = 2 ∨ (at_ k f e).2 = 6 := by
  unfold at_
  split
  · split
    · exact .inl rfl
    · exact .inr (.inr rfl)
  · exact .inr (.inl rfl)
theorem at_zero {k : List UInt8} {f e : Int} (h : (at_ k f e).2 = 0) : at_ k f e = (keyAt k f e, 0) ∧ f ≤ e ∧ e ≤ 4294967295 ∧ e - f ≤ 4096 := by
  by_cases h1 : k.length = 32 ∧ 0 ≤ f ∧ f ≤ e ∧ e ≤ 4294967295
  · by_cases h2 : e - f ≤ 4096
    · exact ⟨at_good h1.1 h1.2.1 h1.2.2.1 h1.2.2.2 h2, h1.2.2.1, h1.2.2.2, h2⟩
    · rw [at_far h1.1 h1.2.1 h1.2.2.1 h1.2.2.2 h2] at h
      exact absurd h (by simp)
  · rw [at_bad h1] at h
    exact absurd h (by simp)
theorem check_zero {root : List UInt8} {f : Int} {x : Rcp} (h : checkC root f x = 0) : root.length = 32 ∧ (0 ≤ f ∧ f ≤ 4294967295) ∧ rok x ∧ at_ root f x.r.ep = (keyAt root f x.r.ep, 0) ∧ f ≤ x.r.ep ∧ x.r.ep - f ≤ 4096 ∧ tagOf (keyAt root f x.r.ep) x.was x.q x.r = x.tag := by
  unfold checkC at h
  by_cases h1 : root.length = 32 ∧ (0 ≤ f ∧ f ≤ 4294967295) ∧ rok x
  · rw [if_pos h1] at h
    by_cases h2 : (at_ root f x.r.ep).2 = 0
    · obtain ⟨e, h3, _, h4⟩ := at_zero h2
      rw [if_pos h2, e] at h
      by_cases h5 : tagOf (keyAt root f x.r.ep) x.was x.q x.r = x.tag
      · exact ⟨h1.1, h1.2.1, h1.2.2, e, h3, h4, h5⟩
      · rw [if_neg h5] at h
        exact absurd h (by simp)
    · rw [if_neg h2] at h
      exact absurd h h2
  · rw [if_neg h1] at h
    exact absurd h (by simp)
theorem check_yes {root : List UInt8} {f : Int} {x : Rcp} (h1 : root.length = 32) (h2 : 0 ≤ f ∧ f ≤ 4294967295) (h3 : rok x) (h4 : f ≤ x.r.ep) (h5 : x.r.ep - f ≤ 4096) (h6 : tagOf (keyAt root f x.r.ep) x.was x.q x.r = x.tag) : checkC root f x = 0 := by
  have he : at_ root f x.r.ep = (keyAt root f x.r.ep, 0) := at_good h1 h2.1 h4 (bounds h3.1).2.1.2 h5
  rw [checkC, if_pos ⟨h1, h2, h3⟩, he, if_pos rfl, if_pos h6]
/-- Of records that are right each closure's receipt may be. -/
theorem rok_mk {root : List UInt8} {f : Int} {s : List Sd} (h : ChnM.Good root f s) (hl : s.length ≤ 100000) {k : Nat} (hc : isC s k = true) : rok (mkR s k) := by
  have hk := isC_lt hc
  rw [isC_at s hk, decide_eq_true_eq] at hc
  rw [mkR_at s hk]
  refine ⟨(h.at_ hk).1, hc, ⟨by show (0 : Int) ≤ (k : Int); omega, by show (k : Int) ≤ 4294967295; omega⟩, lastT_len (tagsOk_take h.tg k), ?_⟩
  show (s[k].2).length = 32
  rw [h.tg k hk]
  exact tag_len _ _ _ _
theorem good1_is {root : List UInt8} {f : Int} {s : List Sd} (h : ChnM.Good root f s) (hl : s.length ≤ 100000) (k : Nat) : good1 s k = isC s k := by
  unfold good1
  cases hc : isC s k with
  | false => rfl
  | true => rw [dt (rok_mk h hl hc)]; rfl
/-- A closure's receipt is right. -/
theorem right_mk {root : List UInt8} {f : Int} {s : List Sd} (h : ChnM.Good root f s) (ho : okR root f (recs s)) (hn : ∀ k (hk : k < s.length), s[k].1.ep - f ≤ 4096) (hl : s.length ≤ 100000) {k : Nat} (hc : isC s k = true) : checkC root f (mkR s k) = 0 := by
  have hk := isC_lt hc
  have hr := rok_mk h hl hc
  have ht := h.tg k hk
  rw [mkR_at s hk] at hr ⊢
  refine check_yes ho.1 ho.2.1 hr ?_ (hn k hk) ?_
  · show f ≤ s[k].1.ep
    rw [(h.at_ hk).2]
    exact opn_ge _ _
  · show tagOf (keyAt root f s[k].1.ep) (lastT (s.take k)) (k : Int) s[k].1 = s[k].2
    rw [ht, ChnN.tg, List.length_take, Nat.min_eq_left (Nat.le_of_lt hk)]
/-- As many closures as epochs, in their order. -/
theorem all_opn {root : List UInt8} {f : Int} {s : List Sd} (h : ChnM.Good root f s) (hl : s.length ≤ 100000) : ∀ n, n ≤ s.length → ((allTo s n).length : Int) = opn f ((recs s).take n) - f ∧ ∀ i (hi : i < (allTo s n).length), (allTo s n)[i].r.ep = f + (i : Int)
  | 0, _ => by
    refine ⟨?_, fun i hi => absurd hi (by simp [allTo])⟩
    rw [List.take_zero, opn_nil]
    simp [allTo]
  | n + 1, hn => by
    obtain ⟨h1, h2⟩ := all_opn h hl n (by omega)
    have hk : n < s.length := by omega
    have hr : n < (recs s).length := by rw [recs_len]; exact hk
    have e : (recs s).take (n + 1) = (recs s).take n ++ [s[n].1] := by rw [List.take_succ_eq_append_getElem hr, recs_at s n hk]
    rw [e, opn_snoc]
    by_cases hc : isC s n = true
    · have hg : good1 s n = true := by rw [good1_is h hl]; exact hc
      have hc1 := hc
      rw [isC_at s hk, decide_eq_true_eq] at hc1
      rw [all_yes hg, if_pos hc1]
      refine ⟨by rw [List.length_append, List.length_singleton]; omega, fun i hi => ?_⟩
      by_cases hin : i < (allTo s n).length
      · rw [List.getElem_append_left hin]
        exact h2 i hin
      · obtain rfl : i = (allTo s n).length := by simp at hi; omega
        rw [List.getElem_append_right (Nat.le_refl _)]
        simp only [Nat.sub_self, List.getElem_cons_zero]
        rw [mkR_at s hk]
        show s[n].1.ep = _
        rw [(h.at_ hk).2]
        omega
    · have hg : good1 s n = false := by rw [good1_is h hl]; simpa using hc
      have hc1 : ¬ s[n].1.k = 1 := by
        rw [isC_at s hk] at hc
        simpa using hc
      have e2 := all_no hg
      rw [if_neg hc1]
      refine ⟨by rw [e2]; exact h1, fun i hi => ?_⟩
      simp only [e2] at hi ⊢
      exact h2 i hi
/-- A right receipt that is none of these: what is told has its tag, and none of these is it. -/
theorem sound {root : List UInt8} {f : Int} {s : List Sd} {x : Rcp} (h : ChnM.Good root f s) (hl : s.length ≤ 100000) (hx : checkC root f x = 0) (ho : ofB s x = false) :
    forgeR s x = (say x.was x.q x.r, x.tag, true) ∧ macOf (mkey (keyAt root f x.r.ep)) (say x.was x.q x.r) = x.tag ∧ ∀ i (hi : i < s.length), say (lastT (s.take i)) (i : Int) s[i].1 ≠ say x.was x.q x.r := by
  obtain ⟨_, _, hr, _, _, _, ht⟩ := check_zero hx
  refine ⟨if_pos ⟨hr, ho⟩, ht, fun i hi e => ?_⟩
  have hsi : sayOk (lastT (s.take i)) (i : Int) s[i].1 := ⟨lastT_len (tagsOk_take h.tg i), by omega, (h.at_ hi).1⟩
  obtain ⟨e1, e2, e3⟩ := say_inj hsi (rok_say hr) e
  have ht2 : s[i].2 = x.tag := by
    rw [h.tg i hi, ChnN.tg, List.length_take, Nat.min_eq_left (Nat.le_of_lt hi), e1, e2, e3]
    exact ht
  have hmk : mkR s i = x := by
    rw [mkR_at s hi, rcp_iff]
    exact ⟨e2, e3, e1, ht2⟩
  have hc : isC s i = true := by
    rw [isC_at s hi, e3]
    exact dt hr.2.1
  have hof : ofB s (mkR s i) = true := of_mk (by rw [good1_is h hl]; exact hc)
  rw [hmk, ho] at hof
  cases hof
theorem forge_of {s : List Sd} {x : Rcp} (h : ofB s x = true) : forgeR s x = ([], [], false) := if_neg (fun hh => by rw [h] at hh; exact absurd hh.2 (by simp))
/-- A receipt's bytes. -/
def bytesR (x : Rcp) : List UInt8 := be 4 x.q.toNat ++ (x.was ++ (x.tag ++ RecN.bytes x.r))
def putR (x : Rcp) : List UInt8 × Bool := if rok x then (bytesR x, true) else ([], false)
theorem putR_yes {x : Rcp} (h : rok x) : putR x = (bytesR x, true) := if_pos h
theorem putR_no {x : Rcp} (h : ¬ rok x) : putR x = ([], false) := if_neg h
/-- The receipt with whose bytes a text begins. -/
def gotR (s : List UInt8) : Rcp := ⟨(num (s.take 4) : Int), (take_ (s.drop 68)).1, (s.drop 4).take 32, (s.drop 36).take 32⟩
def tookR (s : List UInt8) : Prop := 68 ≤ s.length ∧ (take_ (s.drop 68)).2.2 = true ∧ rok (gotR s)
instance (s : List UInt8) : Decidable (tookR s) := inferInstanceAs (Decidable (_ ∧ _ ∧ _))
def takeR (s : List UInt8) : Rcp × List UInt8 × Bool := if tookR s then (gotR s, (take_ (s.drop 68)).2.1, true) else (none_, [], false)
theorem takeR_yes {s : List UInt8} (h : tookR s) : takeR s = (gotR s, (take_ (s.drop 68)).2.1, true) := if_pos h
theorem takeR_no {s : List UInt8} (h : ¬ tookR s) : takeR s = (none_, [], false) := if_neg h
theorem bytes_68 {x : Rcp} (h : rok x) (l : List UInt8) : (bytesR x ++ l).take 4 = be 4 x.q.toNat ∧ ((bytesR x ++ l).drop 4).take 32 = x.was ∧ ((bytesR x ++ l).drop 36).take 32 = x.tag ∧ (bytesR x ++ l).drop 68 = RecN.bytes x.r ++ l ∧ 68 ≤ (bytesR x ++ l).length := by
  obtain ⟨_, _, _, hw, ht⟩ := h
  have h4 : (be 4 x.q.toNat).length = 4 := be_length _ _
  have e : bytesR x ++ l = be 4 x.q.toNat ++ (x.was ++ (x.tag ++ (RecN.bytes x.r ++ l))) := by simp only [bytesR, List.append_assoc]
  rw [e]
  generalize be 4 x.q.toNat = b at *
  generalize RecN.bytes x.r ++ l = y at *
  have d4 : (b ++ (x.was ++ (x.tag ++ y))).drop 4 = x.was ++ (x.tag ++ y) := List.drop_left' h4
  have d36 : (b ++ (x.was ++ (x.tag ++ y))).drop 36 = x.tag ++ y := by
    rw [show 36 = 4 + 32 from rfl, ← List.drop_drop, d4]
    exact List.drop_left' hw
  have d68 : (b ++ (x.was ++ (x.tag ++ y))).drop 68 = y := by
    rw [show 68 = 36 + 32 from rfl, ← List.drop_drop, d36]
    exact List.drop_left' ht
  refine ⟨List.take_left' h4, ?_, ?_, d68, ?_⟩
  · rw [d4]; exact List.take_left' hw
  · rw [d36]; exact List.take_left' ht
  · simp only [List.length_append, h4, hw, ht]; omega
/-- What was put is taken, whatever is behind it. -/
theorem take_put {x : Rcp} (h : rok x) (l : List UInt8) : takeR (bytesR x ++ l) = (x, l, true) := by
  obtain ⟨e1, e2, e3, e4, e5⟩ := bytes_68 h l
  have et := take_bytes h.1 l
  have eg : gotR (bytesR x ++ l) = x := by
    have hq := h.2.2.1
    rw [rcp_iff, gotR, e1, e2, e3, e4, et]
    refine ⟨?_, rfl, rfl, rfl⟩
    show (num (be 4 x.q.toNat) : Int) = x.q
    rw [num_be]
    have e : (256 : Nat) ^ 4 = 4294967296 := by decide
    rw [e]
    omega
  have hk : tookR (bytesR x ++ l) := ⟨e5, by rw [e4, et], by rw [eg]; exact h⟩
  rw [takeR_yes hk, eg, e4, et]
/-- What was taken, put, is what was cut off. -/
theorem put_take {s : List UInt8} (h : tookR s) : bytesR (gotR s) ++ (take_ (s.drop 68)).2.1 = s := by
  obtain ⟨h1, h2, h3⟩ := h
  have htk : took (s.drop 68) := by
    by_cases hh : took (s.drop 68)
    · exact hh
    · rw [take_no hh] at h2
      cases h2
  rw [take_yes htk]
  have hb := bytes_take htk
  have e : (gotR s).r = got (s.drop 68) := by
    show (take_ (s.drop 68)).1 = _
    rw [take_yes htk]
  have h4 : (s.take 4).length = 4 := by rw [List.length_take]; omega
  have eb : be 4 (gotR s).q.toNat = s.take 4 := by
    show be 4 ((num (s.take 4) : Int)).toNat = _
    rw [Int.toNat_natCast]
    have := be_num (s.take 4)
    rw [h4] at this
    exact this
  rw [bytesR, eb, e]
  show (s.take 4 ++ ((s.drop 4).take 32 ++ ((s.drop 36).take 32 ++ RecN.bytes (got (s.drop 68))))) ++ (c2 (s.drop 68)).2.1 = s
  simp only [List.append_assoc]
  rw [hb]
  have d2 : (s.drop 36).take 32 ++ s.drop 68 = s.drop 36 := by
    rw [show s.drop 68 = (s.drop 36).drop 32 by rw [List.drop_drop], List.take_append_drop]
  have d1 : (s.drop 4).take 32 ++ s.drop 36 = s.drop 4 := by
    rw [show s.drop 36 = (s.drop 4).drop 32 by rw [List.drop_drop], List.take_append_drop]
  rw [d2, d1, List.take_append_drop]
end Go.Proofs.YtkidehngleglnaaGreatDoor.RcpN
/- Receipts of closures in memory: what they read as; two held against each other; one that comes in; one appended to a row of the call's own. The conditions: that what came in came as a Go program's values. -/
namespace Go.Proofs.YtkidehngleglnaaGreatDoor.RcpC
set_option linter.unusedVariables false
open Go.RowKit Go.ChangeShapes Go.WideShapes
open RecN RecC ChnN ChnM ChnC ChnD RcpN
/-- A receipt as cells. -/
def rcpL (x : Rcp) : List Value := (#[.int .i64 x.q, .int .i64 x.r.k, .int .i64 x.r.ep, .int .i64 x.r.tm, .int .i64 x.r.ct, .int .i64 x.r.tg, .int .i64 x.r.un, .string ⟨x.r.rt.toArray⟩, .string ⟨x.r.nm.toArray⟩, .string ⟨x.was.toArray⟩, .string ⟨x.tag.toArray⟩] : Array Value).toList
theorem rcp_len (x : Rcp) : (rcpL x).length = 11 := rfl
def ps (l : List Rcp) : List Value := l.flatMap rcpL
theorem ps_len (l : List Rcp) : (ps l).length = l.length * 11 := fm_len rcp_len l
theorem ps_app (l m : List Rcp) : ps (l ++ m) = ps l ++ ps m := by simp [ps]
theorem ps_nil : ps [] = [] := rfl
theorem ps_one (x : Rcp) : ps [x] = rcpL x := by simp [ps]
theorem rcp_one (x : Rcp) : ∀ u ∈ rcpL x, u.oneCell' = true := by
  intro u hu
  simp only [rcpL, List.mem_cons, List.not_mem_nil, or_false] at hu
  rcases hu with rfl | rfl | rfl | rfl | rfl | rfl | rfl | rfl | rfl | rfl | rfl <;> rfl
/-- One receipt amid a block. -/
def At11 (W : World) (g p : Nat) (x : Rcp) : Prop := W.cell? ⟨g, p, none⟩ = some (.int .i64 x.q) ∧ W.cell? ⟨g, p + 1, none⟩ = some (.int .i64 x.r.k) ∧ W.cell? ⟨g, p + 2, none⟩ = some (.int .i64 x.r.ep) ∧ W.cell? ⟨g, p + 3, none⟩ = some (.int .i64 x.r.tm) ∧ W.cell? ⟨g, p + 4, none⟩ = some (.int .i64 x.r.ct) ∧ W.cell? ⟨g, p + 5, none⟩ = some (.int .i64 x.r.tg) ∧ W.cell? ⟨g, p + 6, none⟩ = some (.int .i64 x.r.un) ∧ W.cell? ⟨g, p + 7, none⟩ = some (.string ⟨x.r.rt.toArray⟩) ∧ W.cell? ⟨g, p + 8, none⟩ = some (.string ⟨x.r.nm.toArray⟩) ∧ W.cell? ⟨g, p + 9, none⟩ = some (.string ⟨x.was.toArray⟩) ∧ W.cell? ⟨g, p + 10, none⟩ = some (.string ⟨x.tag.toArray⟩)
theorem At11.step {W W' : World} {B g p : Nat} {x : Rcp} (h : At11 W g p x) (hg : g < B) (hb : Below B W W') : At11 W' g p x := by
  obtain ⟨h0, h1, h2, h3, h4, h5, h6, h7, h8, h9, h10⟩ := h
  have k : ∀ q v, W.cell? ⟨g, q, none⟩ = some v → W'.cell? ⟨g, q, none⟩ = some v := fun q v e => (hb.cell (p := ⟨g, q, none⟩) hg).trans e
  exact ⟨k _ _ h0, k _ _ h1, k _ _ h2, k _ _ h3, k _ _ h4, k _ _ h5, k _ _ h6, k _ _ h7, k _ _ h8, k _ _ h9, k _ _ h10⟩
theorem at11_of {W : World} {g o : Nat} {l : List Rcp} (h : ∀ j u, (ps l)[j]? = some u → W.cell? ⟨g, o + j, none⟩ = some u) (i : Nat) (hi : i < l.length) : At11 W g (o + i * 11) l[i] := by
  have k : ∀ j u, j < 11 → (rcpL l[i])[j]? = some u → W.cell? ⟨g, o + i * 11 + j, none⟩ = some u := fun j u hj hu => by
    rw [Nat.add_assoc]
    exact h _ _ ((fm_at rcp_len l i hi j hj).trans hu)
  exact ⟨k 0 _ (by omega) rfl, k 1 _ (by omega) rfl, k 2 _ (by omega) rfl, k 3 _ (by omega) rfl, k 4 _ (by omega) rfl, k 5 _ (by omega) rfl, k 6 _ (by omega) rfl, k 7 _ (by omega) rfl, k 8 _ (by omega) rfl, k 9 _ (by omega) rfl, k 10 _ (by omega) rfl⟩
theorem lies_at11 {W : World} {a : Option Addr} {l : List Rcp} (h : Lies W a (ps l)) (h0 : 0 < l.length) : ∃ g o, a = some ⟨g, o, none⟩ ∧ g < W.heap.size ∧ ∀ i (hi : i < l.length), At11 W g (o + i * 11) l[i] := by
  obtain ⟨g, o, e, hg, hc⟩ := h (by rw [ps_len]; omega)
  exact ⟨g, o, e, hg, at11_of hc⟩
/-- A receipt in a block. -/
def Br (W : World) (X : Nat) (x : Rcp) : Prop := W.heap[X]? = some (.cells #[.int .i64 x.q, .int .i64 x.r.k, .int .i64 x.r.ep, .int .i64 x.r.tm, .int .i64 x.r.ct, .int .i64 x.r.tg, .int .i64 x.r.un, .string ⟨x.r.rt.toArray⟩, .string ⟨x.r.nm.toArray⟩, .string ⟨x.was.toArray⟩, .string ⟨x.tag.toArray⟩] 25 (0, 0))
theorem Br.lt {W : World} {X : Nat} {x : Rcp} (h : Br W X x) : X < W.heap.size := lt_of_some h
theorem Br.step {W W' : World} {X : Nat} {x : Rcp} (h : Br W X x) (hb : Below W.heap.size W W') : Br W' X x := (hb.block _ h.lt).trans h
theorem Br.cells {W : World} {X : Nat} {x : Rcp} (h : Br W X x) : W.cell? ⟨X, 0, none⟩ = some (.int .i64 x.q) ∧ W.cell? ⟨X, 1, none⟩ = some (.int .i64 x.r.k) ∧ W.cell? ⟨X, 2, none⟩ = some (.int .i64 x.r.ep) ∧ W.cell? ⟨X, 3, none⟩ = some (.int .i64 x.r.tm) ∧ W.cell? ⟨X, 4, none⟩ = some (.int .i64 x.r.ct) ∧ W.cell? ⟨X, 5, none⟩ = some (.int .i64 x.r.tg) ∧ W.cell? ⟨X, 6, none⟩ = some (.int .i64 x.r.un) ∧ W.cell? ⟨X, 7, none⟩ = some (.string ⟨x.r.rt.toArray⟩) ∧ W.cell? ⟨X, 8, none⟩ = some (.string ⟨x.r.nm.toArray⟩) ∧ W.cell? ⟨X, 9, none⟩ = some (.string ⟨x.was.toArray⟩) ∧ W.cell? ⟨X, 10, none⟩ = some (.string ⟨x.tag.toArray⟩) :=
  ⟨blk_cell h rfl, blk_cell h rfl, blk_cell h rfl, blk_cell h rfl, blk_cell h rfl, blk_cell h rfl, blk_cell h rfl, blk_cell h rfl, blk_cell h rfl, blk_cell h rfl, blk_cell h rfl⟩
/-- Behind the first words of a call that a receipt came to. -/
structure Rs (w : World) (x : Rcp) (W : World) : Prop where
  bel : Below w.heap.size w W
  k : Br W w.heap.size x
theorem rs_new (w : World) (x : Rcp) : Rs w x (w.alloc (.cells #[.int .i64 x.q, .int .i64 x.r.k, .int .i64 x.r.ep, .int .i64 x.r.tm, .int .i64 x.r.ct, .int .i64 x.r.tg, .int .i64 x.r.un, .string ⟨x.r.rt.toArray⟩, .string ⟨x.r.nm.toArray⟩, .string ⟨x.was.toArray⟩, .string ⟨x.tag.toArray⟩] 25)) := ⟨below_new w _, heap_alloc_new w _⟩
theorem Rs.step {w W W' : World} {x : Rcp} (h : Rs w x W) (hb : Below W.heap.size W W') : Rs w x W' := ⟨h.bel.trans (hb.mono h.bel.size), h.k.step hb⟩
theorem infoP : (Tryz.prog.info? 25).map (·.size) = some 11 := by kernel_rfl
theorem one11 (x : Rcp) : (#[.int .i64 x.q, .int .i64 x.r.k, .int .i64 x.r.ep, .int .i64 x.r.tm, .int .i64 x.r.ct, .int .i64 x.r.tg, .int .i64 x.r.un, .string ⟨x.r.rt.toArray⟩, .string ⟨x.r.nm.toArray⟩, .string ⟨x.was.toArray⟩, .string ⟨x.tag.toArray⟩] : Array Value).all (·.oneCell') = true := by simp [Value.oneCell']
theorem one11_0 : (#[.int .i64 0, .int .i64 0, .int .i64 0, .int .i64 0, .int .i64 0, .int .i64 0, .int .i64 0, .string ⟨#[]⟩, .string ⟨#[]⟩, .string ⟨#[]⟩, .string ⟨#[]⟩] : Array Value).all (·.oneCell') = true := by simp [Value.oneCell']
theorem cRcp : Tryz.prog.cellsOf 25 = 11 := by kernel_rfl
theorem fields_rcp : Tryz.prog.fieldsOf 25 = #[{ name := "Seq", type := 3, offset := 0, embedded := false, tag := "", pkgPath := "", byteOffset := 0 }, { name := "Record", type := 23, offset := 1, embedded := false, tag := "", pkgPath := "", byteOffset := 8 }, { name := "Was", type := 9, offset := 9, embedded := false, tag := "", pkgPath := "", byteOffset := 88 }, { name := "Tag", type := 9, offset := 10, embedded := false, tag := "", pkgPath := "", byteOffset := 104 }] := by kernel_rfl
theorem under_rcp : Tryz.prog.underlying 25 = some (.struct (Tryz.prog.fieldsOf 25)) := by kernel_rfl
theorem stood_rcp : Tryz.prog.stoodInHeld 25 = false := by kernel_rfl
theorem info_rcp : ((Tryz.prog.info? 25).map fun i => (i.zero, i.size, i.bytes)) = some (some (.agg #[.int .i64 0, .int .i64 0, .int .i64 0, .int .i64 0, .int .i64 0, .int .i64 0, .int .i64 0, .string ⟨#[]⟩, .string ⟨#[]⟩, .string ⟨#[]⟩, .string ⟨#[]⟩]), 11, 120) := by kernel_rfl
theorem part_seq (W : World) (x : Rcp) : (part 3 #[.int .i64 x.q, .int .i64 x.r.k, .int .i64 x.r.ep, .int .i64 x.r.tm, .int .i64 x.r.ct, .int .i64 x.r.tg, .int .i64 x.r.un, .string ⟨x.r.rt.toArray⟩, .string ⟨x.r.nm.toArray⟩, .string ⟨x.was.toArray⟩, .string ⟨x.tag.toArray⟩] 0).run Tryz.prog W = .ok (.int .i64 x.q) W := by simp [part, isAgg, run_underlying Tryz.underlying3]
theorem part_rec (W : World) (x : Rcp) : (part 23 #[.int .i64 x.q, .int .i64 x.r.k, .int .i64 x.r.ep, .int .i64 x.r.tm, .int .i64 x.r.ct, .int .i64 x.r.tg, .int .i64 x.r.un, .string ⟨x.r.rt.toArray⟩, .string ⟨x.r.nm.toArray⟩, .string ⟨x.was.toArray⟩, .string ⟨x.tag.toArray⟩] 1).run Tryz.prog W = .ok (.agg #[.int .i64 x.r.k, .int .i64 x.r.ep, .int .i64 x.r.tm, .int .i64 x.r.ct, .int .i64 x.r.tg, .int .i64 x.r.un, .string ⟨x.r.rt.toArray⟩, .string ⟨x.r.nm.toArray⟩]) W := by
  obtain ⟨i0, hi, _, hz1, _⟩ := info_parts info_rec
  have hagg : (isAgg 23).run Tryz.prog W = .ok true W := by
    unfold isAgg
    rw [Sem.run_bind, run_underlying under_rec W]
    rfl
  simp [part, Sem.run_bind, hagg, sizeOf, typeInfo, hi, hz1]
theorem part_was (W : World) (x : Rcp) : (part 9 #[.int .i64 x.q, .int .i64 x.r.k, .int .i64 x.r.ep, .int .i64 x.r.tm, .int .i64 x.r.ct, .int .i64 x.r.tg, .int .i64 x.r.un, .string ⟨x.r.rt.toArray⟩, .string ⟨x.r.nm.toArray⟩, .string ⟨x.was.toArray⟩, .string ⟨x.tag.toArray⟩] 9).run Tryz.prog W = .ok (.string ⟨x.was.toArray⟩) W := by simp [part, isAgg, run_underlying Tryz.underlying9]
theorem part_tag (W : World) (x : Rcp) : (part 9 #[.int .i64 x.q, .int .i64 x.r.k, .int .i64 x.r.ep, .int .i64 x.r.tm, .int .i64 x.r.ct, .int .i64 x.r.tg, .int .i64 x.r.un, .string ⟨x.r.rt.toArray⟩, .string ⟨x.r.nm.toArray⟩, .string ⟨x.was.toArray⟩, .string ⟨x.tag.toArray⟩] 10).run Tryz.prog W = .ok (.string ⟨x.tag.toArray⟩) W := by simp [part, isAgg, run_underlying Tryz.underlying9]
theorem run_in_rcp (W : World) (a b : Rcp) : (Op.equalIn 10000 25 (.agg #[.int .i64 a.q, .int .i64 a.r.k, .int .i64 a.r.ep, .int .i64 a.r.tm, .int .i64 a.r.ct, .int .i64 a.r.tg, .int .i64 a.r.un, .string ⟨a.r.rt.toArray⟩, .string ⟨a.r.nm.toArray⟩, .string ⟨a.was.toArray⟩, .string ⟨a.tag.toArray⟩]) (.agg #[.int .i64 b.q, .int .i64 b.r.k, .int .i64 b.r.ep, .int .i64 b.r.tm, .int .i64 b.r.ct, .int .i64 b.r.tg, .int .i64 b.r.un, .string ⟨b.r.rt.toArray⟩, .string ⟨b.r.nm.toArray⟩, .string ⟨b.was.toArray⟩, .string ⟨b.tag.toArray⟩])).run Tryz.prog W = .ok (decide (a = b)) W := by
  have hh : ∀ x y : Int, (Op.equalIn 9999 3 (.int .i64 x) (.int .i64 y)).run Tryz.prog W = .ok (x == y) W := fun x y => run_equalIn_int W 9998 3 .i64 .i64 x y Tryz.underlying3
  have hs : ∀ x y : List UInt8, (Op.equalIn 9999 9 (.string ⟨x.toArray⟩) (.string ⟨y.toArray⟩)).run Tryz.prog W = .ok (x == y) W := fun x y => by
    have := run_equalIn_string W 9998 9 ⟨x.toArray⟩ ⟨y.toArray⟩ Tryz.underlying9
    rw [ByteArray.toList_mk, ByteArray.toList_mk] at this
    exact this
  rw [run_equalIn_struct W 9999 _ _ _ under_rcp stood_rcp, fields_rcp]
  simp only [Op.eqFields, Sem.run_bind, Sem.run_ite, part_seq, part_rec, part_was, part_tag, run_in_rec2, hh, hs, Result.andThen_ok]
  by_cases h1 : a.q = b.q
  rotate_left 1
  · simp [h1, rcp_iff]
  by_cases h2 : a.r = b.r
  rotate_left 1
  · simp [h1, h2, rcp_iff]
  by_cases h3 : a.was = b.was
  rotate_left 1
  · simp [h1, h2, h3, rcp_iff]
  by_cases h4 : a.tag = b.tag
  rotate_left 1
  · simp [h1, h2, h3, h4, rcp_iff]
  simp [h1, h2, h3, h4, rcp_iff]
/-- Two receipts held against each other. -/
theorem run_neq_rcp (a b : Rcp) (q : Bool) (h : decide (a = b) = q) (W : World) : (binOp .neq 25 (.agg #[.int .i64 a.q, .int .i64 a.r.k, .int .i64 a.r.ep, .int .i64 a.r.tm, .int .i64 a.r.ct, .int .i64 a.r.tg, .int .i64 a.r.un, .string ⟨a.r.rt.toArray⟩, .string ⟨a.r.nm.toArray⟩, .string ⟨a.was.toArray⟩, .string ⟨a.tag.toArray⟩]) (.agg #[.int .i64 b.q, .int .i64 b.r.k, .int .i64 b.r.ep, .int .i64 b.r.tm, .int .i64 b.r.ct, .int .i64 b.r.tg, .int .i64 b.r.un, .string ⟨b.r.rt.toArray⟩, .string ⟨b.r.nm.toArray⟩, .string ⟨b.was.toArray⟩, .string ⟨b.tag.toArray⟩])).run Tryz.prog W = .ok (.bool (!q)) W := by
  rw [run_neq_struct, run_in_rcp W a b, Result.andThen_ok, h]
theorem run_eql_rcp (a b : Rcp) (q : Bool) (h : decide (a = b) = q) (W : World) : (binOp .eql 25 (.agg #[.int .i64 a.q, .int .i64 a.r.k, .int .i64 a.r.ep, .int .i64 a.r.tm, .int .i64 a.r.ct, .int .i64 a.r.tg, .int .i64 a.r.un, .string ⟨a.r.rt.toArray⟩, .string ⟨a.r.nm.toArray⟩, .string ⟨a.was.toArray⟩, .string ⟨a.tag.toArray⟩]) (.agg #[.int .i64 b.q, .int .i64 b.r.k, .int .i64 b.r.ep, .int .i64 b.r.tm, .int .i64 b.r.ct, .int .i64 b.r.tg, .int .i64 b.r.un, .string ⟨b.r.rt.toArray⟩, .string ⟨b.r.nm.toArray⟩, .string ⟨b.was.toArray⟩, .string ⟨b.tag.toArray⟩])).run Tryz.prog W = .ok (.bool q) W := by
  rw [run_eql_struct, run_in_rcp W a b, Result.andThen_ok, h]
/-- What a receipt that came in is within. -/
def Fit (x : Rcp) : Prop := (-9223372036854775808 ≤ x.q ∧ x.q ≤ 9223372036854775807) ∧ (-9223372036854775808 ≤ x.r.ep ∧ x.r.ep ≤ 9223372036854775807) ∧ x.was.length ≤ maxLen ∧ x.tag.length ≤ maxLen ∧ x.r.rt.length ≤ maxLen ∧ x.r.nm.length ≤ maxLen
set_option maxRecDepth 100000 in
theorem rec_cells2 {H : Type} {enc : TypeId × Value → H} {W : World} {fuel : Nat} {cs : List Value} {x : DataW H × List MemPlace} (h : DataW.trod enc Tryz.prog W 0 (fun _ => true) true fuel 23 cs = some x) : ∃ r : Rec, cs = rcL r ∧ (-9223372036854775808 ≤ r.ep ∧ r.ep ≤ 9223372036854775807) ∧ r.rt.length ≤ maxLen ∧ r.nm.length ≤ maxLen := by
  obtain ⟨xs, n, _, _, hl, hxl, hel⟩ := DataW.trod_struct Tryz.underlying23 h
  obtain ⟨r, rfl⟩ := rec_cells h
  have e1 : DataW.trod enc Tryz.prog W 0 (fun _ => true) true n 3 (((rcL r).drop 1).take (Tryz.prog.cellsOf 3)) = xs[1]? := hel 1 _ rfl
  have e6 : DataW.trod enc Tryz.prog W 0 (fun _ => true) true n 9 (((rcL r).drop 6).take (Tryz.prog.cellsOf 9)) = xs[6]? := hel 6 _ rfl
  have e7 : DataW.trod enc Tryz.prog W 0 (fun _ => true) true n 9 (((rcL r).drop 7).take (Tryz.prog.cellsOf 9)) = xs[7]? := hel 7 _ rfl
  rw [cInt] at e1
  rw [cStr] at e6 e7
  match xs, hxl with
  | [y0, y1, y2, y3, y4, y5, y6, y7], _ =>
    obtain ⟨ep, h1, _, w1⟩ := DataW.trod_int Tryz.underlying3 e1
    obtain ⟨⟨⟨rt⟩⟩, h6, _, w6⟩ := DataW.trod_string Tryz.underlying9 e6
    obtain ⟨⟨⟨nm⟩⟩, h7, _, w7⟩ := DataW.trod_string Tryz.underlying9 e7
    simp [rcL] at h1 h6 h7
    subst h1 h6 h7
    exact ⟨r, rfl, bounds_i64 w1, by simpa [ByteArray.size] using w6, by simpa [ByteArray.size] using w7⟩
set_option maxRecDepth 100000 in
/-- A receipt by value. -/
theorem open_receipt {H : Type} {enc : TypeId × Value → H} {W : World} {r : Reach} {b0 : Nat} {v : Value} {d : DataW H} {p : List MemPlace} (hval : Value.okWide Tryz.prog W r b0 25 v)
    (h : DataW.Trod enc Tryz.prog W 0 (fun _ => true) true 25 v d p) : ∃ a : Rcp, v = .agg #[.int .i64 a.q, .int .i64 a.r.k, .int .i64 a.r.ep, .int .i64 a.r.tm, .int .i64 a.r.ct, .int .i64 a.r.tg, .int .i64 a.r.un, .string ⟨a.r.rt.toArray⟩, .string ⟨a.r.nm.toArray⟩, .string ⟨a.was.toArray⟩, .string ⟨a.tag.toArray⟩] ∧ Fit a := by
  obtain ⟨cs, rfl, _⟩ := okWide_struct Tryz.underlying25 hval
  obtain ⟨fuel, hf⟩ := h
  obtain ⟨xs, n, _, _, hl, hxl, hel⟩ := DataW.trod_struct Tryz.underlying25 hf
  rw [cRcp] at hl
  have e0 : DataW.trod enc Tryz.prog W 0 (fun _ => true) true n 3 (((Value.agg cs).cells.toList.drop 0).take (Tryz.prog.cellsOf 3)) = xs[0]? := hel 0 _ rfl
  have e1 : DataW.trod enc Tryz.prog W 0 (fun _ => true) true n 23 (((Value.agg cs).cells.toList.drop 1).take (Tryz.prog.cellsOf 23)) = xs[1]? := hel 1 _ rfl
  have e2 : DataW.trod enc Tryz.prog W 0 (fun _ => true) true n 9 (((Value.agg cs).cells.toList.drop 9).take (Tryz.prog.cellsOf 9)) = xs[2]? := hel 2 _ rfl
  have e3 : DataW.trod enc Tryz.prog W 0 (fun _ => true) true n 9 (((Value.agg cs).cells.toList.drop 10).take (Tryz.prog.cellsOf 9)) = xs[3]? := hel 3 _ rfl
  rw [cInt] at e0
  rw [cRec] at e1
  rw [cStr] at e2 e3
  simp only [Value.cells] at hl e0 e1 e2 e3
  obtain ⟨l, rfl⟩ : ∃ l : List Value, cs = l.toArray := ⟨cs.toList, by simp⟩
  match xs, hxl with
  | [y0, y1, y2, y3], _ =>
    match l, hl with
    | [v0, v1, v2, v3, v4, v5, v6, v7, v8, v9, v10], _ =>
      obtain ⟨q, h0, _, w0⟩ := DataW.trod_int Tryz.underlying3 e0
      obtain ⟨a, ha, hfe, hfr, hfn⟩ := rec_cells2 e1
      obtain ⟨⟨⟨was⟩⟩, h2, _, w2⟩ := DataW.trod_string Tryz.underlying9 e2
      obtain ⟨⟨⟨tag⟩⟩, h3, _, w3⟩ := DataW.trod_string Tryz.underlying9 e3
      simp [rcL] at h0 ha h2 h3
      obtain ⟨rfl, rfl, rfl, rfl, rfl, rfl, rfl, rfl⟩ := ha
      subst h0 h2 h3
      exact ⟨⟨q, a, was, tag⟩, rfl, bounds_i64 w0, hfe, by simpa [ByteArray.size] using w2, by simpa [ByteArray.size] using w3, hfr, hfn⟩
end Go.Proofs.YtkidehngleglnaaGreatDoor.RcpC
/- More plain mathematics of receipts: where in the row of all a receipt stands; what is made of a place. No program is reached here. -/
namespace Go.Proofs.YtkidehngleglnaaGreatDoor.RcpQ
open RecN RecC EvoN ChnN ChnM ChnG RcpN
theorem all_pre (s : List Sd) (m : Nat) : ∀ d, ∃ r, allTo s (m + d) = allTo s m ++ r
  | 0 => ⟨[], by simp⟩
  | d + 1 => by
    obtain ⟨r, h⟩ := all_pre s m d
    by_cases hg : good1 s (m + d) = true
    · exact ⟨r ++ [mkR s (m + d)], by rw [show m + (d + 1) = (m + d) + 1 from rfl, all_yes hg, h, List.append_assoc]⟩
    · exact ⟨r, by rw [show m + (d + 1) = (m + d) + 1 from rfl, all_no (by simpa using hg), h]⟩
theorem all_mono (s : List Sd) {m n : Nat} (h : m ≤ n) : (allTo s m).length ≤ (allTo s n).length := by
  obtain ⟨r, e⟩ := all_pre s m (n - m)
  rw [show m + (n - m) = n by omega] at e
  rw [e, List.length_append]
  omega
/-- The receipt of a place that has one stands behind those of the places ahead. -/
theorem all_at (s : List Sd) {k n : Nat} (h : k < n) (hg : good1 s k = true) : ∃ hl : (allTo s k).length < (allTo s n).length, (allTo s n)[(allTo s k).length] = mkR s k := by
  obtain ⟨r, e⟩ := all_pre s (k + 1) (n - (k + 1))
  rw [show k + 1 + (n - (k + 1)) = n by omega, all_yes hg, List.append_assoc] at e
  have hl : (allTo s k).length < (allTo s n).length := by rw [e]; simp
  refine ⟨hl, ?_⟩
  simp only [e]
  rw [List.getElem_append_right (Nat.le_refl _)]
  simp
theorem all_succ (s : List Sd) (k : Nat) : (allTo s (k + 1)).length = (allTo s k).length + (if good1 s k = true then 1 else 0) := by
  rw [allTo, List.length_append]
  split <;> simp
theorem make_yes1 {s : List Sd} {k : Nat} (h : good1 s k = true) : make s (k : Int) = (mkR s k, 0) := by
  unfold good1 at h
  rw [Bool.and_eq_true, decide_eq_true_eq] at h
  exact make_nat h.1 h.2
theorem make_no1 {s : List Sd} {k : Nat} (h : good1 s k = false) : ∃ c, make s (k : Int) = (none_, c) ∧ (c == 0) = false := by
  unfold good1 at h
  by_cases hc : isC s k = true
  · rw [hc, Bool.true_and, decide_eq_false_iff_not] at h
    exact ⟨2, make_bad ⟨by omega, by rw [Int.toNat_natCast]; exact hc⟩ (by rw [Int.toNat_natCast]; exact h), rfl⟩
  · exact ⟨7, make_none (fun hh => hc (by rw [Int.toNat_natCast] at hh; exact hh.2)), rfl⟩
/-- What is made, in three ways. -/
theorem make_ways (s : List Sd) (i : Int) : (make s i = (none_, 7) ∧ ¬ (0 ≤ i ∧ isC s i.toNat = true)) ∨ (make s i = (none_, 2) ∧ (0 ≤ i ∧ isC s i.toNat = true) ∧ ¬ rok (mkR s i.toNat)) ∨ (make s i = (mkR s i.toNat, 0) ∧ (0 ≤ i ∧ isC s i.toNat = true) ∧ rok (mkR s i.toNat)) := by
  by_cases h : 0 ≤ i ∧ isC s i.toNat = true
  · by_cases hr : rok (mkR s i.toNat)
    · exact .inr (.inr ⟨make_yes h hr, h, hr⟩)
    · exact .inr (.inl ⟨make_bad h hr, h, hr⟩)
  · exact .inl ⟨make_none h, h⟩
theorem ofB_zero {s : List Sd} {x : Rcp} (h : (make s x.q).2 = 0) : ofB s x = decide ((make s x.q).1 = x) := by rw [ofB, dt h, Bool.true_and]
theorem ofB_not {s : List Sd} {x : Rcp} (h : ¬ (make s x.q).2 = 0) : ofB s x = false := by rw [ofB, df h, Bool.false_and]
theorem forge_yes {s : List Sd} {x : Rcp} (h : rok x) (ho : ofB s x = false) : forgeR s x = (say x.was x.q x.r, x.tag, true) := if_pos ⟨h, ho⟩
theorem forge_bad {s : List Sd} {x : Rcp} (h : ¬ rok x) : forgeR s x = ([], [], false) := if_neg (fun hh => h hh.1)
/-- The epochs of a row that may be sealed are at most 4096 beyond the first. -/
theorem near {root : List UInt8} {f : Int} {T : List Sd} (h : ChnM.Good root f T) (hf : farB f (recs T) = false) {k : Nat} (hk : k < T.length) : T[k].1.ep - f ≤ 4096 := by
  have key : ∀ (p : List Sd) (x : Sd), T = p ++ [x] → T[k].1.ep - f ≤ 4096 := fun p x e => by
    subst e
    have e : recs (p ++ [x]) = recs p ++ [x.1] := by unfold recs; rw [List.map_append]; rfl
    rw [e, far_snoc] at hf
    have h1 := of_decide_eq_false hf
    have hp : p.length < (p ++ [x]).length := by simp
    have h2 := (h.at_ hp).2
    have h3 := (h.at_ hk).2
    rw [List.getElem_append_right (Nat.le_refl _)] at h2
    simp only [Nat.sub_self, List.getElem_cons_zero] at h2
    have h4 : opn f ((recs (p ++ [x])).take k) ≤ opn f ((recs (p ++ [x])).take p.length) := opn_take _ _ (by simp at hk; omega)
    rw [← h2, ← h3] at h4
    omega
  rcases List.eq_nil_or_concat T with h0 | ⟨p, x, h0⟩
  · subst h0
    simp at hk
  · exact key p x (by rw [h0, List.concat_eq_append])
theorem good_of {root : List UInt8} {f : Int} {s : List Sd} (h : okR root f (recs s)) (ht : tagsOk root f s) : ChnM.Good root f s := ⟨h.2.2.1, ht⟩
/-- Each of all receipts of records that are right: it is right, is of these, and is of its epoch. -/
theorem all_right {root : List UInt8} {f : Int} {s : List Sd} (ho : okR root f (recs s)) (ht : tagsOk root f s) (hl : s.length ≤ 100000) {i : Nat} (hi : i < (allTo s s.length).length) :
    checkC root f (allTo s s.length)[i] = 0 ∧ ofB s (allTo s s.length)[i] = true ∧ (allTo s s.length)[i].r.ep = f + (i : Int) := by
  have hg := good_of ho ht
  obtain ⟨k, _, h1, h2⟩ := all_mem (List.getElem_mem hi)
  have h3 := (all_opn hg hl s.length (Nat.le_refl _)).2 i hi
  refine ⟨?_, ?_, h3⟩
  · rw [h2]
    exact right_mk hg ho (fun k hk => near hg ho.2.2.2 hk) hl (by rw [← good1_is hg hl]; exact h1)
  · rw [h2]
    exact of_mk h1
theorem all_many {root : List UInt8} {f : Int} {s : List Sd} (ho : okR root f (recs s)) (ht : tagsOk root f s) (hl : s.length ≤ 100000) : ((allTo s s.length).length : Int) = opn f (recs s) - f := by
  have h := (all_opn (good_of ho ht) hl s.length (Nat.le_refl _)).1
  rw [List.take_of_length_le (by rw [recs_len]; exact Nat.le_refl _)] at h
  exact h
end Go.Proofs.YtkidehngleglnaaGreatDoor.RcpQ
