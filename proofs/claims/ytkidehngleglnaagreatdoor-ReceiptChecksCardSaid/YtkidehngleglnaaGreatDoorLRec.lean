/- RecN RecC RecM RecP RecS RecK: one behind the other. -/
import Derived.Test.YtkidehngleglnaaGreatDoorLOb
import Derived.Test.YtkidehngleglnaaGreatDoorMem
import Derived.Test.YtkidehngleglnaaGreatDoorRows
import Derived.Laws.StructEq
import Derived.Deep.QuietTactic
import Derived.BigQuiet
import Derived.Deep.DeepCutAuto
import Derived.WalkKit
import Derived.ProofKit
import Derived.OpenShut
import Derived.ShutString
import Derived.ChangeOld
import Derived.Lib.ItoaNum
import Derived.Lib.Join
import Derived.Deep.RegionHeld3
import Derived.Laws.ResultCell
import Derived.BigRegion
/- Plain mathematics: records, their bytes, and the records of bytes. No program is reached here; no conditions but those that each lemma names. -/
namespace Go.Proofs.YtkidehngleglnaaGreatDoor.RecN
/-- A record. -/
structure Rec where
  k : Int
  ep : Int
  tm : Int
  ct : Int
  tg : Int
  un : Int
  rt : List UInt8
  nm : List UInt8
theorem same {a b : Rec} (h1 : a.k = b.k) (h2 : a.ep = b.ep) (h3 : a.tm = b.tm) (h4 : a.ct = b.ct) (h5 : a.tg = b.tg) (h6 : a.un = b.un) (h7 : a.rt = b.rt) (h8 : a.nm = b.nm) : a = b := by
  obtain ⟨_, _, _, _, _, _, _, _⟩ := a
  obtain ⟨_, _, _, _, _, _, _, _⟩ := b
  simp only at h1 h2 h3 h4 h5 h6 h7 h8
  rw [h1, h2, h3, h4, h5, h6, h7, h8]
def zero : Rec := ⟨0, 0, 0, 0, 0, 0, [], []⟩
/-- A letter, or a digit. -/
def letter (b : UInt8) : Bool := decide (97 ≤ b.toNat ∧ b.toNat ≤ 122) || decide (48 ≤ b.toNat ∧ b.toNat ≤ 57)
def isName (s : List UInt8) : Bool := decide (1 ≤ s.length ∧ s.length ≤ 16) && s.all letter
theorem name_len {s : List UInt8} (h : isName s = true) : 1 ≤ s.length ∧ s.length ≤ 16 := by
  unfold isName at h
  rw [Bool.and_eq_true, decide_eq_true_eq] at h
  exact h.1
/-- A record that may be. -/
def low (r : Rec) : Prop := 0 ≤ r.ep ∧ r.ep ≤ 4294967295 ∧ 0 ≤ r.tm ∧ r.tm ≤ 1099511627776
def aim (r : Rec) : Prop := 0 ≤ r.tg ∧ r.tg < r.ep
def due (r : Rec) : Prop := 0 ≤ r.un ∧ r.un ≤ 1099511627776
def fit1 (r : Rec) : Prop := 0 ≤ r.ct ∧ r.ct ≤ 4096 ∧ r.rt.length = 32 ∧ r.tg = 0 ∧ r.un = 0 ∧ r.nm = []
def fit2 (r : Rec) : Prop := aim r ∧ due r ∧ r.ct = 0 ∧ r.rt = [] ∧ r.nm = []
def fit3 (r : Rec) : Prop := aim r ∧ isName r.nm = true ∧ r.un = 0 ∧ r.ct = 0 ∧ r.rt = []
def fit4 (r : Rec) : Prop := isName r.nm = true ∧ r.tg = 0 ∧ r.un = 0 ∧ r.ct = 0 ∧ r.rt = []
def fit (r : Rec) : Prop := (r.k = 1 ∧ fit1 r) ∨ (r.k = 2 ∧ fit2 r) ∨ (r.k = 3 ∧ fit3 r) ∨ (r.k = 4 ∧ fit4 r) ∨ (r.k = 5 ∧ fit2 r)
def right (r : Rec) : Prop := low r ∧ fit r
instance (r : Rec) : Decidable (low r) := inferInstanceAs (Decidable (_ ∧ _ ∧ _ ∧ _))
instance (r : Rec) : Decidable (aim r) := inferInstanceAs (Decidable (_ ∧ _))
instance (r : Rec) : Decidable (due r) := inferInstanceAs (Decidable (_ ∧ _))
instance (r : Rec) : Decidable (fit1 r) := inferInstanceAs (Decidable (_ ∧ _ ∧ _ ∧ _ ∧ _ ∧ _))
instance (r : Rec) : Decidable (fit2 r) := inferInstanceAs (Decidable (_ ∧ _ ∧ _ ∧ _ ∧ _))
instance (r : Rec) : Decidable (fit3 r) := inferInstanceAs (Decidable (_ ∧ _ ∧ _ ∧ _ ∧ _))
instance (r : Rec) : Decidable (fit4 r) := inferInstanceAs (Decidable (_ ∧ _ ∧ _ ∧ _ ∧ _))
instance (r : Rec) : Decidable (fit r) := inferInstanceAs (Decidable (_ ∨ _ ∨ _ ∨ _ ∨ _))
instance (r : Rec) : Decidable (right r) := inferInstanceAs (Decidable (_ ∧ _))
/-- What bounds a record that may be. -/
theorem bounds {r : Rec} (h : right r) : (1 ≤ r.k ∧ r.k ≤ 5) ∧ (0 ≤ r.ep ∧ r.ep ≤ 4294967295) ∧ (0 ≤ r.tm ∧ r.tm ≤ 1099511627776) ∧ (0 ≤ r.ct ∧ r.ct ≤ 4096) ∧ (0 ≤ r.tg ∧ r.tg ≤ 4294967295) ∧ (0 ≤ r.un ∧ r.un ≤ 1099511627776) ∧ r.rt.length ≤ 32 ∧ r.nm.length ≤ 16 := by
  obtain ⟨⟨a1, a2, a3, a4⟩, h⟩ := h
  rcases h with ⟨hk, b1, b2, b3, b4, b5, b6⟩ | ⟨hk, ⟨b1, b2⟩, ⟨b3, b4⟩, b5, b6, b7⟩ | ⟨hk, ⟨b1, b2⟩, b3, b4, b5, b6⟩ | ⟨hk, b3, b4, b5, b6, b7⟩ | ⟨hk, ⟨b1, b2⟩, ⟨b3, b4⟩, b5, b6, b7⟩
  · rw [b6]; simp only [List.length_nil]; omega
  · rw [b6, b7]; simp only [List.length_nil]; omega
  · have := name_len b3
    rw [b6]; simp only [List.length_nil]; omega
  · have := name_len b3
    rw [b7]; simp only [List.length_nil]; omega
  · rw [b6, b7]; simp only [List.length_nil]; omega
/-- The widths, and a record's numbers. -/
def ws : List Int := [1, 4, 8, 4, 4, 8]
def nums (r : Rec) : List Int := [r.k, r.ep, r.tm, r.ct, r.tg, r.un]
theorem ok6 {r : Rec} (h : right r) : okTo ws (nums r) 6 := by
  obtain ⟨h1, h2, h3, h4, h5, h6, _⟩ := bounds h
  intro j hj
  match j, hj with
  | 0, _ => show (put r.k 1).2 = 0; rw [put_good _ _ (by omega) (by omega) (by omega) (by simp only [Int.reduceToNat, Int.reducePow]; omega)]
  | 1, _ => show (put r.ep 4).2 = 0; rw [put_good _ _ (by omega) (by omega) (by omega) (by simp only [Int.reduceToNat, Int.reducePow]; omega)]
  | 2, _ => show (put r.tm 8).2 = 0; rw [put_good _ _ (by omega) (by omega) (by omega) (by simp only [Int.reduceToNat, Int.reducePow]; omega)]
  | 3, _ => show (put r.ct 4).2 = 0; rw [put_good _ _ (by omega) (by omega) (by omega) (by simp only [Int.reduceToNat, Int.reducePow]; omega)]
  | 4, _ => show (put r.tg 4).2 = 0; rw [put_good _ _ (by omega) (by omega) (by omega) (by simp only [Int.reduceToNat, Int.reducePow]; omega)]
  | 5, _ => show (put r.un 8).2 = 0; rw [put_good _ _ (by omega) (by omega) (by omega) (by simp only [Int.reduceToNat, Int.reducePow]; omega)]
theorem nums_int {r : Rec} (h : right r) : ∀ x ∈ nums r, x ≤ 9223372036854775807 := by
  obtain ⟨h1, h2, h3, h4, h5, h6, _⟩ := bounds h
  intro x hx
  simp only [nums, List.mem_cons, List.not_mem_nil, or_false] at hx
  rcases hx with rfl | rfl | rfl | rfl | rfl | rfl <;> omega
/-- What is ahead of the two texts. -/
def head (r : Rec) : List UInt8 := packTo ws (nums r) 6
theorem pack_head {r : Rec} (h : right r) : pack ws (nums r) = (head r, 0) := by
  rw [pack, if_pos ⟨rfl, ok6 h⟩]
  rfl
theorem sum6 : sumTo ws 6 = 29 := rfl
theorem head_len {r : Rec} (h : right r) : (head r).length = 29 := by
  rw [head, packTo_sum ws (nums r) (nums_int h) 6 (ok6 h), sum6]
theorem unpack_head {r : Rec} (h : right r) : unpack ws (head r) = (nums r, 0) := unpack_pack ws (nums r) (nums_int h) rfl (ok6 h)
/-- A text behind its length. -/
def txt (l : List UInt8) : List UInt8 := be 4 l.length ++ l
theorem txt_len (l : List UInt8) : (txt l).length = 4 + l.length := by rw [txt, List.length_append, be_length]
/-- A record's bytes. -/
def bytes (r : Rec) : List UInt8 := head r ++ txt r.rt ++ txt r.nm
theorem bytes_len {r : Rec} (h : right r) : (bytes r).length = 37 + r.rt.length + r.nm.length := by
  rw [bytes, List.length_append, List.length_append, head_len h, txt_len, txt_len]; omega
/-- The parts of what may be a record's bytes. -/
def un_ (s : List UInt8) : List Int × Int := unpack ws (s.take 29)
def c1 (s : List UInt8) : List UInt8 × List UInt8 × Int := cut (s.drop 29)
def c2 (s : List UInt8) : List UInt8 × List UInt8 × Int := cut (c1 s).2.1
def got (s : List UInt8) : Rec := ⟨(un_ s).1.getD 0 0, (un_ s).1.getD 1 0, (un_ s).1.getD 2 0, (un_ s).1.getD 3 0, (un_ s).1.getD 4 0, (un_ s).1.getD 5 0, (c1 s).1, (c2 s).1⟩
def took (s : List UInt8) : Prop := 29 ≤ s.length ∧ (un_ s).2 = 0 ∧ (c1 s).2.2 = 0 ∧ (c2 s).2.2 = 0 ∧ right (got s)
instance (s : List UInt8) : Decidable (took s) := inferInstanceAs (Decidable (_ ∧ _ ∧ _ ∧ _ ∧ _))
/-- The record with whose bytes a text begins, what is behind it, and whether there is one. -/
def take_ (s : List UInt8) : Rec × List UInt8 × Bool := if took s then (got s, (c2 s).2.1, true) else (zero, [], false)
theorem take_yes {s : List UInt8} (h : took s) : take_ s = (got s, (c2 s).2.1, true) := if_pos h
theorem take_no {s : List UInt8} (h : ¬ took s) : take_ s = (zero, [], false) := if_neg h
/-- What was put is taken, whatever is behind it. -/
theorem take_bytes {r : Rec} (h : right r) (l : List UInt8) : take_ (bytes r ++ l) = (r, l, true) := by
  have hb := bounds h
  have h29 := head_len h
  have e0 : bytes r ++ l = head r ++ (be 4 r.rt.length ++ r.rt ++ (be 4 r.nm.length ++ r.nm ++ l)) := by
    rw [bytes, txt, txt]; simp only [List.append_assoc]
  have e1 : un_ (bytes r ++ l) = (nums r, 0) := by
    rw [un_, e0, List.take_append_of_le_length (by omega), List.take_of_length_le (by omega), unpack_head h]
  have e2 : c1 (bytes r ++ l) = (r.rt, be 4 r.nm.length ++ r.nm ++ l, 0) := by
    rw [c1, e0, List.drop_append_of_le_length (by omega), List.drop_of_length_le (by omega), List.nil_append, cut_text _ _ (by omega)]
  have e3 : c2 (bytes r ++ l) = (r.nm, l, 0) := by
    rw [c2, e2, cut_text _ _ (by omega)]
  have e4 : got (bytes r ++ l) = r := by
    rw [got, e1, e2, e3]; rfl
  have ht : took (bytes r ++ l) := ⟨by rw [e0, List.length_append]; omega, by rw [e1], by rw [e2], by rw [e3], by rw [e4]; exact h⟩
  rw [take_yes ht, e4, e3]
theorem cut_back {l a b : List UInt8} (h : cut l = (a, b, 0)) : txt a ++ b = l := by
  by_cases hg : l.length < 4 ∨ l.length - 4 < num (l.take 4)
  · rw [cut_bad l hg] at h
    cases h
  · have h1 : 4 ≤ l.length := by omega
    have h2 : num (l.take 4) ≤ l.length - 4 := by omega
    rw [cut_good l h1 h2] at h
    simp only [Prod.mk.injEq, and_true] at h
    obtain ⟨rfl, rfl⟩ := h
    have h3 : ((l.drop 4).take (num (l.take 4))).length = num (l.take 4) := by rw [List.length_take, List.length_drop]; omega
    have h4 : (l.take 4).length = 4 := by rw [List.length_take]; omega
    have h5 : be 4 (num (l.take 4)) = l.take 4 := by
      have := be_num (l.take 4)
      rw [h4] at this
      exact this
    rw [txt, h3, h5, List.append_assoc, List.take_append_drop, List.take_append_drop]
/-- Numbers that were taken, put again. -/
theorem pack_back (l : List UInt8) (hl : l.length = 29) (h : gotTo ws l 6) : packTo ws (numsTo ws l 6) 6 = l := by
  have key : ∀ i, i < 6 → put ((numsTo ws l 6).getD i 0) (ws.getD i 0) = (piece ws l i, 0) := by
    intro i hi
    have e : (numsTo ws l 6).getD i 0 = (get (piece ws l i)).1 := by
      match i, hi with
      | 0, _ => rfl
      | 1, _ => rfl
      | 2, _ => rfl
      | 3, _ => rfl
      | 4, _ => rfl
      | 5, _ => rfl
    have hp : ((piece ws l i).length : Int) = ws.getD i 0 := by
      match i, hi with
      | 0, _ => show (((l.drop 0).take 1).length : Int) = 1; rw [List.length_take, List.length_drop]; omega
      | 1, _ => show (((l.drop 1).take 4).length : Int) = 4; rw [List.length_take, List.length_drop]; omega
      | 2, _ => show (((l.drop 5).take 8).length : Int) = 8; rw [List.length_take, List.length_drop]; omega
      | 3, _ => show (((l.drop 13).take 4).length : Int) = 4; rw [List.length_take, List.length_drop]; omega
      | 4, _ => show (((l.drop 17).take 4).length : Int) = 4; rw [List.length_take, List.length_drop]; omega
      | 5, _ => show (((l.drop 21).take 8).length : Int) = 8; rw [List.length_take, List.length_drop]; omega
    rw [e, ← hp]
    exact put_get _ (h i hi)
  have hs : ∀ i, i ≤ 6 → packTo ws (numsTo ws l 6) i = l.take (sumTo ws i) := by
    intro i
    induction i with
    | zero => intro _; rfl
    | succ i ih =>
      intro hi
      rw [packTo, ih (by omega), key i (by omega), sumTo, List.take_add]
      rfl
  rw [hs 6 (Nat.le_refl _), sum6, List.take_of_length_le (by omega)]
/-- What was taken, put, is what was cut off. -/
theorem bytes_take {s : List UInt8} (h : took s) : bytes (got s) ++ (c2 s).2.1 = s := by
  obtain ⟨h1, h2, h3, h4, _⟩ := h
  have hl : (s.take 29).length = 29 := by rw [List.length_take]; omega
  have hu : un_ s = (numsTo ws (s.take 29) 6, 0) ∧ gotTo ws (s.take 29) 6 := by
    have hw : widthsTo ws ws.length := (by decide : ∀ j, j < 6 → 1 ≤ ws.getD j 0 ∧ ws.getD j 0 ≤ 8)
    by_cases hg : gotTo ws (s.take 29) ws.length
    · exact ⟨unpack_good ws _ hw (by rw [hl]; rfl) hg, hg⟩
    · have := unpack_bad ws (s.take 29) hw (by rw [hl]; rfl) hg
      rw [un_, this] at h2
      cases h2
  have e1 : nums (got s) = numsTo ws (s.take 29) 6 := by
    rw [got, hu.1]; rfl
  have e2 : head (got s) = s.take 29 := by
    rw [head, e1, pack_back _ hl hu.2]
  have e3 : txt (c1 s).1 ++ (c1 s).2.1 = s.drop 29 := cut_back (l := s.drop 29) (by
    show c1 s = _
    rw [← h3])
  have e4 : txt (c2 s).1 ++ (c2 s).2.1 = (c1 s).2.1 := cut_back (l := (c1 s).2.1) (by
    show c2 s = _
    rw [← h4])
  show (head (got s) ++ txt (c1 s).1 ++ txt (c2 s).1) ++ (c2 s).2.1 = s
  rw [List.append_assoc, e4, List.append_assoc, e3, e2, List.take_append_drop]
/-- Unlike records have unlike bytes, of which none begins with the other's. -/
theorem begins {a b : Rec} {x y : List UInt8} (ha : right a) (hb : right b) (h : bytes a ++ x = bytes b ++ y) : a = b := by
  have h1 := take_bytes ha x
  have h2 := take_bytes hb y
  rw [h, h2] at h1
  exact (Prod.mk.inj h1).1.symm
theorem bytes_inj {a b : Rec} (ha : right a) (hb : right b) (h : bytes a = bytes b) : a = b := begins (x := []) (y := []) ha hb (by rw [h])
theorem apart {a b : Rec} {n : Nat} (ha : right a) (hb : right b) (hn : n = min (bytes a).length (bytes b).length) (h : (bytes a).take n = (bytes b).take n) : a = b := by
  rcases Nat.le_total (bytes a).length (bytes b).length with hle | hle
  · rw [hn, Nat.min_eq_left hle, List.take_of_length_le (Nat.le_refl _)] at h
    refine begins (x := (bytes b).drop (bytes a).length) (y := []) ha hb ?_
    conv => lhs; rw [h]
    rw [List.length_take, Nat.min_eq_left hle, List.take_append_drop, List.append_nil]
  · rw [hn, Nat.min_eq_right hle, List.take_of_length_le (l := bytes b) (Nat.le_refl _)] at h
    refine begins (x := []) (y := (bytes a).drop (bytes b).length) ha hb ?_
    conv => rhs; rw [← h]
    rw [List.length_take, Nat.min_eq_left hle, List.take_append_drop, List.append_nil]
end Go.Proofs.YtkidehngleglnaaGreatDoor.RecN
/- A record in a block of memory: its eight cells; two held against each other; a record that comes in. No conditions but those that each lemma names. -/
namespace Go.Proofs.YtkidehngleglnaaGreatDoor.RecC
open Go.ChangeShapes Go.WideShapes Go.ChangeAt Go.RowKit
open RecN
theorem mk_append (l m : List UInt8) : (⟨l.toArray⟩ : ByteArray) ++ ⟨m.toArray⟩ = ⟨(l ++ m).toArray⟩ := by
  apply ByteArray.ext
  simp [ByteArray.data_append]
theorem size_mk (s : List UInt8) : (⟨s.toArray⟩ : ByteArray).size = s.length := by simp [ByteArray.size]
theorem ext_at (s : List UInt8) (n m : Nat) : (⟨s.toArray⟩ : ByteArray).extract n m = ⟨((s.drop n).take (m - n)).toArray⟩ := by rw [ByteArray.extract_mk]
theorem dt {p : Prop} [Decidable p] (h : p) : decide p = true := decide_eq_true h
theorem df {p : Prop} [Decidable p] (h : ¬ p) : decide p = false := decide_eq_false h
theorem text_mk (s : List UInt8) : text ⟨s.toArray⟩ = ⟨(txt s).toArray⟩ := by
  unfold text txt
  rw [size_mk, mk_append]
theorem lt_of_some {w : World} {g : Nat} {o : Obj} (h : w.heap[g]? = some o) : g < w.heap.size := (Array.getElem?_eq_some_iff.1 h).1
/-- A struct stored into a new block. -/
theorem kept_new (w : World) (old cs : Array Value) (t : TypeId) : Below w.heap.size w ((w.alloc (.cells old t)).setRow w.heap.size cs) := below_setRow ((Below.refl _ _).alloc (Nat.le_refl _) _) (Nat.le_refl _) _
theorem has_new (w : World) (old cs : Array Value) (t : TypeId) : ((w.alloc (.cells old t)).setRow w.heap.size cs).heap[w.heap.size]? = some (.cells cs t (0, 0)) := setRow_same (heap_alloc_new w _)
theorem below_new (w : World) (o : Obj) : Below w.heap.size w (w.alloc o) := (Below.refl _ _).alloc (Nat.le_refl _) _
/-- Results of which the first is a struct in a cell. -/
theorem results_cell_tmp_row {P : Program} {fn : Func} {p u : Tmp} {ty : TypeId} (h : fn.results = #[.cell p ty, .tmp u]) (tmps : Array Value) (w : World) (g : Nat) (t : TypeId) (cs : Array Value) (fr : Nat × Nat) (d : TypeDesc)
    (hp : tmps.getD p undef = .pointer (some ⟨g, 0, none⟩)) (hg : w.heap[g]? = some (.cells cs t fr))
    (hu : P.underlying ty = some d) (hd : (match d with | .struct _ | .array _ _ => true | _ => false) = true) (hi : (P.info? ty).map (·.size) = some cs.size) :
    (results fn tmps).run P w = .ok (.tuple #[.agg cs, tmps.getD u undef]) w := by
  rw [results_cell_tmp h, hp]
  simp [asAddr, run_loadVar_row w g t ty cs fr d hg hu hd hi]
theorem infoR : (Tryz.prog.info? 23).map (·.size) = some 8 := by kernel_rfl
theorem one8 (r : Rec) : (#[.int .i64 r.k, .int .i64 r.ep, .int .i64 r.tm, .int .i64 r.ct, .int .i64 r.tg, .int .i64 r.un, .string ⟨r.rt.toArray⟩, .string ⟨r.nm.toArray⟩] : Array Value).all (·.oneCell') = true := by simp [Value.oneCell']
theorem one0 : (#[.int .i64 0, .int .i64 0, .int .i64 0, .int .i64 0, .int .i64 0, .int .i64 0, .string ⟨#[]⟩, .string ⟨#[]⟩] : Array Value).all (·.oneCell') = true := by simp [Value.oneCell']
/-- A record in a block. -/
def Bk (W : World) (X : Nat) (r : Rec) : Prop := W.heap[X]? = some (.cells #[.int .i64 r.k, .int .i64 r.ep, .int .i64 r.tm, .int .i64 r.ct, .int .i64 r.tg, .int .i64 r.un, .string ⟨r.rt.toArray⟩, .string ⟨r.nm.toArray⟩] 23 (0, 0))
theorem Bk.lt {W : World} {X : Nat} {r : Rec} (h : Bk W X r) : X < W.heap.size := lt_of_some h
theorem Bk.step {W W' : World} {X : Nat} {r : Rec} (h : Bk W X r) (hb : Below W.heap.size W W') : Bk W' X r := (hb.block _ h.lt).trans h
theorem Bk.drew {W : World} {X : Nat} {r : Rec} (h : Bk W X r) : Bk W.drew X r := h
theorem Bk.cells {W : World} {X : Nat} {r : Rec} (h : Bk W X r) : W.cell? ⟨X, 0, none⟩ = some (.int .i64 r.k) ∧ W.cell? ⟨X, 1, none⟩ = some (.int .i64 r.ep) ∧ W.cell? ⟨X, 2, none⟩ = some (.int .i64 r.tm) ∧ W.cell? ⟨X, 3, none⟩ = some (.int .i64 r.ct) ∧ W.cell? ⟨X, 4, none⟩ = some (.int .i64 r.tg) ∧ W.cell? ⟨X, 5, none⟩ = some (.int .i64 r.un) ∧ W.cell? ⟨X, 6, none⟩ = some (.string ⟨r.rt.toArray⟩) ∧ W.cell? ⟨X, 7, none⟩ = some (.string ⟨r.nm.toArray⟩) :=
  ⟨blk_cell h rfl, blk_cell h rfl, blk_cell h rfl, blk_cell h rfl, blk_cell h rfl, blk_cell h rfl, blk_cell h rfl, blk_cell h rfl⟩
/-- What stands while a function runs that was given a record: what was stays, the record in its block. -/
structure Ws (w : World) (r : Rec) (W : World) : Prop where
  bel : Below w.heap.size w W
  k : Bk W w.heap.size r
theorem ws_new (w : World) (r : Rec) : Ws w r (w.alloc (.cells #[.int .i64 r.k, .int .i64 r.ep, .int .i64 r.tm, .int .i64 r.ct, .int .i64 r.tg, .int .i64 r.un, .string ⟨r.rt.toArray⟩, .string ⟨r.nm.toArray⟩] 23)) := ⟨below_new w _, heap_alloc_new w _⟩
theorem Ws.step {w W W' : World} {r : Rec} (h : Ws w r W) (hb : Below W.heap.size W W') : Ws w r W' := ⟨h.bel.trans (hb.mono h.bel.size), h.k.step hb⟩
theorem Ws.drew {w W : World} {r : Rec} (h : Ws w r W) : Ws w r W.drew := ⟨h.bel.drew, h.k⟩
theorem fields_rec : Tryz.prog.fieldsOf 23 = #[{ name := "Kind", type := 3, offset := 0, embedded := false, tag := "", pkgPath := "", byteOffset := 0 }, { name := "Epoch", type := 3, offset := 1, embedded := false, tag := "", pkgPath := "", byteOffset := 8 }, { name := "Time", type := 3, offset := 2, embedded := false, tag := "", pkgPath := "", byteOffset := 16 }, { name := "Count", type := 3, offset := 3, embedded := false, tag := "", pkgPath := "", byteOffset := 24 }, { name := "Target", type := 3, offset := 4, embedded := false, tag := "", pkgPath := "", byteOffset := 32 }, { name := "Until", type := 3, offset := 5, embedded := false, tag := "", pkgPath := "", byteOffset := 40 }, { name := "Root", type := 9, offset := 6, embedded := false, tag := "", pkgPath := "", byteOffset := 48 }, { name := "Name", type := 9, offset := 7, embedded := false, tag := "", pkgPath := "", byteOffset := 64 }] := by kernel_rfl
theorem under_rec : Tryz.prog.underlying 23 = some (.struct (Tryz.prog.fieldsOf 23)) := by kernel_rfl
theorem stood_rec : Tryz.prog.stoodInHeld 23 = false := by kernel_rfl
theorem eq_iff {a b : Rec} : a = b ↔ a.k = b.k ∧ a.ep = b.ep ∧ a.tm = b.tm ∧ a.ct = b.ct ∧ a.tg = b.tg ∧ a.un = b.un ∧ a.rt = b.rt ∧ a.nm = b.nm :=
  ⟨fun h => by rw [h]; exact ⟨rfl, rfl, rfl, rfl, rfl, rfl, rfl, rfl⟩, fun ⟨h1, h2, h3, h4, h5, h6, h7, h8⟩ => same h1 h2 h3 h4 h5 h6 h7 h8⟩
instance (a b : Rec) : Decidable (a = b) := decidable_of_iff _ eq_iff.symm
theorem run_in_rec (W : World) (a b : Rec) (q : Bool) (h : decide (a = b) = q) :
    (Op.equalIn 10000 23 (.agg #[.int .i64 a.k, .int .i64 a.ep, .int .i64 a.tm, .int .i64 a.ct, .int .i64 a.tg, .int .i64 a.un, .string ⟨a.rt.toArray⟩, .string ⟨a.nm.toArray⟩]) (.agg #[.int .i64 b.k, .int .i64 b.ep, .int .i64 b.tm, .int .i64 b.ct, .int .i64 b.tg, .int .i64 b.un, .string ⟨b.rt.toArray⟩, .string ⟨b.nm.toArray⟩])).run Tryz.prog W = .ok q W := by
  have hh : ∀ x y : Int, (Op.equalIn 9999 3 (.int .i64 x) (.int .i64 y)).run Tryz.prog W = .ok (x == y) W := fun x y => run_equalIn_int W 9998 3 .i64 .i64 x y Tryz.underlying3
  have hs : ∀ x y : List UInt8, (Op.equalIn 9999 9 (.string ⟨x.toArray⟩) (.string ⟨y.toArray⟩)).run Tryz.prog W = .ok (x == y) W := fun x y => by
    have := run_equalIn_string W 9998 9 ⟨x.toArray⟩ ⟨y.toArray⟩ Tryz.underlying9
    rw [ByteArray.toList_mk, ByteArray.toList_mk] at this
    exact this
  have p0 : ∀ r : Rec, (part 3 #[.int .i64 r.k, .int .i64 r.ep, .int .i64 r.tm, .int .i64 r.ct, .int .i64 r.tg, .int .i64 r.un, .string ⟨r.rt.toArray⟩, .string ⟨r.nm.toArray⟩] 0).run Tryz.prog W = .ok (.int .i64 r.k) W := fun r => by simp [part, isAgg, run_underlying Tryz.underlying3]
  have p1 : ∀ r : Rec, (part 3 #[.int .i64 r.k, .int .i64 r.ep, .int .i64 r.tm, .int .i64 r.ct, .int .i64 r.tg, .int .i64 r.un, .string ⟨r.rt.toArray⟩, .string ⟨r.nm.toArray⟩] 1).run Tryz.prog W = .ok (.int .i64 r.ep) W := fun r => by simp [part, isAgg, run_underlying Tryz.underlying3]
  have p2 : ∀ r : Rec, (part 3 #[.int .i64 r.k, .int .i64 r.ep, .int .i64 r.tm, .int .i64 r.ct, .int .i64 r.tg, .int .i64 r.un, .string ⟨r.rt.toArray⟩, .string ⟨r.nm.toArray⟩] 2).run Tryz.prog W = .ok (.int .i64 r.tm) W := fun r => by simp [part, isAgg, run_underlying Tryz.underlying3]
  have p3 : ∀ r : Rec, (part 3 #[.int .i64 r.k, .int .i64 r.ep, .int .i64 r.tm, .int .i64 r.ct, .int .i64 r.tg, .int .i64 r.un, .string ⟨r.rt.toArray⟩, .string ⟨r.nm.toArray⟩] 3).run Tryz.prog W = .ok (.int .i64 r.ct) W := fun r => by simp [part, isAgg, run_underlying Tryz.underlying3]
  have p4 : ∀ r : Rec, (part 3 #[.int .i64 r.k, .int .i64 r.ep, .int .i64 r.tm, .int .i64 r.ct, .int .i64 r.tg, .int .i64 r.un, .string ⟨r.rt.toArray⟩, .string ⟨r.nm.toArray⟩] 4).run Tryz.prog W = .ok (.int .i64 r.tg) W := fun r => by simp [part, isAgg, run_underlying Tryz.underlying3]
  have p5 : ∀ r : Rec, (part 3 #[.int .i64 r.k, .int .i64 r.ep, .int .i64 r.tm, .int .i64 r.ct, .int .i64 r.tg, .int .i64 r.un, .string ⟨r.rt.toArray⟩, .string ⟨r.nm.toArray⟩] 5).run Tryz.prog W = .ok (.int .i64 r.un) W := fun r => by simp [part, isAgg, run_underlying Tryz.underlying3]
  have p6 : ∀ r : Rec, (part 9 #[.int .i64 r.k, .int .i64 r.ep, .int .i64 r.tm, .int .i64 r.ct, .int .i64 r.tg, .int .i64 r.un, .string ⟨r.rt.toArray⟩, .string ⟨r.nm.toArray⟩] 6).run Tryz.prog W = .ok (.string ⟨r.rt.toArray⟩) W := fun r => by simp [part, isAgg, run_underlying Tryz.underlying9]
  have p7 : ∀ r : Rec, (part 9 #[.int .i64 r.k, .int .i64 r.ep, .int .i64 r.tm, .int .i64 r.ct, .int .i64 r.tg, .int .i64 r.un, .string ⟨r.rt.toArray⟩, .string ⟨r.nm.toArray⟩] 7).run Tryz.prog W = .ok (.string ⟨r.nm.toArray⟩) W := fun r => by simp [part, isAgg, run_underlying Tryz.underlying9]
  rw [run_equalIn_struct W 9999 _ _ _ under_rec stood_rec, fields_rec]
  subst h
  simp only [Op.eqFields, Sem.run_bind, Sem.run_ite, p0, p1, p2, p3, p4, p5, p6, p7, hh, hs, Result.andThen_ok]
  by_cases h1 : a.k = b.k
  rotate_left 1
  · simp [h1, eq_iff]
  by_cases h2 : a.ep = b.ep
  rotate_left 1
  · simp [h1, h2, eq_iff]
  by_cases h3 : a.tm = b.tm
  rotate_left 1
  · simp [h1, h2, h3, eq_iff]
  by_cases h4 : a.ct = b.ct
  rotate_left 1
  · simp [h1, h2, h3, h4, eq_iff]
  by_cases h5 : a.tg = b.tg
  rotate_left 1
  · simp [h1, h2, h3, h4, h5, eq_iff]
  by_cases h6 : a.un = b.un
  rotate_left 1
  · simp [h1, h2, h3, h4, h5, h6, eq_iff]
  by_cases h7 : a.rt = b.rt
  rotate_left 1
  · simp [h1, h2, h3, h4, h5, h6, h7, eq_iff]
  by_cases h8 : a.nm = b.nm
  rotate_left 1
  · simp [h1, h2, h3, h4, h5, h6, h7, h8, eq_iff]
  simp [h1, h2, h3, h4, h5, h6, h7, h8, eq_iff]
/-- Two records held against each other. -/
theorem run_neq_rec (W : World) (a b : Rec) (q : Bool) (h : decide (a = b) = q) :
    (binOp .neq 23 (.agg #[.int .i64 a.k, .int .i64 a.ep, .int .i64 a.tm, .int .i64 a.ct, .int .i64 a.tg, .int .i64 a.un, .string ⟨a.rt.toArray⟩, .string ⟨a.nm.toArray⟩]) (.agg #[.int .i64 b.k, .int .i64 b.ep, .int .i64 b.tm, .int .i64 b.ct, .int .i64 b.tg, .int .i64 b.un, .string ⟨b.rt.toArray⟩, .string ⟨b.nm.toArray⟩])).run Tryz.prog W = .ok (.bool (!q)) W := by
  rw [run_neq_struct, run_in_rec W a b q h, Result.andThen_ok]
theorem run_eql_rec (W : World) (a b : Rec) (q : Bool) (h : decide (a = b) = q) :
    (binOp .eql 23 (.agg #[.int .i64 a.k, .int .i64 a.ep, .int .i64 a.tm, .int .i64 a.ct, .int .i64 a.tg, .int .i64 a.un, .string ⟨a.rt.toArray⟩, .string ⟨a.nm.toArray⟩]) (.agg #[.int .i64 b.k, .int .i64 b.ep, .int .i64 b.tm, .int .i64 b.ct, .int .i64 b.tg, .int .i64 b.un, .string ⟨b.rt.toArray⟩, .string ⟨b.nm.toArray⟩])).run Tryz.prog W = .ok (.bool q) W := by
  rw [run_eql_struct, run_in_rec W a b q h, Result.andThen_ok]
theorem cInt : Tryz.prog.cellsOf 3 = 1 := by kernel_rfl
theorem cStr : Tryz.prog.cellsOf 9 = 1 := by kernel_rfl
theorem cRec : Tryz.prog.cellsOf 23 = 8 := by kernel_rfl
set_option maxRecDepth 100000 in
/-- A record by value. -/
theorem open_record {H : Type} {enc : TypeId × Value → H} {W : World} {r : Reach} {b0 : Nat} {v : Value} {d : DataW H} {p : List MemPlace} (hval : Value.okWide Tryz.prog W r b0 23 v)
    (h : DataW.Trod enc Tryz.prog W 0 (fun _ => true) true 23 v d p) :
    ∃ a : Rec, v = .agg #[.int .i64 a.k, .int .i64 a.ep, .int .i64 a.tm, .int .i64 a.ct, .int .i64 a.tg, .int .i64 a.un, .string ⟨a.rt.toArray⟩, .string ⟨a.nm.toArray⟩] := by
  obtain ⟨cs, rfl, _⟩ := okWide_struct Tryz.underlying23 hval
  obtain ⟨fuel, hf⟩ := h
  obtain ⟨xs, n, _, _, hl, hxl, hel⟩ := DataW.trod_struct Tryz.underlying23 hf
  rw [cRec] at hl
  have e0 : DataW.trod enc Tryz.prog W 0 (fun _ => true) true n 3 (((Value.agg cs).cells.toList.drop 0).take (Tryz.prog.cellsOf 3)) = xs[0]? := hel 0 _ rfl
  have e1 : DataW.trod enc Tryz.prog W 0 (fun _ => true) true n 3 (((Value.agg cs).cells.toList.drop 1).take (Tryz.prog.cellsOf 3)) = xs[1]? := hel 1 _ rfl
  have e2 : DataW.trod enc Tryz.prog W 0 (fun _ => true) true n 3 (((Value.agg cs).cells.toList.drop 2).take (Tryz.prog.cellsOf 3)) = xs[2]? := hel 2 _ rfl
  have e3 : DataW.trod enc Tryz.prog W 0 (fun _ => true) true n 3 (((Value.agg cs).cells.toList.drop 3).take (Tryz.prog.cellsOf 3)) = xs[3]? := hel 3 _ rfl
  have e4 : DataW.trod enc Tryz.prog W 0 (fun _ => true) true n 3 (((Value.agg cs).cells.toList.drop 4).take (Tryz.prog.cellsOf 3)) = xs[4]? := hel 4 _ rfl
  have e5 : DataW.trod enc Tryz.prog W 0 (fun _ => true) true n 3 (((Value.agg cs).cells.toList.drop 5).take (Tryz.prog.cellsOf 3)) = xs[5]? := hel 5 _ rfl
  have e6 : DataW.trod enc Tryz.prog W 0 (fun _ => true) true n 9 (((Value.agg cs).cells.toList.drop 6).take (Tryz.prog.cellsOf 9)) = xs[6]? := hel 6 _ rfl
  have e7 : DataW.trod enc Tryz.prog W 0 (fun _ => true) true n 9 (((Value.agg cs).cells.toList.drop 7).take (Tryz.prog.cellsOf 9)) = xs[7]? := hel 7 _ rfl
  rw [cInt] at e0 e1 e2 e3 e4 e5
  rw [cStr] at e6 e7
  simp only [Value.cells] at hl e0 e1 e2 e3 e4 e5 e6 e7
  obtain ⟨l, rfl⟩ : ∃ l : List Value, cs = l.toArray := ⟨cs.toList, by simp⟩
  match xs, hxl with
  | [y0, y1, y2, y3, y4, y5, y6, y7], _ =>
    match l, hl with
    | [v0, v1, v2, v3, v4, v5, v6, v7], _ =>
      obtain ⟨k, h0, _, _⟩ := DataW.trod_int Tryz.underlying3 e0
      obtain ⟨ep, h1, _, _⟩ := DataW.trod_int Tryz.underlying3 e1
      obtain ⟨tm, h2, _, _⟩ := DataW.trod_int Tryz.underlying3 e2
      obtain ⟨ct, h3, _, _⟩ := DataW.trod_int Tryz.underlying3 e3
      obtain ⟨tg, h4, _, _⟩ := DataW.trod_int Tryz.underlying3 e4
      obtain ⟨un, h5, _, _⟩ := DataW.trod_int Tryz.underlying3 e5
      obtain ⟨⟨⟨rt⟩⟩, h6, _, _⟩ := DataW.trod_string Tryz.underlying9 e6
      obtain ⟨⟨⟨nm⟩⟩, h7, _, _⟩ := DataW.trod_string Tryz.underlying9 e7
      simp at h0 h1 h2 h3 h4 h5 h6 h7
      subst h0 h1 h2 h3 h4 h5 h6 h7
      exact ⟨⟨k, ep, tm, ct, tg, un, rt, nm⟩, rfl⟩
end Go.Proofs.YtkidehngleglnaaGreatDoor.RecC
/- Plain mathematics: what a record's kind says of it, and a record in words. No program is reached here; no conditions but those that each lemma names. -/
namespace Go.Proofs.YtkidehngleglnaaGreatDoor.RecM
open RecN RecC
/-- What the kind says of the record. -/
def said (r : Rec) : Rec :=
  if r.k = 1 then ⟨r.k, r.ep, r.tm, r.ct, 0, 0, r.rt, []⟩
  else if r.k = 2 ∨ r.k = 5 then ⟨r.k, r.ep, r.tm, 0, r.tg, r.un, [], []⟩
  else if r.k = 3 then ⟨r.k, r.ep, r.tm, 0, r.tg, 0, [], r.nm⟩
  else if r.k = 4 then ⟨r.k, r.ep, r.tm, 0, 0, 0, [], r.nm⟩
  else ⟨r.k, r.ep, r.tm, 0, 0, 0, [], []⟩
theorem said1 {r : Rec} (h : r.k = 1) : said r = ⟨r.k, r.ep, r.tm, r.ct, 0, 0, r.rt, []⟩ := if_pos h
theorem said2 {r : Rec} (h : r.k = 2 ∨ r.k = 5) : said r = ⟨r.k, r.ep, r.tm, 0, r.tg, r.un, [], []⟩ := by
  rw [said, if_neg (by omega), if_pos h]
theorem said3 {r : Rec} (h : r.k = 3) : said r = ⟨r.k, r.ep, r.tm, 0, r.tg, 0, [], r.nm⟩ := by
  rw [said, if_neg (by omega), if_neg (by omega), if_pos h]
theorem said4 {r : Rec} (h : r.k = 4) : said r = ⟨r.k, r.ep, r.tm, 0, 0, 0, [], r.nm⟩ := by
  rw [said, if_neg (by omega), if_neg (by omega), if_neg (by omega), if_pos h]
theorem said0 {r : Rec} (h : r.k ≠ 1 ∧ r.k ≠ 2 ∧ r.k ≠ 3 ∧ r.k ≠ 4 ∧ r.k ≠ 5) : said r = ⟨r.k, r.ep, r.tm, 0, 0, 0, [], []⟩ := by
  rw [said, if_neg (by omega), if_neg (by omega), if_neg (by omega), if_neg (by omega)]
/-- What the kind asks of what it says. -/
def asks (r : Rec) : Prop := (r.k = 1 ∧ 0 ≤ r.ct ∧ r.ct ≤ 4096 ∧ r.rt.length = 32) ∨ (r.k = 2 ∧ aim r ∧ RecN.due r) ∨ (r.k = 3 ∧ aim r ∧ isName r.nm = true) ∨ (r.k = 4 ∧ isName r.nm = true) ∨ (r.k = 5 ∧ aim r ∧ RecN.due r)
instance (r : Rec) : Decidable (asks r) := inferInstanceAs (Decidable (_ ∨ _ ∨ _ ∨ _ ∨ _))
def may (r : Rec) : Prop := low r ∧ asks r
instance (r : Rec) : Decidable (may r) := inferInstanceAs (Decidable (_ ∧ _))
/-- A record may be, if it is what its kind says of it, and that may be said. -/
theorem right_iff (r : Rec) : right r ↔ r = said r ∧ may r := by
  unfold right may fit asks fit1 fit2 fit3 fit4
  constructor
  · rintro ⟨hl, h⟩
    rcases h with ⟨hk, b1, b2, b3, b4, b5, b6⟩ | ⟨hk, b1, b2, b3, b4, b5⟩ | ⟨hk, b1, b2, b3, b4, b5⟩ | ⟨hk, b1, b2, b3, b4, b5⟩ | ⟨hk, b1, b2, b3, b4, b5⟩
    · exact ⟨by rw [said1 hk]; exact same rfl rfl rfl rfl b4 b5 rfl b6, hl, .inl ⟨hk, b1, b2, b3⟩⟩
    · exact ⟨by rw [said2 (.inl hk)]; exact same rfl rfl rfl b3 rfl rfl b4 b5, hl, .inr (.inl ⟨hk, b1, b2⟩)⟩
    · exact ⟨by rw [said3 hk]; exact same rfl rfl rfl b4 rfl b3 b5 rfl, hl, .inr (.inr (.inl ⟨hk, b1, b2⟩))⟩
    · exact ⟨by rw [said4 hk]; exact same rfl rfl rfl b4 b2 b3 b5 rfl, hl, .inr (.inr (.inr (.inl ⟨hk, b1⟩)))⟩
    · exact ⟨by rw [said2 (.inr hk)]; exact same rfl rfl rfl b3 rfl rfl b4 b5, hl, .inr (.inr (.inr (.inr ⟨hk, b1, b2⟩)))⟩
  · rintro ⟨e, hl, h⟩
    rw [eq_iff] at e
    obtain ⟨e1, e2, e3, e4, e5, e6, e7, e8⟩ := e
    refine ⟨hl, ?_⟩
    rcases h with ⟨hk, b1, b2, b3⟩ | ⟨hk, b1, b2⟩ | ⟨hk, b1, b2⟩ | ⟨hk, b1⟩ | ⟨hk, b1, b2⟩
    · rw [said1 hk] at e5 e6 e8
      exact .inl ⟨hk, b1, b2, b3, e5, e6, e8⟩
    · rw [said2 (.inl hk)] at e4 e7 e8
      exact .inr (.inl ⟨hk, b1, b2, e4, e7, e8⟩)
    · rw [said3 hk] at e4 e6 e7
      exact .inr (.inr (.inl ⟨hk, b1, b2, e6, e4, e7⟩))
    · rw [said4 hk] at e4 e5 e6 e7
      exact .inr (.inr (.inr (.inl ⟨hk, b1, e5, e6, e4, e7⟩)))
    · rw [said2 (.inr hk)] at e4 e7 e8
      exact .inr (.inr (.inr (.inr ⟨hk, b1, b2, e4, e7, e8⟩)))
/-- A number from 0 on in decimal digits. -/
def dec (n : Int) : List UInt8 := Lib.decDigits n.toNat
theorem itoa_dec {n : Int} (h : 0 ≤ n) : Lib.itoa n = dec n := by rw [Lib.itoa, if_neg (by omega)]; rfl
theorem digits_len : ∀ (k u : Nat), u < 10 ^ k → (Lib.decDigits u).length ≤ k ∨ k = 0
  | 0, _, _ => .inr rfl
  | k + 1, u, h => by
    by_cases hu : u < 10
    · rw [Lib.decDigits_one hu]; left; simp
    · rw [Lib.decDigits, dif_neg hu, List.length_append]
      rw [Nat.pow_succ] at h
      rcases digits_len k (u / 10) (by omega) with hh | hh
      · left; simp; omega
      · subst hh; simp at h; omega
theorem dec_len {n : Int} (h0 : 0 ≤ n) (h1 : n ≤ 1099511627776) : (dec n).length ≤ 13 := by
  rcases digits_len 13 n.toNat (by omega) with h | h
  · exact h
  · omega
def wClose : List UInt8 := [99, 108, 111, 115, 101]
def wRetain : List UInt8 := [114, 101, 116, 97, 105, 110]
def wHold : List UInt8 := [104, 111, 108, 100]
def wRelease : List UInt8 := [114, 101, 108, 101, 97, 115, 101]
def wPurge : List UInt8 := [112, 117, 114, 103, 101]
def wAt : List UInt8 := [97, 116]
/-- A record in words. -/
def words (r : Rec) : List (List UInt8) :=
  if r.k = 1 then [wClose, dec r.ep, dec r.ct]
  else if r.k = 2 then [wRetain, dec r.tg, dec r.un]
  else if r.k = 3 then [wHold, r.nm, dec r.tg]
  else if r.k = 4 then [wRelease, r.nm]
  else [wPurge, dec r.tg, dec r.un]
def told (r : Rec) : List UInt8 := Lib.join (words r ++ [wAt, dec r.tm]) [32]
def shown (r : Rec) : List UInt8 := if right r then told r else []
/-- As the document says it. -/
def front (r : Rec) : List UInt8 :=
  if r.k = 1 then wClose ++ [32] ++ dec r.ep ++ [32] ++ dec r.ct
  else if r.k = 2 then wRetain ++ [32] ++ dec r.tg ++ [32] ++ dec r.un
  else if r.k = 3 then wHold ++ [32] ++ r.nm ++ [32] ++ dec r.tg
  else if r.k = 4 then wRelease ++ [32] ++ r.nm
  else wPurge ++ [32] ++ dec r.tg ++ [32] ++ dec r.un
theorem told_front (r : Rec) : told r = front r ++ ([32] ++ wAt ++ [32]) ++ dec r.tm := by
  unfold told words front
  split
  · simp [Lib.join_cons, Lib.joinTail]
  split
  · simp [Lib.join_cons, Lib.joinTail]
  split
  · simp [Lib.join_cons, Lib.joinTail]
  split
  · simp [Lib.join_cons, Lib.joinTail]
  · simp [Lib.join_cons, Lib.joinTail]
theorem told_some (r : Rec) : told r ≠ [] := by
  rw [told_front]
  intro h
  have := congrArg List.length h
  simp [wAt] at this
theorem words_count (r : Rec) : (words r).length ≤ 3 := by
  unfold words
  repeat' split
  all_goals simp
theorem front_len {r : Rec} (h : right r) : (front r).length ≤ 60 := by
  obtain ⟨h1, h2, h3, h4, h5, h6, _, h8⟩ := bounds h
  have d1 := dec_len h2.1 (by omega)
  have d2 := dec_len h4.1 (by omega)
  have d3 := dec_len h5.1 (by omega)
  have d4 := dec_len h6.1 (by omega)
  unfold front
  repeat' split
  all_goals
    simp [wClose, wRetain, wHold, wRelease, wPurge]
    omega
theorem told_len {r : Rec} (h : right r) : (told r).length ≤ 100 := by
  have h1 := front_len h
  have h2 := (bounds h).2.2.1
  have h3 := dec_len h2.1 h2.2
  rw [told_front]
  simp [wAt]
  omega
/-- The chapter's example. -/
def ex : Rec := ⟨3, 4, 9, 0, 2, 0, [], [97]⟩
theorem ex_right : right ex := by decide
theorem ex_told : told ex = [104, 111, 108, 100, 32, 97, 32, 50, 32, 97, 116, 32, 57] := by
  rw [told_front]
  show wHold ++ [32] ++ [97] ++ [32] ++ Lib.decDigits 2 ++ ([32] ++ wAt ++ [32]) ++ Lib.decDigits 9 = _
  rw [Lib.decDigits_one (by decide), Lib.decDigits_one (by decide)]
  decide
end Go.Proofs.YtkidehngleglnaaGreatDoor.RecM
/- record.within, isLetter, isDigit, isTarget, Name, widths, and the document's Name: the walks of their texts. No conditions but those that each lemma names. -/
namespace Go.Proofs.YtkidehngleglnaaGreatDoor.RecP
open Go.RowKit
open RecN RecC RecM
/-- Is a number from 0 to another? -/
def ins (n a : Int) : Bool := decide (0 ≤ n ∧ n ≤ a)
theorem ins_yes {n a : Int} (h0 : 0 ≤ n) (h1 : n ≤ a) : ins n a = true := decide_eq_true ⟨h0, h1⟩
theorem ins_lo {n a : Int} (h : ¬ 0 ≤ n) : ins n a = false := decide_eq_false (fun hh => h hh.1)
theorem ins_hi {n a : Int} (h : ¬ n ≤ a) : ins n a = false := decide_eq_false (fun hh => h hh.2)
/-- What record.within answers. -/
theorem within (n a : Int) (w : World) :
    Calls Tryz.prog 66 #[.int .i64 n, .int .i64 a] w fun r w' => r = .returned (.bool (ins n a)) ∧ w = w' := by
  by_cases h0 : 0 ≤ n
  · by_cases h1 : n ≤ a
    · rw [ins_yes h0 h1]
      go_enter Tryz.func66, Tryz.ntmps66
      go_wp2
      go_ret
      exact ⟨rfl, rfl⟩
    · rw [ins_hi h1]
      go_enter Tryz.func66, Tryz.ntmps66
      go_wp2
      go_ret
      exact ⟨rfl, rfl⟩
  · rw [ins_lo h0]
    go_enter Tryz.func66, Tryz.ntmps66
    go_wp2
    go_ret
    exact ⟨rfl, rfl⟩
def low_ (b : UInt8) : Bool := decide (97 ≤ b.toNat ∧ b.toNat ≤ 122)
def dig_ (b : UInt8) : Bool := decide (48 ≤ b.toNat ∧ b.toNat ≤ 57)
theorem letter_eq (b : UInt8) : letter b = (low_ b || dig_ b) := rfl
theorem isLetter (b : UInt8) (w : World) :
    Calls Tryz.prog 88 #[.int .u8 ((b.toNat : Nat) : Int)] w fun r w' => r = .returned (.bool (low_ b)) ∧ w = w' := by
  unfold low_
  generalize b.toNat = n
  by_cases h0 : (97 : Int) ≤ (n : Int)
  · by_cases h1 : (n : Int) ≤ 122
    · rw [dt (show 97 ≤ n ∧ n ≤ 122 by omega)]
      go_enter Tryz.func88, Tryz.ntmps88
      go_wp2
      go_ret
      exact ⟨rfl, rfl⟩
    · rw [df (show ¬ (97 ≤ n ∧ n ≤ 122) by omega)]
      go_enter Tryz.func88, Tryz.ntmps88
      go_wp2
      go_ret
      exact ⟨rfl, rfl⟩
  · rw [df (show ¬ (97 ≤ n ∧ n ≤ 122) by omega)]
    go_enter Tryz.func88, Tryz.ntmps88
    go_wp2
    go_ret
    exact ⟨rfl, rfl⟩
theorem isDigit (b : UInt8) (w : World) :
    Calls Tryz.prog 89 #[.int .u8 ((b.toNat : Nat) : Int)] w fun r w' => r = .returned (.bool (dig_ b)) ∧ w = w' := by
  unfold dig_
  generalize b.toNat = n
  by_cases h0 : (48 : Int) ≤ (n : Int)
  · by_cases h1 : (n : Int) ≤ 57
    · rw [dt (show 48 ≤ n ∧ n ≤ 57 by omega)]
      go_enter Tryz.func89, Tryz.ntmps89
      go_wp2
      go_ret
      exact ⟨rfl, rfl⟩
    · rw [df (show ¬ (48 ≤ n ∧ n ≤ 57) by omega)]
      go_enter Tryz.func89, Tryz.ntmps89
      go_wp2
      go_ret
      exact ⟨rfl, rfl⟩
  · rw [df (show ¬ (48 ≤ n ∧ n ≤ 57) by omega)]
    go_enter Tryz.func89, Tryz.ntmps89
    go_wp2
    go_ret
    exact ⟨rfl, rfl⟩
theorem all_succ (s : List UInt8) (k : Nat) (h : k < s.length) : (s.take (k + 1)).all letter = ((s.take k).all letter && letter s[k]) := by
  rw [List.take_succ_eq_append_getElem h, List.all_append]
  simp
theorem idx (s : List UInt8) (k : Nat) (h : k < s.length) (W : World) : (Instr.index 9 (.string ⟨s.toArray⟩) (.int .i64 ((k : Nat) : Int))).run Tryz.prog W = .ok (.int .u8 ((s[k].toNat : Nat) : Int)) W := by
  rw [run_index_string (P := Tryz.prog) (w := W) 9 ⟨s.toArray⟩ .i64 (k : Int) Tryz.underlying9, dif_pos ⟨by omega, by rw [size_mk]; omega⟩]
  rfl
theorem name_yes {s : List UInt8} (h : 1 ≤ s.length ∧ s.length ≤ 16) (ha : s.all letter = true) : isName s = true := by
  rw [isName, dt h, ha]; rfl
theorem name_no {s : List UInt8} {k : Nat} (hk : k < s.length) (hb : letter s[k] = false) : isName s = false := by
  have : s.all letter = false := by
    rw [Bool.eq_false_iff]
    intro hh
    rw [List.all_eq_true] at hh
    have := hh s[k] (List.getElem_mem hk)
    rw [hb] at this
    cases this
  rw [isName, this, Bool.and_false]
theorem name_len_no {s : List UInt8} (h : ¬ (1 ≤ s.length ∧ s.length ≤ 16)) : isName s = false := by
  rw [isName, df h, Bool.false_and]
set_option maxRecDepth 100000 in
theorem Name_no (s : List UInt8) (h : ¬ (1 ≤ s.length ∧ s.length ≤ 16)) (w : World) :
    Calls Tryz.prog 68 #[.string ⟨s.toArray⟩] w fun r w' => r = .returned (.bool false) ∧ w = w' := by
  have hz := size_mk s
  by_cases h0 : s = []
  · go_enter Tryz.func68, Tryz.ntmps68
    go_wp2
    go_ret
    exact ⟨rfl, rfl⟩
  · have h1 : (s == []) = false := by simpa using h0
    have h2 : (16 : Int) < (s.length : Int) := by
      have : s.length ≠ 0 := fun hh => h0 (List.length_eq_zero_iff.1 hh)
      omega
    go_enter Tryz.func68, Tryz.ntmps68
    go_wp2
    go_ret
    exact ⟨rfl, rfl⟩
set_option maxRecDepth 100000 in
theorem Name_some (s : List UInt8) (h : 1 ≤ s.length ∧ s.length ≤ 16) (q : Bool) (hq : isName s = q) (w : World) :
    Calls Tryz.prog 68 #[.string ⟨s.toArray⟩] w fun r w' => r = .returned (.bool q) ∧ w = w' := by
  have hz := size_mk s
  have h1 : (s == []) = false := by
    have : s ≠ [] := fun hh => by rw [hh] at h; simp at h
    simpa using this
  have h2 : ¬ (16 : Int) < (s.length : Int) := by omega
  have HQ := Lib.hid hq
  have HH := Lib.hid h
  clear hq h
  go_enter Tryz.func68, Tryz.ntmps68
  go_wp2_with fail
  go_loopw [3, 13] (fun _ i wr => ∃ k : Nat, k ≤ s.length ∧ i = .int .i64 k ∧ (s.take k).all letter = true ∧ w = wr) (fun _ i _ => s.length - (intOf i).toNat)
  case atStart => exact ⟨0, Nat.zero_le _, rfl, rfl, rfl⟩
  case round =>
    obtain ⟨k, hk, rfl, ha, rfl⟩ := hrel
    have HA := Lib.hid ha
    clear ha
    by_cases hlt : k < s.length
    · have hkl : (k : Int) < (s.length : Int) := by omega
      have hix := idx s k hlt
      have HL := Lib.hid (fun W => isLetter s[k] W)
      have HD := Lib.hid (fun W => isDigit s[k] W)
      have HS := Lib.hid (all_succ s k hlt)
      have HN : Hid (letter s[k] = false → isName s = false) := Lib.hid (name_no hlt)
      rw [letter_eq] at HS HN
      generalize s[k] = b at *
      generalize low_ b = q1 at *
      generalize dig_ b = q2 at *
      cases q1
      · cases q2
        · have := HN.out rfl
          rw [HQ.out] at this
          subst this
          go_wp2_with (first
            | (go_at_call 88; refine (HL.out _).mono ?_; rintro r _ ⟨rfl, rfl⟩; clear HL)
            | (go_at_call 89; refine (HD.out _).mono ?_; rintro r _ ⟨rfl, rfl⟩; clear HD))
          go_ret
          exact ⟨rfl, rfl⟩
        · go_wp2_with (first
            | (go_at_call 88; refine (HL.out _).mono ?_; rintro r _ ⟨rfl, rfl⟩; clear HL)
            | (go_at_call 89; refine (HD.out _).mono ?_; rintro r _ ⟨rfl, rfl⟩; clear HD))
          go_roundw
          case rel => exact ⟨k + 1, by omega, by go_num, by rw [HS.out, HA.out]; rfl, trivial⟩
          case measure => simp [intOf]; omega
      · go_wp2_with (first
          | (go_at_call 88; refine (HL.out _).mono ?_; rintro r _ ⟨rfl, rfl⟩; clear HL)
          | (go_at_call 89; refine (HD.out _).mono ?_; rintro r _ ⟨rfl, rfl⟩; clear HD))
        go_roundw
        case rel => exact ⟨k + 1, by omega, by go_num, by rw [HS.out, HA.out]; rfl, trivial⟩
        case measure => simp [intOf]; omega
    · obtain rfl : k = s.length := by omega
      have hkl : ¬ ((s.length : Nat) : Int) < (s.length : Int) := by omega
      have ha := HA.out
      rw [List.take_length] at ha
      have := name_yes HH.out ha
      rw [HQ.out] at this
      subst this
      clear ha HA
      go_wp2_with fail
      go_ret
      exact ⟨rfl, rfl⟩
/-- What record.Name answers. -/
theorem Name (s : List UInt8) (w : World) :
    Calls Tryz.prog 68 #[.string ⟨s.toArray⟩] w fun r w' => r = .returned (.bool (isName s)) ∧ w = w' := by
  by_cases h : 1 ≤ s.length ∧ s.length ≤ 16
  · exact Name_some s h _ rfl w
  · rw [name_len_no h]
    exact Name_no s h w
/-- What record.isTarget answers. -/
theorem isTarget (r : Rec) (h0 : 0 ≤ r.ep) (h1 : r.ep ≤ 4294967295) (w : World) :
    Calls Tryz.prog 67 #[.agg #[.int .i64 r.k, .int .i64 r.ep, .int .i64 r.tm, .int .i64 r.ct, .int .i64 r.tg, .int .i64 r.un, .string ⟨r.rt.toArray⟩, .string ⟨r.nm.toArray⟩]] w fun e w' => e = .returned (.bool (decide (aim r))) ∧ Below w.heap.size w w' := by
  obtain ⟨W1, hW1⟩ : ∃ W1, W1 = w.alloc (.cells #[.int .i64 r.k, .int .i64 r.ep, .int .i64 r.tm, .int .i64 r.ct, .int .i64 r.tg, .int .i64 r.un, .string ⟨r.rt.toArray⟩, .string ⟨r.nm.toArray⟩] 23) := ⟨_, rfl⟩
  have SS : Hid (Ws w r W1) := Lib.hid (by rw [hW1]; exact ws_new w r)
  obtain ⟨k0, k1, k2, k3, k4, k5, k6, k7⟩ := SS.out.k.cells
  have HI := Lib.hid (fun W => within r.tg (r.ep - 1) W)
  have he : ins r.tg (r.ep - 1) = decide (aim r) := by
    unfold ins
    rw [decide_eq_decide]
    unfold aim
    omega
  rw [he] at HI
  clear he
  generalize decide (aim r) = q at *
  go_enter Tryz.func67, Tryz.ntmps67
  go_upto_region 1 with (fail)
  rw [← hW1]
  clear hW1
  go_wp2_with (go_at_call 66; refine (HI.out _).mono ?_; rintro e _ ⟨rfl, rfl⟩)
  go_ret
  exact ⟨rfl, SS.out.bel⟩
/-- The six widths, in a row of the call's own. -/
theorem widths (w : World) :
    Calls Tryz.prog 43 #[] w fun e w' => e = .returned (.slice (some ⟨w.heap.size, 0, none⟩) 6 6) ∧ w'.heap[w.heap.size]? = some (.cells #[.int .i64 1, .int .i64 4, .int .i64 8, .int .i64 4, .int .i64 4, .int .i64 8] 3 (0, 0)) ∧ Below w.heap.size w w' := by
  have HK := Lib.hid (heap_alloc_new w (.cells #[.int .i64 1, .int .i64 4, .int .i64 8, .int .i64 4, .int .i64 4, .int .i64 8] 3))
  have HB := Lib.hid (below_new w (.cells #[.int .i64 1, .int .i64 4, .int .i64 8, .int .i64 4, .int .i64 4, .int .i64 8] 3))
  go_enter Tryz.func43, Tryz.ntmps43
  go_wp2_with fail
  go_ret
  exact ⟨rfl, HK.out, HB.out⟩
end Go.Proofs.YtkidehngleglnaaGreatDoor.RecP
/- record.said: the walk of its text. No conditions. -/
namespace Go.Proofs.YtkidehngleglnaaGreatDoor.RecS
open Go.RowKit
open RecN RecC RecM RecP
/-- What stands behind said's first lines: the record, the result's block, what is said so far. -/
structure Three (w : World) (r : Rec) (cs : Array Value) (W : World) : Prop where
  bel : Below w.heap.size w W
  k : Bk W w.heap.size r
  z : W.heap[w.heap.size + 1]? = some (.cells #[.int .i64 0, .int .i64 0, .int .i64 0, .int .i64 0, .int .i64 0, .int .i64 0, .string ⟨#[]⟩, .string ⟨#[]⟩] 23 (0, 0))
  s : W.heap[w.heap.size + 2]? = some (.cells cs 23 (0, 0))
theorem Three.new (w W1 W2 : World) (r : Rec) (cs : Array Value) (h1 : W1 = w.alloc (.cells #[.int .i64 r.k, .int .i64 r.ep, .int .i64 r.tm, .int .i64 r.ct, .int .i64 r.tg, .int .i64 r.un, .string ⟨r.rt.toArray⟩, .string ⟨r.nm.toArray⟩] 23)) (h2 : W2 = W1.alloc (.cells #[.int .i64 0, .int .i64 0, .int .i64 0, .int .i64 0, .int .i64 0, .int .i64 0, .string ⟨#[]⟩, .string ⟨#[]⟩] 23)) : Three w r cs (W2.alloc (.cells cs 23)) := by
  have hs1 : W1.heap.size = w.heap.size + 1 := by rw [h1]; simp
  have hs2 : W2.heap.size = w.heap.size + 2 := by rw [h2]; simp [hs1]
  have SS : Ws w r W2 := by rw [h2, h1]; exact (ws_new w r).step (below_new _ _)
  have NN : W2.heap[w.heap.size + 1]? = some (.cells #[.int .i64 0, .int .i64 0, .int .i64 0, .int .i64 0, .int .i64 0, .int .i64 0, .string ⟨#[]⟩, .string ⟨#[]⟩] 23 (0, 0)) := by rw [h2, ← hs1]; exact heap_alloc_new W1 _
  have TT := SS.step (below_new W2 (.cells cs 23))
  exact ⟨TT.bel, TT.k, ((below_new W2 _).block _ (lt_of_some NN)).trans NN, by rw [← hs2]; exact heap_alloc_new W2 _⟩
theorem Three.set {w W : World} {r : Rec} {cs : Array Value} (h : Three w r cs W) (i : Nat) (v : Value) : Three w r (cs.setIfInBounds i v) (W.setCell ⟨w.heap.size + 2, i, none⟩ v) :=
  ⟨h.bel.setCell (p := ⟨w.heap.size + 2, i, none⟩) (by simp) v, by
    show _ = _
    rw [heap_setCell_other _ _ _ _ (by simp)]
    exact h.k, by
    rw [heap_setCell_other _ _ _ _ (by simp)]
    exact h.z, blk_set h.s⟩
theorem Three.drew {w W : World} {r : Rec} {cs : Array Value} (h : Three w r cs W) : Three w r cs W.drew := ⟨h.bel.drew, h.k, h.z, h.s⟩
theorem Three.cells {w W : World} {r : Rec} {cs : Array Value} (h : Three w r cs W) : W.cell? ⟨w.heap.size, 0, none⟩ = some (.int .i64 r.k) ∧ W.cell? ⟨w.heap.size, 1, none⟩ = some (.int .i64 r.ep) ∧ W.cell? ⟨w.heap.size, 2, none⟩ = some (.int .i64 r.tm) ∧ W.cell? ⟨w.heap.size, 3, none⟩ = some (.int .i64 r.ct) ∧ W.cell? ⟨w.heap.size, 4, none⟩ = some (.int .i64 r.tg) ∧ W.cell? ⟨w.heap.size, 5, none⟩ = some (.int .i64 r.un) ∧ W.cell? ⟨w.heap.size, 6, none⟩ = some (.string ⟨r.rt.toArray⟩) ∧ W.cell? ⟨w.heap.size, 7, none⟩ = some (.string ⟨r.nm.toArray⟩) := h.k.cells
theorem Three.free {w W : World} {r : Rec} {cs : Array Value} (h : Three w r cs W) (i : Nat) : W.frozen? ⟨w.heap.size + 2, i, none⟩ = false := blk_free h.s
theorem cells8 {W : World} {X : Nat} {a b c d e f g h : Value} {t : TypeId} (hh : W.heap[X]? = some (.cells #[a, b, c, d, e, f, g, h] t (0, 0))) : W.cell? ⟨X, 0, none⟩ = some a ∧ W.cell? ⟨X, 1, none⟩ = some b ∧ W.cell? ⟨X, 2, none⟩ = some c ∧ W.cell? ⟨X, 3, none⟩ = some d ∧ W.cell? ⟨X, 4, none⟩ = some e ∧ W.cell? ⟨X, 5, none⟩ = some f ∧ W.cell? ⟨X, 6, none⟩ = some g ∧ W.cell? ⟨X, 7, none⟩ = some h :=
  ⟨blk_cell hh rfl, blk_cell hh rfl, blk_cell hh rfl, blk_cell hh rfl, blk_cell hh rfl, blk_cell hh rfl, blk_cell hh rfl, blk_cell hh rfl⟩
set_option maxRecDepth 100000 in
theorem said_0 (r : Rec) (hk : r.k ≠ 1 ∧ r.k ≠ 2 ∧ r.k ≠ 3 ∧ r.k ≠ 4 ∧ r.k ≠ 5) (w : World) :
    Calls Tryz.prog 51 #[.agg #[.int .i64 r.k, .int .i64 r.ep, .int .i64 r.tm, .int .i64 r.ct, .int .i64 r.tg, .int .i64 r.un, .string ⟨r.rt.toArray⟩, .string ⟨r.nm.toArray⟩]] w fun e w' => e = .returned (.agg #[.int .i64 r.k, .int .i64 r.ep, .int .i64 r.tm, .int .i64 0, .int .i64 0, .int .i64 0, .string ⟨#[]⟩, .string ⟨#[]⟩]) ∧ Below w.heap.size w w' := by
  obtain ⟨W1, hW1⟩ : ∃ W1, W1 = w.alloc (.cells #[.int .i64 r.k, .int .i64 r.ep, .int .i64 r.tm, .int .i64 r.ct, .int .i64 r.tg, .int .i64 r.un, .string ⟨r.rt.toArray⟩, .string ⟨r.nm.toArray⟩] 23) := ⟨_, rfl⟩
  obtain ⟨W2, hW2⟩ : ∃ W2, W2 = W1.alloc (.cells #[.int .i64 0, .int .i64 0, .int .i64 0, .int .i64 0, .int .i64 0, .int .i64 0, .string ⟨#[]⟩, .string ⟨#[]⟩] 23) := ⟨_, rfl⟩
  have hs1 : W1.heap.size = w.heap.size + 1 := by rw [hW1]; simp
  have hs2 : W2.heap.size = w.heap.size + 2 := by rw [hW2]; simp [hs1]
  have TT := Lib.hid (Three.new w W1 W2 r #[.int .i64 r.k, .int .i64 r.ep, .int .i64 r.tm, .int .i64 0, .int .i64 0, .int .i64 0, .string ⟨#[]⟩, .string ⟨#[]⟩] hW1 hW2)
  have SS : Hid (Ws w r W2) := Lib.hid (by rw [hW2, hW1]; exact (ws_new w r).step (below_new _ _))
  obtain ⟨k0, k1, k2, k3, k4, k5, k6, k7⟩ := SS.out.k.cells
  have t1 : (r.k == 1) = false := by rw [beq_eq_false_iff_ne]; omega
  have t2 : (r.k == 2) = false := by rw [beq_eq_false_iff_ne]; omega
  have t5 : (r.k == 5) = false := by rw [beq_eq_false_iff_ne]; omega
  have t3 : (r.k == 3) = false := by rw [beq_eq_false_iff_ne]; omega
  have t4 : (r.k == 4) = false := by rw [beq_eq_false_iff_ne]; omega
  clear hk
  go_enter Tryz.func51, Tryz.ntmps51
  go_upto_region 1 with (fail)
  rw [← hW1, ← hW2]
  clear hW1 hW2 hs1
  go_upto_region 2 with (fail)
  generalize World.alloc W2 _ = W3 at *
  clear SS k0 k1 k2 k3 k4 k5 k6 k7
  obtain ⟨k0, k1, k2, k3, k4, k5, k6, k7⟩ := TT.out.cells
  go_upto_region 12 with (fail)
  have g := TT.out.s
  obtain ⟨s0, s1, s2, s3, s4, s5, s6, s7⟩ := cells8 g
  go_wp2_with (refine wpList_store_row rfl 23 _ _ rfl (w.heap.size + 1) _ rfl rfl 23 _ TT.out.z infoR rfl (by simp [Value.oneCell']) ?_)
  refine bodyPost_ret (v := .agg #[.int .i64 r.k, .int .i64 r.ep, .int .i64 r.tm, .int .i64 0, .int .i64 0, .int .i64 0, .string ⟨#[]⟩, .string ⟨#[]⟩])
    (results_cell_row Tryz.results51 _ _ (w.heap.size + 1) 23 _ (0, 0) _ rfl (setRow_same TT.out.z) Tryz.underlying23 rfl infoR) rfl
    ⟨rfl, below_setRow TT.out.bel (by omega) _⟩
set_option maxRecDepth 100000 in
theorem said_4 (r : Rec) (hk : r.k = 4) (w : World) :
    Calls Tryz.prog 51 #[.agg #[.int .i64 r.k, .int .i64 r.ep, .int .i64 r.tm, .int .i64 r.ct, .int .i64 r.tg, .int .i64 r.un, .string ⟨r.rt.toArray⟩, .string ⟨r.nm.toArray⟩]] w fun e w' => e = .returned (.agg #[.int .i64 r.k, .int .i64 r.ep, .int .i64 r.tm, .int .i64 0, .int .i64 0, .int .i64 0, .string ⟨#[]⟩, .string ⟨r.nm.toArray⟩]) ∧ Below w.heap.size w w' := by
  obtain ⟨W1, hW1⟩ : ∃ W1, W1 = w.alloc (.cells #[.int .i64 r.k, .int .i64 r.ep, .int .i64 r.tm, .int .i64 r.ct, .int .i64 r.tg, .int .i64 r.un, .string ⟨r.rt.toArray⟩, .string ⟨r.nm.toArray⟩] 23) := ⟨_, rfl⟩
  obtain ⟨W2, hW2⟩ : ∃ W2, W2 = W1.alloc (.cells #[.int .i64 0, .int .i64 0, .int .i64 0, .int .i64 0, .int .i64 0, .int .i64 0, .string ⟨#[]⟩, .string ⟨#[]⟩] 23) := ⟨_, rfl⟩
  have hs1 : W1.heap.size = w.heap.size + 1 := by rw [hW1]; simp
  have hs2 : W2.heap.size = w.heap.size + 2 := by rw [hW2]; simp [hs1]
  have TT := Lib.hid (Three.new w W1 W2 r #[.int .i64 r.k, .int .i64 r.ep, .int .i64 r.tm, .int .i64 0, .int .i64 0, .int .i64 0, .string ⟨#[]⟩, .string ⟨#[]⟩] hW1 hW2)
  have SS : Hid (Ws w r W2) := Lib.hid (by rw [hW2, hW1]; exact (ws_new w r).step (below_new _ _))
  obtain ⟨k0, k1, k2, k3, k4, k5, k6, k7⟩ := SS.out.k.cells
  have t1 : (r.k == 1) = false := by rw [hk]; rfl
  have t2 : (r.k == 2) = false := by rw [hk]; rfl
  have t5 : (r.k == 5) = false := by rw [hk]; rfl
  have t3 : (r.k == 3) = false := by rw [hk]; rfl
  have t4 : (r.k == 4) = true := by rw [hk]; rfl
  clear hk
  go_enter Tryz.func51, Tryz.ntmps51
  go_upto_region 1 with (fail)
  rw [← hW1, ← hW2]
  clear hW1 hW2 hs1
  go_upto_region 2 with (fail)
  generalize World.alloc W2 _ = W3 at *
  clear SS k0 k1 k2 k3 k4 k5 k6 k7
  obtain ⟨k0, k1, k2, k3, k4, k5, k6, k7⟩ := TT.out.cells
  have f7 := TT.out.free 7
  have c7 := (cells8 TT.out.s).2.2.2.2.2.2.2
  go_upto_region 12 with (fail)
  have TU := Lib.hid (TT.out.set 7 (.string ⟨r.nm.toArray⟩))
  generalize World.setCell W3 _ _ = W4 at *
  clear TT k0 k1 k2 k3 k4 k5 k6 k7 f7 c7
  have TT := TU
  clear TU
  obtain ⟨s0, s1, s2, s3, s4, s5, s6, s7⟩ := cells8 TT.out.s
  go_wp2_with (refine wpList_store_row rfl 23 _ _ rfl (w.heap.size + 1) _ rfl rfl 23 _ TT.out.z infoR rfl (by simp [Value.oneCell']) ?_)
  refine bodyPost_ret (v := .agg #[.int .i64 r.k, .int .i64 r.ep, .int .i64 r.tm, .int .i64 0, .int .i64 0, .int .i64 0, .string ⟨#[]⟩, .string ⟨r.nm.toArray⟩])
    (results_cell_row Tryz.results51 _ _ (w.heap.size + 1) 23 _ (0, 0) _ rfl (setRow_same TT.out.z) Tryz.underlying23 rfl infoR) rfl
    ⟨rfl, below_setRow TT.out.bel (by omega) _⟩
set_option maxRecDepth 100000 in
theorem said_3 (r : Rec) (hk : r.k = 3) (w : World) :
    Calls Tryz.prog 51 #[.agg #[.int .i64 r.k, .int .i64 r.ep, .int .i64 r.tm, .int .i64 r.ct, .int .i64 r.tg, .int .i64 r.un, .string ⟨r.rt.toArray⟩, .string ⟨r.nm.toArray⟩]] w fun e w' => e = .returned (.agg #[.int .i64 r.k, .int .i64 r.ep, .int .i64 r.tm, .int .i64 0, .int .i64 r.tg, .int .i64 0, .string ⟨#[]⟩, .string ⟨r.nm.toArray⟩]) ∧ Below w.heap.size w w' := by
  obtain ⟨W1, hW1⟩ : ∃ W1, W1 = w.alloc (.cells #[.int .i64 r.k, .int .i64 r.ep, .int .i64 r.tm, .int .i64 r.ct, .int .i64 r.tg, .int .i64 r.un, .string ⟨r.rt.toArray⟩, .string ⟨r.nm.toArray⟩] 23) := ⟨_, rfl⟩
  obtain ⟨W2, hW2⟩ : ∃ W2, W2 = W1.alloc (.cells #[.int .i64 0, .int .i64 0, .int .i64 0, .int .i64 0, .int .i64 0, .int .i64 0, .string ⟨#[]⟩, .string ⟨#[]⟩] 23) := ⟨_, rfl⟩
  have hs1 : W1.heap.size = w.heap.size + 1 := by rw [hW1]; simp
  have hs2 : W2.heap.size = w.heap.size + 2 := by rw [hW2]; simp [hs1]
  have TT := Lib.hid (Three.new w W1 W2 r #[.int .i64 r.k, .int .i64 r.ep, .int .i64 r.tm, .int .i64 0, .int .i64 0, .int .i64 0, .string ⟨#[]⟩, .string ⟨#[]⟩] hW1 hW2)
  have SS : Hid (Ws w r W2) := Lib.hid (by rw [hW2, hW1]; exact (ws_new w r).step (below_new _ _))
  obtain ⟨k0, k1, k2, k3, k4, k5, k6, k7⟩ := SS.out.k.cells
  have t1 : (r.k == 1) = false := by rw [hk]; rfl
  have t2 : (r.k == 2) = false := by rw [hk]; rfl
  have t5 : (r.k == 5) = false := by rw [hk]; rfl
  have t3 : (r.k == 3) = true := by rw [hk]; rfl
  clear hk
  go_enter Tryz.func51, Tryz.ntmps51
  go_upto_region 1 with (fail)
  rw [← hW1, ← hW2]
  clear hW1 hW2 hs1
  go_upto_region 2 with (fail)
  generalize World.alloc W2 _ = W3 at *
  clear SS k0 k1 k2 k3 k4 k5 k6 k7
  obtain ⟨k0, k1, k2, k3, k4, k5, k6, k7⟩ := TT.out.cells
  have f4 := TT.out.free 4
  have c4 := (cells8 TT.out.s).2.2.2.2.1
  go_upto_region 11 with (fail)
  have TU := Lib.hid (TT.out.set 4 (.int .i64 r.tg))
  generalize World.setCell W3 _ _ = W4 at *
  clear TT k0 k1 k2 k3 k4 k5 k6 k7 f4 c4
  have TT := TU
  clear TU
  obtain ⟨k0, k1, k2, k3, k4, k5, k6, k7⟩ := TT.out.cells
  have f7 := TT.out.free 7
  have c7 := (cells8 TT.out.s).2.2.2.2.2.2.2
  go_upto_region 12 with (fail)
  have TU := Lib.hid (TT.out.set 7 (.string ⟨r.nm.toArray⟩))
  generalize World.setCell W4 _ _ = W5 at *
  clear TT k0 k1 k2 k3 k4 k5 k6 k7 f7 c7
  have TT := TU
  clear TU
  obtain ⟨s0, s1, s2, s3, s4, s5, s6, s7⟩ := cells8 TT.out.s
  go_wp2_with (refine wpList_store_row rfl 23 _ _ rfl (w.heap.size + 1) _ rfl rfl 23 _ TT.out.z infoR rfl (by simp [Value.oneCell']) ?_)
  refine bodyPost_ret (v := .agg #[.int .i64 r.k, .int .i64 r.ep, .int .i64 r.tm, .int .i64 0, .int .i64 r.tg, .int .i64 0, .string ⟨#[]⟩, .string ⟨r.nm.toArray⟩])
    (results_cell_row Tryz.results51 _ _ (w.heap.size + 1) 23 _ (0, 0) _ rfl (setRow_same TT.out.z) Tryz.underlying23 rfl infoR) rfl
    ⟨rfl, below_setRow TT.out.bel (by omega) _⟩
set_option maxRecDepth 100000 in
theorem said_1 (r : Rec) (hk : r.k = 1) (w : World) :
    Calls Tryz.prog 51 #[.agg #[.int .i64 r.k, .int .i64 r.ep, .int .i64 r.tm, .int .i64 r.ct, .int .i64 r.tg, .int .i64 r.un, .string ⟨r.rt.toArray⟩, .string ⟨r.nm.toArray⟩]] w fun e w' => e = .returned (.agg #[.int .i64 r.k, .int .i64 r.ep, .int .i64 r.tm, .int .i64 r.ct, .int .i64 0, .int .i64 0, .string ⟨r.rt.toArray⟩, .string ⟨#[]⟩]) ∧ Below w.heap.size w w' := by
  obtain ⟨W1, hW1⟩ : ∃ W1, W1 = w.alloc (.cells #[.int .i64 r.k, .int .i64 r.ep, .int .i64 r.tm, .int .i64 r.ct, .int .i64 r.tg, .int .i64 r.un, .string ⟨r.rt.toArray⟩, .string ⟨r.nm.toArray⟩] 23) := ⟨_, rfl⟩
  obtain ⟨W2, hW2⟩ : ∃ W2, W2 = W1.alloc (.cells #[.int .i64 0, .int .i64 0, .int .i64 0, .int .i64 0, .int .i64 0, .int .i64 0, .string ⟨#[]⟩, .string ⟨#[]⟩] 23) := ⟨_, rfl⟩
  have hs1 : W1.heap.size = w.heap.size + 1 := by rw [hW1]; simp
  have hs2 : W2.heap.size = w.heap.size + 2 := by rw [hW2]; simp [hs1]
  have TT := Lib.hid (Three.new w W1 W2 r #[.int .i64 r.k, .int .i64 r.ep, .int .i64 r.tm, .int .i64 0, .int .i64 0, .int .i64 0, .string ⟨#[]⟩, .string ⟨#[]⟩] hW1 hW2)
  have SS : Hid (Ws w r W2) := Lib.hid (by rw [hW2, hW1]; exact (ws_new w r).step (below_new _ _))
  obtain ⟨k0, k1, k2, k3, k4, k5, k6, k7⟩ := SS.out.k.cells
  have t1 : (r.k == 1) = true := by rw [hk]; rfl
  clear hk
  go_enter Tryz.func51, Tryz.ntmps51
  go_upto_region 1 with (fail)
  rw [← hW1, ← hW2]
  clear hW1 hW2 hs1
  go_upto_region 2 with (fail)
  generalize World.alloc W2 _ = W3 at *
  clear SS k0 k1 k2 k3 k4 k5 k6 k7
  obtain ⟨k0, k1, k2, k3, k4, k5, k6, k7⟩ := TT.out.cells
  have TU := Lib.hid (TT.out.set 3 (.int .i64 r.ct))
  have TV := Lib.hid (TT.out.set 6 (.string ⟨r.rt.toArray⟩))
  obtain ⟨s0, s1, s2, s3, s4, s5, s6, s7⟩ := cells8 TT.out.s
  obtain ⟨u0, u1, u2, u3, u4, u5, u6, u7⟩ := cells8 TU.out.s
  obtain ⟨v0, v1, v2, v3, v4, v5, v6, v7⟩ := cells8 TV.out.s
  have fa := TT.out.free 3
  have fb := TT.out.free 6
  have fu := TU.out.free 6
  have fv := TV.out.free 3
  obtain ⟨l0, l1, l2, l3, l4, l5, l6, l7⟩ := TU.out.cells
  go_upto_region 8 with (fail)
  go_region
  have TW := Lib.hid ((TU.out.set 6 (.string ⟨r.rt.toArray⟩)).drew)
  clear TT TU TV s0 s1 s2 s3 s4 s5 s6 s7 u0 u1 u2 u3 u4 u5 u6 u7 v0 v1 v2 v3 v4 v5 v6 v7 l0 l1 l2 l3 l4 l5 l6 l7 k0 k1 k2 k3 k4 k5 k6 k7 fa fb fu fv
  generalize World.drew _ = W4 at *
  have TT := TW
  clear TW
  go_upto_region 12 with (fail)
  obtain ⟨s0, s1, s2, s3, s4, s5, s6, s7⟩ := cells8 TT.out.s
  go_wp2_with (refine wpList_store_row rfl 23 _ _ rfl (w.heap.size + 1) _ rfl rfl 23 _ TT.out.z infoR rfl (by simp [Value.oneCell']) ?_)
  refine bodyPost_ret (v := .agg #[.int .i64 r.k, .int .i64 r.ep, .int .i64 r.tm, .int .i64 r.ct, .int .i64 0, .int .i64 0, .string ⟨r.rt.toArray⟩, .string ⟨#[]⟩])
    (results_cell_row Tryz.results51 _ _ (w.heap.size + 1) 23 _ (0, 0) _ rfl (setRow_same TT.out.z) Tryz.underlying23 rfl infoR) rfl
    ⟨rfl, below_setRow TT.out.bel (by omega) _⟩
set_option maxRecDepth 100000 in
theorem said_2 (r : Rec) (hk : r.k = 2) (w : World) :
    Calls Tryz.prog 51 #[.agg #[.int .i64 r.k, .int .i64 r.ep, .int .i64 r.tm, .int .i64 r.ct, .int .i64 r.tg, .int .i64 r.un, .string ⟨r.rt.toArray⟩, .string ⟨r.nm.toArray⟩]] w fun e w' => e = .returned (.agg #[.int .i64 r.k, .int .i64 r.ep, .int .i64 r.tm, .int .i64 0, .int .i64 r.tg, .int .i64 r.un, .string ⟨#[]⟩, .string ⟨#[]⟩]) ∧ Below w.heap.size w w' := by
  obtain ⟨W1, hW1⟩ : ∃ W1, W1 = w.alloc (.cells #[.int .i64 r.k, .int .i64 r.ep, .int .i64 r.tm, .int .i64 r.ct, .int .i64 r.tg, .int .i64 r.un, .string ⟨r.rt.toArray⟩, .string ⟨r.nm.toArray⟩] 23) := ⟨_, rfl⟩
  obtain ⟨W2, hW2⟩ : ∃ W2, W2 = W1.alloc (.cells #[.int .i64 0, .int .i64 0, .int .i64 0, .int .i64 0, .int .i64 0, .int .i64 0, .string ⟨#[]⟩, .string ⟨#[]⟩] 23) := ⟨_, rfl⟩
  have hs1 : W1.heap.size = w.heap.size + 1 := by rw [hW1]; simp
  have hs2 : W2.heap.size = w.heap.size + 2 := by rw [hW2]; simp [hs1]
  have TT := Lib.hid (Three.new w W1 W2 r #[.int .i64 r.k, .int .i64 r.ep, .int .i64 r.tm, .int .i64 0, .int .i64 0, .int .i64 0, .string ⟨#[]⟩, .string ⟨#[]⟩] hW1 hW2)
  have SS : Hid (Ws w r W2) := Lib.hid (by rw [hW2, hW1]; exact (ws_new w r).step (below_new _ _))
  obtain ⟨k0, k1, k2, k3, k4, k5, k6, k7⟩ := SS.out.k.cells
  have t1 : (r.k == 1) = false := by rw [hk]; rfl
  have t2 : (r.k == 2) = true := by rw [hk]; rfl
  clear hk
  go_enter Tryz.func51, Tryz.ntmps51
  go_upto_region 1 with (fail)
  rw [← hW1, ← hW2]
  clear hW1 hW2 hs1
  go_upto_region 2 with (fail)
  generalize World.alloc W2 _ = W3 at *
  clear SS k0 k1 k2 k3 k4 k5 k6 k7
  obtain ⟨k0, k1, k2, k3, k4, k5, k6, k7⟩ := TT.out.cells
  have TU := Lib.hid (TT.out.set 4 (.int .i64 r.tg))
  have TV := Lib.hid (TT.out.set 5 (.int .i64 r.un))
  obtain ⟨s0, s1, s2, s3, s4, s5, s6, s7⟩ := cells8 TT.out.s
  obtain ⟨u0, u1, u2, u3, u4, u5, u6, u7⟩ := cells8 TU.out.s
  obtain ⟨v0, v1, v2, v3, v4, v5, v6, v7⟩ := cells8 TV.out.s
  have fa := TT.out.free 4
  have fb := TT.out.free 5
  have fu := TU.out.free 5
  have fv := TV.out.free 4
  obtain ⟨l0, l1, l2, l3, l4, l5, l6, l7⟩ := TU.out.cells
  go_upto_region 9 with (fail)
  go_region
  have TW := Lib.hid ((TU.out.set 5 (.int .i64 r.un)).drew)
  clear TT TU TV s0 s1 s2 s3 s4 s5 s6 s7 u0 u1 u2 u3 u4 u5 u6 u7 v0 v1 v2 v3 v4 v5 v6 v7 l0 l1 l2 l3 l4 l5 l6 l7 k0 k1 k2 k3 k4 k5 k6 k7 fa fb fu fv
  generalize World.drew _ = W4 at *
  have TT := TW
  clear TW
  go_upto_region 12 with (fail)
  obtain ⟨s0, s1, s2, s3, s4, s5, s6, s7⟩ := cells8 TT.out.s
  go_wp2_with (refine wpList_store_row rfl 23 _ _ rfl (w.heap.size + 1) _ rfl rfl 23 _ TT.out.z infoR rfl (by simp [Value.oneCell']) ?_)
  refine bodyPost_ret (v := .agg #[.int .i64 r.k, .int .i64 r.ep, .int .i64 r.tm, .int .i64 0, .int .i64 r.tg, .int .i64 r.un, .string ⟨#[]⟩, .string ⟨#[]⟩])
    (results_cell_row Tryz.results51 _ _ (w.heap.size + 1) 23 _ (0, 0) _ rfl (setRow_same TT.out.z) Tryz.underlying23 rfl infoR) rfl
    ⟨rfl, below_setRow TT.out.bel (by omega) _⟩
set_option maxRecDepth 100000 in
theorem said_5 (r : Rec) (hk : r.k = 5) (w : World) :
    Calls Tryz.prog 51 #[.agg #[.int .i64 r.k, .int .i64 r.ep, .int .i64 r.tm, .int .i64 r.ct, .int .i64 r.tg, .int .i64 r.un, .string ⟨r.rt.toArray⟩, .string ⟨r.nm.toArray⟩]] w fun e w' => e = .returned (.agg #[.int .i64 r.k, .int .i64 r.ep, .int .i64 r.tm, .int .i64 0, .int .i64 r.tg, .int .i64 r.un, .string ⟨#[]⟩, .string ⟨#[]⟩]) ∧ Below w.heap.size w w' := by
  obtain ⟨W1, hW1⟩ : ∃ W1, W1 = w.alloc (.cells #[.int .i64 r.k, .int .i64 r.ep, .int .i64 r.tm, .int .i64 r.ct, .int .i64 r.tg, .int .i64 r.un, .string ⟨r.rt.toArray⟩, .string ⟨r.nm.toArray⟩] 23) := ⟨_, rfl⟩
  obtain ⟨W2, hW2⟩ : ∃ W2, W2 = W1.alloc (.cells #[.int .i64 0, .int .i64 0, .int .i64 0, .int .i64 0, .int .i64 0, .int .i64 0, .string ⟨#[]⟩, .string ⟨#[]⟩] 23) := ⟨_, rfl⟩
  have hs1 : W1.heap.size = w.heap.size + 1 := by rw [hW1]; simp
  have hs2 : W2.heap.size = w.heap.size + 2 := by rw [hW2]; simp [hs1]
  have TT := Lib.hid (Three.new w W1 W2 r #[.int .i64 r.k, .int .i64 r.ep, .int .i64 r.tm, .int .i64 0, .int .i64 0, .int .i64 0, .string ⟨#[]⟩, .string ⟨#[]⟩] hW1 hW2)
  have SS : Hid (Ws w r W2) := Lib.hid (by rw [hW2, hW1]; exact (ws_new w r).step (below_new _ _))
  obtain ⟨k0, k1, k2, k3, k4, k5, k6, k7⟩ := SS.out.k.cells
  have t1 : (r.k == 1) = false := by rw [hk]; rfl
  have t2 : (r.k == 2) = false := by rw [hk]; rfl
  have t5 : (r.k == 5) = true := by rw [hk]; rfl
  clear hk
  go_enter Tryz.func51, Tryz.ntmps51
  go_upto_region 1 with (fail)
  rw [← hW1, ← hW2]
  clear hW1 hW2 hs1
  go_upto_region 2 with (fail)
  generalize World.alloc W2 _ = W3 at *
  clear SS k0 k1 k2 k3 k4 k5 k6 k7
  obtain ⟨k0, k1, k2, k3, k4, k5, k6, k7⟩ := TT.out.cells
  have TU := Lib.hid (TT.out.set 4 (.int .i64 r.tg))
  have TV := Lib.hid (TT.out.set 5 (.int .i64 r.un))
  obtain ⟨s0, s1, s2, s3, s4, s5, s6, s7⟩ := cells8 TT.out.s
  obtain ⟨u0, u1, u2, u3, u4, u5, u6, u7⟩ := cells8 TU.out.s
  obtain ⟨v0, v1, v2, v3, v4, v5, v6, v7⟩ := cells8 TV.out.s
  have fa := TT.out.free 4
  have fb := TT.out.free 5
  have fu := TU.out.free 5
  have fv := TV.out.free 4
  obtain ⟨l0, l1, l2, l3, l4, l5, l6, l7⟩ := TU.out.cells
  go_upto_region 9 with (fail)
  go_region
  have TW := Lib.hid ((TU.out.set 5 (.int .i64 r.un)).drew)
  clear TT TU TV s0 s1 s2 s3 s4 s5 s6 s7 u0 u1 u2 u3 u4 u5 u6 u7 v0 v1 v2 v3 v4 v5 v6 v7 l0 l1 l2 l3 l4 l5 l6 l7 k0 k1 k2 k3 k4 k5 k6 k7 fa fb fu fv
  generalize World.drew _ = W4 at *
  have TT := TW
  clear TW
  go_upto_region 12 with (fail)
  obtain ⟨s0, s1, s2, s3, s4, s5, s6, s7⟩ := cells8 TT.out.s
  go_wp2_with (refine wpList_store_row rfl 23 _ _ rfl (w.heap.size + 1) _ rfl rfl 23 _ TT.out.z infoR rfl (by simp [Value.oneCell']) ?_)
  refine bodyPost_ret (v := .agg #[.int .i64 r.k, .int .i64 r.ep, .int .i64 r.tm, .int .i64 0, .int .i64 r.tg, .int .i64 r.un, .string ⟨#[]⟩, .string ⟨#[]⟩])
    (results_cell_row Tryz.results51 _ _ (w.heap.size + 1) 23 _ (0, 0) _ rfl (setRow_same TT.out.z) Tryz.underlying23 rfl infoR) rfl
    ⟨rfl, below_setRow TT.out.bel (by omega) _⟩
/-- What record.said answers. -/
theorem said (r : Rec) (w : World) :
    Calls Tryz.prog 51 #[.agg #[.int .i64 r.k, .int .i64 r.ep, .int .i64 r.tm, .int .i64 r.ct, .int .i64 r.tg, .int .i64 r.un, .string ⟨r.rt.toArray⟩, .string ⟨r.nm.toArray⟩]] w fun e w' => e = .returned (.agg #[.int .i64 (RecM.said r).k, .int .i64 (RecM.said r).ep, .int .i64 (RecM.said r).tm, .int .i64 (RecM.said r).ct, .int .i64 (RecM.said r).tg, .int .i64 (RecM.said r).un, .string ⟨(RecM.said r).rt.toArray⟩, .string ⟨(RecM.said r).nm.toArray⟩]) ∧ Below w.heap.size w w' := by
  by_cases h1 : r.k = 1
  · rw [said1 h1]; exact said_1 r h1 w
  by_cases h2 : r.k = 2
  · rw [said2 (.inl h2)]; exact said_2 r h2 w
  by_cases h5 : r.k = 5
  · rw [said2 (.inr h5)]; exact said_5 r h5 w
  by_cases h3 : r.k = 3
  · rw [said3 h3]; exact said_3 r h3 w
  by_cases h4 : r.k = 4
  · rw [said4 h4]; exact said_4 r h4 w
  have h0 : r.k ≠ 1 ∧ r.k ≠ 2 ∧ r.k ≠ 3 ∧ r.k ≠ 4 ∧ r.k ≠ 5 := ⟨h1, h2, h3, h4, h5⟩
  rw [said0 h0]; exact said_0 r h0 w
end Go.Proofs.YtkidehngleglnaaGreatDoor.RecS
/- record.may, record.Check: the walks of their texts. No conditions. -/
namespace Go.Proofs.YtkidehngleglnaaGreatDoor.RecK
open Go.RowKit
open RecN RecC RecM RecP RecS
set_option maxRecDepth 100000 in
theorem may_low (r : Rec) (hl : ¬ low r) (w : World) :
    Calls Tryz.prog 52 #[.agg #[.int .i64 r.k, .int .i64 r.ep, .int .i64 r.tm, .int .i64 r.ct, .int .i64 r.tg, .int .i64 r.un, .string ⟨r.rt.toArray⟩, .string ⟨r.nm.toArray⟩]] w fun e w' => e = .returned (.bool false) ∧ Below w.heap.size w w' := by
  obtain ⟨W1, hW1⟩ : ∃ W1, W1 = w.alloc (.cells #[.int .i64 r.k, .int .i64 r.ep, .int .i64 r.tm, .int .i64 r.ct, .int .i64 r.tg, .int .i64 r.un, .string ⟨r.rt.toArray⟩, .string ⟨r.nm.toArray⟩] 23) := ⟨_, rfl⟩
  have SS : Hid (Ws w r W1) := Lib.hid (by rw [hW1]; exact ws_new w r)
  obtain ⟨k0, k1, k2, k3, k4, k5, k6, k7⟩ := SS.out.k.cells
  have HE := Lib.hid (fun W => within r.ep 4294967295 W)
  have HM := Lib.hid (fun W => within r.tm 1099511627776 W)
  have hq : ins r.ep 4294967295 = false ∨ (ins r.ep 4294967295 = true ∧ ins r.tm 1099511627776 = false) := by
    cases he : ins r.ep 4294967295
    · exact .inl rfl
    · refine .inr ⟨rfl, ?_⟩
      rw [Bool.eq_false_iff]
      intro hm
      have h1 := of_decide_eq_true he
      have h2 := of_decide_eq_true hm
      exact hl ⟨h1.1, h1.2, h2.1, h2.2⟩
  clear hl
  go_enter Tryz.func52, Tryz.ntmps52
  go_upto_region 1 with (fail)
  rw [← hW1]
  clear hW1
  rcases hq with hq | ⟨hq, hm⟩
  · rw [hq] at HE
    clear hq
    go_wp2_with (first
      | (go_at_call 66; refine (HE.out _).mono ?_; rintro e _ ⟨rfl, rfl⟩; clear HE)
      | (go_at_call 66; refine (HM.out _).mono ?_; rintro e _ ⟨rfl, rfl⟩; clear HM))
    go_ret
    exact ⟨rfl, SS.out.bel⟩
  · rw [hq] at HE
    rw [hm] at HM
    clear hq hm
    go_wp2_with (first
      | (go_at_call 66; refine (HE.out _).mono ?_; rintro e _ ⟨rfl, rfl⟩; clear HE)
      | (go_at_call 66; refine (HM.out _).mono ?_; rintro e _ ⟨rfl, rfl⟩; clear HM))
    go_ret
    exact ⟨rfl, SS.out.bel⟩
set_option maxRecDepth 100000 in
theorem may_0 (r : Rec) (hl : low r) (hk : r.k ≠ 1 ∧ r.k ≠ 2 ∧ r.k ≠ 3 ∧ r.k ≠ 4 ∧ r.k ≠ 5) (w : World) :
    Calls Tryz.prog 52 #[.agg #[.int .i64 r.k, .int .i64 r.ep, .int .i64 r.tm, .int .i64 r.ct, .int .i64 r.tg, .int .i64 r.un, .string ⟨r.rt.toArray⟩, .string ⟨r.nm.toArray⟩]] w fun e w' => e = .returned (.bool false) ∧ Below w.heap.size w w' := by
  obtain ⟨W1, hW1⟩ : ∃ W1, W1 = w.alloc (.cells #[.int .i64 r.k, .int .i64 r.ep, .int .i64 r.tm, .int .i64 r.ct, .int .i64 r.tg, .int .i64 r.un, .string ⟨r.rt.toArray⟩, .string ⟨r.nm.toArray⟩] 23) := ⟨_, rfl⟩
  have SS : Hid (Ws w r W1) := Lib.hid (by rw [hW1]; exact ws_new w r)
  have hz := size_mk r.rt
  obtain ⟨k0, k1, k2, k3, k4, k5, k6, k7⟩ := SS.out.k.cells
  have HE := Lib.hid (fun W => within r.ep 4294967295 W)
  have HM := Lib.hid (fun W => within r.tm 1099511627776 W)
  rw [ins_yes hl.1 hl.2.1] at HE
  rw [ins_yes hl.2.2.1 hl.2.2.2] at HM
  have t1 : (r.k == 1) = false := by rw [beq_eq_false_iff_ne]; omega
  have t2 : (r.k == 2) = false := by rw [beq_eq_false_iff_ne]; omega
  have t5 : (r.k == 5) = false := by rw [beq_eq_false_iff_ne]; omega
  have t3 : (r.k == 3) = false := by rw [beq_eq_false_iff_ne]; omega
  have t4 : (r.k == 4) = false := by rw [beq_eq_false_iff_ne]; omega
  clear hl hk
  go_enter Tryz.func52, Tryz.ntmps52
  go_upto_region 1 with (fail)
  rw [← hW1]
  clear hW1
  go_wp2_with (first
      | (go_at_call 66; refine (HE.out _).mono ?_; rintro e _ ⟨rfl, rfl⟩; clear HE)
      | (go_at_call 66; refine (HM.out _).mono ?_; rintro e _ ⟨rfl, rfl⟩; clear HM))
  go_ret
  exact ⟨rfl, SS.out.bel⟩
set_option maxRecDepth 100000 in
theorem may_1 (r : Rec) (hl : low r) (hk : r.k = 1) (w : World) :
    Calls Tryz.prog 52 #[.agg #[.int .i64 r.k, .int .i64 r.ep, .int .i64 r.tm, .int .i64 r.ct, .int .i64 r.tg, .int .i64 r.un, .string ⟨r.rt.toArray⟩, .string ⟨r.nm.toArray⟩]] w fun e w' => e = .returned (.bool (ins r.ct 4096 && decide (r.rt.length = 32))) ∧ Below w.heap.size w w' := by
  obtain ⟨W1, hW1⟩ : ∃ W1, W1 = w.alloc (.cells #[.int .i64 r.k, .int .i64 r.ep, .int .i64 r.tm, .int .i64 r.ct, .int .i64 r.tg, .int .i64 r.un, .string ⟨r.rt.toArray⟩, .string ⟨r.nm.toArray⟩] 23) := ⟨_, rfl⟩
  have SS : Hid (Ws w r W1) := Lib.hid (by rw [hW1]; exact ws_new w r)
  have hz := size_mk r.rt
  obtain ⟨k0, k1, k2, k3, k4, k5, k6, k7⟩ := SS.out.k.cells
  have HE := Lib.hid (fun W => within r.ep 4294967295 W)
  have HM := Lib.hid (fun W => within r.tm 1099511627776 W)
  rw [ins_yes hl.1 hl.2.1] at HE
  rw [ins_yes hl.2.2.1 hl.2.2.2] at HM
  have t1 : (r.k == 1) = true := by rw [hk]; rfl
  have HC := Lib.hid (fun W => within r.ct 4096 W)
  have t0 : ((r.rt.length : Int) == 32) = decide (r.rt.length = 32) := by
    rw [Bool.eq_iff_iff, beq_iff_eq, decide_eq_true_eq]
    omega
  generalize ins r.ct 4096 = q1 at *
  generalize decide (r.rt.length = 32) = q2 at *
  clear hl hk
  go_enter Tryz.func52, Tryz.ntmps52
  go_upto_region 1 with (fail)
  rw [← hW1]
  clear hW1
  cases q1 <;> cases q2
  all_goals
    go_wp2_with (first
      | (go_at_call 66; refine (HE.out _).mono ?_; rintro e _ ⟨rfl, rfl⟩; clear HE)
      | (go_at_call 66; refine (HM.out _).mono ?_; rintro e _ ⟨rfl, rfl⟩; clear HM)
      | (go_at_call 66; refine (HC.out _).mono ?_; rintro e _ ⟨rfl, rfl⟩; clear HC))
    go_ret
    exact ⟨rfl, SS.out.bel⟩
set_option maxRecDepth 100000 in
theorem may_2 (r : Rec) (hl : low r) (hk : r.k = 2) (w : World) :
    Calls Tryz.prog 52 #[.agg #[.int .i64 r.k, .int .i64 r.ep, .int .i64 r.tm, .int .i64 r.ct, .int .i64 r.tg, .int .i64 r.un, .string ⟨r.rt.toArray⟩, .string ⟨r.nm.toArray⟩]] w fun e w' => e = .returned (.bool (decide (aim r) && ins r.un 1099511627776)) ∧ Below w.heap.size w w' := by
  obtain ⟨W1, hW1⟩ : ∃ W1, W1 = w.alloc (.cells #[.int .i64 r.k, .int .i64 r.ep, .int .i64 r.tm, .int .i64 r.ct, .int .i64 r.tg, .int .i64 r.un, .string ⟨r.rt.toArray⟩, .string ⟨r.nm.toArray⟩] 23) := ⟨_, rfl⟩
  have SS : Hid (Ws w r W1) := Lib.hid (by rw [hW1]; exact ws_new w r)
  have hz := size_mk r.rt
  obtain ⟨k0, k1, k2, k3, k4, k5, k6, k7⟩ := SS.out.k.cells
  have HE := Lib.hid (fun W => within r.ep 4294967295 W)
  have HM := Lib.hid (fun W => within r.tm 1099511627776 W)
  rw [ins_yes hl.1 hl.2.1] at HE
  rw [ins_yes hl.2.2.1 hl.2.2.2] at HM
  have t1 : (r.k == 1) = false := by rw [hk]; rfl
  have t2 : (r.k == 2) = true := by rw [hk]; rfl
  have HT := Lib.hid (fun W => isTarget r hl.1 hl.2.1 W)
  have HU := Lib.hid (fun W => within r.un 1099511627776 W)
  generalize decide (aim r) = q1 at *
  generalize ins r.un 1099511627776 = q2 at *
  clear hl hk
  go_enter Tryz.func52, Tryz.ntmps52
  go_upto_region 1 with (fail)
  rw [← hW1]
  clear hW1
  cases q1 <;> cases q2
  all_goals
    go_wp2_with (first
      | (go_at_call 66; refine (HE.out _).mono ?_; rintro e _ ⟨rfl, rfl⟩; clear HE)
      | (go_at_call 66; refine (HM.out _).mono ?_; rintro e _ ⟨rfl, rfl⟩; clear HM)
      | (go_at_call 67; refine (HT.out _).mono ?_; rintro e w2 ⟨rfl, hb⟩; replace SS := Lib.hid (SS.out.step hb); obtain ⟨k0, k1, k2, k3, k4, k5, k6, k7⟩ := SS.out.k.cells; clear hb HT)
      | (go_at_call 66; refine (HU.out _).mono ?_; rintro e _ ⟨rfl, rfl⟩; clear HU))
    go_ret
    exact ⟨rfl, SS.out.bel⟩
set_option maxRecDepth 100000 in
theorem may_5 (r : Rec) (hl : low r) (hk : r.k = 5) (w : World) :
    Calls Tryz.prog 52 #[.agg #[.int .i64 r.k, .int .i64 r.ep, .int .i64 r.tm, .int .i64 r.ct, .int .i64 r.tg, .int .i64 r.un, .string ⟨r.rt.toArray⟩, .string ⟨r.nm.toArray⟩]] w fun e w' => e = .returned (.bool (decide (aim r) && ins r.un 1099511627776)) ∧ Below w.heap.size w w' := by
  obtain ⟨W1, hW1⟩ : ∃ W1, W1 = w.alloc (.cells #[.int .i64 r.k, .int .i64 r.ep, .int .i64 r.tm, .int .i64 r.ct, .int .i64 r.tg, .int .i64 r.un, .string ⟨r.rt.toArray⟩, .string ⟨r.nm.toArray⟩] 23) := ⟨_, rfl⟩
  have SS : Hid (Ws w r W1) := Lib.hid (by rw [hW1]; exact ws_new w r)
  have hz := size_mk r.rt
  obtain ⟨k0, k1, k2, k3, k4, k5, k6, k7⟩ := SS.out.k.cells
  have HE := Lib.hid (fun W => within r.ep 4294967295 W)
  have HM := Lib.hid (fun W => within r.tm 1099511627776 W)
  rw [ins_yes hl.1 hl.2.1] at HE
  rw [ins_yes hl.2.2.1 hl.2.2.2] at HM
  have t1 : (r.k == 1) = false := by rw [hk]; rfl
  have t2 : (r.k == 2) = false := by rw [hk]; rfl
  have t5 : (r.k == 5) = true := by rw [hk]; rfl
  have HT := Lib.hid (fun W => isTarget r hl.1 hl.2.1 W)
  have HU := Lib.hid (fun W => within r.un 1099511627776 W)
  generalize decide (aim r) = q1 at *
  generalize ins r.un 1099511627776 = q2 at *
  clear hl hk
  go_enter Tryz.func52, Tryz.ntmps52
  go_upto_region 1 with (fail)
  rw [← hW1]
  clear hW1
  cases q1 <;> cases q2
  all_goals
    go_wp2_with (first
      | (go_at_call 66; refine (HE.out _).mono ?_; rintro e _ ⟨rfl, rfl⟩; clear HE)
      | (go_at_call 66; refine (HM.out _).mono ?_; rintro e _ ⟨rfl, rfl⟩; clear HM)
      | (go_at_call 67; refine (HT.out _).mono ?_; rintro e w2 ⟨rfl, hb⟩; replace SS := Lib.hid (SS.out.step hb); obtain ⟨k0, k1, k2, k3, k4, k5, k6, k7⟩ := SS.out.k.cells; clear hb HT)
      | (go_at_call 66; refine (HU.out _).mono ?_; rintro e _ ⟨rfl, rfl⟩; clear HU))
    go_ret
    exact ⟨rfl, SS.out.bel⟩
set_option maxRecDepth 100000 in
theorem may_3 (r : Rec) (hl : low r) (hk : r.k = 3) (w : World) :
    Calls Tryz.prog 52 #[.agg #[.int .i64 r.k, .int .i64 r.ep, .int .i64 r.tm, .int .i64 r.ct, .int .i64 r.tg, .int .i64 r.un, .string ⟨r.rt.toArray⟩, .string ⟨r.nm.toArray⟩]] w fun e w' => e = .returned (.bool (decide (aim r) && isName r.nm)) ∧ Below w.heap.size w w' := by
  obtain ⟨W1, hW1⟩ : ∃ W1, W1 = w.alloc (.cells #[.int .i64 r.k, .int .i64 r.ep, .int .i64 r.tm, .int .i64 r.ct, .int .i64 r.tg, .int .i64 r.un, .string ⟨r.rt.toArray⟩, .string ⟨r.nm.toArray⟩] 23) := ⟨_, rfl⟩
  have SS : Hid (Ws w r W1) := Lib.hid (by rw [hW1]; exact ws_new w r)
  have hz := size_mk r.rt
  obtain ⟨k0, k1, k2, k3, k4, k5, k6, k7⟩ := SS.out.k.cells
  have HE := Lib.hid (fun W => within r.ep 4294967295 W)
  have HM := Lib.hid (fun W => within r.tm 1099511627776 W)
  rw [ins_yes hl.1 hl.2.1] at HE
  rw [ins_yes hl.2.2.1 hl.2.2.2] at HM
  have t1 : (r.k == 1) = false := by rw [hk]; rfl
  have t2 : (r.k == 2) = false := by rw [hk]; rfl
  have t5 : (r.k == 5) = false := by rw [hk]; rfl
  have t3 : (r.k == 3) = true := by rw [hk]; rfl
  have HT := Lib.hid (fun W => isTarget r hl.1 hl.2.1 W)
  have HN := Lib.hid (fun W => Name r.nm W)
  generalize decide (aim r) = q1 at *
  generalize isName r.nm = q2 at *
  clear hl hk
  go_enter Tryz.func52, Tryz.ntmps52
  go_upto_region 1 with (fail)
  rw [← hW1]
  clear hW1
  cases q1 <;> cases q2
  all_goals
    go_wp2_with (first
      | (go_at_call 66; refine (HE.out _).mono ?_; rintro e _ ⟨rfl, rfl⟩; clear HE)
      | (go_at_call 66; refine (HM.out _).mono ?_; rintro e _ ⟨rfl, rfl⟩; clear HM)
      | (go_at_call 67; refine (HT.out _).mono ?_; rintro e w2 ⟨rfl, hb⟩; replace SS := Lib.hid (SS.out.step hb); obtain ⟨k0, k1, k2, k3, k4, k5, k6, k7⟩ := SS.out.k.cells; clear hb HT)
      | (go_at_call 68; refine (HN.out _).mono ?_; rintro e _ ⟨rfl, rfl⟩; clear HN))
    go_ret
    exact ⟨rfl, SS.out.bel⟩
set_option maxRecDepth 100000 in
theorem may_4 (r : Rec) (hl : low r) (hk : r.k = 4) (w : World) :
    Calls Tryz.prog 52 #[.agg #[.int .i64 r.k, .int .i64 r.ep, .int .i64 r.tm, .int .i64 r.ct, .int .i64 r.tg, .int .i64 r.un, .string ⟨r.rt.toArray⟩, .string ⟨r.nm.toArray⟩]] w fun e w' => e = .returned (.bool (isName r.nm)) ∧ Below w.heap.size w w' := by
  obtain ⟨W1, hW1⟩ : ∃ W1, W1 = w.alloc (.cells #[.int .i64 r.k, .int .i64 r.ep, .int .i64 r.tm, .int .i64 r.ct, .int .i64 r.tg, .int .i64 r.un, .string ⟨r.rt.toArray⟩, .string ⟨r.nm.toArray⟩] 23) := ⟨_, rfl⟩
  have SS : Hid (Ws w r W1) := Lib.hid (by rw [hW1]; exact ws_new w r)
  have hz := size_mk r.rt
  obtain ⟨k0, k1, k2, k3, k4, k5, k6, k7⟩ := SS.out.k.cells
  have HE := Lib.hid (fun W => within r.ep 4294967295 W)
  have HM := Lib.hid (fun W => within r.tm 1099511627776 W)
  rw [ins_yes hl.1 hl.2.1] at HE
  rw [ins_yes hl.2.2.1 hl.2.2.2] at HM
  have t1 : (r.k == 1) = false := by rw [hk]; rfl
  have t2 : (r.k == 2) = false := by rw [hk]; rfl
  have t5 : (r.k == 5) = false := by rw [hk]; rfl
  have t3 : (r.k == 3) = false := by rw [hk]; rfl
  have t4 : (r.k == 4) = true := by rw [hk]; rfl
  have HN := Lib.hid (fun W => Name r.nm W)
  generalize isName r.nm = q2 at *
  clear hl hk
  go_enter Tryz.func52, Tryz.ntmps52
  go_upto_region 1 with (fail)
  rw [← hW1]
  clear hW1
  cases q2
  all_goals
    go_wp2_with (first
      | (go_at_call 66; refine (HE.out _).mono ?_; rintro e _ ⟨rfl, rfl⟩; clear HE)
      | (go_at_call 66; refine (HM.out _).mono ?_; rintro e _ ⟨rfl, rfl⟩; clear HM)
      | (go_at_call 68; refine (HN.out _).mono ?_; rintro e _ ⟨rfl, rfl⟩; clear HN))
    go_ret
    exact ⟨rfl, SS.out.bel⟩
theorem asks_1 {r : Rec} (hk : r.k = 1) : asks r ↔ ((0 ≤ r.ct ∧ r.ct ≤ 4096) ∧ r.rt.length = 32) := by
  unfold asks
  refine ⟨fun h => ?_, fun h => .inl ⟨hk, h.1.1, h.1.2, h.2⟩⟩
  rcases h with h | h | h | h | h
  · exact ⟨⟨h.2.1, h.2.2.1⟩, h.2.2.2⟩
  all_goals (exfalso; have := h.1; omega)
theorem asks_2 {r : Rec} (hk : r.k = 2) : asks r ↔ (aim r ∧ (0 ≤ r.un ∧ r.un ≤ 1099511627776)) := by
  unfold asks
  refine ⟨fun h => ?_, fun h => .inr (.inl ⟨hk, h.1, h.2⟩)⟩
  rcases h with h | h | h | h | h
  all_goals first | exact h.2 | (exfalso; have := h.1; omega)
theorem asks_5 {r : Rec} (hk : r.k = 5) : asks r ↔ (aim r ∧ (0 ≤ r.un ∧ r.un ≤ 1099511627776)) := by
  unfold asks
  refine ⟨fun h => ?_, fun h => .inr (.inr (.inr (.inr ⟨hk, h.1, h.2⟩)))⟩
  rcases h with h | h | h | h | h
  all_goals first | exact h.2 | (exfalso; have := h.1; omega)
theorem asks_3 {r : Rec} (hk : r.k = 3) : asks r ↔ (aim r ∧ isName r.nm = true) := by
  unfold asks
  refine ⟨fun h => ?_, fun h => .inr (.inr (.inl ⟨hk, h.1, h.2⟩))⟩
  rcases h with h | h | h | h | h
  all_goals first | exact h.2 | (exfalso; have := h.1; omega)
theorem asks_4 {r : Rec} (hk : r.k = 4) : asks r ↔ (isName r.nm = true) := by
  unfold asks
  refine ⟨fun h => ?_, fun h => .inr (.inr (.inr (.inl ⟨hk, h⟩)))⟩
  rcases h with h | h | h | h | h
  all_goals first | exact h.2 | (exfalso; have := h.1; omega)
theorem asks_0 {r : Rec} (hk : r.k ≠ 1 ∧ r.k ≠ 2 ∧ r.k ≠ 3 ∧ r.k ≠ 4 ∧ r.k ≠ 5) : asks r ↔ False := by
  unfold asks
  refine ⟨fun h => ?_, False.elim⟩
  rcases h with h | h | h | h | h
  all_goals (have := h.1; omega)
theorem dec_may (r : Rec) (p : Prop) [Decidable p] (hl : low r) (h : asks r ↔ p) : decide (RecM.may r) = decide p := by
  rw [decide_eq_decide]
  unfold RecM.may
  rw [h]
  exact ⟨fun hh => hh.2, fun hh => ⟨hl, hh⟩⟩
/-- What record.may answers. -/
theorem may (r : Rec) (w : World) :
    Calls Tryz.prog 52 #[.agg #[.int .i64 r.k, .int .i64 r.ep, .int .i64 r.tm, .int .i64 r.ct, .int .i64 r.tg, .int .i64 r.un, .string ⟨r.rt.toArray⟩, .string ⟨r.nm.toArray⟩]] w fun e w' => e = .returned (.bool (decide (RecM.may r))) ∧ Below w.heap.size w w' := by
  by_cases hl : low r
  · by_cases h1 : r.k = 1
    · rw [dec_may r ((0 ≤ r.ct ∧ r.ct ≤ 4096) ∧ r.rt.length = 32) hl (asks_1 h1), Bool.decide_and]
      exact may_1 r hl h1 w
    by_cases h2 : r.k = 2
    · rw [dec_may r (aim r ∧ (0 ≤ r.un ∧ r.un ≤ 1099511627776)) hl (asks_2 h2), Bool.decide_and]
      exact may_2 r hl h2 w
    by_cases h5 : r.k = 5
    · rw [dec_may r (aim r ∧ (0 ≤ r.un ∧ r.un ≤ 1099511627776)) hl (asks_5 h5), Bool.decide_and]
      exact may_5 r hl h5 w
    by_cases h3 : r.k = 3
    · rw [dec_may r (aim r ∧ isName r.nm = true) hl (asks_3 h3), Bool.decide_and, Bool.decide_eq_true]
      exact may_3 r hl h3 w
    by_cases h4 : r.k = 4
    · rw [dec_may r (isName r.nm = true) hl (asks_4 h4), Bool.decide_eq_true]
      exact may_4 r hl h4 w
    have h0 : r.k ≠ 1 ∧ r.k ≠ 2 ∧ r.k ≠ 3 ∧ r.k ≠ 4 ∧ r.k ≠ 5 := ⟨h1, h2, h3, h4, h5⟩
    rw [dec_may r False hl (asks_0 h0)]
    exact may_0 r hl h0 w
  · rw [df (fun h : RecM.may r => hl h.1)]
    exact may_low r hl w
set_option maxRecDepth 100000 in
set_option maxHeartbeats 4000000 in
theorem Check_same (r : Rec) (q : Bool) (hs : RecM.said r = r) (hq : decide (RecM.may r) = q) (w : World) :
    Calls Tryz.prog 30 #[.agg #[.int .i64 r.k, .int .i64 r.ep, .int .i64 r.tm, .int .i64 r.ct, .int .i64 r.tg, .int .i64 r.un, .string ⟨r.rt.toArray⟩, .string ⟨r.nm.toArray⟩]] w fun e w' => e = .returned (.int .i64 (if q then 0 else 2)) ∧ Below w.heap.size w w' := by
  obtain ⟨W1, hW1⟩ : ∃ W1, W1 = w.alloc (.cells #[.int .i64 r.k, .int .i64 r.ep, .int .i64 r.tm, .int .i64 r.ct, .int .i64 r.tg, .int .i64 r.un, .string ⟨r.rt.toArray⟩, .string ⟨r.nm.toArray⟩] 23) := ⟨_, rfl⟩
  have SS : Hid (Ws w r W1) := Lib.hid (by rw [hW1]; exact ws_new w r)
  have HS := Lib.hid (fun W => RecS.said r W)
  rw [hs] at HS
  have HY := Lib.hid (fun W => may r W)
  rw [hq] at HY
  have hne := fun W => run_neq_rec W r r true (dt rfl)
  clear hs hq
  go_enter Tryz.func30, Tryz.ntmps30
  go_upto_region 1 with (fail)
  rw [← hW1]
  clear hW1
  replace SS := Lib.hid SS.out.drew
  have hS := SS.out.k.cells
  cases q
  all_goals
    go_region_held3 (fun W => W.cell? ⟨w.heap.size, 0, none⟩ = some (.int .i64 r.k) ∧ W.cell? ⟨w.heap.size, 1, none⟩ = some (.int .i64 r.ep) ∧ W.cell? ⟨w.heap.size, 2, none⟩ = some (.int .i64 r.tm) ∧ W.cell? ⟨w.heap.size, 3, none⟩ = some (.int .i64 r.ct) ∧ W.cell? ⟨w.heap.size, 4, none⟩ = some (.int .i64 r.tg) ∧ W.cell? ⟨w.heap.size, 5, none⟩ = some (.int .i64 r.un) ∧ W.cell? ⟨w.heap.size, 6, none⟩ = some (.string ⟨r.rt.toArray⟩) ∧ W.cell? ⟨w.heap.size, 7, none⟩ = some (.string ⟨r.nm.toArray⟩))
      (exact hS)
      (first
        | (go_at_call 51; refine (HS.out _).mono ?_; rintro e w2 ⟨rfl, hb⟩; replace SS := Lib.hid (SS.out.step hb); replace hS := SS.out.k.cells; clear hb)
        | (go_at_call 52; refine (HY.out _).mono ?_; rintro e w3 ⟨rfl, hb⟩; replace SS := Lib.hid (SS.out.step hb); replace hS := SS.out.k.cells; clear hb))
    go_wp2
    go_ret
    exact ⟨rfl, SS.out.bel⟩
set_option maxRecDepth 100000 in
set_option maxHeartbeats 4000000 in
theorem Check_other (r : Rec) (hs : ¬ r = RecM.said r) (w : World) :
    Calls Tryz.prog 30 #[.agg #[.int .i64 r.k, .int .i64 r.ep, .int .i64 r.tm, .int .i64 r.ct, .int .i64 r.tg, .int .i64 r.un, .string ⟨r.rt.toArray⟩, .string ⟨r.nm.toArray⟩]] w fun e w' => e = .returned (.int .i64 2) ∧ Below w.heap.size w w' := by
  obtain ⟨W1, hW1⟩ : ∃ W1, W1 = w.alloc (.cells #[.int .i64 r.k, .int .i64 r.ep, .int .i64 r.tm, .int .i64 r.ct, .int .i64 r.tg, .int .i64 r.un, .string ⟨r.rt.toArray⟩, .string ⟨r.nm.toArray⟩] 23) := ⟨_, rfl⟩
  have SS : Hid (Ws w r W1) := Lib.hid (by rw [hW1]; exact ws_new w r)
  have HS := Lib.hid (fun W => RecS.said r W)
  generalize RecM.said r = s at *
  have hne := fun W => run_neq_rec W r s false (df hs)
  clear hs
  go_enter Tryz.func30, Tryz.ntmps30
  go_upto_region 1 with (fail)
  rw [← hW1]
  clear hW1
  replace SS := Lib.hid SS.out.drew
  have hS := SS.out.k.cells
  refine wp_region_held_drew (S := fun W => W.cell? ⟨w.heap.size, 0, none⟩ = some (.int .i64 r.k) ∧ W.cell? ⟨w.heap.size, 1, none⟩ = some (.int .i64 r.ep) ∧ W.cell? ⟨w.heap.size, 2, none⟩ = some (.int .i64 r.tm) ∧ W.cell? ⟨w.heap.size, 3, none⟩ = some (.int .i64 r.ct) ∧ W.cell? ⟨w.heap.size, 4, none⟩ = some (.int .i64 r.tg) ∧ W.cell? ⟨w.heap.size, 5, none⟩ = some (.int .i64 r.un) ∧ W.cell? ⟨w.heap.size, 6, none⟩ = some (.string ⟨r.rt.toArray⟩) ∧ W.cell? ⟨w.heap.size, 7, none⟩ = some (.string ⟨r.nm.toArray⟩)) (by kernel_rfl) hS (fun _ => ?_)
  change wpAnyH _ _ _ _ _ _ #[false, false, false, false, false, false, false, false, false] _ _
  refine wpAnyH_take (i := 0) (v := ?vx1) (by rw [List.getElem?_toArray]; rfl) (by kernel_rfl) (by kernel_rfl) (by kernel_rfl) (by intro _ _ _ h; exact h) (Or.inl ⟨by rfl, ?hyx1⟩) (by assumption) ?restx1
  case hyx1 => (intro W hSW; (try dsimp only at hSW); go_simp; try with_reducible rfl)
  try simp only [Act.put, List.setIfInBounds_toArray, List.set_cons_zero, List.set_cons_succ]
  refine wpAnyH_take (i := 1) (v := ?vx2) (by rw [List.getElem?_toArray]; rfl) (by kernel_rfl) (by kernel_rfl) (by kernel_rfl) (by intro _ _ _ h; exact h) (Or.inl ⟨by rfl, ?hyx2⟩) (by assumption) ?restx2
  case hyx2 => (intro W hSW; (try dsimp only at hSW); go_simp; try with_reducible rfl)
  try simp only [Act.put, List.setIfInBounds_toArray, List.set_cons_zero, List.set_cons_succ]
  refine wpAnyH_ready (rs := [2]) (by kernel_rfl) (by simp) (AllReadyH.cons (by rw [List.getElem?_toArray]; rfl) (fun K hK => ?_) AllReadyH.nil)
  go_simp
  refine (HS.out _).mono ?_
  rintro e w12 ⟨rfl, hb⟩
  replace SS := Lib.hid (SS.out.step hb)
  replace hS := SS.out.k.cells
  clear hb
  refine hK.out _ _ hS (fun _ => ?_)
  clear hK K
  try simp only [List.setIfInBounds_toArray, List.set_cons_zero, List.set_cons_succ]
  refine wpAnyH_take (i := 3) (v := ?vx4) (by rw [List.getElem?_toArray]; rfl) (by kernel_rfl) (by kernel_rfl) (by kernel_rfl) (by intro _ _ _ h; exact h) (Or.inl ⟨by rfl, ?hyx4⟩) (by assumption) ?restx4
  case hyx4 => (intro W hSW; (try dsimp only at hSW); go_simp; try with_reducible rfl)
  try simp only [Act.put, List.setIfInBounds_toArray, List.set_cons_zero, List.set_cons_succ]
  refine wpAnyH_take (i := 4) (v := ?vx5) (by rw [List.getElem?_toArray]; rfl) (by kernel_rfl) (by kernel_rfl) (by kernel_rfl) (by intro _ _ _ h; exact h) (Or.inl ⟨by rfl, ?hyx5⟩) (by assumption) ?restx5
  case hyx5 => (intro W hSW; (try dsimp only at hSW); go_simp; try with_reducible rfl)
  try simp only [Act.put, List.setIfInBounds_toArray, List.set_cons_zero, List.set_cons_succ]
  refine wpAnyH_take (i := 5) (v := undef) (by rw [List.getElem?_toArray]; rfl) (by kernel_rfl) (by kernel_rfl) (by kernel_rfl) (by intro _ _ _ h; exact h) (Or.inr ⟨by rfl, rfl⟩) (by assumption) ?restx6
  try simp only [Act.put, List.setIfInBounds_toArray, List.set_cons_zero, List.set_cons_succ]
  refine wpAnyH_take (i := 6) (v := undef) (by rw [List.getElem?_toArray]; rfl) (by kernel_rfl) (by kernel_rfl) (by kernel_rfl) (by intro _ _ _ h; exact h) (Or.inr ⟨by rfl, rfl⟩) (by assumption) ?restx7
  try simp only [Act.put, List.setIfInBounds_toArray, List.set_cons_zero, List.set_cons_succ]
  refine wpAnyH_take (i := 7) (v := undef) (by rw [List.getElem?_toArray]; rfl) (by kernel_rfl) (by kernel_rfl) (by kernel_rfl) (by intro _ _ _ h; exact h) (Or.inr ⟨by rfl, rfl⟩) (by assumption) ?restx8
  try simp only [Act.put, List.setIfInBounds_toArray, List.set_cons_zero, List.set_cons_succ]
  refine wpAnyH_take (i := 8) (v := ?vx9) (by rw [List.getElem?_toArray]; rfl) (by kernel_rfl) (by kernel_rfl) (by kernel_rfl) (by intro _ _ _ h; exact h) (Or.inl ⟨by rfl, ?hyx9⟩) (by assumption) ?restx9
  case hyx9 => (intro W hSW; (try dsimp only at hSW); go_simp; try with_reducible rfl)
  try simp only [Act.put, List.setIfInBounds_toArray, List.set_cons_zero, List.set_cons_succ]
  refine wpAnyH_done (by kernel_rfl) ?_ _
  go_wp2
  go_ret
  exact ⟨rfl, SS.out.bel⟩
def check (r : Rec) : Int := if right r then 0 else 2
/-- What record.Check answers. -/
theorem Check (r : Rec) (w : World) :
    Calls Tryz.prog 30 #[.agg #[.int .i64 r.k, .int .i64 r.ep, .int .i64 r.tm, .int .i64 r.ct, .int .i64 r.tg, .int .i64 r.un, .string ⟨r.rt.toArray⟩, .string ⟨r.nm.toArray⟩]] w fun e w' => e = .returned (.int .i64 (check r)) ∧ Below w.heap.size w w' := by
  by_cases hs : r = RecM.said r
  · have := Check_same r _ hs.symm rfl w
    by_cases hm : RecM.may r
    · rw [dt hm] at this
      rw [check, if_pos ((right_iff r).2 ⟨hs, hm⟩)]
      exact this
    · rw [df hm] at this
      rw [check, if_neg (fun h => hm ((right_iff r).1 h).2)]
      exact this
  · rw [check, if_neg (fun h => hs ((right_iff r).1 h).1)]
    exact Check_other r hs w
theorem check_yes {r : Rec} (h : right r) : check r = 0 := if_pos h
theorem check_no {r : Rec} (h : ¬ right r) : check r = 2 := if_neg h
end Go.Proofs.YtkidehngleglnaaGreatDoor.RecK
