/- A disk as a list of blocks, a list of writes, a count and a flag: what each call answers and turns it to. Plain mathematics; no conditions but those that each lemma names. -/
import Derived.WalkKit
namespace Go.Proofs.YtoilcieineejiaaGreatDoor.DkN
/-- A disk: its blocks, what was written and not flushed, how many steps it is up to the one at which the power goes, whether it is gone. -/
structure Dk where
  bl : List ByteArray
  ca : List (Nat × ByteArray)
  armed : Nat
  down : Bool
/-- What place i shows, s being its block. -/
def seen (i : Nat) : List (Nat × ByteArray) → ByteArray → ByteArray
  | [], s => s
  | x :: r, s => seen i r (if x.1 = i then x.2 else s)
theorem seen_snoc (i : Nat) (l : List (Nat × ByteArray)) (x : Nat × ByteArray) (s : ByteArray) : seen i (l ++ [x]) s = if x.1 = i then x.2 else seen i l s := by
  induction l generalizing s with
  | nil => rfl
  | cons y l ih => exact ih _
theorem seen_next (i : Nat) (l : List (Nat × ByteArray)) (s : ByteArray) (k : Nat) (h : k < l.length) : seen i (l.take (k + 1)) s = if l[k].1 = i then l[k].2 else seen i (l.take k) s := by
  rw [List.take_succ_eq_append_getElem h, seen_snoc]
/-- The writes of the kept numbers are done, in their order. -/
def kset (keep : Nat → Bool) : Nat → List (Nat × ByteArray) → List ByteArray → List ByteArray
  | _, [], b => b
  | k, x :: r, b => kset keep (k + 1) r (if keep k then b.set x.1 x.2 else b)
theorem kset_snoc (keep : Nat → Bool) (k : Nat) (l : List (Nat × ByteArray)) (x : Nat × ByteArray) (b : List ByteArray) :
    kset keep k (l ++ [x]) b = if keep (k + l.length) then (kset keep k l b).set x.1 x.2 else kset keep k l b := by
  induction l generalizing k b with
  | nil => rfl
  | cons y l ih =>
    rw [List.cons_append, kset, ih, List.length_cons, show k + 1 + l.length = k + (l.length + 1) from by omega]
    rfl
theorem kset_next (keep : Nat → Bool) (l : List (Nat × ByteArray)) (b : List ByteArray) (k : Nat) (h : k < l.length) :
    kset keep 0 (l.take (k + 1)) b = if keep k then (kset keep 0 (l.take k) b).set l[k].1 l[k].2 else kset keep 0 (l.take k) b := by
  rw [List.take_succ_eq_append_getElem h, kset_snoc, Nat.zero_add, List.length_take, Nat.min_eq_left (Nat.le_of_lt h)]
theorem kset_length (keep : Nat → Bool) (k : Nat) (l : List (Nat × ByteArray)) (b : List ByteArray) : (kset keep k l b).length = b.length := by
  induction l generalizing k b with
  | nil => rfl
  | cons x l ih => rw [kset, ih]; split <;> simp
theorem kset_congr {keep keep' : Nat → Bool} (h : ∀ k, keep k = keep' k) (k : Nat) (l : List (Nat × ByteArray)) (b : List ByteArray) : kset keep k l b = kset keep' k l b := by
  rw [show keep = keep' from funext h]
theorem kset_all (keep : Nat → Bool) (p : ByteArray → Prop) (k : Nat) (l : List (Nat × ByteArray)) (b : List ByteArray) (hb : ∀ s ∈ b, p s) (hl : ∀ x ∈ l, p x.2) : ∀ s ∈ kset keep k l b, p s := by
  induction l generalizing k b with
  | nil => exact hb
  | cons x l ih =>
    rw [kset]
    refine ih _ _ ?_ (fun y hy => hl y (List.mem_cons_of_mem _ hy))
    intro s hs
    split at hs
    · rcases List.mem_or_eq_of_mem_set hs with h | rfl
      · exact hb s h
      · exact hl x (List.mem_cons_self ..)
    · exact hb s hs
theorem kset_at (k : Nat) (l : List (Nat × ByteArray)) (b : List ByteArray) (i : Nat) (hi : i < b.length) : (kset (fun _ => true) k l b)[i]? = some (seen i l b[i]) := by
  induction l generalizing k b with
  | nil => simp [kset, seen, hi]
  | cons x l ih =>
    rw [kset, if_pos rfl, ih _ _ (by simpa using hi), seen]
    congr 2
    by_cases h : x.1 = i
    · subst h; simp
    · rw [List.getElem_set_ne h, if_neg h]
/-- Place by place what each shows. -/
theorem kset_seen (l : List (Nat × ByteArray)) (b c : List ByteArray) (hl : c.length = b.length) (hc : ∀ i (h : i < b.length), c[i]? = some (seen i l b[i])) : c = kset (fun _ => true) 0 l b := by
  apply List.ext_getElem?
  intro i
  by_cases h : i < b.length
  · rw [hc i h, kset_at 0 l b i h]
  · rw [List.getElem?_eq_none (by omega), List.getElem?_eq_none (by rw [kset_length]; omega)]
/-- May a disk be? -/
structure Dk.ok (D : Dk) : Prop where
  lo : 8 ≤ D.bl.length
  hi : D.bl.length ≤ 1024
  full : ∀ s ∈ D.bl, s.size = 4096
  few : D.ca.length ≤ 4096
  good : ∀ x ∈ D.ca, x.1 < D.bl.length ∧ x.2.size = 4096
  arm : D.armed ≤ 9223372036854775807
/-- Is there such a place? -/
def Dk.has (D : Dk) (i : Int) : Bool := decide (0 ≤ i ∧ i < (D.bl.length : Int))
/-- A step. -/
def Dk.tick (D : Dk) : Dk := { D with armed := D.armed - 1, down := decide (D.armed = 1) }
/-- What place i shows. -/
def Dk.shown (D : Dk) (i : Int) : ByteArray := seen i.toNat D.ca (D.bl.getD i.toNat ByteArray.empty)
def Dk.rd (D : Dk) (i : Int) : ByteArray × Nat := if D.down then (ByteArray.empty, 14) else if D.has i then (D.shown i, 0) else (ByteArray.empty, 4)
/-- Why this may not be written here, or 0. -/
def Dk.no (D : Dk) (i : Int) (s : ByteArray) : Nat := if D.has i then (if s.size = 4096 then 0 else 2) else 4
def Dk.wr (D : Dk) (i : Int) (s : ByteArray) : Nat × Dk :=
  if D.down then (14, D) else if D.no i s = 0 then (if 4096 ≤ D.ca.length then (5, D) else if D.armed = 1 then (14, D.tick) else (0, { D.tick with ca := D.ca ++ [(i.toNat, s)] })) else (D.no i s, D)
def Dk.flush (D : Dk) : Nat × Dk :=
  if D.down then (14, D) else if D.armed = 1 then (14, D.tick) else (0, { D.tick with bl := kset (fun _ => true) 0 D.ca D.bl, ca := [] })
def Dk.arm_ (D : Dk) (n : Int) : Nat × Dk := if D.down then (14, D) else if n < 0 then (2, D) else (0, { D with armed := n.toNat })
/-- Is a number in the row? -/
def keepB (keep : List Int) (k : Nat) : Bool := decide ((k : Int) ∈ keep)
def Dk.crash (D : Dk) (keep : List Int) : Dk := { bl := kset (keepB keep) 0 D.ca D.bl, ca := [], armed := D.armed, down := true }
def Dk.crashR (D : Dk) (keep : List Int) : Dk := { D.crash keep with armed := 0 }
def Dk.boot (D : Dk) : Dk := { D with ca := [], armed := 0, down := false }
def Dk.over (D : Dk) (i : Int) (s : ByteArray) : Nat × Dk := if D.no i s = 0 then (0, { D with bl := D.bl.set i.toNat s }) else (D.no i s, D)
/-- Noughts. -/
def nou (n : Nat) : ByteArray := ⟨(List.replicate n 0).toArray⟩
theorem nou_size (n : Nat) : (nou n).size = n := by simp [nou, ByteArray.size]
def made (n : Nat) : Dk := { bl := List.replicate n (nou 4096), ca := [], armed := 0, down := false }
theorem made_ok (n : Nat) (h1 : 8 ≤ n) (h2 : n ≤ 1024) : (made n).ok :=
  ⟨by simpa [made], by simpa [made], fun s hs => by rw [List.eq_of_mem_replicate hs, nou_size], by simp [made], fun x hx => by simp [made] at hx, by simp [made]⟩
theorem tick_ok {D : Dk} (h : D.ok) : D.tick.ok := ⟨h.lo, h.hi, h.full, h.few, h.good, by have := h.arm; show D.armed - 1 ≤ _; omega⟩
theorem no_zero {D : Dk} {i : Int} {s : ByteArray} (h : D.no i s = 0) : 0 ≤ i ∧ i.toNat < D.bl.length ∧ s.size = 4096 := by
  unfold Dk.no Dk.has at h
  by_cases hi : 0 ≤ i ∧ i < (D.bl.length : Int)
  · by_cases hs : s.size = 4096
    · exact ⟨hi.1, by omega, hs⟩
    · simp [hi, hs] at h
  · simp [hi] at h
theorem wr_ok {D : Dk} (h : D.ok) (i : Int) (s : ByteArray) : (D.wr i s).2.ok := by
  unfold Dk.wr
  split
  · exact h
  · split
    · rename_i h0
      obtain ⟨_, h1, h2⟩ := no_zero h0
      split
      · exact h
      · split
        · exact tick_ok h
        · refine ⟨h.lo, h.hi, h.full, by simp; omega, fun x hx => ?_, (tick_ok h).arm⟩
          rcases List.mem_append.1 hx with hx | hx
          · exact h.good x hx
          · rw [List.mem_singleton.1 hx]; exact ⟨h1, h2⟩
    · exact h
theorem settled_ok {D : Dk} (h : D.ok) (keep : Nat → Bool) (a : Nat) (ha : a ≤ 9223372036854775807) (f : Bool) : Dk.ok { bl := kset keep 0 D.ca D.bl, ca := [], armed := a, down := f } :=
  ⟨by simpa [kset_length] using h.lo, by simpa [kset_length] using h.hi, kset_all keep _ 0 D.ca D.bl h.full (fun x hx => (h.good x hx).2), by simp, fun x hx => by simp at hx, ha⟩
theorem flush_ok {D : Dk} (h : D.ok) : D.flush.2.ok := by
  unfold Dk.flush
  split
  · exact h
  · split
    · exact tick_ok h
    · exact settled_ok h _ _ (tick_ok h).arm _
theorem arm_ok {D : Dk} (h : D.ok) (n : Int) (hn : n ≤ 9223372036854775807) : (D.arm_ n).2.ok := by
  unfold Dk.arm_
  split
  · exact h
  · split
    · exact h
    · exact ⟨h.lo, h.hi, h.full, h.few, h.good, by show n.toNat ≤ _; omega⟩
theorem crash_ok {D : Dk} (h : D.ok) (keep : List Int) : (D.crash keep).ok := settled_ok h _ _ h.arm _
theorem crashR_ok {D : Dk} (h : D.ok) (keep : List Int) : (D.crashR keep).ok := settled_ok h _ 0 (by omega) _
theorem boot_ok {D : Dk} (h : D.ok) : D.boot.ok := ⟨h.lo, h.hi, h.full, by simp [Dk.boot], fun x hx => by simp [Dk.boot] at hx, by simp [Dk.boot]⟩
theorem over_ok {D : Dk} (h : D.ok) (i : Int) (s : ByteArray) : (D.over i s).2.ok := by
  unfold Dk.over
  split
  · rename_i h0
    obtain ⟨_, h1, h2⟩ := no_zero h0
    refine ⟨by simpa using h.lo, by simpa using h.hi, fun t ht => ?_, h.few, fun x hx => by simpa using h.good x hx, h.arm⟩
    rcases List.mem_or_eq_of_mem_set ht with h' | rfl
    · exact h.full t h'
    · exact h2
  · exact h
/-- The program's disk and the document's: what is armed may be another one while the power is gone. -/
def Like (D R : Dk) : Prop := D.bl = R.bl ∧ D.ca = R.ca ∧ D.down = R.down ∧ (D.down = false → D.armed = R.armed)
theorem Like.refl (D : Dk) : Like D D := ⟨rfl, rfl, rfl, fun _ => rfl⟩
theorem Like.eq {D R : Dk} (h : Like D R) (hd : D.down = false) : D = R := by
  obtain ⟨a, b, c, d⟩ := D
  obtain ⟨a', b', c', d'⟩ := R
  obtain ⟨h1, h2, h3, h4⟩ := h
  simp only at h1 h2 h3 h4 hd
  subst h1 h2 h3
  rw [h4 hd]
theorem Like.wr {D R : Dk} (h : Like D R) (i : Int) (s : ByteArray) : (D.wr i s).1 = (R.wr i s).1 ∧ Like (D.wr i s).2 (R.wr i s).2 := by
  by_cases hd : D.down = true
  · have hr : R.down = true := by rw [← h.2.2.1]; exact hd
    simp [Dk.wr, hd, hr, h]
  · rw [h.eq (by simpa using hd)]; exact ⟨rfl, .refl _⟩
theorem Like.rd {D R : Dk} (h : Like D R) (i : Int) : D.rd i = R.rd i := by
  by_cases hd : D.down = true
  · have hr : R.down = true := by rw [← h.2.2.1]; exact hd
    simp [Dk.rd, hd, hr]
  · rw [h.eq (by simpa using hd)]
theorem Like.flush {D R : Dk} (h : Like D R) : D.flush.1 = R.flush.1 ∧ Like D.flush.2 R.flush.2 := by
  by_cases hd : D.down = true
  · have hr : R.down = true := by rw [← h.2.2.1]; exact hd
    simp [Dk.flush, hd, hr, h]
  · rw [h.eq (by simpa using hd)]; exact ⟨rfl, .refl _⟩
theorem Like.arm {D R : Dk} (h : Like D R) (n : Int) : (D.arm_ n).1 = (R.arm_ n).1 ∧ Like (D.arm_ n).2 (R.arm_ n).2 := by
  by_cases hd : D.down = true
  · have hr : R.down = true := by rw [← h.2.2.1]; exact hd
    simp [Dk.arm_, hd, hr, h]
  · rw [h.eq (by simpa using hd)]; exact ⟨rfl, .refl _⟩
theorem Like.crash {D R : Dk} (h : Like D R) (keep : List Int) : Like (D.crash keep) (R.crashR keep) :=
  ⟨by simp only [Dk.crash, Dk.crashR]; rw [h.1, h.2.1], rfl, rfl, fun x => by simp [Dk.crash] at x⟩
theorem Like.boot {D R : Dk} (h : Like D R) : Like D.boot R.boot := ⟨h.1, rfl, rfl, fun _ => rfl⟩
theorem Like.no {D R : Dk} (h : Like D R) (i : Int) (s : ByteArray) : D.no i s = R.no i s := by
  unfold Dk.no Dk.has
  rw [h.1]
theorem Like.over {D R : Dk} (h : Like D R) (i : Int) (s : ByteArray) : (D.over i s).1 = (R.over i s).1 ∧ Like (D.over i s).2 (R.over i s).2 := by
  unfold Dk.over
  rw [h.no]
  split
  · exact ⟨rfl, by show D.bl.set _ _ = R.bl.set _ _; rw [h.1], h.2.1, h.2.2.1, h.2.2.2⟩
  · exact ⟨rfl, h⟩
/-- A text as a block: its first bytes, and noughts behind. -/
def full4 (s : ByteArray) : ByteArray := if 4096 < s.size then s.extract 0 4096 else s ++ nou (4096 - s.size)
/-- A call. -/
structure Act where
  kind : Int
  at_ : Int
  n : Int
  text : ByteArray
  raw : Bool
  keep : List Int
def Act.txt (a : Act) : ByteArray := if a.raw then a.text else full4 a.text
def actD (D : Dk) (a : Act) : Dk :=
  if a.kind = 1 then (D.wr a.at_ a.txt).2 else if a.kind = 3 then D.flush.2 else if a.kind = 4 then (D.arm_ a.n).2 else if a.kind = 5 then D.crash a.keep else if a.kind = 6 then D.boot else if a.kind = 7 then (D.over a.at_ a.txt).2 else D
def actR (D : Dk) (a : Act) : Dk :=
  if a.kind = 1 then (D.wr a.at_ a.txt).2 else if a.kind = 3 then D.flush.2 else if a.kind = 4 then (D.arm_ a.n).2 else if a.kind = 5 then D.crashR a.keep else if a.kind = 6 then D.boot else if a.kind = 7 then (D.over a.at_ a.txt).2 else D
theorem Like.act {D R : Dk} (h : Like D R) (a : Act) : Like (actD D a) (actR R a) := by
  unfold actD actR
  split
  · exact (h.wr _ _).2
  split
  · exact h.flush.2
  split
  · exact (h.arm _).2
  split
  · exact h.crash _
  split
  · exact h.boot
  split
  · exact (h.over _ _).2
  · exact h
end Go.Proofs.YtoilcieineejiaaGreatDoor.DkN
