/- JouN JouP JouQ JouR JouS: one behind the other. -/
import Derived.Test.YtoilcieineejiaaGreatDoorDkN
import Derived.Test.YtoilcieineejiaaGreatDoorSupN
import Derived.Test.YtoilcieineejiaaGreatDoorLShn
/- Plain mathematics: a journal over a disk: what each call does to the disk, step by step; what is held behind a crash at any of them. No program is reached here; no conditions but those that each lemma names. -/
namespace Go.Proofs.YtoilcieineejiaaGreatDoor.JouN
set_option linter.unusedVariables false
open DkN
abbrev B := ByteArray
/-- A text of bytes as a block, and back. -/
def bb (l : List UInt8) : B := ⟨l.toArray⟩
def lb (b : B) : List UInt8 := b.data.toList
theorem lb_bb (l : List UInt8) : lb (bb l) = l := by simp [lb, bb]
theorem bb_lb (b : B) : bb (lb b) = b := by obtain ⟨⟨l⟩⟩ := b; rfl
theorem bb_size (l : List UInt8) : (bb l).size = l.length := by simp [bb, ByteArray.size]
theorem lb_len (b : B) : (lb b).length = b.size := by obtain ⟨⟨l⟩⟩ := b; rfl
/-- What a disk is told. -/
inductive Ac where
  | wr (i : Nat) (s : B)
  | fl
/-- What is on a disk: blocks, and writes that were not flushed. -/
abbrev Im := List B × List (Nat × B)
def im (D : Dk) : Im := (D.bl, D.ca)
def effA (m : Im) : Ac → Im
  | .wr i s => (m.1, m.2 ++ [(i, s)])
  | .fl => (kset (fun _ => true) 0 m.2 m.1, [])
def eff (m : Im) (l : List Ac) : Im := l.foldl effA m
theorem eff_cons (m : Im) (a : Ac) (l : List Ac) : eff m (a :: l) = eff (effA m a) l := rfl
theorem eff_len (m : Im) (l : List Ac) : (eff m l).1.length = m.1.length := by
  induction l generalizing m with
  | nil => rfl
  | cons a l ih =>
    rw [eff_cons, ih]
    cases a with
    | wr i s => rfl
    | fl => exact kset_length _ _ _ _
def acD (D : Dk) : Ac → Nat × Dk
  | .wr i s => D.wr i s
  | .fl => D.flush
/-- One behind the other, up to the first that is refused. -/
def run (D : Dk) : List Ac → Nat × Dk
  | [] => (0, D)
  | a :: l => if (acD D a).1 = 0 then run (acD D a).2 l else acD D a
/-- A write that a disk of n blocks takes. -/
def fitA (n : Nat) : Ac → Prop
  | .wr i s => i < n ∧ s.size = 4096
  | .fl => True
theorem no_fit {D : Dk} {i : Nat} {s : B} (h : fitA D.bl.length (.wr i s)) : D.no i s = 0 := by
  obtain ⟨h1, h2⟩ := h
  unfold Dk.no Dk.has
  rw [if_pos (decide_eq_true (by omega)), if_pos h2]
/-- One act: it is done, or the power goes at it and nothing is done. -/
theorem ac_im {D : Dk} (hd : D.down = false) {a : Ac} (hf : fitA D.bl.length a) (hc : D.ca.length < 4096) :
    ((acD D a).1 = 0 ∧ (acD D a).2.down = false ∧ im (acD D a).2 = effA (im D) a) ∨ ((acD D a).1 = 14 ∧ (acD D a).2.down = true ∧ im (acD D a).2 = im D) := by
  cases a with
  | wr i s =>
    have e : D.wr i s = if D.armed = 1 then (14, D.tick) else (0, { D.tick with ca := D.ca ++ [((i : Int).toNat, s)] }) := by
      unfold Dk.wr
      rw [hd, if_neg (by decide), if_pos (no_fit hf), if_neg (by omega)]
    rw [show acD D (.wr i s) = D.wr i s from rfl, e]
    by_cases h1 : D.armed = 1
    · rw [if_pos h1]
      exact .inr ⟨rfl, decide_eq_true h1, rfl⟩
    · rw [if_neg h1]
      exact .inl ⟨rfl, decide_eq_false h1, by simp [im, effA, Dk.tick]⟩
  | fl =>
    have e : D.flush = if D.armed = 1 then (14, D.tick) else (0, { D.tick with bl := kset (fun _ => true) 0 D.ca D.bl, ca := [] }) := by
      unfold Dk.flush
      rw [hd, if_neg (by decide)]
    rw [show acD D .fl = D.flush from rfl, e]
    by_cases h1 : D.armed = 1
    · rw [if_pos h1]
      exact .inr ⟨rfl, decide_eq_true h1, rfl⟩
    · rw [if_neg h1]
      exact .inl ⟨rfl, decide_eq_false h1, rfl⟩
/-- Acts: all are done, or the power goes at one, and those ahead of it are done. -/
theorem run_im {D : Dk} (hd : D.down = false) {l : List Ac} (hf : ∀ a ∈ l, fitA D.bl.length a) (hc : D.ca.length + l.length ≤ 4096) :
    ((run D l).1 = 0 ∧ (run D l).2.down = false ∧ im (run D l).2 = eff (im D) l) ∨ ((run D l).1 = 14 ∧ (run D l).2.down = true ∧ ∃ k, k < l.length ∧ im (run D l).2 = eff (im D) (l.take k)) := by
  induction l generalizing D with
  | nil => exact .inl ⟨rfl, hd, rfl⟩
  | cons a l ih =>
    have hl : (a :: l).length = l.length + 1 := rfl
    unfold run
    rcases ac_im hd (hf a (List.mem_cons_self ..)) (by omega) with ⟨h1, h2, h3⟩ | ⟨h1, h2, h3⟩
    · rw [if_pos h1]
      have hbl : (acD D a).2.bl.length = D.bl.length := by
        have e : (acD D a).2.bl = (effA (im D) a).1 := congrArg Prod.fst h3
        rw [e]
        cases a with
        | wr i s => rfl
        | fl => exact kset_length _ _ _ _
      have hca : (acD D a).2.ca.length ≤ D.ca.length + 1 := by
        have e : (acD D a).2.ca = (effA (im D) a).2 := congrArg Prod.snd h3
        rw [e]
        cases a with
        | wr i s => simp [effA, im]
        | fl => simp [effA]
      have := ih (D := (acD D a).2) h2 (fun x hx => by rw [hbl]; exact hf x (List.mem_cons_of_mem _ hx)) (by omega)
      rw [h3] at this
      rcases this with ⟨q1, q2, q3⟩ | ⟨q1, q2, k, q3, q4⟩
      · exact .inl ⟨q1, q2, q3⟩
      · exact .inr ⟨q1, q2, k + 1, by omega, q4⟩
    · rw [if_neg (by rw [h1]; decide)]
      exact .inr ⟨h1, h2, 0, by omega, h3⟩
/-- What is held behind a crash of what is on a disk, whatever is kept. -/
def Sure (m : Im) (P : List B → Prop) : Prop := ∀ keep, P (kset keep 0 m.2 m.1)
theorem kset_other (keep : Nat → Bool) (k : Nat) (l : List (Nat × B)) (b : List B) (i : Nat) (h : ∀ x ∈ l, x.1 ≠ i) : (kset keep k l b)[i]? = b[i]? := by
  induction l generalizing k b with
  | nil => rfl
  | cons x l ih =>
    rw [kset, ih _ _ (fun y hy => h y (List.mem_cons_of_mem _ hy))]
    split
    · exact List.getElem?_set_ne (h x (List.mem_cons_self ..))
    · rfl
theorem kset_size (keep : Nat → Bool) (k : Nat) (l : List (Nat × B)) (b : List B) (hb : ∀ s ∈ b, s.size = 4096) (hl : ∀ x ∈ l, x.2.size = 4096) : ∀ s ∈ kset keep k l b, s.size = 4096 := kset_all keep _ k l b hb hl
/-- The places that a superblock's state stands in. -/
def Own (s : SupN.Sb) (i : Nat) : Prop := i = 0 ∨ i = 1 ∨ i = 2 + (s.e % 2).toNat ∨ (4 ≤ i ∧ i < 4 + s.t.toNat)
/-- What is committed stands on these blocks. -/
structure Hold (n : Nat) (bl : List B) (s : SupN.Sb) (dat : List B) (key : List UInt8) : Prop where
  len : bl.length = n
  full : ∀ x ∈ bl, x.size = 4096
  may : SupN.may s
  b : s.b = n
  own : bl[(s.g % 2).toNat]? = some (bb (SupN.blk s))
  oth : ∃ x, bl[((s.g + 1) % 2).toNat]? = some x ∧ (SupN.good (lb x) → (SupN.rd (lb x)).g < s.g)
  klen : key.length = 32
  key : bl[2 + (s.e % 2).toNat]? = some (bb (SloN.blk s.e key))
  dlen : (dat.length : Int) = s.t
  dat : ∀ i, i < dat.length → bl[4 + i]? = dat[i]?
theorem Hold.away {n : Nat} {bl bl' : List B} {s : SupN.Sb} {dat : List B} {key : List UInt8} (h : Hold n bl s dat key) (hl : bl'.length = n) (hf : ∀ x ∈ bl', x.size = 4096) (ho : ∀ i, Own s i → bl'[i]? = bl[i]?) : Hold n bl' s dat key := by
  have hg := h.may.2.1
  have h0 : ∀ i : Nat, i = 0 ∨ i = 1 → bl'[i]? = bl[i]? := fun i hi => ho i (hi.imp id .inl)
  have ht := h.dlen
  refine ⟨hl, hf, h.may, h.b, (h0 _ (by omega)).trans h.own, ?_, h.klen, (ho _ (.inr (.inr (.inl rfl)))).trans h.key, h.dlen, fun i hi => (ho _ (.inr (.inr (.inr (by omega))))).trans (h.dat i hi)⟩
  obtain ⟨x, h1, h2⟩ := h.oth
  exact ⟨x, (h0 _ (by omega)).trans h1, h2⟩
/-- Writes to other places do not turn what is committed. -/
theorem Hold.kset {n : Nat} {bl : List B} {s : SupN.Sb} {dat : List B} {key : List UInt8} (h : Hold n bl s dat key) {ca : List (Nat × B)} (hs : ∀ x ∈ ca, x.2.size = 4096) (ho : ∀ x ∈ ca, ¬ Own s x.1) (keep : Nat → Bool) (k : Nat) : Hold n (DkN.kset keep k ca bl) s dat key :=
  h.away ((kset_length _ _ _ _).trans h.len) (kset_size _ _ _ _ h.full hs) fun i hi => kset_other _ _ _ _ _ fun x hx e => ho x hx (e ▸ hi)
/-- What both superblocks' places tell. -/
theorem Hold.choose {n : Nat} {bl : List B} {s : SupN.Sb} {dat : List B} {key : List UInt8} (h : Hold n bl s dat key) {x y : B} (hx : bl[0]? = some x) (hy : bl[1]? = some y) : SupN.choose (lb x) (lb y) = (s, s.g % 2, 0) := by
  have hg := h.may.2.1
  have tk : SupN.take (lb (bb (SupN.blk s))) = (s, 0) := by rw [lb_bb]; exact SupN.take_blk h.may
  obtain ⟨z, h1, h2⟩ := h.oth
  have hz : (SupN.take (lb z)).1.g < s.g := by
    by_cases q : SupN.good (lb z)
    · rw [SupN.take_yes q]; exact h2 q
    · rw [SupN.take_no q]; show (0 : Int) < s.g; omega
  have own := h.own
  by_cases hp : s.g % 2 = 0
  · rw [show (s.g % 2).toNat = 0 by omega, hx] at own
    rw [show ((s.g + 1) % 2).toNat = 1 by omega, hy] at h1
    obtain rfl := Option.some.inj own
    obtain rfl := Option.some.inj h1
    have ga : SupN.good (lb (bb (SupN.blk s))) := by rw [lb_bb]; exact SupN.good_blk h.may
    rw [SupN.choose_0 (by rw [tk]; show ¬ s.g < _; omega) ga, tk, hp]
  · rw [show (s.g % 2).toNat = 1 by omega, hy] at own
    rw [show ((s.g + 1) % 2).toNat = 0 by omega, hx] at h1
    obtain rfl := Option.some.inj own
    obtain rfl := Option.some.inj h1
    rw [SupN.choose_1 (by rw [tk]; exact hz), tk, show s.g % 2 = 1 by omega]
theorem Hold.ep {n : Nat} {bl : List B} {s : SupN.Sb} {dat : List B} {key : List UInt8} (h : Hold n bl s dat key) : SloN.may s.e := by
  obtain ⟨hr, _, _, he, _⟩ := h.may
  unfold GeoN.right at hr
  exact ⟨by omega, he.2⟩
theorem Hold.pick {n : Nat} {bl : List B} {s : SupN.Sb} {dat : List B} {key : List UInt8} (h : Hold n bl s dat key) {x y : B} (hx : bl[2]? = some x) (hy : bl[3]? = some y) : SloN.pick (lb x) (lb y) s.e = (key, 0) := by
  have he := h.ep
  have hk := h.key
  by_cases ho : s.e % 2 = 1
  · rw [show 2 + (s.e % 2).toNat = 3 by omega, hy] at hk
    obtain rfl := Option.some.inj hk
    rw [SloN.pick_odd he ho, lb_bb]
    exact SloN.pick1_blk he h.klen
  · rw [show 2 + (s.e % 2).toNat = 2 by omega, hx] at hk
    obtain rfl := Option.some.inj hk
    rw [SloN.pick_even he ho, lb_bb]
    exact SloN.pick1_blk he h.klen
end Go.Proofs.YtoilcieineejiaaGreatDoor.JouN
/- Plain mathematics: a journal that is open: append, commit, close, flush; what is held behind each, and behind a crash amid each. No program is reached here; no conditions but those that each lemma names. -/
namespace Go.Proofs.YtoilcieineejiaaGreatDoor.JouP
set_option linter.unusedVariables false
open DkN JouN
/-- An open journal: the last superblock, how many blocks are taken, whether it is broken. -/
structure Jo where
  last : SupN.Sb
  used : Nat
  broken : Bool
theorem Hold.next {n : Nat} {bl : List B} {s s' : SupN.Sb} {dat all : List B} {key key' : List UInt8} (h : Hold n bl s dat key) (hm : SupN.may s') (hg : s'.g = s.g + 1) (hb : s'.b = s.b) (hk : key'.length = 32)
    (hkey : bl[2 + (s'.e % 2).toNat]? = some (bb (SloN.blk s'.e key'))) (hl : (all.length : Int) = s'.t) (ha : ∀ i, i < all.length → bl[4 + i]? = all[i]?) : Hold n (bl.set (s'.g % 2).toNat (bb (SupN.blk s'))) s' all key' := by
  have hs := h.may.2.1
  have hn : 8 ≤ n := by
    have h1 := h.b
    have h2 := h.may.1
    unfold GeoN.right at h2
    omega
  have hlen := h.len
  have hp : (s'.g % 2).toNat < 2 := by omega
  refine ⟨by rw [List.length_set]; exact h.len, fun x hx => ?_, hm, by rw [hb]; exact h.b, List.getElem?_set_self (by omega), ⟨bb (SupN.blk s), ?_, fun _ => ?_⟩, hk, ?_, hl, fun i hi => ?_⟩
  · rcases List.mem_or_eq_of_mem_set hx with h' | rfl
    · exact h.full x h'
    · rw [bb_size]; exact SupN.blk_len _
  · rw [List.getElem?_set_ne (by omega), show ((s'.g + 1) % 2).toNat = (s.g % 2).toNat by omega]
    exact h.own
  · rw [lb_bb, SupN.rd_blk h.may]; omega
  · rw [List.getElem?_set_ne (by omega)]; exact hkey
  · rw [List.getElem?_set_ne (by omega)]; exact ha i hi
/-- An open journal on its disk; what was appended. -/
structure Inv (n : Nat) (D : Dk) (j : Jo) (all : List B) (key : List UInt8) : Prop where
  up : D.down = false
  hold : Hold n D.bl j.last (all.take j.last.t.toNat) key
  whole : j.broken = false
  used : j.used = all.length
  most : all.length + 4 ≤ n
  ca : ∀ x ∈ D.ca, x.2.size = 4096 ∧ 4 + j.last.t.toNat ≤ x.1 ∧ x.1 < 4 + all.length
  few : D.ca.length + j.last.t.toNat ≤ all.length
  sees : ∀ i, i < all.length → ∃ b, D.bl[4 + i]? = some b ∧ all[i]? = some (DkN.seen (4 + i) D.ca b)
section
variable {n : Nat} {D : Dk} {j : Jo} {all : List B} {key : List UInt8}
theorem Inv.size (h : Inv n D j all key) : 8 ≤ n ∧ n ≤ 1024 := by
  have h1 := h.hold.b
  have h2 := h.hold.may.1
  unfold GeoN.right at h2
  omega
theorem Inv.t (h : Inv n D j all key) : 0 ≤ j.last.t ∧ j.last.t.toNat ≤ all.length := ⟨h.hold.may.2.2.1.1, by have := h.few; omega⟩
theorem Inv.own (h : Inv n D j all key) : ∀ x ∈ D.ca, ¬ Own j.last x.1 := fun x hx => by
  have := (h.ca x hx).2
  unfold Own
  omega
/-- A crash, as nothing is on its way. -/
theorem Inv.safe (h : Inv n D j all key) : Sure (im D) fun bl => Hold n bl j.last (all.take j.last.t.toNat) key := fun keep => h.hold.kset (fun x hx => (h.ca x hx).1) h.own keep 0
/-- All of the cache on the blocks. -/
def flat (m : Im) : List B := kset (fun _ => true) 0 m.2 m.1
theorem Inv.flat_hold (h : Inv n D j all key) : Hold n (flat (im D)) j.last (all.take j.last.t.toNat) key := h.safe fun _ => true
theorem Inv.flat_at (h : Inv n D j all key) (i : Nat) (hi : i < all.length) : (flat (im D))[4 + i]? = all[i]? := by
  obtain ⟨b, h1, h2⟩ := h.sees i hi
  obtain ⟨hlt, hb⟩ := List.getElem?_eq_some_iff.1 h1
  rw [h2, ← hb]
  exact kset_at 0 D.ca D.bl (4 + i) hlt
end
theorem flat_snoc (m : Im) (i : Nat) (s : B) : flat (m.1, m.2 ++ [(i, s)]) = (flat m).set i s := by
  unfold flat
  rw [kset_snoc, if_pos rfl]
/-- An append. -/
theorem append {n : Nat} {D : Dk} {j : Jo} {all : List B} {key : List UInt8} (h : Inv n D j all key) {s : B} (hs : s.size = 4096) (hr : all.length + 4 < n) :
    ((run D [.wr (4 + j.used) s]).1 = 0 ∧ Inv n (run D [.wr (4 + j.used) s]).2 { j with used := j.used + 1 } (all ++ [s]) key) ∨
    ((run D [.wr (4 + j.used) s]).1 = 14 ∧ (run D [.wr (4 + j.used) s]).2.down = true ∧ Sure (im (run D [.wr (4 + j.used) s]).2) fun bl => Hold n bl j.last (all.take j.last.t.toNat) key) := by
  have hn := h.size
  have hu := h.used
  have ht := h.t
  have hlen := h.hold.len
  have hf := h.few
  have fit : ∀ a ∈ [Ac.wr (4 + j.used) s], fitA D.bl.length a := fun a ha => by
    rw [List.mem_singleton.1 ha]
    exact ⟨by omega, hs⟩
  rcases run_im h.up fit (by simp; omega) with ⟨h1, h2, h3⟩ | ⟨h1, h2, k, h3, h4⟩
  · refine .inl ⟨h1, ?_⟩
    have e1 : (run D [.wr (4 + j.used) s]).2.bl = D.bl := congrArg Prod.fst h3
    have e2 : (run D [.wr (4 + j.used) s]).2.ca = D.ca ++ [(4 + j.used, s)] := congrArg Prod.snd h3
    have etake : (all ++ [s]).take j.last.t.toNat = all.take j.last.t.toNat := by rw [List.take_append_of_le_length ht.2]
    refine ⟨h2, by rw [e1]; show Hold n D.bl j.last ((all ++ [s]).take j.last.t.toNat) key; rw [etake]; exact h.hold, h.whole, by show j.used + 1 = _; simp [hu], by simp; omega, fun x hx => ?_, ?_, fun i hi => ?_⟩
    · rw [e2] at hx
      rcases List.mem_append.1 hx with hx | hx
      · have := h.ca x hx
        exact ⟨this.1, this.2.1, by simp; omega⟩
      · rw [List.mem_singleton.1 hx]
        exact ⟨hs, by show 4 + j.last.t.toNat ≤ 4 + j.used; omega, by show 4 + j.used < _; simp; omega⟩
    · rw [e2]
      show (D.ca ++ [(4 + j.used, s)]).length + j.last.t.toNat ≤ (all ++ [s]).length
      simp
      omega
    · rw [e1, e2]
      by_cases hi2 : i < all.length
      · obtain ⟨b, q1, q2⟩ := h.sees i hi2
        refine ⟨b, q1, ?_⟩
        rw [seen_snoc, if_neg (by show ¬ 4 + j.used = 4 + i; omega), List.getElem?_append_left hi2]
        exact q2
      · have hi3 : i = all.length := by simp at hi; omega
        have hlt : 4 + i < D.bl.length := by omega
        refine ⟨D.bl[4 + i], List.getElem?_eq_getElem hlt, ?_⟩
        rw [seen_snoc, if_pos (by show 4 + j.used = 4 + i; omega), hi3]
        simp
  · refine .inr ⟨h1, h2, ?_⟩
    have hk : k = 0 := by simp at h3; omega
    subst hk
    rw [h4]
    exact h.safe
/-- A flush. -/
theorem flush {n : Nat} {D : Dk} {j : Jo} {all : List B} {key : List UInt8} (h : Inv n D j all key) :
    ((run D [.fl]).1 = 0 ∧ Inv n (run D [.fl]).2 j all key ∧ (run D [.fl]).2.ca = []) ∨
    ((run D [.fl]).1 = 14 ∧ (run D [.fl]).2.down = true ∧ Sure (im (run D [.fl]).2) fun bl => Hold n bl j.last (all.take j.last.t.toNat) key) := by
  have hn := h.size
  have hf := h.few
  have hm := h.most
  rcases run_im h.up (l := [.fl]) (fun a ha => by rw [List.mem_singleton.1 ha]; trivial) (by simp; omega) with ⟨h1, h2, h3⟩ | ⟨h1, h2, k, h3, h4⟩
  · have e1 : (run D [.fl]).2.bl = flat (im D) := congrArg Prod.fst h3
    have e2 : (run D [.fl]).2.ca = [] := congrArg Prod.snd h3
    refine .inl ⟨h1, ⟨h2, by rw [e1]; exact h.flat_hold, h.whole, h.used, h.most, by rw [e2]; simp, by rw [e2]; show 0 + j.last.t.toNat ≤ all.length; have := h.t.2; omega, fun i hi => ?_⟩, e2⟩
    rw [e1, e2]
    exact ⟨all[i], by rw [h.flat_at i hi]; exact List.getElem?_eq_getElem hi, List.getElem?_eq_getElem hi⟩
  · refine .inr ⟨h1, h2, ?_⟩
    have hk : k = 0 := by simp at h3; omega
    subst hk
    rw [h4]
    exact h.safe
/-- The next superblock. -/
def nxt (j : Jo) (used : Nat) (ep ck : Int) : SupN.Sb := ⟨j.last.g + 1, used, ep, ck, j.last.b, j.last.l, j.last.f⟩
def commitL (j : Jo) (ck : Int) : List Ac := [.fl, .wr ((j.last.g + 1) % 2).toNat (bb (SupN.blk (nxt j j.used j.last.e ck))), .fl]
theorem may_nxt {n : Nat} {D : Dk} {j : Jo} {all : List B} {key : List UInt8} (h : Inv n D j all key) {used : Nat} (hu : used + 4 ≤ n) {ep ck : Int} (he : j.last.e ≤ ep ∧ ep ≤ 4294967295) (hc : j.last.k ≤ ck ∧ ck ≤ 1099511627776) (hg : j.last.g ≠ 1152921504606846976) : SupN.may (nxt j used ep ck) := by
  obtain ⟨q1, q2, q3, q4, q5⟩ := h.hold.may
  have hb := h.hold.b
  exact ⟨q1, by show 1 ≤ j.last.g + 1 ∧ j.last.g + 1 ≤ _; omega, by show 0 ≤ (used : Int) ∧ (used : Int) ≤ j.last.b - 4; omega, by show j.last.f ≤ ep ∧ ep ≤ _; omega, by show 0 ≤ ck ∧ ck ≤ _; omega⟩
/-- A superblock amid the cache, alone. -/
theorem one_keep (keep : Nat → Bool) (bl : List B) (i : Nat) (s : B) : kset keep 0 [(i, s)] bl = if keep 0 = true then bl.set i s else bl := by
  unfold kset
  rfl
/-- A commit. -/
theorem commit {n : Nat} {D : Dk} {j : Jo} {all : List B} {key : List UInt8} (h : Inv n D j all key) {ck : Int} (hc : j.last.k ≤ ck ∧ ck ≤ 1099511627776) (hg : j.last.g ≠ 1152921504606846976) :
    ((run D (commitL j ck)).1 = 0 ∧ Inv n (run D (commitL j ck)).2 { j with last := nxt j j.used j.last.e ck } all key ∧ (run D (commitL j ck)).2.ca = []) ∨
    ((run D (commitL j ck)).1 = 14 ∧ (run D (commitL j ck)).2.down = true ∧ Sure (im (run D (commitL j ck)).2) fun bl => Hold n bl j.last (all.take j.last.t.toNat) key ∨ Hold n bl (nxt j j.used j.last.e ck) all key) := by
  have hn := h.size
  have hu := h.used
  have hf := h.few
  have hm := h.most
  have hlen := h.hold.len
  have hq := h.hold.may.2.1
  have he := h.hold.may.2.2.2.1
  have mn := may_nxt h (used := j.used) (by omega) (ep := j.last.e) ⟨Int.le_refl _, he.2⟩ hc hg
  have hH := h.flat_hold
  have hN : Hold n ((flat (im D)).set ((j.last.g + 1) % 2).toNat (bb (SupN.blk (nxt j j.used j.last.e ck)))) (nxt j j.used j.last.e ck) all key :=
    Hold.next hH mn rfl rfl hH.klen hH.key (by show (all.length : Int) = (j.used : Int); omega) h.flat_at
  have fit : ∀ a ∈ commitL j ck, fitA D.bl.length a := fun a ha => by
    simp only [commitL, List.mem_cons, List.not_mem_nil, or_false] at ha
    rcases ha with rfl | rfl | rfl
    · trivial
    · exact ⟨by omega, by rw [bb_size]; exact SupN.blk_len _⟩
    · trivial
  rcases run_im h.up fit (by show D.ca.length + 3 ≤ 4096; omega) with ⟨h1, h2, h3⟩ | ⟨h1, h2, k, h3, h4⟩
  · have e1 : (run D (commitL j ck)).2.bl = (flat (im D)).set ((j.last.g + 1) % 2).toNat (bb (SupN.blk (nxt j j.used j.last.e ck))) := congrArg Prod.fst h3
    have e2 : (run D (commitL j ck)).2.ca = [] := congrArg Prod.snd h3
    have etake : all.take (nxt j j.used j.last.e ck).t.toNat = all := by
      show all.take ((j.used : Int).toNat) = all
      rw [List.take_of_length_le (by omega)]
    refine .inl ⟨h1, ⟨h2, ?_, h.whole, h.used, h.most, by rw [e2]; simp, ?_, fun i hi => ?_⟩, e2⟩
    · rw [e1]
      show Hold n _ (nxt j j.used j.last.e ck) (all.take (nxt j j.used j.last.e ck).t.toNat) key
      rw [etake]
      exact hN
    · rw [e2]
      show 0 + ((j.used : Int).toNat) ≤ all.length
      omega
    · rw [e1, e2]
      exact ⟨all[i], by rw [hN.dat i hi]; exact List.getElem?_eq_getElem hi, List.getElem?_eq_getElem hi⟩
  · refine .inr ⟨h1, h2, ?_⟩
    rw [h4]
    match k, h3 with
    | 0, _ => exact fun keep => .inl (h.safe keep)
    | 1, _ => exact fun keep => .inl hH
    | 2, _ =>
      intro keep
      show Hold n (kset keep 0 [(((j.last.g + 1) % 2).toNat, bb (SupN.blk (nxt j j.used j.last.e ck)))] (flat (im D))) _ _ _ ∨ Hold n (kset keep 0 [(((j.last.g + 1) % 2).toNat, bb (SupN.blk (nxt j j.used j.last.e ck)))] (flat (im D))) _ _ _
      rw [one_keep]
      by_cases hk : keep 0 = true
      · rw [if_pos hk]; exact .inr hN
      · rw [if_neg hk]; exact .inl hH
    | k + 3, h3 => exact absurd h3 (by show ¬ k + 3 < 3; omega)
/-- A closing: the block, the next key, a flush; the next superblock, a flush; the key ahead is wiped, a flush. -/
def closeL (j : Jo) (s : B) (next : List UInt8) (ck : Int) : List Ac :=
  [.wr (4 + j.used) s, .wr (2 + ((j.last.e + 1) % 2).toNat) (bb (SloN.blk (j.last.e + 1) next)), .fl, .wr ((j.last.g + 1) % 2).toNat (bb (SupN.blk (nxt j (j.used + 1) (j.last.e + 1) ck))), .fl, .wr (2 + (j.last.e % 2).toNat) (nou 4096), .fl]
theorem close {n : Nat} {D : Dk} {j : Jo} {all : List B} {key : List UInt8} (h : Inv n D j all key) {s : B} (hs : s.size = 4096) {next : List UInt8} (hk : next.length = 32) (hr : all.length + 4 < n) {ck : Int} (hc : j.last.k ≤ ck ∧ ck ≤ 1099511627776) (hg : j.last.g ≠ 1152921504606846976) (hep : j.last.e ≠ 4294967295) :
    ((run D (closeL j s next ck)).1 = 0 ∧ Inv n (run D (closeL j s next ck)).2 ⟨nxt j (j.used + 1) (j.last.e + 1) ck, j.used + 1, false⟩ (all ++ [s]) next ∧ (run D (closeL j s next ck)).2.ca = [] ∧ (run D (closeL j s next ck)).2.bl[2 + (j.last.e % 2).toNat]? = some (nou 4096)) ∨
    ((run D (closeL j s next ck)).1 = 14 ∧ (run D (closeL j s next ck)).2.down = true ∧ Sure (im (run D (closeL j s next ck)).2) fun bl => Hold n bl j.last (all.take j.last.t.toNat) key ∨ Hold n bl (nxt j (j.used + 1) (j.last.e + 1) ck) (all ++ [s]) next) := by
  have hn := h.size
  have hu := h.used
  have ht := h.t
  have hf := h.few
  have hm := h.most
  have hlen := h.hold.len
  have hq := h.hold.may.2.1
  have he := h.hold.may.2.2.2.1
  have hee := h.hold.ep
  have he0 : 0 ≤ j.last.e := hee.1
  have mn := may_nxt h (used := j.used + 1) (by omega) (ep := j.last.e + 1) (by omega) hc hg
  have hks : (bb (SloN.blk (j.last.e + 1) next)).size = 4096 := by rw [bb_size]; exact SloN.blk_len _ hk
  have hss : (bb (SupN.blk (nxt j (j.used + 1) (j.last.e + 1) ck))).size = 4096 := by rw [bb_size]; exact SupN.blk_len _
  -- what is held behind the first writes, whatever is kept
  have ca1 : ∀ x ∈ D.ca ++ [(4 + j.used, s)], x.2.size = 4096 ∧ ¬ Own j.last x.1 := fun x hx => by
    rcases List.mem_append.1 hx with hx | hx
    · exact ⟨(h.ca x hx).1, h.own x hx⟩
    · rw [List.mem_singleton.1 hx]
      exact ⟨hs, by show ¬ Own j.last (4 + j.used); unfold Own; omega⟩
  have ca2 : ∀ x ∈ (D.ca ++ [(4 + j.used, s)]) ++ [(2 + ((j.last.e + 1) % 2).toNat, bb (SloN.blk (j.last.e + 1) next))], x.2.size = 4096 ∧ ¬ Own j.last x.1 := fun x hx => by
    rcases List.mem_append.1 hx with hx | hx
    · exact ca1 x hx
    · rw [List.mem_singleton.1 hx]
      exact ⟨hks, by show ¬ Own j.last (2 + ((j.last.e + 1) % 2).toNat); unfold Own; omega⟩
  have S1 : ∀ keep, Hold n (kset keep 0 (D.ca ++ [(4 + j.used, s)]) D.bl) j.last (all.take j.last.t.toNat) key := fun keep => h.hold.kset (fun x hx => (ca1 x hx).1) (fun x hx => (ca1 x hx).2) keep 0
  have S2 : ∀ keep, Hold n (kset keep 0 ((D.ca ++ [(4 + j.used, s)]) ++ [(2 + ((j.last.e + 1) % 2).toNat, bb (SloN.blk (j.last.e + 1) next))]) D.bl) j.last (all.take j.last.t.toNat) key := fun keep => h.hold.kset (fun x hx => (ca2 x hx).1) (fun x hx => (ca2 x hx).2) keep 0
  obtain ⟨b3, hb3⟩ : ∃ b3, b3 = kset (fun _ => true) 0 ((D.ca ++ [(4 + j.used, s)]) ++ [(2 + ((j.last.e + 1) % 2).toNat, bb (SloN.blk (j.last.e + 1) next))]) D.bl := ⟨_, rfl⟩
  have H3 : Hold n b3 j.last (all.take j.last.t.toNat) key := by rw [hb3]; exact S2 _
  have fl1 : flat (im D) = kset (fun _ => true) 0 D.ca D.bl := rfl
  have e3 : b3 = ((flat (im D)).set (4 + j.used) s).set (2 + ((j.last.e + 1) % 2).toNat) (bb (SloN.blk (j.last.e + 1) next)) := by
    rw [hb3, kset_snoc, if_pos rfl, kset_snoc, if_pos rfl]
    rfl
  have hfl : (flat (im D)).length = n := h.flat_hold.len
  have at3 : ∀ i, i < (all ++ [s]).length → b3[4 + i]? = (all ++ [s])[i]? := fun i hi => by
    rw [e3, List.getElem?_set_ne (by omega)]
    by_cases hi2 : i < all.length
    · rw [List.getElem?_set_ne (by omega), List.getElem?_append_left hi2]
      exact h.flat_at i hi2
    · have hi3 : i = all.length := by simp at hi; omega
      rw [hi3, ← hu, List.getElem?_set_self (by omega)]
      simp [hu]
  have key3 : b3[2 + ((j.last.e + 1) % 2).toNat]? = some (bb (SloN.blk (j.last.e + 1) next)) := by
    rw [e3]
    exact List.getElem?_set_self (by rw [List.length_set]; omega)
  have H5 : Hold n (b3.set ((j.last.g + 1) % 2).toNat (bb (SupN.blk (nxt j (j.used + 1) (j.last.e + 1) ck)))) (nxt j (j.used + 1) (j.last.e + 1) ck) (all ++ [s]) next :=
    Hold.next H3 mn rfl rfl hk key3 (by show ((all ++ [s]).length : Int) = ((j.used + 1 : Nat) : Int); simp [hu]) at3
  obtain ⟨b5, hb5⟩ : ∃ b5, b5 = b3.set ((j.last.g + 1) % 2).toNat (bb (SupN.blk (nxt j (j.used + 1) (j.last.e + 1) ck))) := ⟨_, rfl⟩
  rw [← hb5] at H5
  have S6 : ∀ keep, Hold n (kset keep 0 [(2 + (j.last.e % 2).toNat, nou 4096)] b5) (nxt j (j.used + 1) (j.last.e + 1) ck) (all ++ [s]) next := fun keep =>
    H5.kset (fun x hx => by rw [List.mem_singleton.1 hx]; exact nou_size _) (fun x hx => by
      rw [List.mem_singleton.1 hx]
      show ¬ Own _ (2 + (j.last.e % 2).toNat)
      unfold Own
      show ¬ (_ ∨ _ ∨ 2 + (j.last.e % 2).toNat = 2 + ((j.last.e + 1) % 2).toNat ∨ _)
      omega) keep 0
  have fit : ∀ a ∈ closeL j s next ck, fitA D.bl.length a := fun a ha => by
    simp only [closeL, List.mem_cons, List.not_mem_nil, or_false] at ha
    rcases ha with rfl | rfl | rfl | rfl | rfl | rfl | rfl
    · exact ⟨by omega, hs⟩
    · exact ⟨by omega, hks⟩
    · trivial
    · exact ⟨by omega, hss⟩
    · trivial
    · exact ⟨by omega, nou_size _⟩
    · trivial
  have E3 : effA (effA (effA (im D) (.wr (4 + j.used) s)) (.wr (2 + ((j.last.e + 1) % 2).toNat) (bb (SloN.blk (j.last.e + 1) next)))) .fl = (b3, []) := by rw [hb3]; rfl
  have E5 : effA (effA (b3, []) (.wr ((j.last.g + 1) % 2).toNat (bb (SupN.blk (nxt j (j.used + 1) (j.last.e + 1) ck))))) .fl = (b5, []) := by rw [hb5]; rfl
  rcases run_im h.up fit (by show D.ca.length + 7 ≤ 4096; omega) with ⟨h1, h2, h3⟩ | ⟨h1, h2, k, h3, h4⟩
  · have h3' : im (run D (closeL j s next ck)).2 = effA (effA (b5, []) (.wr (2 + (j.last.e % 2).toNat) (nou 4096))) .fl := by
      rw [h3, ← E5, ← E3]; rfl
    have e1 : (run D (closeL j s next ck)).2.bl = kset (fun _ => true) 0 [(2 + (j.last.e % 2).toNat, nou 4096)] b5 := congrArg Prod.fst h3'
    have e2 : (run D (closeL j s next ck)).2.ca = [] := congrArg Prod.snd h3'
    have H7 := S6 fun _ => true
    have etake : (all ++ [s]).take (nxt j (j.used + 1) (j.last.e + 1) ck).t.toNat = all ++ [s] := by
      show (all ++ [s]).take (((j.used + 1 : Nat) : Int).toNat) = all ++ [s]
      rw [List.take_of_length_le (by simp; omega)]
    refine .inl ⟨h1, ⟨h2, ?_, rfl, by show j.used + 1 = _; simp [hu], by simp; omega, by rw [e2]; simp, ?_, fun i hi => ?_⟩, e2, ?_⟩
    · rw [e1]
      show Hold n _ (nxt j (j.used + 1) (j.last.e + 1) ck) ((all ++ [s]).take (nxt j (j.used + 1) (j.last.e + 1) ck).t.toNat) next
      rw [etake]
      exact H7
    · rw [e2]
      show 0 + (((j.used + 1 : Nat) : Int).toNat) ≤ (all ++ [s]).length
      simp
      omega
    · rw [e1, e2]
      exact ⟨(all ++ [s])[i], by rw [H7.dat i hi]; exact List.getElem?_eq_getElem hi, List.getElem?_eq_getElem hi⟩
    · rw [e1, one_keep, if_pos rfl]
      exact List.getElem?_set_self (by have := H5.len; omega)
  · refine .inr ⟨h1, h2, ?_⟩
    rw [h4]
    match k, h3 with
    | 0, _ => exact fun keep => .inl (h.safe keep)
    | 1, _ => exact fun keep => .inl (S1 keep)
    | 2, _ => exact fun keep => .inl (S2 keep)
    | 3, _ =>
      show Sure (effA (effA (effA (im D) _) _) .fl) _
      rw [E3]
      exact fun keep => .inl H3
    | 4, _ =>
      rw [show eff (im D) ((closeL j s next ck).take 4) = effA (b3, []) (.wr ((j.last.g + 1) % 2).toNat (bb (SupN.blk (nxt j (j.used + 1) (j.last.e + 1) ck)))) by rw [← E3]; rfl]
      intro keep
      show Hold n (kset keep 0 [(((j.last.g + 1) % 2).toNat, bb (SupN.blk (nxt j (j.used + 1) (j.last.e + 1) ck)))] b3) _ _ _ ∨ Hold n (kset keep 0 [(((j.last.g + 1) % 2).toNat, bb (SupN.blk (nxt j (j.used + 1) (j.last.e + 1) ck)))] b3) _ _ _
      rw [one_keep, ← hb5]
      by_cases hk : keep 0 = true
      · rw [if_pos hk]; exact .inr H5
      · rw [if_neg hk]; exact .inl H3
    | 5, _ =>
      show Sure (effA (effA (effA (effA (effA (im D) _) _) .fl) _) .fl) _
      rw [E3, E5]
      exact fun keep => .inr H5
    | 6, _ =>
      rw [show eff (im D) ((closeL j s next ck).take 6) = effA (b5, []) (.wr (2 + (j.last.e % 2).toNat) (nou 4096)) by rw [← E5, ← E3]; rfl]
      exact fun keep => .inr (S6 keep)
    | k + 7, h3 => exact absurd h3 (by show ¬ k + 7 < 7; omega)
end Go.Proofs.YtoilcieineejiaaGreatDoor.JouP
/- Plain mathematics: a journal is opened: what is put right, and what is held behind a crash amid it; a disk is formatted. No program is reached here; no conditions but those that each lemma names. -/
namespace Go.Proofs.YtoilcieineejiaaGreatDoor.JouQ
set_option linter.unusedVariables false
open DkN JouN JouP
/-- What place i shows, the cache being empty. -/
def at_ (bl : List B) (i : Nat) : B := bl.getD i ByteArray.empty
theorem at_some {bl : List B} {i : Nat} (h : i < bl.length) : bl[i]? = some (at_ bl i) := by
  unfold at_
  rw [List.getD_eq_getElem?_getD, List.getElem?_eq_getElem h]
  rfl
/-- The places that are to be wiped, rising. -/
def wipeK (bl : List B) (s : SupN.Sb) : List Nat := (SloN.stale (lb (at_ bl 2)) (lb (at_ bl 3)) s.e).map fun i => (2 + i).toNat
def wipeD (bl : List B) (s : SupN.Sb) : List Nat := (List.range bl.length).filter fun i => decide (4 + s.t.toNat ≤ i ∧ at_ bl i ≠ nou 4096)
def wipes (bl : List B) (s : SupN.Sb) : List Nat := wipeK bl s ++ wipeD bl s
def openL (bl : List B) (s : SupN.Sb) : List Ac := (wipes bl s).map (fun i => Ac.wr i (nou 4096)) ++ if wipes bl s = [] then [] else [.fl]
theorem empty_nou : bb SloN.empty = nou 4096 := rfl
theorem lb_nou : lb (nou 4096) = SloN.empty := by rw [← empty_nou, lb_bb]
theorem lb_empty {b : B} : lb b = SloN.empty ↔ b = nou 4096 := ⟨fun h => by rw [← bb_lb b, h]; rfl, fun h => by rw [h]; exact lb_nou⟩
theorem mem_wipeK {bl : List B} {s : SupN.Sb} (he : SloN.may s.e) {i : Nat} : i ∈ wipeK bl s ↔ (i = 2 + ((s.e + 1) % 2).toNat ∧ at_ bl i ≠ nou 4096) := by
  unfold wipeK
  have h0 := he.1
  by_cases ho : s.e % 2 = 1
  · rw [SloN.stale_odd he ho, show 2 + ((s.e + 1) % 2).toNat = 2 by omega]
    by_cases hq : lb (at_ bl 2) = SloN.empty
    · rw [if_pos hq]
      simp only [List.map_nil, List.not_mem_nil, false_iff, not_and, ne_eq, Decidable.not_not]
      rintro rfl
      exact lb_empty.1 hq
    · rw [if_neg hq]
      simp only [List.map_cons, List.map_nil, List.mem_singleton]
      constructor
      · rintro rfl; exact ⟨rfl, fun e => hq (lb_empty.2 e)⟩
      · rintro ⟨rfl, _⟩; rfl
  · rw [SloN.stale_even he ho, show 2 + ((s.e + 1) % 2).toNat = 3 by omega]
    by_cases hq : lb (at_ bl 3) = SloN.empty
    · rw [if_pos hq]
      simp only [List.map_nil, List.not_mem_nil, false_iff, not_and, ne_eq, Decidable.not_not]
      rintro rfl
      exact lb_empty.1 hq
    · rw [if_neg hq]
      simp only [List.map_cons, List.map_nil, List.mem_singleton]
      constructor
      · rintro rfl; exact ⟨rfl, fun e => hq (lb_empty.2 e)⟩
      · rintro ⟨rfl, _⟩; rfl
theorem mem_wipeD {bl : List B} {s : SupN.Sb} {i : Nat} : i ∈ wipeD bl s ↔ (i < bl.length ∧ 4 + s.t.toNat ≤ i ∧ at_ bl i ≠ nou 4096) := by
  unfold wipeD
  rw [List.mem_filter, List.mem_range, decide_eq_true_iff]
section
variable {n : Nat} {bl : List B} {s : SupN.Sb} {dat : List B} {key : List UInt8}
/-- What is to be wiped: just what is not the state's own, and shows something. -/
theorem mem_wipes (h : Hold n bl s dat key) (hn : 8 ≤ n) {i : Nat} : i ∈ wipes bl s ↔ (i < n ∧ ¬ Own s i ∧ at_ bl i ≠ nou 4096) := by
  have he := h.ep
  have h0 := he.1
  unfold wipes
  rw [List.mem_append, mem_wipeK he, mem_wipeD, h.len]
  unfold Own
  constructor
  · rintro (⟨h1, h2⟩ | ⟨h1, h2, h3⟩)
    · exact ⟨by omega, by omega, h2⟩
    · exact ⟨h1, by omega, h3⟩
  · rintro ⟨h1, h2, h3⟩
    by_cases h4 : i < 4
    · exact .inl ⟨by omega, h3⟩
    · exact .inr ⟨h1, by omega, h3⟩
theorem wipes_len (h : Hold n bl s dat key) : (wipes bl s).length ≤ n + 1 := by
  unfold wipes wipeK wipeD
  rw [List.length_append, List.length_map]
  have h1 := SloN.stale_len (lb (at_ bl 2)) (lb (at_ bl 3)) s.e
  have h2 := List.length_filter_le (fun i => decide (4 + s.t.toNat ≤ i ∧ at_ bl i ≠ nou 4096)) (List.range bl.length)
  rw [List.length_range, h.len] at h2
  rw [h.len]
  omega
end
theorem eff_wr (m : Im) (l : List Nat) : eff m (l.map fun i => Ac.wr i (nou 4096)) = (m.1, m.2 ++ l.map fun i => (i, nou 4096)) := by
  induction l generalizing m with
  | nil => simp [eff]
  | cons i l ih =>
    rw [List.map_cons, eff_cons, ih]
    simp [effA]
theorem eff_app (m : Im) (l k : List Ac) : eff m (l ++ k) = eff (eff m l) k := by unfold eff; rw [List.foldl_append]
theorem seen_nou (i : Nat) (l : List Nat) (x : B) : DkN.seen i (l.map fun k => (k, nou 4096)) x = if i ∈ l then nou 4096 else x := by
  induction l generalizing x with
  | nil => rfl
  | cons k l ih =>
    rw [List.map_cons, DkN.seen, ih]
    by_cases h1 : i ∈ l
    · rw [if_pos h1, if_pos (List.mem_cons_of_mem _ h1)]
    · rw [if_neg h1]
      by_cases h2 : k = i
      · rw [if_pos h2, if_pos (by rw [h2]; exact List.mem_cons_self ..)]
      · rw [if_neg h2, if_neg (fun hh => by
          rcases List.mem_cons.1 hh with e | e
          · exact h2 e.symm
          · exact h1 e)]
/-- A journal is opened. -/
theorem opened {n : Nat} {D : Dk} {s : SupN.Sb} {dat : List B} {key : List UInt8} (hd : D.down = false) (hca : D.ca = []) (h : Hold n D.bl s dat key) (hn : 8 ≤ n ∧ n ≤ 1024) :
    ((run D (openL D.bl s)).1 = 0 ∧ Inv n (run D (openL D.bl s)).2 ⟨s, s.t.toNat, false⟩ dat key ∧ (run D (openL D.bl s)).2.ca = [] ∧ wipes (run D (openL D.bl s)).2.bl s = []) ∨
    ((run D (openL D.bl s)).1 = 14 ∧ (run D (openL D.bl s)).2.down = true ∧ Sure (im (run D (openL D.bl s)).2) fun bl => Hold n bl s dat key) := by
  have hw := wipes_len h
  have hmem := fun i => (mem_wipes h hn.1 (i := i)).1
  have ht := h.dlen
  have h0 := h.may.2.2.1
  have hb := h.b
  have him : im D = (D.bl, []) := by unfold im; rw [hca]
  have away : ∀ l : List Nat, (∀ i ∈ l, i ∈ wipes D.bl s) → ∀ keep k, Hold n (kset keep k (l.map fun i => (i, nou 4096)) D.bl) s dat key := fun l hl keep k => by
    refine h.kset (fun x hx => ?_) (fun x hx => ?_) keep k
    · obtain ⟨i, _, rfl⟩ := List.mem_map.1 hx; exact nou_size _
    · obtain ⟨i, hi, rfl⟩ := List.mem_map.1 hx; exact (hmem i (hl i hi)).2.1
  have fit : ∀ a ∈ openL D.bl s, fitA D.bl.length a := fun a ha => by
    unfold openL at ha
    rcases List.mem_append.1 ha with ha | ha
    · obtain ⟨i, hi, rfl⟩ := List.mem_map.1 ha
      exact ⟨by rw [h.len]; exact (hmem i hi).1, nou_size _⟩
    · split at ha
      · simp at ha
      · rw [List.mem_singleton.1 ha]; trivial
  have hlen : (openL D.bl s).length ≤ n + 2 := by
    unfold openL
    rw [List.length_append, List.length_map]
    split
    · simp; omega
    · simp; omega
  -- the blocks behind all of it
  have Eall : eff (im D) (openL D.bl s) = (kset (fun _ => true) 0 ((wipes D.bl s).map fun i => (i, nou 4096)) D.bl, []) := by
    unfold openL
    rw [eff_app, eff_wr, him]
    by_cases hq : wipes D.bl s = []
    · rw [if_pos hq, hq]; rfl
    · rw [if_neg hq]; simp [eff, effA]
  obtain ⟨b', hb'⟩ : ∃ b', b' = kset (fun _ => true) 0 ((wipes D.bl s).map fun i => (i, nou 4096)) D.bl := ⟨_, rfl⟩
  rw [← hb'] at Eall
  have H' : Hold n b' s dat key := by rw [hb']; exact away _ (fun i hi => hi) _ _
  have at' : ∀ i, i < n → at_ b' i = if i ∈ wipes D.bl s then nou 4096 else at_ D.bl i := fun i hi => by
    have e1 : b'[i]? = some (DkN.seen i ((wipes D.bl s).map fun k => (k, nou 4096)) (D.bl[i]'(by rw [h.len]; exact hi))) := by rw [hb']; exact kset_at 0 _ D.bl i (by rw [h.len]; exact hi)
    have e2 := at_some (bl := b') (i := i) (by rw [H'.len]; exact hi)
    have e3 := at_some (bl := D.bl) (i := i) (by rw [h.len]; exact hi)
    rw [e1] at e2
    rw [List.getElem?_eq_getElem (by rw [h.len]; exact hi)] at e3
    rw [← Option.some.inj e2, seen_nou, Option.some.inj e3]
  rcases run_im hd fit (by rw [hca]; show 0 + _ ≤ _; omega) with ⟨h1, h2, h3⟩ | ⟨h1, h2, k, h3, h4⟩
  · rw [Eall] at h3
    have e1 : (run D (openL D.bl s)).2.bl = b' := congrArg Prod.fst h3
    have e2 : (run D (openL D.bl s)).2.ca = [] := congrArg Prod.snd h3
    have hdl : s.t.toNat = dat.length := by omega
    refine .inl ⟨h1, ⟨h2, ?_, rfl, hdl, by omega, by rw [e2]; simp, by rw [e2]; show 0 + s.t.toNat ≤ _; omega, fun i hi => ?_⟩, e2, ?_⟩
    · rw [e1]
      show Hold n b' s (dat.take s.t.toNat) key
      rw [List.take_of_length_le (by omega)]
      exact H'
    · rw [e1, e2]
      exact ⟨dat[i], by rw [H'.dat i hi]; exact List.getElem?_eq_getElem hi, List.getElem?_eq_getElem hi⟩
    · rw [e1]
      apply List.eq_nil_iff_forall_not_mem.2
      intro i hi
      obtain ⟨q1, q2, q3⟩ := (mem_wipes H' hn.1).1 hi
      rw [at' i q1] at q3
      by_cases hq : i ∈ wipes D.bl s
      · rw [if_pos hq] at q3; exact q3 rfl
      · rw [if_neg hq] at q3
        exact hq ((mem_wipes h hn.1).2 ⟨q1, q2, q3⟩)
  · refine .inr ⟨h1, h2, ?_⟩
    rw [h4]
    have hkl : k ≤ ((wipes D.bl s).map fun i => Ac.wr i (nou 4096)).length := by
      unfold openL at h3
      rw [List.length_append] at h3
      split at h3
      · simp at h3 ⊢; omega
      · simp at h3 ⊢; omega
    have et : (openL D.bl s).take k = ((wipes D.bl s).take k).map fun i => Ac.wr i (nou 4096) := by
      unfold openL
      rw [List.take_append_of_le_length hkl, List.map_take]
    rw [et, eff_wr, him]
    intro keep
    exact away _ (fun i hi => List.mem_of_mem_take hi) _ _
/-- What is opened once more is not turned. -/
theorem again {D : Dk} {s : SupN.Sb} (h : wipes D.bl s = []) : openL D.bl s = [] ∧ run D (openL D.bl s) = (0, D) := by
  have e : openL D.bl s = [] := by unfold openL; rw [if_pos h, h]; rfl
  exact ⟨e, by rw [e]; rfl⟩
/-- A fresh disk is formatted: its two places that are not noughts. -/
def fmt (n : Nat) (x : SupN.Sb) (key : List UInt8) : List B := ((List.replicate n (nou 4096)).set (2 + (x.e % 2).toNat) (bb (SloN.blk x.e key))).set (x.g % 2).toNat (bb (SupN.blk x))
theorem fmt_hold {n : Nat} {x : SupN.Sb} {key : List UInt8} (hm : SupN.may x) (hg : x.g = 1) (ht : x.t = 0) (hb : x.b = n) (hk : key.length = 32) : Hold n (fmt n x key) x [] key := by
  have hn : 8 ≤ n := by
    have h2 := hm.1
    unfold GeoN.right at h2
    omega
  have h0 : 0 ≤ x.e := by
    have h2 := hm.1
    have h3 := hm.2.2.2.1
    unfold GeoN.right at h2
    omega
  have nogood : ¬ SupN.good (lb (nou 4096)) := fun h => by
    have e : SupN.rd (lb (nou 4096)) = ⟨0, 0, 0, 0, 0, 0, 0⟩ := by
      rw [lb_nou]
      have hr : SloN.empty = List.replicate 4096 0 := rfl
      rw [hr]
      simp only [SupN.rd, SupN.r0, SupN.r1, SupN.r2, SupN.r3, SupN.r4, GeoN.nb, GeoN.nl, GeoN.nf, List.drop_replicate, List.take_replicate]
      rfl
    have h1 := h.1
    rw [e] at h1
    have := h1.2.1.1
    exact absurd this (by decide)
  have hl : (fmt n x key).length = n := by simp [fmt]
  refine ⟨hl, fun y hy => ?_, hm, hb, List.getElem?_set_self (by simp; omega), ⟨nou 4096, ?_, fun h => absurd h nogood⟩, hk, ?_, by rw [ht]; rfl, fun i hi => by simp at hi⟩
  · unfold fmt at hy
    rcases List.mem_or_eq_of_mem_set hy with hy | rfl
    · rcases List.mem_or_eq_of_mem_set hy with hy | rfl
      · rw [List.eq_of_mem_replicate hy, nou_size]
      · rw [bb_size]; exact SloN.blk_len _ hk
    · rw [bb_size]; exact SupN.blk_len _
  · unfold fmt
    rw [List.getElem?_set_ne (by omega), List.getElem?_set_ne (by omega), List.getElem?_replicate, if_pos (by omega)]
  · unfold fmt
    rw [List.getElem?_set_ne (by omega)]
    exact List.getElem?_set_self (by simp; omega)
end Go.Proofs.YtoilcieineejiaaGreatDoor.JouQ
/- Plain mathematics: what is found behind a crash of a journal, whatever was on its way; where a key stands. No program is reached here; no conditions but those that each lemma names. -/
namespace Go.Proofs.YtoilcieineejiaaGreatDoor.JouR
set_option linter.unusedVariables false
open DkN JouN JouP JouQ
/-- What is committed. -/
structure Cm where
  s : SupN.Sb
  dat : List B
  key : List UInt8
def Cm.on (n : Nat) (bl : List B) (c : Cm) : Prop := Hold n bl c.s c.dat c.key
/-- Behind a crash and the power's return. -/
theorem back {D : Dk} {P : List B → Prop} (h : Sure (im D) P) (keep : List Int) : P (D.crash keep).boot.bl ∧ (D.crash keep).boot.ca = [] ∧ (D.crash keep).boot.down = false ∧ (D.crash keep).boot.armed = 0 := ⟨h (keepB keep), rfl, rfl, rfl⟩
theorem armed {D : Dk} (h : D.down = false) {n : Int} (hn : 0 ≤ n) : (D.arm_ n).1 = 0 ∧ (D.arm_ n).2.bl = D.bl ∧ (D.arm_ n).2.ca = D.ca ∧ (D.arm_ n).2.down = false := by
  unfold Dk.arm_
  rw [if_neg (by rw [h]; decide), if_neg (by omega)]
  exact ⟨rfl, rfl, rfl, h⟩
/-- No power goes where nothing is armed. -/
theorem calm_ac {D : Dk} (h : D.down = false) (ha : D.armed = 0) (a : Ac) : (acD D a).2.down = false ∧ (acD D a).2.armed = 0 ∧ (acD D a).1 ≠ 14 := by
  have tk : D.tick.down = false ∧ D.tick.armed = 0 := ⟨by show decide (D.armed = 1) = false; rw [ha]; rfl, by show D.armed - 1 = 0; omega⟩
  cases a with
  | wr i s =>
    show (D.wr i s).2.down = false ∧ (D.wr i s).2.armed = 0 ∧ (D.wr i s).1 ≠ 14
    unfold Dk.wr
    rw [if_neg (by rw [h]; decide)]
    by_cases h1 : D.no i s = 0
    · rw [if_pos h1]
      by_cases h2 : 4096 ≤ D.ca.length
      · rw [if_pos h2]; exact ⟨h, ha, (show (5 : Nat) ≠ 14 by decide)⟩
      · rw [if_neg h2, if_neg (by omega)]; exact ⟨tk.1, tk.2, (show (0 : Nat) ≠ 14 by decide)⟩
    · rw [if_neg h1]
      refine ⟨h, ha, ?_⟩
      show D.no i s ≠ 14
      unfold Dk.no
      split
      · split <;> decide
      · decide
  | fl =>
    show (D.flush).2.down = false ∧ (D.flush).2.armed = 0 ∧ (D.flush).1 ≠ 14
    unfold Dk.flush
    rw [if_neg (by rw [h]; decide), if_neg (by omega)]
    exact ⟨tk.1, tk.2, (show (0 : Nat) ≠ 14 by decide)⟩
theorem calm {D : Dk} (h : D.down = false) (ha : D.armed = 0) (l : List Ac) : (run D l).2.down = false ∧ (run D l).2.armed = 0 ∧ (run D l).1 ≠ 14 := by
  induction l generalizing D with
  | nil => exact ⟨h, ha, (show (0 : Nat) ≠ 14 by decide)⟩
  | cons a l ih =>
    have hc := calm_ac h ha a
    unfold run
    split
    · exact ih hc.1 hc.2.1
    · exact hc
/-- With nothing armed, a journal is opened. -/
theorem opens {n : Nat} {D : Dk} {c : Cm} (hd : D.down = false) (ha : D.armed = 0) (hca : D.ca = []) (h : c.on n D.bl) (hn : 8 ≤ n ∧ n ≤ 1024) :
    (run D (openL D.bl c.s)).1 = 0 ∧ Inv n (run D (openL D.bl c.s)).2 ⟨c.s, c.s.t.toNat, false⟩ c.dat c.key ∧ (run D (openL D.bl c.s)).2.ca = [] ∧ wipes (run D (openL D.bl c.s)).2.bl c.s = [] := by
  rcases opened hd hca h hn with q | ⟨q, _, _⟩
  · exact q
  · exact absurd q (calm hd ha _).2.2
/-- All that is not the state's own shows noughts, where nothing is to be wiped. -/
theorem clean {n : Nat} {bl : List B} {c : Cm} (h : c.on n bl) (hn : 8 ≤ n) (hw : wipes bl c.s = []) {i : Nat} (hi : i < n) (ho : ¬ Own c.s i) : bl[i]? = some (nou 4096) := by
  have e := at_some (bl := bl) (i := i) (by rw [Hold.len h]; exact hi)
  rw [e]
  by_cases hq : at_ bl i = nou 4096
  · rw [hq]
  · have := (mem_wipes h hn).2 ⟨hi, ho, hq⟩
    rw [hw] at this
    exact absurd this (by simp)
/-- Does a key stand in a block, where one stands? -/
def within (s key : List UInt8) : Bool := decide (39 ≤ s.length) && (s.take 3 == SloN.mark) && ((s.drop 7).take 32 == key)
theorem within_blk {e : Int} (he : SloN.may e) {k key : List UInt8} (hk : k.length = 32) : within (SloN.blk e k) key = decide (k = key) := by
  unfold within
  have h1 : (SloN.blk e k).take 3 = SloN.mark := by
    unfold SloN.blk SloN.head
    rw [List.append_assoc, List.append_assoc, List.append_assoc]
    exact List.take_left' (l₁ := SloN.mark) rfl
  have h2 : ((SloN.blk e k).drop 7).take 32 = k := (SloN.of_blk he hk).2
  rw [h1, h2, SloN.blk_len e hk]
  simp only [beq_self_eq_true, Bool.and_true]
  by_cases h3 : k = key
  · simp [h3]
  · simp [h3]
theorem within_empty (key : List UInt8) : within SloN.empty key = false := by
  unfold within
  have h1 : (SloN.empty.take 3 == SloN.mark) = false := by
    unfold SloN.empty
    rw [List.take_replicate]
    rfl
  rw [h1]
  simp
end Go.Proofs.YtoilcieineejiaaGreatDoor.JouR
/- Plain mathematics: what each call of a journal answers, and what it leaves of disk and journal. No program is reached here; no conditions but those that each lemma names. -/
namespace Go.Proofs.YtoilcieineejiaaGreatDoor.JouS
set_option linter.unusedVariables false
open DkN JouN JouP JouQ JouR
/-- What a call answers: a number, an error; and what it leaves. -/
structure Re where
  n : Nat
  e : Nat
  D : Dk
  j : Jo
def no_ (e : Nat) (D : Dk) (j : Jo) : Re := ⟨0, e, D, j⟩
/-- The number, if nothing is refused. -/
def tell (e n : Nat) : Nat := if e = 0 then n else 0
theorem tell_0 (n : Nat) : tell 0 n = n := rfl
def brk (e : Nat) : Bool := decide (e ≠ 0)
def appR (D : Dk) (j : Jo) (s : B) : Re :=
  ⟨tell (run D [.wr (4 + j.used) s]).1 j.used, (run D [.wr (4 + j.used) s]).1, (run D [.wr (4 + j.used) s]).2, ⟨j.last, j.used + 1, brk (run D [.wr (4 + j.used) s]).1⟩⟩
def appendJ (D : Dk) (j : Jo) (s : B) : Re :=
  if j.broken then no_ 14 D j else if s.size ≠ 4096 then no_ 2 D j else if GeoN.room j.last.b j.last.l j.last.f j.used = 0 then no_ 5 D j else appR D j s
/-- Why no next superblock may be with this clock, or 0. -/
def noNext (j : Jo) (ck : Int) : Nat := if ck < j.last.k ∨ 1099511627776 < ck then 2 else if j.last.g = 1152921504606846976 then 6 else 0
def comR (D : Dk) (j : Jo) (ck : Int) : Re :=
  ⟨0, (run D (commitL j ck)).1, (run D (commitL j ck)).2, ⟨if (run D (commitL j ck)).1 = 0 then nxt j j.used j.last.e ck else j.last, j.used, brk (run D (commitL j ck)).1⟩⟩
def commitJ (D : Dk) (j : Jo) (ck : Int) : Re :=
  if j.broken then no_ 14 D j else if noNext j ck ≠ 0 then no_ (noNext j ck) D j else comR D j ck
/-- A closing up to the superblock. -/
def close5 (j : Jo) (s : B) (next : List UInt8) (ck : Int) : List Ac :=
  [.wr (4 + j.used) s, .wr (2 + ((j.last.e + 1) % 2).toNat) (bb (SloN.blk (j.last.e + 1) next)), .fl, .wr ((j.last.g + 1) % 2).toNat (bb (SupN.blk (nxt j (j.used + 1) (j.last.e + 1) ck))), .fl]
def cloR (D : Dk) (j : Jo) (s : B) (next : List UInt8) (ck : Int) : Re :=
  ⟨tell (run D (closeL j s next ck)).1 j.used, (run D (closeL j s next ck)).1, (run D (closeL j s next ck)).2, ⟨if (run D (close5 j s next ck)).1 = 0 then nxt j (j.used + 1) (j.last.e + 1) ck else j.last, j.used + 1, brk (run D (closeL j s next ck)).1⟩⟩
def closeJ (D : Dk) (j : Jo) (s : B) (next : List UInt8) (ck : Int) : Re :=
  if j.broken then no_ 14 D j else if s.size ≠ 4096 ∨ next.length ≠ 32 then no_ 2 D j else if noNext j ck ≠ 0 then no_ (noNext j ck) D j
  else if j.last.e = 4294967295 then no_ 6 D j else if ¬ (j.used : Int) < GeoN.data j.last.b j.last.l j.last.f then no_ 6 D j else cloR D j s next ck
def fluR (D : Dk) (j : Jo) : Re := ⟨0, (run D [.fl]).1, (run D [.fl]).2, ⟨j.last, j.used, brk (run D [.fl]).1⟩⟩
def flushJ (D : Dk) (j : Jo) : Re := if j.broken then no_ 14 D j else fluR D j
/-- Rows one behind the other. -/
theorem run_app (D : Dk) (l k : List Ac) : run D (l ++ k) = if (run D l).1 = 0 then run (run D l).2 k else run D l := by
  induction l generalizing D with
  | nil => rfl
  | cons a l ih =>
    rw [List.cons_append]
    by_cases h : (acD D a).1 = 0
    · rw [show run D (a :: (l ++ k)) = run (acD D a).2 (l ++ k) from if_pos h, show run D (a :: l) = run (acD D a).2 l from if_pos h, ih]
    · rw [show run D (a :: (l ++ k)) = acD D a from if_neg h, show run D (a :: l) = acD D a from if_neg h, if_neg h]
theorem run_one (D : Dk) (a : Ac) : run D [a] = acD D a := by
  show (if (acD D a).1 = 0 then (0, (acD D a).2) else acD D a) = acD D a
  by_cases h : (acD D a).1 = 0
  · rw [if_pos h, ← h]
  · rw [if_neg h]
theorem acD_ok {D : Dk} (h : D.ok) (a : Ac) : (acD D a).2.ok := by
  cases a with
  | wr i s => exact wr_ok h _ s
  | fl => exact flush_ok h
theorem run_ok {D : Dk} (h : D.ok) (l : List Ac) : (run D l).2.ok := by
  induction l generalizing D with
  | nil => exact h
  | cons a l ih =>
    unfold run
    split
    · exact ih (acD_ok h a)
    · exact acD_ok h a
/-- The places from k on that do not show noughts, rising. -/
def behind (sh : List B) (k : Nat) : List Nat := (List.range sh.length).filter fun i => decide (k ≤ i ∧ at_ sh i ≠ nou 4096)
theorem wipeD_eq (sh : List B) (s : SupN.Sb) : wipeD sh s = behind sh (4 + s.t.toNat) := rfl
def wipeL (l : List Nat) : List Ac := l.map fun i => Ac.wr i (nou 4096)
theorem openL_eq (sh : List B) (s : SupN.Sb) : openL sh s = wipeL (wipes sh s) ++ if wipes sh s = [] then [] else [.fl] := rfl
/-- The first superblock. -/
def sup1 (b l f : Int) : SupN.Sb := ⟨1, 0, f, 0, b, l, f⟩
/-- A disk is formatted. -/
def fmtL (sh : List B) (b l f : Int) (key : List UInt8) : List Ac :=
  wipeL (behind sh 0) ++ [.fl, .wr (2 + (f % 2).toNat) (bb (SloN.blk f key)), .fl, .wr 1 (bb (SupN.blk (sup1 b l f))), .fl]
def shows (D : Dk) : List B := (List.range D.bl.length).map fun (i : Nat) => D.shown (i : Int)
theorem shows_len (D : Dk) : (shows D).length = D.bl.length := by simp [shows]
theorem shows_calm {D : Dk} (h : D.ca = []) : shows D = D.bl := by
  apply List.ext_getElem
  · exact shows_len D
  · intro i h1 h2
    simp only [shows, List.getElem_map, List.getElem_range, Dk.shown, h, Int.toNat_natCast]
    rw [List.getD_eq_getElem?_getD, List.getElem?_eq_getElem h2]
    rfl
theorem behind_nou (n k : Nat) : behind (List.replicate n (nou 4096)) k = [] := by
  unfold behind
  rw [List.filter_eq_nil_iff]
  intro i hi
  have hlt : i < n := by simpa using hi
  simp [at_, List.getD_eq_getElem?_getD, hlt]
/-- A fresh disk is formatted. -/
theorem fmt_made {n : Nat} (hn : 8 ≤ n ∧ n ≤ 1024) {b l f : Int} (hm : SupN.may (sup1 b l f)) (hb : b = n) {key : List UInt8} (hk : key.length = 32) :
    (run (made n) (fmtL (shows (made n)) b l f key)).1 = 0 ∧ (run (made n) (fmtL (shows (made n)) b l f key)).2.down = false ∧ (run (made n) (fmtL (shows (made n)) b l f key)).2.armed = 0 ∧
    (run (made n) (fmtL (shows (made n)) b l f key)).2.ca = [] ∧ (run (made n) (fmtL (shows (made n)) b l f key)).2.bl = fmt n (sup1 b l f) key := by
  obtain ⟨L, hL⟩ : ∃ L, L = fmtL (shows (made n)) b l f key := ⟨_, rfl⟩
  have e0 : L = [.fl, .wr (2 + (f % 2).toNat) (bb (SloN.blk f key)), .fl, .wr 1 (bb (SupN.blk (sup1 b l f))), .fl] := by
    rw [hL, fmtL, shows_calm rfl, show (made n).bl = List.replicate n (nou 4096) from rfl, behind_nou]
    rfl
  have hlen : (made n).bl.length = n := by simp [made]
  have fit : ∀ a ∈ L, fitA (made n).bl.length a := fun a ha => by
    rw [e0] at ha
    simp only [List.mem_cons, List.not_mem_nil, or_false] at ha
    rw [hlen]
    rcases ha with rfl | rfl | rfl | rfl | rfl
    · trivial
    · exact ⟨by omega, by rw [bb_size]; exact SloN.blk_len _ hk⟩
    · trivial
    · exact ⟨by omega, by rw [bb_size]; exact SupN.blk_len _⟩
    · trivial
  have hc := calm (D := made n) rfl rfl L
  rw [← hL]
  rcases run_im (D := made n) rfl fit (by rw [e0]; show 0 + 5 ≤ 4096; omega) with ⟨h1, h2, h3⟩ | ⟨h1, _⟩
  · rw [e0] at h3
    refine ⟨h1, h2, hc.2.1, ?_, ?_⟩
    · rw [e0]; exact congrArg Prod.snd h3
    · rw [e0]; exact congrArg Prod.fst h3
  · exact absurd h1 hc.2.2
end Go.Proofs.YtoilcieineejiaaGreatDoor.JouS
