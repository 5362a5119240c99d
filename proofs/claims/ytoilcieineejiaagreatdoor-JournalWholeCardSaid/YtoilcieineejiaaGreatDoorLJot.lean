/- JouT JouWh: one behind the other. -/
import Derived.Test.YtoilcieineejiaaGreatDoorLJon
/- Plain mathematics: what the statement of a journal that is whole keeps in mind: what is committed, what would be by the call on its way. No program is reached here; no conditions but those that each lemma names. -/
namespace Go.Proofs.YtoilcieineejiaaGreatDoor.JouT
set_option linter.unusedVariables false
open DkN JouN JouP JouQ JouR JouS
/-- What the statement keeps of what is committed: blocks, epoch, clock. -/
structure Sta where
  dat : List B
  ep : Int
  ck : Int
def Sta.of (s : Sta) (c : Cm) : Prop := s.dat = c.dat ∧ s.ep = c.s.e ∧ s.ck = c.s.k
/-- What stands is one of both. -/
def Two (n : Nat) (was now : Sta) (bl : List B) : Prop := ∃ c : Cm, c.on n bl ∧ (was.of c ∨ now.of c)
/-- The journal is open, the power is on. -/
structure Up (n : Nat) (D : Dk) (j : Jo) (all : List B) (key : List UInt8) (was : Sta) : Prop where
  inv : Inv n D j all key
  dat : was.dat = all.take j.last.t.toNat
  ep : was.ep = j.last.e
  ck : was.ck = j.last.k
/-- The power is gone. -/
def Off (n : Nat) (D : Dk) (was now : Sta) : Prop := D.down = true ∧ Sure (im D) (Two n was now)
section
variable {n : Nat} {D : Dk} {j : Jo} {all : List B} {key : List UInt8} {was : Sta}
theorem Up.of (h : Up n D j all key was) : was.of ⟨j.last, all.take j.last.t.toNat, key⟩ := ⟨h.dat, h.ep, h.ck⟩
theorem Up.brk0 (h : Up n D j all key was) : brk 0 = j.broken := by rw [h.inv.whole]; rfl
theorem Up.safe (h : Up n D j all key was) (now : Sta) : Sure (im D) (Two n was now) := fun keep => ⟨⟨j.last, all.take j.last.t.toNat, key⟩, h.inv.safe keep, .inl h.of⟩
theorem Up.len (h : Up n D j all key was) : j.used = all.length ∧ all.length ≤ 1020 := ⟨h.inv.used, by have := h.inv.most; have := h.inv.size; omega⟩
/-- What a call leaves: what was; or more, all of it done; or no power. -/
def Left (n : Nat) (D : Dk) (j : Jo) (all : List B) (key : List UInt8) (was : Sta) (r : Re) (all' : List B) (key' : List UInt8) (next : Sta) : Prop :=
  (r.e ≠ 0 ∧ r.D = D ∧ r.j = j) ∨ (r.e = 0 ∧ Up n r.D r.j all' key' next) ∨ (r.e ≠ 0 ∧ Off n r.D was next)
theorem Up.app (h : Up n D j all key was) {s : B} (hs : s.size = 4096) : Left n D j all key was (appendJ D j s) (all ++ [s]) key was ∧ ((appendJ D j s).e = 0 → (appendJ D j s).n = all.length) := by
  have hsz := h.inv.size
  have hb := h.inv.hold.b
  have hr := h.inv.hold.may.1
  unfold appendJ
  rw [if_neg (by rw [h.inv.whole]; decide), if_neg (by omega)]
  by_cases hq : GeoN.room j.last.b j.last.l j.last.f j.used = 0
  · rw [if_pos hq]
    exact ⟨.inl ⟨(show (5 : Nat) ≠ 0 by decide), rfl, rfl⟩, fun e => absurd e (show (5 : Nat) ≠ 0 by decide)⟩
  · rw [if_neg hq]
    have hroom : all.length + 4 < n := by
      have hu := h.inv.used
      by_cases q : GeoN.right j.last.b j.last.l j.last.f ∧ 0 ≤ (j.used : Int) ∧ (j.used : Int) < j.last.b - 5
      · omega
      · exact absurd (GeoN.room_no q) hq
    unfold appR
    rcases append h.inv hs hroom with ⟨h1, h2⟩ | ⟨h1, h2, h3⟩
    · rw [h1]
      have h2' : Inv n (run D [.wr (4 + j.used) s]).2 ⟨j.last, j.used + 1, brk 0⟩ (all ++ [s]) key := by rw [h.brk0]; exact h2
      refine ⟨.inr (.inl ⟨rfl, h2', ?_, h.ep, h.ck⟩), fun _ => h.inv.used⟩
      show was.dat = (all ++ [s]).take j.last.t.toNat
      rw [List.take_append_of_le_length h.inv.t.2]
      exact h.dat
    · refine ⟨.inr (.inr ⟨by show (run D _).1 ≠ 0; rw [h1]; decide, h2, fun keep => ⟨⟨j.last, all.take j.last.t.toNat, key⟩, h3 keep, .inl h.of⟩⟩), fun e => ?_⟩
      have e' : (run D [.wr (4 + j.used) s]).1 = 0 := e
      rw [h1] at e'
      cases e'
theorem Up.com (h : Up n D j all key was) (ck : Int) : Left n D j all key was (commitJ D j ck) all key ⟨all, was.ep, ck⟩ := by
  unfold commitJ
  rw [if_neg (by rw [h.inv.whole]; decide)]
  by_cases hq : noNext j ck ≠ 0
  · rw [if_pos hq]
    exact .inl ⟨hq, rfl, rfl⟩
  · rw [if_neg hq]
    unfold noNext at hq
    have hc : j.last.k ≤ ck ∧ ck ≤ 1099511627776 ∧ j.last.g ≠ 1152921504606846976 := by
      split at hq
      · exact absurd (show (2 : Nat) ≠ 0 by decide) hq
      · split at hq
        · exact absurd (show (6 : Nat) ≠ 0 by decide) hq
        · exact ⟨by omega, by omega, by assumption⟩
    unfold comR
    rcases commit h.inv ⟨hc.1, hc.2.1⟩ hc.2.2 with ⟨h1, h2, _⟩ | ⟨h1, h2, h3⟩
    · rw [h1]
      refine .inr (.inl ⟨rfl, ?_, ?_, h.ep, rfl⟩)
      · rw [if_pos rfl]
        show Inv n (run D (commitL j ck)).2 ⟨nxt j j.used j.last.e ck, j.used, brk 0⟩ all key
        rw [h.brk0]
        exact h2
      · rw [if_pos rfl]
        show all = all.take ((j.used : Int).toNat)
        rw [List.take_of_length_le (by have := h.inv.used; omega)]
    · refine .inr (.inr ⟨by show (run D _).1 ≠ 0; rw [h1]; decide, h2, fun keep => ?_⟩)
      rcases h3 keep with q | q
      · exact ⟨⟨_, _, _⟩, q, .inl h.of⟩
      · exact ⟨⟨_, _, _⟩, q, .inr ⟨rfl, h.ep, rfl⟩⟩
theorem Up.flu (h : Up n D j all key was) : Left n D j all key was (flushJ D j) all key was := by
  unfold flushJ
  rw [if_neg (by rw [h.inv.whole]; decide)]
  unfold fluR
  rcases flush h.inv with ⟨h1, h2, _⟩ | ⟨h1, h2, h3⟩
  · rw [h1]
    have e : (⟨j.last, j.used, brk 0⟩ : Jo) = j := by
      have := h.inv.whole
      obtain ⟨a, b, c⟩ := j
      subst this
      rfl
    refine .inr (.inl ⟨rfl, ?_⟩)
    show Up n _ (⟨j.last, j.used, brk 0⟩ : Jo) all key was
    rw [e]
    exact ⟨h2, h.dat, h.ep, h.ck⟩
  · exact .inr (.inr ⟨by show (run D _).1 ≠ 0; rw [h1]; decide, h2, fun keep => ⟨⟨j.last, all.take j.last.t.toNat, key⟩, h3 keep, .inl h.of⟩⟩)
theorem close_split (j : Jo) (s : B) (next : List UInt8) (ck : Int) : closeL j s next ck = close5 j s next ck ++ [.wr (2 + (j.last.e % 2).toNat) (nou 4096), .fl] := rfl
theorem Up.clo (h : Up n D j all key was) {s : B} (hs : s.size = 4096) {next : List UInt8} (hk : next.length = 32) (ck : Int) :
    Left n D j all key was (closeJ D j s next ck) (all ++ [s]) next ⟨all ++ [s], was.ep + 1, ck⟩ ∧ ((closeJ D j s next ck).e = 0 → (closeJ D j s next ck).D.ca = [] ∧ (closeJ D j s next ck).D.bl[2 + (j.last.e % 2).toNat]? = some (nou 4096) ∧ (closeJ D j s next ck).j.last.e = j.last.e + 1) := by
  have hsz := h.inv.size
  have hb := h.inv.hold.b
  have hr := h.inv.hold.may.1
  unfold closeJ
  rw [if_neg (by rw [h.inv.whole]; decide), if_neg (by omega)]
  by_cases hq : noNext j ck ≠ 0
  · rw [if_pos hq]
    exact ⟨.inl ⟨hq, rfl, rfl⟩, fun e => absurd e hq⟩
  · rw [if_neg hq]
    unfold noNext at hq
    have hc : j.last.k ≤ ck ∧ ck ≤ 1099511627776 ∧ j.last.g ≠ 1152921504606846976 := by
      split at hq
      · exact absurd (show (2 : Nat) ≠ 0 by decide) hq
      · split at hq
        · exact absurd (show (6 : Nat) ≠ 0 by decide) hq
        · exact ⟨by omega, by omega, by assumption⟩
    by_cases he : j.last.e = 4294967295
    · rw [if_pos he]
      exact ⟨.inl ⟨(show (6 : Nat) ≠ 0 by decide), rfl, rfl⟩, fun e => absurd e (show (6 : Nat) ≠ 0 by decide)⟩
    · rw [if_neg he]
      by_cases hd : (j.used : Int) < GeoN.data j.last.b j.last.l j.last.f
      · rw [if_neg (fun h => h hd)]
        have hroom : all.length + 4 < n := by
          rw [GeoN.data_yes hr] at hd
          have := h.inv.used
          omega
        unfold cloR
        rcases close h.inv hs hk hroom ⟨hc.1, hc.2.1⟩ hc.2.2 he with ⟨h1, h2, h3, h4⟩ | ⟨h1, h2, h3⟩
        · have h5 : (run D (close5 j s next ck)).1 = 0 := by
            have q := h1
            rw [close_split, run_app] at q
            by_cases hz : (run D (close5 j s next ck)).1 = 0
            · exact hz
            · rw [if_neg hz] at q; exact absurd q hz
          rw [h1, h5]
          refine ⟨.inr (.inl ⟨rfl, ?_, ?_, ?_, rfl⟩), fun _ => ⟨h3, h4, ?_⟩⟩
          · rw [if_pos rfl]; exact h2
          · rw [if_pos rfl]
            show all ++ [s] = (all ++ [s]).take (((j.used + 1 : Nat) : Int).toNat)
            rw [List.take_of_length_le (by have := h.inv.used; simp; omega)]
          · rw [if_pos rfl]
            show was.ep + 1 = j.last.e + 1
            rw [h.ep]
          · show (if (0 : Nat) = 0 then nxt j (j.used + 1) (j.last.e + 1) ck else j.last).e = _
            rw [if_pos rfl]
            rfl
        · refine ⟨.inr (.inr ⟨by show (run D _).1 ≠ 0; rw [h1]; decide, h2, fun keep => ?_⟩), fun e => ?_⟩
          · rcases h3 keep with q | q
            · exact ⟨⟨_, _, _⟩, q, .inl h.of⟩
            · exact ⟨⟨_, _, _⟩, q, .inr ⟨rfl, by show was.ep + 1 = j.last.e + 1; rw [h.ep], rfl⟩⟩
          · have e' : (run D (closeL j s next ck)).1 = 0 := e
            rw [h1] at e'
            cases e'
      · rw [if_pos hd]
        exact ⟨.inl ⟨(show (6 : Nat) ≠ 0 by decide), rfl, rfl⟩, fun e => absurd e (show (6 : Nat) ≠ 0 by decide)⟩
end
/-- A journal that was just opened. -/
theorem up_open {n : Nat} {D : Dk} {c : Cm} (h : Inv n D ⟨c.s, c.s.t.toNat, false⟩ c.dat c.key) : Up n D ⟨c.s, c.s.t.toNat, false⟩ c.dat c.key ⟨c.dat, c.s.e, c.s.k⟩ := by
  refine ⟨h, ?_, rfl, rfl⟩
  show c.dat = c.dat.take c.s.t.toNat
  have := h.used
  rw [List.take_of_length_le (by show c.dat.length ≤ c.s.t.toNat; have q : c.s.t.toNat = c.dat.length := h.used; omega)]
end Go.Proofs.YtoilcieineejiaaGreatDoor.JouT
/- Plain mathematics: what stands behind the power's going, with an opening that may be broken off, too; what a telling leaves. No program is reached here; no conditions but those that each lemma names. -/
namespace Go.Proofs.YtoilcieineejiaaGreatDoor.JouWh
set_option linter.unusedVariables false
open DkN JouN JouP JouQ JouR JouS JouT
/-- What is committed stands on a disk that has power, and nothing is on its way. -/
structure Ashore (n : Nat) (D : Dk) (c : Cm) : Prop where
  on : c.on n D.bl
  ca : D.ca = []
  up : D.down = false
section
variable {n : Nat} {D : Dk} {c : Cm} {was now : Sta}
theorem ashore_back (h : Sure (im D) (Two n was now)) (keep : List Int) : ∃ c, Ashore n (D.crash keep).boot c ∧ (was.of c ∨ now.of c) := by
  obtain ⟨⟨c, h1, h2⟩, h3, h4, _⟩ := back h keep
  exact ⟨c, ⟨h1, h3, h4⟩, h2⟩
theorem Ashore.arm (h : Ashore n D c) {k : Int} (hk : 0 ≤ k) : (D.arm_ k).1 = 0 ∧ Ashore n (D.arm_ k).2 c := by
  obtain ⟨h0, h1, h2, h3⟩ := armed h.up hk
  exact ⟨h0, by rw [h1]; exact h.on, by rw [h2]; exact h.ca, h3⟩
theorem Ashore.arm0 (h : Ashore n D c) : (D.arm_ 0).2.armed = 0 := by
  unfold Dk.arm_
  rw [if_neg (by rw [h.up]; decide), if_neg (by omega)]
  rfl
theorem ashore_inv {key : List UInt8} (h : Inv n D ⟨c.s, c.s.t.toNat, false⟩ c.dat c.key) (hca : D.ca = []) : Ashore n D c := by
  refine ⟨?_, hca, h.up⟩
  have q := h.hold
  have e : c.dat.take c.s.t.toNat = c.dat := List.take_of_length_le (by have q : c.s.t.toNat = c.dat.length := h.used; omega)
  rw [show c.dat.take (⟨c.s, c.s.t.toNat, false⟩ : Jo).last.t.toNat = c.dat from e] at q
  exact q
theorem Ashore.open_ (h : Ashore n D c) (hn : 8 ≤ n ∧ n ≤ 1024) :
    ((run D (openL D.bl c.s)).1 = 0 ∧ Ashore n (run D (openL D.bl c.s)).2 c) ∨ ((run D (openL D.bl c.s)).1 = 14 ∧ ∀ keep, Ashore n ((run D (openL D.bl c.s)).2.crash keep).boot c) := by
  rcases opened h.up h.ca h.on hn with ⟨q1, q2, q3, _⟩ | ⟨q1, q2, q3⟩
  · exact .inl ⟨q1, ashore_inv (key := c.key) q2 q3⟩
  · exact .inr ⟨q1, fun keep => ⟨(back q3 keep).1, rfl, rfl⟩⟩
/-- The last opening: what is committed is there, and opened once more nothing is written. -/
theorem Ashore.last (h : Ashore n D c) (ha : D.armed = 0) (hn : 8 ≤ n ∧ n ≤ 1024) :
    (run D (openL D.bl c.s)).1 = 0 ∧ Ashore n (run D (openL D.bl c.s)).2 c ∧ (c.s.t = c.dat.length ∧ c.dat.length ≤ 1020) ∧ run (run D (openL D.bl c.s)).2 (openL (run D (openL D.bl c.s)).2.bl c.s) = (0, (run D (openL D.bl c.s)).2) := by
  obtain ⟨q1, q2, q3, q4⟩ := opens h.up ha h.ca h.on hn
  have e : c.s.t.toNat = c.dat.length := q2.used
  have e0 : 0 ≤ c.s.t := q2.hold.may.2.2.1.1
  have hm := q2.most
  exact ⟨q1, ashore_inv (key := c.key) q2 q3, ⟨by omega, by omega⟩, (again q4).2⟩
end
/-- What a telling leaves: no power, and one of both is sure; or power, and the journal goes on. -/
def Pla (n : Nat) (j : Jo) (all : List B) (key : List UInt8) (was : Sta) (D : Dk) (r : Re) (more : List B) (key' : List UInt8) (next : Sta) : Prop :=
  (r.D.down = true ∧ Sure (im r.D) (Two n was next)) ∨ (r.D.down = false ∧ (r.e = 0 → Up n r.D r.j more key' next) ∧ (r.e ≠ 0 → Up n r.D r.j all key was))
theorem pla_of {n : Nat} {D : Dk} {j : Jo} {all : List B} {key : List UInt8} {was : Sta} {r : Re} {more more' : List B} {key' : List UInt8} {next : Sta} (h : Up n D j all key was) (hl : JouT.Left n D j all key was r more key' next) (hm : r.e = 0 → more' = more) : Pla n j all key was D r more' key' next := by
  rcases hl with ⟨h1, h2, h3⟩ | ⟨h1, h2⟩ | ⟨h1, h2⟩
  · exact .inr ⟨by rw [h2]; exact h.inv.up, fun e => absurd e h1, fun _ => by rw [h2, h3]; exact h⟩
  · exact .inr ⟨h2.inv.up, fun _ => by rw [hm h1]; exact h2, fun e => absurd h1 e⟩
  · exact .inl ⟨h2.1, h2.2⟩
end Go.Proofs.YtoilcieineejiaaGreatDoor.JouWh
