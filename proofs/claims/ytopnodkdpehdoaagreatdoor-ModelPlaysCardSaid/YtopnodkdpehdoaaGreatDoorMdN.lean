/- Plain mathematics: a model of a volume: what each call answers, and what the model is then. No program is reached here; no conditions but those that each lemma names. -/
import Derived.Test.YtopnodkdpehdoaaGreatDoorLRn
import Derived.Test.YtopnodkdpehdoaaGreatDoorLOct
namespace Go.Proofs.YtopnodkdpehdoaaGreatDoor.MdN
set_option linter.unusedVariables false
open RecN RetN DbN
/-- A version: of a place, in an epoch, with data. -/
structure V where
  lb : Int
  ep : Int
  da : L
def vfit (lba fr to : Int) (v : V) : Prop := v.lb = lba ∧ fr ≤ v.ep ∧ v.ep ≤ to
instance (lba fr to : Int) (v : V) : Decidable (vfit lba fr to v) := inferInstanceAs (Decidable (_ ∧ _ ∧ _))
def newer (b : Option V) (v : V) : Bool := match b with
  | none => true
  | some x => decide (x.ep ≤ v.ep)
def bst1 (lba fr to : Int) (b : Option V) (v : V) : Option V := if vfit lba fr to v ∧ newer b v = true then some v else b
/-- A place's newest version of epochs from one to another one. -/
def bst (vs : List V) (lba fr to : Int) : Option V := vs.foldl (bst1 lba fr to) none
theorem bst_snoc (vs : List V) (v : V) (lba fr to : Int) : bst (vs ++ [v]) lba fr to = bst1 lba fr to (bst vs lba fr to) v := by unfold bst; rw [List.foldl_append]; rfl
theorem bst_mem {vs : List V} {lba fr to : Int} {v : V} (h : bst vs lba fr to = some v) : v ∈ vs ∧ vfit lba fr to v := by
  induction vs using rev_ind with
  | h0 => simp [bst] at h
  | h1 p x ih =>
    rw [bst_snoc] at h
    unfold bst1 at h
    by_cases hc : vfit lba fr to x ∧ newer (bst p lba fr to) x = true
    · rw [if_pos hc] at h
      injection h with h
      subst h
      exact ⟨by simp, hc.1⟩
    · rw [if_neg hc] at h
      exact ⟨List.mem_append_left _ (ih h).1, (ih h).2⟩
/-- How many of the first n places have a version of epochs from one on. -/
def plc (vs : List V) (fr : Int) : Nat → Nat
  | 0 => 0
  | n + 1 => plc vs fr n + if (bst vs (n : Int) fr 4294967295).isSome = true then 1 else 0
theorem plc_le (vs : List V) (fr : Int) : ∀ n, plc vs fr n ≤ n
  | 0 => Nat.le_refl _
  | n + 1 => by have := plc_le vs fr n; unfold plc; split <;> omega
/-- A model. -/
structure Mo where
  b : Int
  lb : Int
  f : Int
  used : Int
  ck : Int
  s : St
  l : List Rec
  vs : List V
/-- A call. -/
structure Cl where
  k : Int
  lb : Int
  ep : Int
  tm : Int
  da : L
  nm : L
structure Sta where
  ep : Int
  ck : Int
  fr : Int
  rc : Int
  pl : Int
  ho : Int
structure An where
  er : Int
  da : L
  st : Sta
def sta0 : Sta := ⟨0, 0, 0, 0, 0, 0⟩
def anE (e : Int) : An := ⟨e, [], sta0⟩
def anD (s : L) : An := ⟨0, s, sta0⟩
def rm (m : Mo) : Int := GeoN.room m.b m.lb m.f m.used
/-- Why an epoch can't be asked. -/
def there (m : Mo) (e : Int) (cl : Bool) : Int := if e < m.f ∨ m.s.ep < e then 7 else if cl = true ∧ e = m.s.ep then 8 else 0
def rd (m : Mo) (lba e : Int) : An :=
  if lba < 0 ∨ m.lb ≤ lba then anE 4 else if there m e false ≠ 0 then anE 7 else match bst m.vs lba m.f e with
    | none => anE 7
    | some v => if m.s.gone v.ep = true then anE 13 else anD v.da
def wrE (m : Mo) (c : Cl) : Int := if c.lb < 0 ∨ m.lb ≤ c.lb then 4 else if 4000 < c.da.length then 2 else if rm m < 1 then 5 else 0
def wrM (m : Mo) (c : Cl) : Mo := { m with used := m.used + 1, vs := m.vs ++ [⟨c.lb, m.s.ep, c.da⟩] }
/-- A record as it is sealed. -/
def stamp (m : Mo) (r : Rec) : Rec := { r with ep := m.s.ep, tm := m.ck }
def rcE (m : Mo) (r : Rec) (room : Int) : Int := if may m.s (stamp m r) ≠ 0 then may m.s (stamp m r) else if room < 1 then 5 else 0
def rcM (m : Mo) (r : Rec) : Mo := { m with used := m.used + 1, s := take m.s (stamp m r), l := m.l ++ [stamp m r] }
def slR (m : Mo) (c : Cl) : Rec :=
  if c.k = 8 then ⟨4, 0, 0, 0, 0, 0, [], c.nm⟩ else if c.k = 6 then ⟨2, 0, 0, 0, c.ep, c.tm, [], []⟩ else if c.k = 7 then ⟨3, 0, 0, 0, c.ep, 0, [], c.nm⟩ else ⟨5, 0, 0, 0, c.ep, m.s.un c.ep, [], []⟩
def slE (m : Mo) (c : Cl) : Int :=
  if (c.k = 7 ∨ c.k = 8) ∧ isName c.nm = false then 2 else if c.k = 8 then rcE m (slR m c) (rm m)
  else if there m c.ep true ≠ 0 then there m c.ep true else if c.k = 6 ∧ (c.tm < 0 ∨ 1099511627776 < c.tm) then 2 else rcE m (slR m c) (rm m)
def tkE (m : Mo) (t : Int) : Int := if t < 0 ∨ 1099511627776 < t then 2 else if t < m.ck then 11 else 0
def sta (m : Mo) : Sta := ⟨m.s.ep, m.ck, rm m, m.l.length, plc m.vs m.f m.lb.toNat, m.s.hs.length⟩
def clR (m : Mo) : Rec := ⟨1, 0, 0, plc m.vs m.s.ep m.lb.toNat, 0, 0, List.replicate 32 0, []⟩
def clE (m : Mo) : Int := if m.s.ep < 4294967295 ∧ m.used < GeoN.data m.b m.lb m.f then rcE m (clR m) 1 else 6
/-- The error that a call is answered. -/
def doE (m : Mo) (c : Cl) : Int :=
  if c.k = 1 then wrE m c else if c.k = 4 then 0 else if c.k = 5 then clE m
  else if c.k = 6 ∨ c.k = 7 ∨ c.k = 8 ∨ c.k = 9 then slE m c else if c.k = 11 then tkE m c.tm else 2
/-- What a call is answered. -/
def doA (m : Mo) (c : Cl) : An := if c.k = 2 then rd m c.lb m.s.ep else if c.k = 3 then rd m c.lb c.ep else if c.k = 10 then ⟨0, [], sta m⟩ else anE (doE m c)
/-- What a model is behind a call. -/
def doM (m : Mo) (c : Cl) : Mo :=
  if c.k = 1 then (if wrE m c = 0 then wrM m c else m) else if c.k = 5 then (if clE m = 0 then rcM m (clR m) else m)
  else if c.k = 6 ∨ c.k = 7 ∨ c.k = 8 ∨ c.k = 9 then (if slE m c = 0 then rcM m (slR m c) else m)
  else if c.k = 11 then (if tkE m c.tm = 0 then { m with ck := c.tm } else m) else m
/-- What holds of a model, whatever was called. -/
structure Ok (m : Mo) : Prop where
  geo : GeoN.right m.b m.lb m.f
  used : m.used = (m.l.length : Int) + (m.vs.length : Int)
  most : m.used ≤ GeoN.data m.b m.lb m.f
  rel : Rel m.f m.l m.s
  ck0 : 0 ≤ m.ck
  ck1 : m.ck ≤ 1099511627776
  now : m.s.now ≤ m.ck
  ep0 : m.f ≤ m.s.ep
  ep1 : m.s.ep ≤ 4294967296
  vs : ∀ v ∈ m.vs, m.f ≤ v.ep ∧ v.ep ≤ m.s.ep
  up : m.vs.Pairwise fun v x => v.ep ≤ x.ep
def new (b lb f : Int) : Mo := ⟨b, lb, f, 0, 0, RetN.new f, [], []⟩
theorem ok_new {b lb f : Int} (h : GeoN.right b lb f) : Ok (new b lb f) :=
  ⟨h, rfl, (GeoN.data_le b lb f).1, rel_new f, Int.le_refl 0, (by decide : (0 : Int) ≤ 1099511627776), Int.le_refl 0, Int.le_refl _, by have h := h; unfold GeoN.right at h; show f ≤ 4294967296; omega, fun v hv => absurd hv (by simp [new]), List.Pairwise.nil⟩
theorem Ok.lens {m : Mo} (h : Ok m) : m.l.length ≤ 1020 ∧ m.vs.length ≤ 1020 := by
  have h1 := h.used
  have h2 := h.most
  have h3 := (GeoN.data_le m.b m.lb m.f).2
  omega
theorem room_in {m : Mo} (h : Ok m) (hr : ¬ rm m < 1) : m.used + 1 ≤ GeoN.data m.b m.lb m.f := by
  unfold rm at hr
  have hu := h.used
  rcases Classical.em (GeoN.right m.b m.lb m.f ∧ 0 ≤ m.used ∧ m.used < m.b - 5) with hc | hc
  · rw [GeoN.data_yes h.geo]; omega
  · rw [GeoN.room_no hc] at hr; omega
theorem ok_write {m : Mo} (h : Ok m) {c : Cl} (he : wrE m c = 0) : Ok (wrM m c) := by
  have hr : ¬ rm m < 1 := by
    unfold wrE at he
    intro hh
    by_cases h1 : c.lb < 0 ∨ m.lb ≤ c.lb
    · rw [if_pos h1] at he; omega
    · rw [if_neg h1] at he
      by_cases h2 : 4000 < c.da.length
      · rw [if_pos h2] at he; omega
      · rw [if_neg h2, if_pos hh] at he; omega
  refine ⟨h.geo, ?_, room_in h hr, h.rel, h.ck0, h.ck1, h.now, h.ep0, h.ep1, fun v hv => ?_, ?_⟩
  · have := h.used
    show m.used + 1 = (m.l.length : Int) + ((m.vs ++ [(⟨c.lb, m.s.ep, c.da⟩ : V)]).length : Int)
    rw [List.length_append]; simp; omega
  · rcases List.mem_append.1 hv with hv | hv
    · exact h.vs v hv
    · obtain rfl : v = ⟨c.lb, m.s.ep, c.da⟩ := by simpa using hv
      exact ⟨h.ep0, Int.le_refl _⟩
  · refine List.pairwise_append.2 ⟨h.up, by simp, fun x hx y hy => ?_⟩
    obtain rfl : y = ⟨c.lb, m.s.ep, c.da⟩ := by simpa using hy
    exact (h.vs x hx).2
theorem take_ep (s : St) (r : Rec) : (take s r).ep = s.ep ∨ (r.k = 1 ∧ (take s r).ep = s.ep + 1) := by
  unfold take
  by_cases h1 : r.k = 1
  · rw [if_pos h1]; exact .inr ⟨h1, rfl⟩
  · rw [if_neg h1]; repeat' split
    all_goals exact .inl rfl
theorem take_now (s : St) (r : Rec) : (take s r).now = r.tm := by
  unfold take
  repeat' split
  all_goals rfl
theorem rec_ok {m : Mo} {r : Rec} {room : Int} (he : rcE m r room = 0) : may m.s (stamp m r) = 0 ∧ ¬ room < 1 := by
  unfold rcE at he
  by_cases h1 : may m.s (stamp m r) ≠ 0
  · rw [if_pos h1] at he; exact absurd he h1
  · rw [if_neg h1] at he
    refine ⟨Classical.not_not.1 h1, fun hh => ?_⟩
    rw [if_pos hh] at he; omega
theorem ok_rec {m : Mo} (h : Ok m) {r : Rec} (hm : may m.s (stamp m r) = 0) (hu : m.used + 1 ≤ GeoN.data m.b m.lb m.f) : Ok (rcM m r) := by
  have he := take_ep m.s (stamp m r)
  have hr := (may_ok hm).1
  have hep := (may_ok hm).2.1
  have hb := (bounds hr).2.1
  have e1 : m.s.ep ≤ 4294967295 := by have : (stamp m r).ep = m.s.ep := rfl; omega
  refine ⟨h.geo, ?_, hu, h.rel.next hm, h.ck0, h.ck1, ?_, ?_, ?_, fun v hv => ?_, h.up⟩
  · have := h.used
    show m.used + 1 = ((m.l ++ [stamp m r]).length : Int) + (m.vs.length : Int)
    rw [List.length_append]; simp; omega
  · show (take m.s (stamp m r)).now ≤ m.ck
    rw [take_now]; exact Int.le_refl _
  · show m.f ≤ (take m.s (stamp m r)).ep
    have := h.ep0
    omega
  · show (take m.s (stamp m r)).ep ≤ 4294967296
    omega
  · have := h.vs v hv
    refine ⟨this.1, ?_⟩
    show v.ep ≤ (take m.s (stamp m r)).ep
    omega
theorem ok_tick {m : Mo} (h : Ok m) {t : Int} (he : tkE m t = 0) : Ok { m with ck := t } := by
  unfold tkE at he
  by_cases h1 : t < 0 ∨ 1099511627776 < t
  · rw [if_pos h1] at he; omega
  · rw [if_neg h1] at he
    by_cases h2 : t < m.ck
    · rw [if_pos h2] at he; omega
    · exact ⟨h.geo, h.used, h.most, h.rel, by show 0 ≤ t; omega, by show t ≤ 1099511627776; omega, by have := h.now; show m.s.now ≤ t; omega, h.ep0, h.ep1, h.vs, h.up⟩
theorem cl_in {m : Mo} (he : clE m = 0) : (m.s.ep < 4294967295 ∧ m.used < GeoN.data m.b m.lb m.f) ∧ rcE m (clR m) 1 = 0 := by
  unfold clE at he
  by_cases hc : m.s.ep < 4294967295 ∧ m.used < GeoN.data m.b m.lb m.f
  · rw [if_pos hc] at he; exact ⟨hc, he⟩
  · rw [if_neg hc] at he; omega
theorem sl_in {m : Mo} {c : Cl} (he : slE m c = 0) : rcE m (slR m c) (rm m) = 0 := by
  unfold slE at he
  by_cases h1 : (c.k = 7 ∨ c.k = 8) ∧ isName c.nm = false
  · rw [if_pos h1] at he; omega
  rw [if_neg h1] at he
  by_cases h2 : c.k = 8
  · rw [if_pos h2] at he; exact he
  rw [if_neg h2] at he
  by_cases h3 : there m c.ep true ≠ 0
  · rw [if_pos h3] at he; exact absurd he h3
  rw [if_neg h3] at he
  by_cases h4 : c.k = 6 ∧ (c.tm < 0 ∨ 1099511627776 < c.tm)
  · rw [if_pos h4] at he; omega
  rw [if_neg h4] at he
  exact he
/-- A call keeps what holds of a model. -/
theorem ok_do {m : Mo} (h : Ok m) (c : Cl) : Ok (doM m c) := by
  unfold doM
  by_cases h1 : c.k = 1
  · rw [if_pos h1]
    by_cases he : wrE m c = 0
    · rw [if_pos he]; exact ok_write h he
    · rw [if_neg he]; exact h
  rw [if_neg h1]
  by_cases h5 : c.k = 5
  · rw [if_pos h5]
    by_cases he : clE m = 0
    · rw [if_pos he]
      obtain ⟨hc, hr⟩ := cl_in he
      exact ok_rec h (rec_ok hr).1 (by omega)
    · rw [if_neg he]; exact h
  rw [if_neg h5]
  by_cases h6 : c.k = 6 ∨ c.k = 7 ∨ c.k = 8 ∨ c.k = 9
  · rw [if_pos h6]
    by_cases he : slE m c = 0
    · rw [if_pos he]
      have hr := rec_ok (sl_in he)
      exact ok_rec h hr.1 (room_in h hr.2)
    · rw [if_neg he]; exact h
  rw [if_neg h6]
  by_cases h11 : c.k = 11
  · rw [if_pos h11]
    by_cases he : tkE m c.tm = 0
    · rw [if_pos he]; exact ok_tick h he
    · rw [if_neg he]; exact h
  rw [if_neg h11]
  exact h
end Go.Proofs.YtopnodkdpehdoaaGreatDoor.MdN
