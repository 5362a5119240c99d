/- Plain mathematics: the keys of epochs, each made of the one ahead. No program is reached here; no conditions but those that each lemma names. -/
import Derived.Test.YtkidehngleglnaaGreatDoorDrv
namespace Go.Proofs.YtkidehngleglnaaGreatDoor.EvoN
/-- The five labels. -/
def lSeal : List UInt8 := [0x73, 0x65, 0x61, 0x6c]
def lNext : List UInt8 := [0x6e, 0x65, 0x78, 0x74]
def lMac : List UInt8 := [0x6d, 0x61, 0x63]
def lAsk : List UInt8 := [0x61, 0x73, 0x6b]
def lData : List UInt8 := [0x64, 0x61, 0x74, 0x61]
theorem ok_next : saidOk lNext [] := by decide
theorem ok_mac : saidOk lMac [] := by decide
theorem ok_ask : saidOk lAsk [] := by decide
theorem ok_data : saidOk lData [] := by decide
theorem ok_seal {f : Int} (h : 0 ≤ f) : saidOk lSeal [f] := ⟨by decide, by decide, by simp, by simpa using h⟩
theorem no_seal {f : Int} (h : ¬ 0 ≤ f) : ¬ saidOk lSeal [f] := fun hh => h (hh.2.2.2 f (by simp))
/-- What is made of a key for something, and the error's number. -/
def made (k l : List UInt8) (c : List Int) : List UInt8 × Int := if k.length = 32 then keyFor k l c else ([], 2)
theorem made_key {k l : List UInt8} {c : List Int} (h : k.length = 32) : made k l c = keyFor k l c := if_pos h
theorem made_short {k l : List UInt8} {c : List Int} (h : ¬ k.length = 32) : made k l c = ([], 2) := if_neg h
theorem made_good {k l : List UInt8} {c : List Int} (h : k.length = 32) (hs : saidOk l c) : made k l c = (macOf k (saidOf l c), 0) := by rw [made_key h, key_good hs]
theorem made_bad {k l : List UInt8} {c : List Int} (hs : ¬ saidOk l c) : made k l c = ([], 2) := by
  unfold made
  split
  · exact key_bad hs
  · rfl
/-- The key of the first epoch. -/
def first (k : List UInt8) (f : Int) : List UInt8 × Int := if f ≤ 4294967295 then made k lSeal [f] else ([], 2)
theorem first_far {k : List UInt8} {f : Int} (h : ¬ (0 ≤ f ∧ f ≤ 4294967295)) : first k f = ([], 2) := by
  unfold first
  split
  · exact made_bad (no_seal (by omega))
  · rfl
theorem first_in {k : List UInt8} {f : Int} (h : f ≤ 4294967295) : first k f = made k lSeal [f] := if_pos h
theorem first_good {k : List UInt8} {f : Int} (hk : k.length = 32) (h0 : 0 ≤ f) (h1 : f ≤ 4294967295) : first k f = (macOf k (saidOf lSeal [f]), 0) := by rw [first_in h1, made_good hk (ok_seal h0)]
theorem first_bad {k : List UInt8} {f : Int} (h : ¬ (k.length = 32 ∧ 0 ≤ f ∧ f ≤ 4294967295)) : first k f = ([], 2) := by
  by_cases hf : 0 ≤ f ∧ f ≤ 4294967295
  · rw [first_in hf.2, made_short (fun hk => h ⟨hk, hf⟩)]
  · exact first_far hf
/-- The key of data. -/
def data (k : List UInt8) : List UInt8 × Int := if k.length = 32 then ((macOf k (saidOf lData [] ++ [1])).take 16, 0) else ([], 2)
theorem data_good {k : List UInt8} (h : k.length = 32) : data k = ((macOf k (saidOf lData [] ++ [1])).take 16, 0) := if_pos h
theorem data_bad {k : List UInt8} (h : ¬ k.length = 32) : data k = ([], 2) := if_neg h
theorem data_long {k : List UInt8} (h : k.length = 32) : longFor k lData 16 = data k := by
  rw [data_good h, show (16 : Int) = ((16 : Nat) : Int) from rfl, long_good (by omega) ok_data, longOf]
  rfl
/-- The key so many epochs further. -/
def nextN (k : List UInt8) : Nat → List UInt8
  | 0 => k
  | n + 1 => macOf (nextN k n) (saidOf lNext [])
theorem nextN_length {k : List UInt8} (h : k.length = 32) : ∀ n, (nextN k n).length = 32
  | 0 => h
  | _ + 1 => mac_length _ _
theorem made_next {k : List UInt8} (h : k.length = 32) (n : Nat) : made (nextN k n) lNext [] = (nextN k (n + 1), 0) := made_good (nextN_length h n) ok_next
/-- The key at an epoch. -/
def at_ (k : List UInt8) (f e : Int) : List UInt8 × Int :=
  if k.length = 32 ∧ 0 ≤ f ∧ f ≤ e ∧ e ≤ 4294967295 then (if e - f ≤ 4096 then (nextN (macOf k (saidOf lSeal [f])) (e - f).toNat, 0) else ([], 6)) else ([], 2)
theorem at_good {k : List UInt8} {f e : Int} (hk : k.length = 32) (h0 : 0 ≤ f) (h1 : f ≤ e) (h2 : e ≤ 4294967295) (h3 : e - f ≤ 4096) : at_ k f e = (nextN (macOf k (saidOf lSeal [f])) (e - f).toNat, 0) := by
  rw [at_, if_pos ⟨hk, h0, h1, h2⟩, if_pos h3]
theorem at_far {k : List UInt8} {f e : Int} (hk : k.length = 32) (h0 : 0 ≤ f) (h1 : f ≤ e) (h2 : e ≤ 4294967295) (h3 : ¬ e - f ≤ 4096) : at_ k f e = ([], 6) := by
  rw [at_, if_pos ⟨hk, h0, h1, h2⟩, if_neg h3]
theorem at_bad {k : List UInt8} {f e : Int} (h : ¬ (k.length = 32 ∧ 0 ≤ f ∧ f ≤ e ∧ e ≤ 4294967295)) : at_ k f e = ([], 2) := if_neg h
theorem first_length (k : List UInt8) (f : Int) : (macOf k (saidOf lSeal [f])).length = 32 := mac_length _ _
/-- The three labels of the last statement, and what is said of them. -/
def lab : Nat → List UInt8
  | 0 => lNext
  | 1 => lMac
  | _ => lAsk
theorem ok_lab : ∀ i, saidOk (lab i) []
  | 0 => ok_next
  | 1 => ok_mac
  | _ + 2 => ok_ask
theorem lab_apart {i j : Nat} (hi : i < 3) (hj : j < i) : saidOf (lab i) [] ≠ saidOf (lab j) [] := by
  intro h
  have h2 := (said_begins (r := []) (ok_lab i) (ok_lab j) (by simp) (by simp) (by rw [List.append_nil]; exact h)).1
  have : (i = 1 ∧ j = 0) ∨ (i = 2 ∧ j = 0) ∨ (i = 2 ∧ j = 1) := by omega
  rcases this with ⟨rfl, rfl⟩ | ⟨rfl, rfl⟩ | ⟨rfl, rfl⟩ <;> exact absurd h2 (by decide)
end Go.Proofs.YtkidehngleglnaaGreatDoor.EvoN
