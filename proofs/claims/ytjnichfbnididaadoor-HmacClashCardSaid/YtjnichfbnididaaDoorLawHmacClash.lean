/- HmacClash: at any two keys and messages of at most 500 bytes each (else: the chapter's example alone, as the statement has it), where two that are unlike have one tag, Clash tells two unlike texts of one sum; else none. The condition: the rounds' numbers lie in the program's variable (the card ties it to the program's text). -/
import Derived.Test.YtjnichfbnididaaDoorHAlive
import Derived.Test.YtjnichfbnididaaDoorHClash
import Derived.Test.YtjnichfbnididaaDoorRows
import Derived.Test.YtjnichfbnididaaDoorTie
import Derived.Test.YtjnichfbnididaaDoorCards
import Derived.Test.YtjnichfbnididaaDoorSLaid
import Derived.WalkKit
import Derived.ProofKit
import Derived.OpenShut
import Derived.ShutString
import Derived.ChangeOld
import Derived.Below
import Derived.LaidMore
import Derived.SevenTiedAt
import Derived.Stop.Joined
namespace Go.Proofs.YtjnichfbnididaaDoor.hmacClash
open Go.ChangeShapes Go.WideShapes Go.ChangeAt Go.RowKit
open Go.ChangeMaps (open_string shut_string)
set_option linter.unusedVariables false
open STurn
theorem long (k m l n : ByteArray) (w : World) (hr : Rds w) (h : (500 : Int) < (k.size : Int) ∨ (500 : Int) < (m.size : Int) ∨ (500 : Int) < (l.size : Int) ∨ (500 : Int) < (n.size : Int)) :
    Calls Tryd.prog 5 #[.string k, .string m, .string l, .string n] w fun e w' => e = .returned (.bool true) ∧ Below w.heap.size w w' := by
  have HR := Lib.hid hr
  clear hr
  by_cases h1 : (500 : Int) < (k.size : Int)
  · clear h
    go_enter Tryd.func5, Tryd.ntmps5
    go_wp2_with (go_at_call 7; refine (HAlive.any _ HR.out).mono ?_; rintro e w1 ⟨rfl, hb1⟩)
    go_ret
    exact ⟨rfl, hb1⟩
  by_cases h2 : (500 : Int) < (m.size : Int)
  · clear h
    go_enter Tryd.func5, Tryd.ntmps5
    go_wp2_with (go_at_call 7; refine (HAlive.any _ HR.out).mono ?_; rintro e w1 ⟨rfl, hb1⟩)
    go_ret
    exact ⟨rfl, hb1⟩
  by_cases h3 : (500 : Int) < (l.size : Int)
  · clear h
    go_enter Tryd.func5, Tryd.ntmps5
    go_wp2_with (go_at_call 7; refine (HAlive.any _ HR.out).mono ?_; rintro e w1 ⟨rfl, hb1⟩)
    go_ret
    exact ⟨rfl, hb1⟩
  · have h4 : (500 : Int) < (n.size : Int) := by omega
    clear h
    go_enter Tryd.func5, Tryd.ntmps5
    go_wp2_with (go_at_call 7; refine (HAlive.any _ HR.out).mono ?_; rintro e w1 ⟨rfl, hb1⟩)
    go_ret
    exact ⟨rfl, hb1⟩
/-- What the statement asks of what Clash told. -/
def asked (k m l n : List UInt8) (r : List UInt8 × List UInt8 × Bool) : Prop :=
  (keyBlock k = keyBlock l ∧ m = n → r = ([], [], false)) ∧ (macOf k m ≠ macOf l n → r = ([], [], false)) ∧
  (¬ (keyBlock k = keyBlock l ∧ m = n) → macOf k m = macOf l n → ∃ a b, r = (a, b, true) ∧ a ≠ b ∧ sum a = sum b ∧ a.length ≤ 600 ∧ b.length ≤ 600)
theorem met (k m l n : List UInt8) (h1 : m.length ≤ 500) (h2 : n.length ≤ 500) : asked k m l n (HClash.clashOf k m l n) := by
  unfold asked HClash.clashOf HCla.found
  refine ⟨fun h => if_neg (fun g => g.2 h), fun h => if_neg (fun g => h g.1), fun h hm => ?_⟩
  rw [if_pos ⟨hm, h⟩]
  by_cases ho : outerOf k m = outerOf l n
  · rw [if_pos ho]
    exact ⟨_, _, rfl, fun e => h (inner_inj e), (outer_inj ho).2, by rw [inner_length]; omega, by rw [inner_length]; omega⟩
  · rw [if_neg ho]
    exact ⟨_, _, rfl, ho, hm, by rw [outer_length]; omega, by rw [outer_length]; omega⟩
set_option maxHeartbeats 1000000 in
/-- The same block, and the same message. -/
theorem same (k m l : List UInt8) (w : World) (hr : Rds w) (h1 : ¬ (500 : Int) < (k.length : Int)) (h2 : ¬ (500 : Int) < (m.length : Int)) (h3 : ¬ (500 : Int) < (l.length : Int)) (hb : keyBlock k = keyBlock l) :
    Calls Tryd.prog 5 #[.string ⟨k.toArray⟩, .string ⟨m.toArray⟩, .string ⟨l.toArray⟩, .string ⟨m.toArray⟩] w fun e w' => e = .returned (.bool true) ∧ Below w.heap.size w w' := by
  have PC := Lib.hid (fun W hr => HClash.Clash k m l m W hr (by omega) (by omega) (by omega) (by omega))
  have P1 := Lib.hid (fun W hr => HKey.Key k W hr (by omega))
  have P2 := Lib.hid (fun W hr => HKey.Key l W hr (by omega))
  rw [(met k m l m (by omega) (by omega)).1 ⟨hb, rfl⟩] at PC
  rw [← hb] at P2
  generalize keyBlock k = b at *
  have HR := Lib.hid hr
  clear hr hb
  go_enter Tryd.func5, Tryd.ntmps5
  go_wp2_with fail
  refine (PC.out _ HR.out).mono ?_
  rintro e w1 ⟨rfl, hb1⟩
  have HB1 := Lib.hid hb1
  clear hb1
  go_wp2_with fail
  refine (P1.out _ (HR.out.step HB1.out)).mono ?_
  rintro e w2 ⟨rfl, hb2⟩
  have HB2 := Lib.hid (HB1.out.trans (hb2.mono HB1.out.size))
  clear hb2
  go_wp2_with fail
  refine (P2.out _ (HR.out.step HB2.out)).mono ?_
  rintro e w3 ⟨rfl, hb3⟩
  have HB3 := Lib.hid (HB2.out.trans (hb3.mono HB2.out.size))
  clear hb3
  go_wp2_with fail
  refine (HAlive.any _ (HR.out.step HB3.out)).mono ?_
  rintro e w4 ⟨rfl, hb4⟩
  have HB4 := Lib.hid (HB3.out.trans (hb4.mono HB3.out.size))
  clear hb4
  go_wp2
  go_ret
  exact ⟨rfl, HB4.out⟩
set_option maxHeartbeats 1000000 in
theorem key_other (k m l n : List UInt8) (w : World) (hr : Rds w) (h1 : ¬ (500 : Int) < (k.length : Int)) (h2 : ¬ (500 : Int) < (m.length : Int)) (h3 : ¬ (500 : Int) < (l.length : Int)) (h4 : ¬ (500 : Int) < (n.length : Int)) (hb : keyBlock k ≠ keyBlock l) (hz : macOf k m ≠ macOf l n) :
    Calls Tryd.prog 5 #[.string ⟨k.toArray⟩, .string ⟨m.toArray⟩, .string ⟨l.toArray⟩, .string ⟨n.toArray⟩] w fun e w' => e = .returned (.bool true) ∧ Below w.heap.size w w' := by
  have PC := Lib.hid (fun W hr => HClash.Clash k m l n W hr (by omega) (by omega) (by omega) (by omega))
  have P1 := Lib.hid (fun W hr => HKey.Key k W hr (by omega))
  have P2 := Lib.hid (fun W hr => HKey.Key l W hr (by omega))
  have M1 := Lib.hid (fun W hr => HPart.Mac k m W hr (by omega) (by omega))
  have M2 := Lib.hid (fun W hr => HPart.Mac l n W hr (by omega) (by omega))
  have HA := met k m l n (by omega) (by omega)
  generalize HClash.clashOf k m l n = r at *
  obtain rfl := HA.2.1 hz
  have hx : (!keyBlock k == keyBlock l) = true := by simpa using hb
  have hy : (!macOf k m == macOf l n) = true := by simpa using hz
  clear HA hb hz
  generalize keyBlock k = b1 at *
  generalize keyBlock l = b2 at *
  generalize macOf k m = z1 at *
  generalize macOf l n = z2 at *
  have HR := Lib.hid hr
  clear hr
  go_enter Tryd.func5, Tryd.ntmps5
  go_wp2_with fail
  refine (PC.out _ HR.out).mono ?_
  rintro e w1 ⟨rfl, hb1⟩
  have HB1 := Lib.hid hb1
  clear hb1
  go_wp2_with fail
  refine (P1.out _ (HR.out.step HB1.out)).mono ?_
  rintro e w2 ⟨rfl, hb2⟩
  have HB2 := Lib.hid (HB1.out.trans (hb2.mono HB1.out.size))
  clear hb2
  go_wp2_with fail
  refine (P2.out _ (HR.out.step HB2.out)).mono ?_
  rintro e w3 ⟨rfl, hb3⟩
  have HB3 := Lib.hid (HB2.out.trans (hb3.mono HB2.out.size))
  clear hb3
  go_wp2_with fail
  refine (M1.out _ (HR.out.step HB3.out)).mono ?_
  rintro e w4 ⟨rfl, hb4⟩
  have HB4 := Lib.hid (HB3.out.trans (hb4.mono HB3.out.size))
  clear hb4
  go_wp2_with fail
  refine (M2.out _ (HR.out.step HB4.out)).mono ?_
  rintro e w5 ⟨rfl, hb5⟩
  have HB5 := Lib.hid (HB4.out.trans (hb5.mono HB4.out.size))
  clear hb5
  go_wp2_with fail
  refine (HAlive.any _ (HR.out.step HB5.out)).mono ?_
  rintro e w6 ⟨rfl, hb6⟩
  have HB6 := Lib.hid (HB5.out.trans (hb6.mono HB5.out.size))
  clear hb6
  go_wp2
  go_ret
  exact ⟨rfl, HB6.out⟩
set_option maxHeartbeats 1000000 in
theorem key_found (k m l n : List UInt8) (w : World) (hr : Rds w) (h1 : ¬ (500 : Int) < (k.length : Int)) (h2 : ¬ (500 : Int) < (m.length : Int)) (h3 : ¬ (500 : Int) < (l.length : Int)) (h4 : ¬ (500 : Int) < (n.length : Int)) (hb : keyBlock k ≠ keyBlock l) (hz : macOf k m = macOf l n) :
    Calls Tryd.prog 5 #[.string ⟨k.toArray⟩, .string ⟨m.toArray⟩, .string ⟨l.toArray⟩, .string ⟨n.toArray⟩] w fun e w' => e = .returned (.bool true) ∧ Below w.heap.size w w' := by
  have PC := Lib.hid (fun W hr => HClash.Clash k m l n W hr (by omega) (by omega) (by omega) (by omega))
  have P1 := Lib.hid (fun W hr => HKey.Key k W hr (by omega))
  have P2 := Lib.hid (fun W hr => HKey.Key l W hr (by omega))
  have M1 := Lib.hid (fun W hr => HPart.Mac k m W hr (by omega) (by omega))
  have M2 := Lib.hid (fun W hr => HPart.Mac l n W hr (by omega) (by omega))
  have HA := met k m l n (by omega) (by omega)
  generalize HClash.clashOf k m l n = r at *
  obtain ⟨a, b, rfl, hab, hs, ha, hb6⟩ := HA.2.2 (fun h => hb h.1) hz
  have S1 := Lib.hid (fun W hr => SFold.one a W hr (by omega))
  have S2 := Lib.hid (fun W hr => SFold.one b W hr (by omega))
  rw [← hs] at S2
  rw [← hz] at M2
  generalize sum a = s at *
  have hq : (!a == b) = true := by simpa using hab
  have hx : (!keyBlock k == keyBlock l) = true := by simpa using hb
  clear HA hb hz hs hab ha hb6
  generalize keyBlock k = b1 at *
  generalize keyBlock l = b2 at *
  generalize macOf k m = z1 at *
  have HR := Lib.hid hr
  clear hr
  go_enter Tryd.func5, Tryd.ntmps5
  go_wp2_with fail
  refine (PC.out _ HR.out).mono ?_
  rintro e w1 ⟨rfl, hb1⟩
  have HB1 := Lib.hid hb1
  clear hb1
  go_wp2_with fail
  refine (P1.out _ (HR.out.step HB1.out)).mono ?_
  rintro e w2 ⟨rfl, hb2⟩
  have HB2 := Lib.hid (HB1.out.trans (hb2.mono HB1.out.size))
  clear hb2
  go_wp2_with fail
  refine (P2.out _ (HR.out.step HB2.out)).mono ?_
  rintro e w3 ⟨rfl, hb3⟩
  have HB3 := Lib.hid (HB2.out.trans (hb3.mono HB2.out.size))
  clear hb3
  go_wp2_with fail
  refine (M1.out _ (HR.out.step HB3.out)).mono ?_
  rintro e w4 ⟨rfl, hb4⟩
  have HB4 := Lib.hid (HB3.out.trans (hb4.mono HB3.out.size))
  clear hb4
  go_wp2_with fail
  refine (M2.out _ (HR.out.step HB4.out)).mono ?_
  rintro e w5 ⟨rfl, hb5⟩
  have HB5 := Lib.hid (HB4.out.trans (hb5.mono HB4.out.size))
  clear hb5
  go_wp2_with fail
  refine (S1.out _ (HR.out.step HB5.out)).mono ?_
  rintro e w6 ⟨rfl, hb6⟩
  have HB6 := Lib.hid (HB5.out.trans (hb6.mono HB5.out.size))
  clear hb6
  go_wp2_with fail
  refine (S2.out _ (HR.out.step HB6.out)).mono ?_
  rintro e w7 ⟨rfl, hb7⟩
  have HB7 := Lib.hid (HB6.out.trans (hb7.mono HB6.out.size))
  clear hb7
  go_wp2_with fail
  refine (HAlive.any _ (HR.out.step HB7.out)).mono ?_
  rintro e w8 ⟨rfl, hb8⟩
  have HB8 := Lib.hid (HB7.out.trans (hb8.mono HB7.out.size))
  clear hb8
  go_wp2
  go_ret
  exact ⟨rfl, HB8.out⟩
set_option maxHeartbeats 1000000 in
theorem msg_other (k m l n : List UInt8) (w : World) (hr : Rds w) (h1 : ¬ (500 : Int) < (k.length : Int)) (h2 : ¬ (500 : Int) < (m.length : Int)) (h3 : ¬ (500 : Int) < (l.length : Int)) (h4 : ¬ (500 : Int) < (n.length : Int)) (hb : keyBlock k = keyBlock l) (hm : m ≠ n) (hz : macOf k m ≠ macOf l n) :
    Calls Tryd.prog 5 #[.string ⟨k.toArray⟩, .string ⟨m.toArray⟩, .string ⟨l.toArray⟩, .string ⟨n.toArray⟩] w fun e w' => e = .returned (.bool true) ∧ Below w.heap.size w w' := by
  have PC := Lib.hid (fun W hr => HClash.Clash k m l n W hr (by omega) (by omega) (by omega) (by omega))
  have P1 := Lib.hid (fun W hr => HKey.Key k W hr (by omega))
  have P2 := Lib.hid (fun W hr => HKey.Key l W hr (by omega))
  have M1 := Lib.hid (fun W hr => HPart.Mac k m W hr (by omega) (by omega))
  have M2 := Lib.hid (fun W hr => HPart.Mac l n W hr (by omega) (by omega))
  have HA := met k m l n (by omega) (by omega)
  generalize HClash.clashOf k m l n = r at *
  obtain rfl := HA.2.1 hz
  rw [← hb] at P2
  have hx : (!m == n) = true := by simpa using hm
  have hy : (!macOf k m == macOf l n) = true := by simpa using hz
  clear HA hb hz hm
  generalize keyBlock k = b1 at *
  generalize macOf k m = z1 at *
  generalize macOf l n = z2 at *
  have HR := Lib.hid hr
  clear hr
  go_enter Tryd.func5, Tryd.ntmps5
  go_wp2_with fail
  refine (PC.out _ HR.out).mono ?_
  rintro e w1 ⟨rfl, hb1⟩
  have HB1 := Lib.hid hb1
  clear hb1
  go_wp2_with fail
  refine (P1.out _ (HR.out.step HB1.out)).mono ?_
  rintro e w2 ⟨rfl, hb2⟩
  have HB2 := Lib.hid (HB1.out.trans (hb2.mono HB1.out.size))
  clear hb2
  go_wp2_with fail
  refine (P2.out _ (HR.out.step HB2.out)).mono ?_
  rintro e w3 ⟨rfl, hb3⟩
  have HB3 := Lib.hid (HB2.out.trans (hb3.mono HB2.out.size))
  clear hb3
  go_wp2_with fail
  refine (M1.out _ (HR.out.step HB3.out)).mono ?_
  rintro e w4 ⟨rfl, hb4⟩
  have HB4 := Lib.hid (HB3.out.trans (hb4.mono HB3.out.size))
  clear hb4
  go_wp2_with fail
  refine (M2.out _ (HR.out.step HB4.out)).mono ?_
  rintro e w5 ⟨rfl, hb5⟩
  have HB5 := Lib.hid (HB4.out.trans (hb5.mono HB4.out.size))
  clear hb5
  go_wp2_with fail
  refine (HAlive.any _ (HR.out.step HB5.out)).mono ?_
  rintro e w6 ⟨rfl, hb6⟩
  have HB6 := Lib.hid (HB5.out.trans (hb6.mono HB5.out.size))
  clear hb6
  go_wp2
  go_ret
  exact ⟨rfl, HB6.out⟩
set_option maxHeartbeats 1000000 in
theorem msg_found (k m l n : List UInt8) (w : World) (hr : Rds w) (h1 : ¬ (500 : Int) < (k.length : Int)) (h2 : ¬ (500 : Int) < (m.length : Int)) (h3 : ¬ (500 : Int) < (l.length : Int)) (h4 : ¬ (500 : Int) < (n.length : Int)) (hb : keyBlock k = keyBlock l) (hm : m ≠ n) (hz : macOf k m = macOf l n) :
    Calls Tryd.prog 5 #[.string ⟨k.toArray⟩, .string ⟨m.toArray⟩, .string ⟨l.toArray⟩, .string ⟨n.toArray⟩] w fun e w' => e = .returned (.bool true) ∧ Below w.heap.size w w' := by
  have PC := Lib.hid (fun W hr => HClash.Clash k m l n W hr (by omega) (by omega) (by omega) (by omega))
  have P1 := Lib.hid (fun W hr => HKey.Key k W hr (by omega))
  have P2 := Lib.hid (fun W hr => HKey.Key l W hr (by omega))
  have M1 := Lib.hid (fun W hr => HPart.Mac k m W hr (by omega) (by omega))
  have M2 := Lib.hid (fun W hr => HPart.Mac l n W hr (by omega) (by omega))
  have HA := met k m l n (by omega) (by omega)
  generalize HClash.clashOf k m l n = r at *
  obtain ⟨a, b, rfl, hab, hs, ha, hb6⟩ := HA.2.2 (fun h => hm h.2) hz
  have S1 := Lib.hid (fun W hr => SFold.one a W hr (by omega))
  have S2 := Lib.hid (fun W hr => SFold.one b W hr (by omega))
  rw [← hs] at S2
  rw [← hz] at M2
  generalize sum a = s at *
  have hq : (!a == b) = true := by simpa using hab
  rw [← hb] at P2
  have hx : (!m == n) = true := by simpa using hm
  clear HA hb hz hs hab ha hb6 hm
  generalize keyBlock k = b1 at *
  generalize macOf k m = z1 at *
  have HR := Lib.hid hr
  clear hr
  go_enter Tryd.func5, Tryd.ntmps5
  go_wp2_with fail
  refine (PC.out _ HR.out).mono ?_
  rintro e w1 ⟨rfl, hb1⟩
  have HB1 := Lib.hid hb1
  clear hb1
  go_wp2_with fail
  refine (P1.out _ (HR.out.step HB1.out)).mono ?_
  rintro e w2 ⟨rfl, hb2⟩
  have HB2 := Lib.hid (HB1.out.trans (hb2.mono HB1.out.size))
  clear hb2
  go_wp2_with fail
  refine (P2.out _ (HR.out.step HB2.out)).mono ?_
  rintro e w3 ⟨rfl, hb3⟩
  have HB3 := Lib.hid (HB2.out.trans (hb3.mono HB2.out.size))
  clear hb3
  go_wp2_with fail
  refine (M1.out _ (HR.out.step HB3.out)).mono ?_
  rintro e w4 ⟨rfl, hb4⟩
  have HB4 := Lib.hid (HB3.out.trans (hb4.mono HB3.out.size))
  clear hb4
  go_wp2_with fail
  refine (M2.out _ (HR.out.step HB4.out)).mono ?_
  rintro e w5 ⟨rfl, hb5⟩
  have HB5 := Lib.hid (HB4.out.trans (hb5.mono HB4.out.size))
  clear hb5
  go_wp2_with fail
  refine (S1.out _ (HR.out.step HB5.out)).mono ?_
  rintro e w6 ⟨rfl, hb6⟩
  have HB6 := Lib.hid (HB5.out.trans (hb6.mono HB5.out.size))
  clear hb6
  go_wp2_with fail
  refine (S2.out _ (HR.out.step HB6.out)).mono ?_
  rintro e w7 ⟨rfl, hb7⟩
  have HB7 := Lib.hid (HB6.out.trans (hb7.mono HB6.out.size))
  clear hb7
  go_wp2_with fail
  refine (HAlive.any _ (HR.out.step HB7.out)).mono ?_
  rintro e w8 ⟨rfl, hb8⟩
  have HB8 := Lib.hid (HB7.out.trans (hb8.mono HB7.out.size))
  clear hb8
  go_wp2
  go_ret
  exact ⟨rfl, HB8.out⟩
theorem walk (k m l n : ByteArray) (w : World) (w0 : k.size ≤ maxLen) (w1 : m.size ≤ maxLen) (w2 : l.size ≤ maxLen) (w3 : n.size ≤ maxLen) (hr : Rds w) :
    Calls Tryd.prog 5 #[.string k, .string m, .string l, .string n] w fun e w' => e = .returned (.bool true) ∧ Below w.heap.size w w' := by
  by_cases h1 : (500 : Int) < (k.size : Int)
  · exact long k m l n w hr (.inl h1)
  by_cases h2 : (500 : Int) < (m.size : Int)
  · exact long k m l n w hr (.inr (.inl h2))
  by_cases h3 : (500 : Int) < (l.size : Int)
  · exact long k m l n w hr (.inr (.inr (.inl h3)))
  by_cases h4 : (500 : Int) < (n.size : Int)
  · exact long k m l n w hr (.inr (.inr (.inr h4)))
  obtain ⟨k, rfl⟩ : ∃ x : List UInt8, k = ⟨x.toArray⟩ := ⟨k.data.toList, rfl⟩
  obtain ⟨m, rfl⟩ : ∃ x : List UInt8, m = ⟨x.toArray⟩ := ⟨m.data.toList, rfl⟩
  obtain ⟨l, rfl⟩ : ∃ x : List UInt8, l = ⟨x.toArray⟩ := ⟨l.data.toList, rfl⟩
  obtain ⟨n, rfl⟩ : ∃ x : List UInt8, n = ⟨x.toArray⟩ := ⟨n.data.toList, rfl⟩
  by_cases hb : keyBlock k = keyBlock l
  · by_cases hm : m = n
    · subst hm
      exact same k m l w hr h1 h2 h3 hb
    · by_cases hz : macOf k m = macOf l n
      · exact msg_found k m l n w hr h1 h2 h3 h4 hb hm hz
      · exact msg_other k m l n w hr h1 h2 h3 h4 hb hm hz
  · by_cases hz : macOf k m = macOf l n
    · exact key_found k m l n w hr h1 h2 h3 h4 hb hz
    · exact key_other k m l n w hr h1 h2 h3 h4 hb hz
theorem own : ownKnob Tryd.prog.godebug = none := by kernel_rfl
theorem laidOut : laidOutB Tryd.prog = true := by kernel_rfl
set_option maxRecDepth 100000 in
theorem lifted (os : Os) (started : os.Started) (H : Type) (enc : TypeId × Value → H) :
    ReturnsInHanded {} Tryd.checked os 5 .any (fun w args => (Rows.hmacClashSpec.pre enc Tryd.prog Tryd.f5 Rows.hmacClashRow.domain false w args ∧ laidMetH Tryd.prog Rows.hmacClashRow.laid w) ∧ sizedMet enc Tryd.prog Tryd.f5 (OpenSpec.ofChange Rows.hmacClashSpec) false w args) (Rows.hmacClashSpec.post enc Tryd.prog Tryd.f5 false true false false) := by
  refine returnsInHanded_of_change_and (C := Tryd.checked) (X := fun w _ => laidMetH Tryd.prog Rows.hmacClashRow.laid w) (fun _ _ _ hh h => h.of_heap hh) own started (by kernel_rfl) Tryd.func5
    (ChangeSpec.witness_shaped (enc := enc) (C := Tryd.checked) (os := os) (X := fun w _ => laidMetH Tryd.prog Rows.hmacClashRow.laid w) false (World.doorLaid Tryd.prog 400 os) #[.string ByteArray.empty, .string ByteArray.empty, .string ByteArray.empty, .string ByteArray.empty] 8 rfl (World.shaped_of_RefB (by kernel_rfl) (by kernel_rfl)) (by kernel_rfl) (by kernel_rfl) (by kernel_rfl) (SLaid.door_met os _)) ?_
  intro W base args ds gs before hval0 hW _ _ hL _
  have hr := SLaid.of_laid hL
  have hval : ∀ (j : Nat) t v, Tryd.f5.params[j]? = some t → args[j]? = some v → Value.okWide Tryd.prog W .any base t v := hval0
  have hW' := hW
  obtain ⟨p, q, hA0, hV, rfl, hfz, hnd⟩ := hW
  have hA : DataW.TrodAll enc Tryd.prog W 0 (fun _ => true) true Tryd.f5.params.toList args.toList ds p := hA0
  rw [Tryd.params5] at hA hval
  obtain ⟨v0, vs0, d0, ds0, p0, q0, hargs, rfl, rfl, h0, r0⟩ := trodAll_cons hA
  obtain ⟨v1, vs1, d1, ds1, p1, q1, rfl, rfl, rfl, h1, r1⟩ := trodAll_cons r0
  obtain ⟨v2, vs2, d2, ds2, p2, q2, rfl, rfl, rfl, h2, r2⟩ := trodAll_cons r1
  obtain ⟨v3, vs3, d3, ds3, p3, q3, rfl, rfl, rfl, h3, r3⟩ := trodAll_cons r2
  obtain ⟨rfl, rfl, rfl⟩ := trodAll_nil r3
  obtain rfl : args = #[v0, v1, v2, v3] := by cases args; simp_all
  obtain ⟨rfl, rfl⟩ := trodVars_none hV
  obtain ⟨a0, rfl, rfl, rfl, w0⟩ := open_string Tryd.underlying9 (hval 0 9 v0 rfl rfl) h0
  obtain ⟨a1, rfl, rfl, rfl, w1⟩ := open_string Tryd.underlying9 (hval 1 9 v1 rfl rfl) h1
  obtain ⟨a2, rfl, rfl, rfl, w2⟩ := open_string Tryd.underlying9 (hval 2 9 v2 rfl rfl) h2
  obtain ⟨a3, rfl, rfl, rfl, w3⟩ := open_string Tryd.underlying9 (hval 3 9 v3 rfl rfl) h3
  clear hA0 hval0
  refine (walk a0 a1 a2 a3 W w0 w1 w2 w3 hr).mono fun e W' ⟨he, bel⟩ => ?_
  subst he
  exact ⟨_, rfl, _, _, _, [], _, [], hW', trodAll_mk1 (shut_bool Tryd.underlying4 _), (trodAll_cons_mk (shut_string Tryd.underlying9 w0) (trodAll_cons_mk (shut_string Tryd.underlying9 w1) (trodAll_cons_mk (shut_string Tryd.underlying9 w2) (trodAll_cons_mk (shut_string Tryd.underlying9 w3) trodAll_mk0)))), rfl, bel.frame _, fun h => by cases h⟩
theorem over : Rows.hmacClashRow.holds Tryd.pinned (OpenSpec.ofChange Rows.hmacClashSpec) :=
  OpenClaim.holds_of_wide 5 Tryd.f5 rfl rfl rfl rfl rfl rfl rfl ⟨rfl, rfl, rfl, rfl, rfl⟩ rfl rfl rfl rfl rfl (by kernel_rfl) Tryd.func5 (by kernel_rfl)
    (of_decide_eq_true (by kernel_rfl)) (by unfold Func.isWrapper; first | (rw [if_pos (by decide +kernel)]; kernel_rfl) | (rw [if_neg (by decide +kernel)]; exact ⟨rfl, rfl⟩))
    (fun os started H enc _ => lifted os started H enc)
/-- THE STATEMENT, proved. -/
theorem proved : Rows.HmacClashCardSaid :=
  Claim7.holds_tied_plain_at .later [] _ true _ false
    over (fun _ h => by cases h) (by kernel_rfl) (fun _ h => by cases h) hmacClash_row_tie rfl ⟨rfl, rfl⟩ (by kernel_rfl) rfl
    (fun f fn hf hfn => by
      obtain rfl : f = 5 := Option.some.inj ((show Tryd.prog.funcNamed "keepsake/keepsakelaw03.HmacClash" = some 5 by kernel_rfl).symm.trans hf) |>.symm
      obtain rfl : fn = Tryd.f5 := (Option.some.inj (Tryd.func5.symm.trans hfn)).symm
      exact ⟨by kernel_rfl, fun j t ht => by
        rw [Tryd.params5] at ht
        have hm : t ∈ [9, 9, 9, 9] := by simpa using Array.mem_of_getElem? ht
        have hall : ([9, 9, 9, 9].all fun u => !Tryd.prog.wantsStandIn u) = true := by kernel_rfl
        exact (show Tryd.prog.wantsStandIn t = false by simpa using List.all_eq_true.1 hall t hm)⟩)
    (by kernel_rfl)
#print axioms proved
end Go.Proofs.YtjnichfbnididaaDoor.hmacClash
