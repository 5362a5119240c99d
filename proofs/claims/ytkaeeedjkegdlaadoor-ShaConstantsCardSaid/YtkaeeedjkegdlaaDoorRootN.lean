/- Pure reckoning of the roots' bits as the document's answer for layer 2 does it: rows of digits to the base 65536, trial division; that the constants are what it gives, by evaluation. No conditions. -/
import Derived.Test.YtkaeeedjkegdlaaDoorShaNum
namespace Go.Proofs.YtkaeeedjkegdlaaDoor.RootN
/-- The digits of a carry. -/
def tl : Nat → Nat → List Nat
  | 0, _ => []
  | f + 1, c => if c = 0 then [] else c % 65536 :: tl f (c / 65536)
/-- A row of digits times n, with a carry. -/
def times : List Nat → Nat → Nat → List Nat
  | [], _, c => tl 4 c
  | d :: l, n, c => (c + d * n) % 65536 :: times l n ((c + d * n) / 65536)
/-- Is the first row above the second one, by the lower so many digits? -/
def cmp : Nat → List Nat → List Nat → Bool
  | 0, _, _ => false
  | i + 1, a, b => if a.getD i 0 = b.getD i 0 then cmp i a b else decide (b.getD i 0 < a.getD i 0)
def rows : Nat → List Nat → Nat → List Nat
  | 0, l, _ => l
  | k + 1, l, n => times (rows k l n) n 0
def above (r p k : Nat) : Bool := cmp (max (rows k [1] r).length (rows k [p] 4294967296).length) (rows k [1] r) (rows k [p] 4294967296)
/-- The root's bits, so many of them left. -/
def look (p k : Nat) : Nat → Nat → Nat
  | 0, r => r
  | b + 1, r => look p k b (if above (r + 2 ^ b) p k then r else r + 2 ^ b)
def behind (p k : Nat) : Nat := look p k 36 0 % 4294967296
/-- Has p no divisor from d on? -/
def free : Nat → Nat → Nat → Bool
  | 0, _, _ => true
  | f + 1, p, d => if d * d ≤ p then (if p % d = 0 then false else free f p (d + 1)) else true
def isp (p : Nat) : Bool := free (p - 2) p 2
/-- 1, and the first 64 primes. -/
def ps : List Nat := [1, 2, 3, 5, 7, 11, 13, 17, 19, 23, 29, 31, 37, 41, 43, 47, 53, 59, 61, 67, 71, 73, 79, 83, 89, 97, 101, 103, 107, 109, 113, 127, 131, 137, 139, 149, 151, 157, 163, 167, 173, 179, 181, 191, 193, 197, 199, 211, 223, 227, 229, 233, 239, 241, 251, 257, 263, 269, 271, 277, 281, 283, 293, 307, 311]
theorem ps_good : ∀ k, k < 64 → isp (ps.getD (k + 1) 0) = true ∧ ps.getD k 0 < ps.getD (k + 1) 0 ∧ ps.getD (k + 1) 0 ≤ 311 ∧ 1 ≤ ps.getD k 0 ∧ ∀ j, j < ps.getD (k + 1) 0 - ps.getD k 0 - 1 → isp (ps.getD k 0 + 1 + j) = false := by decide +kernel
theorem cube : ∀ k, k < 64 → behind (ps.getD (k + 1) 0) 3 = kList.getD k 0 := by decide +kernel
theorem square : ∀ k, k < 8 → behind (ps.getD (k + 1) 0) 2 = [st0.a, st0.b, st0.c, st0.d, st0.e, st0.f, st0.g, st0.h].getD k 0 := by decide +kernel
end Go.Proofs.YtkaeeedjkegdlaaDoor.RootN
