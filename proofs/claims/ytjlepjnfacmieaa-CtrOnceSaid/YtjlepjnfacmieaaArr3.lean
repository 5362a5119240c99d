/- An array of three ints that comes in: its three numbers. The conditions: the type's own facts, that it came in as a Go program's value. -/
import Derived.OpenShut
import Derived.ChangeKeysEq
import Derived.Test.YtjlepjnfacmieaaRows
namespace Go.Proofs.Ytjlepjnfacmieaa
theorem open_arr3 {H : Type} {enc : TypeId × Value → H} {P : Program} {W : World} {base : Nat} {sp : Nat → Bool} {held : Bool} {t e : TypeId}
    (hu : P.underlying t = some (.array 3 e)) (he : P.underlying e = some (.int .i64)) (hc : P.cellsOf e = 1) (hct : P.cellsOf t = 3) {r : Reach} {b0 : Nat} {v : Value} {d : DataW H} {p : List MemPlace}
    (hval : Value.okWide P W r b0 t v) (h : DataW.Trod enc P W base sp held t v d p) :
    ∃ a b c : Int, v = .agg #[.int .i64 a, .int .i64 b, .int .i64 c] ∧ (Lit.int .i64 a).wf = true ∧ (Lit.int .i64 b).wf = true ∧ (Lit.int .i64 c).wf = true := by
  simp only [Value.okWide, hu] at hval
  obtain ⟨cs, rfl, hs, _⟩ := hval
  rw [hct] at hs
  obtain ⟨fuel, hf⟩ := h
  obtain ⟨xs, m, rfl, _, _, hn, hel⟩ := DataW.trod_array hu hf
  obtain ⟨l, rfl⟩ : ∃ l : List Value, cs = l.toArray := ⟨cs.toList, by simp⟩
  have hl : l.length = 3 := by simpa using hs
  have one : ∀ i, i < 3 → ∃ n, (l.drop i).take 1 = [.int .i64 n] ∧ (Lit.int .i64 n).wf = true := by
    intro i hi
    have h1 := hel i hi
    rw [hc, Nat.mul_one, List.getElem?_eq_getElem (by omega)] at h1
    obtain ⟨n, hn, _, hw⟩ := DataW.trod_int he h1
    exact ⟨n, by simpa [Value.cells] using hn, hw⟩
  match l, hl with
  | [x, y, z], _ =>
    obtain ⟨a, ha, wa⟩ := one 0 (by omega)
    obtain ⟨b, hb, wb⟩ := one 1 (by omega)
    obtain ⟨c, hc', wc⟩ := one 2 (by omega)
    simp at ha hb hc'
    subst ha hb hc'
    exact ⟨a, b, c, rfl, wa, wb, wc⟩
theorem infoInt : ∃ i, Try.prog.info? 3 = some i := by
  cases h : Try.prog.info? 3 with
  | some i => exact ⟨i, rfl⟩
  | none => exact absurd (show (Try.prog.info? 3).isSome = true by kernel_rfl) (by rw [h]; simp)
theorem cellsInt : Try.prog.cellsOf 3 = 1 := by kernel_rfl
theorem items3 (n : Nat) (W : World) (a b c d e f : Int) :
    (Op.eqItems (n + 1) 3 1 #[.int .i64 a, .int .i64 b, .int .i64 c] #[.int .i64 d, .int .i64 e, .int .i64 f] [0, 1, 2]).run Try.prog W = .ok (a == d && (b == e && c == f)) W := by
  have p : ∀ (W : World) (x y z : Int) (k : Nat) (v : Value), #[Value.int .i64 x, .int .i64 y, .int .i64 z][k]? = some v → (part 3 #[.int .i64 x, .int .i64 y, .int .i64 z] (k * 1)).run Try.prog W = .ok v W := by
    intro W x y z k v hv
    simp [part, isAgg, run_underlying Try.underlying3, hv]
  have p0 : ∀ (W : World) (x y z : Int), (part 3 #[.int .i64 x, .int .i64 y, .int .i64 z] (0 * 1)).run Try.prog W = .ok (.int .i64 x) W := fun W x y z => p W x y z 0 _ rfl
  have p1 : ∀ (W : World) (x y z : Int), (part 3 #[.int .i64 x, .int .i64 y, .int .i64 z] (1 * 1)).run Try.prog W = .ok (.int .i64 y) W := fun W x y z => p W x y z 1 _ rfl
  have p2 : ∀ (W : World) (x y z : Int), (part 3 #[.int .i64 x, .int .i64 y, .int .i64 z] (2 * 1)).run Try.prog W = .ok (.int .i64 z) W := fun W x y z => p W x y z 2 _ rfl
  have q : ∀ (W : World) (x y : Int), (Op.equalIn (n + 1) 3 (.int .i64 x) (.int .i64 y)).run Try.prog W = .ok (x == y) W := fun W x y => run_equalIn_int W n 3 .i64 .i64 x y Try.underlying3
  simp only [Op.eqItems, Sem.run_bind, p0, q, Result.andThen_ok]
  cases h1 : (a == d) <;> cases h2 : (b == e) <;> cases h3 : (c == f) <;> simp [p1, p2, q, h2, h3]
/-- Two arrays of three ints are the same just where their numbers are. -/
theorem run_eql3 (W : World) (a b c d e f : Int) (r : Bool) (h : (a == d && (b == e && c == f)) = r) :
    (binOp .eql 35 (.agg #[.int .i64 a, .int .i64 b, .int .i64 c]) (.agg #[.int .i64 d, .int .i64 e, .int .i64 f])).run Try.prog W = .ok (.bool r) W := by
  obtain ⟨i, hi⟩ := infoInt
  rw [run_eql_struct, run_equalIn_array W 9999 _ _ Try.underlying35 hi, cellsInt]
  have h2 := items3 9998 W a b c d e f
  show ((Op.eqItems (9998 + 1) 3 1 _ _ [0, 1, 2]).run Try.prog W).andThen _ = _
  rw [h2, h, Result.andThen_ok]
end Go.Proofs.Ytjlepjnfacmieaa
