/- MerkleProves: at any texts (at most 70, of at most 5,000 bytes together; else: the chapter's example alone, as the statement has it) and any number: a leaf's own path leads it to the root; it has at most as many hashes as it takes to double 1 up to how many leaves there are. The condition: the rounds' numbers lie in the program's variable (the card ties it to the program's text). -/
import Derived.Test.YtfjlpialblllgaaDoorMerW
import Derived.SliceStrings
import Derived.Test.YtfjlpialblllgaaDoorRows
import Derived.Test.YtfjlpialblllgaaDoorTie
import Derived.Test.YtfjlpialblllgaaDoorCards
import Derived.Test.YtfjlpialblllgaaDoorSLaid
import Derived.WalkKit
import Derived.ProofKit
import Derived.OpenShut
import Derived.ShutString
import Derived.ChangeOld
import Derived.Below
import Derived.LaidMore
import Derived.SevenTiedAt
import Derived.Stop.Joined
namespace Go.Proofs.YtfjlpialblllgaaDoor.merkleProves
open Go.ChangeShapes Go.WideShapes Go.ChangeAt Go.RowKit
open Go.ChangeMaps (open_string shut_string)
set_option linter.unusedVariables false
open STurn SSum MerQ MerN MerM MerC MerR MerU MerV MerX MerZ MerW
theorem two_pow_lt {m n : Nat} (h : m = 0 ∨ 2 ^ (m - 1) < n) (hn : n ≤ 70) : 2 ^ m ≤ 140 := by
  rcases h with rfl | h
  · decide
  · cases m with
    | zero => decide
    | succ m => rw [Nat.pow_succ]; simp at h; omega
theorem out (i : Int) (a : Option Addr) (n c : Nat) (ls : List L) (w : World) (h : Strs w w.heap.size a n ls) (hn : n ≤ 9223372036854775807) (hr : Rds w) (hf : fewB ls = false) :
    Calls Tryd.prog 5 #[.slice a n c, .int .i64 i] w fun e w' => e = .returned (.bool true) ∧ Below w.heap.size w w' := by
  have HF := Lib.hid (few a n c ls w h hn)
  rw [hf] at HF
  have HA := Lib.hid (alive w hr)
  clear h hr hf hn
  go_enter Tryd.func5, Tryd.ntmps5
  go_wp2_with (first | (go_at_call 8; refine HF.out.mono ?_; rintro e w' ⟨rfl, rfl⟩) | (go_at_call 9; refine HA.out.mono ?_; rintro e w' ⟨rfl, hb⟩; have HB := Lib.hid hb; clear hb))
  go_ret
  exact ⟨rfl, HB.out⟩
theorem none_ (i : Int) (a : Option Addr) (c : Nat) (ls : List L) (w : World) (h : Strs w w.heap.size a ls.length ls) (hl : ∀ l ∈ ls, l.length ≤ 9223372036854775807) (hr : Rds w) (hf : fewB ls = true) (hno : (all32 ls && decide (0 ≤ i ∧ i < (ls.length : Int))) = false) :
    Calls Tryd.prog 5 #[.slice a ls.length c, .int .i64 i] w fun e w' => e = .returned (.bool true) ∧ Below w.heap.size w w' := by
  have h70 := few_len hf
  have HF := Lib.hid (few a ls.length c ls w h (by omega))
  rw [hf] at HF
  have HRo := Lib.hid (Root a ls.length c ls w h (by omega) hl hr)
  have HPa := Lib.hid (fun W (hb : Below w.heap.size w W) => (Path a c ls i W ((h.below hb).more hb.size) (by omega) hl (hr.step hb)).mono (R' := fun e w' => e = .returned (.tuple #[.slice none 0 0, .int .i64 2]) ∧ W = w') (fun e w' hp => by unfold PathAns at hp; rwa [if_neg (by rw [hno]; simp)] at hp))
  have HA := Lib.hid (fun W (hb : Below w.heap.size w W) => alive W (hr.step hb))
  generalize hrr : rootR ls = r at *
  obtain ⟨r1, r2⟩ := r
  have hr2 : r2 = 0 ∨ r2 = 2 := by
    unfold rootR at hrr
    split at hrr <;> cases hrr <;> simp
  dsimp only at HRo
  clear h hr hf hno hl hrr h70
  rcases hr2 with rfl | rfl
  all_goals
    go_enter Tryd.func5, Tryd.ntmps5
    go_wp2_with (first
      | (go_at_call 8; refine HF.out.mono ?_; rintro e w' ⟨rfl, rfl⟩)
      | (go_at_call 10; refine HRo.out.mono ?_; rintro e w1 ⟨rfl, hb⟩; have B1 := Lib.hid hb; clear hb)
      | (go_at_call 11; refine (HPa.out _ B1.out).mono ?_; rintro e w2 ⟨rfl, rfl⟩)
      | (go_at_call 9; refine (HA.out _ B1.out).mono ?_; rintro e w3 ⟨rfl, hb⟩; have B3 := Lib.hid (B1.out.trans (hb.mono B1.out.size)); clear hb))
    go_ret
    exact ⟨rfl, B3.out⟩
set_option maxRecDepth 100000 in
set_option maxHeartbeats 4000000 in
theorem some_ (k : Nat) (a : Option Addr) (c : Nat) (ls : List L) (w : World) (h : Strs w w.heap.size a ls.length ls) (hr : Rds w) (hf : fewB ls = true) (hall : all32 ls = true) (hk : k < ls.length) :
    Calls Tryd.prog 5 #[.slice a ls.length c, .int .i64 (k : Int)] w fun e w' => e = .returned (.bool true) ∧ Below w.heap.size w w' := by
  have h70 := few_len hf
  have hl : ∀ l ∈ ls, l.length ≤ 9223372036854775807 := fun l hl => by rw [all32_at hall l hl]; omega
  have HF := Lib.hid (few a ls.length c ls w h (by omega))
  rw [hf] at HF
  have HRo := Lib.hid (Root a ls.length c ls w h (by omega) hl hr)
  simp only [rootR, hall, if_true] at HRo
  have HPa := Lib.hid (fun W (hb : Below w.heap.size w W) => (Path a c ls (k : Int) W ((h.below hb).more hb.size) (by omega) hl (hr.step hb)).mono (R' := PathOk W (pathN nd ls k)) (fun e w' hp => by
    unfold PathAns at hp
    rw [if_pos (by rw [hall, Bool.true_and, decide_eq_true_eq]; omega)] at hp
    exact hp))
  have HA := Lib.hid (fun W (hb : Below w.heap.size w W) => alive W (hr.step hb))
  have hoc := own_check hk (by omega) hall
  have hp32 := path_32 (k := k) hall
  have hyl : (ls.getD k []).length = 32 := all32_at hall _ (by rw [getD_at _ _ hk]; exact List.getElem_mem hk)
  have hpn : (pathN nd ls k).length ≤ 1000000 := by rw [pathN_length nd hk]; exact Nat.le_trans (long_le _ _ _) (by omega)
  have HCk := Lib.hid (fun a' c' W (hb : Below w.heap.size w W) (hs : Strs W W.heap.size a' (pathN nd ls k).length (pathN nd ls k)) => Check (MerN.root nd (sum []) ls) a' (ls.length : Int) (k : Int) (ls.getD k []) c' (pathN nd ls k) W hs hpn (by omega) (fun l hl => by rw [hp32 l hl]; omega) (hr.step hb))
  rw [hoc] at HCk
  have HM := Lib.hid (fun m (hm : ls.length ≤ 2 ^ m) => (show (pathN nd ls k).length ≤ m by rw [pathN_length nd hk]; exact long_most hk hm))
  obtain ⟨q, off, rfl, hq, hc⟩ := h.2 (by omega)
  have hck := hc k hk
  have HCel := Lib.hid (fun W (hb : Below w.heap.size w W) => (hb.cell (p := ⟨q, off + k, none⟩) hq).trans hck)
  have q0 : (0 : Int) ≤ (k : Int) := by omega
  have q1 : (k : Int) < (ls.length : Int) := by omega
  have hn70 : ls.length ≤ 70 := h70
  generalize MerN.root nd (sum []) ls = rt at *
  generalize ls.getD k [] = y at *
  generalize pathN nd ls k = ps at *
  clear h hr hf hall hl hoc hp32 hyl hc hck hq hk h70
  go_enter Tryd.func5, Tryd.ntmps5
  go_wp2_with (first
    | (go_at_call 8; refine HF.out.mono ?_; rintro e w' ⟨rfl, rfl⟩)
    | (go_at_call 10; refine HRo.out.mono ?_; rintro e w1 ⟨rfl, hb⟩; have B1 := Lib.hid hb; clear hb)
    | (go_at_call 11; refine (HPa.out _ B1.out).mono ?_; rintro e w2 ⟨a', c', rfl, hs, hb⟩; have B2 := Lib.hid (B1.out.trans (hb.mono B1.out.size)); have HS2 := Lib.hid hs; clear hb hs))
  go_loop [9, 10] (fun s t => ∃ m v : Nat, Hid (2 ^ m = v ∧ (m = 0 ∨ 2 ^ (m - 1) < ls.length)) ∧ s = .int .i64 m ∧ t = .int .i64 v ∧ v ≤ 140 ∧ m ≤ 1000 ∧ 1 ≤ v) (fun _ t => 200 - (intOf t).toNat)
  case atStart => exact ⟨0, 1, Lib.hid ⟨rfl, .inl rfl⟩, rfl, rfl, by omega, by omega, by omega⟩
  case round =>
    obtain ⟨m, v, hmv, rfl, rfl, hv, hm, hv1⟩ := hrel
    by_cases hlt : v < ls.length
    · have q2 : (v : Int) < (ls.length : Int) := by omega
      have HN : Hid (2 ^ (m + 1) = v * 2 ∧ (m + 1 = 0 ∨ 2 ^ (m + 1 - 1) < ls.length)) := Lib.hid ⟨by rw [Nat.pow_succ, hmv.out.1], .inr (by rw [Nat.add_sub_cancel, hmv.out.1]; exact hlt)⟩
      have hmm : m + 1 ≤ 1000 := by
        have h1 := lt_pow m
        rw [hmv.out.1] at h1
        omega
      go_wp2
      go_round
      case rel => exact ⟨m + 1, v * 2, HN, by go_num, by go_num, by omega, hmm, by omega⟩
      case measure => simp [intOf]; omega
    · have q2 : ¬ (v : Int) < (ls.length : Int) := by omega
      have hpm := HM.out m (by rw [hmv.out.1]; omega)
      have q3 : (ps.length : Int) ≤ (m : Int) := by omega
      have cy := HCel.out _ B2.out
      go_wp2_with (first
        | (go_at_call 20; refine (HCk.out _ _ _ B2.out HS2.out).mono ?_; rintro e w3 ⟨rfl, hb⟩; have B3 := Lib.hid (B2.out.trans (hb.mono B2.out.size)); clear hb)
        | (go_at_call 9; refine (HA.out _ B3.out).mono ?_; rintro e w4 ⟨rfl, hb⟩; have B4 := Lib.hid (B3.out.trans (hb.mono B3.out.size)); clear hb))
      go_ret
      exact ⟨rfl, B4.out⟩
theorem walk (a : Option Addr) (len cap : Nat) (z : List ByteArray) (i : Int) (w : World) (w0 : StrsAt w a len cap z) (w1 : (Lit.int .i64 i).wf = true) (hr : Rds w) :
    Calls Tryd.prog 5 #[.slice a len cap, .int .i64 i] w fun e w' => e = .returned (.bool true) ∧ Below w.heap.size w w' := by
  obtain ⟨ls, hs, hl, hn⟩ := strs_at w0
  unfold maxLen at hl hn
  cases hf : fewB ls with
  | false => exact out i a len cap ls w hs hn hr hf
  | true =>
    obtain rfl := hs.1
    cases hc : (all32 ls && decide (0 ≤ i ∧ i < (ls.length : Int))) with
    | false => exact none_ i a cap ls w hs hl hr hf hc
    | true =>
      rw [Bool.and_eq_true, decide_eq_true_eq] at hc
      obtain ⟨k, rfl⟩ : ∃ k : Nat, i = (k : Int) := ⟨i.toNat, by omega⟩
      exact some_ k a cap ls w hs hr hf hc.1 (by omega)
theorem own : ownKnob Tryd.prog.godebug = none := by kernel_rfl
theorem laidOut : laidOutB Tryd.prog = true := by kernel_rfl
set_option maxRecDepth 100000 in
theorem lifted (os : Os) (started : os.Started) (H : Type) (enc : TypeId × Value → H) :
    ReturnsInHanded {} Tryd.checked os 5 .any (fun w args => (Rows.merkleProvesSpec.pre enc Tryd.prog Tryd.f5 Rows.merkleProvesRow.domain false w args ∧ laidMetH Tryd.prog Rows.merkleProvesRow.laid w) ∧ sizedMet enc Tryd.prog Tryd.f5 (OpenSpec.ofChange Rows.merkleProvesSpec) false w args) (Rows.merkleProvesSpec.post enc Tryd.prog Tryd.f5 false true false false) := by
  refine returnsInHanded_of_change_and (C := Tryd.checked) (X := fun w _ => laidMetH Tryd.prog Rows.merkleProvesRow.laid w) (fun _ _ _ hh h => h.of_heap hh) own started (by kernel_rfl) Tryd.func5
    (ChangeSpec.witness_shaped (enc := enc) (C := Tryd.checked) (os := os) (X := fun w _ => laidMetH Tryd.prog Rows.merkleProvesRow.laid w) false (World.doorLaid Tryd.prog 400 os) #[.slice none 0 0, .int .i64 0] 8 rfl (World.shaped_of_RefB (by kernel_rfl) (by kernel_rfl)) (by kernel_rfl) (by kernel_rfl) (by kernel_rfl) (SLaid.door_met os _)) ?_
  intro W base args ds gs before hval0 hW _ _ hL _
  have hr := SLaid.of_laid hL
  have hval : ∀ (j : Nat) t v, Tryd.f5.params[j]? = some t → args[j]? = some v → Value.okWide Tryd.prog W .any base t v := hval0
  have hW' := hW
  obtain ⟨p, q, hA0, hV, rfl, hfz, hnd⟩ := hW
  have hA : DataW.TrodAll enc Tryd.prog W 0 (fun _ => true) true Tryd.f5.params.toList args.toList ds p := hA0
  rw [Tryd.params5] at hA hval
  obtain ⟨v0, vs0, d0, ds0, p0, q0, hargs, rfl, rfl, h0, r0⟩ := trodAll_cons hA
  obtain ⟨v1, vs1, d1, ds1, p1, q1, rfl, rfl, rfl, h1, r1⟩ := trodAll_cons r0
  obtain ⟨rfl, rfl, rfl⟩ := trodAll_nil r1
  obtain rfl : args = #[v0, v1] := by cases args; simp_all
  obtain ⟨rfl, rfl⟩ := trodVars_none hV
  obtain ⟨a0, len0, cap0, rfl⟩ := okWide_slice Tryd.underlying22 (hval 0 22 v0 rfl rfl)
  have k0 := h0
  have lt0 : ∀ x ∈ p0, x.block < W.heap.size := by obtain ⟨m, hm⟩ := k0; exact DataW.trod_lt m _ _ _ hm
  obtain ⟨z0, w0⟩ : ∃ zs, StrsAt W a0 len0 cap0 zs := by
    obtain ⟨fuel, hf⟩ := h0
    rcases open_strings Tryd.underlying22 Tryd.underlying9 (by kernel_rfl) hf with ⟨hcs, _⟩ | ⟨x, l, c, zs, hcs, _, hl, hm, hz, _, hcell, hwz⟩
    · simp [Value.cells] at hcs
      obtain ⟨rfl, rfl, rfl⟩ := hcs
      exact ⟨[], .inl ⟨rfl, rfl, rfl, rfl⟩⟩
    · simp [Value.cells] at hcs
      obtain ⟨rfl, rfl, rfl⟩ := hcs
      exact ⟨zs, .inr ⟨_, rfl, hl, hm, by simpa using hz, hcell, hwz⟩⟩
  obtain ⟨a1, rfl, rfl, rfl, w1⟩ := open_int Tryd.underlying3 (hval 1 3 v1 rfl rfl) h1
  clear hA0 hval0
  refine (walk a0 len0 cap0 z0 a1 W w0 w1 hr).mono fun e W' ⟨he, bel⟩ => ?_
  subst he
  exact ⟨_, rfl, _, _, _, [], _, [], hW', trodAll_mk1 (shut_bool Tryd.underlying4 _), (trodAll_cons_mk (Below.trod laidOut (by kernel_rfl) (of_decide_eq_true (by kernel_rfl)) k0 bel lt0) (trodAll_cons_mk (shut_int Tryd.underlying3 w1) trodAll_mk0)), rfl, bel.frame _, fun h => by cases h⟩
theorem over : Rows.merkleProvesRow.holds Tryd.pinned (OpenSpec.ofChange Rows.merkleProvesSpec) :=
  OpenClaim.holds_of_wide 5 Tryd.f5 rfl rfl rfl rfl rfl rfl rfl ⟨rfl, rfl, rfl, rfl, rfl⟩ rfl rfl rfl rfl rfl (by kernel_rfl) Tryd.func5 (by kernel_rfl)
    (of_decide_eq_true (by kernel_rfl)) (by unfold Func.isWrapper; first | (rw [if_pos (by decide +kernel)]; kernel_rfl) | (rw [if_neg (by decide +kernel)]; exact ⟨rfl, rfl⟩))
    (fun os started H enc _ => lifted os started H enc)
/-- THE STATEMENT, proved. -/
theorem proved : Rows.MerkleProvesCardSaid :=
  Claim7.holds_tied_plain_at .later [] _ true _ false
    over (fun _ h => by cases h) (by kernel_rfl) (fun _ h => by cases h) merkleProves_row_tie rfl ⟨rfl, rfl⟩ (by kernel_rfl) rfl
    (fun f fn hf hfn => by
      obtain rfl : f = 5 := Option.some.inj ((show Tryd.prog.funcNamed "keepsake/keepsakelaw15.MerkleProves" = some 5 by kernel_rfl).symm.trans hf) |>.symm
      obtain rfl : fn = Tryd.f5 := (Option.some.inj (Tryd.func5.symm.trans hfn)).symm
      exact ⟨by kernel_rfl, fun j t ht => by
        rw [Tryd.params5] at ht
        have hm : t ∈ [22, 3] := by simpa using Array.mem_of_getElem? ht
        have hall : ([22, 3].all fun u => !Tryd.prog.wantsStandIn u) = true := by kernel_rfl
        exact (show Tryd.prog.wantsStandIn t = false by simpa using List.all_eq_true.1 hall t hm)⟩)
    (by kernel_rfl)
#print axioms proved
end Go.Proofs.YtfjlpialblllgaaDoor.merkleProves
