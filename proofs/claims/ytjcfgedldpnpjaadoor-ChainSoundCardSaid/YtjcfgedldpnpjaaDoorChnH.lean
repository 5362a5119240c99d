/- chain.Forge: the walk of its text. No conditions but those that each lemma names. -/
import Derived.Test.YtjcfgedldpnpjaaDoorLChp
import Derived.Test.YtjcfgedldpnpjaaDoorLChf
import Derived.Test.YtjcfgedldpnpjaaDoorLChy
import Derived.Deep.RegionHeld3
import Derived.BigQuiet
namespace Go.Proofs.YtjcfgedldpnpjaaDoor.ChnH
set_option linter.unusedVariables false
open Go.RowKit
open RecN RecC ChnN ChnM ChnC ChnD ChnA ChnL ChnQ
set_option maxRecDepth 100000 in
set_option maxHeartbeats 4000000 in
theorem part_ (a : Option Addr) (n c : Nat) (M : List Sd) (b : Option Addr) (m d : Nat) (T : List Sd) (bl : Int) (w : World) (hM : Lies w a (ss M)) (hT : Lies w b (ss T)) (hMl : M.length = n) (hTl : T.length = m) (hn : n ≤ 100000) (hm : m ≤ 100000) (hd : m ≤ d) (k : Nat) (hp : ChnM.partAt M T 0 = some k) (hk : k < T.length) :
    Calls Tryd.prog 18 #[.slice a n c, .slice b m d, .int .i64 bl] w fun e w' => e = .returned (.tuple #[.int .i64 (forge M T bl).1, .string ⟨(forge M T bl).2.1.toArray⟩, .string ⟨(forge M T bl).2.2.1.toArray⟩, .bool (forge M T bl).2.2.2]) ∧ Below w.heap.size w w' := by
  have HP := Lib.hid (parting a c M b d T w hM hT (by unfold maxLen; omega) (by unfold maxLen; omega))
  rw [par_some hp, hMl, hTl] at HP
  have HF := Lib.hid (forge_some (b := bl) hp hk)
  have HLa0 := Lib.hid (fun (a : Option Addr) (W : World) (h : Lies W a (ss T)) => Last a k d (T.take k) W (h.take k) (by rw [List.length_take]; omega) (by unfold maxLen; omega))
  have HT := Lib.hid hT
  obtain ⟨g, o, rfl, hg, hc⟩ := hT.at9 (by omega)
  have H9 := Lib.hid (fun W (hb : Below w.heap.size w W) => (hc k hk).step hg hb)
  have hcut := cut_s g o m d k (by omega) (by omega)
  have HSy := Lib.hid (fun W (hs : sayOk (lastT (T.take k)) (k : Int) T[k].1) => Said_yes (lastT (T.take k)) (k : Int) T[k].1 W hs)
  have HSn := Lib.hid (fun W (hs : ¬ sayOk (lastT (T.take k)) (k : Int) T[k].1) => Said_no (lastT (T.take k)) (k : Int) T[k].1 W hs)
  generalize T[k] = y at *
  have hkm : k < m := by omega
  have p0 : (0 : Int) ≤ (k : Int) := by omega
  have p1 : (k : Int) < (m : Int) := by omega
  clear hM hT hMl hTl hp hk hc
  generalize hla : lastT (T.take k) = la at *
  clear hla
  by_cases he : y.1.ep < bl
  · have he2 : ¬ bl ≤ y.1.ep := by omega
    by_cases hs : sayOk la (k : Int) y.1
    · have HF2 := HF.out
      rw [if_pos ⟨hs, he⟩] at HF2
      have HF3 := Lib.hid HF2
      have HSd := Lib.hid (fun W => HSy.out W hs)
      clear hs he HF HF2 HSn HSy
      generalize say la (k : Int) y.1 = sy at *
      go_enter Tryd.func18, Tryd.ntmps18
      go_upto_region 4 with (go_at_call 36; refine HP.out.mono ?_; rintro e w2 ⟨rfl, hb⟩; have B2 := Lib.hid hb; obtain ⟨q0, q1, q2, q3, q4, q5, q6, q7, q8⟩ := H9.out _ B2.out; clear hb HP)
      clear q0 q1 q2 q3 q4 q5 q6 q7 q8
      replace B2 := Lib.hid B2.out.drew
      have hS := H9.out _ B2.out
      go_region_held3 (fun W' => W'.cell? ⟨g, o + k * 9, none⟩ = some (.int .i64 y.1.k) ∧ W'.cell? ⟨g, o + k * 9 + 1, none⟩ = some (.int .i64 y.1.ep) ∧ W'.cell? ⟨g, o + k * 9 + 2, none⟩ = some (.int .i64 y.1.tm) ∧ W'.cell? ⟨g, o + k * 9 + 3, none⟩ = some (.int .i64 y.1.ct) ∧ W'.cell? ⟨g, o + k * 9 + 4, none⟩ = some (.int .i64 y.1.tg) ∧ W'.cell? ⟨g, o + k * 9 + 5, none⟩ = some (.int .i64 y.1.un) ∧ W'.cell? ⟨g, o + k * 9 + 6, none⟩ = some (.string ⟨y.1.rt.toArray⟩) ∧ W'.cell? ⟨g, o + k * 9 + 7, none⟩ = some (.string ⟨y.1.nm.toArray⟩) ∧ W'.cell? ⟨g, o + k * 9 + 8, none⟩ = some (.string ⟨y.2.toArray⟩))
        (exact hS)
        (first
          | (go_at_call 22; refine (HLa0.out _ _ (HT.out.step B2.out)).mono ?_; rintro e w5 ⟨rfl, hb⟩; replace B2 := Lib.hid (B2.out.trans (hb.mono B2.out.size)); replace hS := H9.out _ B2.out; clear hb HLa0)
          | (go_at_call 9; refine (HSd.out _).mono ?_; rintro e w6 ⟨rfl, hb⟩; replace B2 := Lib.hid (B2.out.trans (hb.mono B2.out.size)); replace hS := H9.out _ B2.out; clear hb HSd))
      obtain ⟨q0, q1, q2, q3, q4, q5, q6, q7, q8⟩ := hS
      go_upto_region 7 with (fail)
      go_quiet (fail)
      go_wp2
      refine bodyPost_ret (v := .tuple #[.int .i64 y.1.ep, .string ⟨sy.toArray⟩, .string ⟨y.2.toArray⟩, .bool true]) (by simp [results, Tryd.f18, go_sem]) rfl ?_
      rw [HF3.out]
      exact ⟨rfl, B2.out.trans (below_drewN _ _)⟩
    · have HF2 := HF.out
      rw [if_neg (fun hh => hs hh.1)] at HF2
      have HF3 := Lib.hid HF2
      have HSd := Lib.hid (fun W => HSn.out W hs)
      clear hs he HF HF2 HSn HSy
      go_enter Tryd.func18, Tryd.ntmps18
      go_upto_region 4 with (go_at_call 36; refine HP.out.mono ?_; rintro e w2 ⟨rfl, hb⟩; have B2 := Lib.hid hb; obtain ⟨q0, q1, q2, q3, q4, q5, q6, q7, q8⟩ := H9.out _ B2.out; clear hb HP)
      clear q0 q1 q2 q3 q4 q5 q6 q7 q8
      replace B2 := Lib.hid B2.out.drew
      have hS := H9.out _ B2.out
      go_region_held3 (fun W' => W'.cell? ⟨g, o + k * 9, none⟩ = some (.int .i64 y.1.k) ∧ W'.cell? ⟨g, o + k * 9 + 1, none⟩ = some (.int .i64 y.1.ep) ∧ W'.cell? ⟨g, o + k * 9 + 2, none⟩ = some (.int .i64 y.1.tm) ∧ W'.cell? ⟨g, o + k * 9 + 3, none⟩ = some (.int .i64 y.1.ct) ∧ W'.cell? ⟨g, o + k * 9 + 4, none⟩ = some (.int .i64 y.1.tg) ∧ W'.cell? ⟨g, o + k * 9 + 5, none⟩ = some (.int .i64 y.1.un) ∧ W'.cell? ⟨g, o + k * 9 + 6, none⟩ = some (.string ⟨y.1.rt.toArray⟩) ∧ W'.cell? ⟨g, o + k * 9 + 7, none⟩ = some (.string ⟨y.1.nm.toArray⟩) ∧ W'.cell? ⟨g, o + k * 9 + 8, none⟩ = some (.string ⟨y.2.toArray⟩))
        (exact hS)
        (first
          | (go_at_call 22; refine (HLa0.out _ _ (HT.out.step B2.out)).mono ?_; rintro e w5 ⟨rfl, hb⟩; replace B2 := Lib.hid (B2.out.trans (hb.mono B2.out.size)); replace hS := H9.out _ B2.out; clear hb HLa0)
          | (go_at_call 9; refine (HSd.out _).mono ?_; rintro e w6 ⟨rfl, hb⟩; replace B2 := Lib.hid (B2.out.trans (hb.mono B2.out.size)); replace hS := H9.out _ B2.out; clear hb HSd))
      go_wp2
      refine bodyPost_ret (v := .tuple #[.int .i64 0, .string ⟨#[]⟩, .string ⟨#[]⟩, .bool false]) (by simp [results, Tryd.f18, go_sem]) rfl ?_
      rw [HF3.out]
      exact ⟨rfl, B2.out⟩
  · have he2 : bl ≤ y.1.ep := by omega
    have HF2 := HF.out
    rw [if_neg (fun hh => he hh.2)] at HF2
    have HF3 := Lib.hid HF2
    clear he HF HF2 HSn HSy HLa0
    go_enter Tryd.func18, Tryd.ntmps18
    go_wp2_with (go_at_call 36; refine HP.out.mono ?_; rintro e w2 ⟨rfl, hb⟩; have B2 := Lib.hid hb; obtain ⟨q0, q1, q2, q3, q4, q5, q6, q7, q8⟩ := H9.out _ B2.out; clear hb HP)
    refine bodyPost_ret (v := .tuple #[.int .i64 0, .string ⟨#[]⟩, .string ⟨#[]⟩, .bool false]) (by simp [results, Tryd.f18, go_sem]) rfl ?_
    rw [HF3.out]
    exact ⟨rfl, B2.out⟩
set_option maxRecDepth 100000 in
set_option maxHeartbeats 1000000 in
theorem none_ (a : Option Addr) (n c : Nat) (M : List Sd) (b : Option Addr) (m d : Nat) (T : List Sd) (bl : Int) (w : World) (hM : Lies w a (ss M)) (hT : Lies w b (ss T)) (hMl : M.length = n) (hTl : T.length = m) (hn : n ≤ 100000) (hm : m ≤ 100000) (hp : ChnM.partAt M T 0 = none) :
    Calls Tryd.prog 18 #[.slice a n c, .slice b m d, .int .i64 bl] w fun e w' => e = .returned (.tuple #[.int .i64 (forge M T bl).1, .string ⟨(forge M T bl).2.1.toArray⟩, .string ⟨(forge M T bl).2.2.1.toArray⟩, .bool (forge M T bl).2.2.2]) ∧ Below w.heap.size w w' := by
  have HP := Lib.hid (parting a c M b d T w hM hT (by unfold maxLen; omega) (by unfold maxLen; omega))
  rw [par_none hp, hMl, hTl] at HP
  rw [forge_none hp]
  clear hM hT hMl hTl hp
  go_enter Tryd.func18, Tryd.ntmps18
  go_wp2_with (go_at_call 36; refine HP.out.mono ?_; rintro e w2 ⟨rfl, hb⟩; have B2 := Lib.hid hb; clear hb HP)
  refine bodyPost_ret (v := .tuple #[.int .i64 0, .string ⟨#[]⟩, .string ⟨#[]⟩, .bool false]) (by simp [results, Tryd.f18, go_sem]) rfl ?_
  exact ⟨rfl, B2.out⟩
/-- THE CONTRACT of Forge. -/
theorem Forge (a : Option Addr) (n c : Nat) (M : List Sd) (b : Option Addr) (m d : Nat) (T : List Sd) (bl : Int) (w : World) (hM : Lies w a (ss M)) (hT : Lies w b (ss T)) (hMl : M.length = n) (hTl : T.length = m) (hn : n ≤ 100000) (hm : m ≤ 100000) (hd : m ≤ d) :
    Calls Tryd.prog 18 #[.slice a n c, .slice b m d, .int .i64 bl] w fun e w' => e = .returned (.tuple #[.int .i64 (forge M T bl).1, .string ⟨(forge M T bl).2.1.toArray⟩, .string ⟨(forge M T bl).2.2.1.toArray⟩, .bool (forge M T bl).2.2.2]) ∧ Below w.heap.size w w' := by
  cases hp : ChnM.partAt M T 0 with
  | none => exact none_ a n c M b m d T bl w hM hT hMl hTl hn hm hp
  | some k =>
    obtain ⟨j, e, hk, _⟩ := part_some hp
    exact part_ a n c M b m d T bl w hM hT hMl hTl hn hm hd k hp (by omega)
end Go.Proofs.YtjcfgedldpnpjaaDoor.ChnH
