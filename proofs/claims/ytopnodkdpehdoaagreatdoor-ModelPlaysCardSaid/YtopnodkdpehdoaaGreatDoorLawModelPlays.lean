/- ModelPlays: at any geometry, any calls, any epoch, any place (more than the document's few, or a geometry of more than 64 places that may be: the example alone). No conditions but the laid variables. -/
import Derived.Test.YtopnodkdpehdoaaGreatDoorLPla
import Derived.Test.YtopnodkdpehdoaaGreatDoorLMdq
import Derived.Test.YtopnodkdpehdoaaGreatDoorCalF
import Derived.Test.YtopnodkdpehdoaaGreatDoorGeoL
import Derived.Test.YtopnodkdpehdoaaGreatDoorRows
import Derived.Test.YtopnodkdpehdoaaGreatDoorTie
import Derived.Test.YtopnodkdpehdoaaGreatDoorCards
import Derived.WalkKit
import Derived.ProofKit
import Derived.OpenShut
import Derived.ShutString
import Derived.ChangeOld
import Derived.Below
import Derived.LaidMore
import Derived.SevenTiedAt
import Derived.Stop.Joined
namespace Go.Proofs.YtopnodkdpehdoaaGreatDoor.modelPlays
open Go.ChangeShapes Go.WideShapes Go.ChangeAt Go.RowKit
open Go.ChangeMaps (open_string shut_string)
set_option linter.unusedVariables false
open RecN RecC RetC RetR MdN MdO MdP CalR AnsC PgF PgC GeoC PlaB
set_option maxRecDepth 100000 in
set_option maxHeartbeats 4000000 in
theorem plays_few (b lb f : Int) (a : Option Addr) (n c : Nat) (l : List Ca) (ep lba : Int) (w : World) (hl : Lies w a (cc l)) (hln : l.length = n) (hn : n ≤ maxLen) (hr : Bnd w) (hno : CalF.fewB l = false ∨ CalF.fewB l = true ∧ 64 < lb ∧ lb ≤ 4096) :
    Calls Tryz.prog 3 #[.agg #[.int .i64 b, .int .i64 lb, .int .i64 f], .slice a n c, .int .i64 ep, .int .i64 lba] w fun e w' => e = .returned (.bool true) ∧ Below w.heap.size w w' := by
  obtain ⟨W1, hW1⟩ : ∃ W1, W1 = w.alloc (.cells #[.int .i64 b, .int .i64 lb, .int .i64 f] 23) := ⟨_, rfl⟩
  have BB : Hid (Below w.heap.size w W1) := Lib.hid (by rw [hW1]; exact below_new w _)
  have hk : W1.heap[w.heap.size]? = some (.cells #[.int .i64 b, .int .i64 lb, .int .i64 f] 23 (0, 0)) := by rw [hW1]; exact heap_alloc_new w _
  have HK := Lib.hid hk
  have HL := Lib.hid hl
  have HA := Lib.hid (fun W (hb : Below w.heap.size w W) => MdQ.alive api W (api.gs (gd_of hr) hb))
  have HF := Lib.hid (fun W (h : Lies W a (cc l)) => CalF.Few a n c l W h hln hn)
  clear hk hl hr
  rcases hno with hf | ⟨hf, h64, h4096⟩
  · rw [hf] at HF
    clear hf
    go_enter Tryz.func3, Tryz.ntmps3
    go_upto_region 1 with (fail)
    rw [← hW1]
    clear hW1
    go_wp2_with (first
      | (go_at_call 8; refine (HF.out _ (HL.out.step BB.out)).mono ?_; rintro e w2 ⟨rfl, hb⟩; replace BB := Lib.hid (BB.out.trans (hb.mono BB.out.size)); clear hb HF)
      | (go_at_call 9; refine (HA.out _ BB.out).mono ?_; rintro e w3 ⟨rfl, hb⟩; replace BB := Lib.hid (BB.out.trans (hb.mono BB.out.size)); clear hb HA))
    go_ret
    exact ⟨rfl, BB.out⟩
  · rw [hf] at HF
    clear hf
    go_enter Tryz.func3, Tryz.ntmps3
    go_upto_region 1 with (fail)
    rw [← hW1]
    clear hW1
    go_wp2_with (first
      | (go_at_call 8; refine (HF.out _ (HL.out.step BB.out)).mono ?_; rintro e w2 ⟨rfl, hb⟩; replace BB := Lib.hid (BB.out.trans (hb.mono BB.out.size)); replace HK := Lib.hid ((hb.block _ (RecC.lt_of_some HK.out)).trans HK.out); have c1 := blk_cell (i := 1) (u := .int .i64 lb) HK.out rfl; clear hb HF)
      | (go_at_call 9; refine (HA.out _ BB.out).mono ?_; rintro e w3 ⟨rfl, hb⟩; replace BB := Lib.hid (BB.out.trans (hb.mono BB.out.size)); clear hb HA))
    go_ret
    exact ⟨rfl, BB.out⟩
set_option maxRecDepth 100000 in
set_option maxHeartbeats 4000000 in
theorem plays_no (b lb f : Int) (a : Option Addr) (n c : Nat) (l : List Ca) (ep lba : Int) (w : World) (hl : Lies w a (cc l)) (hln : l.length = n) (hn : n ≤ maxLen) (hr : Bnd w) (hf : CalF.fewB l = true) (hlb : ¬ (64 < lb ∧ lb ≤ 4096)) (hg : ¬ GeoN.right b lb f) :
    Calls Tryz.prog 3 #[.agg #[.int .i64 b, .int .i64 lb, .int .i64 f], .slice a n c, .int .i64 ep, .int .i64 lba] w fun e w' => e = .returned (.bool true) ∧ Below w.heap.size w w' := by
  obtain ⟨W1, hW1⟩ : ∃ W1, W1 = w.alloc (.cells #[.int .i64 b, .int .i64 lb, .int .i64 f] 23) := ⟨_, rfl⟩
  have BB : Hid (Below w.heap.size w W1) := Lib.hid (by rw [hW1]; exact below_new w _)
  have hk : W1.heap[w.heap.size]? = some (.cells #[.int .i64 b, .int .i64 lb, .int .i64 f] 23 (0, 0)) := by rw [hW1]; exact heap_alloc_new w _
  have HK := Lib.hid hk
  have HL := Lib.hid hl
  have HA := Lib.hid (fun W (hb : Below w.heap.size w W) => MdQ.alive api W (api.gs (gd_of hr) hb))
  have HF := Lib.hid (fun W (h : Lies W a (cc l)) => CalF.Few a n c l W h hln hn)
  rw [hf] at HF
  have HN := Lib.hid (fun W (hb : Below w.heap.size w W) => api.new_no w.heap.size b lb f W hb.size (api.gd _ _ _ (gd_of hr) hb.size hb.block) hg)
  have HM := Lib.hid (fun W => MdL.New_no (w := W) b lb f hg)
  clear hk hl hf hr hg
  by_cases h64 : 64 < lb
  · have h96 : ¬ lb ≤ 4096 := fun h => hlb ⟨h64, h⟩
    clear hlb
    go_enter Tryz.func3, Tryz.ntmps3
    go_upto_region 1 with (fail)
    rw [← hW1]
    clear hW1
    go_upto_region 3 with (go_at_call 8; refine (HF.out _ (HL.out.step BB.out)).mono ?_; rintro e w2 ⟨rfl, hb⟩; replace BB := Lib.hid (BB.out.trans (hb.mono BB.out.size)); replace HK := Lib.hid ((hb.block _ (RecC.lt_of_some HK.out)).trans HK.out); have c1 := blk_cell (i := 1) (u := .int .i64 lb) HK.out rfl; clear hb HF)
    have c0 := blk_cell (i := 0) (u := .int .i64 b) HK.out rfl
    have c2 := blk_cell (i := 2) (u := .int .i64 f) HK.out rfl
    go_wp2_with (first
      | (go_at_call 10; refine (HN.out _ BB.out).mono ?_; rintro e w3 ⟨rfl, hb⟩; replace BB := Lib.hid (BB.out.trans (hb.mono BB.out.size)); replace HK := Lib.hid ((hb.block _ (RecC.lt_of_some HK.out)).trans HK.out); clear c0 c1 c2; have c0 := blk_cell (i := 0) (u := .int .i64 b) HK.out rfl; have c1 := blk_cell (i := 1) (u := .int .i64 lb) HK.out rfl; have c2 := blk_cell (i := 2) (u := .int .i64 f) HK.out rfl; clear hb HN)
      | (go_at_call 11; refine (HM.out _).mono ?_; rintro e w4 ⟨rfl, hb⟩; replace BB := Lib.hid (BB.out.trans (hb.mono BB.out.size)); clear hb HM)
      | (go_at_call 9; refine (HA.out _ BB.out).mono ?_; rintro e w3 ⟨rfl, hb⟩; replace BB := Lib.hid (BB.out.trans (hb.mono BB.out.size)); clear hb HA))
    go_ret
    exact ⟨rfl, BB.out⟩
  · clear hlb
    go_enter Tryz.func3, Tryz.ntmps3
    go_upto_region 1 with (fail)
    rw [← hW1]
    clear hW1
    go_upto_region 3 with (go_at_call 8; refine (HF.out _ (HL.out.step BB.out)).mono ?_; rintro e w2 ⟨rfl, hb⟩; replace BB := Lib.hid (BB.out.trans (hb.mono BB.out.size)); replace HK := Lib.hid ((hb.block _ (RecC.lt_of_some HK.out)).trans HK.out); have c1 := blk_cell (i := 1) (u := .int .i64 lb) HK.out rfl; clear hb HF)
    have c0 := blk_cell (i := 0) (u := .int .i64 b) HK.out rfl
    have c2 := blk_cell (i := 2) (u := .int .i64 f) HK.out rfl
    go_wp2_with (first
      | (go_at_call 10; refine (HN.out _ BB.out).mono ?_; rintro e w3 ⟨rfl, hb⟩; replace BB := Lib.hid (BB.out.trans (hb.mono BB.out.size)); replace HK := Lib.hid ((hb.block _ (RecC.lt_of_some HK.out)).trans HK.out); clear c0 c1 c2; have c0 := blk_cell (i := 0) (u := .int .i64 b) HK.out rfl; have c1 := blk_cell (i := 1) (u := .int .i64 lb) HK.out rfl; have c2 := blk_cell (i := 2) (u := .int .i64 f) HK.out rfl; clear hb HN)
      | (go_at_call 11; refine (HM.out _).mono ?_; rintro e w4 ⟨rfl, hb⟩; replace BB := Lib.hid (BB.out.trans (hb.mono BB.out.size)); clear hb HM)
      | (go_at_call 9; refine (HA.out _ BB.out).mono ?_; rintro e w3 ⟨rfl, hb⟩; replace BB := Lib.hid (BB.out.trans (hb.mono BB.out.size)); clear hb HA))
    go_ret
    exact ⟨rfl, BB.out⟩
set_option maxRecDepth 100000 in
set_option maxHeartbeats 16000000 in
theorem plays_yes (b lb f : Int) (a : Option Addr) (n c : Nat) (l : List Ca) (ep lba : Int) (w : World) (hl : Lies w a (cc l)) (hln : l.length = n) (hn : n ≤ maxLen) (hfit : ∀ x ∈ l, FitC x) (we : Wf ep) (hr : Bnd w) (hf : CalF.fewB l = true) (h64 : lb ≤ 64) (hg : GeoN.right b lb f) :
    Calls Tryz.prog 3 #[.agg #[.int .i64 b, .int .i64 lb, .int .i64 f], .slice a n c, .int .i64 ep, .int .i64 lba] w fun e w' => e = .returned (.bool true) ∧ Below w.heap.size w w' := by
  obtain ⟨W1, hW1⟩ : ∃ W1, W1 = w.alloc (.cells #[.int .i64 b, .int .i64 lb, .int .i64 f] 23) := ⟨_, rfl⟩
  have BB : Hid (Below w.heap.size w W1) := Lib.hid (by rw [hW1]; exact below_new w _)
  have hk : W1.heap[w.heap.size]? = some (.cells #[.int .i64 b, .int .i64 lb, .int .i64 f] 23 (0, 0)) := by rw [hW1]; exact heap_alloc_new w _
  have HK := Lib.hid hk
  have HL := Lib.hid hl
  have HA := Lib.hid (fun W (hb : Below w.heap.size w W) => MdQ.alive api W (api.gs (gd_of hr) hb))
  have HF := Lib.hid (fun W (h : Lies W a (cc l)) => CalF.Few a n c l W h hln hn)
  rw [hf] at HF
  have HN := Lib.hid (fun W (hb : Below w.heap.size w W) => PgL.New_yes w.heap.size b lb f W hb.size ((gd_of hr).kept hb.size hb.block) hg)
  have HM := Lib.hid (fun W (h : w.heap.size ≤ W.heap.size) => MdL.New_yes (w := W) (base := w.heap.size) b lb f hg h)
  have HW := Lib.hid hfit
  have HE := Lib.hid we
  unfold maxLen at hn
  clear hk hl hf hr hg hfit we
  generalize MdN.new b lb f = m0 at *
  go_enter Tryz.func3, Tryz.ntmps3
  go_upto_region 1 with (fail)
  rw [← hW1]
  clear hW1
  go_upto_region 3 with (go_at_call 8; refine (HF.out _ (HL.out.step BB.out)).mono ?_; rintro e w2 ⟨rfl, hb⟩; replace BB := Lib.hid (BB.out.trans (hb.mono BB.out.size)); replace HK := Lib.hid ((hb.block _ (RecC.lt_of_some HK.out)).trans HK.out); have c1 := blk_cell (i := 1) (u := .int .i64 lb) HK.out rfl; clear hb HF)
  have c0 := blk_cell (i := 0) (u := .int .i64 b) HK.out rfl
  have c2 := blk_cell (i := 2) (u := .int .i64 f) HK.out rfl
  go_upto_region 4 with (go_at_call 10; refine (HN.out _ BB.out).mono ?_; rintro e w3 ⟨A, rfl, hP, hA, hb⟩; replace HK := Lib.hid ((hb.block _ (RecC.lt_of_some HK.out)).trans HK.out); have PP := Lib.hid hP; have PA : Hid (∀ k, A.foot k → w.heap.size ≤ k) := Lib.hid (fun k hk => Nat.le_trans BB.out.size (hA k hk)); replace BB := Lib.hid (BB.out.trans (hb.mono BB.out.size)); clear hb HN hP hA c0 c1 c2)
  have c0 := blk_cell (i := 0) (u := .int .i64 b) HK.out rfl
  have c1 := blk_cell (i := 1) (u := .int .i64 lb) HK.out rfl
  have c2 := blk_cell (i := 2) (u := .int .i64 f) HK.out rfl
  go_upto_region 5 with (go_at_call 11; refine (HM.out _ BB.out.size).mono ?_; rintro e w4 ⟨⟨X, rfl, hX, hd⟩, hb⟩; have MM := Lib.hid (b2_new PP.out PA.out hX hd BB.out hb); clear hb hd hX HM PP PA BB HK c0 c1 c2)
  generalize A.x = x at *
  go_wp2_with fail
  go_loopw [54] (fun iv wr => ∃ k : Nat, k ≤ n ∧ iv = .int .i64 k ∧ B2 w.heap.size x X (doL m0 (cs (l.take k))) (doL m0 (cs (l.take k))) w (fun _ => False) w wr) (fun iv _ => n - (intOf iv).toNat)
  case atStart => exact ⟨0, Nat.zero_le _, rfl, MM.out⟩
  case round =>
    clear MM
    obtain ⟨k, hk, rfl, hm⟩ := hrel
    have MM := Lib.hid hm
    clear hm
    by_cases hlt : k < n
    · obtain ⟨g, o, rfl, hg, hc⟩ := at7 HL.out (by omega)
      obtain ⟨k0, k1, k2, k3, k4, k5, k6⟩ := (hc k (by omega)).step hg MM.out.bel
      have HX := Lib.hid (cs_next l (show k < l.length by omega) m0)
      have WX : Hid (Wf l[k].c.ep) := Lib.hid (HW.out _ (List.getElem_mem _)).2.2.2
      generalize l[k] = y at *
      obtain ⟨m, hm⟩ : ∃ m, m = doL m0 (cs (l.take k)) := ⟨_, rfl⟩
      rw [← hm] at MM HX
      have q0 : (0 : Int) ≤ (k : Int) := by omega
      have q1 : (k : Int) < (n : Int) := by omega
      clear hc hg HL
      go_upto_region 12 with (refine wpList_store_row rfl 35 _ _ rfl wr.heap.size _ rfl rfl 35 _ (heap_alloc_new wr _) infoC rfl (one7 y) ?_)
      generalize hW : World.setRow _ _ _ = W4
      have b4 : Below wr.heap.size wr W4 := by rw [← hW]; exact kept_new wr _ _ _
      have h4 : W4.heap[wr.heap.size]? = some (.cells #[.int .i64 y.c.k, .int .i64 y.c.lb, .int .i64 y.c.ep, .int .i64 y.c.tm, .string ⟨y.c.da.toArray⟩, .string ⟨y.c.nm.toArray⟩, .slice y.p y.n y.cap] 35 (0, 0)) := by rw [← hW]; exact has_new wr _ _ _
      have M4 : Hid (B2 w.heap.size x X m m w (fun j => j = wr.heap.size) W4 W4) := Lib.hid (MM.out.more b4 (fun j hj => .inr ⟨by omega, by have := RecC.lt_of_some h4; omega⟩))
      generalize wr.heap.size = Y at *
      have H4 := Lib.hid h4
      clear hW b4 h4 MM k0 k1 k2 k3 k4 k5 k6
      obtain ⟨r, hr⟩ : ∃ r, r = doA m y.c := ⟨_, rfl⟩
      obtain ⟨m1, hm1⟩ : ∃ m1, m1 = doM m y.c := ⟨_, rfl⟩
      have HD1 : Hid (∀ W, B2 w.heap.size x X m m w (fun j => j = Y) W4 W → Calls Tryz.prog 12 #[.pointer (some ⟨x, 0, none⟩), .agg #[.int .i64 y.c.k, .int .i64 y.c.lb, .int .i64 y.c.ep, .int .i64 y.c.tm, .string ⟨y.c.da.toArray⟩, .string ⟨y.c.nm.toArray⟩, .slice y.p y.n y.cap]] W fun v w' => v = .returned (.agg #[.int .i64 r.er, .string ⟨r.da.toArray⟩, .int .i64 r.st.ep, .int .i64 r.st.ck, .int .i64 r.st.fr, .int .i64 r.st.rc, .int .i64 r.st.pl, .int .i64 r.st.ho]) ∧ B2 w.heap.size x X m1 m w (fun j => j = Y) W4 w') := Lib.hid (fun W h => by
        have := h.doesP (Nat.le_refl _) y.c y.p y.n y.cap
        rw [← hr, ← hm1] at this
        exact this)
      have HD2 : Hid (∀ W, B2 w.heap.size x X m1 m w (fun j => j = Y) W4 W → Calls Tryz.prog 13 #[.pointer (some ⟨X, 0, none⟩), .agg #[.int .i64 y.c.k, .int .i64 y.c.lb, .int .i64 y.c.ep, .int .i64 y.c.tm, .string ⟨y.c.da.toArray⟩, .string ⟨y.c.nm.toArray⟩, .slice y.p y.n y.cap]] W fun v w' => v = .returned (.agg #[.int .i64 r.er, .string ⟨r.da.toArray⟩, .int .i64 r.st.ep, .int .i64 r.st.ck, .int .i64 r.st.fr, .int .i64 r.st.rc, .int .i64 r.st.pl, .int .i64 r.st.ho]) ∧ B2 w.heap.size x X m1 m1 w (fun j => j = Y) W4 w') := Lib.hid (fun W h => by
        have := h.doesD (Nat.le_refl _) y.c y.p y.n y.cap
        rw [← hr, ← hm1] at this
        exact this)
      have HS : Hid (∀ W, B2 w.heap.size x X m1 m1 w (fun j => j = Y) W4 W → Calls Tryz.prog 14 #[.pointer (some ⟨x, 0, none⟩), .pointer (some ⟨X, 0, none⟩), .int .i64 y.c.ep, .int .i64 y.c.lb] W fun v w' => v = .returned (.bool true) ∧ B2 w.heap.size x X m1 m1 w (fun j => j = Y) W4 w') := Lib.hid (fun W h => h.same y.c.ep y.c.lb WX.out)
      have hqn : ∀ W, (binOp .neq 39 (.agg #[.int .i64 r.er, .string ⟨r.da.toArray⟩, .int .i64 r.st.ep, .int .i64 r.st.ck, .int .i64 r.st.fr, .int .i64 r.st.rc, .int .i64 r.st.pl, .int .i64 r.st.ho]) (.agg #[.int .i64 r.er, .string ⟨r.da.toArray⟩, .int .i64 r.st.ep, .int .i64 r.st.ck, .int .i64 r.st.fr, .int .i64 r.st.rc, .int .i64 r.st.pl, .int .i64 r.st.ho])).run Tryz.prog W = .ok (.bool false) W := fun W => run_neq_ans r r true (by simp) W
      rw [← hm1] at HX
      have HC : Hid (∀ m2 m3 W, B2 w.heap.size x X m2 m3 w (fun j => j = Y) W4 W → W.cell? ⟨Y, 0, none⟩ = some (.int .i64 y.c.k) ∧ W.cell? ⟨Y, 1, none⟩ = some (.int .i64 y.c.lb) ∧ W.cell? ⟨Y, 2, none⟩ = some (.int .i64 y.c.ep) ∧ W.cell? ⟨Y, 3, none⟩ = some (.int .i64 y.c.tm) ∧ W.cell? ⟨Y, 4, none⟩ = some (.string ⟨y.c.da.toArray⟩) ∧ W.cell? ⟨Y, 5, none⟩ = some (.string ⟨y.c.nm.toArray⟩) ∧ W.cell? ⟨Y, 6, none⟩ = some (.slice y.p y.n y.cap)) := Lib.hid (fun m2 m3 W h => by
        have hb := h.at_ rfl H4.out
        exact ⟨blk_cell hb rfl, blk_cell hb rfl, blk_cell hb rfl, blk_cell hb rfl, blk_cell hb rfl, blk_cell hb rfl, blk_cell hb rfl⟩)
      have MM : Hid (B2 w.heap.size x X m m w (fun j => j = Y) W4 W4.drew) := Lib.hid (M4.out.step ((Below.refl _ _).drew))
      have hS := HC.out _ _ _ MM.out
      clear hr hm1 M4
      go_region_held3 (fun W => W.cell? ⟨Y, 0, none⟩ = some (.int .i64 y.c.k) ∧ W.cell? ⟨Y, 1, none⟩ = some (.int .i64 y.c.lb) ∧ W.cell? ⟨Y, 2, none⟩ = some (.int .i64 y.c.ep) ∧ W.cell? ⟨Y, 3, none⟩ = some (.int .i64 y.c.tm) ∧ W.cell? ⟨Y, 4, none⟩ = some (.string ⟨y.c.da.toArray⟩) ∧ W.cell? ⟨Y, 5, none⟩ = some (.string ⟨y.c.nm.toArray⟩) ∧ W.cell? ⟨Y, 6, none⟩ = some (.slice y.p y.n y.cap))
        (exact hS) (first
          | (go_at_call 12; refine (HD1.out _ MM.out).mono ?_; rintro e w5 ⟨rfl, h⟩; replace MM := Lib.hid h; replace hS := HC.out _ _ _ MM.out; clear h HD1)
          | (go_at_call 13; refine (HD2.out _ MM.out).mono ?_; rintro e w6 ⟨rfl, h⟩; replace MM := Lib.hid h; replace hS := HC.out _ _ _ MM.out; clear h HD2)
          | (go_at_call 14; refine (HS.out _ MM.out).mono ?_; rintro e w7 ⟨rfl, h⟩; replace MM := Lib.hid h; replace hS := HC.out _ _ _ MM.out; clear h HS))
      go_wp2
      go_roundw
      case rel => exact ⟨k + 1, by omega, by go_num, by rw [HX.out]; exact MM.out.bare⟩
      case measure => simp [intOf]; omega
    · obtain rfl : k = n := by omega
      have qk : ¬ (k : Int) < (k : Int) := by omega
      have ht : l.take k = l := List.take_of_length_le (by omega)
      rw [ht] at MM
      go_wp2_with (first
        | (go_at_call 14; refine (MM.out.same ep lba HE.out).mono ?_; rintro e w7 ⟨rfl, h⟩; replace MM := Lib.hid h; clear h)
        | (go_at_call 9; refine (HA.out _ MM.out.bel).mono ?_; rintro e w8 ⟨rfl, hb⟩; have BB := Lib.hid (MM.out.bel.trans (hb.mono MM.out.bel.size)); clear hb HA))
      go_ret
      exact ⟨rfl, BB.out⟩
theorem walk (b lb f : Int) (a : Option Addr) (n c : Nat) (l : List Ca) (ep lba : Int) (w : World) (wb : (Lit.int .i64 b).wf = true) (wl : (Lit.int .i64 lb).wf = true) (wf : (Lit.int .i64 f).wf = true) (hl : CameC w a n c l) (we : (Lit.int .i64 ep).wf = true) (wlba : (Lit.int .i64 lba).wf = true) (hr : Bnd w) :
    Calls Tryz.prog 3 #[.agg #[.int .i64 b, .int .i64 lb, .int .i64 f], .slice a n c, .int .i64 ep, .int .i64 lba] w fun e w' => e = .returned (.bool true) ∧ Below w.heap.size w w' := by
  obtain ⟨h1, h2, _, h4, h5⟩ := hl
  cases hf : CalF.fewB l with
  | false => exact plays_few b lb f a n c l ep lba w h5 h1 h2 hr (.inl hf)
  | true =>
    by_cases hlb : 64 < lb ∧ lb ≤ 4096
    · exact plays_few b lb f a n c l ep lba w h5 h1 h2 hr (.inr ⟨hf, hlb.1, hlb.2⟩)
    · by_cases hg : GeoN.right b lb f
      · have h64 : lb ≤ 64 := by
          have := hg
          unfold GeoN.right at this
          omega
        exact plays_yes b lb f a n c l ep lba w h5 h1 h2 h4 we hr hf h64 hg
      · exact plays_no b lb f a n c l ep lba w h5 h1 h2 hr hf hlb hg
theorem own : ownKnob Tryz.prog.godebug = none := by kernel_rfl
theorem laidOut : laidOutB Tryz.prog = true := by kernel_rfl
set_option maxRecDepth 100000 in
theorem lifted (os : Os) (started : os.Started) (H : Type) (enc : TypeId × Value → H) :
    ReturnsInHanded {} Tryz.checked os 3 .any (fun w args => (Rows.modelPlaysSpec.pre enc Tryz.prog Tryz.f3 Rows.modelPlaysRow.domain false w args ∧ laidMetH Tryz.prog Rows.modelPlaysRow.laid w) ∧ sizedMet enc Tryz.prog Tryz.f3 (OpenSpec.ofChange Rows.modelPlaysSpec) false w args) (Rows.modelPlaysSpec.post enc Tryz.prog Tryz.f3 false true false false) := by
  refine returnsInHanded_of_change_and (C := Tryz.checked) (X := fun w _ => laidMetH Tryz.prog Rows.modelPlaysRow.laid w) (fun _ _ _ hh h => h.of_heap hh) own started (by kernel_rfl) Tryz.func3
    (ChangeSpec.witness_shaped (enc := enc) (C := Tryz.checked) (os := os) (X := fun w _ => laidMetH Tryz.prog Rows.modelPlaysRow.laid w) false (World.doorLaid Tryz.prog 400 os) #[.agg #[.int .i64 0, .int .i64 0, .int .i64 0], .slice none 0 0, .int .i64 0, .int .i64 0] 8 rfl (World.shaped_of_RefB (by kernel_rfl) (by kernel_rfl)) (by kernel_rfl) (by kernel_rfl) (by kernel_rfl) (GeoL.door_met os _)) ?_
  intro W base args ds gs before hval0 hW _ hZ hL _
  have hr := GeoL.of_laid hL
  have hval : ∀ (j : Nat) t v, Tryz.f3.params[j]? = some t → args[j]? = some v → Value.okWide Tryz.prog W .any base t v := hval0
  have hW' := hW
  obtain ⟨p, q, hA0, hV, rfl, hfz, hnd⟩ := hW
  have hA : DataW.TrodAll enc Tryz.prog W 0 (fun _ => true) true Tryz.f3.params.toList args.toList ds p := hA0
  rw [Tryz.params3] at hA hval
  obtain ⟨v0, vs0, d0, ds0, p0, q0, hargs, rfl, rfl, h0, r0⟩ := trodAll_cons hA
  obtain ⟨v1, vs1, d1, ds1, p1, q1, rfl, rfl, rfl, h1, r1⟩ := trodAll_cons r0
  obtain ⟨v2, vs2, d2, ds2, p2, q2, rfl, rfl, rfl, h2, r2⟩ := trodAll_cons r1
  obtain ⟨v3, vs3, d3, ds3, p3, q3, rfl, rfl, rfl, h3, r3⟩ := trodAll_cons r2
  obtain ⟨rfl, rfl, rfl⟩ := trodAll_nil r3
  obtain rfl : args = #[v0, v1, v2, v3] := by cases args; simp_all
  obtain ⟨rfl, rfl⟩ := trodVars_none hV
  have k0 := h0
  have lt0 : ∀ x ∈ p0, x.block < W.heap.size := by obtain ⟨m, hm⟩ := k0; exact DataW.trod_lt m _ _ _ hm
  obtain ⟨a0, b0, c0, rfl, wa0, wb0, wc0⟩ := GeoL.open_geo (hval 0 23 v0 rfl rfl) h0
  have k1 := h1
  have lt1 : ∀ x ∈ p1, x.block < W.heap.size := by obtain ⟨m, hm⟩ := k1; exact DataW.trod_lt m _ _ _ hm
  obtain ⟨b1, len1, ca1, rfl⟩ := okWide_slice Tryz.underlying24 (hval 1 24 v1 rfl rfl)
  obtain ⟨a1, n1, cap1, z1, he1, w1⟩ := CalR.open_calls h1
  simp only [Value.cells, List.cons.injEq, Value.slice.injEq, and_true] at he1
  obtain ⟨rfl, rfl, rfl⟩ := he1
  obtain ⟨a2, rfl, rfl, rfl, w2⟩ := open_int Tryz.underlying3 (hval 2 3 v2 rfl rfl) h2
  obtain ⟨a3, rfl, rfl, rfl, w3⟩ := open_int Tryz.underlying3 (hval 3 3 v3 rfl rfl) h3
  clear hA0 hval0
  refine (walk a0 b0 c0 b1 len1 ca1 z1 a2 a3 W wa0 wb0 wc0 w1 w2 w3 hr).mono fun e W' ⟨he, bel⟩ => ?_
  subst he
  exact ⟨_, rfl, _, _, _, [], _, [], hW', trodAll_mk1 (shut_bool Tryz.underlying4 _), (trodAll_cons_mk (Below.trod laidOut (by kernel_rfl) (of_decide_eq_true (by kernel_rfl)) k0 bel lt0) (trodAll_cons_mk (Below.trod laidOut (by kernel_rfl) (of_decide_eq_true (by kernel_rfl)) k1 bel lt1) (trodAll_cons_mk (shut_int Tryz.underlying3 w2) (trodAll_cons_mk (shut_int Tryz.underlying3 w3) trodAll_mk0)))), rfl, bel.frame _, fun h => by cases h⟩
theorem over : Rows.modelPlaysRow.holds Tryz.pinned (OpenSpec.ofChange Rows.modelPlaysSpec) :=
  OpenClaim.holds_of_wide 3 Tryz.f3 rfl rfl rfl rfl rfl rfl rfl ⟨rfl, rfl, rfl, rfl, rfl⟩ rfl rfl rfl rfl rfl (by kernel_rfl) Tryz.func3 (by kernel_rfl)
    (of_decide_eq_true (by kernel_rfl)) (by unfold Func.isWrapper; first | (rw [if_pos (by decide +kernel)]; kernel_rfl) | (rw [if_neg (by decide +kernel)]; exact ⟨rfl, rfl⟩))
    (fun os started H enc _ => lifted os started H enc)
/-- THE STATEMENT, proved. -/
theorem proved : Rows.ModelPlaysCardSaid :=
  Claim7.holds_tied_plain_at .later [] _ true _ _
    over (fun _ h => by cases h) (by kernel_rfl) (fun _ h => by cases h) modelPlays_row_tie rfl ⟨rfl, rfl⟩ (by kernel_rfl) rfl
    (fun f fn hf hfn => by
      obtain rfl : f = 3 := Option.some.inj ((show Tryz.prog.funcNamed "keepsake/keepsakelaw24.ModelPlays" = some 3 by kernel_rfl).symm.trans hf) |>.symm
      obtain rfl : fn = Tryz.f3 := (Option.some.inj (Tryz.func3.symm.trans hfn)).symm
      exact ⟨by kernel_rfl, fun j t ht => by
        rw [Tryz.params3] at ht
        have hm : t ∈ [23, 24, 3, 3] := by simpa using Array.mem_of_getElem? ht
        have hall : ([23, 24, 3, 3].all fun u => !Tryz.prog.wantsStandIn u) = true := by kernel_rfl
        exact (show Tryz.prog.wantsStandIn t = false by simpa using List.all_eq_true.1 hall t hm)⟩)
    (by kernel_rfl)
#print axioms proved
end Go.Proofs.YtopnodkdpehdoaaGreatDoor.modelPlays
