/- What hmac's 'Key' answers, and the texts that make a key's block turned by a byte: the walks of their texts. The condition: the rounds' numbers lie in the program's variable. -/
import Derived.Test.YtcndlmkcnhhckaaDoorHmac
import Derived.Test.YtcndlmkcnhhckaaDoorLSum
namespace Go.Proofs.YtcndlmkcnhhckaaDoor.HKey
open Go.RowKit
open STurn
theorem noughts (h : List UInt8) (hh : h.length ≤ 64) (n : Int) (hn : n = 64 - (h.length : Int)) (w : World) :
    Calls Tryd.prog 55 #[.string ⟨#[0]⟩, .int .i64 n] w fun e w' => e = .returned (.string ⟨(List.replicate (64 - h.length) 0).toArray⟩) ∧ Below w.heap.size w w' := by
  subst hn
  rw [show (64 - (h.length : Int)) = ((64 - h.length : Nat) : Int) from by omega]
  exact SPad.repeated (64 - h.length) w (by omega)
theorem Key (k : List UInt8) (w : World) (hr : Rds w) (hl : k.length ≤ 576460752303423488) :
    Calls Tryd.prog 37 #[.string ⟨k.toArray⟩] w fun e w' => e = .returned (.string ⟨(keyBlock k).toArray⟩) ∧ Below w.heap.size w w' := by
  have HE : Hid ((⟨(keyHead k).toArray⟩ ++ ⟨(List.replicate (64 - (keyHead k).length) 0).toArray⟩ : ByteArray) = ⟨(keyBlock k).toArray⟩) := by
    show _ = _
    rw [ByteArray.mk_append_mk]; rfl
  have HN := Lib.hid (fun n hn W => noughts (keyHead k) (keyHead_le k) n hn W)
  have hzl : (List.replicate (64 - (keyHead k).length) (0 : UInt8)).length ≤ 64 := by rw [List.length_replicate]; omega
  generalize List.replicate (64 - (keyHead k).length) (0 : UInt8) = z at *
  by_cases h : (64 : Int) < (k.length : Int)
  · have e : keyHead k = sum k := if_pos (by omega)
    have H1 := Lib.hid (SFold.one k w hr hl)
    rw [e] at HE HN
    have hs := sum_length k
    generalize sum k = s at *
    generalize keyBlock k = b at *
    clear e hr
    go_enter Tryd.func37, Tryd.ntmps37
    go_wp2_with (go_at_call 39; refine H1.out.mono ?_; rintro e w1 ⟨rfl, hb1⟩; have HB1 := Lib.hid hb1; clear hb1)
    refine (HN.out _ (by omega) _).mono ?_
    rintro e w2 ⟨rfl, hb2⟩
    have HB2 := Lib.hid (HB1.out.trans (hb2.mono HB1.out.size))
    clear hb2
    go_wp2
    rw [HE.out]
    go_ret
    exact ⟨rfl, HB2.out⟩
  · have e : keyHead k = k := if_neg (by omega)
    rw [e] at HE HN
    generalize keyBlock k = b at *
    clear e hr
    go_enter Tryd.func37, Tryd.ntmps37
    go_wp2_with fail
    refine (HN.out _ rfl _).mono ?_
    rintro e w2 ⟨rfl, hb2⟩
    have HB2 := Lib.hid hb2
    clear hb2
    go_wp2
    rw [HE.out]
    go_ret
    exact ⟨rfl, HB2.out⟩
end Go.Proofs.YtcndlmkcnhhckaaDoor.HKey
