/- The document's Has, Within, Attr, Top, Up of layer 10. -/
import Derived.Test.YtoejiojkpbibcaaDoorJow28

namespace Go.Proofs.YtoejiojkpbibcaaDoor
open Go.RowKit
set_option maxRecDepth 100000
set_option maxHeartbeats 2000000 in
theorem refTop_any (v : Value) (l : List Nd) (id : Int) (m0 : Nat) (w : World) (hv : NodesV w v l) (hI : Is l id m0) :
    Calls Tryd.prog 24 #[v, .int .i64 id] w fun e w' => e = .returned (.int .i64 (topP l id)) ∧ w' = w := by
  have hR := hI.right
  obtain ⟨rfl, h0⟩ := (⟨hI.eq, hI.lt⟩ : id = (m0 : Int) ∧ m0 < l.length)
  clear hI
  have hlen := hR.len.2
  obtain ⟨p, c, rfl, hv⟩ := hv
  rcases hv with hv | ⟨b, o, rfl, hv⟩
  · rw [hv] at h0; simp at h0
  have HV := hide hv
  have HRt := hide hR
  clear hv hR
  generalize hW : topP l (m0 : Int) = W
  have HW := hide hW
  clear hW
  go_enter Tryd.func24, Tryd.ntmps24
  go_wp2_with fail
  go_loop [1] (fun kv => ∃ m : Nat, kv = .int .i64 (m : Int) ∧ m < l.length ∧ Hid (topP l (m : Int) = W)) (fun kv => hgt l (intOf kv))
  case atStart => exact ⟨m0, rfl, h0, HW.out⟩
  case round =>
    obtain ⟨m, rfl, hm, hc⟩ := hrel
    clear HW
    have he := HRt.out.ende (show (m : Int) < (l.length : Int) by omega)
    have hu := anc_up he (by omega)
    have hh := hgt_up he (by omega)
    have pb := HRt.out.par m hm
    rw [nd_at hm] at pb
    rw [parI_at hm] at hu hh
    obtain ⟨vam, vkm, hNm⟩ := HV.out m hm
    have cm := hNm.parent
    have m1 : (m : Int) < (l.length : Int) := by omega
    by_cases q1 : l[m].parent < 0
    · have q2 : ¬ 0 ≤ l[m].parent := by omega
      have E : Hid (W = (m : Int)) := by
        show _ = _
        rw [← hc.out]
        unfold topP
        rw [hu, anc_neg q1]; rfl
      clear hc hu hh pb he hNm
      generalize l[m].parent = pm at *
      go_wp2_with fail
      go_ret
      exact ⟨ret_int E.out.symm, rfl⟩
    · obtain ⟨n, en⟩ : ∃ n : Nat, l[m].parent = (n : Int) := ⟨l[m].parent.toNat, by omega⟩
      have hn : n < l.length := by omega
      rw [en] at hu hh cm
      have he2 := HRt.out.ende (show (n : Int) < (l.length : Int) by omega)
      have hu2 := anc_up he2 (by omega)
      have HC1 : Hid (topP l (n : Int) = W) := by
        show _ = _
        rw [← hc.out]
        unfold topP
        rw [hu, hu2]; rfl
      have HH := hide hh
      have n1 : 0 ≤ (n : Int) := by omega
      clear hc hu hh pb he hNm he2 hu2 q1 en
      go_wp2_with fail
      go_round
      case rel => exact ⟨n, rfl, hn, HC1.out⟩
      case measure => have := HH.out; show hgt l (n : Int) < hgt l (m : Int); omega

end Go.Proofs.YtoejiojkpbibcaaDoor
