/- Stage 20's wakes and its laws PartsEncodes, PartsDecodes, PartsBack, walked. -/
import Derived.Test.YtgibkbeakfaehaaDoorJpt31
import Derived.Test.YtgibkbeakfaehaaDoorJpt35
import Derived.Test.YtgibkbeakfaehaaDoorJpt39
import Derived.Test.YtgibkbeakfaehaaDoorJpt40
import Derived.Test.YtgibkbeakfaehaaDoorJpt41

namespace Go.Proofs.YtgibkbeakfaehaaDoor
open Go.RowKit
set_option maxRecDepth 100000
set_option maxHeartbeats 8000000 in
theorem partsBack_walk (v : Value) (l : List En) (b : ByteArray) (w : World) (hv : FilesV w v l) (hf : l.length ≤ 4398046511104) (hz : b.size ≤ maxLen) (hT : PtTabs w) :
    Calls Tryd.prog 6 #[v, .string b] w fun e w' => e = .returned (.bool true) ∧ Below w.heap.size w w' := by
  have FV := hide hv
  have HW := hide (ptWakes_any w hT)
  have HLg := hide (fun W (hb : Below w.heap.size w W) => refLong_any v l W (FV.out.below hb) hf)
  have hz' : b.size ≤ 9223372036854775807 := hz
  clear hz
  cases lg : longU l with
  | true =>
    rw [lg] at HLg
    obtain ⟨p, c, rfl⟩ := files_formP hv
    clear hv hf hT lg FV
    go_enter Tryd.func6, Tryd.ntmps6
    go_wp2_with fail
    refine HW.out.mono ?_
    rintro e w1 ⟨rfl, b1⟩
    go_wp2_with fail
    refine (HLg.out _ b1).mono ?_
    rintro e w2 ⟨rfl, hu⟩
    obtain rfl : w1 = w2 := hu.symm
    go_wp2_with fail
    go_ret
    exact ⟨rfl, b1⟩
  | false =>
    obtain ⟨l60, hok⟩ := long_ok lg
    rw [lg] at HLg
    by_cases hb : 1000 < b.size
    · have d : decide (1000 < (b.size : Int)) = true := decide_eq_true (by omega)
      obtain ⟨p, c, rfl⟩ := files_formP hv
      clear hv hf hT lg FV hok hb
      go_enter Tryd.func6, Tryd.ntmps6
      go_wp2_with fail
      refine HW.out.mono ?_
      rintro e w1 ⟨rfl, b1⟩
      go_wp2_with fail
      refine (HLg.out _ b1).mono ?_
      rintro e w2 ⟨rfl, hu⟩
      obtain rfl : w1 = w2 := hu.symm
      go_wp2_with fail
      go_ret
      exact ⟨rfl, b1⟩
    · have d : decide (1000 < (b.size : Int)) = false := decide_eq_false (by omega)
      have hb : b.size ≤ 1000 := by omega
      have HEn := hide (fun W (hb' : Below w.heap.size w W) => ptEncode_any 2000 v l b W (FV.out.below hb') (by omega) hok hb (hT.below hb'))
      cases cl : clrL l (bL b) with
      | false =>
        rw [show encT20 l b = ⟨#[]⟩ by unfold encT20; rw [cl]; rfl, show encE20 l b = 10 by unfold encE20; rw [cl]; rfl] at HEn
        obtain ⟨p, c, rfl⟩ := files_formP hv
        clear hv hf hT lg hok cl FV
        go_enter Tryd.func6, Tryd.ntmps6
        go_wp2_with fail
        refine HW.out.mono ?_
        rintro e w1 ⟨rfl, b1⟩
        go_wp2_with fail
        refine (HLg.out _ b1).mono ?_
        rintro e w2 ⟨rfl, hu⟩
        obtain rfl : w1 = w2 := hu.symm
        go_wp2_with fail
        refine (HEn.out _ b1).mono ?_
        rintro e w3 ⟨rfl, b3⟩
        go_wp2_with fail
        go_ret
        exact ⟨rfl, chain b1 b3⟩
      | true =>
        have HD := hide (fun W (hb' : Below w.heap.size w W) => ptDecode_any (encT20 l b) b W (encT_size hok l60 hb) hb (hT.below hb'))
        have EB : decP (bL (encT20 l b)) (bL b) = some (l.map toldE) := by
          have : bL (encT20 l b) = encP l (bL b) := by unfold encT20; rw [if_pos cl]; rfl
          rw [this]; exact back_p cl
        rw [EB] at HD
        rw [show encE20 l b = 0 by unfold encE20; rw [cl]; rfl] at HEn
        have HRt := hide (fun W (hb' : Below w.heap.size w W) => refTold_any 2000 v l W (FV.out.below hb') (by omega) hok)
        have HSm := hide (fun a b W (ha : FilesV W a (l.map toldE)) (hb : FilesV W b (l.map toldE)) => refSameFiles_yes a b (l.map toldE) W ha hb (by rw [told_n]; omega))
        rw [show decI (some (l.map toldE)) = 0 from rfl, show decR (some (l.map toldE)) = l.map toldE from rfl] at HD
        obtain ⟨p, c, rfl⟩ := files_formP hv
        clear hv hf hT lg hok cl FV EB
        generalize l.map toldE = tl at *
        generalize encT20 l b = et at *
        go_enter Tryd.func6, Tryd.ntmps6
        go_wp2_with fail
        refine HW.out.mono ?_
        rintro e w1 ⟨rfl, b1⟩
        go_wp2_with fail
        refine (HLg.out _ b1).mono ?_
        rintro e w2 ⟨rfl, hu⟩
        obtain rfl : w1 = w2 := hu.symm
        go_wp2_with fail
        refine (HEn.out _ b1).mono ?_
        rintro e w3 ⟨rfl, b3⟩
        have B3 := hide (chain b1 b3)
        clear b1 b3
        go_wp2_with fail
        refine (HD.out _ B3.out).mono ?_
        rintro e w4 ⟨v4, rfl, f4, b4⟩
        have F4 := hide f4
        have B4 := hide (chain B3.out b4)
        obtain ⟨p4, c4, rfl⟩ := files_formP f4
        clear f4 b4 B3
        go_wp2_with fail
        refine (HRt.out _ B4.out).mono ?_
        rintro e w5 ⟨v5, rfl, f5, b5⟩
        have F5 := hide f5.files
        have B5 := hide (chain B4.out b5)
        replace F4 := hide (F4.out.below b5)
        obtain ⟨p5, c5, rfl⟩ := files_formP F5.out
        clear f5 b5 B4
        go_wp2_with fail
        refine (HSm.out _ _ _ F4.out F5.out).mono ?_
        rintro e w6 ⟨rfl, b6⟩
        go_wp2_with fail
        go_ret
        exact ⟨rfl, chain B5.out b6⟩

end Go.Proofs.YtgibkbeakfaehaaDoor
