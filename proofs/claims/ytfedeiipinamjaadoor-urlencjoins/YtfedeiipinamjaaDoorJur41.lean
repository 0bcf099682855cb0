/- Entries told by a text and read again, as functions of lists. Stage 19's laws UrlencJoins, UrlencSigns, walked. -/
import Derived.Test.YtfedeiipinamjaaDoorJur8
import Derived.Test.YtfedeiipinamjaaDoorJur12
import Derived.Test.YtfedeiipinamjaaDoorJur16
import Derived.Test.YtfedeiipinamjaaDoorJur17
import Derived.Test.YtfedeiipinamjaaDoorJur21
import Derived.Test.YtfedeiipinamjaaDoorJur22

namespace Go.Proofs.YtfedeiipinamjaaDoor
open Go.RowKit
theorem join_app (c : UInt8) : ∀ (a b : List (List UInt8)), a ≠ [] → b ≠ [] → joinL c (a ++ b) = joinL c a ++ c :: joinL c b
  | [], _, h, _ => absurd rfl h
  | [x], y :: b, _, _ => rfl
  | x :: y :: a, b, _, hb => by
    have ih := join_app c (y :: a) b (by simp) hb
    show x ++ c :: joinL c ((y :: a) ++ b) = (x ++ c :: joinL c (y :: a)) ++ c :: joinL c b
    rw [ih]
    simp
theorem join_u {a b : List En} (ha : a ≠ []) (hb : b ≠ []) : encU (a ++ b) = encU a ++ 38 :: encU b := by
  unfold encU plainU
  rw [List.map_append, List.map_append]
  exact join_app _ _ _ (by simpa using ha) (by simpa using hb)
end Go.Proofs.YtfedeiipinamjaaDoor

namespace Go.Proofs.YtfedeiipinamjaaDoor
open Go.RowKit
set_option maxRecDepth 100000
theorem ens_app {n : Nat} {a b : List En} (ha : EnsOK n a) (hb : EnsOK n b) (la : a.length ≤ 60) (lb : b.length ≤ 60) : EnsOK n (a ++ b) := ⟨by rw [List.length_append]; omega, fun e he => by
  rcases List.mem_append.1 he with h | h
  · exact ha.ent e h
  · exact hb.ent e h⟩
theorem url_join {a b : List En} (ha : a ≠ []) (hb : b ≠ []) : urlS (a ++ b) = urlS a ++ ⟨#[38]⟩ ++ urlS b := by
  unfold urlS
  rw [join_u ha hb]
  apply ByteArray.ext
  show (encU a ++ 38 :: encU b).toArray = ((txt (encU a)) ++ (⟨#[38]⟩ : ByteArray) ++ (txt (encU b))).data
  simp [txt]
set_option maxHeartbeats 8000000 in
theorem urlencJoins_walk (va vb : Value) (a b : List En) (w : World) (ha : FilesV w va a) (hb : FilesV w vb b) (hfa : a.length ≤ 4398046511104) (hfb : b.length ≤ 4398046511104) (hT : UrTabs w) :
    Calls Tryd.prog 6 #[va, vb] w fun e w' => e = .returned (.bool true) ∧ Below w.heap.size w w' := by
  have VA := hide ha
  have VB := hide hb
  have HW := hide (urWakes_any w hT)
  have HLa := hide (fun W (hb : Below w.heap.size w W) => refLong_any va a W (VA.out.below hb) hfa)
  have HLb := hide (fun W (hb : Below w.heap.size w W) => refLong_any vb b W (VB.out.below hb) hfb)
  cases lga : longU a with
  | true =>
    rw [lga] at HLa
    obtain ⟨p, c, rfl⟩ := files_formU ha
    obtain ⟨q, d, rfl⟩ := files_formU hb
    clear ha hb hfa hfb hT VA VB lga HLb
    go_enter Tryd.func6, Tryd.ntmps6
    go_wp2_with fail
    refine HW.out.mono ?_
    rintro e w1 ⟨rfl, b1⟩
    go_wp2_with fail
    refine (HLa.out _ b1).mono ?_
    rintro e w2 ⟨rfl, hu⟩
    obtain rfl : w1 = w2 := hu.symm
    go_wp2_with fail
    go_ret
    exact ⟨rfl, b1⟩
  | false =>
    rw [lga] at HLa
    cases lgb : longU b with
    | true =>
      rw [lgb] at HLb
      obtain ⟨p, c, rfl⟩ := files_formU ha
      obtain ⟨q, d, rfl⟩ := files_formU hb
      clear ha hb hfa hfb hT VA VB lga lgb
      go_enter Tryd.func6, Tryd.ntmps6
      go_wp2_with fail
      refine HW.out.mono ?_
      rintro e w1 ⟨rfl, b1⟩
      go_wp2_with fail
      refine (HLa.out _ b1).mono ?_
      rintro e w2 ⟨rfl, hu⟩
      obtain rfl : w1 = w2 := hu.symm
      go_wp2_with fail
      refine (HLb.out _ b1).mono ?_
      rintro e w2 ⟨rfl, hu⟩
      obtain rfl : w1 = w2 := hu.symm
      go_wp2_with fail
      go_ret
      exact ⟨rfl, b1⟩
    | false =>
      rw [lgb] at HLb
      obtain ⟨la, oka⟩ := long_ok lga
      obtain ⟨lb, okb⟩ := long_ok lgb
      obtain ⟨p, c, rfl⟩ := files_formU ha
      obtain ⟨q, d, rfl⟩ := files_formU hb
      by_cases na : a = []
      · have e1 : ((a.length : Int) == 0) = true := by rw [na]; rfl
        clear ha hb hfa hfb hT VA VB lga lgb oka okb na
        go_enter Tryd.func6, Tryd.ntmps6
        go_wp2_with fail
        refine HW.out.mono ?_
        rintro e w1 ⟨rfl, b1⟩
        go_wp2_with fail
        refine (HLa.out _ b1).mono ?_
        rintro e w2 ⟨rfl, hu⟩
        obtain rfl : w1 = w2 := hu.symm
        go_wp2_with fail
        refine (HLb.out _ b1).mono ?_
        rintro e w2 ⟨rfl, hu⟩
        obtain rfl : w1 = w2 := hu.symm
        go_wp2_with fail
        go_ret
        exact ⟨rfl, b1⟩
      · have e1 : ((a.length : Int) == 0) = false := by
          rw [beq_eq_false_iff_ne]
          intro t
          exact na (List.eq_nil_of_length_eq_zero (by omega))
        by_cases nb : b = []
        · have e2 : ((b.length : Int) == 0) = true := by rw [nb]; rfl
          clear ha hb hfa hfb hT VA VB lga lgb oka okb na nb
          go_enter Tryd.func6, Tryd.ntmps6
          go_wp2_with fail
          refine HW.out.mono ?_
          rintro e w1 ⟨rfl, b1⟩
          go_wp2_with fail
          refine (HLa.out _ b1).mono ?_
          rintro e w2 ⟨rfl, hu⟩
          obtain rfl : w1 = w2 := hu.symm
          go_wp2_with fail
          refine (HLb.out _ b1).mono ?_
          rintro e w2 ⟨rfl, hu⟩
          obtain rfl : w1 = w2 := hu.symm
          go_wp2_with fail
          go_ret
          exact ⟨rfl, b1⟩
        · have e2 : ((b.length : Int) == 0) = false := by
            rw [beq_eq_false_iff_ne]
            intro t
            exact nb (List.eq_nil_of_length_eq_zero (by omega))
          have HAB := hide (fun u W (hb : Below w.heap.size w W) (hu : FilesV W u (a ++ b)) => urEncode_any 2000 u (a ++ b) W hu (by omega) (ens_app oka okb la lb) (hT.below hb))
          rw [url_join na nb] at HAB
          have HEa := hide (fun W (hb : Below w.heap.size w W) => urEncode_any 2000 _ a W (VA.out.below hb) (by omega) oka (hT.below hb))
          have HEb := hide (fun W (hb : Below w.heap.size w W) => urEncode_any 2000 _ b W (VB.out.below hb) (by omega) okb (hT.below hb))
          have za := ur_size oka
          have zb := ur_size okb
          have BQ := hide (beq_txt (urlS a ++ ⟨#[38]⟩ ++ urlS b))
          clear ha hb hfa hfb hT lga lgb oka okb na nb
          generalize urlS a = ua at *
          generalize urlS b = ub at *
          go_enter Tryd.func6, Tryd.ntmps6
          go_wp2_with fail
          refine HW.out.mono ?_
          rintro e w1 ⟨rfl, b1⟩
          go_wp2_with fail
          refine (HLa.out _ b1).mono ?_
          rintro e w2 ⟨rfl, hu⟩
          obtain rfl : w1 = w2 := hu.symm
          go_wp2_with fail
          refine (HLb.out _ b1).mono ?_
          rintro e w2 ⟨rfl, hu⟩
          obtain rfl : w1 = w2 := hu.symm
          have OE := hide (OwnR.empty w1.heap.size w1 (Nat.le_refl _))
          have A1 : Hid (Below w1.heap.size w1 (w1.alloc (.cells #[] 31))) := (Below.refl _ w1).alloc (Nat.le_refl _) _
          have FA := hide ((VA.out.below b1).below A1.out)
          have FB := hide ((VB.out.below b1).below A1.out)
          have SA := hide A1.out.size
          have C1 := hide (chain b1 A1.out)
          go_wp2_with (first | (at_builtin; refine wpList_append_en0 rfl _ _ rfl w1.heap.size _ rfl OE.out _ a rfl FA.out (by omega) SA.out ?_; intro q2 c2 w2 o2 b2; have BB : Hid (Below w.heap.size w w2) := b1.trans ((A1.out.trans b2).mono b1.size); have FB2 := hide (VB.out.below BB.out); have S2 := hide (Nat.le_trans SA.out b2.size)) | (at_builtin; refine wpList_append_en rfl _ _ rfl w1.heap.size _ a rfl o2 _ b rfl FB2.out (by omega) S2.out ?_; intro q3 c3 w3 o3 b3))
          have B3 : Hid (Below w.heap.size w w3) := BB.out.trans (b3.mono b1.size)
          have F3 := hide o3.files
          clear OE A1 FA FB SA C1 o2 o3 b2 b3 b1 BB FB2 S2
          refine (HAB.out _ _ B3.out F3.out).mono ?_
          rintro e w4 ⟨rfl, b4⟩
          have B4 := hide (chain B3.out b4)
          clear b4 B3 F3
          go_wp2_with fail
          refine (HEa.out _ B4.out).mono ?_
          rintro e w5 ⟨rfl, b5⟩
          have B5 := hide (chain B4.out b5)
          clear b5 B4
          go_wp2_with fail
          refine (HEb.out _ B5.out).mono ?_
          rintro e w6 ⟨rfl, b6⟩
          have q1 := BQ.out
          go_wp2_with fail
          go_ret
          exact ⟨rfl, chain B5.out b6⟩

end Go.Proofs.YtfedeiipinamjaaDoor
