/- The document's Right and Fits of layer 9, for texts of every length; facts of what Fits answers. No condition. -/
import Derived.Test.YtncljgpcloanfaaDoorQatRI
import Derived.Test.YtncljgpcloanfaaDoorQatV
namespace Go.Proofs.YtncljgpcloanfaaDoor
open Go.RowKit

set_option maxHeartbeats 1000000 in
theorem refRight_all (s : ByteArray) (w : World) :
    Calls Tryd.prog 11 #[.string s] w fun e w' => e = .returned (.bool (rightL s.data.toList)) ∧ Below w.heap.size w w' := by
  by_cases h : s.size ≤ 65536
  · exact refRight_any s w h
  · have i2 : (200 : Int) < (s.size : Int) := by omega
    have hl : s.data.toList.length = s.size := by simp
    have E := hide (right_no1 (p := s.data.toList) (by omega))
    clear hl h
    go_enter Tryd.func11, Tryd.ntmps11
    go_wp2_with fail
    go_ret
    exact ⟨ret_bool E.out.symm, Below.refl _ _⟩

set_option maxHeartbeats 1000000 in
theorem refFits_all (p s : ByteArray) (w : World) :
    Calls Tryd.prog 14 #[.string p, .string s] w fun e w' => e = .returned (fitV p s) ∧ Below w.heap.size w w' := by
  by_cases h : p.size ≤ 65536
  · exact refFits_any p s w h
  · have hl : p.data.toList.length = p.size := by simp
    have hr := right_no1 (p := p.data.toList) (by omega)
    have H := hide (refRight_all p w)
    rw [hr] at H
    have E := hide (fitV_form (s := s) hr)
    clear hl h hr
    generalize fitV p s = F at *
    go_enter Tryd.func14, Tryd.ntmps14
    go_wp2_with fail
    refine (H.out).mono ?_
    rintro e u1 ⟨rfl, b1⟩
    go_wp2_with fail
    go_ret2
    exact ⟨by rw [E.out]; rfl, b1⟩

/-- What Fits answers: its error is 0, 1 or 2; 0 just if the pattern is right and the text not too long. -/
theorem fits_cases (p s : List UInt8) : (rightL p = true ∧ ¬ 4000 < s.length ∧ fitsV p s = (fitB (patD p) (signsL s), 0)) ∨ (fitsV p s = (false, 1) ∧ rightL p = false) ∨ (fitsV p s = (false, 2) ∧ 4000 < s.length) := by
  unfold fitsV
  cases h : rightL p with
  | false => exact .inr (.inl ⟨rfl, rfl⟩)
  | true =>
    by_cases g : 4000 < s.length
    · exact .inr (.inr ⟨by rw [if_pos rfl, if_pos g], g⟩)
    · exact .inl ⟨rfl, g, by rw [if_pos rfl, if_neg g]⟩
theorem signs_none (s : List UInt8) : (signsL s).isEmpty = s.isEmpty := by
  cases s with
  | nil => rfl
  | cons c t => rw [signs_step _ (by simp)]; rfl
theorem app_bar (p q : ByteArray) : (p ++ ⟨#[124]⟩ ++ q).data.toList = p.data.toList ++ 124 :: q.data.toList := by simp
theorem app_grp (p : ByteArray) : ((⟨#[40]⟩ : ByteArray) ++ p ++ ⟨#[41]⟩).data.toList = 40 :: (p.data.toList ++ [41]) := by simp
theorem app_may (p : ByteArray) : ((⟨#[40]⟩ : ByteArray) ++ p ++ ⟨#[41, 63]⟩).data.toList = 40 :: (p.data.toList ++ [41, 63]) := by simp

end Go.Proofs.YtncljgpcloanfaaDoor
