/- The document's Attr, SameFiles, Same of layer 14. The document's cleaned, pushes of layer 14. -/
import Derived.Test.YtfjfkkbgkjmghaaGreatDoorJct24

namespace Go.Proofs.YtfjfkkbgkjmghaaGreatDoor
open Go.RowKit
set_option maxRecDepth 100000
theorem ret_fndA {a b : ByteArray} {c d : Bool} (h : a = b) (g : c = d) : Ending.returned (.tuple #[.string a, .bool c]) = .returned (.tuple #[.string b, .bool d]) := by rw [h, g]
set_option maxHeartbeats 4000000 in
set_option maxRecDepth 100000 in
theorem refAttrS_any (v : Value) (ax : List (ByteArray × ByteArray)) (name : ByteArray) (w : World) (hv : AttrsV w v ax) (hl : ax.length ≤ 4398046511104) :
    Calls Tryz.prog 30 #[v, .string name] w fun e w' => e = .returned (.tuple #[.string (fndS ax name), .bool (findA ax name).isSome]) ∧ w' = w := by
  have HF := hide (refFind_any v ax name w hv hl)
  obtain ⟨p, c, rfl, hv⟩ := hv
  cases hf : findA ax name with
  | none =>
    have E := hide (fnd_miss hf)
    rw [hf, show findV none = -1 from rfl] at HF
    clear hf hv hl
    go_enter Tryz.func30, Tryz.ntmps30
    go_wp2_with fail
    refine HF.out.mono ?_
    rintro e u ⟨rfl, hu⟩
    obtain rfl : w = u := hu.symm
    go_wp2_with fail
    go_ret2
    exact ⟨ret_fndA E.out.1.symm rfl, rfl⟩
  | some i =>
    obtain ⟨hi, _, _⟩ := List.findIdx?_eq_some_iff_getElem.1 (show ax.findIdx? (isN name) = some i from hf)
    have E := hide (fnd_hit hi hf)
    rw [hf, show findV (some i) = (i : Int) from rfl] at HF
    obtain ⟨b, o, rfl, hv2⟩ : ∃ b o, p = some ⟨b, o, none⟩ ∧ ∀ i (h : i < ax.length), w.cell? ⟨b, o + i * 2, none⟩ = some (.string ax[i].1) ∧ w.cell? ⟨b, o + i * 2 + 1, none⟩ = some (.string ax[i].2) := by
      rcases hv with t | t
      · rw [t] at hi; simp at hi
      · exact t
    have c1 := (hv2 i hi).2
    have i0 : (0 : Int) ≤ (i : Int) := by omega
    have i1 : (i : Int) < (ax.length : Int) := by omega
    have i2 : ¬ (i : Int) < 0 := by omega
    generalize ax[i].2 = t at *
    clear hf hv hv2 hl
    go_enter Tryz.func30, Tryz.ntmps30
    go_wp2_with fail
    refine HF.out.mono ?_
    rintro e u ⟨rfl, hu⟩
    obtain rfl : w = u := hu.symm
    go_wp2_with fail
    go_ret2
    exact ⟨ret_fndA E.out.1.symm rfl, rfl⟩
end Go.Proofs.YtfjfkkbgkjmghaaGreatDoor

namespace Go.Proofs.YtfjfkkbgkjmghaaGreatDoor
open Go.RowKit
theorem fnd_smallA {ax : List (ByteArray × ByteArray)} (hz : AxOK ax) (n : ByteArray) : (fndS ax n).size ≤ 100000 := by
  unfold fndS
  split
  · decide
  · rename_i i e
    obtain ⟨hi, _, _⟩ := List.findIdx?_eq_some_iff_getElem.1 (show ax.findIdx? (isN n) = some i from e)
    rw [show ax.getD i at0 = ax[i] by simp [List.getD, hi]]
    exact hz.val _ (List.getElem_mem hi)

end Go.Proofs.YtfjfkkbgkjmghaaGreatDoor
