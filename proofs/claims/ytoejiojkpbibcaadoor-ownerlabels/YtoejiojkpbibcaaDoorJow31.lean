/- The document's Has, Within, Attr, Top, Up of layer 10. -/
import Derived.Test.YtoejiojkpbibcaaDoorJow3

namespace Go.Proofs.YtoejiojkpbibcaaDoor
open Go.RowKit
set_option maxRecDepth 100000
def attrV (o : Option ByteArray) : Value := .tuple #[.string (o.getD ⟨#[]⟩), .bool o.isSome]
set_option maxHeartbeats 2000000 in
theorem refAttr_any (v : Value) (l : List Nd) (id : Int) (m0 : Nat) (name : ByteArray) (w : World) (hv : NodesV w v l) (hI : id = (m0 : Int) ∧ m0 < l.length) (hz : DocSz l) :
    Calls Tryd.prog 71 #[v, .int .i64 id, .string name] w fun e w' => e = .returned (attrV (attrP l id name)) ∧ w' = w := by
  obtain ⟨rfl, h0⟩ := hI
  have hlen := hz.len
  have sz := hz.nds l[m0] (List.getElem_mem _)
  obtain ⟨p, c, rfl, hv⟩ := hv
  rcases hv with hv | ⟨b, o, rfl, hv⟩
  · rw [hv] at h0; simp at h0
  obtain ⟨va, vk, hN⟩ := hv m0 h0
  have c2 := hN.attrs
  have HF := hide (fun (w : World) (hA : AttrsV w va l[m0].attrs) => refFind_any va l[m0].attrs name w hA sz.attrs)
  have i0 : (m0 : Int) < (l.length : Int) := by omega
  have hA := hide hN.at_
  obtain ⟨pa, ca, rfl, ha⟩ := hN.at_
  have asz := sz.attrs
  unfold attrP
  rw [Int.toNat_natCast, nd_at h0]
  clear hv hN sz hz
  generalize l[m0].attrs = ax at *
  cases hf : findA ax name with
  | none =>
    rw [hf] at HF
    have fv : findV none < 0 := by show (-1 : Int) < 0; omega
    clear hf ha
    generalize findV none = z at *
    show Calls _ _ _ _ fun e w' => e = .returned (.tuple #[.string ⟨#[]⟩, .bool false]) ∧ w' = w
    go_enter Tryd.func71, Tryd.ntmps71
    go_wp2_with fail
    refine (HF.out _ hA.out).mono ?_
    rintro e u ⟨rfl, rfl⟩
    go_wp2_with fail
    go_ret2
    exact ⟨rfl, rfl⟩
  | some k =>
    rw [hf] at HF
    have hk : k < ax.length := by
      unfold findA at hf
      obtain ⟨q, _⟩ := List.findIdx?_eq_some_iff_getElem.1 hf
      exact q
    rcases ha with ha | ⟨ab, ao, rfl, ha⟩
    · rw [ha] at hk; simp at hk
    have cv := (ha k hk).2
    have fv : findV (some k) = (k : Int) := rfl
    rw [fv] at HF
    have k1 : (k : Int) < (ax.length : Int) := by omega
    have k2 : ¬ (k : Int) < 0 := by omega
    clear hf ha fv
    show Calls _ _ _ _ fun e w' => e = .returned (.tuple #[.string (ax.getD k at0).2, .bool true]) ∧ w' = w
    rw [show ax.getD k at0 = ax[k] by simp [List.getD, hk]]
    generalize ax[k].2 = x2 at *
    go_enter Tryd.func71, Tryd.ntmps71
    go_wp2_with fail
    refine (HF.out _ hA.out).mono ?_
    rintro e u ⟨rfl, rfl⟩
    go_wp2_with fail
    go_ret2
    exact ⟨rfl, rfl⟩

end Go.Proofs.YtoejiojkpbibcaaDoor
