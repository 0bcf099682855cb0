/- The program's Top, Up, Attr of layer 10. -/
import Derived.Test.YtoejiojkpbibcaaDoorJow17

namespace Go.Proofs.YtoejiojkpbibcaaDoor
open Go.RowKit
def topQ (l : List Nd) (id : Int) : Int := if hasN l id = true then topP l id else -1
theorem topP_root {l : List Nd} (h : Right l) {m : Nat} (hm : m < l.length) (hp : l[m].parent = -1) : topP l (m : Int) = (m : Int) := by
  have hu := anc_up (h.ende (k := (m : Int)) (by omega)) (by omega)
  rw [parI_nat hm] at hu
  unfold topP
  rw [hu, anc_neg (by omega)]; rfl
theorem topP_up {l : List Nd} (h : Right l) {m n : Nat} (hm : m < l.length) (hp : l[m].parent = (n : Int)) : topP l (n : Int) = topP l (m : Int) := by
  have hu := anc_up (h.ende (k := (m : Int)) (by omega)) (by omega)
  have pb := h.par m hm
  rw [nd_at hm, hp] at pb
  have hu2 := anc_up (h.ende (k := (n : Int)) (by omega)) (by omega)
  rw [parI_nat hm, hp] at hu
  unfold topP
  rw [hu, hu2]; rfl
set_option maxHeartbeats 2000000 in
theorem top_any (v : Value) (l : List Nd) (id : Int) (w : World) (hv : NodesV w v l) (hz : DocSz l) :
    Calls Tryd.prog 73 #[v, .int .i64 id] w fun e w' => e = .returned (.int .i64 (topQ l id)) ∧ Below w.heap.size w w' := by
  have HH := hide (isThere_any v l id w hv hz)
  obtain ⟨p, c, rfl, hv⟩ := hv
  have HV := hide hv
  clear hv hz
  cases q : hasN l id with
  | false =>
    rw [q] at HH
    have E : Hid (topQ l id = -1) := by show _ = _; unfold topQ; rw [q]; rfl
    clear q
    go_enter Tryd.func73, Tryd.ntmps73
    go_wp2_with fail
    refine HH.out.mono ?_
    rintro e w1 ⟨rfl, b1⟩
    go_wp2_with fail
    go_ret
    exact ⟨ret_int E.out.symm, b1⟩
  | true =>
    rw [q] at HH
    obtain ⟨hR, hi⟩ := has_is q
    obtain ⟨m0, rfl⟩ : ∃ m : Nat, id = (m : Int) := ⟨id.toNat, by have := hi.1; omega⟩
    have h0 : m0 < l.length := by have := hi.2; omega
    obtain ⟨T, hT⟩ : ∃ T, Hid (topP l (m0 : Int) = T) := ⟨_, show topP l (m0 : Int) = _ from rfl⟩
    have E : Hid (topQ l (m0 : Int) = T) := by show _ = _; unfold topQ; rw [q]; exact hT.out
    have HRt := hide hR
    have hlen := hR.len.2
    obtain ⟨b, o, rfl, hcell⟩ : ∃ b o, p = some ⟨b, o, none⟩ ∧ ∀ i (h : i < l.length), ∃ va vk, NodeAt w b (o + i * 5) l[i] va vk := by
      rcases HV.out with t | t
      · rw [t] at h0; simp at h0
      · exact t
    have HC := hide hcell
    clear q hi hR hcell HV
    go_enter Tryd.func73, Tryd.ntmps73
    go_wp2_with fail
    refine HH.out.mono ?_
    rintro e w1 ⟨rfl, b1⟩
    go_wp2_with fail
    have B1 := hide b1
    clear b1 HH
    go_loop [1] (fun kv => ∃ m : Nat, kv = .int .i64 (m : Int) ∧ m < l.length ∧ Hid (topP l (m : Int) = T)) (fun kv => hgt l (intOf kv))
    case atStart => exact ⟨m0, rfl, h0, hT⟩
    case round =>
      obtain ⟨m, rfl, hm, hc⟩ := hrel
      clear hT
      have he := HRt.out.ende (show (m : Int) < (l.length : Int) by omega)
      have HH := hide (hgt_up he (by omega))
      have pb := HRt.out.par m hm
      rw [nd_at hm] at pb
      rw [parI_nat hm] at HH
      obtain ⟨va, vk, N0⟩ := HC.out m hm
      have a3 := (N0.below B1.out).parent
      have m1 : (m : Int) < (l.length : Int) := by omega
      have m0' : (0 : Int) ≤ (m : Int) := by omega
      by_cases q1 : l[m].parent = -1
      · have f1 : (l[m].parent != -1) = false := by rw [q1]; rfl
        have f2 : (l[m].parent == -1) = true := by rw [q1]; rfl
        have E2 : Hid (topQ l (m0 : Int) = (m : Int)) := by show _ = _; rw [E.out, ← hc.out]; exact topP_root HRt.out hm q1
        clear q1 hc he HH pb N0
        generalize l[m].parent = pm at *
        go_wp2_with fail
        go_ret
        exact ⟨ret_int E2.out.symm, B1.out⟩
      · have f1 : (l[m].parent != -1) = true := by rw [bne_iff_ne]; exact q1
        have f2 : (l[m].parent == -1) = false := by rw [beq_eq_false_iff_ne]; exact q1
        obtain ⟨n, en⟩ : ∃ n : Nat, l[m].parent = (n : Int) := ⟨l[m].parent.toNat, by omega⟩
        have hn : n < l.length := by omega
        have HC1 : Hid (topP l (n : Int) = T) := by show _ = _; rw [topP_up HRt.out hm en]; exact hc.out
        rw [en] at a3 f1 f2 HH
        clear q1 hc he pb N0 en
        go_wp2_with fail
        go_round
        case rel => exact ⟨n, rfl, hn, HC1⟩
        case measure => have := HH.out; show hgt l (n : Int) < hgt l (m : Int); omega

end Go.Proofs.YtoejiojkpbibcaaDoor
