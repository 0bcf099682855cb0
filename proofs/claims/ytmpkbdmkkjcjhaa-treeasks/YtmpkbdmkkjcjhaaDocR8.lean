/- The document's Text of layer 10: it answers by the function told here; the world is as it was. Conditions: a right document as it lies in the world. -/
import Derived.Test.YtmpkbdmkkjcjhaaDocR4
import Derived.Test.YtmpkbdmkkjcjhaaDocO
namespace Go.Proofs.Ytmpkbdmkkjcjhaa
open Go.RowKit

/-- A text, and behind it the texts of nodes. -/
def textF (l : List Nd) : ByteArray → List Int → ByteArray
  | s, [] => s
  | s, c :: t => textF l (s ++ (nd l c.toNat).text) t
def textP (l : List Nd) (id : Int) : ByteArray := textF l (nd l id.toNat).text (nd l id.toNat).kids
theorem text_small {l : List Nd} (h : Right l) {i : Nat} (hi : i < l.length) : (nd l i).text.size ≤ 4000 := by
  have ha := h.alone i hi
  unfold aloneB at ha
  split at ha
  · rw [Bool.and_eq_true, Bool.and_eq_true, decide_eq_true_eq] at ha
    exact ha.2.2
  · rw [Bool.and_eq_true, Bool.and_eq_true, beq_iff_eq] at ha
    omega
theorem kids_few {l : List Nd} (h : Right l) {i : Nat} (hi : i < l.length) : (nd l i).kids.length ≤ 400 := by
  have h1 := nodup_len l.length _ (kids_nodup h hi) (fun x hx => by
    have := h.kid i hi x hx
    exact ⟨this.1, this.2.1⟩)
  have := h.len
  omega
set_option maxHeartbeats 2000000 in
theorem refText_any (v : Value) (l : List Nd) (id : Int) (m0 : Nat) (w : World) (hv : NodesV w v l) (hI : Is l id m0) :
    Calls Try.prog 35 #[v, .int .i64 id] w fun e w' => e = .returned (.string (textP l id)) ∧ w' = w := by
  have hR := hI.right
  obtain ⟨rfl, h0⟩ := (⟨hI.eq, hI.lt⟩ : id = (m0 : Int) ∧ m0 < l.length)
  clear hI
  have hlen := hR.len.2
  obtain ⟨p, c, rfl, hv⟩ := hv
  rcases hv with hv | ⟨b, o, rfl, hv⟩
  · rw [hv] at h0; simp at h0
  have HV := hide hv
  clear hv
  obtain ⟨va0, vk0, hN0⟩ := HV.out m0 h0
  have c1 := hN0.text
  have c4 := hN0.kids
  have i0 : (m0 : Int) < (l.length : Int) := by omega
  have ts := text_small hR h0
  have kf := kids_few hR h0
  have KD := hide (fun x hx => hR.kid m0 h0 x hx)
  have TS := hide (fun i hi => text_small hR (i := i) hi)
  obtain ⟨pk, ck, rfl, hks⟩ := hN0.ks
  unfold textP
  rw [Int.toNat_natCast]
  rw [nd_at h0] at ts kf KD ⊢
  clear hN0 hR
  generalize l[m0].text = t0 at *
  generalize l[m0].kids = ks at *
  generalize hW : textF l t0 ks = W
  have HW := hide hW
  clear hW
  go_enter Try.func35, Try.ntmps35
  go_wp2_with fail
  go_loop [5, 6] (fun sv iv => ∃ (j : Nat) (s : ByteArray), j ≤ ks.length ∧ iv = .int .i64 j ∧ sv = .string s ∧ s.size ≤ 4000 + 4000 * j ∧ Hid (textF l s (ks.drop j) = W)) (fun _ iv => ks.length - (intOf iv).toNat)
  case atStart => exact ⟨0, t0, Nat.zero_le _, rfl, rfl, by omega, HW.out⟩
  case round =>
    obtain ⟨j, s, hj, rfl, rfl, hs, hc⟩ := hrel
    clear HW
    by_cases h : j < ks.length
    · have i1 : (j : Int) < (ks.length : Int) := by omega
      rcases hks with hks | ⟨kb, ko, rfl, hks⟩
      · rw [hks] at h; simp at h
      have cc := hks j h
      have hk := KD.out ks[j] (List.getElem_mem _)
      obtain ⟨m, em⟩ : ∃ m : Nat, ks[j] = (m : Int) := ⟨ks[j].toNat, by omega⟩
      have hm : m < l.length := by omega
      have hc1 := hc.out
      rw [List.drop_eq_getElem_cons h] at hc1
      have hc2 : textF l (s ++ (nd l ks[j].toNat).text) (ks.drop (j + 1)) = W := hc1
      rw [em, Int.toNat_natCast, nd_at hm] at hc2
      have tm := TS.out m hm
      rw [nd_at hm] at tm
      obtain ⟨vam, vkm, hNm⟩ := HV.out m hm
      have cm := hNm.text
      rw [em] at cc
      have m1 : (m : Int) < (l.length : Int) := by omega
      have HC := hide hc2
      have q1 := fun w => run_string_add_sum (P := Try.prog) w s l[m].text (by omega)
      have sz : (s ++ l[m].text).size ≤ 4000 + 4000 * (j + 1) := by rw [ByteArray.size_append]; omega
      clear hc hc1 hc2 hk em hNm hks
      generalize s ++ l[m].text = s2 at *
      generalize l[m].text = tx at *
      go_wp2_with fail
      go_round
      case rel => exact ⟨j + 1, s2, by omega, by go_num, rfl, sz, HC.out⟩
      case measure => simp [intOf]; omega
    · obtain rfl : j = ks.length := by omega
      have E : Hid (s = W) := by
        have := hc.out
        rw [List.drop_length] at this
        exact this
      clear hc hks h
      go_wp2_with fail
      go_ret
      exact ⟨by rw [← E.out]; rfl, rfl⟩

end Go.Proofs.Ytmpkbdmkkjcjhaa
