/- The program's Named of layer 10. -/
import Derived.Test.YtldbaoolddlacaaDoorJgd17

namespace Go.Proofs.YtldbaoolddlacaaDoor
open Go.RowKit
def idIs (x : ByteArray) (a : ByteArray × ByteArray) : Bool := decide (a.1 = idT) && decide (a.2 = x)
theorem id_any {ax : List (ByteArray × ByteArray)} (h : AttrsOk ax) (x : ByteArray) : (ax.findIdx? (idIs x)).isSome = decide ((findA ax idT).map (fun i => (ax.getD i at0).2) = some x) := by
  rw [List.findIdx?_isSome, Bool.eq_iff_iff, List.any_eq_true, decide_eq_true_eq]
  constructor
  · rintro ⟨a, ha, q⟩
    unfold idIs at q
    rw [Bool.and_eq_true, decide_eq_true_eq, decide_eq_true_eq] at q
    obtain ⟨j, hj, rfl⟩ := List.getElem_of_mem ha
    have hf : findA ax idT = some j := by
      rw [← q.1]
      rw [find_first hj]
      intro i hi e
      have hn := List.pairwise_iff_getElem.1 h.once i j (by simp; omega) (by simpa using hj) hi
      exact hn (by simpa using e)
    rw [hf]
    simp [List.getD, hj, q.2]
  · intro q
    cases hf : findA ax idT with
    | none => rw [hf] at q; cases q
    | some j =>
      rw [hf] at q
      obtain ⟨hj, e1, _⟩ := find_some hf
      have e2 : ax[j].2 = x := by
        have := Option.some.inj q
        simpa [List.getD, hj] using this
      exact ⟨ax[j], List.getElem_mem _, by unfold idIs; rw [decide_eq_true e1, decide_eq_true e2]; rfl⟩
theorem id_node {l : List Nd} (h : Right l) {m : Nat} (hm : m < l.length) (x : ByteArray) : (l[m].attrs.findIdx? (idIs x)).isSome = hasId l x (m : Int) := by
  have al := h.alone m hm
  rw [nd_at hm] at al
  unfold hasId attrP
  rw [Int.toNat_natCast, nd_at hm]
  by_cases nn : l[m].name.size = 0
  · unfold aloneB at al
    rw [if_pos nn, Bool.and_eq_true] at al
    have : l[m].attrs = [] := List.isEmpty_iff.1 al.1
    rw [this]
    rfl
  · exact id_any (alone_attrs al nn).2 x
set_option maxHeartbeats 1000000 in
theorem named1_any (x : ByteArray) (B : Nat) (a : ByteArray × ByteArray) (W : World) (hc : W.cell? ⟨B, 0, none⟩ = some (.string x)) :
    Calls Tryd.prog 93 #[.agg #[.string a.1, .string a.2], .pointer (some ⟨B, 0, none⟩)] W fun e w' => e = .returned (.bool (idIs x a)) ∧ Below W.heap.size W w' := by
  have hB := World.block_lt_of_cell? _ _ hc
  have hne : B ≠ W.heap.size := by have : B < W.heap.size := hB; omega
  have E1 := txt_beq a.1 idT
  have E2 := txt_beq a.2 x
  unfold idIs
  have ei : idT.toList = [105, 100] := by rw [ByteArray.toList_eq]; rfl
  rw [ei] at E1
  generalize a.1 = a1 at *
  generalize a.2 = a2 at *
  generalize decide (a1 = idT) = r1 at *
  generalize decide (a2 = x) = r2 at *
  clear ei
  cases r1 with
  | true =>
    cases r2 with
    | true =>
      go_enter Tryd.func93, Tryd.ntmps93
      go_wp2_with fail
      go_ret
      exact ⟨rfl, (Below.refl _ W).alloc (Nat.le_refl _) _⟩
    | false =>
      go_enter Tryd.func93, Tryd.ntmps93
      go_wp2_with fail
      go_ret
      exact ⟨rfl, (Below.refl _ W).alloc (Nat.le_refl _) _⟩
  | false =>
    go_enter Tryd.func93, Tryd.ntmps93
    go_wp2_with fail
    go_ret
    exact ⟨rfl, (Below.refl _ W).alloc (Nat.le_refl _) _⟩
theorem named_pred (x : ByteArray) (B : Nat) (w : World) (hc : w.cell? ⟨B, 0, none⟩ = some (.string x)) : PredA 93 #[.pointer (some ⟨B, 0, none⟩)] (idIs x) w := fun W a hb =>
  named1_any x B a W (cell_below hc hb)
theorem entersNamed : ∀ args w, (callFunc 93 args).run Tryd.prog w = .ok (.enter 93 args) w := Go.Proofs.enters_of Tryd.func93 (by kernel_rfl) rfl
/-- What Named answers. -/
def namedQ (l : List Nd) (x : ByteArray) : Int := if rightB l = true then namedP l x else -1
set_option maxHeartbeats 4000000 in
set_option maxRecDepth 100000 in
theorem named_any (v : Value) (l : List Nd) (x : ByteArray) (w : World) (hv : NodesV w v l) (hz : DocSz l) :
    Calls Tryd.prog 86 #[v, .string x] w fun e w' => e = .returned (.int .i64 (namedQ l x)) ∧ Below w.heap.size w w' := by
  have HR := hide (fun W (hb : Below w.heap.size w W) => right_any v l W (hv.below hb) hz)
  have HV := hide hv
  obtain ⟨p, c, rfl, hv⟩ := hv
  have HP := hide hv
  have HZ := hide hz
  clear hv hz
  cases q0 : noName x with
  | true =>
    have E : Hid (namedQ l x = -1) := by
      show _ = _
      unfold namedQ namedP
      rw [q0]
      split <;> rfl
    obtain rfl := noName_true q0
    clear q0
    go_enter Tryd.func86, Tryd.ntmps86
    go_wp2_with fail
    go_ret
    exact ⟨ret_int E.out.symm, (Below.refl _ w).alloc (Nat.le_refl _) _⟩
  | false =>
    have e1 := noName_false q0
    have e2 : x.toList.isEmpty = false := by cases h : x.toList with
      | nil => exact absurd h e1
      | cons => rfl
    have e3 : (x.toList == []) = false := by rw [beq_eq_false_iff_ne]; exact e1
    have BA : Hid (Below w.heap.size w (w.alloc (.cells #[.string x] 9))) := (Below.refl _ w).alloc (Nat.le_refl _) _
    cases q1 : rightB l with
    | false =>
      have E : Hid (namedQ l x = -1) := by show _ = _; unfold namedQ; rw [q1]; rfl
      have HR' := hide (HR.out _ BA.out)
      rw [q1] at HR'
      clear q0 q1 HR
      go_enter Tryd.func86, Tryd.ntmps86
      go_wp2_with fail
      refine HR'.out.mono ?_
      rintro e w1 ⟨rfl, b1⟩
      go_wp2_with fail
      go_ret
      exact ⟨ret_int E.out.symm, chain BA.out b1⟩
    | true =>
      have hR := right_is.1 q1
      have HR' := hide (HR.out _ BA.out)
      rw [q1] at HR'
      have r0 : inR l 0 := ⟨by omega, by have := hR.len.1; omega⟩
      have E : Hid (namedQ l x = ((downF l l.length 0).find? (hasId l x)).getD (-1)) := by show _ = _; unfold namedQ namedP; rw [q1, q0, order_down hR r0]; rfl
      have HRt := hide hR
      have h0 : 0 < l.length := by have := hR.len.1; omega
      obtain ⟨b, o, rfl, hcell⟩ : ∃ b o, p = some ⟨b, o, none⟩ ∧ ∀ i (h : i < l.length), ∃ va vk, NodeAt w b (o + i * 5) l[i] va vk := by
        rcases HP.out with t | t
        · rw [t] at h0; simp at h0
        · exact t
      have HC := hide hcell
      have hlen := hR.len.2
      have HD := hide (fun W (hb : Below w.heap.size w W) => down_any W _ l (HV.out.below hb) l.length 0 [] (.slice none 0 0) W (Below.refl _ _) (World.ownsRow_nil _ _ _ _) (right_sub hR r0) (by have := down_few hR r0; rw [List.length_nil]; omega))
      rw [List.nil_append] at HD
      have RG : Hid (∀ k ∈ downF l l.length 0, inR l k) := fun k hk => down_range (right_sub hR r0) hk
      have DF := hide (down_few hR r0)
      have C0 : Hid ((w.alloc (.cells #[.string x] 9)).cell? ⟨w.heap.size, 0, none⟩ = some (.string x)) := by show _ = _; simp
      clear q0 q1 hcell HP HR hR r0
      go_enter Tryd.func86, Tryd.ntmps86
      go_wp2_with fail
      refine HR'.out.mono ?_
      rintro e w1 ⟨rfl, b1⟩
      have B1 := hide (chain BA.out b1)
      have C1 : Hid (w1.cell? ⟨w.heap.size, 0, none⟩ = some (.string x)) := cell_below C0.out b1
      clear b1 C0 BA
      go_wp2_with fail
      refine (HD.out _ B1.out).mono ?_
      rintro e w2 ⟨v2, rfl, k2, b2⟩
      have K2 := hide k2.ints
      have B2 := hide (chain B1.out b2)
      have C2 : Hid (w2.cell? ⟨w.heap.size, 0, none⟩ = some (.string x)) := cell_below C1.out b2
      clear b2 C1 B1 k2 HD HR'
      generalize downF l l.length 0 = D at *
      obtain ⟨p2, c2, ev2, h2⟩ := K2.out
      have H2 := hide h2
      have dl := DF.out
      clear h2 K2
      subst ev2
      go_wp2_with fail
      go_loopw [19] (fun iv wr => ∃ j : Nat, j ≤ D.length ∧ iv = .int .i64 j ∧ Hid (((D.drop j).find? (hasId l x)).getD (-1) = namedQ l x) ∧ Hid (Below w2.heap.size w2 wr)) (fun iv _ => D.length - (intOf iv).toNat)
      case atStart => exact ⟨0, Nat.zero_le _, rfl, by show _ = _; rw [List.drop_zero]; exact E.out.symm, Below.refl _ _⟩
      case round =>
        rename World => wr
        obtain ⟨j, hj, rfl, hc, BW⟩ := hrel
        have Bw := hide (chain B2.out BW.out)
        by_cases h : j < D.length
        · have j1 : (j : Int) < (D.length : Int) := by omega
          have j0 : (0 : Int) ≤ (j : Int) := by omega
          obtain ⟨b2, o2, rfl, hk⟩ : ∃ b2 o2, p2 = some ⟨b2, o2, none⟩ ∧ ∀ i (h : i < D.length), w2.cell? ⟨b2, o2 + i, none⟩ = some (.int .i64 D[i]) := by
            rcases H2.out with t | t
            · rw [t] at h; simp at h
            · exact t
          have a5 := cell_below (hk j h) BW.out
          have rk := RG.out D[j] (List.getElem_mem _)
          obtain ⟨m, em⟩ : ∃ m : Nat, D[j] = (m : Int) := ⟨D[j].toNat, by have := rk.1; omega⟩
          have hm : m < l.length := by have := rk.2; omega
          rw [em] at a5
          obtain ⟨va, vk, NM⟩ := HC.out m hm
          have a2 := (NM.below Bw.out).attrs
          have HF := hide (containsFuncA_any va l[m].attrs (idIs x) 93 #[.pointer (some ⟨w.heap.size, 0, none⟩)] entersNamed wr (NM.below Bw.out).at_ (named_pred x _ wr (cell_below C2.out BW.out)) (HZ.out.nds l[m] (List.getElem_mem _)).attrs)
          rw [id_node HRt.out hm] at HF
          have hc1 := hc.out
          rw [List.drop_eq_getElem_cons h, em, List.find?_cons] at hc1
          have m0' : (0 : Int) ≤ (m : Int) := by omega
          have m1 : (m : Int) < (l.length : Int) := by omega
          clear hk rk em NM hc
          cases q : hasId l x (m : Int) with
          | true =>
            rw [q] at HF hc1
            have E2 : Hid (namedQ l x = (m : Int)) := by show _ = _; rw [← hc1]; rfl
            clear hc1 q
            go_wp2_with fail
            refine HF.out.mono ?_
            rintro e w3 ⟨rfl, b3⟩
            go_wp2_with fail
            go_ret
            exact ⟨ret_int E2.out.symm, chain Bw.out b3⟩
          | false =>
            rw [q] at HF hc1
            have HC1 := hide hc1
            clear hc1 q
            go_wp2_with fail
            refine HF.out.mono ?_
            rintro e w3 ⟨rfl, b3⟩
            go_wp2_with fail
            go_roundw
            case rel => exact ⟨j + 1, by omega, by go_num, HC1, chain BW.out b3⟩
            case measure => simp [intOf]; omega
        · obtain rfl : j = D.length := by omega
          have E2 : Hid (namedQ l x = -1) := by show _ = _; rw [← hc.out, List.drop_length]; rfl
          clear hc h
          go_wp2_with fail
          go_ret
          exact ⟨ret_int E2.out.symm, Bw.out⟩

end Go.Proofs.YtldbaoolddlacaaDoor
