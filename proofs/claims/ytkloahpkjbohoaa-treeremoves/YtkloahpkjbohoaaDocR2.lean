/- The document's alone of layer 10: it answers by the function of 'DocP'; what lay in the world lies there still. Conditions: rows as they lie in the world; of at most 2^47 bytes. -/
import Derived.Deep.QuietTactic
import Derived.BigQuiet
import Derived.Test.YtkloahpkjbohoaaDocR1
namespace Go.Proofs.Ytkloahpkjbohoaa
open Go.RowKit

theorem below_drewD {w w1 : World} {b : Nat} (h : Below b w w1) (q : Nat) : Below b w (w1.drewN q) := ⟨h.1, h.2, h.3, h.4, h.5⟩
theorem attr_no {ax : List (ByteArray × ByteArray)} {i : Nat} (hi : i < ax.length) (h : attrOk ax i = false) : (List.range ax.length).all (attrOk ax) = false := by
  rw [List.all_eq_false]
  exact ⟨i, List.mem_range.2 hi, by rw [h]; simp⟩
theorem attr_all {ax : List (ByteArray × ByteArray)} (h : ∀ i, i < ax.length → attrOk ax i = true) : (List.range ax.length).all (attrOk ax) = true := by
  rw [List.all_eq_true]
  exact fun i hi => h i (List.mem_range.1 hi)
theorem attrOk_at {ax : List (ByteArray × ByteArray)} {i : Nat} (hi : i < ax.length) : attrOk ax i = (nameOk ax[i].1 && (decide (ax[i].2.size ≤ 4000) && findA ax ax[i].1 == some i)) := by
  unfold attrOk
  rw [show ax.getD i at0 = ax[i] by simp [List.getD, hi]]
def aggN (n : Nd) (va vk : Value) : Value := .agg #[.string n.name, .string n.text, va, .int .i64 n.parent, vk]
theorem attrsV_drew {w : World} {v : Value} {ax : List (ByteArray × ByteArray)} (h : AttrsV w v ax) (m : Nat) : AttrsV (w.drewN m) v ax := h
theorem intsV_drew {w : World} {v : Value} {ks : List Int} (h : IntsV w v ks) (m : Nat) : IntsV (w.drewN m) v ks := h
theorem alone_text {n : Nd} (h0 : n.name.size = 0) : aloneB n = (n.attrs.isEmpty && (n.kids.isEmpty && decide (n.text.size ≤ 4000))) := by unfold aloneB; rw [if_pos h0]
theorem alone_el {n : Nd} (h0 : ¬ n.name.size = 0) : aloneB n = (nameOk n.name && (n.text.size == 0 && (decide (n.attrs.length ≤ 40) && (List.range n.attrs.length).all (attrOk n.attrs)))) := by unfold aloneB; rw [if_neg h0]
theorem empty_iff {α : Type} (l : List α) : l.isEmpty = (l.length == 0) := by cases l <;> rfl
set_option maxHeartbeats 4000000 in
set_option maxRecDepth 100000 in
theorem refAlone_any (n : Nd) (va vk : Value) (w : World) (ha : AttrsV w va n.attrs) (hk : IntsV w vk n.kids) (hl : n.attrs.length ≤ 4398046511104) (hs : n.name.size ≤ maxLen ∧ n.text.size ≤ maxLen ∧ ∀ a ∈ n.attrs, a.1.size ≤ maxLen ∧ a.2.size ≤ maxLen) :
    Calls Try.prog 41 #[aggN n va vk] w fun e w' => e = .returned (.bool (aloneB n)) ∧ Below w.heap.size w w' := by
  have HN := hide (fun w => refName_any n.name w hs.1)
  have HM := hide hs.2.2
  have HA := hide ha
  obtain ⟨p, c, rfl, hv⟩ := ha
  obtain ⟨q, d, rfl, hkk⟩ := hk
  clear hkk
  unfold aggN
  clear hs
  by_cases h0 : n.name.size = 0
  · have E := alone_text h0
    rw [empty_iff, empty_iff] at E
    have i0 : (n.name.size : Int) = 0 := by omega
    have e0 : ((n.name.size : Int) == 0) = true := by rw [i0]; rfl
    clear HN h0 i0 hv HM HA
    generalize n.name = nm at *
    by_cases h1 : n.attrs.length = 0
    · have e1 : ((n.attrs.length : Int) == 0) = true := by rw [h1]; rfl
      rw [h1, show ((0 : Nat) == 0) = true from rfl, Bool.true_and] at E
      clear h1
      by_cases h2 : n.kids.length = 0
      · have e2 : ((n.kids.length : Int) == 0) = true := by rw [h2]; rfl
        rw [h2, show ((0 : Nat) == 0) = true from rfl, Bool.true_and] at E
        have e3 : decide ((n.text.size : Int) ≤ 4000) = decide (n.text.size ≤ 4000) := by congr 1; simp only [eq_iff_iff]; omega
        rw [← e3] at E
        clear h2 e3
        replace E := hide E
        go_enter Try.func41, Try.ntmps41
        go_wp2_with fail
        go_ret
        exact ⟨ret_bool E.out.symm, (Below.refl _ w).alloc (Nat.le_refl _) _⟩
      · have e2 : ((n.kids.length : Int) == 0) = false := by rw [beq_eq_false_iff_ne]; omega
        rw [show (n.kids.length == 0) = false by rw [beq_eq_false_iff_ne]; exact h2, Bool.false_and] at E
        clear h2
        replace E := hide E
        go_enter Try.func41, Try.ntmps41
        go_wp2_with fail
        go_ret
        exact ⟨ret_bool E.out.symm, (Below.refl _ w).alloc (Nat.le_refl _) _⟩
    · have e1 : ((n.attrs.length : Int) == 0) = false := by rw [beq_eq_false_iff_ne]; omega
      rw [show (n.attrs.length == 0) = false by rw [beq_eq_false_iff_ne]; exact h1, Bool.false_and] at E
      clear h1
      replace E := hide E
      go_enter Try.func41, Try.ntmps41
      go_wp2_with fail
      go_ret
      exact ⟨ret_bool E.out.symm, (Below.refl _ w).alloc (Nat.le_refl _) _⟩
  · have E := alone_el h0
    have e0 : ((n.name.size : Int) == 0) = false := by rw [beq_eq_false_iff_ne]; omega
    clear h0
    cases h1 : nameOk n.name with
    | false =>
      rw [h1] at HN
      rw [h1, Bool.false_and] at E
      replace E := hide E
      clear h1 hv HM HA
      go_enter Try.func41, Try.ntmps41
      go_wp2_with fail
      refine (HN.out _).mono ?_
      rintro e u ⟨rfl, rfl⟩
      go_wp2_with fail
      go_ret
      exact ⟨ret_bool E.out.symm, (Below.refl _ w).alloc (Nat.le_refl _) _⟩
    | true =>
      rw [h1] at HN
      rw [h1, Bool.true_and] at E
      clear h1
      by_cases h2 : n.text.size = 0
      · have e2 : ¬ (0 : Int) < (n.text.size : Int) := by omega
        rw [show (n.text.size == 0) = true by rw [h2]; rfl, Bool.true_and] at E
        obtain ⟨tx, etx⟩ : ∃ tx, n.text = tx := ⟨_, rfl⟩
        obtain rfl : tx = ByteArray.empty := by
          rw [etx] at h2
          apply ByteArray.ext
          exact Array.eq_empty_of_size_eq_zero h2
        rw [etx]
        clear h2 etx e2
        by_cases h3 : n.attrs.length ≤ 40
        · have e3 : ¬ (40 : Int) < (n.attrs.length : Int) := by omega
          have e3d : decide ((40 : Int) < (n.attrs.length : Int)) = false := decide_eq_false e3
          rw [decide_eq_true h3, Bool.true_and] at E
          have NO := hide (fun i hi h => E.trans (attr_no (ax := n.attrs) (i := i) hi h))
          have END := hide (fun h => E.trans (attr_all (ax := n.attrs) h))
          have AT := hide (fun i hi => attrOk_at (ax := n.attrs) (i := i) hi)
          clear E
          go_enter Try.func41, Try.ntmps41
          go_wp2_with fail
          refine (HN.out _).mono ?_
          rintro e u ⟨rfl, rfl⟩
          go_wp2_with fail
          go_loopw [3] (fun iv wr => ∃ j : Nat, j ≤ n.attrs.length ∧ iv = .int .i64 j ∧ Hid (∀ m, m < j → m < n.attrs.length → attrOk n.attrs m = true) ∧ wr.cell? ⟨w.heap.size, 2, none⟩ = some (.slice p n.attrs.length c) ∧ Below w.heap.size w wr) (fun iv _ => n.attrs.length - (intOf iv).toNat)
          case atStart => exact ⟨0, Nat.zero_le _, rfl, fun m h => by omega, by rw [World.cell?_alloc_new]; rfl, (Below.refl _ w).alloc (Nat.le_refl _) _⟩
          case round =>
            obtain ⟨j, hj, rfl, hd, hc2, hb⟩ := hrel
            rename World => wr
            by_cases h : j < n.attrs.length
            · have i1 : (j : Int) < (n.attrs.length : Int) := by omega
              have HAw := hide (HA.out.below hb)
              rcases hv with hv | ⟨b, o, rfl, hv⟩
              · rw [hv] at h; simp at h
              have hc := cell_below (hv j h).1 hb
              have hd1 := cell_below (hv j h).2 hb
              have hm := HM.out n.attrs[j] (List.getElem_mem _)
              have HNj := hide (fun w => refName_any n.attrs[j].1 w hm.1)
              have HFj := hide (fun m => refFind_any (.slice (some ⟨b, o, none⟩) n.attrs.length c) n.attrs n.attrs[j].1 (wr.drewN m) HAw.out hl)
              have at1 := AT.out j h
              have BAD := NO.out j h
              have NX : attrOk n.attrs j = true → Hid (∀ m, m < j + 1 → m < n.attrs.length → attrOk n.attrs m = true) := by
                intro q m hm2 hm3
                rcases Nat.lt_or_ge m j with r | r
                · exact hd.out m r hm3
                · obtain rfl : m = j := by omega
                  exact q
              have hsz : n.attrs[j].2.size ≤ maxLen := hm.2
              clear hd NO END AT HA HM HAw hv HN hm
              generalize n.attrs[j].1 = x1 at *
              generalize n.attrs[j].2 = x2 at *
              cases k1 : nameOk x1 with
              | false =>
                rw [k1, Bool.false_and] at at1
                rw [k1] at HNj
                have E := hide (BAD at1)
                clear BAD NX at1 k1
                go_wp2_with fail
                go_quiet (first | with_reducible exact Calls.quiet_of_same (HNj.out _) | with_reducible exact Calls.quiet_of_same (HFj.out _))
                go_wp2_with fail
                go_ret
                exact ⟨ret_bool E.out.symm, below_drewD hb _⟩
              | true =>
                rw [k1, Bool.true_and] at at1
                rw [k1] at HNj
                by_cases k2 : x2.size ≤ 4000
                · have e5 : ¬ (4000 : Int) < (x2.size : Int) := by omega
                  have e6 : decide ((4000 : Int) < (x2.size : Int)) = false := decide_eq_false e5
                  rw [decide_eq_true k2, Bool.true_and] at at1
                  cases k3 : findA n.attrs x1 with
                  | none =>
                    rw [k3] at at1 HFj
                    have E := hide (BAD at1)
                    have e7 : ((findV none) != (j : Int)) = true := by rw [bne_iff_ne]; show ¬ (-1 : Int) = (j : Int); omega
                    clear BAD NX at1 k1 k2 k3
                    generalize findV none = fv at *
                    go_wp2_with fail
                    go_quiet (first | with_reducible exact Calls.quiet_of_same (HNj.out _) | with_reducible exact Calls.quiet_of_same (HFj.out _))
                    go_wp2_with fail
                    go_ret
                    exact ⟨ret_bool E.out.symm, below_drewD hb _⟩
                  | some z =>
                    rw [k3] at at1 HFj
                    by_cases k4 : z = j
                    · subst k4
                      have E := NX (by rw [at1]; simp)
                      have e7 : ((findV (some z)) != (z : Int)) = false := by rw [bne_eq_false_iff_eq]; rfl
                      clear BAD NX at1 k1 k2 k3
                      generalize findV (some z) = fv at *
                      go_wp2_with fail
                      go_quiet (first | with_reducible exact Calls.quiet_of_same (HNj.out _) | with_reducible exact Calls.quiet_of_same (HFj.out _))
                      go_wp2_with fail
                      go_roundw
                      case rel => exact ⟨z + 1, by omega, by go_num, E, hc2, below_drewD hb _⟩
                      case measure => simp [intOf]; omega
                    · have E := hide (BAD (by rw [at1]; simpa using k4))
                      have e7 : ((findV (some z)) != (j : Int)) = true := by rw [bne_iff_ne]; show ¬ (z : Int) = (j : Int); omega
                      clear BAD NX at1 k1 k2 k3 k4
                      generalize findV (some z) = fv at *
                      go_wp2_with fail
                      go_quiet (first | with_reducible exact Calls.quiet_of_same (HNj.out _) | with_reducible exact Calls.quiet_of_same (HFj.out _))
                      go_wp2_with fail
                      go_ret
                      exact ⟨ret_bool E.out.symm, below_drewD hb _⟩
                · have e5 : (4000 : Int) < (x2.size : Int) := by omega
                  have e6 : decide ((4000 : Int) < (x2.size : Int)) = true := decide_eq_true e5
                  rw [decide_eq_false k2, Bool.false_and] at at1
                  have E := hide (BAD at1)
                  clear BAD NX at1 k1 k2
                  go_wp2_with fail
                  go_quiet (first | with_reducible exact Calls.quiet_of_same (HNj.out _) | with_reducible exact Calls.quiet_of_same (HFj.out _))
                  go_wp2_with fail
                  go_ret
                  exact ⟨ret_bool E.out.symm, below_drewD hb _⟩
            · obtain rfl : j = n.attrs.length := by omega
              have E := hide (END.out (fun m hm => hd.out m hm hm))
              clear hd NO END AT HA HM hv HN
              go_wp2_with fail
              go_ret
              exact ⟨ret_bool E.out.symm, hb⟩
        · have e3 : (40 : Int) < (n.attrs.length : Int) := by omega
          have e3d : decide ((40 : Int) < (n.attrs.length : Int)) = true := decide_eq_true e3
          rw [decide_eq_false h3, Bool.false_and] at E
          replace E := hide E
          clear h3 hv HM HA
          go_enter Try.func41, Try.ntmps41
          go_wp2_with fail
          refine (HN.out _).mono ?_
          rintro e u ⟨rfl, rfl⟩
          go_wp2_with fail
          go_ret
          exact ⟨ret_bool E.out.symm, (Below.refl _ w).alloc (Nat.le_refl _) _⟩
      · have e2 : (0 : Int) < (n.text.size : Int) := by omega
        rw [show (n.text.size == 0) = false by rw [beq_eq_false_iff_ne]; exact h2, Bool.false_and] at E
        replace E := hide E
        have e2n : 0 < n.text.size := by omega
        have e2e : ¬ n.text = ByteArray.empty := fun q => h2 (by rw [q]; rfl)
        have e2d : decide (0 < n.text.size) = true := decide_eq_true e2n
        clear h2 hv HM HA
        generalize n.text = tx at *
        go_enter Try.func41, Try.ntmps41
        go_wp2_with fail
        refine (HN.out _).mono ?_
        rintro e u ⟨rfl, rfl⟩
        go_wp2_with fail
        go_ret
        exact ⟨ret_bool E.out.symm, (Below.refl _ w).alloc (Nat.le_refl _) _⟩

end Go.Proofs.Ytkloahpkjbohoaa
