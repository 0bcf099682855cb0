/- The document's Right of layer 10. The document's Has, Within, Attr, Top, Up of layer 10. The document's Text of layer 10. A select's options and which of them are selected, as functions of documents and states. A select's options by way of its children. What a range over the program's iterator of layer 15 keeps. -/
import Derived.Test.YtemikdmkjgmflaaGreatDoorJoz9
import Derived.Test.YtemikdmkjgmflaaGreatDoorJoz10
import Derived.Test.YtemikdmkjgmflaaGreatDoorJoz11
import Derived.Test.YtemikdmkjgmflaaGreatDoorJoz12
import Derived.Test.YtemikdmkjgmflaaGreatDoorJoz13
import Derived.RangeFuncNested
import Derived.RangeFuncBound
import Derived.RangeFuncCalls
import Derived.RangeFuncLeaves
import Derived.RangeFuncBox
import Derived.Shelf.RegionOpen
import Derived.OwnWalkIn
import Derived.TacticsInMore
import Derived.LoopNIn
import Derived.LoopIn

namespace Go.Proofs.YtemikdmkjgmflaaGreatDoor
open Go.RowKit
set_option maxRecDepth 100000
/-- Lengths that a machine has. -/
structure NdSz (n : Nd) : Prop where
  name : n.name.size ≤ maxLen
  text : n.text.size ≤ maxLen
  attr : ∀ a ∈ n.attrs, a.1.size ≤ maxLen ∧ a.2.size ≤ maxLen
  attrs : n.attrs.length ≤ 4398046511104
  kids : n.kids.length ≤ 17592186044416
  tx : ∀ a ∈ n.attrs, a.2.size ≤ 140737488351232
structure DocSz (l : List Nd) : Prop where
  len : l.length ≤ 1599289640354
  nds : ∀ n ∈ l, NdSz n
theorem nd_at {l : List Nd} {i : Nat} (h : i < l.length) : nd l i = l[i] := by unfold nd; simp [List.getD, h]
theorem right_len {l : List Nd} (h : ¬ (1 ≤ l.length ∧ l.length ≤ 400)) : rightB l = false := by unfold rightB; rw [decide_eq_false h]; rfl
theorem right_head {l : List Nd} (h : (nd l 0).name.size = 0 ∨ ¬ (nd l 0).parent = -1) : rightB l = false := by
  unfold rightB
  rcases h with h | h
  · rw [h]; simp
  · rw [show ((nd l 0).parent == -1) = false by rw [beq_eq_false_iff_ne]; exact h]; simp
theorem right_node {l : List Nd} {i : Nat} (hi : i < l.length) (h : nodeOk l i = false) : rightB l = false := by
  have : (List.range l.length).all (nodeOk l) = false := by
    rw [List.all_eq_false]
    exact ⟨i, List.mem_range.2 hi, by rw [h]; simp⟩
  unfold rightB
  rw [this]; simp
theorem right_climb {l : List Nd} {i : Nat} (hi : i < l.length) (h : ¬ climb l (l.length + 1) i < 0) : rightB l = false := by
  have : ((List.range l.length).all fun i => decide (climb l (l.length + 1) i < 0)) = false := by
    rw [List.all_eq_false]
    exact ⟨i, List.mem_range.2 hi, by rw [decide_eq_false h]; simp⟩
  unfold rightB
  rw [this]; simp
theorem right_yes {l : List Nd} (h1 : 1 ≤ l.length ∧ l.length ≤ 400) (h2 : ¬ (nd l 0).name.size = 0) (h3 : (nd l 0).parent = -1) (h4 : ∀ i, i < l.length → nodeOk l i = true) (h5 : ∀ i : Nat, i < l.length → climb l (l.length + 1) i < 0) : rightB l = true := by
  unfold rightB
  rw [decide_eq_true h1, h3]
  have e2 : ((nd l 0).name.size == 0) = false := by rw [beq_eq_false_iff_ne]; exact h2
  have e4 : (List.range l.length).all (nodeOk l) = true := List.all_eq_true.2 fun i hi => h4 i (List.mem_range.1 hi)
  have e5 : ((List.range l.length).all fun i => decide (climb l (l.length + 1) i < 0)) = true := List.all_eq_true.2 fun i hi => decide_eq_true (h5 i (List.mem_range.1 hi))
  rw [e2, e4, e5]; rfl
/-- A node among the others, by its parts. -/
theorem nodeOk_at {l : List Nd} {i : Nat} (h : i < l.length) : nodeOk l i = (aloneB l[i] && (decide (-1 ≤ l[i].parent ∧ l[i].parent < l.length) && ((decide (l[i].parent < 0) || cntI (nd l l[i].parent.toNat).kids i == 1) && l[i].kids.all (kidOk l i)))) := by
  unfold nodeOk
  rw [nd_at h]
theorem kid_no {l : List Nd} {i : Nat} {ks : List Int} {k : Nat} (hk : k < ks.length) (h : kidOk l i ks[k] = false) : ks.all (kidOk l i) = false := by
  rw [List.all_eq_false]
  exact ⟨ks[k], List.getElem_mem _, by rw [h]; simp⟩
theorem kid_all {l : List Nd} {i : Nat} {ks : List Int} (h : ∀ k (_ : k < ks.length), kidOk l i ks[k] = true) : ks.all (kidOk l i) = true := by
  rw [List.all_eq_true]
  intro c hc
  obtain ⟨k, hk, rfl⟩ := List.getElem_of_mem hc
  exact h k hk
theorem kid_low {l : List Nd} {i : Nat} {c : Int} (h : ¬ (0 ≤ c ∧ c < l.length)) : kidOk l i c = false := by unfold kidOk; rw [decide_eq_false h]; rfl
theorem kid_at {l : List Nd} {i m : Nat} (h : m < l.length) : kidOk l i (m : Int) = (l[m].parent == (i : Int)) := by
  unfold kidOk parI
  rw [decide_eq_true (by omega), Bool.true_and, Int.toNat_natCast, nd_at h]
theorem climb_done {l : List Nd} : ∀ (n : Nat) {k : Int}, k < 0 → climb l n k = k
  | 0, _, _ => rfl
  | n + 1, k, h => by show (if k < 0 then k else _) = k; rw [if_pos h]
theorem climb_up {l : List Nd} {n m : Nat} (h : m < l.length) : climb l (n + 1) (m : Int) = climb l n l[m].parent := by
  show (if (m : Int) < 0 then _ else climb l n (parI l m)) = _
  rw [if_neg (by omega)]
  unfold parI
  rw [Int.toNat_natCast, nd_at h]
set_option maxHeartbeats 8000000 in
set_option maxRecDepth 100000 in
theorem refDocRight_any (v : Value) (l : List Nd) (w : World) (hv : NodesV w v l) (hz : DocSz l) :
    Calls Tryz.prog 46 #[v] w fun e w' => e = .returned (.bool (rightB l)) ∧ Below w.heap.size w w' := by
  have hlen := hz.len
  have SZ := hide hz
  clear hz
  by_cases h1 : l.length < 1
  · obtain ⟨p, c, rfl, hv⟩ := hv
    have i1 : (l.length : Int) < 1 := by omega
    have E := hide (right_len (l := l) (by omega))
    clear h1 hv
    go_enter Tryz.func46, Tryz.ntmps46
    go_wp2_with fail
    go_ret
    exact ⟨ret_bool E.out.symm, Below.refl _ _⟩
  have i1 : ¬ (l.length : Int) < 1 := by omega
  by_cases h2 : 400 < l.length
  · obtain ⟨p, c, rfl, hv⟩ := hv
    have i2 : (400 : Int) < (l.length : Int) := by omega
    have E := hide (right_len (l := l) (by omega))
    clear h1 h2 hv
    go_enter Tryz.func46, Tryz.ntmps46
    go_wp2_with fail
    go_ret
    exact ⟨ret_bool E.out.symm, Below.refl _ _⟩
  have i2 : ¬ (400 : Int) < (l.length : Int) := by omega
  have i3 : l.length ≤ 400 := by omega
  have i4 : 0 < l.length := by omega
  have NV := hide hv
  obtain ⟨p, c, rfl, hv⟩ := hv
  rcases hv with hv | ⟨b, o, rfl, hv⟩
  · rw [hv] at i4; simp at i4
  obtain ⟨va0, vk0, hN0⟩ := hv 0 i4
  have c00 := hN0.name
  have c03 := hN0.parent
  rw [show o + 0 * 5 = o by omega] at c00 c03
  by_cases h3 : l[0].name.size = 0
  · have e3 : ((l[0].name.size : Int) == 0) = true := by rw [h3]; rfl
    have E := hide (right_head (l := l) (.inl (by rw [nd_at i4]; exact h3)))
    clear h1 h2 h3 hv NV hN0
    generalize l[0].name = nm at *
    go_enter Tryz.func46, Tryz.ntmps46
    go_wp2_with fail
    go_ret
    exact ⟨ret_bool E.out.symm, Below.refl _ _⟩
  have e3 : ((l[0].name.size : Int) == 0) = false := by rw [beq_eq_false_iff_ne]; omega
  by_cases h4 : l[0].parent = -1
  rotate_left
  · have e4 : (l[0].parent != -1) = true := by rw [bne_iff_ne]; exact h4
    have E := hide (right_head (l := l) (.inr (by rw [nd_at i4]; exact h4)))
    clear h1 h2 h3 h4 hv NV hN0
    generalize l[0].name = nm at *
    generalize l[0].parent = pr at *
    go_enter Tryz.func46, Tryz.ntmps46
    go_wp2_with fail
    go_ret
    exact ⟨ret_bool E.out.symm, Below.refl _ _⟩
  have e4 : (l[0].parent != -1) = false := by rw [bne_eq_false_iff_eq]; exact h4
  have NO := hide (fun i hi q => right_node (l := l) (i := i) hi q)
  have NC := hide (fun i hi q => right_climb (l := l) (i := i) hi q)
  have YES := hide (fun q1 q2 => right_yes (l := l) (by omega) (by rw [nd_at i4]; exact h3) (by rw [nd_at i4]; exact h4) q1 q2)
  have HV := hide hv
  clear h1 h2 h3 h4 hv hN0
  generalize l[0].name = nm at *
  generalize l[0].parent = pr at *
  go_enter Tryz.func46, Tryz.ntmps46
  go_wp2_with fail
  go_loopw [3] (fun iv wr => ∃ j : Nat, j ≤ l.length ∧ iv = .int .i64 j ∧ Hid (∀ m, m < j → nodeOk l m = true) ∧ Below w.heap.size w wr) (fun iv _ => l.length - (intOf iv).toNat)
  case atStart => exact ⟨0, Nat.zero_le _, rfl, fun m q => by omega, Below.refl _ _⟩
  case round =>
    obtain ⟨j, hj, rfl, hd, hb⟩ := hrel
    rename World => wr
    clear c00 c03 e3 e4
    by_cases h : j < l.length
    · have j1 : (j : Int) < (l.length : Int) := by omega
      obtain ⟨va, vk, hN0⟩ := HV.out j h
      have hN := hN0.below hb
      have n0 := hN.name
      have n1 := hN.text
      have n2 := hN.attrs
      have n3 := hN.parent
      have n4 := hN.kids
      have sz := SZ.out.nds l[j] (List.getElem_mem _)
      have HAl := hide (refAlone_any l[j] va vk wr hN.at_ hN.ks sz.attrs ⟨sz.name, sz.text, sz.attr⟩)
      unfold aggN at HAl
      have at1 := nodeOk_at h
      have BAD := NO.out j h
      have HN := hide hN
      clear hN hN0 sz NC YES
      cases k1 : aloneB l[j] with
      | false =>
        rw [k1] at HAl
        rw [k1, Bool.false_and] at at1
        have E := hide (BAD at1)
        clear at1 BAD k1 hd HN
        generalize l[j].name = y1 at *
        generalize l[j].text = y2 at *
        generalize l[j].parent = y3 at *
        go_wp2_with fail
        refine HAl.out.mono ?_
        rintro e u1 ⟨rfl, b1⟩
        go_wp2_with fail
        go_ret
        exact ⟨ret_bool E.out.symm, chain hb b1⟩
      | true =>
        rw [k1] at HAl
        rw [k1, Bool.true_and] at at1
        by_cases k2 : l[j].parent < -1
        · rw [decide_eq_false (by omega), Bool.false_and] at at1
          have E := hide (BAD at1)
          clear at1 BAD k1 hd HN
          generalize l[j].name = y1 at *
          generalize l[j].text = y2 at *
          generalize l[j].parent = y3 at *
          go_wp2_with fail
          refine HAl.out.mono ?_
          rintro e u1 ⟨rfl, b1⟩
          go_wp2_with fail
          go_ret
          exact ⟨ret_bool E.out.symm, chain hb b1⟩
        · by_cases k3 : (l.length : Int) ≤ l[j].parent
          · rw [decide_eq_false (by omega), Bool.false_and] at at1
            have E := hide (BAD at1)
            clear at1 BAD k1 hd HN
            generalize l[j].name = y1 at *
            generalize l[j].text = y2 at *
            generalize l[j].parent = y3 at *
            go_wp2_with fail
            refine HAl.out.mono ?_
            rintro e u1 ⟨rfl, b1⟩
            go_wp2_with fail
            go_ret
            exact ⟨ret_bool E.out.symm, chain hb b1⟩
          · rw [decide_eq_true (by omega), Bool.true_and] at at1
            by_cases k4 : l[j].parent < 0
            · rw [decide_eq_true k4, Bool.true_or, Bool.true_and] at at1
              have KD := hide at1
              clear at1 k1
              generalize l[j].name = y1 at *
              generalize l[j].text = y2 at *
              generalize l[j].parent = y3 at *
              go_wp2_with fail
              refine HAl.out.mono ?_
              rintro e u1 ⟨rfl, b1⟩
              have bb := chain hb b1
              have hN1 := HN.out.below b1
              clear HN HAl n0 n1 n2 n3 n4 b1
              obtain ⟨pk, ck, evk, hks⟩ := hN1.ks
              subst evk
              have c4 := hN1.kids
              have ksz := (SZ.out.nds l[j] (List.getElem_mem _)).kids
              have NXK : (∀ t (_ : t < l[j].kids.length), kidOk l j l[j].kids[t] = true) → Hid (∀ m, m < j + 1 → nodeOk l m = true) := by
                intro q m hm
                rcases Nat.lt_or_ge m j with r | r
                · exact hd.out m r
                · obtain rfl : m = j := by omega
                  rw [KD.out]; exact kid_all q
              have BADK : ∀ t (ht : t < l[j].kids.length), kidOk l j l[j].kids[t] = false → rightB l = false := fun t ht q => BAD (KD.out.trans (kid_no ht q))
              replace NXK := hide NXK
              replace BADK := hide BADK
              clear hd KD BAD hN1
              generalize l[j].kids = ks at *
              go_wp2_with fail
              go_loop [5] (fun kv => ∃ t : Nat, t ≤ ks.length ∧ kv = .int .i64 t ∧ Hid (∀ m (_ : m < ks.length), m < t → kidOk l j ks[m] = true)) (fun kv => ks.length - (intOf kv).toNat)
              case atStart => exact ⟨0, Nat.zero_le _, rfl, fun m _ q => by omega⟩
              case round =>
                obtain ⟨t, ht, rfl, hdk⟩ := hrel
                by_cases h9 : t < ks.length
                · have t1 : (t : Int) < (ks.length : Int) := by omega
                  rcases hks with hks | ⟨kb, ko, rfl, hks⟩
                  · rw [hks] at h9; simp at h9
                  have cc := hks t h9
                  have BK := BADK.out t h9
                  by_cases q1 : ks[t] < 0
                  · have E := hide (BK (kid_low (by omega)))
                    clear BADK NXK hks hdk BK
                    generalize ks[t] = kc at *
                    go_wp2_with fail
                    go_ret
                    exact ⟨ret_bool E.out.symm, bb⟩
                  · by_cases q2 : (l.length : Int) ≤ ks[t]
                    · have E := hide (BK (kid_low (by omega)))
                      clear BADK NXK hks hdk BK
                      generalize ks[t] = kc at *
                      go_wp2_with fail
                      go_ret
                      exact ⟨ret_bool E.out.symm, bb⟩
                    · obtain ⟨m, em⟩ : ∃ m : Nat, ks[t] = (m : Int) := ⟨ks[t].toNat, by omega⟩
                      have hm : m < l.length := by omega
                      obtain ⟨vam, vkm, hNm⟩ := HV.out m hm
                      have cm := cell_below hNm.parent bb
                      have ka := kid_at (l := l) (i := j) hm
                      rw [← em] at ka
                      have m1 : (m : Int) < (l.length : Int) := by omega
                      by_cases q3 : l[m].parent = (j : Int)
                      · have e9 : (l[m].parent != (j : Int)) = false := by rw [bne_eq_false_iff_eq]; exact q3
                        have okt : kidOk l j ks[t] = true := by rw [ka, q3]; simp
                        have hdk' : Hid (∀ x (_ : x < ks.length), x < t + 1 → kidOk l j ks[x] = true) := by
                          intro x hx hxt
                          rcases Nat.lt_or_ge x t with r | r
                          · exact hdk.out x hx r
                          · obtain rfl : x = t := by omega
                            exact okt
                        rw [em] at cc
                        clear BADK NXK hks hdk BK ka q3 okt hNm em q1 q2
                        generalize l[m].parent = pm at *
                        go_wp2_with fail
                        go_round
                        case rel => exact ⟨t + 1, by omega, by go_num, hdk'⟩
                        case measure => simp [intOf]; omega
                      · have e9 : (l[m].parent != (j : Int)) = true := by rw [bne_iff_ne]; exact q3
                        have E := hide (BK (by rw [ka, beq_eq_false_iff_ne]; exact q3))
                        rw [em] at cc
                        clear BADK NXK hks hdk BK ka q3 hNm em q1 q2
                        generalize l[m].parent = pm at *
                        go_wp2_with fail
                        go_ret
                        exact ⟨ret_bool E.out.symm, bb⟩
                · obtain rfl : t = ks.length := by omega
                  have E := NXK.out (fun x hx => hdk.out x hx hx)
                  clear BADK NXK hks hdk
                  go_wp2_with fail
                  go_roundw
                  case rel => exact ⟨j + 1, by omega, by go_num, E, bb⟩
                  case measure => simp [intOf]; omega
            · obtain ⟨pn, epn⟩ : ∃ pn : Nat, l[j].parent = (pn : Int) := ⟨l[j].parent.toNat, by omega⟩
              have hpn : pn < l.length := by omega
              obtain ⟨vap, vkp, hNp⟩ := HV.out pn hpn
              have HNp := hide hNp
              have ksp := (SZ.out.nds l[pn] (List.getElem_mem _)).kids
              rw [decide_eq_false k4, Bool.false_or, epn, Int.toNat_natCast, nd_at hpn] at at1
              rw [epn] at n3 HAl
              have p1 : (pn : Int) < (l.length : Int) := by omega
              by_cases k5 : cntI l[pn].kids j = 1
              · have e5 : (((cntI l[pn].kids j : Nat) : Int) != 1) = false := by rw [k5]; rfl
                rw [show (cntI l[pn].kids j == 1) = true by rw [k5]; rfl, Bool.true_and] at at1
                have KD := hide at1
                have HCt := hide (fun u (bu : Below w.heap.size w u) => refCount_any vkp l[pn].kids (j : Int) u (HNp.out.below bu).ks ksp)
                have C4 := hide (fun u (bu : Below w.heap.size w u) => (HNp.out.below bu).kids)
                clear at1 k1 k2 k3 k4 k5 epn hNp HNp ksp
                generalize cntI l[pn].kids j = cn at *
                generalize l[j].name = y1 at *
                generalize l[j].text = y2 at *
                go_wp2_with fail
                refine HAl.out.mono ?_
                rintro e u1 ⟨rfl, b1⟩
                have bb := chain hb b1
                have hN1 := HN.out.below b1
                have c4p := C4.out u1 bb
                clear HN HAl n0 n1 n2 n3 n4 b1 C4
                go_wp2_with fail
                refine (HCt.out u1 bb).mono ?_
                rintro e u2 ⟨rfl, rfl⟩
                clear c4p HCt
                obtain ⟨pk, ck, evk, hks⟩ := hN1.ks
                subst evk
                have c4 := hN1.kids
                have ksz := (SZ.out.nds l[j] (List.getElem_mem _)).kids
                have NXK : (∀ t (_ : t < l[j].kids.length), kidOk l j l[j].kids[t] = true) → Hid (∀ m, m < j + 1 → nodeOk l m = true) := by
                  intro q m hm
                  rcases Nat.lt_or_ge m j with r | r
                  · exact hd.out m r
                  · obtain rfl : m = j := by omega
                    rw [KD.out]; exact kid_all q
                have BADK : ∀ t (ht : t < l[j].kids.length), kidOk l j l[j].kids[t] = false → rightB l = false := fun t ht q => BAD (KD.out.trans (kid_no ht q))
                replace NXK := hide NXK
                replace BADK := hide BADK
                clear hd KD BAD hN1
                generalize l[j].kids = ks at *
                go_wp2_with fail
                go_loop [5] (fun kv => ∃ t : Nat, t ≤ ks.length ∧ kv = .int .i64 t ∧ Hid (∀ m (_ : m < ks.length), m < t → kidOk l j ks[m] = true)) (fun kv => ks.length - (intOf kv).toNat)
                case atStart => exact ⟨0, Nat.zero_le _, rfl, fun m _ q => by omega⟩
                case round =>
                  obtain ⟨t, ht, rfl, hdk⟩ := hrel
                  by_cases h9 : t < ks.length
                  · have t1 : (t : Int) < (ks.length : Int) := by omega
                    rcases hks with hks | ⟨kb, ko, rfl, hks⟩
                    · rw [hks] at h9; simp at h9
                    have cc := hks t h9
                    have BK := BADK.out t h9
                    by_cases q1 : ks[t] < 0
                    · have E := hide (BK (kid_low (by omega)))
                      clear BADK NXK hks hdk BK
                      generalize ks[t] = kc at *
                      go_wp2_with fail
                      go_ret
                      exact ⟨ret_bool E.out.symm, bb⟩
                    · by_cases q2 : (l.length : Int) ≤ ks[t]
                      · have E := hide (BK (kid_low (by omega)))
                        clear BADK NXK hks hdk BK
                        generalize ks[t] = kc at *
                        go_wp2_with fail
                        go_ret
                        exact ⟨ret_bool E.out.symm, bb⟩
                      · obtain ⟨m, em⟩ : ∃ m : Nat, ks[t] = (m : Int) := ⟨ks[t].toNat, by omega⟩
                        have hm : m < l.length := by omega
                        obtain ⟨vam, vkm, hNm⟩ := HV.out m hm
                        have cm := cell_below hNm.parent bb
                        have ka := kid_at (l := l) (i := j) hm
                        rw [← em] at ka
                        have m1 : (m : Int) < (l.length : Int) := by omega
                        by_cases q3 : l[m].parent = (j : Int)
                        · have e9 : (l[m].parent != (j : Int)) = false := by rw [bne_eq_false_iff_eq]; exact q3
                          have okt : kidOk l j ks[t] = true := by rw [ka, q3]; simp
                          have hdk' : Hid (∀ x (_ : x < ks.length), x < t + 1 → kidOk l j ks[x] = true) := by
                            intro x hx hxt
                            rcases Nat.lt_or_ge x t with r | r
                            · exact hdk.out x hx r
                            · obtain rfl : x = t := by omega
                              exact okt
                          rw [em] at cc
                          clear BADK NXK hks hdk BK ka q3 okt hNm em q1 q2
                          generalize l[m].parent = pm at *
                          go_wp2_with fail
                          go_round
                          case rel => exact ⟨t + 1, by omega, by go_num, hdk'⟩
                          case measure => simp [intOf]; omega
                        · have e9 : (l[m].parent != (j : Int)) = true := by rw [bne_iff_ne]; exact q3
                          have E := hide (BK (by rw [ka, beq_eq_false_iff_ne]; exact q3))
                          rw [em] at cc
                          clear BADK NXK hks hdk BK ka q3 hNm em q1 q2
                          generalize l[m].parent = pm at *
                          go_wp2_with fail
                          go_ret
                          exact ⟨ret_bool E.out.symm, bb⟩
                  · obtain rfl : t = ks.length := by omega
                    have E := NXK.out (fun x hx => hdk.out x hx hx)
                    clear BADK NXK hks hdk
                    go_wp2_with fail
                    go_roundw
                    case rel => exact ⟨j + 1, by omega, by go_num, E, bb⟩
                    case measure => simp [intOf]; omega
              · have e5 : (((cntI l[pn].kids j : Nat) : Int) != 1) = true := by rw [bne_iff_ne]; omega
                rw [show (cntI l[pn].kids j == 1) = false by rw [beq_eq_false_iff_ne]; exact k5, Bool.false_and] at at1
                have E := hide (BAD at1)
                have HCt := hide (fun u (bu : Below w.heap.size w u) => refCount_any vkp l[pn].kids (j : Int) u (HNp.out.below bu).ks ksp)
                have C4 := hide (fun u (bu : Below w.heap.size w u) => (HNp.out.below bu).kids)
                clear at1 k1 k2 k3 k4 k5 epn hNp HNp ksp BAD hd HN
                generalize cntI l[pn].kids j = cn at *
                generalize l[j].name = y1 at *
                generalize l[j].text = y2 at *
                go_wp2_with fail
                refine HAl.out.mono ?_
                rintro e u1 ⟨rfl, b1⟩
                have bb := chain hb b1
                have c4p := C4.out u1 bb
                clear HAl n0 n1 n2 n3 n4 b1 C4
                go_wp2_with fail
                refine (HCt.out u1 bb).mono ?_
                rintro e u2 ⟨rfl, rfl⟩
                go_wp2_with fail
                go_ret
                exact ⟨ret_bool E.out.symm, bb⟩
    · obtain rfl : j = l.length := by omega
      have ALL := hide (fun m hm => hd.out m hm)
      clear hd h NO
      go_wp2_with fail
      go_loop [7] (fun iv => ∃ j : Nat, j ≤ l.length ∧ iv = .int .i64 j ∧ Hid (∀ m : Nat, m < j → climb l (l.length + 1) (m : Int) < 0)) (fun iv => l.length - (intOf iv).toNat)
      case atStart => exact ⟨0, Nat.zero_le _, rfl, fun m q => by omega⟩
      case round =>
        obtain ⟨j, hj, rfl, hd⟩ := hrel
        by_cases h : j < l.length
        · have j1 : (j : Int) < (l.length : Int) := by omega
          have NX : climb l (l.length + 1) (j : Int) < 0 → Hid (∀ m : Nat, m < j + 1 → climb l (l.length + 1) (m : Int) < 0) := by
            intro q m hm
            rcases Nat.lt_or_ge m j with r | r
            · exact hd.out m r
            · obtain rfl : m = j := by omega
              exact q
          replace NX := hide NX
          have BAD := hide (NC.out j h)
          clear hd NC YES
          go_wp2_with fail
          go_loop [8, 9] (fun kv nv => ∃ (t : Nat) (z : Int), t ≤ l.length + 1 ∧ nv = .int .i64 t ∧ kv = .int .i64 z ∧ -1 ≤ z ∧ z < (l.length : Int) ∧ Hid (climb l (l.length + 1 - t) z = climb l (l.length + 1) (j : Int))) (fun _ nv => l.length + 2 - (intOf nv).toNat)
          case atStart => exact ⟨0, (j : Int), Nat.zero_le _, rfl, rfl, by omega, by omega, rfl⟩
          case round =>
            obtain ⟨t, z, ht, rfl, rfl, z1, z2, hc⟩ := hrel
            by_cases q1 : z < 0
            · have z3 : ¬ (0 : Int) ≤ z := by omega
              have E := NX.out (by rw [← hc.out, climb_done _ q1]; exact q1)
              clear NX BAD hc ALL
              go_wp2_with fail
              go_round
              case rel => exact ⟨j + 1, by omega, by go_num, E⟩
              case measure => simp [intOf]; omega
            · obtain ⟨m, rfl⟩ : ∃ m : Nat, z = (m : Int) := ⟨z.toNat, by omega⟩
              have hm : m < l.length := by omega
              by_cases q2 : t ≤ l.length
              · have t1 : (t : Int) ≤ (l.length : Int) := by omega
                obtain ⟨vam, vkm, hNm⟩ := HV.out m hm
                have cm := cell_below hNm.parent hb
                have ok := ALL.out m hm
                rw [nodeOk_at hm, Bool.and_eq_true, Bool.and_eq_true] at ok
                have pb := of_decide_eq_true ok.2.1
                have hc' : Hid (climb l (l.length + 1 - (t + 1)) l[m].parent = climb l (l.length + 1) (j : Int)) := by
                  show _ = _
                  rw [← hc.out, show l.length + 1 - t = (l.length + 1 - (t + 1)) + 1 by omega, climb_up hm]
                have pb1 := pb.1
                have pb2 := pb.2
                clear NX BAD hc ALL ok pb hNm q1
                generalize l[m].parent = pm at *
                go_wp2_with fail
                go_round
                case rel => exact ⟨t + 1, pm, by omega, by go_num, rfl, pb1, pb2, hc'⟩
                case measure => simp [intOf]; omega
              · have t1 : ¬ (t : Int) ≤ (l.length : Int) := by omega
                have t2 : decide ((t : Int) ≤ (l.length : Int)) = false := decide_eq_false t1
                have E : Hid (rightB l = false) := by
                  refine BAD.out ?_
                  rw [← hc.out, show l.length + 1 - t = 0 by omega]
                  first | (show ¬ (m : Int) < 0; omega) | (show (0 : Int) ≤ (m : Int); omega)
                clear NX BAD hc ALL
                go_wp2_with fail
                go_ret
                exact ⟨ret_bool E.out.symm, hb⟩
        · obtain rfl : j = l.length := by omega
          have E := hide (YES.out (fun m hm => ALL.out m hm) (fun m hm => hd.out m hm))
          clear hd NC YES ALL h
          go_wp2_with fail
          go_ret
          exact ⟨ret_bool E.out.symm, hb⟩
end Go.Proofs.YtemikdmkjgmflaaGreatDoor

namespace Go.Proofs.YtemikdmkjgmflaaGreatDoor
open Go.RowKit
set_option maxRecDepth 100000
set_option maxHeartbeats 1000000 in
theorem refHas_any (v : Value) (l : List Nd) (id : Int) (w : World) (hv : NodesV w v l) (hz : DocSz l) :
    Calls Tryz.prog 63 #[v, .int .i64 id] w fun e w' => e = .returned (.bool (hasN l id)) ∧ Below w.heap.size w w' := by
  have HR := hide (refDocRight_any v l w hv hz)
  obtain ⟨p, c, rfl, hv⟩ := hv
  have hlen := hz.len
  clear hv hz
  unfold hasN
  by_cases h1 : 0 ≤ id
  · by_cases h2 : id < (l.length : Int)
    · rw [decide_eq_true ⟨h1, h2⟩, Bool.true_and]
      generalize rightB l = r at *
      go_enter Tryz.func63, Tryz.ntmps63
      go_wp2_with fail
      refine HR.out.mono ?_
      rintro e w1 ⟨rfl, b1⟩
      go_wp2_with fail
      go_ret
      exact ⟨rfl, b1⟩
    · rw [decide_eq_false (fun q => h2 q.2), Bool.false_and]
      have d : decide (id < (l.length : Int)) = false := decide_eq_false h2
      go_enter Tryz.func63, Tryz.ntmps63
      go_wp2_with fail
      go_ret
      exact ⟨rfl, Below.refl _ _⟩
  · rw [decide_eq_false (fun q => h1 q.1), Bool.false_and]
    go_enter Tryz.func63, Tryz.ntmps63
    go_wp2_with fail
    go_ret
    exact ⟨rfl, Below.refl _ _⟩
/-- A node that is there, in a right document. -/
structure Is (l : List Nd) (id : Int) (m : Nat) : Prop where
  right : Right l
  eq : id = (m : Int)
  lt : m < l.length
theorem Is.of {l : List Nd} {id : Int} (h : hasN l id = true) : ∃ m, Is l id m := by
  unfold hasN at h
  rw [Bool.and_eq_true, decide_eq_true_eq] at h
  exact ⟨id.toNat, right_is.1 h.2, by omega, by omega⟩
theorem parI_at {l : List Nd} {m : Nat} (h : m < l.length) : parI l (m : Int) = l[m].parent := by unfold parI; rw [Int.toNat_natCast, nd_at h]
end Go.Proofs.YtemikdmkjgmflaaGreatDoor

namespace Go.Proofs.YtemikdmkjgmflaaGreatDoor
open Go.RowKit
set_option maxRecDepth 100000
/-- A text, and behind it the texts of nodes. -/
def textF (l : List Nd) : ByteArray → List Int → ByteArray
  | s, [] => s
  | s, c :: t => textF l (s ++ (nd l c.toNat).text) t
def textP (l : List Nd) (id : Int) : ByteArray := textF l (nd l id.toNat).text (nd l id.toNat).kids
theorem text_small {l : List Nd} (h : Right l) {i : Nat} (hi : i < l.length) : (nd l i).text.size ≤ 4000 := by
  have ha := h.alone i hi
  unfold aloneB at ha
  split at ha
  · rw [Bool.and_eq_true, Bool.and_eq_true, decide_eq_true_eq] at ha
    exact ha.2.2
  · rw [Bool.and_eq_true, Bool.and_eq_true, beq_iff_eq] at ha
    omega
theorem kids_few {l : List Nd} (h : Right l) {i : Nat} (hi : i < l.length) : (nd l i).kids.length ≤ 400 := by
  have h1 := nodup_len l.length _ (kids_nodup h hi) (fun x hx => by
    have := h.kid i hi x hx
    exact ⟨this.1, this.2.1⟩)
  have := h.len
  omega
set_option maxHeartbeats 2000000 in
theorem refText_any (v : Value) (l : List Nd) (id : Int) (m0 : Nat) (w : World) (hv : NodesV w v l) (hI : Is l id m0) :
    Calls Tryz.prog 42 #[v, .int .i64 id] w fun e w' => e = .returned (.string (textP l id)) ∧ w' = w := by
  have hR := hI.right
  obtain ⟨rfl, h0⟩ := (⟨hI.eq, hI.lt⟩ : id = (m0 : Int) ∧ m0 < l.length)
  clear hI
  have hlen := hR.len.2
  obtain ⟨p, c, rfl, hv⟩ := hv
  rcases hv with hv | ⟨b, o, rfl, hv⟩
  · rw [hv] at h0; simp at h0
  have HV := hide hv
  clear hv
  obtain ⟨va0, vk0, hN0⟩ := HV.out m0 h0
  have c1 := hN0.text
  have c4 := hN0.kids
  have i0 : (m0 : Int) < (l.length : Int) := by omega
  have ts := text_small hR h0
  have kf := kids_few hR h0
  have KD := hide (fun x hx => hR.kid m0 h0 x hx)
  have TS := hide (fun i hi => text_small hR (i := i) hi)
  obtain ⟨pk, ck, rfl, hks⟩ := hN0.ks
  unfold textP
  rw [Int.toNat_natCast]
  rw [nd_at h0] at ts kf KD ⊢
  clear hN0 hR
  generalize l[m0].text = t0 at *
  generalize l[m0].kids = ks at *
  generalize hW : textF l t0 ks = W
  have HW := hide hW
  clear hW
  go_enter Tryz.func42, Tryz.ntmps42
  go_wp2_with fail
  go_loop [5, 6] (fun sv iv => ∃ (j : Nat) (s : ByteArray), j ≤ ks.length ∧ iv = .int .i64 j ∧ sv = .string s ∧ s.size ≤ 4000 + 4000 * j ∧ Hid (textF l s (ks.drop j) = W)) (fun _ iv => ks.length - (intOf iv).toNat)
  case atStart => exact ⟨0, t0, Nat.zero_le _, rfl, rfl, by omega, HW.out⟩
  case round =>
    obtain ⟨j, s, hj, rfl, rfl, hs, hc⟩ := hrel
    clear HW
    by_cases h : j < ks.length
    · have i1 : (j : Int) < (ks.length : Int) := by omega
      rcases hks with hks | ⟨kb, ko, rfl, hks⟩
      · rw [hks] at h; simp at h
      have cc := hks j h
      have hk := KD.out ks[j] (List.getElem_mem _)
      obtain ⟨m, em⟩ : ∃ m : Nat, ks[j] = (m : Int) := ⟨ks[j].toNat, by omega⟩
      have hm : m < l.length := by omega
      have hc1 := hc.out
      rw [List.drop_eq_getElem_cons h] at hc1
      have hc2 : textF l (s ++ (nd l ks[j].toNat).text) (ks.drop (j + 1)) = W := hc1
      rw [em, Int.toNat_natCast, nd_at hm] at hc2
      have tm := TS.out m hm
      rw [nd_at hm] at tm
      obtain ⟨vam, vkm, hNm⟩ := HV.out m hm
      have cm := hNm.text
      rw [em] at cc
      have m1 : (m : Int) < (l.length : Int) := by omega
      have HC := hide hc2
      have q1 := fun w => run_string_add_sum (P := Tryz.prog) w s l[m].text (by omega)
      have sz : (s ++ l[m].text).size ≤ 4000 + 4000 * (j + 1) := by rw [ByteArray.size_append]; omega
      clear hc hc1 hc2 hk em hNm hks
      generalize s ++ l[m].text = s2 at *
      generalize l[m].text = tx at *
      go_wp2_with fail
      go_round
      case rel => exact ⟨j + 1, s2, by omega, by go_num, rfl, sz, HC.out⟩
      case measure => simp [intOf]; omega
    · obtain rfl : j = ks.length := by omega
      have E : Hid (s = W) := by
        have := hc.out
        rw [List.drop_length] at this
        exact this
      clear hc hks h
      go_wp2_with fail
      go_ret
      exact ⟨by rw [← E.out]; rfl, rfl⟩
end Go.Proofs.YtemikdmkjgmflaaGreatDoor

namespace Go.Proofs.YtemikdmkjgmflaaGreatDoor
open Go.RowKit
def oSel : ByteArray := ⟨#[115, 101, 108, 101, 99, 116]⟩
def oOpt : ByteArray := ⟨#[111, 112, 116, 105, 111, 110]⟩
def oGrp : ByteArray := ⟨#[111, 112, 116, 103, 114, 111, 117, 112]⟩
def oDis : ByteArray := ⟨#[100, 105, 115, 97, 98, 108, 101, 100]⟩
def oMul : ByteArray := ⟨#[109, 117, 108, 116, 105, 112, 108, 101]⟩
def oSiz : ByteArray := ⟨#[115, 105, 122, 101]⟩
def oVal : ByteArray := ⟨#[118, 97, 108, 117, 101]⟩
/-- A node's kind; is a node there, of a kind, in a right document? Has it an attribute? -/
def kN (n : Nd) : Int := kOf n.name (tyOf n.attrs)
def isK (l : List Nd) (id k : Int) : Bool := hasN l id && decide (kN (nd l id.toNat) = k)
def hasA (n : Nd) (s : ByteArray) : Bool := (findA n.attrs s).isSome
def nmI (l : List Nd) (i : Int) : ByteArray := (nd l i.toNat).name
/-- Where an option's select may be; its select. -/
def grpI (l : List Nd) (p : Int) : Bool := decide (0 ≤ p) && decide (nmI l p = oGrp)
def upI (l : List Nd) (m : Int) : Int := if grpI l (parI l m) = true then parI l (parI l m) else parI l m
def ownP (l : List Nd) (m : Int) : Int := if upI l m < 0 ∨ ¬ nmI l (upI l m) = oSel then -1 else upI l m
def optB (l : List Nd) (sel i : Int) : Bool := decide (nmI l i = oOpt) && decide (ownP l i = sel)
def listP (l : List Nd) (sel : Int) : List Int := if isK l sel 23 = true then (orderP l sel).filter (optB l sel) else []
def offP (l : List Nd) (opt : Int) : Bool := isK l opt 32 && (hasA (nd l opt.toNat) oDis || (grpI l (parI l opt) && hasA (nd l (parI l opt).toNat) oDis))
/-- One to four digits. -/
def digB (c : UInt8) : Bool := decide (48 ≤ c.toNat ∧ c.toNat ≤ 57)
def szN (s : List UInt8) : Int := if s.length ≤ 4 ∧ s.all digB = true then s.foldl (fun n c => 10 * n + ((c.toNat : Int) - 48)) 0 else 0
def sizeP (l : List Nd) (sel : Int) : Int := if isK l sel 23 = true then (if 0 < szN (fndS (nd l sel.toNat).attrs oSiz).data.toList then szN (fndS (nd l sel.toNat).attrs oSiz).data.toList else if hasA (nd l sel.toNat) oMul = true then 4 else 1) else 0
def textO (l : List Nd) (opt : Int) : ByteArray := if isK l opt 32 = true then (if hasA (nd l opt.toNat) oVal = true then fndS (nd l opt.toNat).attrs oVal else collapseS (textP l opt)) else ⟨#[]⟩
/-- States: one of them; right with a document. -/
def st (C : List Ct) (i : Int) : Ct := C.getD i.toNat ct0
def rightD (l : List Nd) (C : List Ct) : Bool := rightB l && decide ((l.length : Int) = (C.length : Int))
/-- Those of a list are changed. -/
def updP (f : Int → Ct → Ct) (all : List Int) (C : List Ct) : List Ct := C.mapIdx fun i c => if (i : Int) ∈ all then f i c else c
def onlyF (p i : Int) (c : Ct) : Ct := { c with sel := decide (i = p) }
def markF (_ : Int) (c : Ct) : Ct := { c with dsel := true }
def onlyP (C : List Ct) (all : List Int) (p : Int) : List Ct := updP (onlyF p) all C
/-- The last one that is selected; the first one that isn't off. -/
def lastP (C : List Ct) (all : List Int) : Int := (all.filter fun i => (st C i).sel).getLast?.getD (-1)
def pickP (l : List Nd) (C : List Ct) (sel : Int) (all : List Int) : Int := if 0 ≤ lastP C all then lastP C all else if sizeP l sel = 1 then (all.find? fun i => !offP l i).getD (-1) else -1
def fixP (l : List Nd) (C : List Ct) (sel : Int) : List Ct := if isK l sel 23 = true ∧ hasA (nd l sel.toNat) oMul = false then onlyP C (listP l sel) (pickP l C sel (listP l sel)) else C
def fixO (l : List Nd) (C : List Ct) (sel : Int) : List Ct := if rightD l C = true then fixP l C sel else []
def setC (C : List Ct) (i : Int) (c : Ct) : List Ct := C.set i.toNat c
/-- A person's choice: the states and the error's number. -/
def chooseC (l : List Nd) (C : List Ct) (opt : Int) (on : Bool) : List Ct := if hasA (nd l (ownP l opt).toNat) oMul = true then setC C opt { st C opt with sel := on, dsel := true } else updP markF (listP l (ownP l opt)) (onlyP C (listP l (ownP l opt)) opt)
def chooseO (l : List Nd) (C : List Ct) (opt : Int) (on : Bool) : List Ct × Int := if rightD l C = true ∧ isK l opt 32 = true ∧ 0 ≤ ownP l opt then (if offP l opt = true then ([], 8) else (chooseC l C opt on, 0)) else ([], 4)
theorem updC_len (f : Int → Ct → Ct) (all : List Int) (C : List Ct) : (updP f all C).length = C.length := by simp [updP]
theorem upd_at {f : Int → Ct → Ct} {all : List Int} {C : List Ct} {i : Nat} (h : i < C.length) : (updP f all C)[i]'(by rw [updC_len]; exact h) = if (i : Int) ∈ all then f i C[i] else C[i] := by simp [updP]
theorem upd_nil (f : Int → Ct → Ct) (C : List Ct) : updP f [] C = C := by
  apply List.ext_getElem (updC_len ..)
  intro i h1 h2
  rw [upd_at h2, if_neg (by simp)]
/-- One more of the list. -/
theorem upd_step {f : Int → Ct → Ct} {all : List Int} {C : List Ct} {k : Nat} (hk : k < all.length) (hn : all.Nodup) {m : Nat} (hm : all[k] = (m : Int)) (hl : m < C.length) :
    (updP f (all.take k) C).set m (f m (C[m])) = updP f (all.take (k + 1)) C ∧ (updP f (all.take k) C)[m]? = some C[m] := by
  have nk : (m : Int) ∉ all.take k := by
    intro q
    obtain ⟨j, hj, e⟩ := List.getElem_of_mem q
    have hj' : j < k := by have := hj; rw [List.length_take] at this; omega
    rw [List.getElem_take] at e
    exact (List.pairwise_iff_getElem.1 hn) j k (by omega) hk hj' (e.trans hm.symm)
  constructor
  · apply List.ext_getElem (by simp [updC_len])
    intro i h1 h2
    have hi : i < C.length := by rw [updC_len] at h2; exact h2
    rw [List.getElem_set, upd_at hi, upd_at hi, List.take_succ_eq_append_getElem hk, hm]
    by_cases e : m = i
    · subst e
      rw [if_pos rfl, if_pos (by simp)]
    · rw [if_neg e]
      have : (i : Int) ∈ all.take k ++ [(m : Int)] ↔ (i : Int) ∈ all.take k := by
        rw [List.mem_append, List.mem_singleton]
        constructor
        · rintro (q | q)
          · exact q
          · omega
        · exact .inl
      simp only [this]
  · rw [List.getElem?_eq_getElem (by rw [updC_len]; exact hl), upd_at hl, if_neg nk]
/-- What a select's options are. -/
theorem list_in {l : List Nd} {sel : Int} : (listP l sel).Nodup ∧ ∀ i ∈ listP l sel, 0 ≤ i ∧ i < (l.length : Int) := by
  unfold listP
  split
  · rename_i h
    unfold isK at h
    rw [Bool.and_eq_true] at h
    have h1 := h.1
    unfold hasN at h1
    rw [Bool.and_eq_true, decide_eq_true_eq] at h1
    have R := right_is.1 h1.2
    refine ⟨(order_nodup R h1.1.1 h1.1.2).filter _, fun i hi => ?_⟩
    have := (order_mem R h1.1.1 h1.1.2 i).1 (List.mem_filter.1 hi).1
    exact ⟨this.1, this.2.1⟩
  · exact ⟨List.nodup_nil, fun i hi => by cases hi⟩
theorem last_none {C : List Ct} {all : List Int} (hp : ∀ i ∈ all, 0 ≤ i) (h : ¬ 0 ≤ lastP C all) : ∀ i ∈ all, (st C i).sel = false := by
  intro i hi
  cases q : (st C i).sel with
  | false => rfl
  | true =>
    exfalso
    apply h
    have hm : i ∈ all.filter fun i => (st C i).sel := List.mem_filter.2 ⟨hi, q⟩
    unfold lastP
    cases e : (all.filter fun i => (st C i).sel).getLast? with
    | none => rw [List.getLast?_eq_none_iff] at e; rw [e] at hm; cases hm
    | some x => exact hp x (List.mem_filter.1 (List.mem_of_getLast? e)).1
theorem lastP_none {C : List Ct} {all : List Int} (h : ∀ i ∈ all, (st C i).sel = false) : lastP C all = -1 := by
  unfold lastP
  rw [List.filter_eq_nil_iff.2 (fun i hi => by rw [h i hi]; decide)]; rfl
end Go.Proofs.YtemikdmkjgmflaaGreatDoor

namespace Go.Proofs.YtemikdmkjgmflaaGreatDoor
open Go.RowKit
theorem seekR_in {t : ByteArray} {f l : Nat} : ∀ {n k x : Nat}, seekR t f l n k = some x → f ≤ x ∧ x ≤ l
  | 0, k, x, h => by cases h
  | n + 1, k, x, h => by
    unfold seekR at h
    split at h
    · rename_i q
      rw [Bool.and_eq_true, Bool.and_eq_true, Nat.ble_eq, Nat.ble_eq] at q
      cases h
      exact ⟨q.1, q.2.1⟩
    · exact seekR_in h
theorem kInt_in {r : Option Nat} {f l : Nat} {z : Int} (hz : (f : Int) ≤ z ∧ z ≤ (l : Int)) (h : ∀ x, r = some x → f ≤ x ∧ x ≤ l) : (f : Int) ≤ kInt r z ∧ kInt r z ≤ (l : Int) := by
  cases r with
  | none => exact hz
  | some x =>
    have := h x rfl
    show (f : Int) ≤ (x : Int) ∧ (x : Int) ≤ (l : Int)
    omega
theorem byT_in {o : Option ByteArray} {f l : Nat} {z : Int} (hz : (f : Int) ≤ z ∧ z ≤ (l : Int)) : (f : Int) ≤ byT o f l z ∧ byT o f l z ≤ (l : Int) := by
  cases o with
  | none => exact hz
  | some t => exact kInt_in hz (fun x e => seekR_in e)
theorem seekL_in {t : ByteArray} : ∀ {n k x : Nat}, seekL t n k = some x → lastN x = t
  | 0, k, x, h => by cases h
  | n + 1, k, x, h => by
    unfold seekL at h
    split at h
    · rename_i q; cases h; exact q
    · exact seekL_in h
/-- Which names are selects, options, groups. -/
theorem kOf_sel {name : ByteArray} {o : Option ByteArray} : kOf name o = 23 ↔ name = oSel := by
  constructor
  · intro h
    unfold kOf at h
    split at h
    · have := byT_in (o := o) (f := 1) (l := 22) (z := 2) (by decide)
      omega
    · split at h
      · assumption
      · split at h
        · omega
        · split at h
          · have := byT_in (o := o) (f := 25) (l := 27) (z := 25) (by decide)
            omega
          · split at h
            · omega
            · omega
  · intro h; subst h; rfl
theorem kOf_last {name : ByteArray} {o : Option ByteArray} {i : Nat} (h : kOf name o = 28 + (i : Int)) : lastN i = name := by
  unfold kOf at h
  split at h
  · have := byT_in (o := o) (f := 1) (l := 22) (z := 2) (by decide)
    omega
  · split at h
    · omega
    · split at h
      · omega
      · split at h
        · have := byT_in (o := o) (f := 25) (l := 27) (z := 25) (by decide)
          omega
        · split at h
          · omega
          · rename_i j e
            obtain rfl : j = i := by omega
            exact seekL_in e
theorem kOf_opt {name : ByteArray} {o : Option ByteArray} : kOf name o = 32 ↔ name = oOpt := by
  constructor
  · intro h
    have := kOf_last (i := 4) (o := o) (name := name) (by rw [h]; rfl)
    rw [← this]; rfl
  · intro h; subst h; rfl
theorem kOf_grp {name : ByteArray} {o : Option ByteArray} : kOf name o = 33 ↔ name = oGrp := by
  constructor
  · intro h
    have := kOf_last (i := 5) (o := o) (name := name) (by rw [h]; rfl)
    rw [← this]; rfl
  · intro h; subst h; rfl
/-- A select's options by way of its children. -/
def optsC (l : List Nd) (c : Int) : List Int := if nmI l c = oOpt then [c] else if nmI l c = oGrp then (kidsI l c).filter (fun d => decide (nmI l d = oOpt)) else []
def optsP (l : List Nd) (sel : Int) : List Int := (kidsI l sel).flatMap (optsC l)
theorem Dep.ne {l : List Nd} {d e : Nat} {k j : Int} (h : Dep l d k) (g : Dep l e j) (hn : d ≠ e) : k ≠ j := fun q => hn (by rw [q] at h; exact h.one g)
theorem up_is {l : List Nd} {sel x : Int} (h0 : 0 ≤ sel) (h : ownP l x = sel) : upI l x = sel := by
  unfold ownP at h
  split at h
  · omega
  · exact h
/-- An option is a child, or a child's child. -/
theorem opt_dep {l : List Nd} {sel x : Int} {a d : Nat} (hs : Dep l a sel) (hx : Dep l d x) (h : optB l sel x = true) : d = a + 1 ∨ d = a + 2 := by
  unfold optB at h
  rw [Bool.and_eq_true, decide_eq_true_eq, decide_eq_true_eq] at h
  have s0 := hs.rng.1
  have u := up_is s0 h.2
  unfold upI at u
  split at u
  · rename_i g
    match d, hx with
    | 0, hx =>
      have e : parI l x = -1 := hx.2
      rw [e] at g
      cases g
    | 1, hx =>
      have e : parI l (parI l x) = -1 := hx.2.2
      omega
    | d + 2, hx =>
      have q : Dep l d (parI l (parI l x)) := hx.2.2
      rw [u] at q
      have := q.one hs
      omega
  · match d, hx with
    | 0, hx =>
      have e : parI l x = -1 := hx.2
      omega
    | d + 1, hx =>
      have q : Dep l d (parI l x) := hx.2
      rw [u] at q
      have := q.one hs
      omega
theorem down_none {l : List Nd} (hL : Linked l) {sel k : Int} {a d f : Nat} (hs : Dep l a sel) (hk : Dep l d k) (hd : a + 2 < d) : (downF l f k).filter (optB l sel) = [] := by
  rw [List.filter_eq_nil_iff]
  intro x hx q
  obtain ⟨e, he, _⟩ := down_dep hL hk hx
  have := opt_dep hs he q
  omega
theorem dep_kid {l : List Nd} (hL : Linked l) {k c : Int} {d : Nat} (hk : Dep l d k) (hc : c ∈ kidsI l k) : Dep l (d + 1) c := by
  have := hL.kidI hk.rng hc
  exact ⟨this.1, by rw [this.2]; exact hk⟩
theorem filter_flat {f : Int → List Int} {p : Int → Bool} : ∀ (L : List Int), (L.flatMap f).filter p = L.flatMap (fun x => (f x).filter p)
  | [] => rfl
  | x :: L => by
    rw [List.flatMap_cons, List.filter_append, filter_flat L, List.flatMap_cons]
theorem flat_nil {f : Int → List Int} : ∀ {L : List Int}, (∀ x ∈ L, f x = []) → L.flatMap f = []
  | [], _ => rfl
  | x :: L, h => by rw [List.flatMap_cons, h x List.mem_cons_self, flat_nil (fun y hy => h y (List.mem_cons_of_mem _ hy))]; rfl
theorem flat_filter {p q : Int → Bool} {f : Int → List Int} : ∀ {L : List Int}, (∀ x ∈ L, f x = if p x = true then [x] else []) → L.flatMap f = L.filter p
  | [], _ => rfl
  | x :: L, h => by
    rw [List.flatMap_cons, h x List.mem_cons_self, flat_filter (q := q) (fun y hy => h y (List.mem_cons_of_mem _ hy)), List.filter_cons]
    split <;> rfl
/-- A child's child. -/
theorem down_low {l : List Nd} (hL : Linked l) {sel k : Int} {a f : Nat} (hs : Dep l a sel) (hk : Dep l (a + 2) k) (hf : Sub l f k) : (downF l f k).filter (optB l sel) = if optB l sel k = true then [k] else [] := by
  match f, hf with
  | f + 1, hf =>
    show (k :: (kidsI l k).flatMap (downF l f)).filter (optB l sel) = _
    have e : ((kidsI l k).flatMap (downF l f)).filter (optB l sel) = [] := by
      rw [filter_flat]
      exact flat_nil (fun c hc => down_none hL hs (dep_kid hL hk hc) (by omega))
    rw [List.filter_cons, e]
theorem sel_name {l : List Nd} {sel : Int} (h : isK l sel 23 = true) : nmI l sel = oSel := by
  unfold isK kN at h
  rw [Bool.and_eq_true, decide_eq_true_eq] at h
  exact kOf_sel.1 h.2
theorem kid_opt {l : List Nd} (hL : Linked l) {sel c : Int} (hn : nmI l sel = oSel) (hr : inR l sel) (hc : c ∈ kidsI l sel) : optB l sel c = decide (nmI l c = oOpt) := by
  have pc := (hL.kidI hr hc).2
  have u : upI l c = sel := by
    unfold upI grpI
    rw [pc, hn, if_neg]
    rw [Bool.and_eq_true]
    rintro ⟨_, q⟩
    exact absurd (of_decide_eq_true q) (by decide)
  have w : ownP l c = sel := by
    unfold ownP
    rw [u, if_neg]
    rintro (q | q)
    · have := hr.1; omega
    · exact q hn
  unfold optB
  rw [w, decide_eq_true rfl, Bool.and_true]
theorem low_opt {l : List Nd} (hL : Linked l) {sel c d : Int} {a : Nat} (hn : nmI l sel = oSel) (hs : Dep l a sel) (hc : c ∈ kidsI l sel) (hd : d ∈ kidsI l c) : optB l sel d = (decide (nmI l d = oOpt) && decide (nmI l c = oGrp)) := by
  have dc := dep_kid hL hs hc
  have pc := (hL.kidI hs.rng hc).2
  have pd := (hL.kidI dc.rng hd).2
  have c0 := dc.rng.1
  by_cases g : nmI l c = oGrp
  · have gi : grpI l (parI l d) = true := by
      unfold grpI
      rw [pd, Bool.and_eq_true]
      exact ⟨decide_eq_true c0, decide_eq_true g⟩
    have u : upI l d = sel := by
      unfold upI
      rw [if_pos gi, pd, pc]
    have w : ownP l d = sel := by
      unfold ownP
      rw [u, if_neg]
      rintro (q | q)
      · have := hs.rng.1; omega
      · exact q hn
    unfold optB
    rw [w, decide_eq_true rfl, decide_eq_true g]
  · have u : upI l d = c := by
      unfold upI
      rw [if_neg, pd]
      unfold grpI
      rw [pd, Bool.and_eq_true]
      rintro ⟨_, q⟩
      exact g (of_decide_eq_true q)
    have w : ¬ ownP l d = sel := fun q => by
      have := up_is hs.rng.1 q
      rw [u] at this
      exact dc.ne hs (by omega) this
    unfold optB
    rw [decide_eq_false w, decide_eq_false g, Bool.and_false]
theorem kid_row {l : List Nd} (hL : Linked l) {sel c : Int} {a f : Nat} (hn : nmI l sel = oSel) (hs : Dep l a sel) (hc : c ∈ kidsI l sel) (hf : Sub l f c) : (downF l f c).filter (optB l sel) = optsC l c := by
  match f, hf with
  | f + 1, hf =>
    show (c :: (kidsI l c).flatMap (downF l f)).filter (optB l sel) = _
    rw [List.filter_cons, kid_opt hL hn hs.rng hc, filter_flat]
    have dc := dep_kid hL hs hc
    have e : (kidsI l c).flatMap (fun x => (downF l f x).filter (optB l sel)) = (kidsI l c).filter (fun d => decide (nmI l d = oOpt) && decide (nmI l c = oGrp)) :=
      flat_filter (q := fun _ => true) (fun d hd => by rw [down_low hL hs (dep_kid hL dc hd) (hf.2 d hd), low_opt hL hn hs hc hd])
    rw [e]
    unfold optsC
    by_cases q : nmI l c = oOpt
    · have ng : ¬ nmI l c = oGrp := fun r => by rw [q] at r; exact absurd r (by decide)
      rw [if_pos (decide_eq_true q), if_pos q, List.filter_eq_nil_iff.2 (fun d _ r => by rw [decide_eq_false ng, Bool.and_false] at r; cases r)]
    · rw [if_neg (fun r => q (of_decide_eq_true r)), if_neg q]
      by_cases g : nmI l c = oGrp
      · rw [if_pos g]
        exact List.filter_congr (fun d _ => by rw [decide_eq_true g, Bool.and_true])
      · rw [if_neg g, List.filter_eq_nil_iff.2 (fun d _ r => by rw [decide_eq_false g, Bool.and_false] at r; cases r)]
theorem list_opts {l : List Nd} {sel : Int} (h : isK l sel 23 = true) : listP l sel = optsP l sel := by
  have hn := sel_name h
  have hh : hasN l sel = true := by unfold isK at h; rw [Bool.and_eq_true] at h; exact h.1
  unfold hasN at hh
  rw [Bool.and_eq_true, decide_eq_true_eq] at hh
  have hR := right_is.1 hh.2
  have hr : inR l sel := ⟨hh.1.1, hh.1.2⟩
  have hL := right_linked hR
  obtain ⟨a, hs⟩ := right_dep hR hr
  have hf := right_sub hR hr
  unfold listP
  rw [if_pos h, order_down hR hr]
  match hl : l.length, hf with
  | 0, hf => cases hf
  | f + 1, hf =>
    show (sel :: (kidsI l sel).flatMap (downF l f)).filter (optB l sel) = _
    have ns : optB l sel sel = false := by
      unfold optB
      rw [hn]
      rfl
    rw [List.filter_cons, ns, filter_flat]
    exact flat_congr (fun c hc => kid_row hL hn hs hc (hf.2 c hc))
end Go.Proofs.YtemikdmkjgmflaaGreatDoor

namespace Go.Proofs.YtemikdmkjgmflaaGreatDoor
open Go.RowKit Go.Shelf
set_option maxRecDepth 100000
attribute [local go_sem] Oper.semAt_some
/-- What a round keeps: what lay below a bound, and some blocks besides. -/
def KpB (n : Nat) (bs : List Nat) (W W' : World) : Prop := Below n W W' ∧ ∀ b ∈ bs, W'.heap[b]? = W.heap[b]?
theorem kpB_t {n : Nat} {bs : List Nat} {A B C : World} (h : KpB n bs A B) (k : KpB n bs B C) : KpB n bs A C := ⟨h.1.trans k.1, fun b hb => (k.2 b hb).trans (h.2 b hb)⟩
theorem kpB_b {n : Nat} {bs : List Nat} {w : World} (hn : n ≤ w.heap.size) (hb : ∀ b ∈ bs, b < w.heap.size) (W : World) (l : Nat) (o o' : Obj) (hl : w.heap.size ≤ l) (h : W.heap[l]? = some o) (h1 : o.isCells = false) (h2 : o.isWalk = false) : KpB n bs W (W.putObj l o') :=
  ⟨belowK_b hn W l o o' hl h h1 h2, fun b q => World.putObj_heap_other (by have := hb b q; omega)⟩
set_option maxHeartbeats 4000000 in
theorem options_any (p : Option Addr) (n c : Nat) (sel : Int) (w : World) :
    Calls Tryz.prog 32 #[.slice p n c, .int .i64 sel] w fun e w' => e = .returned (.func (.func 62) #[] #[.pointer (some ⟨w.heap.size, 0, none⟩), .pointer (some ⟨w.heap.size + 1, 0, none⟩)]) ∧ w' = (w.alloc (.cells #[.slice p n c] 22)).alloc (.cells #[.int .i64 sel] 3) := by
  go_enter Tryz.func32, Tryz.ntmps32
  go_wp2_with fail
  go_ret
  exact ⟨by simp, rfl⟩
/-- One of a select's options. -/
abbrev OptA (l : List Nd) (sel : Int) : Type := { x : Int // x ∈ optsP l sel }
def vals {l : List Nd} {sel : Int} (xs : List (OptA l sel)) : List Int := xs.map (·.1)
/-- The iterator's contract, at every world behind. -/
def Iter (l : List Nd) (sel : Int) (p : Option Addr) (c : Nat) (w : World) : Prop := ∀ (W : World) (Bl Bs : Nat), Below w.heap.size w W → Boxed W Bl 22 (.slice p l.length c) → Boxed W Bs 3 (.int .i64 sel) →
  SeqStopsK Fence.wide 2 Tryz.prog 62 #[.pointer (some ⟨Bl, 0, none⟩), .pointer (some ⟨Bs, 0, none⟩)] (fun x : OptA l sel => #[Value.int .i64 x.1]) (KpB w.heap.size [Bl, Bs]) (fun ys => vals ys = optsP l sel) (fun pre => vals pre <+: optsP l sel) (optsP l sel).length W

end Go.Proofs.YtemikdmkjgmflaaGreatDoor
