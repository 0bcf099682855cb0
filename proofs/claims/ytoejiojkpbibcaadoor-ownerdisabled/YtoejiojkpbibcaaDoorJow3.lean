/- The document's Right of layer 10. The program's way of asking for forms, elements, labels and what is disabled, told by the document's functions. The program's byType and Of of layer 11. -/
import Derived.Test.YtoejiojkpbibcaaDoorJow4
import Derived.Test.YtoejiojkpbibcaaDoorJow10
import Derived.Test.YtoejiojkpbibcaaDoorJow13

namespace Go.Proofs.YtoejiojkpbibcaaDoor
open Go.RowKit
set_option maxRecDepth 100000
/-- Lengths that a machine has. -/
structure NdSz (n : Nd) : Prop where
  name : n.name.size ≤ maxLen
  text : n.text.size ≤ maxLen
  attr : ∀ a ∈ n.attrs, a.1.size ≤ maxLen ∧ a.2.size ≤ maxLen
  attrs : n.attrs.length ≤ 4398046511104
  kids : n.kids.length ≤ 17592186044416
  tx : ∀ a ∈ n.attrs, a.2.size ≤ 140737488351232
structure DocSz (l : List Nd) : Prop where
  len : l.length ≤ 1599289640354
  nds : ∀ n ∈ l, NdSz n
theorem nd_at {l : List Nd} {i : Nat} (h : i < l.length) : nd l i = l[i] := by unfold nd; simp [List.getD, h]
theorem right_len {l : List Nd} (h : ¬ (1 ≤ l.length ∧ l.length ≤ 400)) : rightB l = false := by unfold rightB; rw [decide_eq_false h]; rfl
theorem right_head {l : List Nd} (h : (nd l 0).name.size = 0 ∨ ¬ (nd l 0).parent = -1) : rightB l = false := by
  unfold rightB
  rcases h with h | h
  · rw [h]; simp
  · rw [show ((nd l 0).parent == -1) = false by rw [beq_eq_false_iff_ne]; exact h]; simp
theorem right_node {l : List Nd} {i : Nat} (hi : i < l.length) (h : nodeOk l i = false) : rightB l = false := by
  have : (List.range l.length).all (nodeOk l) = false := by
    rw [List.all_eq_false]
    exact ⟨i, List.mem_range.2 hi, by rw [h]; simp⟩
  unfold rightB
  rw [this]; simp
theorem right_climb {l : List Nd} {i : Nat} (hi : i < l.length) (h : ¬ climb l (l.length + 1) i < 0) : rightB l = false := by
  have : ((List.range l.length).all fun i => decide (climb l (l.length + 1) i < 0)) = false := by
    rw [List.all_eq_false]
    exact ⟨i, List.mem_range.2 hi, by rw [decide_eq_false h]; simp⟩
  unfold rightB
  rw [this]; simp
theorem right_yes {l : List Nd} (h1 : 1 ≤ l.length ∧ l.length ≤ 400) (h2 : ¬ (nd l 0).name.size = 0) (h3 : (nd l 0).parent = -1) (h4 : ∀ i, i < l.length → nodeOk l i = true) (h5 : ∀ i : Nat, i < l.length → climb l (l.length + 1) i < 0) : rightB l = true := by
  unfold rightB
  rw [decide_eq_true h1, h3]
  have e2 : ((nd l 0).name.size == 0) = false := by rw [beq_eq_false_iff_ne]; exact h2
  have e4 : (List.range l.length).all (nodeOk l) = true := List.all_eq_true.2 fun i hi => h4 i (List.mem_range.1 hi)
  have e5 : ((List.range l.length).all fun i => decide (climb l (l.length + 1) i < 0)) = true := List.all_eq_true.2 fun i hi => decide_eq_true (h5 i (List.mem_range.1 hi))
  rw [e2, e4, e5]; rfl
/-- A node among the others, by its parts. -/
theorem nodeOk_at {l : List Nd} {i : Nat} (h : i < l.length) : nodeOk l i = (aloneB l[i] && (decide (-1 ≤ l[i].parent ∧ l[i].parent < l.length) && ((decide (l[i].parent < 0) || cntI (nd l l[i].parent.toNat).kids i == 1) && l[i].kids.all (kidOk l i)))) := by
  unfold nodeOk
  rw [nd_at h]
theorem kid_no {l : List Nd} {i : Nat} {ks : List Int} {k : Nat} (hk : k < ks.length) (h : kidOk l i ks[k] = false) : ks.all (kidOk l i) = false := by
  rw [List.all_eq_false]
  exact ⟨ks[k], List.getElem_mem _, by rw [h]; simp⟩
theorem kid_all {l : List Nd} {i : Nat} {ks : List Int} (h : ∀ k (_ : k < ks.length), kidOk l i ks[k] = true) : ks.all (kidOk l i) = true := by
  rw [List.all_eq_true]
  intro c hc
  obtain ⟨k, hk, rfl⟩ := List.getElem_of_mem hc
  exact h k hk
theorem kid_low {l : List Nd} {i : Nat} {c : Int} (h : ¬ (0 ≤ c ∧ c < l.length)) : kidOk l i c = false := by unfold kidOk; rw [decide_eq_false h]; rfl
theorem kid_at {l : List Nd} {i m : Nat} (h : m < l.length) : kidOk l i (m : Int) = (l[m].parent == (i : Int)) := by
  unfold kidOk parI
  rw [decide_eq_true (by omega), Bool.true_and, Int.toNat_natCast, nd_at h]
theorem climb_done {l : List Nd} : ∀ (n : Nat) {k : Int}, k < 0 → climb l n k = k
  | 0, _, _ => rfl
  | n + 1, k, h => by show (if k < 0 then k else _) = k; rw [if_pos h]
theorem climb_up {l : List Nd} {n m : Nat} (h : m < l.length) : climb l (n + 1) (m : Int) = climb l n l[m].parent := by
  show (if (m : Int) < 0 then _ else climb l n (parI l m)) = _
  rw [if_neg (by omega)]
  unfold parI
  rw [Int.toNat_natCast, nd_at h]
set_option maxHeartbeats 8000000 in
set_option maxRecDepth 100000 in
theorem refDocRight_any (v : Value) (l : List Nd) (w : World) (hv : NodesV w v l) (hz : DocSz l) :
    Calls Tryd.prog 21 #[v] w fun e w' => e = .returned (.bool (rightB l)) ∧ Below w.heap.size w w' := by
  have hlen := hz.len
  have SZ := hide hz
  clear hz
  by_cases h1 : l.length < 1
  · obtain ⟨p, c, rfl, hv⟩ := hv
    have i1 : (l.length : Int) < 1 := by omega
    have E := hide (right_len (l := l) (by omega))
    clear h1 hv
    go_enter Tryd.func21, Tryd.ntmps21
    go_wp2_with fail
    go_ret
    exact ⟨ret_bool E.out.symm, Below.refl _ _⟩
  have i1 : ¬ (l.length : Int) < 1 := by omega
  by_cases h2 : 400 < l.length
  · obtain ⟨p, c, rfl, hv⟩ := hv
    have i2 : (400 : Int) < (l.length : Int) := by omega
    have E := hide (right_len (l := l) (by omega))
    clear h1 h2 hv
    go_enter Tryd.func21, Tryd.ntmps21
    go_wp2_with fail
    go_ret
    exact ⟨ret_bool E.out.symm, Below.refl _ _⟩
  have i2 : ¬ (400 : Int) < (l.length : Int) := by omega
  have i3 : l.length ≤ 400 := by omega
  have i4 : 0 < l.length := by omega
  have NV := hide hv
  obtain ⟨p, c, rfl, hv⟩ := hv
  rcases hv with hv | ⟨b, o, rfl, hv⟩
  · rw [hv] at i4; simp at i4
  obtain ⟨va0, vk0, hN0⟩ := hv 0 i4
  have c00 := hN0.name
  have c03 := hN0.parent
  rw [show o + 0 * 5 = o by omega] at c00 c03
  by_cases h3 : l[0].name.size = 0
  · have e3 : ((l[0].name.size : Int) == 0) = true := by rw [h3]; rfl
    have E := hide (right_head (l := l) (.inl (by rw [nd_at i4]; exact h3)))
    clear h1 h2 h3 hv NV hN0
    generalize l[0].name = nm at *
    go_enter Tryd.func21, Tryd.ntmps21
    go_wp2_with fail
    go_ret
    exact ⟨ret_bool E.out.symm, Below.refl _ _⟩
  have e3 : ((l[0].name.size : Int) == 0) = false := by rw [beq_eq_false_iff_ne]; omega
  by_cases h4 : l[0].parent = -1
  rotate_left
  · have e4 : (l[0].parent != -1) = true := by rw [bne_iff_ne]; exact h4
    have E := hide (right_head (l := l) (.inr (by rw [nd_at i4]; exact h4)))
    clear h1 h2 h3 h4 hv NV hN0
    generalize l[0].name = nm at *
    generalize l[0].parent = pr at *
    go_enter Tryd.func21, Tryd.ntmps21
    go_wp2_with fail
    go_ret
    exact ⟨ret_bool E.out.symm, Below.refl _ _⟩
  have e4 : (l[0].parent != -1) = false := by rw [bne_eq_false_iff_eq]; exact h4
  have NO := hide (fun i hi q => right_node (l := l) (i := i) hi q)
  have NC := hide (fun i hi q => right_climb (l := l) (i := i) hi q)
  have YES := hide (fun q1 q2 => right_yes (l := l) (by omega) (by rw [nd_at i4]; exact h3) (by rw [nd_at i4]; exact h4) q1 q2)
  have HV := hide hv
  clear h1 h2 h3 h4 hv hN0
  generalize l[0].name = nm at *
  generalize l[0].parent = pr at *
  go_enter Tryd.func21, Tryd.ntmps21
  go_wp2_with fail
  go_loopw [3] (fun iv wr => ∃ j : Nat, j ≤ l.length ∧ iv = .int .i64 j ∧ Hid (∀ m, m < j → nodeOk l m = true) ∧ Below w.heap.size w wr) (fun iv _ => l.length - (intOf iv).toNat)
  case atStart => exact ⟨0, Nat.zero_le _, rfl, fun m q => by omega, Below.refl _ _⟩
  case round =>
    obtain ⟨j, hj, rfl, hd, hb⟩ := hrel
    rename World => wr
    clear c00 c03 e3 e4
    by_cases h : j < l.length
    · have j1 : (j : Int) < (l.length : Int) := by omega
      obtain ⟨va, vk, hN0⟩ := HV.out j h
      have hN := hN0.below hb
      have n0 := hN.name
      have n1 := hN.text
      have n2 := hN.attrs
      have n3 := hN.parent
      have n4 := hN.kids
      have sz := SZ.out.nds l[j] (List.getElem_mem _)
      have HAl := hide (refAlone_any l[j] va vk wr hN.at_ hN.ks sz.attrs ⟨sz.name, sz.text, sz.attr⟩)
      unfold aggN at HAl
      have at1 := nodeOk_at h
      have BAD := NO.out j h
      have HN := hide hN
      clear hN hN0 sz NC YES
      cases k1 : aloneB l[j] with
      | false =>
        rw [k1] at HAl
        rw [k1, Bool.false_and] at at1
        have E := hide (BAD at1)
        clear at1 BAD k1 hd HN
        generalize l[j].name = y1 at *
        generalize l[j].text = y2 at *
        generalize l[j].parent = y3 at *
        go_wp2_with fail
        refine HAl.out.mono ?_
        rintro e u1 ⟨rfl, b1⟩
        go_wp2_with fail
        go_ret
        exact ⟨ret_bool E.out.symm, chain hb b1⟩
      | true =>
        rw [k1] at HAl
        rw [k1, Bool.true_and] at at1
        by_cases k2 : l[j].parent < -1
        · rw [decide_eq_false (by omega), Bool.false_and] at at1
          have E := hide (BAD at1)
          clear at1 BAD k1 hd HN
          generalize l[j].name = y1 at *
          generalize l[j].text = y2 at *
          generalize l[j].parent = y3 at *
          go_wp2_with fail
          refine HAl.out.mono ?_
          rintro e u1 ⟨rfl, b1⟩
          go_wp2_with fail
          go_ret
          exact ⟨ret_bool E.out.symm, chain hb b1⟩
        · by_cases k3 : (l.length : Int) ≤ l[j].parent
          · rw [decide_eq_false (by omega), Bool.false_and] at at1
            have E := hide (BAD at1)
            clear at1 BAD k1 hd HN
            generalize l[j].name = y1 at *
            generalize l[j].text = y2 at *
            generalize l[j].parent = y3 at *
            go_wp2_with fail
            refine HAl.out.mono ?_
            rintro e u1 ⟨rfl, b1⟩
            go_wp2_with fail
            go_ret
            exact ⟨ret_bool E.out.symm, chain hb b1⟩
          · rw [decide_eq_true (by omega), Bool.true_and] at at1
            by_cases k4 : l[j].parent < 0
            · rw [decide_eq_true k4, Bool.true_or, Bool.true_and] at at1
              have KD := hide at1
              clear at1 k1
              generalize l[j].name = y1 at *
              generalize l[j].text = y2 at *
              generalize l[j].parent = y3 at *
              go_wp2_with fail
              refine HAl.out.mono ?_
              rintro e u1 ⟨rfl, b1⟩
              have bb := chain hb b1
              have hN1 := HN.out.below b1
              clear HN HAl n0 n1 n2 n3 n4 b1
              obtain ⟨pk, ck, evk, hks⟩ := hN1.ks
              subst evk
              have c4 := hN1.kids
              have ksz := (SZ.out.nds l[j] (List.getElem_mem _)).kids
              have NXK : (∀ t (_ : t < l[j].kids.length), kidOk l j l[j].kids[t] = true) → Hid (∀ m, m < j + 1 → nodeOk l m = true) := by
                intro q m hm
                rcases Nat.lt_or_ge m j with r | r
                · exact hd.out m r
                · obtain rfl : m = j := by omega
                  rw [KD.out]; exact kid_all q
              have BADK : ∀ t (ht : t < l[j].kids.length), kidOk l j l[j].kids[t] = false → rightB l = false := fun t ht q => BAD (KD.out.trans (kid_no ht q))
              replace NXK := hide NXK
              replace BADK := hide BADK
              clear hd KD BAD hN1
              generalize l[j].kids = ks at *
              go_wp2_with fail
              go_loop [5] (fun kv => ∃ t : Nat, t ≤ ks.length ∧ kv = .int .i64 t ∧ Hid (∀ m (_ : m < ks.length), m < t → kidOk l j ks[m] = true)) (fun kv => ks.length - (intOf kv).toNat)
              case atStart => exact ⟨0, Nat.zero_le _, rfl, fun m _ q => by omega⟩
              case round =>
                obtain ⟨t, ht, rfl, hdk⟩ := hrel
                by_cases h9 : t < ks.length
                · have t1 : (t : Int) < (ks.length : Int) := by omega
                  rcases hks with hks | ⟨kb, ko, rfl, hks⟩
                  · rw [hks] at h9; simp at h9
                  have cc := hks t h9
                  have BK := BADK.out t h9
                  by_cases q1 : ks[t] < 0
                  · have E := hide (BK (kid_low (by omega)))
                    clear BADK NXK hks hdk BK
                    generalize ks[t] = kc at *
                    go_wp2_with fail
                    go_ret
                    exact ⟨ret_bool E.out.symm, bb⟩
                  · by_cases q2 : (l.length : Int) ≤ ks[t]
                    · have E := hide (BK (kid_low (by omega)))
                      clear BADK NXK hks hdk BK
                      generalize ks[t] = kc at *
                      go_wp2_with fail
                      go_ret
                      exact ⟨ret_bool E.out.symm, bb⟩
                    · obtain ⟨m, em⟩ : ∃ m : Nat, ks[t] = (m : Int) := ⟨ks[t].toNat, by omega⟩
                      have hm : m < l.length := by omega
                      obtain ⟨vam, vkm, hNm⟩ := HV.out m hm
                      have cm := cell_below hNm.parent bb
                      have ka := kid_at (l := l) (i := j) hm
                      rw [← em] at ka
                      have m1 : (m : Int) < (l.length : Int) := by omega
                      by_cases q3 : l[m].parent = (j : Int)
                      · have e9 : (l[m].parent != (j : Int)) = false := by rw [bne_eq_false_iff_eq]; exact q3
                        have okt : kidOk l j ks[t] = true := by rw [ka, q3]; simp
                        have hdk' : Hid (∀ x (_ : x < ks.length), x < t + 1 → kidOk l j ks[x] = true) := by
                          intro x hx hxt
                          rcases Nat.lt_or_ge x t with r | r
                          · exact hdk.out x hx r
                          · obtain rfl : x = t := by omega
                            exact okt
                        rw [em] at cc
                        clear BADK NXK hks hdk BK ka q3 okt hNm em q1 q2
                        generalize l[m].parent = pm at *
                        go_wp2_with fail
                        go_round
                        case rel => exact ⟨t + 1, by omega, by go_num, hdk'⟩
                        case measure => simp [intOf]; omega
                      · have e9 : (l[m].parent != (j : Int)) = true := by rw [bne_iff_ne]; exact q3
                        have E := hide (BK (by rw [ka, beq_eq_false_iff_ne]; exact q3))
                        rw [em] at cc
                        clear BADK NXK hks hdk BK ka q3 hNm em q1 q2
                        generalize l[m].parent = pm at *
                        go_wp2_with fail
                        go_ret
                        exact ⟨ret_bool E.out.symm, bb⟩
                · obtain rfl : t = ks.length := by omega
                  have E := NXK.out (fun x hx => hdk.out x hx hx)
                  clear BADK NXK hks hdk
                  go_wp2_with fail
                  go_roundw
                  case rel => exact ⟨j + 1, by omega, by go_num, E, bb⟩
                  case measure => simp [intOf]; omega
            · obtain ⟨pn, epn⟩ : ∃ pn : Nat, l[j].parent = (pn : Int) := ⟨l[j].parent.toNat, by omega⟩
              have hpn : pn < l.length := by omega
              obtain ⟨vap, vkp, hNp⟩ := HV.out pn hpn
              have HNp := hide hNp
              have ksp := (SZ.out.nds l[pn] (List.getElem_mem _)).kids
              rw [decide_eq_false k4, Bool.false_or, epn, Int.toNat_natCast, nd_at hpn] at at1
              rw [epn] at n3 HAl
              have p1 : (pn : Int) < (l.length : Int) := by omega
              by_cases k5 : cntI l[pn].kids j = 1
              · have e5 : (((cntI l[pn].kids j : Nat) : Int) != 1) = false := by rw [k5]; rfl
                rw [show (cntI l[pn].kids j == 1) = true by rw [k5]; rfl, Bool.true_and] at at1
                have KD := hide at1
                have HCt := hide (fun u (bu : Below w.heap.size w u) => refCount_any vkp l[pn].kids (j : Int) u (HNp.out.below bu).ks ksp)
                have C4 := hide (fun u (bu : Below w.heap.size w u) => (HNp.out.below bu).kids)
                clear at1 k1 k2 k3 k4 k5 epn hNp HNp ksp
                generalize cntI l[pn].kids j = cn at *
                generalize l[j].name = y1 at *
                generalize l[j].text = y2 at *
                go_wp2_with fail
                refine HAl.out.mono ?_
                rintro e u1 ⟨rfl, b1⟩
                have bb := chain hb b1
                have hN1 := HN.out.below b1
                have c4p := C4.out u1 bb
                clear HN HAl n0 n1 n2 n3 n4 b1 C4
                go_wp2_with fail
                refine (HCt.out u1 bb).mono ?_
                rintro e u2 ⟨rfl, rfl⟩
                clear c4p HCt
                obtain ⟨pk, ck, evk, hks⟩ := hN1.ks
                subst evk
                have c4 := hN1.kids
                have ksz := (SZ.out.nds l[j] (List.getElem_mem _)).kids
                have NXK : (∀ t (_ : t < l[j].kids.length), kidOk l j l[j].kids[t] = true) → Hid (∀ m, m < j + 1 → nodeOk l m = true) := by
                  intro q m hm
                  rcases Nat.lt_or_ge m j with r | r
                  · exact hd.out m r
                  · obtain rfl : m = j := by omega
                    rw [KD.out]; exact kid_all q
                have BADK : ∀ t (ht : t < l[j].kids.length), kidOk l j l[j].kids[t] = false → rightB l = false := fun t ht q => BAD (KD.out.trans (kid_no ht q))
                replace NXK := hide NXK
                replace BADK := hide BADK
                clear hd KD BAD hN1
                generalize l[j].kids = ks at *
                go_wp2_with fail
                go_loop [5] (fun kv => ∃ t : Nat, t ≤ ks.length ∧ kv = .int .i64 t ∧ Hid (∀ m (_ : m < ks.length), m < t → kidOk l j ks[m] = true)) (fun kv => ks.length - (intOf kv).toNat)
                case atStart => exact ⟨0, Nat.zero_le _, rfl, fun m _ q => by omega⟩
                case round =>
                  obtain ⟨t, ht, rfl, hdk⟩ := hrel
                  by_cases h9 : t < ks.length
                  · have t1 : (t : Int) < (ks.length : Int) := by omega
                    rcases hks with hks | ⟨kb, ko, rfl, hks⟩
                    · rw [hks] at h9; simp at h9
                    have cc := hks t h9
                    have BK := BADK.out t h9
                    by_cases q1 : ks[t] < 0
                    · have E := hide (BK (kid_low (by omega)))
                      clear BADK NXK hks hdk BK
                      generalize ks[t] = kc at *
                      go_wp2_with fail
                      go_ret
                      exact ⟨ret_bool E.out.symm, bb⟩
                    · by_cases q2 : (l.length : Int) ≤ ks[t]
                      · have E := hide (BK (kid_low (by omega)))
                        clear BADK NXK hks hdk BK
                        generalize ks[t] = kc at *
                        go_wp2_with fail
                        go_ret
                        exact ⟨ret_bool E.out.symm, bb⟩
                      · obtain ⟨m, em⟩ : ∃ m : Nat, ks[t] = (m : Int) := ⟨ks[t].toNat, by omega⟩
                        have hm : m < l.length := by omega
                        obtain ⟨vam, vkm, hNm⟩ := HV.out m hm
                        have cm := cell_below hNm.parent bb
                        have ka := kid_at (l := l) (i := j) hm
                        rw [← em] at ka
                        have m1 : (m : Int) < (l.length : Int) := by omega
                        by_cases q3 : l[m].parent = (j : Int)
                        · have e9 : (l[m].parent != (j : Int)) = false := by rw [bne_eq_false_iff_eq]; exact q3
                          have okt : kidOk l j ks[t] = true := by rw [ka, q3]; simp
                          have hdk' : Hid (∀ x (_ : x < ks.length), x < t + 1 → kidOk l j ks[x] = true) := by
                            intro x hx hxt
                            rcases Nat.lt_or_ge x t with r | r
                            · exact hdk.out x hx r
                            · obtain rfl : x = t := by omega
                              exact okt
                          rw [em] at cc
                          clear BADK NXK hks hdk BK ka q3 okt hNm em q1 q2
                          generalize l[m].parent = pm at *
                          go_wp2_with fail
                          go_round
                          case rel => exact ⟨t + 1, by omega, by go_num, hdk'⟩
                          case measure => simp [intOf]; omega
                        · have e9 : (l[m].parent != (j : Int)) = true := by rw [bne_iff_ne]; exact q3
                          have E := hide (BK (by rw [ka, beq_eq_false_iff_ne]; exact q3))
                          rw [em] at cc
                          clear BADK NXK hks hdk BK ka q3 hNm em q1 q2
                          generalize l[m].parent = pm at *
                          go_wp2_with fail
                          go_ret
                          exact ⟨ret_bool E.out.symm, bb⟩
                  · obtain rfl : t = ks.length := by omega
                    have E := NXK.out (fun x hx => hdk.out x hx hx)
                    clear BADK NXK hks hdk
                    go_wp2_with fail
                    go_roundw
                    case rel => exact ⟨j + 1, by omega, by go_num, E, bb⟩
                    case measure => simp [intOf]; omega
              · have e5 : (((cntI l[pn].kids j : Nat) : Int) != 1) = true := by rw [bne_iff_ne]; omega
                rw [show (cntI l[pn].kids j == 1) = false by rw [beq_eq_false_iff_ne]; exact k5, Bool.false_and] at at1
                have E := hide (BAD at1)
                have HCt := hide (fun u (bu : Below w.heap.size w u) => refCount_any vkp l[pn].kids (j : Int) u (HNp.out.below bu).ks ksp)
                have C4 := hide (fun u (bu : Below w.heap.size w u) => (HNp.out.below bu).kids)
                clear at1 k1 k2 k3 k4 k5 epn hNp HNp ksp BAD hd HN
                generalize cntI l[pn].kids j = cn at *
                generalize l[j].name = y1 at *
                generalize l[j].text = y2 at *
                go_wp2_with fail
                refine HAl.out.mono ?_
                rintro e u1 ⟨rfl, b1⟩
                have bb := chain hb b1
                have c4p := C4.out u1 bb
                clear HAl n0 n1 n2 n3 n4 b1 C4
                go_wp2_with fail
                refine (HCt.out u1 bb).mono ?_
                rintro e u2 ⟨rfl, rfl⟩
                go_wp2_with fail
                go_ret
                exact ⟨ret_bool E.out.symm, bb⟩
    · obtain rfl : j = l.length := by omega
      have ALL := hide (fun m hm => hd.out m hm)
      clear hd h NO
      go_wp2_with fail
      go_loop [7] (fun iv => ∃ j : Nat, j ≤ l.length ∧ iv = .int .i64 j ∧ Hid (∀ m : Nat, m < j → climb l (l.length + 1) (m : Int) < 0)) (fun iv => l.length - (intOf iv).toNat)
      case atStart => exact ⟨0, Nat.zero_le _, rfl, fun m q => by omega⟩
      case round =>
        obtain ⟨j, hj, rfl, hd⟩ := hrel
        by_cases h : j < l.length
        · have j1 : (j : Int) < (l.length : Int) := by omega
          have NX : climb l (l.length + 1) (j : Int) < 0 → Hid (∀ m : Nat, m < j + 1 → climb l (l.length + 1) (m : Int) < 0) := by
            intro q m hm
            rcases Nat.lt_or_ge m j with r | r
            · exact hd.out m r
            · obtain rfl : m = j := by omega
              exact q
          replace NX := hide NX
          have BAD := hide (NC.out j h)
          clear hd NC YES
          go_wp2_with fail
          go_loop [8, 9] (fun kv nv => ∃ (t : Nat) (z : Int), t ≤ l.length + 1 ∧ nv = .int .i64 t ∧ kv = .int .i64 z ∧ -1 ≤ z ∧ z < (l.length : Int) ∧ Hid (climb l (l.length + 1 - t) z = climb l (l.length + 1) (j : Int))) (fun _ nv => l.length + 2 - (intOf nv).toNat)
          case atStart => exact ⟨0, (j : Int), Nat.zero_le _, rfl, rfl, by omega, by omega, rfl⟩
          case round =>
            obtain ⟨t, z, ht, rfl, rfl, z1, z2, hc⟩ := hrel
            by_cases q1 : z < 0
            · have z3 : ¬ (0 : Int) ≤ z := by omega
              have E := NX.out (by rw [← hc.out, climb_done _ q1]; exact q1)
              clear NX BAD hc ALL
              go_wp2_with fail
              go_round
              case rel => exact ⟨j + 1, by omega, by go_num, E⟩
              case measure => simp [intOf]; omega
            · obtain ⟨m, rfl⟩ : ∃ m : Nat, z = (m : Int) := ⟨z.toNat, by omega⟩
              have hm : m < l.length := by omega
              by_cases q2 : t ≤ l.length
              · have t1 : (t : Int) ≤ (l.length : Int) := by omega
                obtain ⟨vam, vkm, hNm⟩ := HV.out m hm
                have cm := cell_below hNm.parent hb
                have ok := ALL.out m hm
                rw [nodeOk_at hm, Bool.and_eq_true, Bool.and_eq_true] at ok
                have pb := of_decide_eq_true ok.2.1
                have hc' : Hid (climb l (l.length + 1 - (t + 1)) l[m].parent = climb l (l.length + 1) (j : Int)) := by
                  show _ = _
                  rw [← hc.out, show l.length + 1 - t = (l.length + 1 - (t + 1)) + 1 by omega, climb_up hm]
                have pb1 := pb.1
                have pb2 := pb.2
                clear NX BAD hc ALL ok pb hNm q1
                generalize l[m].parent = pm at *
                go_wp2_with fail
                go_round
                case rel => exact ⟨t + 1, pm, by omega, by go_num, rfl, pb1, pb2, hc'⟩
                case measure => simp [intOf]; omega
              · have t1 : ¬ (t : Int) ≤ (l.length : Int) := by omega
                have t2 : decide ((t : Int) ≤ (l.length : Int)) = false := decide_eq_false t1
                have E : Hid (rightB l = false) := by
                  refine BAD.out ?_
                  rw [← hc.out, show l.length + 1 - t = 0 by omega]
                  first | (show ¬ (m : Int) < 0; omega) | (show (0 : Int) ≤ (m : Int); omega)
                clear NX BAD hc ALL
                go_wp2_with fail
                go_ret
                exact ⟨ret_bool E.out.symm, hb⟩
        · obtain rfl : j = l.length := by omega
          have E := hide (YES.out (fun m hm => ALL.out m hm) (fun m hm => hd.out m hm))
          clear hd NC YES ALL h
          go_wp2_with fail
          go_ret
          exact ⟨ret_bool E.out.symm, hb⟩
end Go.Proofs.YtoejiojkpbibcaaDoor

namespace Go.Proofs.YtoejiojkpbibcaaDoor
open Go.RowKit
theorem kOf_frm {name : ByteArray} {o : Option ByteArray} : kOf name o = 30 ↔ name = oForm :=
  ⟨fun h => by have := kOf_last (i := 2) (o := o) (name := name) (by rw [h]; rfl); rw [← this]; rfl, fun h => by subst h; rfl⟩
theorem kOf_set {name : ByteArray} {o : Option ByteArray} : kOf name o = 29 ↔ name = oSet :=
  ⟨fun h => by have := kOf_last (i := 1) (o := o) (name := name) (by rw [h]; rfl); rw [← this]; rfl, fun h => by subst h; rfl⟩
theorem kOf_leg {name : ByteArray} {o : Option ByteArray} : kOf name o = 34 ↔ name = oLeg :=
  ⟨fun h => by have := kOf_last (i := 6) (o := o) (name := name) (by rw [h]; rfl); rw [← this]; rfl, fun h => by subst h; rfl⟩
/-- Is there a node of that number, of a kind that q takes? -/
def okB (l : List Nd) (q : Int → Bool) (id : Int) : Bool := decide (0 ≤ id ∧ id < (l.length : Int)) && q (kI l id)
theorem ok_out {l : List Nd} {q : Int → Bool} {id : Int} (h : ¬ (0 ≤ id ∧ id < (l.length : Int))) : okB l q id = false := by unfold okB; rw [decide_eq_false h]; rfl
theorem ok_at {l : List Nd} {q : Int → Bool} {m : Nat} (h : m < l.length) : okB l q (m : Int) = q (kN l[m]) := by
  unfold okB kI; rw [decide_eq_true (by omega), Int.toNat_natCast, nd_at h, Bool.true_and]
theorem ok_in {l : List Nd} {q : Int → Bool} {id : Int} (h : 0 ≤ id ∧ id < (l.length : Int)) : okB l q id = q (kI l id) := by unfold okB; rw [decide_eq_true h, Bool.true_and]
def is30 (k : Int) : Bool := k == 30
def is29 (k : Int) : Bool := k == 29
def is34 (k : Int) : Bool := k == 34
def belK (k : Int) : Bool := listB k || k == 20
def disK (k : Int) : Bool := subB k || k == 29
def firB (l : List Nd) (q : Int → Bool) (xs : List Int) : Int := (xs.find? (okB l q)).getD (-1)
theorem dec_beq (a b : Int) : decide (a = b) = (a == b) := by
  cases h : (a == b) with
  | true => exact decide_eq_true (by simpa using h)
  | false => exact decide_eq_false (by simpa using h)
theorem ok_right {l : List Nd} {k id : Int} : (okB l (fun x => x == k) id && rightB l) = isK l id k := by
  unfold okB isK hasN kI
  rw [dec_beq (kN (nd l id.toNat)) k]
  show (decide (0 ≤ id ∧ id < (l.length : Int)) && (kN (nd l id.toNat) == k) && rightB l) = _
  cases decide (0 ≤ id ∧ id < (l.length : Int)) <;> cases rightB l <;> cases (kN (nd l id.toNat) == k) <;> rfl
/-- What is above a node, of such a kind, and holds the child that leads to it. -/
def abvP (l : List Nd) (q : Int → Bool) (h : Int → Int → Bool) (k : Int) : Int := (((anc l k).find? (fun x => okB l q (parI l x) && h (parI l x) x)).map (parI l)).getD (-1)
theorem abv_hit {l : List Nd} {q : Int → Bool} {h : Int → Int → Bool} {k : Int} (hE : Ends l k) (hk : ¬ k < 0) (g : okB l q (parI l k) = true) (g2 : h (parI l k) k = true) : abvP l q h k = parI l k := by
  unfold abvP
  rw [anc_up hE hk, List.find?_cons_of_pos (by rw [g, g2]; rfl)]; rfl
theorem abv_top {l : List Nd} {q : Int → Bool} {h : Int → Int → Bool} {k : Int} (hE : Ends l k) (hk : ¬ k < 0) (g : parI l k < 0) : abvP l q h k = -1 := by
  unfold abvP
  rw [anc_up hE hk, List.find?_cons_of_neg (by rw [ok_out (by omega)]; simp), anc_neg g]; rfl
theorem abv_up {l : List Nd} {q : Int → Bool} {h : Int → Int → Bool} {k : Int} (hE : Ends l k) (hk : ¬ k < 0) (g : (okB l q (parI l k) && h (parI l k) k) = false) : abvP l q h (parI l k) = abvP l q h k := by
  unfold abvP
  rw [anc_up hE hk, List.find?_cons_of_neg (by rw [g]; simp)]
theorem abv_form {l : List Nd} (hR : Right l) : ∀ (d : Nat) {k : Int}, 0 ≤ k → k < (l.length : Int) → hgt l k ≤ d → abvP l is30 (fun _ _ => true) k = upP l k oForm
  | 0, k, h0, hk, hd => by
    have := hgt_up (hR.ende hk) (by omega)
    omega
  | d + 1, k, h0, hk, hd => by
    have hE := hR.ende hk
    have hh := hgt_up hE (by omega)
    have pr := hR.up (by omega) hk
    by_cases q : parI l k < 0
    · rw [abv_top hE (by omega) q]
      unfold upP
      rw [anc_neg q]; rfl
    · have hE2 := hR.ende pr.2
      have hok : okB l is30 (parI l k) = decide ((nd l (parI l k).toNat).name = oForm) := by
        rw [ok_in ⟨by omega, pr.2⟩]
        unfold is30 kI kN
        rw [← dec_beq, Bool.eq_iff_iff, decide_eq_true_iff, decide_eq_true_iff]
        exact kOf_frm
      by_cases g : (nd l (parI l k).toNat).name = oForm
      · rw [abv_hit hE (by omega) (by rw [hok, decide_eq_true g]) rfl]
        unfold upP
        rw [anc_up hE2 q, List.find?_cons_of_pos (by rw [decide_eq_true g])]; rfl
      · rw [← abv_up hE (by omega) (by rw [hok, decide_eq_false g]; rfl), abv_form hR d (by omega) pr.2 (by omega)]
        unfold upP
        rw [anc_up hE2 q, List.find?_cons_of_neg (by rw [decide_eq_false g]; simp)]
/-- A form that is named. -/
theorem said_is {l : List Nd} (hR : Right l) (s : ByteArray) : firB l is30 [namedP l s] = saidF l s := by
  unfold firB saidF
  have hn : 0 ≤ namedP l s → namedP l s < (l.length : Int) := by
    intro h
    have h0 : 0 < l.length := by have := hR.len.1; omega
    unfold namedP at h ⊢
    split at h
    · omega
    · rename_i q
      rw [if_neg q]
      cases e : (orderP l 0).find? (hasId l s) with
      | none => rw [e] at h; have h : (0 : Int) ≤ -1 := h; omega
      | some x => exact ((order_mem hR (by omega) (by omega) x).1 (List.mem_of_find?_eq_some e)).2.1
  generalize namedP l s = f at *
  by_cases h0 : 0 ≤ f
  · have hok : okB l is30 f = decide (nmI l f = oForm) := by
      rw [ok_in ⟨h0, hn h0⟩]
      unfold is30 kI kN nmI
      rw [← dec_beq, Bool.eq_iff_iff, decide_eq_true_iff, decide_eq_true_iff]
      exact kOf_frm
    by_cases g : nmI l f = oForm
    · rw [if_pos ⟨h0, g⟩, List.find?_cons_of_pos (by rw [hok, decide_eq_true g])]; rfl
    · rw [if_neg (fun t => g t.2), List.find?_cons_of_neg (by rw [hok, decide_eq_false g]; simp)]; rfl
  · rw [if_neg (fun t => h0 t.1), List.find?_cons_of_neg (by rw [ok_out (fun t => h0 t.1)]; simp)]; rfl
/-- A control's form, as the program asks: by any function of names. -/
def frmP (l : List Nd) (f : ByteArray → Int) (k : Int) : Int := if hasA (nd l k.toNat) oForm = true ∧ topP l k = 0 then firB l is30 [f (fndS (nd l k.toNat).attrs oForm)] else abvP l is30 (fun _ _ => true) k
theorem frm_is {l : List Nd} (hR : Right l) {k : Int} (h0 : 0 ≤ k) (hk : k < (l.length : Int)) : frmP l (namedP l) k = formC l k := by
  unfold frmP formC
  rw [said_is hR, abv_form hR _ h0 hk (Nat.le_refl _)]
theorem form_pos {l : List Nd} (hR : Right l) {k : Int} (h0 : 0 ≤ k) (hk : k < (l.length : Int)) (hb : belK (kI l k) = true) : formP l k = formC l k := by
  unfold formP
  rw [if_pos]
  refine ⟨?_, ?_⟩
  · unfold hasN; rw [decide_eq_true ⟨h0, hk⟩, right_is.2 hR]; rfl
  · unfold belongs; rw [dec_beq]; exact hb
/-- What the form's own id tells, and no other one. -/
def ownId (l : List Nd) (f : Int) : ByteArray := fndS (nd l f.toNat).attrs idT
def nmdP (l : List Nd) (f : Int) (s : ByteArray) : Int := if s = ownId l f then namedP l (ownId l f) else -1
theorem named_id {l : List Nd} {s : ByteArray} {f : Int} (e : namedP l s = f) (h : 0 ≤ f) : ownId l f = s := by
  unfold namedP at e
  split at e
  · omega
  · cases q : (orderP l 0).find? (hasId l s) with
    | none => rw [q] at e; have e : (-1 : Int) = f := e; omega
    | some x =>
      rw [q] at e
      have e : x = f := e
      subst e
      have := List.find?_some q
      unfold hasId at this
      have := of_decide_eq_true this
      unfold attrP at this
      unfold ownId fndS
      cases g : findA (nd l x.toNat).attrs idT with
      | none => rw [g] at this; cases this
      | some i => rw [g] at this; exact Option.some.inj this
theorem frm_own {l : List Nd} (hR : Right l) {f k : Int} (hf : 0 ≤ f) (h0 : 0 ≤ k) (hk : k < (l.length : Int)) : (frmP l (nmdP l f) k = f) ↔ formC l k = f := by
  rw [← frm_is hR h0 hk]
  unfold frmP
  by_cases g : hasA (nd l k.toNat) oForm = true ∧ topP l k = 0
  · rw [if_pos g, if_pos g]
    generalize fndS (nd l k.toNat).attrs oForm = s
    unfold nmdP
    by_cases e : s = ownId l f
    · rw [if_pos e, ← e]
    · rw [if_neg e]
      constructor
      · intro t
        have : firB l is30 [-1] = -1 := by unfold firB; rw [List.find?_cons_of_neg (by rw [ok_out (by omega)]; simp)]; rfl
        omega
      · intro t
        exfalso
        apply e
        unfold firB at t
        by_cases q : okB l is30 (namedP l s) = true
        · rw [List.find?_cons_of_pos q] at t
          have t : namedP l s = f := t
          exact (named_id t hf).symm
        · rw [List.find?_cons_of_neg q] at t
          have t : (-1 : Int) = f := t
          omega
  · rw [if_neg g, if_neg g]
/-- Which nodes the program takes away from a form's. -/
def goneB (l : List Nd) (q : Int → Bool) (f k : Int) : Bool := !okB l q k || (frmP l (nmdP l f) k != f)
def ownedP (l : List Nd) (q : Int → Bool) (f : Int) : List Int := (orderP l (topP l f)).filter fun k => !goneB l q f k
theorem gone_is {l : List Nd} (hR : Right l) {q : Int → Bool} {f k : Int} (hf : 0 ≤ f) (h0 : 0 ≤ k) (hk : k < (l.length : Int)) (hq : ∀ k, q k = true → belK k = true) : (!goneB l q f k) = (q (kI l k) && decide (formP l k = f)) := by
  unfold goneB
  rw [ok_in ⟨h0, hk⟩]
  cases e : q (kI l k) with
  | false => rfl
  | true =>
    rw [form_pos hR h0 hk (hq _ e)]
    have := frm_own hR hf h0 hk
    by_cases g : formC l k = f
    · rw [decide_eq_true g, this.2 g]; simp
    · rw [decide_eq_false g]
      have h2 : ¬ frmP l (nmdP l f) k = f := fun t => g (this.1 t)
      have h3 : (frmP l (nmdP l f) k != f) = true := by rw [bne_iff_ne]; exact h2
      rw [h3]; rfl
theorem filter_in {α : Type} {p q : α → Bool} : ∀ {xs : List α}, (∀ x ∈ xs, p x = q x) → xs.filter p = xs.filter q
  | [], _ => rfl
  | x :: xs, h => by
    rw [List.filter_cons, List.filter_cons, h x List.mem_cons_self, filter_in (fun y hy => h y (List.mem_cons_of_mem _ hy))]
theorem isK_in {l : List Nd} {f k : Int} (h : isK l f k = true) : Right l ∧ 0 ≤ f ∧ f < (l.length : Int) := by
  unfold isK at h
  rw [Bool.and_eq_true] at h
  have h := h.1
  unfold hasN at h
  rw [Bool.and_eq_true, decide_eq_true_eq] at h
  exact ⟨right_is.1 h.2, h.1⟩
theorem owned_in {l : List Nd} {q : Int → Bool} {f : Int} (h : isK l f 30 = true) (hq : ∀ k, q k = true → belK k = true) : ownedP l q f = (orderP l (topP l f)).filter fun k => q (kI l k) && decide (formP l k = f) := by
  obtain ⟨hR, f0, f1⟩ := isK_in h
  have tr := top_rng hR f0 f1
  exact filter_in (fun x hx => by
    have := (order_mem hR tr.1 tr.2 x).1 hx
    exact gone_is hR f0 this.1 this.2.1 hq)
theorem list_bel {k : Int} (h : listB k = true) : belK k = true := by unfold belK; rw [h]; rfl
theorem fire_bel {k : Int} (h : fireB k = true) : belK k = true := by
  unfold fireB at h
  have h := of_decide_eq_true h
  unfold belK listB
  rcases h with rfl | rfl | rfl <;> rfl
theorem elements_is {l : List Nd} {f : Int} : elementsP l f = if isK l f 30 = true then ownedP l listB f else [] := by
  unfold elementsP
  by_cases h : isK l f 30 = true
  · rw [if_pos h, if_pos h, owned_in h (fun k => list_bel)]; rfl
  · rw [if_neg h, if_neg h]
theorem find_filter {α : Type} {p q : α → Bool} : ∀ {xs : List α}, (∀ x ∈ xs, p x = true → q x = true) → (xs.filter p).find? q = xs.find? p
  | [], _ => rfl
  | x :: xs, h => by
    have ih := find_filter (p := p) (q := q) (xs := xs) (fun y hy => h y (List.mem_cons_of_mem _ hy))
    by_cases e : p x = true
    · rw [List.filter_cons_of_pos e, List.find?_cons_of_pos (h x List.mem_cons_self e), List.find?_cons_of_pos e]
    · rw [List.filter_cons_of_neg e, List.find?_cons_of_neg e, ih]
theorem default_is {l : List Nd} {f : Int} : defaultP l f = if isK l f 30 = true then firB l fireB (ownedP l fireB f) else -1 := by
  unfold defaultP
  by_cases h : isK l f 30 = true
  · rw [if_pos h, if_pos h, owned_in h (fun k => fire_bel)]
    obtain ⟨hR, f0, f1⟩ := isK_in h
    have tr := top_rng hR f0 f1
    unfold firB
    rw [find_filter]
    · rfl
    · intro x hx hp
      have := (order_mem hR tr.1 tr.2 x).1 hx
      rw [Bool.and_eq_true] at hp
      rw [ok_in ⟨this.1, this.2.1⟩]
      exact hp.1
  · rw [if_neg h, if_neg h]
theorem find_same {α : Type} {p q : α → Bool} : ∀ {xs : List α}, (∀ x ∈ xs, p x = q x) → xs.find? p = xs.find? q
  | [], _ => rfl
  | x :: xs, h => by
    have ih := find_same (p := p) (q := q) (xs := xs) (fun y hy => h y (List.mem_cons_of_mem _ hy))
    have e := h x List.mem_cons_self
    by_cases g : p x = true
    · rw [List.find?_cons_of_pos g, List.find?_cons_of_pos (by rw [← e]; exact g)]
    · rw [List.find?_cons_of_neg g, List.find?_cons_of_neg (by rw [← e]; exact g), ih]
/-- In a node's way up each height is met once. -/
theorem anc_once {l : List Nd} (hR : Right l) : ∀ (d : Nat) {k a b : Int}, 0 ≤ k → k < (l.length : Int) → hgt l k ≤ d → a ∈ anc l k → b ∈ anc l k → hgt l a = hgt l b → a = b
  | 0, k, a, b, h0, hk, hd, _, _, _ => by
    have := hgt_up (hR.ende hk) (by omega)
    omega
  | d + 1, k, a, b, h0, hk, hd, ha, hb, e => by
    have hE := hR.ende hk
    have hh := hgt_up hE (by omega)
    have pr := hR.up (by omega) hk
    rw [anc_up hE (by omega), List.mem_cons] at ha hb
    have low : ∀ x, x ∈ anc l (parI l k) → hgt l x < hgt l k := by
      intro x hx
      have := anc_hgt hR _ pr.2 (Nat.le_refl _) hx
      omega
    rcases ha with rfl | ha
    · rcases hb with rfl | hb
      · rfl
      · have := low b hb; omega
    · rcases hb with rfl | hb
      · have := low a ha; omega
      · by_cases q : parI l k < 0
        · rw [anc_neg q] at ha; cases ha
        · exact anc_once hR d (by omega) pr.2 (by omega) ha hb e
theorem anc_par {l : List Nd} (hR : Right l) : ∀ (d : Nat) {k : Int}, 0 ≤ k → k < (l.length : Int) → hgt l k ≤ d → ∀ f : Int, 0 ≤ f → (f ∈ anc l (parI l k) ↔ ∃ x ∈ anc l k, parI l x = f)
  | 0, k, h0, hk, hd => by
    have := hgt_up (hR.ende hk) (by omega)
    omega
  | d + 1, k, h0, hk, hd => fun f hf => by
    have hE := hR.ende hk
    have hh := hgt_up hE (by omega)
    have pr := hR.up (by omega) hk
    rw [anc_up hE (by omega)]
    by_cases q : parI l k < 0
    · rw [anc_neg q]
      constructor
      · intro t; cases t
      · rintro ⟨x, hx, e⟩
        rw [List.mem_singleton] at hx
        subst hx; omega
    · have ih := anc_par hR d (k := parI l k) (by omega) pr.2 (by omega) f hf
      rw [anc_up (hR.ende pr.2) q, List.mem_cons, ih, ← anc_up (hR.ende pr.2) q]
      constructor
      · rintro (t | ⟨x, hx, e⟩)
        · exact ⟨k, List.mem_cons_self, t.symm⟩
        · exact ⟨x, List.mem_cons_of_mem _ hx, e⟩
      · rintro ⟨x, hx, e⟩
        rcases List.mem_cons.1 hx with rfl | hx
        · exact .inl e.symm
        · exact .inr ⟨x, hx, e⟩
/-- Whether a fieldset holds a child to be disabled. -/
def hldB (l : List Nd) (set b : Int) : Bool := hasA (nd l set.toNat) oDis && (b != firB l is34 (nd l set.toNat).kids)
theorem leg_is {l : List Nd} (hR : Right l) {f : Int} (h0 : 0 ≤ f) (hf : f < (l.length : Int)) : firB l is34 (nd l f.toNat).kids = (legP l f).getD (-1) := by
  unfold firB legP
  rw [find_same]
  intro x hx
  have := hR.kid f.toNat (by omega) x hx
  rw [ok_in ⟨this.1, this.2.1⟩]
  unfold is34 kI kN nmI
  rw [← dec_beq, Bool.eq_iff_iff, decide_eq_true_iff, decide_eq_true_iff]
  exact kOf_leg
theorem abv_some {l : List Nd} {q : Int → Bool} {h : Int → Int → Bool} {k : Int} : (abvP l q h k != -1) = (anc l k).any (fun x => okB l q (parI l x) && h (parI l x) x) := by
  unfold abvP
  cases e : (anc l k).find? (fun x => okB l q (parI l x) && h (parI l x) x) with
  | none =>
    have := List.find?_eq_none.1 e
    symm
    rw [List.any_eq_false.2 this]; rfl
  | some x =>
    have h1 := List.find?_some e
    have h2 := List.mem_of_find?_eq_some e
    rw [List.any_eq_true.2 ⟨x, h2, h1⟩]
    show (parI l x != -1) = true
    rw [Bool.and_eq_true] at h1
    have : 0 ≤ parI l x := by
      apply Classical.byContradiction
      intro t
      rw [ok_out (fun s => t s.1)] at h1
      cases h1.1
    rw [bne_iff_ne]; omega
def disQ (l : List Nd) (i : Int) : Bool := hasA (nd l i.toNat) oDis || (abvP l is29 (hldB l) i != -1)
theorem disabled_is {l : List Nd} {i : Int} : disabledP l i = (okB l disK i && rightB l && disQ l i) := by
  unfold disabledP
  by_cases hN : hasN l i = true
  · have hN2 := hN
    unfold hasN at hN2
    rw [Bool.and_eq_true, decide_eq_true_eq] at hN2
    have hR := right_is.1 hN2.2
    have h0 := hN2.1.1
    have hi := hN2.1.2
    rw [hN, ok_in hN2.1, hN2.2, Bool.true_and, Bool.and_true]
    have e1 : (subB (kI l i) || decide (kI l i = 29)) = disK (kI l i) := by unfold disK; rw [dec_beq]
    rw [e1]
    congr 1
    unfold disQ
    congr 1
    rw [abv_some, Bool.eq_iff_iff, List.any_eq_true, List.any_eq_true]
    constructor
    · rintro ⟨f, hf, hb⟩
      have hf : f < l.length := List.mem_range.1 hf
      unfold barsB at hb
      rw [Bool.and_eq_true, Bool.and_eq_true, Bool.and_eq_true, decide_eq_true_eq] at hb
      obtain ⟨b1, b2, b3, b4⟩ := hb
      unfold withinB at b3
      rw [List.contains_iff_mem] at b3
      obtain ⟨x, hx, ex⟩ := (anc_par hR _ h0 hi (Nat.le_refl _) (f : Int) (by omega)).1 b3
      refine ⟨x, hx, ?_⟩
      rw [ex, Bool.and_eq_true]
      refine ⟨?_, ?_⟩
      · rw [ok_in ⟨by omega, by omega⟩]
        unfold is29 kI kN
        rw [← dec_beq, decide_eq_true_iff, Int.toNat_natCast]
        exact kOf_set.2 b1
      · unfold hldB
        rw [Int.toNat_natCast, b2, Bool.true_and]
        have lg := leg_is hR (f := (f : Int)) (by omega) (by omega)
        rw [Int.toNat_natCast] at lg
        rw [lg, bne_iff_ne]
        have xr : 0 ≤ x ∧ x < (l.length : Int) := anc_range l (fun i hi => (hR.par i hi).2) _ _ hi x hx
        cases el : legP l (f : Int) with
        | none => show x ≠ -1; omega
        | some k =>
          show x ≠ k
          intro t
          subst t
          unfold spareP at b4
          rw [el] at b4
          have : (decide (x = i) || withinB l i x) = true := by
            rw [anc_up (hR.ende hi) (by omega), List.mem_cons] at hx
            rw [Bool.or_eq_true, decide_eq_true_eq]
            unfold withinB
            rw [List.contains_iff_mem]
            exact hx
          have b4 : (!(decide (x = i) || withinB l i x)) = true := b4
          rw [this] at b4; cases b4
    · rintro ⟨x, hx, hb⟩
      rw [Bool.and_eq_true] at hb
      have xr : 0 ≤ x ∧ x < (l.length : Int) := anc_range l (fun i hi => (hR.par i hi).2) _ _ hi x hx
      have fr : 0 ≤ parI l x ∧ parI l x < (l.length : Int) := by
        apply Classical.byContradiction
        intro t
        rw [ok_out t] at hb
        cases hb.1
      obtain ⟨f, ef⟩ : ∃ f : Nat, parI l x = (f : Int) := ⟨(parI l x).toNat, by omega⟩
      rw [ef] at hb fr
      have hf : f < l.length := by omega
      refine ⟨f, List.mem_range.2 hf, ?_⟩
      obtain ⟨b1, b2⟩ := hb
      rw [ok_in fr] at b1
      unfold is29 kI kN at b1
      rw [← dec_beq, decide_eq_true_iff, Int.toNat_natCast] at b1
      unfold hldB at b2
      rw [Bool.and_eq_true] at b2
      obtain ⟨b2, b3⟩ := b2
      have lg := leg_is hR (f := (f : Int)) (by omega) (by omega)
      rw [lg, bne_iff_ne] at b3
      rw [Int.toNat_natCast] at b2
      unfold barsB
      rw [Bool.and_eq_true, Bool.and_eq_true, Bool.and_eq_true, decide_eq_true_eq]
      refine ⟨kOf_set.1 b1, b2, ?_, ?_⟩
      · unfold withinB
        rw [List.contains_iff_mem]
        exact (anc_par hR _ h0 hi (Nat.le_refl _) (f : Int) (by omega)).2 ⟨x, hx, ef⟩
      · unfold spareP
        cases el : legP l (f : Int) with
        | none => rfl
        | some k =>
          rw [el] at b3
          have b3 : x ≠ k := b3
          show (!(decide (k = i) || withinB l i k)) = true
          have : ¬ ((decide (k = i) || withinB l i k) = true) := by
            rw [Bool.or_eq_true, decide_eq_true_eq]
            intro t
            have ki : k ∈ anc l i := by
              rw [anc_up (hR.ende hi) (by omega), List.mem_cons]
              unfold withinB at t
              rw [List.contains_iff_mem] at t
              exact t
            have kk := List.mem_of_find?_eq_some (by unfold legP at el; exact el)
            rw [Int.toNat_natCast] at kk
            have kp := hR.kid f hf k kk
            have kr : 0 ≤ k ∧ k < (l.length : Int) := ⟨kp.1, kp.2.1⟩
            have e1 := hgt_up (hR.ende kr.2) (by omega)
            have e2 := hgt_up (hR.ende xr.2) (by omega)
            have kp3 : parI l k = (f : Int) := kp.2.2
            rw [kp3] at e1
            rw [ef] at e2
            exact b3 (anc_once hR _ h0 hi (Nat.le_refl _) hx ki (by omega))
          cases g : (decide (k = i) || withinB l i k) with
          | true => exact absurd g this
          | false => rfl
  · have : (okB l disK i && rightB l) = false := by
      unfold hasN at hN
      unfold okB
      revert hN
      cases decide (0 ≤ i ∧ i < (l.length : Int)) <;> cases rightB l <;> simp
    rw [this]
    have hF : hasN l i = false := by revert hN; cases hasN l i <;> simp
    rw [hF]; rfl
end Go.Proofs.YtoejiojkpbibcaaDoor

namespace Go.Proofs.YtoejiojkpbibcaaDoor
open Go.RowKit
set_option maxHeartbeats 4000000 in
set_option maxRecDepth 100000 in
theorem byType1_any (x : ByteArray × ByteArray) (W : World) :
    Calls Tryd.prog 87 #[.agg #[.string x.1, .string x.2]] W fun e w' => e = .returned (.bool (isN tyS x)) ∧ Below W.heap.size W w' := by
  have E : Hid ((x.1.toList == [116, 121, 112, 101]) = isN tyS x) := lit_dec x.1 [116, 121, 112, 101]
  generalize isN tyS x = r at *
  generalize x.1 = a at *
  generalize x.2 = b at *
  go_enter Tryd.func87, Tryd.ntmps87
  go_wp2_with fail
  go_ret
  exact ⟨ret_bool E.out, (Below.refl _ W).alloc (Nat.le_refl _) _⟩
theorem entersBy : ∀ args w, (callFunc 87 args).run Tryd.prog w = .ok (.enter 87 args) w := Go.Proofs.enters_of Tryd.func87 (by kernel_rfl) rfl
theorem by_pred (w : World) : PredA 87 #[] (isN tyS) w := fun W x _ => byType1_any x W
set_option maxHeartbeats 4000000 in
set_option maxRecDepth 100000 in
theorem byType_any (n : Nd) (va vk : Value) (f l : Nat) (z : Int) (w : World) (hT : KTabs w) (ha : AttrsV w va n.attrs) (hl : n.attrs.length ≤ 4398046511104) (hs : ∀ a ∈ n.attrs, a.2.size ≤ 140737488351232) :
    Calls Tryd.prog 81 #[.agg #[.string n.name, .string n.text, va, .int .i64 n.parent, vk], .int .i64 (f : Int), .int .i64 (l : Int), .int .i64 z] w fun e w' => e = .returned (.int .i64 (byT (tyOf n.attrs) f l z)) ∧ Below w.heap.size w w' := by
  have B0 : Hid (Below w.heap.size w (w.alloc (.cells #[.string n.name, .string n.text, va, .int .i64 n.parent, vk] 35))) := (Below.refl _ w).alloc (Nat.le_refl _) _
  have k0 : (w.alloc (.cells #[.string n.name, .string n.text, va, .int .i64 n.parent, vk] 35)).cell? ⟨w.heap.size, 0, none⟩ = some (.string n.name) := by simp
  have k1 : (w.alloc (.cells #[.string n.name, .string n.text, va, .int .i64 n.parent, vk] 35)).cell? ⟨w.heap.size, 1, none⟩ = some (.string n.text) := by simp
  have k2 : (w.alloc (.cells #[.string n.name, .string n.text, va, .int .i64 n.parent, vk] 35)).cell? ⟨w.heap.size, 2, none⟩ = some (va) := by simp
  have k3 : (w.alloc (.cells #[.string n.name, .string n.text, va, .int .i64 n.parent, vk] 35)).cell? ⟨w.heap.size, 3, none⟩ = some (.int .i64 n.parent) := by simp
  have k4 : (w.alloc (.cells #[.string n.name, .string n.text, va, .int .i64 n.parent, vk] 35)).cell? ⟨w.heap.size, 4, none⟩ = some (vk) := by simp
  have HI := hide (indexFuncA_any va n.attrs (isN tyS) 87 #[] entersBy (w.alloc (.cells #[.string n.name, .string n.text, va, .int .i64 n.parent, vk] 35)) (ha.below B0.out) (by_pred _) hl)
  have HTW := hide hT
  have AV := hide (ha.below B0.out)
  have FE : Hid (n.attrs.findIdx? (isN tyS) = findA n.attrs tyS) := rfl
  rw [FE.out] at HI
  obtain ⟨p, c, rfl, hv⟩ := ha
  cases hf : findA n.attrs tyS with
  | none =>
    have E : Hid (byT (tyOf n.attrs) f l z = z) := by show _ = _; unfold tyOf; rw [hf]; rfl
    rw [hf] at HI
    have ev : findV none = -1 := rfl
    rw [ev] at HI
    clear hf hv hs hl hT FE ev
    go_enter Tryd.func81, Tryd.ntmps81
    go_wp2_with fail
    generalize w.alloc (.cells #[.string n.name, .string n.text, .slice p n.attrs.length c, .int .i64 n.parent, vk] 35) = w0 at *
    obtain ⟨nb, hnb⟩ : ∃ nb, Hid (w.heap.size = nb) := ⟨_, show _ = _ from rfl⟩
    refine HI.out.mono ?_
    rintro e w1 ⟨rfl, b1⟩
    go_wp2_with fail
    go_ret
    exact ⟨ret_int E.out.symm, chain B0.out b1⟩
  | some i =>
    obtain ⟨hi, _, _⟩ := List.findIdx?_eq_some_iff_getElem.1 (show n.attrs.findIdx? (isN tyS) = some i from hf)
    obtain ⟨t, ht⟩ : ∃ t, Hid (n.attrs[i].2 = t) := ⟨_, show _ = _ from rfl⟩
    have E : Hid (byT (tyOf n.attrs) f l z = kInt (seekR (lowS t) f l 30 0) z) := by
      show _ = _
      unfold tyOf
      rw [hf, ← ht.out]
      show kInt (seekR (lowS (n.attrs.getD i at0).2) f l 30 0) z = _
      rw [show n.attrs.getD i at0 = n.attrs[i] by simp [List.getD, hi]]
    rw [hf] at HI
    have ev : findV (some i) = (i : Int) := rfl
    rw [ev] at HI
    have i0 : (0 : Int) ≤ (i : Int) := by omega
    have i1 : (i : Int) < (n.attrs.length : Int) := by omega
    have i2 : ¬ (i : Int) < 0 := by omega
    have ts := hs _ (List.getElem_mem hi)
    rw [ht.out] at ts
    have HL := hide (fun W => lower_any t W (by unfold maxLen; omega))
    obtain ⟨b, o, rfl, hv2⟩ : ∃ b o, p = some ⟨b, o, none⟩ ∧ ∀ i (h : i < n.attrs.length), w.cell? ⟨b, o + i * 2, none⟩ = some (.string n.attrs[i].1) ∧ w.cell? ⟨b, o + i * 2 + 1, none⟩ = some (.string n.attrs[i].2) := by
      rcases hv with t | t
      · rw [t] at hi; simp at hi
      · exact t
    have c1 := cell_below (hv2 i hi).2 B0.out
    rw [ht.out] at c1
    obtain ⟨A, hA⟩ : ∃ A, Hid (seekR (lowS t) f l 30 0 = A) := ⟨_, show _ = _ from rfl⟩
    rw [hA.out] at E
    clear hf hv hv2 hs hT FE ev
    go_enter Tryd.func81, Tryd.ntmps81
    go_wp2_with fail
    generalize w.alloc (.cells #[.string n.name, .string n.text, .slice (some ⟨b, o, none⟩) n.attrs.length c, .int .i64 n.parent, vk] 35) = w0 at *
    obtain ⟨nb, hnb⟩ : ∃ nb, Hid (w.heap.size = nb) := ⟨_, show _ = _ from rfl⟩
    refine HI.out.mono ?_
    rintro e w1 ⟨rfl, b1⟩
    have B1 := hide (chain B0.out b1)
    have m2 := cell_below k2 b1
    have c1' := cell_below c1 b1
    clear b1 k0 k1 k2 k3 k4 c1
    go_wp2_with fail
    refine (HL.out _).mono ?_
    rintro e w2 ⟨rfl, b2⟩
    have B2 := hide (chain B1.out b2)
    have T2 := HTW.out.below B2.out
    obtain ⟨CS, hld, hin, hix⟩ := load_types w2 T2
    have HIX := hide hix
    have HLD := hide hld
    have HIN := hide hin
    clear hix hld hin
    clear T2 m2 c1' b2
    generalize lowS t = s at *
    go_upto_region 5 with fail
    refine wp_region_lit ?_
    refine wpList_load_mid rfl 72 _ rfl 1 0 rfl CS _ HLD.out Tryd.underlying72 rfl HIN.out ?_
    generalize CS.toArray = CA at *
    go_wp2_with fail
    go_loop [27] (fun iv => ∃ k : Nat, k ≤ 30 ∧ iv = .int .i64 k ∧ Hid (seekR s f l (30 - k) k = A)) (fun iv => 30 - (intOf iv).toNat)
    case atStart => exact ⟨0, Nat.zero_le _, rfl, hA⟩
    case round =>
      obtain ⟨k, hk, rfl, hn⟩ := hrel
      clear hA
      by_cases hlt : k < 30
      · have hix := HIX.out k hlt w2
        have HB := hide (between_any (k : Int) (f : Int) (l : Int))
        have HIT := hide (fun q1 q2 => seek_hit hlt hn.out q1 q2)
        have MISS := hide (fun q => seek_miss hlt hn.out q)
        have kk : (k : Int) < 30 := by omega
        have TB := hide (txt_beq (typeN k) s)
        cases hb : btwB (k : Int) (f : Int) (l : Int) with
        | false =>
          rw [hb] at HB
          have N := hide (MISS.out (.inl hb))
          clear hb HIT MISS hn
          generalize typeN k = x at *
          go_wp2_with fail
          refine (HB.out _).mono ?_
          rintro e u ⟨rfl, hu⟩
          obtain rfl : w2 = u := hu.symm
          go_wp2_with fail
          go_round
          case rel => exact ⟨k + 1, by omega, by go_num, N⟩
          case measure => simp [intOf]; omega
        | true =>
          rw [hb] at HB
          by_cases he : typeN k = s
          · have q : ((typeN k).toList == s.toList) = true := by rw [TB.out]; exact decide_eq_true he
            have N := hide (HIT.out hb he)
            clear hb HIT MISS hn he
            generalize typeN k = x at *
            go_wp2_with fail
            refine (HB.out _).mono ?_
            rintro e u ⟨rfl, hu⟩
            obtain rfl : w2 = u := hu.symm
            go_wp2_with fail
            go_ret
            exact ⟨by rw [E.out, N.out]; rfl, B2.out⟩
          · have q : ((typeN k).toList == s.toList) = false := by rw [TB.out]; exact decide_eq_false he
            have N := hide (MISS.out (.inr he))
            clear hb HIT MISS hn he
            generalize typeN k = x at *
            go_wp2_with fail
            refine (HB.out _).mono ?_
            rintro e u ⟨rfl, hu⟩
            obtain rfl : w2 = u := hu.symm
            go_wp2_with fail
            go_round
            case rel => exact ⟨k + 1, by omega, by go_num, N⟩
            case measure => simp [intOf]; omega
      · obtain rfl : k = 30 := by omega
        have N : Hid (A = none) := hn.out.symm
        clear hn hlt
        go_wp2_with fail
        go_ret
        exact ⟨by rw [E.out, N.out]; rfl, B2.out⟩

end Go.Proofs.YtoejiojkpbibcaaDoor
