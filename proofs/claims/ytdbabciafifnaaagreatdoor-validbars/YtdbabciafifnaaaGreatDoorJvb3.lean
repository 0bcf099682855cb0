/- The document's Right of layer 10. The document's Has, Within, Attr, Top, Up of layer 10. -/
import Derived.Test.YtdbabciafifnaaaGreatDoorJvb4

namespace Go.Proofs.YtdbabciafifnaaaGreatDoor
open Go.RowKit
set_option maxRecDepth 100000
/-- Lengths that a machine has. -/
structure NdSz (n : Nd) : Prop where
  name : n.name.size ≤ maxLen
  text : n.text.size ≤ maxLen
  attr : ∀ a ∈ n.attrs, a.1.size ≤ maxLen ∧ a.2.size ≤ maxLen
  attrs : n.attrs.length ≤ 4398046511104
  kids : n.kids.length ≤ 17592186044416
  tx : ∀ a ∈ n.attrs, a.2.size ≤ 140737488351232
structure DocSz (l : List Nd) : Prop where
  len : l.length ≤ 1599289640354
  nds : ∀ n ∈ l, NdSz n
theorem nd_at {l : List Nd} {i : Nat} (h : i < l.length) : nd l i = l[i] := by unfold nd; simp [List.getD, h]
theorem right_len {l : List Nd} (h : ¬ (1 ≤ l.length ∧ l.length ≤ 400)) : rightB l = false := by unfold rightB; rw [decide_eq_false h]; rfl
theorem right_head {l : List Nd} (h : (nd l 0).name.size = 0 ∨ ¬ (nd l 0).parent = -1) : rightB l = false := by
  unfold rightB
  rcases h with h | h
  · rw [h]; simp
  · rw [show ((nd l 0).parent == -1) = false by rw [beq_eq_false_iff_ne]; exact h]; simp
theorem right_node {l : List Nd} {i : Nat} (hi : i < l.length) (h : nodeOk l i = false) : rightB l = false := by
  have : (List.range l.length).all (nodeOk l) = false := by
    rw [List.all_eq_false]
    exact ⟨i, List.mem_range.2 hi, by rw [h]; simp⟩
  unfold rightB
  rw [this]; simp
theorem right_climb {l : List Nd} {i : Nat} (hi : i < l.length) (h : ¬ climb l (l.length + 1) i < 0) : rightB l = false := by
  have : ((List.range l.length).all fun i => decide (climb l (l.length + 1) i < 0)) = false := by
    rw [List.all_eq_false]
    exact ⟨i, List.mem_range.2 hi, by rw [decide_eq_false h]; simp⟩
  unfold rightB
  rw [this]; simp
theorem right_yes {l : List Nd} (h1 : 1 ≤ l.length ∧ l.length ≤ 400) (h2 : ¬ (nd l 0).name.size = 0) (h3 : (nd l 0).parent = -1) (h4 : ∀ i, i < l.length → nodeOk l i = true) (h5 : ∀ i : Nat, i < l.length → climb l (l.length + 1) i < 0) : rightB l = true := by
  unfold rightB
  rw [decide_eq_true h1, h3]
  have e2 : ((nd l 0).name.size == 0) = false := by rw [beq_eq_false_iff_ne]; exact h2
  have e4 : (List.range l.length).all (nodeOk l) = true := List.all_eq_true.2 fun i hi => h4 i (List.mem_range.1 hi)
  have e5 : ((List.range l.length).all fun i => decide (climb l (l.length + 1) i < 0)) = true := List.all_eq_true.2 fun i hi => decide_eq_true (h5 i (List.mem_range.1 hi))
  rw [e2, e4, e5]; rfl
/-- A node among the others, by its parts. -/
theorem nodeOk_at {l : List Nd} {i : Nat} (h : i < l.length) : nodeOk l i = (aloneB l[i] && (decide (-1 ≤ l[i].parent ∧ l[i].parent < l.length) && ((decide (l[i].parent < 0) || cntI (nd l l[i].parent.toNat).kids i == 1) && l[i].kids.all (kidOk l i)))) := by
  unfold nodeOk
  rw [nd_at h]
theorem kid_no {l : List Nd} {i : Nat} {ks : List Int} {k : Nat} (hk : k < ks.length) (h : kidOk l i ks[k] = false) : ks.all (kidOk l i) = false := by
  rw [List.all_eq_false]
  exact ⟨ks[k], List.getElem_mem _, by rw [h]; simp⟩
theorem kid_all {l : List Nd} {i : Nat} {ks : List Int} (h : ∀ k (_ : k < ks.length), kidOk l i ks[k] = true) : ks.all (kidOk l i) = true := by
  rw [List.all_eq_true]
  intro c hc
  obtain ⟨k, hk, rfl⟩ := List.getElem_of_mem hc
  exact h k hk
theorem kid_low {l : List Nd} {i : Nat} {c : Int} (h : ¬ (0 ≤ c ∧ c < l.length)) : kidOk l i c = false := by unfold kidOk; rw [decide_eq_false h]; rfl
theorem kid_at {l : List Nd} {i m : Nat} (h : m < l.length) : kidOk l i (m : Int) = (l[m].parent == (i : Int)) := by
  unfold kidOk parI
  rw [decide_eq_true (by omega), Bool.true_and, Int.toNat_natCast, nd_at h]
theorem climb_done {l : List Nd} : ∀ (n : Nat) {k : Int}, k < 0 → climb l n k = k
  | 0, _, _ => rfl
  | n + 1, k, h => by show (if k < 0 then k else _) = k; rw [if_pos h]
theorem climb_up {l : List Nd} {n m : Nat} (h : m < l.length) : climb l (n + 1) (m : Int) = climb l n l[m].parent := by
  show (if (m : Int) < 0 then _ else climb l n (parI l m)) = _
  rw [if_neg (by omega)]
  unfold parI
  rw [Int.toNat_natCast, nd_at h]
set_option maxHeartbeats 8000000 in
set_option maxRecDepth 100000 in
theorem refDocRight_any (v : Value) (l : List Nd) (w : World) (hv : NodesV w v l) (hz : DocSz l) :
    Calls Tryz.prog 30 #[v] w fun e w' => e = .returned (.bool (rightB l)) ∧ Below w.heap.size w w' := by
  have hlen := hz.len
  have SZ := hide hz
  clear hz
  by_cases h1 : l.length < 1
  · obtain ⟨p, c, rfl, hv⟩ := hv
    have i1 : (l.length : Int) < 1 := by omega
    have E := hide (right_len (l := l) (by omega))
    clear h1 hv
    go_enter Tryz.func30, Tryz.ntmps30
    go_wp2_with fail
    go_ret
    exact ⟨ret_bool E.out.symm, Below.refl _ _⟩
  have i1 : ¬ (l.length : Int) < 1 := by omega
  by_cases h2 : 400 < l.length
  · obtain ⟨p, c, rfl, hv⟩ := hv
    have i2 : (400 : Int) < (l.length : Int) := by omega
    have E := hide (right_len (l := l) (by omega))
    clear h1 h2 hv
    go_enter Tryz.func30, Tryz.ntmps30
    go_wp2_with fail
    go_ret
    exact ⟨ret_bool E.out.symm, Below.refl _ _⟩
  have i2 : ¬ (400 : Int) < (l.length : Int) := by omega
  have i3 : l.length ≤ 400 := by omega
  have i4 : 0 < l.length := by omega
  have NV := hide hv
  obtain ⟨p, c, rfl, hv⟩ := hv
  rcases hv with hv | ⟨b, o, rfl, hv⟩
  · rw [hv] at i4; simp at i4
  obtain ⟨va0, vk0, hN0⟩ := hv 0 i4
  have c00 := hN0.name
  have c03 := hN0.parent
  rw [show o + 0 * 5 = o by omega] at c00 c03
  by_cases h3 : l[0].name.size = 0
  · have e3 : ((l[0].name.size : Int) == 0) = true := by rw [h3]; rfl
    have E := hide (right_head (l := l) (.inl (by rw [nd_at i4]; exact h3)))
    clear h1 h2 h3 hv NV hN0
    generalize l[0].name = nm at *
    go_enter Tryz.func30, Tryz.ntmps30
    go_wp2_with fail
    go_ret
    exact ⟨ret_bool E.out.symm, Below.refl _ _⟩
  have e3 : ((l[0].name.size : Int) == 0) = false := by rw [beq_eq_false_iff_ne]; omega
  by_cases h4 : l[0].parent = -1
  rotate_left
  · have e4 : (l[0].parent != -1) = true := by rw [bne_iff_ne]; exact h4
    have E := hide (right_head (l := l) (.inr (by rw [nd_at i4]; exact h4)))
    clear h1 h2 h3 h4 hv NV hN0
    generalize l[0].name = nm at *
    generalize l[0].parent = pr at *
    go_enter Tryz.func30, Tryz.ntmps30
    go_wp2_with fail
    go_ret
    exact ⟨ret_bool E.out.symm, Below.refl _ _⟩
  have e4 : (l[0].parent != -1) = false := by rw [bne_eq_false_iff_eq]; exact h4
  have NO := hide (fun i hi q => right_node (l := l) (i := i) hi q)
  have NC := hide (fun i hi q => right_climb (l := l) (i := i) hi q)
  have YES := hide (fun q1 q2 => right_yes (l := l) (by omega) (by rw [nd_at i4]; exact h3) (by rw [nd_at i4]; exact h4) q1 q2)
  have HV := hide hv
  clear h1 h2 h3 h4 hv hN0
  generalize l[0].name = nm at *
  generalize l[0].parent = pr at *
  go_enter Tryz.func30, Tryz.ntmps30
  go_wp2_with fail
  go_loopw [3] (fun iv wr => ∃ j : Nat, j ≤ l.length ∧ iv = .int .i64 j ∧ Hid (∀ m, m < j → nodeOk l m = true) ∧ Below w.heap.size w wr) (fun iv _ => l.length - (intOf iv).toNat)
  case atStart => exact ⟨0, Nat.zero_le _, rfl, fun m q => by omega, Below.refl _ _⟩
  case round =>
    obtain ⟨j, hj, rfl, hd, hb⟩ := hrel
    rename World => wr
    clear c00 c03 e3 e4
    by_cases h : j < l.length
    · have j1 : (j : Int) < (l.length : Int) := by omega
      obtain ⟨va, vk, hN0⟩ := HV.out j h
      have hN := hN0.below hb
      have n0 := hN.name
      have n1 := hN.text
      have n2 := hN.attrs
      have n3 := hN.parent
      have n4 := hN.kids
      have sz := SZ.out.nds l[j] (List.getElem_mem _)
      have HAl := hide (refAlone_any l[j] va vk wr hN.at_ hN.ks sz.attrs ⟨sz.name, sz.text, sz.attr⟩)
      unfold aggN at HAl
      have at1 := nodeOk_at h
      have BAD := NO.out j h
      have HN := hide hN
      clear hN hN0 sz NC YES
      cases k1 : aloneB l[j] with
      | false =>
        rw [k1] at HAl
        rw [k1, Bool.false_and] at at1
        have E := hide (BAD at1)
        clear at1 BAD k1 hd HN
        generalize l[j].name = y1 at *
        generalize l[j].text = y2 at *
        generalize l[j].parent = y3 at *
        go_wp2_with fail
        refine HAl.out.mono ?_
        rintro e u1 ⟨rfl, b1⟩
        go_wp2_with fail
        go_ret
        exact ⟨ret_bool E.out.symm, chain hb b1⟩
      | true =>
        rw [k1] at HAl
        rw [k1, Bool.true_and] at at1
        by_cases k2 : l[j].parent < -1
        · rw [decide_eq_false (by omega), Bool.false_and] at at1
          have E := hide (BAD at1)
          clear at1 BAD k1 hd HN
          generalize l[j].name = y1 at *
          generalize l[j].text = y2 at *
          generalize l[j].parent = y3 at *
          go_wp2_with fail
          refine HAl.out.mono ?_
          rintro e u1 ⟨rfl, b1⟩
          go_wp2_with fail
          go_ret
          exact ⟨ret_bool E.out.symm, chain hb b1⟩
        · by_cases k3 : (l.length : Int) ≤ l[j].parent
          · rw [decide_eq_false (by omega), Bool.false_and] at at1
            have E := hide (BAD at1)
            clear at1 BAD k1 hd HN
            generalize l[j].name = y1 at *
            generalize l[j].text = y2 at *
            generalize l[j].parent = y3 at *
            go_wp2_with fail
            refine HAl.out.mono ?_
            rintro e u1 ⟨rfl, b1⟩
            go_wp2_with fail
            go_ret
            exact ⟨ret_bool E.out.symm, chain hb b1⟩
          · rw [decide_eq_true (by omega), Bool.true_and] at at1
            by_cases k4 : l[j].parent < 0
            · rw [decide_eq_true k4, Bool.true_or, Bool.true_and] at at1
              have KD := hide at1
              clear at1 k1
              generalize l[j].name = y1 at *
              generalize l[j].text = y2 at *
              generalize l[j].parent = y3 at *
              go_wp2_with fail
              refine HAl.out.mono ?_
              rintro e u1 ⟨rfl, b1⟩
              have bb := chain hb b1
              have hN1 := HN.out.below b1
              clear HN HAl n0 n1 n2 n3 n4 b1
              obtain ⟨pk, ck, evk, hks⟩ := hN1.ks
              subst evk
              have c4 := hN1.kids
              have ksz := (SZ.out.nds l[j] (List.getElem_mem _)).kids
              have NXK : (∀ t (_ : t < l[j].kids.length), kidOk l j l[j].kids[t] = true) → Hid (∀ m, m < j + 1 → nodeOk l m = true) := by
                intro q m hm
                rcases Nat.lt_or_ge m j with r | r
                · exact hd.out m r
                · obtain rfl : m = j := by omega
                  rw [KD.out]; exact kid_all q
              have BADK : ∀ t (ht : t < l[j].kids.length), kidOk l j l[j].kids[t] = false → rightB l = false := fun t ht q => BAD (KD.out.trans (kid_no ht q))
              replace NXK := hide NXK
              replace BADK := hide BADK
              clear hd KD BAD hN1
              generalize l[j].kids = ks at *
              go_wp2_with fail
              go_loop [5] (fun kv => ∃ t : Nat, t ≤ ks.length ∧ kv = .int .i64 t ∧ Hid (∀ m (_ : m < ks.length), m < t → kidOk l j ks[m] = true)) (fun kv => ks.length - (intOf kv).toNat)
              case atStart => exact ⟨0, Nat.zero_le _, rfl, fun m _ q => by omega⟩
              case round =>
                obtain ⟨t, ht, rfl, hdk⟩ := hrel
                by_cases h9 : t < ks.length
                · have t1 : (t : Int) < (ks.length : Int) := by omega
                  rcases hks with hks | ⟨kb, ko, rfl, hks⟩
                  · rw [hks] at h9; simp at h9
                  have cc := hks t h9
                  have BK := BADK.out t h9
                  by_cases q1 : ks[t] < 0
                  · have E := hide (BK (kid_low (by omega)))
                    clear BADK NXK hks hdk BK
                    generalize ks[t] = kc at *
                    go_wp2_with fail
                    go_ret
                    exact ⟨ret_bool E.out.symm, bb⟩
                  · by_cases q2 : (l.length : Int) ≤ ks[t]
                    · have E := hide (BK (kid_low (by omega)))
                      clear BADK NXK hks hdk BK
                      generalize ks[t] = kc at *
                      go_wp2_with fail
                      go_ret
                      exact ⟨ret_bool E.out.symm, bb⟩
                    · obtain ⟨m, em⟩ : ∃ m : Nat, ks[t] = (m : Int) := ⟨ks[t].toNat, by omega⟩
                      have hm : m < l.length := by omega
                      obtain ⟨vam, vkm, hNm⟩ := HV.out m hm
                      have cm := cell_below hNm.parent bb
                      have ka := kid_at (l := l) (i := j) hm
                      rw [← em] at ka
                      have m1 : (m : Int) < (l.length : Int) := by omega
                      by_cases q3 : l[m].parent = (j : Int)
                      · have e9 : (l[m].parent != (j : Int)) = false := by rw [bne_eq_false_iff_eq]; exact q3
                        have okt : kidOk l j ks[t] = true := by rw [ka, q3]; simp
                        have hdk' : Hid (∀ x (_ : x < ks.length), x < t + 1 → kidOk l j ks[x] = true) := by
                          intro x hx hxt
                          rcases Nat.lt_or_ge x t with r | r
                          · exact hdk.out x hx r
                          · obtain rfl : x = t := by omega
                            exact okt
                        rw [em] at cc
                        clear BADK NXK hks hdk BK ka q3 okt hNm em q1 q2
                        generalize l[m].parent = pm at *
                        go_wp2_with fail
                        go_round
                        case rel => exact ⟨t + 1, by omega, by go_num, hdk'⟩
                        case measure => simp [intOf]; omega
                      · have e9 : (l[m].parent != (j : Int)) = true := by rw [bne_iff_ne]; exact q3
                        have E := hide (BK (by rw [ka, beq_eq_false_iff_ne]; exact q3))
                        rw [em] at cc
                        clear BADK NXK hks hdk BK ka q3 hNm em q1 q2
                        generalize l[m].parent = pm at *
                        go_wp2_with fail
                        go_ret
                        exact ⟨ret_bool E.out.symm, bb⟩
                · obtain rfl : t = ks.length := by omega
                  have E := NXK.out (fun x hx => hdk.out x hx hx)
                  clear BADK NXK hks hdk
                  go_wp2_with fail
                  go_roundw
                  case rel => exact ⟨j + 1, by omega, by go_num, E, bb⟩
                  case measure => simp [intOf]; omega
            · obtain ⟨pn, epn⟩ : ∃ pn : Nat, l[j].parent = (pn : Int) := ⟨l[j].parent.toNat, by omega⟩
              have hpn : pn < l.length := by omega
              obtain ⟨vap, vkp, hNp⟩ := HV.out pn hpn
              have HNp := hide hNp
              have ksp := (SZ.out.nds l[pn] (List.getElem_mem _)).kids
              rw [decide_eq_false k4, Bool.false_or, epn, Int.toNat_natCast, nd_at hpn] at at1
              rw [epn] at n3 HAl
              have p1 : (pn : Int) < (l.length : Int) := by omega
              by_cases k5 : cntI l[pn].kids j = 1
              · have e5 : (((cntI l[pn].kids j : Nat) : Int) != 1) = false := by rw [k5]; rfl
                rw [show (cntI l[pn].kids j == 1) = true by rw [k5]; rfl, Bool.true_and] at at1
                have KD := hide at1
                have HCt := hide (fun u (bu : Below w.heap.size w u) => refCount_any vkp l[pn].kids (j : Int) u (HNp.out.below bu).ks ksp)
                have C4 := hide (fun u (bu : Below w.heap.size w u) => (HNp.out.below bu).kids)
                clear at1 k1 k2 k3 k4 k5 epn hNp HNp ksp
                generalize cntI l[pn].kids j = cn at *
                generalize l[j].name = y1 at *
                generalize l[j].text = y2 at *
                go_wp2_with fail
                refine HAl.out.mono ?_
                rintro e u1 ⟨rfl, b1⟩
                have bb := chain hb b1
                have hN1 := HN.out.below b1
                have c4p := C4.out u1 bb
                clear HN HAl n0 n1 n2 n3 n4 b1 C4
                go_wp2_with fail
                refine (HCt.out u1 bb).mono ?_
                rintro e u2 ⟨rfl, rfl⟩
                clear c4p HCt
                obtain ⟨pk, ck, evk, hks⟩ := hN1.ks
                subst evk
                have c4 := hN1.kids
                have ksz := (SZ.out.nds l[j] (List.getElem_mem _)).kids
                have NXK : (∀ t (_ : t < l[j].kids.length), kidOk l j l[j].kids[t] = true) → Hid (∀ m, m < j + 1 → nodeOk l m = true) := by
                  intro q m hm
                  rcases Nat.lt_or_ge m j with r | r
                  · exact hd.out m r
                  · obtain rfl : m = j := by omega
                    rw [KD.out]; exact kid_all q
                have BADK : ∀ t (ht : t < l[j].kids.length), kidOk l j l[j].kids[t] = false → rightB l = false := fun t ht q => BAD (KD.out.trans (kid_no ht q))
                replace NXK := hide NXK
                replace BADK := hide BADK
                clear hd KD BAD hN1
                generalize l[j].kids = ks at *
                go_wp2_with fail
                go_loop [5] (fun kv => ∃ t : Nat, t ≤ ks.length ∧ kv = .int .i64 t ∧ Hid (∀ m (_ : m < ks.length), m < t → kidOk l j ks[m] = true)) (fun kv => ks.length - (intOf kv).toNat)
                case atStart => exact ⟨0, Nat.zero_le _, rfl, fun m _ q => by omega⟩
                case round =>
                  obtain ⟨t, ht, rfl, hdk⟩ := hrel
                  by_cases h9 : t < ks.length
                  · have t1 : (t : Int) < (ks.length : Int) := by omega
                    rcases hks with hks | ⟨kb, ko, rfl, hks⟩
                    · rw [hks] at h9; simp at h9
                    have cc := hks t h9
                    have BK := BADK.out t h9
                    by_cases q1 : ks[t] < 0
                    · have E := hide (BK (kid_low (by omega)))
                      clear BADK NXK hks hdk BK
                      generalize ks[t] = kc at *
                      go_wp2_with fail
                      go_ret
                      exact ⟨ret_bool E.out.symm, bb⟩
                    · by_cases q2 : (l.length : Int) ≤ ks[t]
                      · have E := hide (BK (kid_low (by omega)))
                        clear BADK NXK hks hdk BK
                        generalize ks[t] = kc at *
                        go_wp2_with fail
                        go_ret
                        exact ⟨ret_bool E.out.symm, bb⟩
                      · obtain ⟨m, em⟩ : ∃ m : Nat, ks[t] = (m : Int) := ⟨ks[t].toNat, by omega⟩
                        have hm : m < l.length := by omega
                        obtain ⟨vam, vkm, hNm⟩ := HV.out m hm
                        have cm := cell_below hNm.parent bb
                        have ka := kid_at (l := l) (i := j) hm
                        rw [← em] at ka
                        have m1 : (m : Int) < (l.length : Int) := by omega
                        by_cases q3 : l[m].parent = (j : Int)
                        · have e9 : (l[m].parent != (j : Int)) = false := by rw [bne_eq_false_iff_eq]; exact q3
                          have okt : kidOk l j ks[t] = true := by rw [ka, q3]; simp
                          have hdk' : Hid (∀ x (_ : x < ks.length), x < t + 1 → kidOk l j ks[x] = true) := by
                            intro x hx hxt
                            rcases Nat.lt_or_ge x t with r | r
                            · exact hdk.out x hx r
                            · obtain rfl : x = t := by omega
                              exact okt
                          rw [em] at cc
                          clear BADK NXK hks hdk BK ka q3 okt hNm em q1 q2
                          generalize l[m].parent = pm at *
                          go_wp2_with fail
                          go_round
                          case rel => exact ⟨t + 1, by omega, by go_num, hdk'⟩
                          case measure => simp [intOf]; omega
                        · have e9 : (l[m].parent != (j : Int)) = true := by rw [bne_iff_ne]; exact q3
                          have E := hide (BK (by rw [ka, beq_eq_false_iff_ne]; exact q3))
                          rw [em] at cc
                          clear BADK NXK hks hdk BK ka q3 hNm em q1 q2
                          generalize l[m].parent = pm at *
                          go_wp2_with fail
                          go_ret
                          exact ⟨ret_bool E.out.symm, bb⟩
                  · obtain rfl : t = ks.length := by omega
                    have E := NXK.out (fun x hx => hdk.out x hx hx)
                    clear BADK NXK hks hdk
                    go_wp2_with fail
                    go_roundw
                    case rel => exact ⟨j + 1, by omega, by go_num, E, bb⟩
                    case measure => simp [intOf]; omega
              · have e5 : (((cntI l[pn].kids j : Nat) : Int) != 1) = true := by rw [bne_iff_ne]; omega
                rw [show (cntI l[pn].kids j == 1) = false by rw [beq_eq_false_iff_ne]; exact k5, Bool.false_and] at at1
                have E := hide (BAD at1)
                have HCt := hide (fun u (bu : Below w.heap.size w u) => refCount_any vkp l[pn].kids (j : Int) u (HNp.out.below bu).ks ksp)
                have C4 := hide (fun u (bu : Below w.heap.size w u) => (HNp.out.below bu).kids)
                clear at1 k1 k2 k3 k4 k5 epn hNp HNp ksp BAD hd HN
                generalize cntI l[pn].kids j = cn at *
                generalize l[j].name = y1 at *
                generalize l[j].text = y2 at *
                go_wp2_with fail
                refine HAl.out.mono ?_
                rintro e u1 ⟨rfl, b1⟩
                have bb := chain hb b1
                have c4p := C4.out u1 bb
                clear HAl n0 n1 n2 n3 n4 b1 C4
                go_wp2_with fail
                refine (HCt.out u1 bb).mono ?_
                rintro e u2 ⟨rfl, rfl⟩
                go_wp2_with fail
                go_ret
                exact ⟨ret_bool E.out.symm, bb⟩
    · obtain rfl : j = l.length := by omega
      have ALL := hide (fun m hm => hd.out m hm)
      clear hd h NO
      go_wp2_with fail
      go_loop [7] (fun iv => ∃ j : Nat, j ≤ l.length ∧ iv = .int .i64 j ∧ Hid (∀ m : Nat, m < j → climb l (l.length + 1) (m : Int) < 0)) (fun iv => l.length - (intOf iv).toNat)
      case atStart => exact ⟨0, Nat.zero_le _, rfl, fun m q => by omega⟩
      case round =>
        obtain ⟨j, hj, rfl, hd⟩ := hrel
        by_cases h : j < l.length
        · have j1 : (j : Int) < (l.length : Int) := by omega
          have NX : climb l (l.length + 1) (j : Int) < 0 → Hid (∀ m : Nat, m < j + 1 → climb l (l.length + 1) (m : Int) < 0) := by
            intro q m hm
            rcases Nat.lt_or_ge m j with r | r
            · exact hd.out m r
            · obtain rfl : m = j := by omega
              exact q
          replace NX := hide NX
          have BAD := hide (NC.out j h)
          clear hd NC YES
          go_wp2_with fail
          go_loop [8, 9] (fun kv nv => ∃ (t : Nat) (z : Int), t ≤ l.length + 1 ∧ nv = .int .i64 t ∧ kv = .int .i64 z ∧ -1 ≤ z ∧ z < (l.length : Int) ∧ Hid (climb l (l.length + 1 - t) z = climb l (l.length + 1) (j : Int))) (fun _ nv => l.length + 2 - (intOf nv).toNat)
          case atStart => exact ⟨0, (j : Int), Nat.zero_le _, rfl, rfl, by omega, by omega, rfl⟩
          case round =>
            obtain ⟨t, z, ht, rfl, rfl, z1, z2, hc⟩ := hrel
            by_cases q1 : z < 0
            · have z3 : ¬ (0 : Int) ≤ z := by omega
              have E := NX.out (by rw [← hc.out, climb_done _ q1]; exact q1)
              clear NX BAD hc ALL
              go_wp2_with fail
              go_round
              case rel => exact ⟨j + 1, by omega, by go_num, E⟩
              case measure => simp [intOf]; omega
            · obtain ⟨m, rfl⟩ : ∃ m : Nat, z = (m : Int) := ⟨z.toNat, by omega⟩
              have hm : m < l.length := by omega
              by_cases q2 : t ≤ l.length
              · have t1 : (t : Int) ≤ (l.length : Int) := by omega
                obtain ⟨vam, vkm, hNm⟩ := HV.out m hm
                have cm := cell_below hNm.parent hb
                have ok := ALL.out m hm
                rw [nodeOk_at hm, Bool.and_eq_true, Bool.and_eq_true] at ok
                have pb := of_decide_eq_true ok.2.1
                have hc' : Hid (climb l (l.length + 1 - (t + 1)) l[m].parent = climb l (l.length + 1) (j : Int)) := by
                  show _ = _
                  rw [← hc.out, show l.length + 1 - t = (l.length + 1 - (t + 1)) + 1 by omega, climb_up hm]
                have pb1 := pb.1
                have pb2 := pb.2
                clear NX BAD hc ALL ok pb hNm q1
                generalize l[m].parent = pm at *
                go_wp2_with fail
                go_round
                case rel => exact ⟨t + 1, pm, by omega, by go_num, rfl, pb1, pb2, hc'⟩
                case measure => simp [intOf]; omega
              · have t1 : ¬ (t : Int) ≤ (l.length : Int) := by omega
                have t2 : decide ((t : Int) ≤ (l.length : Int)) = false := decide_eq_false t1
                have E : Hid (rightB l = false) := by
                  refine BAD.out ?_
                  rw [← hc.out, show l.length + 1 - t = 0 by omega]
                  first | (show ¬ (m : Int) < 0; omega) | (show (0 : Int) ≤ (m : Int); omega)
                clear NX BAD hc ALL
                go_wp2_with fail
                go_ret
                exact ⟨ret_bool E.out.symm, hb⟩
        · obtain rfl : j = l.length := by omega
          have E := hide (YES.out (fun m hm => ALL.out m hm) (fun m hm => hd.out m hm))
          clear hd NC YES ALL h
          go_wp2_with fail
          go_ret
          exact ⟨ret_bool E.out.symm, hb⟩
end Go.Proofs.YtdbabciafifnaaaGreatDoor

namespace Go.Proofs.YtdbabciafifnaaaGreatDoor
open Go.RowKit
set_option maxRecDepth 100000
set_option maxHeartbeats 1000000 in
theorem refHas_any (v : Value) (l : List Nd) (id : Int) (w : World) (hv : NodesV w v l) (hz : DocSz l) :
    Calls Tryz.prog 14 #[v, .int .i64 id] w fun e w' => e = .returned (.bool (hasN l id)) ∧ Below w.heap.size w w' := by
  have HR := hide (refDocRight_any v l w hv hz)
  obtain ⟨p, c, rfl, hv⟩ := hv
  have hlen := hz.len
  clear hv hz
  unfold hasN
  by_cases h1 : 0 ≤ id
  · by_cases h2 : id < (l.length : Int)
    · rw [decide_eq_true ⟨h1, h2⟩, Bool.true_and]
      generalize rightB l = r at *
      go_enter Tryz.func14, Tryz.ntmps14
      go_wp2_with fail
      refine HR.out.mono ?_
      rintro e w1 ⟨rfl, b1⟩
      go_wp2_with fail
      go_ret
      exact ⟨rfl, b1⟩
    · rw [decide_eq_false (fun q => h2 q.2), Bool.false_and]
      have d : decide (id < (l.length : Int)) = false := decide_eq_false h2
      go_enter Tryz.func14, Tryz.ntmps14
      go_wp2_with fail
      go_ret
      exact ⟨rfl, Below.refl _ _⟩
  · rw [decide_eq_false (fun q => h1 q.1), Bool.false_and]
    go_enter Tryz.func14, Tryz.ntmps14
    go_wp2_with fail
    go_ret
    exact ⟨rfl, Below.refl _ _⟩
/-- A node that is there, in a right document. -/
structure Is (l : List Nd) (id : Int) (m : Nat) : Prop where
  right : Right l
  eq : id = (m : Int)
  lt : m < l.length
theorem Is.of {l : List Nd} {id : Int} (h : hasN l id = true) : ∃ m, Is l id m := by
  unfold hasN at h
  rw [Bool.and_eq_true, decide_eq_true_eq] at h
  exact ⟨id.toNat, right_is.1 h.2, by omega, by omega⟩
theorem parI_at {l : List Nd} {m : Nat} (h : m < l.length) : parI l (m : Int) = l[m].parent := by unfold parI; rw [Int.toNat_natCast, nd_at h]
theorem has_cons (k x : Int) (t : List Int) : (k :: t).contains x = (x == k || t.contains x) := List.contains_cons
set_option maxHeartbeats 2000000 in
theorem refWithin_any (v : Value) (l : List Nd) (id : Int) (m0 : Nat) (other : Int) (w : World) (hv : NodesV w v l) (hI : Is l id m0) :
    Calls Tryz.prog 57 #[v, .int .i64 id, .int .i64 other] w fun e w' => e = .returned (.bool (withinB l id other)) ∧ w' = w := by
  have hR := hI.right
  obtain ⟨rfl, h0⟩ := (⟨hI.eq, hI.lt⟩ : id = (m0 : Int) ∧ m0 < l.length)
  clear hI
  have hlen := hR.len.2
  obtain ⟨p, c, rfl, hv⟩ := hv
  rcases hv with hv | ⟨b, o, rfl, hv⟩
  · rw [hv] at h0; simp at h0
  have HV := hide hv
  clear hv
  obtain ⟨va0, vk0, hN0⟩ := HV.out m0 h0
  have c0 := hN0.parent
  have i0 : (m0 : Int) < (l.length : Int) := by omega
  unfold withinB
  rw [parI_at h0]
  have pb := hR.par m0 h0
  rw [nd_at h0] at pb
  have pb1 := pb.1
  have pb2 := pb.2
  have HRt := hide hR
  clear pb hN0 hR
  generalize l[m0].parent = z0 at *
  generalize hW : (anc l z0).contains other = W
  have HW := hide hW
  clear hW
  go_enter Tryz.func57, Tryz.ntmps57
  go_wp2_with fail
  go_loop [7] (fun kv => ∃ z : Int, kv = .int .i64 z ∧ -1 ≤ z ∧ z < (l.length : Int) ∧ Hid ((anc l z).contains other = W)) (fun kv => hgt l (intOf kv))
  case atStart => exact ⟨z0, rfl, pb1, pb2, HW.out⟩
  case round =>
    obtain ⟨z, rfl, z1, z2, hc⟩ := hrel
    clear HW
    by_cases q1 : z < 0
    · have q2 : ¬ 0 ≤ z := by omega
      have E : Hid (W = false) := by
        show _ = _
        rw [← hc.out, anc_neg q1]; rfl
      clear hc
      go_wp2_with fail
      go_ret
      exact ⟨ret_bool E.out.symm, rfl⟩
    · obtain ⟨m, rfl⟩ : ∃ m : Nat, z = (m : Int) := ⟨z.toNat, by omega⟩
      have hm : m < l.length := by omega
      have he := HRt.out.ende z2
      have hu := anc_up he q1
      have hh := hgt_up he q1
      have pb := HRt.out.par m hm
      rw [nd_at hm] at pb
      rw [parI_at hm] at hu hh
      obtain ⟨vam, vkm, hNm⟩ := HV.out m hm
      have cm := hNm.parent
      have q2 : 0 ≤ (m : Int) := by omega
      have hc1 := hc.out
      rw [hu, has_cons] at hc1
      by_cases q3 : (m : Int) = other
      · have e3 : ((m : Int) == other) = true := by rw [q3]; simp
        have E : Hid (W = true) := by
          show _ = _
          rw [← hc1, q3]; simp
        clear hc hc1 hu hh pb he q3 hNm
        generalize l[m].parent = pm at *
        go_wp2_with fail
        go_ret
        exact ⟨ret_bool E.out.symm, rfl⟩
      · have e3 : ((m : Int) == other) = false := by rw [beq_eq_false_iff_ne]; exact q3
        rw [show (other == (m : Int)) = false by rw [beq_eq_false_iff_ne]; exact fun q => q3 q.symm, Bool.false_or] at hc1
        have HC1 := hide hc1
        have HH := hide hh
        have pb1 := pb.1
        have pb2 := pb.2
        clear hc hc1 hu hh pb he q3 hNm
        generalize l[m].parent = pm at *
        go_wp2_with fail
        go_round
        case rel => exact ⟨pm, rfl, pb1, pb2, HC1.out⟩
        case measure => have := HH.out; show hgt l pm < hgt l (m : Int); omega
theorem up_cons {l : List Nd} {m : Nat} (hm : m < l.length) {t : List Int} {name : ByteArray} : (((m : Int) :: t).find? fun k => decide ((nd l k.toNat).name = name)) = if l[m].name = name then some (m : Int) else (t.find? fun k => decide ((nd l k.toNat).name = name)) := by
  rw [List.find?_cons, Int.toNat_natCast, nd_at hm]
  by_cases h : l[m].name = name
  · rw [if_pos h, decide_eq_true h]
  · rw [if_neg h, decide_eq_false h]
set_option maxHeartbeats 2000000 in
theorem refUp_any (v : Value) (l : List Nd) (id : Int) (m0 : Nat) (name : ByteArray) (w : World) (hv : NodesV w v l) (hI : Is l id m0) :
    Calls Tryz.prog 18 #[v, .int .i64 id, .string name] w fun e w' => e = .returned (.int .i64 (upP l id name)) ∧ w' = w := by
  have hR := hI.right
  obtain ⟨rfl, h0⟩ := (⟨hI.eq, hI.lt⟩ : id = (m0 : Int) ∧ m0 < l.length)
  clear hI
  have hlen := hR.len.2
  obtain ⟨p, c, rfl, hv⟩ := hv
  rcases hv with hv | ⟨b, o, rfl, hv⟩
  · rw [hv] at h0; simp at h0
  have HV := hide hv
  clear hv
  obtain ⟨va0, vk0, hN0⟩ := HV.out m0 h0
  have c0 := hN0.parent
  have i0 : (m0 : Int) < (l.length : Int) := by omega
  unfold upP
  rw [parI_at h0]
  have pb := hR.par m0 h0
  rw [nd_at h0] at pb
  have pb1 := pb.1
  have pb2 := pb.2
  have HRt := hide hR
  clear pb hN0 hR
  generalize l[m0].parent = z0 at *
  generalize hW : ((anc l z0).find? fun k => decide ((nd l k.toNat).name = name)).getD (-1) = W
  have HW := hide hW
  clear hW
  go_enter Tryz.func18, Tryz.ntmps18
  go_wp2_with fail
  go_loop [7] (fun kv => ∃ z : Int, kv = .int .i64 z ∧ -1 ≤ z ∧ z < (l.length : Int) ∧ Hid (((anc l z).find? fun k => decide ((nd l k.toNat).name = name)).getD (-1) = W)) (fun kv => hgt l (intOf kv))
  case atStart => exact ⟨z0, rfl, pb1, pb2, HW.out⟩
  case round =>
    obtain ⟨z, rfl, z1, z2, hc⟩ := hrel
    clear HW
    by_cases q1 : z < 0
    · have q2 : ¬ 0 ≤ z := by omega
      have E : Hid (W = z) := by
        show _ = _
        rw [← hc.out, anc_neg q1]
        show (-1 : Int) = z
        omega
      clear hc
      go_wp2_with fail
      go_ret
      exact ⟨ret_int E.out.symm, rfl⟩
    · obtain ⟨m, rfl⟩ : ∃ m : Nat, z = (m : Int) := ⟨z.toNat, by omega⟩
      have hm : m < l.length := by omega
      have he := HRt.out.ende z2
      have hu := anc_up he q1
      have hh := hgt_up he q1
      have pb := HRt.out.par m hm
      rw [nd_at hm] at pb
      rw [parI_at hm] at hu hh
      obtain ⟨vam, vkm, hNm⟩ := HV.out m hm
      have cm := hNm.parent
      have cn := hNm.name
      have q2 : 0 ≤ (m : Int) := by omega
      have hc1 := hc.out
      rw [hu, up_cons hm] at hc1
      by_cases q3 : l[m].name = name
      · have e3 : (l[m].name.toList != name.toList) = false := by unfold bne; rw [txt_beq, decide_eq_true q3]; rfl
        have e3' : (l[m].name.toList == name.toList) = true := by rw [txt_beq, decide_eq_true q3]
        rw [if_pos q3] at hc1
        have E : Hid (W = (m : Int)) := hc1.symm
        clear hc hc1 hu hh pb he q3 hNm
        generalize l[m].parent = pm at *
        generalize l[m].name = nm at *
        go_wp2_with fail
        go_ret
        exact ⟨ret_int E.out.symm, rfl⟩
      · have e3 : (l[m].name.toList != name.toList) = true := by unfold bne; rw [txt_beq, decide_eq_false q3]; rfl
        have e3' : (l[m].name.toList == name.toList) = false := by rw [txt_beq, decide_eq_false q3]
        rw [if_neg q3] at hc1
        have HC1 := hide hc1
        have HH := hide hh
        have pb1 := pb.1
        have pb2 := pb.2
        clear hc hc1 hu hh pb he q3 hNm
        generalize l[m].parent = pm at *
        generalize l[m].name = nm at *
        go_wp2_with fail
        go_round
        case rel => exact ⟨pm, rfl, pb1, pb2, HC1.out⟩
        case measure => have := HH.out; show hgt l pm < hgt l (m : Int); omega

end Go.Proofs.YtdbabciafifnaaaGreatDoor
