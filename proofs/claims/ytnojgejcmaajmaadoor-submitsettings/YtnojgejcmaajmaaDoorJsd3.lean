/- The document's Right of layer 10. The document's Has, Within, Attr, Top, Up of layer 10. The document's Has, Is, Owner, Off of layer 15. The program's Of of layer 11. The program's isFormed of layer 10. The program's downwards of layer 10. -/
import Derived.Test.YtnojgejcmaajmaaDoorJsd11
import Derived.Test.YtnojgejcmaajmaaDoorJsd14

namespace Go.Proofs.YtnojgejcmaajmaaDoor
open Go.RowKit
set_option maxRecDepth 100000
/-- Lengths that a machine has. -/
structure NdSz (n : Nd) : Prop where
  name : n.name.size ≤ maxLen
  text : n.text.size ≤ maxLen
  attr : ∀ a ∈ n.attrs, a.1.size ≤ maxLen ∧ a.2.size ≤ maxLen
  attrs : n.attrs.length ≤ 4398046511104
  kids : n.kids.length ≤ 17592186044416
  tx : ∀ a ∈ n.attrs, a.2.size ≤ 140737488351232
structure DocSz (l : List Nd) : Prop where
  len : l.length ≤ 1599289640354
  nds : ∀ n ∈ l, NdSz n
theorem nd_at {l : List Nd} {i : Nat} (h : i < l.length) : nd l i = l[i] := by unfold nd; simp [List.getD, h]
theorem right_len {l : List Nd} (h : ¬ (1 ≤ l.length ∧ l.length ≤ 400)) : rightB l = false := by unfold rightB; rw [decide_eq_false h]; rfl
theorem right_head {l : List Nd} (h : (nd l 0).name.size = 0 ∨ ¬ (nd l 0).parent = -1) : rightB l = false := by
  unfold rightB
  rcases h with h | h
  · rw [h]; simp
  · rw [show ((nd l 0).parent == -1) = false by rw [beq_eq_false_iff_ne]; exact h]; simp
theorem right_node {l : List Nd} {i : Nat} (hi : i < l.length) (h : nodeOk l i = false) : rightB l = false := by
  have : (List.range l.length).all (nodeOk l) = false := by
    rw [List.all_eq_false]
    exact ⟨i, List.mem_range.2 hi, by rw [h]; simp⟩
  unfold rightB
  rw [this]; simp
theorem right_climb {l : List Nd} {i : Nat} (hi : i < l.length) (h : ¬ climb l (l.length + 1) i < 0) : rightB l = false := by
  have : ((List.range l.length).all fun i => decide (climb l (l.length + 1) i < 0)) = false := by
    rw [List.all_eq_false]
    exact ⟨i, List.mem_range.2 hi, by rw [decide_eq_false h]; simp⟩
  unfold rightB
  rw [this]; simp
theorem right_yes {l : List Nd} (h1 : 1 ≤ l.length ∧ l.length ≤ 400) (h2 : ¬ (nd l 0).name.size = 0) (h3 : (nd l 0).parent = -1) (h4 : ∀ i, i < l.length → nodeOk l i = true) (h5 : ∀ i : Nat, i < l.length → climb l (l.length + 1) i < 0) : rightB l = true := by
  unfold rightB
  rw [decide_eq_true h1, h3]
  have e2 : ((nd l 0).name.size == 0) = false := by rw [beq_eq_false_iff_ne]; exact h2
  have e4 : (List.range l.length).all (nodeOk l) = true := List.all_eq_true.2 fun i hi => h4 i (List.mem_range.1 hi)
  have e5 : ((List.range l.length).all fun i => decide (climb l (l.length + 1) i < 0)) = true := List.all_eq_true.2 fun i hi => decide_eq_true (h5 i (List.mem_range.1 hi))
  rw [e2, e4, e5]; rfl
/-- A node among the others, by its parts. -/
theorem nodeOk_at {l : List Nd} {i : Nat} (h : i < l.length) : nodeOk l i = (aloneB l[i] && (decide (-1 ≤ l[i].parent ∧ l[i].parent < l.length) && ((decide (l[i].parent < 0) || cntI (nd l l[i].parent.toNat).kids i == 1) && l[i].kids.all (kidOk l i)))) := by
  unfold nodeOk
  rw [nd_at h]
theorem kid_no {l : List Nd} {i : Nat} {ks : List Int} {k : Nat} (hk : k < ks.length) (h : kidOk l i ks[k] = false) : ks.all (kidOk l i) = false := by
  rw [List.all_eq_false]
  exact ⟨ks[k], List.getElem_mem _, by rw [h]; simp⟩
theorem kid_all {l : List Nd} {i : Nat} {ks : List Int} (h : ∀ k (_ : k < ks.length), kidOk l i ks[k] = true) : ks.all (kidOk l i) = true := by
  rw [List.all_eq_true]
  intro c hc
  obtain ⟨k, hk, rfl⟩ := List.getElem_of_mem hc
  exact h k hk
theorem kid_low {l : List Nd} {i : Nat} {c : Int} (h : ¬ (0 ≤ c ∧ c < l.length)) : kidOk l i c = false := by unfold kidOk; rw [decide_eq_false h]; rfl
theorem kid_at {l : List Nd} {i m : Nat} (h : m < l.length) : kidOk l i (m : Int) = (l[m].parent == (i : Int)) := by
  unfold kidOk parI
  rw [decide_eq_true (by omega), Bool.true_and, Int.toNat_natCast, nd_at h]
theorem climb_done {l : List Nd} : ∀ (n : Nat) {k : Int}, k < 0 → climb l n k = k
  | 0, _, _ => rfl
  | n + 1, k, h => by show (if k < 0 then k else _) = k; rw [if_pos h]
theorem climb_up {l : List Nd} {n m : Nat} (h : m < l.length) : climb l (n + 1) (m : Int) = climb l n l[m].parent := by
  show (if (m : Int) < 0 then _ else climb l n (parI l m)) = _
  rw [if_neg (by omega)]
  unfold parI
  rw [Int.toNat_natCast, nd_at h]
set_option maxHeartbeats 8000000 in
set_option maxRecDepth 100000 in
theorem refDocRight_any (v : Value) (l : List Nd) (w : World) (hv : NodesV w v l) (hz : DocSz l) :
    Calls Tryd.prog 37 #[v] w fun e w' => e = .returned (.bool (rightB l)) ∧ Below w.heap.size w w' := by
  have hlen := hz.len
  have SZ := hide hz
  clear hz
  by_cases h1 : l.length < 1
  · obtain ⟨p, c, rfl, hv⟩ := hv
    have i1 : (l.length : Int) < 1 := by omega
    have E := hide (right_len (l := l) (by omega))
    clear h1 hv
    go_enter Tryd.func37, Tryd.ntmps37
    go_wp2_with fail
    go_ret
    exact ⟨ret_bool E.out.symm, Below.refl _ _⟩
  have i1 : ¬ (l.length : Int) < 1 := by omega
  by_cases h2 : 400 < l.length
  · obtain ⟨p, c, rfl, hv⟩ := hv
    have i2 : (400 : Int) < (l.length : Int) := by omega
    have E := hide (right_len (l := l) (by omega))
    clear h1 h2 hv
    go_enter Tryd.func37, Tryd.ntmps37
    go_wp2_with fail
    go_ret
    exact ⟨ret_bool E.out.symm, Below.refl _ _⟩
  have i2 : ¬ (400 : Int) < (l.length : Int) := by omega
  have i3 : l.length ≤ 400 := by omega
  have i4 : 0 < l.length := by omega
  have NV := hide hv
  obtain ⟨p, c, rfl, hv⟩ := hv
  rcases hv with hv | ⟨b, o, rfl, hv⟩
  · rw [hv] at i4; simp at i4
  obtain ⟨va0, vk0, hN0⟩ := hv 0 i4
  have c00 := hN0.name
  have c03 := hN0.parent
  rw [show o + 0 * 5 = o by omega] at c00 c03
  by_cases h3 : l[0].name.size = 0
  · have e3 : ((l[0].name.size : Int) == 0) = true := by rw [h3]; rfl
    have E := hide (right_head (l := l) (.inl (by rw [nd_at i4]; exact h3)))
    clear h1 h2 h3 hv NV hN0
    generalize l[0].name = nm at *
    go_enter Tryd.func37, Tryd.ntmps37
    go_wp2_with fail
    go_ret
    exact ⟨ret_bool E.out.symm, Below.refl _ _⟩
  have e3 : ((l[0].name.size : Int) == 0) = false := by rw [beq_eq_false_iff_ne]; omega
  by_cases h4 : l[0].parent = -1
  rotate_left
  · have e4 : (l[0].parent != -1) = true := by rw [bne_iff_ne]; exact h4
    have E := hide (right_head (l := l) (.inr (by rw [nd_at i4]; exact h4)))
    clear h1 h2 h3 h4 hv NV hN0
    generalize l[0].name = nm at *
    generalize l[0].parent = pr at *
    go_enter Tryd.func37, Tryd.ntmps37
    go_wp2_with fail
    go_ret
    exact ⟨ret_bool E.out.symm, Below.refl _ _⟩
  have e4 : (l[0].parent != -1) = false := by rw [bne_eq_false_iff_eq]; exact h4
  have NO := hide (fun i hi q => right_node (l := l) (i := i) hi q)
  have NC := hide (fun i hi q => right_climb (l := l) (i := i) hi q)
  have YES := hide (fun q1 q2 => right_yes (l := l) (by omega) (by rw [nd_at i4]; exact h3) (by rw [nd_at i4]; exact h4) q1 q2)
  have HV := hide hv
  clear h1 h2 h3 h4 hv hN0
  generalize l[0].name = nm at *
  generalize l[0].parent = pr at *
  go_enter Tryd.func37, Tryd.ntmps37
  go_wp2_with fail
  go_loopw [3] (fun iv wr => ∃ j : Nat, j ≤ l.length ∧ iv = .int .i64 j ∧ Hid (∀ m, m < j → nodeOk l m = true) ∧ Below w.heap.size w wr) (fun iv _ => l.length - (intOf iv).toNat)
  case atStart => exact ⟨0, Nat.zero_le _, rfl, fun m q => by omega, Below.refl _ _⟩
  case round =>
    obtain ⟨j, hj, rfl, hd, hb⟩ := hrel
    rename World => wr
    clear c00 c03 e3 e4
    by_cases h : j < l.length
    · have j1 : (j : Int) < (l.length : Int) := by omega
      obtain ⟨va, vk, hN0⟩ := HV.out j h
      have hN := hN0.below hb
      have n0 := hN.name
      have n1 := hN.text
      have n2 := hN.attrs
      have n3 := hN.parent
      have n4 := hN.kids
      have sz := SZ.out.nds l[j] (List.getElem_mem _)
      have HAl := hide (refAlone_any l[j] va vk wr hN.at_ hN.ks sz.attrs ⟨sz.name, sz.text, sz.attr⟩)
      unfold aggN at HAl
      have at1 := nodeOk_at h
      have BAD := NO.out j h
      have HN := hide hN
      clear hN hN0 sz NC YES
      cases k1 : aloneB l[j] with
      | false =>
        rw [k1] at HAl
        rw [k1, Bool.false_and] at at1
        have E := hide (BAD at1)
        clear at1 BAD k1 hd HN
        generalize l[j].name = y1 at *
        generalize l[j].text = y2 at *
        generalize l[j].parent = y3 at *
        go_wp2_with fail
        refine HAl.out.mono ?_
        rintro e u1 ⟨rfl, b1⟩
        go_wp2_with fail
        go_ret
        exact ⟨ret_bool E.out.symm, chain hb b1⟩
      | true =>
        rw [k1] at HAl
        rw [k1, Bool.true_and] at at1
        by_cases k2 : l[j].parent < -1
        · rw [decide_eq_false (by omega), Bool.false_and] at at1
          have E := hide (BAD at1)
          clear at1 BAD k1 hd HN
          generalize l[j].name = y1 at *
          generalize l[j].text = y2 at *
          generalize l[j].parent = y3 at *
          go_wp2_with fail
          refine HAl.out.mono ?_
          rintro e u1 ⟨rfl, b1⟩
          go_wp2_with fail
          go_ret
          exact ⟨ret_bool E.out.symm, chain hb b1⟩
        · by_cases k3 : (l.length : Int) ≤ l[j].parent
          · rw [decide_eq_false (by omega), Bool.false_and] at at1
            have E := hide (BAD at1)
            clear at1 BAD k1 hd HN
            generalize l[j].name = y1 at *
            generalize l[j].text = y2 at *
            generalize l[j].parent = y3 at *
            go_wp2_with fail
            refine HAl.out.mono ?_
            rintro e u1 ⟨rfl, b1⟩
            go_wp2_with fail
            go_ret
            exact ⟨ret_bool E.out.symm, chain hb b1⟩
          · rw [decide_eq_true (by omega), Bool.true_and] at at1
            by_cases k4 : l[j].parent < 0
            · rw [decide_eq_true k4, Bool.true_or, Bool.true_and] at at1
              have KD := hide at1
              clear at1 k1
              generalize l[j].name = y1 at *
              generalize l[j].text = y2 at *
              generalize l[j].parent = y3 at *
              go_wp2_with fail
              refine HAl.out.mono ?_
              rintro e u1 ⟨rfl, b1⟩
              have bb := chain hb b1
              have hN1 := HN.out.below b1
              clear HN HAl n0 n1 n2 n3 n4 b1
              obtain ⟨pk, ck, evk, hks⟩ := hN1.ks
              subst evk
              have c4 := hN1.kids
              have ksz := (SZ.out.nds l[j] (List.getElem_mem _)).kids
              have NXK : (∀ t (_ : t < l[j].kids.length), kidOk l j l[j].kids[t] = true) → Hid (∀ m, m < j + 1 → nodeOk l m = true) := by
                intro q m hm
                rcases Nat.lt_or_ge m j with r | r
                · exact hd.out m r
                · obtain rfl : m = j := by omega
                  rw [KD.out]; exact kid_all q
              have BADK : ∀ t (ht : t < l[j].kids.length), kidOk l j l[j].kids[t] = false → rightB l = false := fun t ht q => BAD (KD.out.trans (kid_no ht q))
              replace NXK := hide NXK
              replace BADK := hide BADK
              clear hd KD BAD hN1
              generalize l[j].kids = ks at *
              go_wp2_with fail
              go_loop [5] (fun kv => ∃ t : Nat, t ≤ ks.length ∧ kv = .int .i64 t ∧ Hid (∀ m (_ : m < ks.length), m < t → kidOk l j ks[m] = true)) (fun kv => ks.length - (intOf kv).toNat)
              case atStart => exact ⟨0, Nat.zero_le _, rfl, fun m _ q => by omega⟩
              case round =>
                obtain ⟨t, ht, rfl, hdk⟩ := hrel
                by_cases h9 : t < ks.length
                · have t1 : (t : Int) < (ks.length : Int) := by omega
                  rcases hks with hks | ⟨kb, ko, rfl, hks⟩
                  · rw [hks] at h9; simp at h9
                  have cc := hks t h9
                  have BK := BADK.out t h9
                  by_cases q1 : ks[t] < 0
                  · have E := hide (BK (kid_low (by omega)))
                    clear BADK NXK hks hdk BK
                    generalize ks[t] = kc at *
                    go_wp2_with fail
                    go_ret
                    exact ⟨ret_bool E.out.symm, bb⟩
                  · by_cases q2 : (l.length : Int) ≤ ks[t]
                    · have E := hide (BK (kid_low (by omega)))
                      clear BADK NXK hks hdk BK
                      generalize ks[t] = kc at *
                      go_wp2_with fail
                      go_ret
                      exact ⟨ret_bool E.out.symm, bb⟩
                    · obtain ⟨m, em⟩ : ∃ m : Nat, ks[t] = (m : Int) := ⟨ks[t].toNat, by omega⟩
                      have hm : m < l.length := by omega
                      obtain ⟨vam, vkm, hNm⟩ := HV.out m hm
                      have cm := cell_below hNm.parent bb
                      have ka := kid_at (l := l) (i := j) hm
                      rw [← em] at ka
                      have m1 : (m : Int) < (l.length : Int) := by omega
                      by_cases q3 : l[m].parent = (j : Int)
                      · have e9 : (l[m].parent != (j : Int)) = false := by rw [bne_eq_false_iff_eq]; exact q3
                        have okt : kidOk l j ks[t] = true := by rw [ka, q3]; simp
                        have hdk' : Hid (∀ x (_ : x < ks.length), x < t + 1 → kidOk l j ks[x] = true) := by
                          intro x hx hxt
                          rcases Nat.lt_or_ge x t with r | r
                          · exact hdk.out x hx r
                          · obtain rfl : x = t := by omega
                            exact okt
                        rw [em] at cc
                        clear BADK NXK hks hdk BK ka q3 okt hNm em q1 q2
                        generalize l[m].parent = pm at *
                        go_wp2_with fail
                        go_round
                        case rel => exact ⟨t + 1, by omega, by go_num, hdk'⟩
                        case measure => simp [intOf]; omega
                      · have e9 : (l[m].parent != (j : Int)) = true := by rw [bne_iff_ne]; exact q3
                        have E := hide (BK (by rw [ka, beq_eq_false_iff_ne]; exact q3))
                        rw [em] at cc
                        clear BADK NXK hks hdk BK ka q3 hNm em q1 q2
                        generalize l[m].parent = pm at *
                        go_wp2_with fail
                        go_ret
                        exact ⟨ret_bool E.out.symm, bb⟩
                · obtain rfl : t = ks.length := by omega
                  have E := NXK.out (fun x hx => hdk.out x hx hx)
                  clear BADK NXK hks hdk
                  go_wp2_with fail
                  go_roundw
                  case rel => exact ⟨j + 1, by omega, by go_num, E, bb⟩
                  case measure => simp [intOf]; omega
            · obtain ⟨pn, epn⟩ : ∃ pn : Nat, l[j].parent = (pn : Int) := ⟨l[j].parent.toNat, by omega⟩
              have hpn : pn < l.length := by omega
              obtain ⟨vap, vkp, hNp⟩ := HV.out pn hpn
              have HNp := hide hNp
              have ksp := (SZ.out.nds l[pn] (List.getElem_mem _)).kids
              rw [decide_eq_false k4, Bool.false_or, epn, Int.toNat_natCast, nd_at hpn] at at1
              rw [epn] at n3 HAl
              have p1 : (pn : Int) < (l.length : Int) := by omega
              by_cases k5 : cntI l[pn].kids j = 1
              · have e5 : (((cntI l[pn].kids j : Nat) : Int) != 1) = false := by rw [k5]; rfl
                rw [show (cntI l[pn].kids j == 1) = true by rw [k5]; rfl, Bool.true_and] at at1
                have KD := hide at1
                have HCt := hide (fun u (bu : Below w.heap.size w u) => refCount_any vkp l[pn].kids (j : Int) u (HNp.out.below bu).ks ksp)
                have C4 := hide (fun u (bu : Below w.heap.size w u) => (HNp.out.below bu).kids)
                clear at1 k1 k2 k3 k4 k5 epn hNp HNp ksp
                generalize cntI l[pn].kids j = cn at *
                generalize l[j].name = y1 at *
                generalize l[j].text = y2 at *
                go_wp2_with fail
                refine HAl.out.mono ?_
                rintro e u1 ⟨rfl, b1⟩
                have bb := chain hb b1
                have hN1 := HN.out.below b1
                have c4p := C4.out u1 bb
                clear HN HAl n0 n1 n2 n3 n4 b1 C4
                go_wp2_with fail
                refine (HCt.out u1 bb).mono ?_
                rintro e u2 ⟨rfl, rfl⟩
                clear c4p HCt
                obtain ⟨pk, ck, evk, hks⟩ := hN1.ks
                subst evk
                have c4 := hN1.kids
                have ksz := (SZ.out.nds l[j] (List.getElem_mem _)).kids
                have NXK : (∀ t (_ : t < l[j].kids.length), kidOk l j l[j].kids[t] = true) → Hid (∀ m, m < j + 1 → nodeOk l m = true) := by
                  intro q m hm
                  rcases Nat.lt_or_ge m j with r | r
                  · exact hd.out m r
                  · obtain rfl : m = j := by omega
                    rw [KD.out]; exact kid_all q
                have BADK : ∀ t (ht : t < l[j].kids.length), kidOk l j l[j].kids[t] = false → rightB l = false := fun t ht q => BAD (KD.out.trans (kid_no ht q))
                replace NXK := hide NXK
                replace BADK := hide BADK
                clear hd KD BAD hN1
                generalize l[j].kids = ks at *
                go_wp2_with fail
                go_loop [5] (fun kv => ∃ t : Nat, t ≤ ks.length ∧ kv = .int .i64 t ∧ Hid (∀ m (_ : m < ks.length), m < t → kidOk l j ks[m] = true)) (fun kv => ks.length - (intOf kv).toNat)
                case atStart => exact ⟨0, Nat.zero_le _, rfl, fun m _ q => by omega⟩
                case round =>
                  obtain ⟨t, ht, rfl, hdk⟩ := hrel
                  by_cases h9 : t < ks.length
                  · have t1 : (t : Int) < (ks.length : Int) := by omega
                    rcases hks with hks | ⟨kb, ko, rfl, hks⟩
                    · rw [hks] at h9; simp at h9
                    have cc := hks t h9
                    have BK := BADK.out t h9
                    by_cases q1 : ks[t] < 0
                    · have E := hide (BK (kid_low (by omega)))
                      clear BADK NXK hks hdk BK
                      generalize ks[t] = kc at *
                      go_wp2_with fail
                      go_ret
                      exact ⟨ret_bool E.out.symm, bb⟩
                    · by_cases q2 : (l.length : Int) ≤ ks[t]
                      · have E := hide (BK (kid_low (by omega)))
                        clear BADK NXK hks hdk BK
                        generalize ks[t] = kc at *
                        go_wp2_with fail
                        go_ret
                        exact ⟨ret_bool E.out.symm, bb⟩
                      · obtain ⟨m, em⟩ : ∃ m : Nat, ks[t] = (m : Int) := ⟨ks[t].toNat, by omega⟩
                        have hm : m < l.length := by omega
                        obtain ⟨vam, vkm, hNm⟩ := HV.out m hm
                        have cm := cell_below hNm.parent bb
                        have ka := kid_at (l := l) (i := j) hm
                        rw [← em] at ka
                        have m1 : (m : Int) < (l.length : Int) := by omega
                        by_cases q3 : l[m].parent = (j : Int)
                        · have e9 : (l[m].parent != (j : Int)) = false := by rw [bne_eq_false_iff_eq]; exact q3
                          have okt : kidOk l j ks[t] = true := by rw [ka, q3]; simp
                          have hdk' : Hid (∀ x (_ : x < ks.length), x < t + 1 → kidOk l j ks[x] = true) := by
                            intro x hx hxt
                            rcases Nat.lt_or_ge x t with r | r
                            · exact hdk.out x hx r
                            · obtain rfl : x = t := by omega
                              exact okt
                          rw [em] at cc
                          clear BADK NXK hks hdk BK ka q3 okt hNm em q1 q2
                          generalize l[m].parent = pm at *
                          go_wp2_with fail
                          go_round
                          case rel => exact ⟨t + 1, by omega, by go_num, hdk'⟩
                          case measure => simp [intOf]; omega
                        · have e9 : (l[m].parent != (j : Int)) = true := by rw [bne_iff_ne]; exact q3
                          have E := hide (BK (by rw [ka, beq_eq_false_iff_ne]; exact q3))
                          rw [em] at cc
                          clear BADK NXK hks hdk BK ka q3 hNm em q1 q2
                          generalize l[m].parent = pm at *
                          go_wp2_with fail
                          go_ret
                          exact ⟨ret_bool E.out.symm, bb⟩
                  · obtain rfl : t = ks.length := by omega
                    have E := NXK.out (fun x hx => hdk.out x hx hx)
                    clear BADK NXK hks hdk
                    go_wp2_with fail
                    go_roundw
                    case rel => exact ⟨j + 1, by omega, by go_num, E, bb⟩
                    case measure => simp [intOf]; omega
              · have e5 : (((cntI l[pn].kids j : Nat) : Int) != 1) = true := by rw [bne_iff_ne]; omega
                rw [show (cntI l[pn].kids j == 1) = false by rw [beq_eq_false_iff_ne]; exact k5, Bool.false_and] at at1
                have E := hide (BAD at1)
                have HCt := hide (fun u (bu : Below w.heap.size w u) => refCount_any vkp l[pn].kids (j : Int) u (HNp.out.below bu).ks ksp)
                have C4 := hide (fun u (bu : Below w.heap.size w u) => (HNp.out.below bu).kids)
                clear at1 k1 k2 k3 k4 k5 epn hNp HNp ksp BAD hd HN
                generalize cntI l[pn].kids j = cn at *
                generalize l[j].name = y1 at *
                generalize l[j].text = y2 at *
                go_wp2_with fail
                refine HAl.out.mono ?_
                rintro e u1 ⟨rfl, b1⟩
                have bb := chain hb b1
                have c4p := C4.out u1 bb
                clear HAl n0 n1 n2 n3 n4 b1 C4
                go_wp2_with fail
                refine (HCt.out u1 bb).mono ?_
                rintro e u2 ⟨rfl, rfl⟩
                go_wp2_with fail
                go_ret
                exact ⟨ret_bool E.out.symm, bb⟩
    · obtain rfl : j = l.length := by omega
      have ALL := hide (fun m hm => hd.out m hm)
      clear hd h NO
      go_wp2_with fail
      go_loop [7] (fun iv => ∃ j : Nat, j ≤ l.length ∧ iv = .int .i64 j ∧ Hid (∀ m : Nat, m < j → climb l (l.length + 1) (m : Int) < 0)) (fun iv => l.length - (intOf iv).toNat)
      case atStart => exact ⟨0, Nat.zero_le _, rfl, fun m q => by omega⟩
      case round =>
        obtain ⟨j, hj, rfl, hd⟩ := hrel
        by_cases h : j < l.length
        · have j1 : (j : Int) < (l.length : Int) := by omega
          have NX : climb l (l.length + 1) (j : Int) < 0 → Hid (∀ m : Nat, m < j + 1 → climb l (l.length + 1) (m : Int) < 0) := by
            intro q m hm
            rcases Nat.lt_or_ge m j with r | r
            · exact hd.out m r
            · obtain rfl : m = j := by omega
              exact q
          replace NX := hide NX
          have BAD := hide (NC.out j h)
          clear hd NC YES
          go_wp2_with fail
          go_loop [8, 9] (fun kv nv => ∃ (t : Nat) (z : Int), t ≤ l.length + 1 ∧ nv = .int .i64 t ∧ kv = .int .i64 z ∧ -1 ≤ z ∧ z < (l.length : Int) ∧ Hid (climb l (l.length + 1 - t) z = climb l (l.length + 1) (j : Int))) (fun _ nv => l.length + 2 - (intOf nv).toNat)
          case atStart => exact ⟨0, (j : Int), Nat.zero_le _, rfl, rfl, by omega, by omega, rfl⟩
          case round =>
            obtain ⟨t, z, ht, rfl, rfl, z1, z2, hc⟩ := hrel
            by_cases q1 : z < 0
            · have z3 : ¬ (0 : Int) ≤ z := by omega
              have E := NX.out (by rw [← hc.out, climb_done _ q1]; exact q1)
              clear NX BAD hc ALL
              go_wp2_with fail
              go_round
              case rel => exact ⟨j + 1, by omega, by go_num, E⟩
              case measure => simp [intOf]; omega
            · obtain ⟨m, rfl⟩ : ∃ m : Nat, z = (m : Int) := ⟨z.toNat, by omega⟩
              have hm : m < l.length := by omega
              by_cases q2 : t ≤ l.length
              · have t1 : (t : Int) ≤ (l.length : Int) := by omega
                obtain ⟨vam, vkm, hNm⟩ := HV.out m hm
                have cm := cell_below hNm.parent hb
                have ok := ALL.out m hm
                rw [nodeOk_at hm, Bool.and_eq_true, Bool.and_eq_true] at ok
                have pb := of_decide_eq_true ok.2.1
                have hc' : Hid (climb l (l.length + 1 - (t + 1)) l[m].parent = climb l (l.length + 1) (j : Int)) := by
                  show _ = _
                  rw [← hc.out, show l.length + 1 - t = (l.length + 1 - (t + 1)) + 1 by omega, climb_up hm]
                have pb1 := pb.1
                have pb2 := pb.2
                clear NX BAD hc ALL ok pb hNm q1
                generalize l[m].parent = pm at *
                go_wp2_with fail
                go_round
                case rel => exact ⟨t + 1, pm, by omega, by go_num, rfl, pb1, pb2, hc'⟩
                case measure => simp [intOf]; omega
              · have t1 : ¬ (t : Int) ≤ (l.length : Int) := by omega
                have t2 : decide ((t : Int) ≤ (l.length : Int)) = false := decide_eq_false t1
                have E : Hid (rightB l = false) := by
                  refine BAD.out ?_
                  rw [← hc.out, show l.length + 1 - t = 0 by omega]
                  first | (show ¬ (m : Int) < 0; omega) | (show (0 : Int) ≤ (m : Int); omega)
                clear NX BAD hc ALL
                go_wp2_with fail
                go_ret
                exact ⟨ret_bool E.out.symm, hb⟩
        · obtain rfl : j = l.length := by omega
          have E := hide (YES.out (fun m hm => ALL.out m hm) (fun m hm => hd.out m hm))
          clear hd NC YES ALL h
          go_wp2_with fail
          go_ret
          exact ⟨ret_bool E.out.symm, hb⟩
end Go.Proofs.YtnojgejcmaajmaaDoor

namespace Go.Proofs.YtnojgejcmaajmaaDoor
open Go.RowKit
set_option maxRecDepth 100000
set_option maxHeartbeats 1000000 in
theorem refHas_any (v : Value) (l : List Nd) (id : Int) (w : World) (hv : NodesV w v l) (hz : DocSz l) :
    Calls Tryd.prog 17 #[v, .int .i64 id] w fun e w' => e = .returned (.bool (hasN l id)) ∧ Below w.heap.size w w' := by
  have HR := hide (refDocRight_any v l w hv hz)
  obtain ⟨p, c, rfl, hv⟩ := hv
  have hlen := hz.len
  clear hv hz
  unfold hasN
  by_cases h1 : 0 ≤ id
  · by_cases h2 : id < (l.length : Int)
    · rw [decide_eq_true ⟨h1, h2⟩, Bool.true_and]
      generalize rightB l = r at *
      go_enter Tryd.func17, Tryd.ntmps17
      go_wp2_with fail
      refine HR.out.mono ?_
      rintro e w1 ⟨rfl, b1⟩
      go_wp2_with fail
      go_ret
      exact ⟨rfl, b1⟩
    · rw [decide_eq_false (fun q => h2 q.2), Bool.false_and]
      have d : decide (id < (l.length : Int)) = false := decide_eq_false h2
      go_enter Tryd.func17, Tryd.ntmps17
      go_wp2_with fail
      go_ret
      exact ⟨rfl, Below.refl _ _⟩
  · rw [decide_eq_false (fun q => h1 q.1), Bool.false_and]
    go_enter Tryd.func17, Tryd.ntmps17
    go_wp2_with fail
    go_ret
    exact ⟨rfl, Below.refl _ _⟩
/-- A node that is there, in a right document. -/
structure Is (l : List Nd) (id : Int) (m : Nat) : Prop where
  right : Right l
  eq : id = (m : Int)
  lt : m < l.length
theorem Is.of {l : List Nd} {id : Int} (h : hasN l id = true) : ∃ m, Is l id m := by
  unfold hasN at h
  rw [Bool.and_eq_true, decide_eq_true_eq] at h
  exact ⟨id.toNat, right_is.1 h.2, by omega, by omega⟩
end Go.Proofs.YtnojgejcmaajmaaDoor

namespace Go.Proofs.YtnojgejcmaajmaaDoor
open Go.RowKit
set_option maxRecDepth 100000
set_option maxHeartbeats 4000000 in
theorem refOHas_any (n : Nd) (va vk : Value) (nm : ByteArray) (w : World) (ha : AttrsV w va n.attrs) (hl : n.attrs.length ≤ 4398046511104) :
    Calls Tryd.prog 23 #[.agg #[.string n.name, .string n.text, va, .int .i64 n.parent, vk], .string nm] w fun e w' => e = .returned (.bool (hasA n nm)) ∧ Below w.heap.size w w' := by
  have HF := hide (fun W (hb : Below w.heap.size w W) => refFind_any va n.attrs nm W (ha.below hb) hl)
  have E : Hid (decide (0 ≤ findV (findA n.attrs nm)) = hasA n nm) := findV_nonneg _
  have BB : Hid (∀ o : Obj, Below w.heap.size w (w.alloc o)) := fun o => (Below.refl _ w).alloc (Nat.le_refl _) _
  obtain ⟨p, c, rfl, _⟩ := ha
  generalize hasA n nm = R at *
  generalize findV (findA n.attrs nm) = z at *
  generalize n.name = y0 at *
  generalize n.text = y1 at *
  generalize n.parent = y2 at *
  clear hl
  go_enter Tryd.func23, Tryd.ntmps23
  go_wp2_with fail
  refine (HF.out _ (BB.out _)).mono ?_
  rintro e u ⟨rfl, hu⟩
  subst hu
  go_wp2_with fail
  go_ret
  exact ⟨ret_bool E.out, BB.out _⟩
theorem nat_of {z : Int} {n : Nat} (h : ¬ z < 0) (h1 : z < (n : Int)) : ∃ p : Nat, z = (p : Int) ∧ p < n := ⟨z.toNat, by omega, by omega⟩
end Go.Proofs.YtnojgejcmaajmaaDoor

namespace Go.Proofs.YtnojgejcmaajmaaDoor
open Go.RowKit
set_option maxHeartbeats 4000000 in
set_option maxRecDepth 100000 in
theorem of_input (n : Nd) (va vk : Value) (w : World) (hT : KTabs w) (ha : AttrsV w va n.attrs) (hl : n.attrs.length ≤ 4398046511104) (hs : ∀ a ∈ n.attrs, a.2.size ≤ 140737488351232) (h : n.name = ⟨#[105, 110, 112, 117, 116]⟩) :
    Calls Tryd.prog 40 #[.agg #[.string n.name, .string n.text, va, .int .i64 n.parent, vk]] w fun e w' => e = .returned (.int .i64 (byT (tyOf n.attrs) 1 22 2)) ∧ Below w.heap.size w w' := by
  have t0 : (n.name.toList == [105, 110, 112, 117, 116]) = true := lit_yes h
  have t1 : (n.name.toList == [115, 101, 108, 101, 99, 116]) = false := by rw [h, ByteArray.toList_eq]; rfl
  have t2 : (n.name.toList == [116, 101, 120, 116, 97, 114, 101, 97]) = false := by rw [h, ByteArray.toList_eq]; rfl
  have t3 : (n.name.toList == [98, 117, 116, 116, 111, 110]) = false := by rw [h, ByteArray.toList_eq]; rfl
  clear h
  have B0 : Hid (Below w.heap.size w (w.alloc (.cells #[.string n.name, .string n.text, va, .int .i64 n.parent, vk] 31))) := (Below.refl _ w).alloc (Nat.le_refl _) _
  have k0 : (w.alloc (.cells #[.string n.name, .string n.text, va, .int .i64 n.parent, vk] 31)).cell? ⟨w.heap.size, 0, none⟩ = some (.string n.name) := by simp
  have k1 : (w.alloc (.cells #[.string n.name, .string n.text, va, .int .i64 n.parent, vk] 31)).cell? ⟨w.heap.size, 1, none⟩ = some (.string n.text) := by simp
  have k2 : (w.alloc (.cells #[.string n.name, .string n.text, va, .int .i64 n.parent, vk] 31)).cell? ⟨w.heap.size, 2, none⟩ = some (va) := by simp
  have k3 : (w.alloc (.cells #[.string n.name, .string n.text, va, .int .i64 n.parent, vk] 31)).cell? ⟨w.heap.size, 3, none⟩ = some (.int .i64 n.parent) := by simp
  have k4 : (w.alloc (.cells #[.string n.name, .string n.text, va, .int .i64 n.parent, vk] 31)).cell? ⟨w.heap.size, 4, none⟩ = some (vk) := by simp
  have HBy := hide (byType_any n va vk 1 22 2 (w.alloc (.cells #[.string n.name, .string n.text, va, .int .i64 n.parent, vk] 31)) (hT.below B0.out) (ha.below B0.out) hl hs)
  clear hT ha hl hs
  go_enter Tryd.func40, Tryd.ntmps40
  go_wp2_with fail
  generalize w.alloc (.cells #[.string n.name, .string n.text, va, .int .i64 n.parent, vk] 31) = w0 at *
  refine HBy.out.mono ?_
  rintro e w1 ⟨rfl, b1⟩
  go_wp2_with fail
  go_ret
  exact ⟨rfl, chain B0.out b1⟩
set_option maxHeartbeats 4000000 in
set_option maxRecDepth 100000 in
theorem of_select (n : Nd) (va vk : Value) (w : World) (h : n.name = ⟨#[115, 101, 108, 101, 99, 116]⟩) :
    Calls Tryd.prog 40 #[.agg #[.string n.name, .string n.text, va, .int .i64 n.parent, vk]] w fun e w' => e = .returned (.int .i64 (23)) ∧ Below w.heap.size w w' := by
  have t0 : (n.name.toList == [105, 110, 112, 117, 116]) = false := by rw [h, ByteArray.toList_eq]; rfl
  have t1 : (n.name.toList == [115, 101, 108, 101, 99, 116]) = true := lit_yes h
  have t2 : (n.name.toList == [116, 101, 120, 116, 97, 114, 101, 97]) = false := by rw [h, ByteArray.toList_eq]; rfl
  have t3 : (n.name.toList == [98, 117, 116, 116, 111, 110]) = false := by rw [h, ByteArray.toList_eq]; rfl
  clear h
  have B0 : Hid (Below w.heap.size w (w.alloc (.cells #[.string n.name, .string n.text, va, .int .i64 n.parent, vk] 31))) := (Below.refl _ w).alloc (Nat.le_refl _) _
  have k0 : (w.alloc (.cells #[.string n.name, .string n.text, va, .int .i64 n.parent, vk] 31)).cell? ⟨w.heap.size, 0, none⟩ = some (.string n.name) := by simp
  have k1 : (w.alloc (.cells #[.string n.name, .string n.text, va, .int .i64 n.parent, vk] 31)).cell? ⟨w.heap.size, 1, none⟩ = some (.string n.text) := by simp
  have k2 : (w.alloc (.cells #[.string n.name, .string n.text, va, .int .i64 n.parent, vk] 31)).cell? ⟨w.heap.size, 2, none⟩ = some (va) := by simp
  have k3 : (w.alloc (.cells #[.string n.name, .string n.text, va, .int .i64 n.parent, vk] 31)).cell? ⟨w.heap.size, 3, none⟩ = some (.int .i64 n.parent) := by simp
  have k4 : (w.alloc (.cells #[.string n.name, .string n.text, va, .int .i64 n.parent, vk] 31)).cell? ⟨w.heap.size, 4, none⟩ = some (vk) := by simp
  go_enter Tryd.func40, Tryd.ntmps40
  go_wp2_with fail
  go_ret
  exact ⟨rfl, B0.out⟩
set_option maxHeartbeats 4000000 in
set_option maxRecDepth 100000 in
theorem of_textarea (n : Nd) (va vk : Value) (w : World) (h : n.name = ⟨#[116, 101, 120, 116, 97, 114, 101, 97]⟩) :
    Calls Tryd.prog 40 #[.agg #[.string n.name, .string n.text, va, .int .i64 n.parent, vk]] w fun e w' => e = .returned (.int .i64 (24)) ∧ Below w.heap.size w w' := by
  have t0 : (n.name.toList == [105, 110, 112, 117, 116]) = false := by rw [h, ByteArray.toList_eq]; rfl
  have t1 : (n.name.toList == [115, 101, 108, 101, 99, 116]) = false := by rw [h, ByteArray.toList_eq]; rfl
  have t2 : (n.name.toList == [116, 101, 120, 116, 97, 114, 101, 97]) = true := lit_yes h
  have t3 : (n.name.toList == [98, 117, 116, 116, 111, 110]) = false := by rw [h, ByteArray.toList_eq]; rfl
  clear h
  have B0 : Hid (Below w.heap.size w (w.alloc (.cells #[.string n.name, .string n.text, va, .int .i64 n.parent, vk] 31))) := (Below.refl _ w).alloc (Nat.le_refl _) _
  have k0 : (w.alloc (.cells #[.string n.name, .string n.text, va, .int .i64 n.parent, vk] 31)).cell? ⟨w.heap.size, 0, none⟩ = some (.string n.name) := by simp
  have k1 : (w.alloc (.cells #[.string n.name, .string n.text, va, .int .i64 n.parent, vk] 31)).cell? ⟨w.heap.size, 1, none⟩ = some (.string n.text) := by simp
  have k2 : (w.alloc (.cells #[.string n.name, .string n.text, va, .int .i64 n.parent, vk] 31)).cell? ⟨w.heap.size, 2, none⟩ = some (va) := by simp
  have k3 : (w.alloc (.cells #[.string n.name, .string n.text, va, .int .i64 n.parent, vk] 31)).cell? ⟨w.heap.size, 3, none⟩ = some (.int .i64 n.parent) := by simp
  have k4 : (w.alloc (.cells #[.string n.name, .string n.text, va, .int .i64 n.parent, vk] 31)).cell? ⟨w.heap.size, 4, none⟩ = some (vk) := by simp
  go_enter Tryd.func40, Tryd.ntmps40
  go_wp2_with fail
  go_ret
  exact ⟨rfl, B0.out⟩
set_option maxHeartbeats 4000000 in
set_option maxRecDepth 100000 in
theorem of_button (n : Nd) (va vk : Value) (w : World) (hT : KTabs w) (ha : AttrsV w va n.attrs) (hl : n.attrs.length ≤ 4398046511104) (hs : ∀ a ∈ n.attrs, a.2.size ≤ 140737488351232) (h : n.name = ⟨#[98, 117, 116, 116, 111, 110]⟩) :
    Calls Tryd.prog 40 #[.agg #[.string n.name, .string n.text, va, .int .i64 n.parent, vk]] w fun e w' => e = .returned (.int .i64 (byT (tyOf n.attrs) 25 27 25)) ∧ Below w.heap.size w w' := by
  have t0 : (n.name.toList == [105, 110, 112, 117, 116]) = false := by rw [h, ByteArray.toList_eq]; rfl
  have t1 : (n.name.toList == [115, 101, 108, 101, 99, 116]) = false := by rw [h, ByteArray.toList_eq]; rfl
  have t2 : (n.name.toList == [116, 101, 120, 116, 97, 114, 101, 97]) = false := by rw [h, ByteArray.toList_eq]; rfl
  have t3 : (n.name.toList == [98, 117, 116, 116, 111, 110]) = true := lit_yes h
  clear h
  have B0 : Hid (Below w.heap.size w (w.alloc (.cells #[.string n.name, .string n.text, va, .int .i64 n.parent, vk] 31))) := (Below.refl _ w).alloc (Nat.le_refl _) _
  have k0 : (w.alloc (.cells #[.string n.name, .string n.text, va, .int .i64 n.parent, vk] 31)).cell? ⟨w.heap.size, 0, none⟩ = some (.string n.name) := by simp
  have k1 : (w.alloc (.cells #[.string n.name, .string n.text, va, .int .i64 n.parent, vk] 31)).cell? ⟨w.heap.size, 1, none⟩ = some (.string n.text) := by simp
  have k2 : (w.alloc (.cells #[.string n.name, .string n.text, va, .int .i64 n.parent, vk] 31)).cell? ⟨w.heap.size, 2, none⟩ = some (va) := by simp
  have k3 : (w.alloc (.cells #[.string n.name, .string n.text, va, .int .i64 n.parent, vk] 31)).cell? ⟨w.heap.size, 3, none⟩ = some (.int .i64 n.parent) := by simp
  have k4 : (w.alloc (.cells #[.string n.name, .string n.text, va, .int .i64 n.parent, vk] 31)).cell? ⟨w.heap.size, 4, none⟩ = some (vk) := by simp
  have HBy := hide (byType_any n va vk 25 27 25 (w.alloc (.cells #[.string n.name, .string n.text, va, .int .i64 n.parent, vk] 31)) (hT.below B0.out) (ha.below B0.out) hl hs)
  clear hT ha hl hs
  go_enter Tryd.func40, Tryd.ntmps40
  go_wp2_with fail
  generalize w.alloc (.cells #[.string n.name, .string n.text, va, .int .i64 n.parent, vk] 31) = w0 at *
  refine HBy.out.mono ?_
  rintro e w1 ⟨rfl, b1⟩
  go_wp2_with fail
  go_ret
  exact ⟨rfl, chain B0.out b1⟩
def lastI (A : Option Nat) : Int := match A with
  | none => 0
  | some i => 28 + (i : Int)
set_option maxHeartbeats 4000000 in
set_option maxRecDepth 100000 in
theorem of_last (n : Nd) (va vk : Value) (w : World) (hT : KTabs w) (h0 : ¬ n.name = ⟨#[105, 110, 112, 117, 116]⟩) (h1 : ¬ n.name = ⟨#[115, 101, 108, 101, 99, 116]⟩) (h2 : ¬ n.name = ⟨#[116, 101, 120, 116, 97, 114, 101, 97]⟩) (h3 : ¬ n.name = ⟨#[98, 117, 116, 116, 111, 110]⟩) :
    Calls Tryd.prog 40 #[.agg #[.string n.name, .string n.text, va, .int .i64 n.parent, vk]] w fun e w' => e = .returned (.int .i64 (lastI (seekL n.name 8 0))) ∧ Below w.heap.size w w' := by
  have TB := hide (fun k => txt_beq n.name (lastN k))
  have t0 := lit_no (l := [105, 110, 112, 117, 116]) h0
  have t1 := lit_no (l := [115, 101, 108, 101, 99, 116]) h1
  have t2 := lit_no (l := [116, 101, 120, 116, 97, 114, 101, 97]) h2
  have t3 := lit_no (l := [98, 117, 116, 116, 111, 110]) h3
  clear h0 h1 h2 h3
  have B0 : Hid (Below w.heap.size w (w.alloc (.cells #[.string n.name, .string n.text, va, .int .i64 n.parent, vk] 31))) := (Below.refl _ w).alloc (Nat.le_refl _) _
  have k0 : (w.alloc (.cells #[.string n.name, .string n.text, va, .int .i64 n.parent, vk] 31)).cell? ⟨w.heap.size, 0, none⟩ = some (.string n.name) := by simp
  have k1 : (w.alloc (.cells #[.string n.name, .string n.text, va, .int .i64 n.parent, vk] 31)).cell? ⟨w.heap.size, 1, none⟩ = some (.string n.text) := by simp
  have k2 : (w.alloc (.cells #[.string n.name, .string n.text, va, .int .i64 n.parent, vk] 31)).cell? ⟨w.heap.size, 2, none⟩ = some (va) := by simp
  have k3 : (w.alloc (.cells #[.string n.name, .string n.text, va, .int .i64 n.parent, vk] 31)).cell? ⟨w.heap.size, 3, none⟩ = some (.int .i64 n.parent) := by simp
  have k4 : (w.alloc (.cells #[.string n.name, .string n.text, va, .int .i64 n.parent, vk] 31)).cell? ⟨w.heap.size, 4, none⟩ = some (vk) := by simp
  have T0 := hT.below B0.out
  obtain ⟨CS, hld, hin, hix⟩ := load_last (w.alloc (.cells #[.string n.name, .string n.text, va, .int .i64 n.parent, vk] 31)) T0
  have HIX := hide hix
  have HLD := hide hld
  have HIN := hide hin
  clear hix hld hin
  obtain ⟨A, hA⟩ : ∃ A, Hid (seekL n.name 8 0 = A) := ⟨_, show _ = _ from rfl⟩
  rw [hA.out]
  clear hT T0
  go_enter Tryd.func40, Tryd.ntmps40
  generalize n.name = nm at *
  go_upto_region 10 with fail
  refine wp_region_lit ?_
  refine wpList_load_mid rfl 74 _ rfl 0 0 rfl CS _ HLD.out Tryd.underlying74 rfl HIN.out ?_
  generalize CS.toArray = CA at *
  go_wp2_with fail
  generalize w.alloc (.cells #[.string nm, .string n.text, va, .int .i64 n.parent, vk] 31) = w0 at *
  go_loop [20] (fun iv => ∃ k : Nat, k ≤ 8 ∧ iv = .int .i64 k ∧ Hid (seekL nm (8 - k) k = A)) (fun iv => 8 - (intOf iv).toNat)
  case atStart => exact ⟨0, Nat.zero_le _, rfl, hA⟩
  case round =>
    obtain ⟨k, hk, rfl, hn⟩ := hrel
    clear hA
    by_cases hlt : k < 8
    · have hix := HIX.out k hlt w0
      have kk : (k : Int) < 8 := by omega
      have ST := hide (hn.out.symm.trans (seekL_step nm k hlt))
      have TK := hide (TB.out k)
      by_cases he : lastN k = nm
      · have q : (nm.toList == (lastN k).toList) = true := by rw [TK.out]; exact decide_eq_true he.symm
        rw [if_pos he] at ST
        clear hn he TB
        generalize lastN k = x at *
        go_wp2_with fail
        go_ret
        exact ⟨by rw [ST.out]; rfl, B0.out⟩
      · have q : (nm.toList == (lastN k).toList) = false := by rw [TK.out]; exact decide_eq_false (fun t => he t.symm)
        rw [if_neg he] at ST
        clear hn he TB
        generalize lastN k = x at *
        go_wp2_with fail
        go_round
        case rel => exact ⟨k + 1, by omega, by go_num, ST.out.symm⟩
        case measure => simp [intOf]; omega
    · obtain rfl : k = 8 := by omega
      have N : Hid (A = none) := hn.out.symm
      clear hn hlt
      go_wp2_with fail
      go_ret
      exact ⟨by rw [N.out]; rfl, B0.out⟩
theorem of_any (n : Nd) (va vk : Value) (w : World) (hT : KTabs w) (ha : AttrsV w va n.attrs) (hl : n.attrs.length ≤ 4398046511104) (hs : ∀ a ∈ n.attrs, a.2.size ≤ 140737488351232) :
    Calls Tryd.prog 40 #[.agg #[.string n.name, .string n.text, va, .int .i64 n.parent, vk]] w fun e w' => e = .returned (.int .i64 (kOf n.name (tyOf n.attrs))) ∧ Below w.heap.size w w' := by
  by_cases h0 : n.name = ⟨#[105, 110, 112, 117, 116]⟩
  · rw [show kOf n.name (tyOf n.attrs) = byT (tyOf n.attrs) 1 22 2 from by unfold kOf; rw [if_pos h0]]
    exact of_input n va vk w hT ha hl hs h0
  by_cases h1 : n.name = ⟨#[115, 101, 108, 101, 99, 116]⟩
  · rw [show kOf n.name (tyOf n.attrs) = 23 from by unfold kOf; rw [if_neg h0, if_pos h1]]
    exact of_select n va vk w h1
  by_cases h2 : n.name = ⟨#[116, 101, 120, 116, 97, 114, 101, 97]⟩
  · rw [show kOf n.name (tyOf n.attrs) = 24 from by unfold kOf; rw [if_neg h0, if_neg h1, if_pos h2]]
    exact of_textarea n va vk w h2
  by_cases h3 : n.name = ⟨#[98, 117, 116, 116, 111, 110]⟩
  · rw [show kOf n.name (tyOf n.attrs) = byT (tyOf n.attrs) 25 27 25 from by unfold kOf; rw [if_neg h0, if_neg h1, if_neg h2, if_pos h3]]
    exact of_button n va vk w hT ha hl hs h3
  rw [show kOf n.name (tyOf n.attrs) = lastI (seekL n.name 8 0) from by unfold kOf; rw [if_neg h0, if_neg h1, if_neg h2, if_neg h3]; rfl]
  exact of_last n va vk w hT h0 h1 h2 h3
end Go.Proofs.YtnojgejcmaajmaaDoor

namespace Go.Proofs.YtnojgejcmaajmaaDoor
open Go.RowKit
set_option maxRecDepth 100000
theorem alone_tx {n : Nd} (h : noName n.name = true) : aloneB n = (n.attrs.isEmpty && (n.kids.isEmpty && decide (n.text.size ≤ 4000))) := by
  unfold aloneB
  have : n.name.size = 0 := by unfold noName at h; exact beq_iff_eq.1 h
  rw [if_pos this]
theorem alone_elem {n : Nd} (h : noName n.name = false) : aloneB n = (nameOk n.name && (n.text.size == 0 && attrsB n.attrs)) := by
  unfold aloneB attrsB
  have : ¬ n.name.size = 0 := by unfold noName at h; rw [beq_eq_false_iff_ne] at h; exact h
  rw [if_neg this]
theorem len_nil {α : Type} (l : List α) : ((l.length : Int) == 0) = l.isEmpty := by
  cases l with
  | nil => rfl
  | cons a t => show (((t.length + 1 : Nat) : Int) == 0) = false; rw [beq_eq_false_iff_ne]; omega
theorem noName_list (n : ByteArray) : (n.toList == []) = noName n := by
  cases q : noName n with
  | true => rw [noName_true q, ByteArray.toList_eq]; rfl
  | false => rw [beq_eq_false_iff_ne]; exact noName_false q
set_option maxHeartbeats 2000000 in
theorem isFormed_any (b o : Nat) (n : Nd) (va vk : Value) (w : World) (hn : NodeAt w b o n va vk) (hz : NdSz n) :
    Calls Tryd.prog 30 #[.pointer (some ⟨b, o, none⟩)] w fun e w' => e = .returned (.bool (aloneB n)) ∧ Below w.heap.size w w' := by
  have c0 := hn.name
  have c1 := hn.text
  have c2 := hn.attrs
  have c3 := hn.parent
  have c4 := hn.kids
  have z0 := hz.name
  have z1 := hz.text
  have HT := hide (fun w => isText_any n.name n.text va n.parent vk w)
  obtain ⟨pa, ca, ea, ha⟩ := hn.at_
  obtain ⟨pk, ck, ek, hk⟩ := hn.ks
  have hcap := hn.cap _ _ _ ea
  subst ea ek
  have za := hz.attrs
  have zk := hz.kids
  have HA := hide (fun W (hb : Below w.heap.size w W) => areAttrs_any pa ca n.attrs W (hn.at_.below hb) hz.attrs hcap hz.attr)
  have HN := hide (fun W => isName_any n.name W hz.name)
  unfold maxLen at z0 z1
  have CB : Hid (∀ W, Below w.heap.size w W → NodeAt W b o n _ _) := fun W hb => hn.below hb
  have LA := hide (len_nil n.attrs)
  have LK := hide (len_nil n.kids)
  have AT := hide (fun h => alone_tx (n := n) h)
  have AE := hide (fun h => alone_elem (n := n) h)
  clear ha hk hn hz hcap
  cases q : noName n.name with
  | true =>
    have E := AT.out q
    rw [q] at HT
    have EE := hide E
    clear E AT AE HN HA
    by_cases r1 : n.text.size ≤ 4000
    · rw [decide_eq_true r1, Bool.and_true] at EE
      have i1 : (n.text.size : Int) ≤ 4000 := by omega
      have i2 : decide ((n.text.size : Int) ≤ 4000) = true := decide_eq_true i1
      cases r2 : n.attrs.isEmpty with
      | true =>
        rw [r2] at EE LA
        have la := LA.out
        cases r3 : n.kids.isEmpty with
        | true =>
          rw [r3] at EE LK
          have lk := LK.out
          clear r2 r3 LA LK
          go_enter Tryd.func30, Tryd.ntmps30
          go_wp2_with fail
          refine (HT.out _).mono ?_
          rintro e w1 ⟨rfl, b1⟩
          have C := CB.out w1 b1
          have c0 := C.name
          have c1 := C.text
          have c2 := C.attrs
          have c4 := C.kids
          clear C CB
          go_wp2_with fail
          go_ret
          exact ⟨ret_bool EE.out.symm, b1⟩
        | false =>
          rw [r3] at EE LK
          have lk := LK.out
          clear r2 r3 LA LK
          go_enter Tryd.func30, Tryd.ntmps30
          go_wp2_with fail
          refine (HT.out _).mono ?_
          rintro e w1 ⟨rfl, b1⟩
          have C := CB.out w1 b1
          have c0 := C.name
          have c1 := C.text
          have c2 := C.attrs
          have c4 := C.kids
          clear C CB
          go_wp2_with fail
          go_ret
          exact ⟨ret_bool EE.out.symm, b1⟩
      | false =>
        rw [r2, Bool.false_and] at EE
        rw [r2] at LA
        have la := LA.out
        clear r2 LA LK
        go_enter Tryd.func30, Tryd.ntmps30
        go_wp2_with fail
        refine (HT.out _).mono ?_
        rintro e w1 ⟨rfl, b1⟩
        have C := CB.out w1 b1
        have c0 := C.name
        have c1 := C.text
        have c2 := C.attrs
        have c4 := C.kids
        clear C CB
        go_wp2_with fail
        go_ret
        exact ⟨ret_bool EE.out.symm, b1⟩
    · rw [decide_eq_false r1, Bool.and_false, Bool.and_false] at EE
      have i1 : ¬ (n.text.size : Int) ≤ 4000 := by omega
      have i2 : decide ((n.text.size : Int) ≤ 4000) = false := decide_eq_false i1
      clear r1 LA LK
      go_enter Tryd.func30, Tryd.ntmps30
      go_wp2_with fail
      refine (HT.out _).mono ?_
      rintro e w1 ⟨rfl, b1⟩
      have C := CB.out w1 b1
      have c0 := C.name
      have c1 := C.text
      have c2 := C.attrs
      have c4 := C.kids
      clear C CB
      go_wp2_with fail
      go_ret
      exact ⟨ret_bool EE.out.symm, b1⟩
  | false =>
    have EE := hide (AE.out q)
    rw [q] at HT
    clear AT AE LA LK
    cases r1 : nameOk n.name with
    | false =>
      rw [r1, Bool.false_and] at EE
      rw [r1] at HN
      clear r1 HA
      go_enter Tryd.func30, Tryd.ntmps30
      go_wp2_with fail
      refine (HT.out _).mono ?_
      rintro e w1 ⟨rfl, b1⟩
      have C := CB.out w1 b1
      have c0 := C.name
      have c1 := C.text
      have c2 := C.attrs
      have c4 := C.kids
      clear C CB
      go_wp2_with fail
      refine (HN.out _).mono ?_
      rintro e w2 ⟨rfl, hw⟩
      obtain rfl : w1 = w2 := hw.symm
      go_wp2_with fail
      go_ret
      exact ⟨ret_bool EE.out.symm, b1⟩
    | true =>
      rw [r1, Bool.true_and] at EE
      rw [r1] at HN
      clear r1
      have T1 := hide (noName_list n.text)
      cases r2 : noName n.text with
      | false =>
        have e5 : (n.text.size == 0) = false := r2
        rw [e5, Bool.false_and] at EE
        have e1 := noName_false r2
        have e2 : n.text.toList.isEmpty = false := by cases h : n.text.toList with
          | nil => exact absurd h e1
          | cons => rfl
        rw [r2] at T1
        have e3 := T1.out
        clear r2 e5 T1 HA
        go_enter Tryd.func30, Tryd.ntmps30
        go_wp2_with fail
        refine (HT.out _).mono ?_
        rintro e w1 ⟨rfl, b1⟩
        have C := CB.out w1 b1
        have c0 := C.name
        have c1 := C.text
        have c2 := C.attrs
        have c4 := C.kids
        clear C CB
        go_wp2_with fail
        refine (HN.out _).mono ?_
        rintro e w2 ⟨rfl, hw⟩
        obtain rfl : w1 = w2 := hw.symm
        go_wp2_with fail
        go_ret
        exact ⟨ret_bool EE.out.symm, b1⟩
      | true =>
        have e5 : (n.text.size == 0) = true := r2
        rw [e5, Bool.true_and] at EE
        have et := noName_true r2
        rw [et] at c1 HT
        have ET := hide et
        clear r2 e5 T1 et z1
        go_enter Tryd.func30, Tryd.ntmps30
        go_wp2_with fail
        refine (HT.out _).mono ?_
        rintro e w1 ⟨rfl, b1⟩
        have C := CB.out w1 b1
        have c0 := C.name
        have c1 := C.text
        rw [ET.out] at c1
        have c2 := C.attrs
        have c4 := C.kids
        clear C CB
        go_wp2_with fail
        refine (HN.out _).mono ?_
        rintro e w2 ⟨rfl, hw⟩
        obtain rfl : w1 = w2 := hw.symm
        go_wp2_with fail
        refine (HA.out _ b1).mono ?_
        rintro e w3 ⟨rfl, b3⟩
        go_wp2_with fail
        go_ret
        exact ⟨ret_bool EE.out.symm, chain b1 b3⟩
end Go.Proofs.YtnojgejcmaajmaaDoor

namespace Go.Proofs.YtnojgejcmaajmaaDoor
open Go.RowKit
theorem kidsI_at {l : List Nd} {m : Nat} (h : m < l.length) : kidsI l (m : Int) = l[m].kids := by unfold kidsI; rw [Int.toNat_natCast, nd_at h]
set_option maxHeartbeats 4000000 in
set_option maxRecDepth 100000 in
theorem down_any (w0 : World) (v : Value) (l : List Nd) (hv : NodesV w0 v l) : ∀ (f : Nat) (k : Int) (xs : List Int) (lv : Value) (w : World), Below w0.heap.size w0 w → KidsO w0.heap.size w lv xs → Sub l f k → xs.length + (downF l f k).length ≤ 17592186044416 →
    Calls Tryd.prog 48 #[lv, v, .int .i64 k] w fun e w' => ∃ v', e = .returned v' ∧ KidsO w0.heap.size w' v' (xs ++ downF l f k) ∧ Below w0.heap.size w0 w' := by
  intro f
  induction f with
  | zero => intro k xs lv w _ _ h _; exact h.elim
  | succ f ih =>
    intro k xs lv w hb hown hs hsz
    obtain ⟨m, rfl⟩ : ∃ m : Nat, k = (m : Int) := ⟨k.toNat, by have := hs.1.1; omega⟩
    have hm : m < l.length := by have := hs.1.2; omega
    have IH := hide ih
    have KD := hide hs.2
    rw [kidsI_at hm] at KD
    have e1 : downF l (f + 1) (m : Int) = (m : Int) :: l[m].kids.flatMap (downF l f) := by show _ :: (kidsI l (m : Int)).flatMap _ = _; rw [kidsI_at hm]
    rw [e1] at hsz ⊢
    rw [List.length_cons] at hsz
    clear ih hs e1
    obtain ⟨p, c, rfl, hv⟩ := hv
    rcases hv with hv | ⟨b, o, rfl, hv⟩
    · rw [hv] at hm; simp at hm
    obtain ⟨va, vk, N0⟩ := hv m hm
    have NW : Hid (∀ W, Below w0.heap.size w0 W → NodeAt W b (o + m * 5) l[m] va vk) := fun W hW => N0.below hW
    obtain ⟨pk, ck, rfl, hk⟩ := N0.ks
    have HK := hide hk
    have i0 : (0 : Int) ≤ (m : Int) := by omega
    have i1 : (m : Int) < (l.length : Int) := by omega
    obtain ⟨iI, hI0, hI1, hI2, hI3⟩ := info_parts infoI
    generalize hB : w0.heap.size = B at *
    have Bw : B ≤ w.heap.size := by have := hb.size; omega
    have OW := hide (World.ownsRow.alloc hown (.cells #[.int .i64 (m : Int)] 3))
    have RW := hide ((NB.new w [.int .i64 (m : Int)] 3).raw 1 1 rfl 1)
    have SZ := hide hsz
    have HB := hide hb
    have h1 : xs.length + 1 ≤ 17592186044416 := by omega
    have hBa : Hid (B ≤ (w.alloc (.cells #[.int .i64 (m : Int)] 3)).heap.size) := by show _ ≤ _; simp; omega
    have ksz : l[m].kids.length ≤ 17592186044416 := by
      have F : ∀ L : List Int, (∀ x ∈ L, Sub l f x) → L.length ≤ (L.flatMap (downF l f)).length := by
        intro L
        induction L with
        | nil => intro _; exact Nat.zero_le _
        | cons a t iht =>
          intro hL
          rw [List.flatMap_cons, List.length_append, List.length_cons]
          have := iht (fun x hx => hL x (List.mem_cons_of_mem _ hx))
          have := List.length_pos_of_mem (down_self (hL a (List.mem_cons_self ..)))
          omega
      have := F l[m].kids KD.out
      omega
    clear hv N0 hk hown hb hsz
    go_enter Tryd.func48, Tryd.ntmps48
    go_wp2_with (at_builtin; refine wpList_append_raw rfl _ _ _ rfl B 3 iI _ 1 8 Tryd.underlying29 hI0 hI1 hI2 hI3 rfl (by omega) _ xs.length (cellsI xs) rfl OW.out _ 1 _ rfl RW.out (by simp [Value.oneCell']) (by unfold maxLen; omega) (by omega) hBa.out ?_; intro q1 c1 w1 own1 gr1 at1; have B1 : Hid (Below B w0 w1) := HB.out.trans (((Chg.alloc w _).nil.trans (Chg.of_grown gr1)).below Bw (fun k hk => (OW.out.lt k (opt_mem.1 hk)).1)); have a4 := (NW.out w1 B1.out).kids)
    have K1 : Hid (KidsO B w1 (.slice q1 (xs.length + 1) c1) (xs ++ [(m : Int)])) := by
      have := own1
      show w1.ownsRow B _ 1 _ (xs ++ [(m : Int)]).length (cellsI (xs ++ [(m : Int)]))
      rw [List.length_append, cellsI_app]
      exact own1
    clear own1 gr1 at1 OW RW hBa HB
    go_loopw [0, 19] (fun sv iv wr => ∃ j : Nat, j ≤ l[m].kids.length ∧ iv = .int .i64 j ∧ Hid (KidsO B wr sv (xs ++ (m : Int) :: (l[m].kids.take j).flatMap (downF l f))) ∧ Hid (Below B w0 wr)) (fun _ iv _ => l[m].kids.length - (intOf iv).toNat)
    case atStart => exact ⟨0, Nat.zero_le _, rfl, by show KidsO _ _ _ _; rw [List.take_zero]; exact K1.out, B1.out⟩
    case round =>
      rename World => wr
      obtain ⟨j, hj, rfl, KO, BW⟩ := hrel
      clear a4 K1 B1
      by_cases h : j < l[m].kids.length
      · have j1 : (j : Int) < (l[m].kids.length : Int) := by omega
        have j0 : (0 : Int) ≤ (j : Int) := by omega
        obtain ⟨bk, ok, rfl, hk⟩ : ∃ bk ok, pk = some ⟨bk, ok, none⟩ ∧ ∀ i (h : i < l[m].kids.length), w0.cell? ⟨bk, ok + i, none⟩ = some (.int .i64 l[m].kids[i]) := by
          rcases HK.out with q | q
          · rw [q] at h; simp at h
          · exact q
        have a5 := cell_below (hk j h) (by rw [hB]; exact BW.out)
        have SK := KD.out l[m].kids[j] (List.getElem_mem _)
        have e2 : l[m].kids.take (j + 1) = l[m].kids.take j ++ [l[m].kids[j]] := List.take_succ_eq_append_getElem h
        have e3 : (l[m].kids.take (j + 1)).flatMap (downF l f) = (l[m].kids.take j).flatMap (downF l f) ++ downF l f l[m].kids[j] := by rw [e2, List.flatMap_append, List.flatMap_singleton]
        have L1 : ((l[m].kids.take (j + 1)).flatMap (downF l f)).length ≤ (l[m].kids.flatMap (downF l f)).length := by
          have : l[m].kids = l[m].kids.take (j + 1) ++ l[m].kids.drop (j + 1) := (List.take_append_drop _ _).symm
          have e4 := congrArg (fun L => (L.flatMap (downF l f)).length) this
          simp only [List.flatMap_append, List.length_append] at e4
          omega
        have HC := IH.out l[m].kids[j] _ _ wr BW.out KO.out SK (by
          rw [e3, List.length_append] at L1
          rw [List.length_append, List.length_cons]
          have := SZ.out
          omega)
        rw [List.append_assoc, List.cons_append, ← e3] at HC
        have HC := hide HC
        clear hk SK e2 e3 L1 KO
        generalize l[m].kids[j] = kc at *
        go_wp2_with fail
        refine HC.out.mono ?_
        rintro e w2 ⟨v2, rfl, k2, b2⟩
        go_wp2_with fail
        go_roundw
        case rel => exact ⟨j + 1, by omega, by go_num, k2, b2⟩
        case measure => simp [intOf]; omega
      · obtain rfl : j = l[m].kids.length := by omega
        go_wp2_with fail
        go_ret
        refine ⟨_, rfl, ?_, BW.out⟩
        have := KO.out
        rw [List.take_length] at this
        exact this

end Go.Proofs.YtnojgejcmaajmaaDoor
