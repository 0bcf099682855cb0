/- The document's Right of layer 10. The document's Has, Within, Attr, Top, Up of layer 10. The document's Order of layer 10. The document's ByID of layer 10. Which form a control belongs to, a form's elements, a label's control, what is disabled, as functions of documents. -/
import Derived.Test.YtldbaoolddlacaaDoorJgd5
import Derived.Test.YtldbaoolddlacaaDoorJgd9
import Derived.Test.YtldbaoolddlacaaDoorJgd10
import Derived.Test.YtldbaoolddlacaaDoorJgd12
import Derived.Test.YtldbaoolddlacaaDoorJgd13
import Derived.OwnWalk

namespace Go.Proofs.YtldbaoolddlacaaDoor
open Go.RowKit
set_option maxRecDepth 100000
/-- Lengths that a machine has. -/
structure NdSz (n : Nd) : Prop where
  name : n.name.size ≤ maxLen
  text : n.text.size ≤ maxLen
  attr : ∀ a ∈ n.attrs, a.1.size ≤ maxLen ∧ a.2.size ≤ maxLen
  attrs : n.attrs.length ≤ 4398046511104
  kids : n.kids.length ≤ 17592186044416
  tx : ∀ a ∈ n.attrs, a.2.size ≤ 140737488351232
structure DocSz (l : List Nd) : Prop where
  len : l.length ≤ 1599289640354
  nds : ∀ n ∈ l, NdSz n
theorem nd_at {l : List Nd} {i : Nat} (h : i < l.length) : nd l i = l[i] := by unfold nd; simp [List.getD, h]
theorem right_len {l : List Nd} (h : ¬ (1 ≤ l.length ∧ l.length ≤ 400)) : rightB l = false := by unfold rightB; rw [decide_eq_false h]; rfl
theorem right_head {l : List Nd} (h : (nd l 0).name.size = 0 ∨ ¬ (nd l 0).parent = -1) : rightB l = false := by
  unfold rightB
  rcases h with h | h
  · rw [h]; simp
  · rw [show ((nd l 0).parent == -1) = false by rw [beq_eq_false_iff_ne]; exact h]; simp
theorem right_node {l : List Nd} {i : Nat} (hi : i < l.length) (h : nodeOk l i = false) : rightB l = false := by
  have : (List.range l.length).all (nodeOk l) = false := by
    rw [List.all_eq_false]
    exact ⟨i, List.mem_range.2 hi, by rw [h]; simp⟩
  unfold rightB
  rw [this]; simp
theorem right_climb {l : List Nd} {i : Nat} (hi : i < l.length) (h : ¬ climb l (l.length + 1) i < 0) : rightB l = false := by
  have : ((List.range l.length).all fun i => decide (climb l (l.length + 1) i < 0)) = false := by
    rw [List.all_eq_false]
    exact ⟨i, List.mem_range.2 hi, by rw [decide_eq_false h]; simp⟩
  unfold rightB
  rw [this]; simp
theorem right_yes {l : List Nd} (h1 : 1 ≤ l.length ∧ l.length ≤ 400) (h2 : ¬ (nd l 0).name.size = 0) (h3 : (nd l 0).parent = -1) (h4 : ∀ i, i < l.length → nodeOk l i = true) (h5 : ∀ i : Nat, i < l.length → climb l (l.length + 1) i < 0) : rightB l = true := by
  unfold rightB
  rw [decide_eq_true h1, h3]
  have e2 : ((nd l 0).name.size == 0) = false := by rw [beq_eq_false_iff_ne]; exact h2
  have e4 : (List.range l.length).all (nodeOk l) = true := List.all_eq_true.2 fun i hi => h4 i (List.mem_range.1 hi)
  have e5 : ((List.range l.length).all fun i => decide (climb l (l.length + 1) i < 0)) = true := List.all_eq_true.2 fun i hi => decide_eq_true (h5 i (List.mem_range.1 hi))
  rw [e2, e4, e5]; rfl
/-- A node among the others, by its parts. -/
theorem nodeOk_at {l : List Nd} {i : Nat} (h : i < l.length) : nodeOk l i = (aloneB l[i] && (decide (-1 ≤ l[i].parent ∧ l[i].parent < l.length) && ((decide (l[i].parent < 0) || cntI (nd l l[i].parent.toNat).kids i == 1) && l[i].kids.all (kidOk l i)))) := by
  unfold nodeOk
  rw [nd_at h]
theorem kid_no {l : List Nd} {i : Nat} {ks : List Int} {k : Nat} (hk : k < ks.length) (h : kidOk l i ks[k] = false) : ks.all (kidOk l i) = false := by
  rw [List.all_eq_false]
  exact ⟨ks[k], List.getElem_mem _, by rw [h]; simp⟩
theorem kid_all {l : List Nd} {i : Nat} {ks : List Int} (h : ∀ k (_ : k < ks.length), kidOk l i ks[k] = true) : ks.all (kidOk l i) = true := by
  rw [List.all_eq_true]
  intro c hc
  obtain ⟨k, hk, rfl⟩ := List.getElem_of_mem hc
  exact h k hk
theorem kid_low {l : List Nd} {i : Nat} {c : Int} (h : ¬ (0 ≤ c ∧ c < l.length)) : kidOk l i c = false := by unfold kidOk; rw [decide_eq_false h]; rfl
theorem kid_at {l : List Nd} {i m : Nat} (h : m < l.length) : kidOk l i (m : Int) = (l[m].parent == (i : Int)) := by
  unfold kidOk parI
  rw [decide_eq_true (by omega), Bool.true_and, Int.toNat_natCast, nd_at h]
theorem climb_done {l : List Nd} : ∀ (n : Nat) {k : Int}, k < 0 → climb l n k = k
  | 0, _, _ => rfl
  | n + 1, k, h => by show (if k < 0 then k else _) = k; rw [if_pos h]
theorem climb_up {l : List Nd} {n m : Nat} (h : m < l.length) : climb l (n + 1) (m : Int) = climb l n l[m].parent := by
  show (if (m : Int) < 0 then _ else climb l n (parI l m)) = _
  rw [if_neg (by omega)]
  unfold parI
  rw [Int.toNat_natCast, nd_at h]
set_option maxHeartbeats 8000000 in
set_option maxRecDepth 100000 in
theorem refDocRight_any (v : Value) (l : List Nd) (w : World) (hv : NodesV w v l) (hz : DocSz l) :
    Calls Tryd.prog 45 #[v] w fun e w' => e = .returned (.bool (rightB l)) ∧ Below w.heap.size w w' := by
  have hlen := hz.len
  have SZ := hide hz
  clear hz
  by_cases h1 : l.length < 1
  · obtain ⟨p, c, rfl, hv⟩ := hv
    have i1 : (l.length : Int) < 1 := by omega
    have E := hide (right_len (l := l) (by omega))
    clear h1 hv
    go_enter Tryd.func45, Tryd.ntmps45
    go_wp2_with fail
    go_ret
    exact ⟨ret_bool E.out.symm, Below.refl _ _⟩
  have i1 : ¬ (l.length : Int) < 1 := by omega
  by_cases h2 : 400 < l.length
  · obtain ⟨p, c, rfl, hv⟩ := hv
    have i2 : (400 : Int) < (l.length : Int) := by omega
    have E := hide (right_len (l := l) (by omega))
    clear h1 h2 hv
    go_enter Tryd.func45, Tryd.ntmps45
    go_wp2_with fail
    go_ret
    exact ⟨ret_bool E.out.symm, Below.refl _ _⟩
  have i2 : ¬ (400 : Int) < (l.length : Int) := by omega
  have i3 : l.length ≤ 400 := by omega
  have i4 : 0 < l.length := by omega
  have NV := hide hv
  obtain ⟨p, c, rfl, hv⟩ := hv
  rcases hv with hv | ⟨b, o, rfl, hv⟩
  · rw [hv] at i4; simp at i4
  obtain ⟨va0, vk0, hN0⟩ := hv 0 i4
  have c00 := hN0.name
  have c03 := hN0.parent
  rw [show o + 0 * 5 = o by omega] at c00 c03
  by_cases h3 : l[0].name.size = 0
  · have e3 : ((l[0].name.size : Int) == 0) = true := by rw [h3]; rfl
    have E := hide (right_head (l := l) (.inl (by rw [nd_at i4]; exact h3)))
    clear h1 h2 h3 hv NV hN0
    generalize l[0].name = nm at *
    go_enter Tryd.func45, Tryd.ntmps45
    go_wp2_with fail
    go_ret
    exact ⟨ret_bool E.out.symm, Below.refl _ _⟩
  have e3 : ((l[0].name.size : Int) == 0) = false := by rw [beq_eq_false_iff_ne]; omega
  by_cases h4 : l[0].parent = -1
  rotate_left
  · have e4 : (l[0].parent != -1) = true := by rw [bne_iff_ne]; exact h4
    have E := hide (right_head (l := l) (.inr (by rw [nd_at i4]; exact h4)))
    clear h1 h2 h3 h4 hv NV hN0
    generalize l[0].name = nm at *
    generalize l[0].parent = pr at *
    go_enter Tryd.func45, Tryd.ntmps45
    go_wp2_with fail
    go_ret
    exact ⟨ret_bool E.out.symm, Below.refl _ _⟩
  have e4 : (l[0].parent != -1) = false := by rw [bne_eq_false_iff_eq]; exact h4
  have NO := hide (fun i hi q => right_node (l := l) (i := i) hi q)
  have NC := hide (fun i hi q => right_climb (l := l) (i := i) hi q)
  have YES := hide (fun q1 q2 => right_yes (l := l) (by omega) (by rw [nd_at i4]; exact h3) (by rw [nd_at i4]; exact h4) q1 q2)
  have HV := hide hv
  clear h1 h2 h3 h4 hv hN0
  generalize l[0].name = nm at *
  generalize l[0].parent = pr at *
  go_enter Tryd.func45, Tryd.ntmps45
  go_wp2_with fail
  go_loopw [3] (fun iv wr => ∃ j : Nat, j ≤ l.length ∧ iv = .int .i64 j ∧ Hid (∀ m, m < j → nodeOk l m = true) ∧ Below w.heap.size w wr) (fun iv _ => l.length - (intOf iv).toNat)
  case atStart => exact ⟨0, Nat.zero_le _, rfl, fun m q => by omega, Below.refl _ _⟩
  case round =>
    obtain ⟨j, hj, rfl, hd, hb⟩ := hrel
    rename World => wr
    clear c00 c03 e3 e4
    by_cases h : j < l.length
    · have j1 : (j : Int) < (l.length : Int) := by omega
      obtain ⟨va, vk, hN0⟩ := HV.out j h
      have hN := hN0.below hb
      have n0 := hN.name
      have n1 := hN.text
      have n2 := hN.attrs
      have n3 := hN.parent
      have n4 := hN.kids
      have sz := SZ.out.nds l[j] (List.getElem_mem _)
      have HAl := hide (refAlone_any l[j] va vk wr hN.at_ hN.ks sz.attrs ⟨sz.name, sz.text, sz.attr⟩)
      unfold aggN at HAl
      have at1 := nodeOk_at h
      have BAD := NO.out j h
      have HN := hide hN
      clear hN hN0 sz NC YES
      cases k1 : aloneB l[j] with
      | false =>
        rw [k1] at HAl
        rw [k1, Bool.false_and] at at1
        have E := hide (BAD at1)
        clear at1 BAD k1 hd HN
        generalize l[j].name = y1 at *
        generalize l[j].text = y2 at *
        generalize l[j].parent = y3 at *
        go_wp2_with fail
        refine HAl.out.mono ?_
        rintro e u1 ⟨rfl, b1⟩
        go_wp2_with fail
        go_ret
        exact ⟨ret_bool E.out.symm, chain hb b1⟩
      | true =>
        rw [k1] at HAl
        rw [k1, Bool.true_and] at at1
        by_cases k2 : l[j].parent < -1
        · rw [decide_eq_false (by omega), Bool.false_and] at at1
          have E := hide (BAD at1)
          clear at1 BAD k1 hd HN
          generalize l[j].name = y1 at *
          generalize l[j].text = y2 at *
          generalize l[j].parent = y3 at *
          go_wp2_with fail
          refine HAl.out.mono ?_
          rintro e u1 ⟨rfl, b1⟩
          go_wp2_with fail
          go_ret
          exact ⟨ret_bool E.out.symm, chain hb b1⟩
        · by_cases k3 : (l.length : Int) ≤ l[j].parent
          · rw [decide_eq_false (by omega), Bool.false_and] at at1
            have E := hide (BAD at1)
            clear at1 BAD k1 hd HN
            generalize l[j].name = y1 at *
            generalize l[j].text = y2 at *
            generalize l[j].parent = y3 at *
            go_wp2_with fail
            refine HAl.out.mono ?_
            rintro e u1 ⟨rfl, b1⟩
            go_wp2_with fail
            go_ret
            exact ⟨ret_bool E.out.symm, chain hb b1⟩
          · rw [decide_eq_true (by omega), Bool.true_and] at at1
            by_cases k4 : l[j].parent < 0
            · rw [decide_eq_true k4, Bool.true_or, Bool.true_and] at at1
              have KD := hide at1
              clear at1 k1
              generalize l[j].name = y1 at *
              generalize l[j].text = y2 at *
              generalize l[j].parent = y3 at *
              go_wp2_with fail
              refine HAl.out.mono ?_
              rintro e u1 ⟨rfl, b1⟩
              have bb := chain hb b1
              have hN1 := HN.out.below b1
              clear HN HAl n0 n1 n2 n3 n4 b1
              obtain ⟨pk, ck, evk, hks⟩ := hN1.ks
              subst evk
              have c4 := hN1.kids
              have ksz := (SZ.out.nds l[j] (List.getElem_mem _)).kids
              have NXK : (∀ t (_ : t < l[j].kids.length), kidOk l j l[j].kids[t] = true) → Hid (∀ m, m < j + 1 → nodeOk l m = true) := by
                intro q m hm
                rcases Nat.lt_or_ge m j with r | r
                · exact hd.out m r
                · obtain rfl : m = j := by omega
                  rw [KD.out]; exact kid_all q
              have BADK : ∀ t (ht : t < l[j].kids.length), kidOk l j l[j].kids[t] = false → rightB l = false := fun t ht q => BAD (KD.out.trans (kid_no ht q))
              replace NXK := hide NXK
              replace BADK := hide BADK
              clear hd KD BAD hN1
              generalize l[j].kids = ks at *
              go_wp2_with fail
              go_loop [5] (fun kv => ∃ t : Nat, t ≤ ks.length ∧ kv = .int .i64 t ∧ Hid (∀ m (_ : m < ks.length), m < t → kidOk l j ks[m] = true)) (fun kv => ks.length - (intOf kv).toNat)
              case atStart => exact ⟨0, Nat.zero_le _, rfl, fun m _ q => by omega⟩
              case round =>
                obtain ⟨t, ht, rfl, hdk⟩ := hrel
                by_cases h9 : t < ks.length
                · have t1 : (t : Int) < (ks.length : Int) := by omega
                  rcases hks with hks | ⟨kb, ko, rfl, hks⟩
                  · rw [hks] at h9; simp at h9
                  have cc := hks t h9
                  have BK := BADK.out t h9
                  by_cases q1 : ks[t] < 0
                  · have E := hide (BK (kid_low (by omega)))
                    clear BADK NXK hks hdk BK
                    generalize ks[t] = kc at *
                    go_wp2_with fail
                    go_ret
                    exact ⟨ret_bool E.out.symm, bb⟩
                  · by_cases q2 : (l.length : Int) ≤ ks[t]
                    · have E := hide (BK (kid_low (by omega)))
                      clear BADK NXK hks hdk BK
                      generalize ks[t] = kc at *
                      go_wp2_with fail
                      go_ret
                      exact ⟨ret_bool E.out.symm, bb⟩
                    · obtain ⟨m, em⟩ : ∃ m : Nat, ks[t] = (m : Int) := ⟨ks[t].toNat, by omega⟩
                      have hm : m < l.length := by omega
                      obtain ⟨vam, vkm, hNm⟩ := HV.out m hm
                      have cm := cell_below hNm.parent bb
                      have ka := kid_at (l := l) (i := j) hm
                      rw [← em] at ka
                      have m1 : (m : Int) < (l.length : Int) := by omega
                      by_cases q3 : l[m].parent = (j : Int)
                      · have e9 : (l[m].parent != (j : Int)) = false := by rw [bne_eq_false_iff_eq]; exact q3
                        have okt : kidOk l j ks[t] = true := by rw [ka, q3]; simp
                        have hdk' : Hid (∀ x (_ : x < ks.length), x < t + 1 → kidOk l j ks[x] = true) := by
                          intro x hx hxt
                          rcases Nat.lt_or_ge x t with r | r
                          · exact hdk.out x hx r
                          · obtain rfl : x = t := by omega
                            exact okt
                        rw [em] at cc
                        clear BADK NXK hks hdk BK ka q3 okt hNm em q1 q2
                        generalize l[m].parent = pm at *
                        go_wp2_with fail
                        go_round
                        case rel => exact ⟨t + 1, by omega, by go_num, hdk'⟩
                        case measure => simp [intOf]; omega
                      · have e9 : (l[m].parent != (j : Int)) = true := by rw [bne_iff_ne]; exact q3
                        have E := hide (BK (by rw [ka, beq_eq_false_iff_ne]; exact q3))
                        rw [em] at cc
                        clear BADK NXK hks hdk BK ka q3 hNm em q1 q2
                        generalize l[m].parent = pm at *
                        go_wp2_with fail
                        go_ret
                        exact ⟨ret_bool E.out.symm, bb⟩
                · obtain rfl : t = ks.length := by omega
                  have E := NXK.out (fun x hx => hdk.out x hx hx)
                  clear BADK NXK hks hdk
                  go_wp2_with fail
                  go_roundw
                  case rel => exact ⟨j + 1, by omega, by go_num, E, bb⟩
                  case measure => simp [intOf]; omega
            · obtain ⟨pn, epn⟩ : ∃ pn : Nat, l[j].parent = (pn : Int) := ⟨l[j].parent.toNat, by omega⟩
              have hpn : pn < l.length := by omega
              obtain ⟨vap, vkp, hNp⟩ := HV.out pn hpn
              have HNp := hide hNp
              have ksp := (SZ.out.nds l[pn] (List.getElem_mem _)).kids
              rw [decide_eq_false k4, Bool.false_or, epn, Int.toNat_natCast, nd_at hpn] at at1
              rw [epn] at n3 HAl
              have p1 : (pn : Int) < (l.length : Int) := by omega
              by_cases k5 : cntI l[pn].kids j = 1
              · have e5 : (((cntI l[pn].kids j : Nat) : Int) != 1) = false := by rw [k5]; rfl
                rw [show (cntI l[pn].kids j == 1) = true by rw [k5]; rfl, Bool.true_and] at at1
                have KD := hide at1
                have HCt := hide (fun u (bu : Below w.heap.size w u) => refCount_any vkp l[pn].kids (j : Int) u (HNp.out.below bu).ks ksp)
                have C4 := hide (fun u (bu : Below w.heap.size w u) => (HNp.out.below bu).kids)
                clear at1 k1 k2 k3 k4 k5 epn hNp HNp ksp
                generalize cntI l[pn].kids j = cn at *
                generalize l[j].name = y1 at *
                generalize l[j].text = y2 at *
                go_wp2_with fail
                refine HAl.out.mono ?_
                rintro e u1 ⟨rfl, b1⟩
                have bb := chain hb b1
                have hN1 := HN.out.below b1
                have c4p := C4.out u1 bb
                clear HN HAl n0 n1 n2 n3 n4 b1 C4
                go_wp2_with fail
                refine (HCt.out u1 bb).mono ?_
                rintro e u2 ⟨rfl, rfl⟩
                clear c4p HCt
                obtain ⟨pk, ck, evk, hks⟩ := hN1.ks
                subst evk
                have c4 := hN1.kids
                have ksz := (SZ.out.nds l[j] (List.getElem_mem _)).kids
                have NXK : (∀ t (_ : t < l[j].kids.length), kidOk l j l[j].kids[t] = true) → Hid (∀ m, m < j + 1 → nodeOk l m = true) := by
                  intro q m hm
                  rcases Nat.lt_or_ge m j with r | r
                  · exact hd.out m r
                  · obtain rfl : m = j := by omega
                    rw [KD.out]; exact kid_all q
                have BADK : ∀ t (ht : t < l[j].kids.length), kidOk l j l[j].kids[t] = false → rightB l = false := fun t ht q => BAD (KD.out.trans (kid_no ht q))
                replace NXK := hide NXK
                replace BADK := hide BADK
                clear hd KD BAD hN1
                generalize l[j].kids = ks at *
                go_wp2_with fail
                go_loop [5] (fun kv => ∃ t : Nat, t ≤ ks.length ∧ kv = .int .i64 t ∧ Hid (∀ m (_ : m < ks.length), m < t → kidOk l j ks[m] = true)) (fun kv => ks.length - (intOf kv).toNat)
                case atStart => exact ⟨0, Nat.zero_le _, rfl, fun m _ q => by omega⟩
                case round =>
                  obtain ⟨t, ht, rfl, hdk⟩ := hrel
                  by_cases h9 : t < ks.length
                  · have t1 : (t : Int) < (ks.length : Int) := by omega
                    rcases hks with hks | ⟨kb, ko, rfl, hks⟩
                    · rw [hks] at h9; simp at h9
                    have cc := hks t h9
                    have BK := BADK.out t h9
                    by_cases q1 : ks[t] < 0
                    · have E := hide (BK (kid_low (by omega)))
                      clear BADK NXK hks hdk BK
                      generalize ks[t] = kc at *
                      go_wp2_with fail
                      go_ret
                      exact ⟨ret_bool E.out.symm, bb⟩
                    · by_cases q2 : (l.length : Int) ≤ ks[t]
                      · have E := hide (BK (kid_low (by omega)))
                        clear BADK NXK hks hdk BK
                        generalize ks[t] = kc at *
                        go_wp2_with fail
                        go_ret
                        exact ⟨ret_bool E.out.symm, bb⟩
                      · obtain ⟨m, em⟩ : ∃ m : Nat, ks[t] = (m : Int) := ⟨ks[t].toNat, by omega⟩
                        have hm : m < l.length := by omega
                        obtain ⟨vam, vkm, hNm⟩ := HV.out m hm
                        have cm := cell_below hNm.parent bb
                        have ka := kid_at (l := l) (i := j) hm
                        rw [← em] at ka
                        have m1 : (m : Int) < (l.length : Int) := by omega
                        by_cases q3 : l[m].parent = (j : Int)
                        · have e9 : (l[m].parent != (j : Int)) = false := by rw [bne_eq_false_iff_eq]; exact q3
                          have okt : kidOk l j ks[t] = true := by rw [ka, q3]; simp
                          have hdk' : Hid (∀ x (_ : x < ks.length), x < t + 1 → kidOk l j ks[x] = true) := by
                            intro x hx hxt
                            rcases Nat.lt_or_ge x t with r | r
                            · exact hdk.out x hx r
                            · obtain rfl : x = t := by omega
                              exact okt
                          rw [em] at cc
                          clear BADK NXK hks hdk BK ka q3 okt hNm em q1 q2
                          generalize l[m].parent = pm at *
                          go_wp2_with fail
                          go_round
                          case rel => exact ⟨t + 1, by omega, by go_num, hdk'⟩
                          case measure => simp [intOf]; omega
                        · have e9 : (l[m].parent != (j : Int)) = true := by rw [bne_iff_ne]; exact q3
                          have E := hide (BK (by rw [ka, beq_eq_false_iff_ne]; exact q3))
                          rw [em] at cc
                          clear BADK NXK hks hdk BK ka q3 hNm em q1 q2
                          generalize l[m].parent = pm at *
                          go_wp2_with fail
                          go_ret
                          exact ⟨ret_bool E.out.symm, bb⟩
                  · obtain rfl : t = ks.length := by omega
                    have E := NXK.out (fun x hx => hdk.out x hx hx)
                    clear BADK NXK hks hdk
                    go_wp2_with fail
                    go_roundw
                    case rel => exact ⟨j + 1, by omega, by go_num, E, bb⟩
                    case measure => simp [intOf]; omega
              · have e5 : (((cntI l[pn].kids j : Nat) : Int) != 1) = true := by rw [bne_iff_ne]; omega
                rw [show (cntI l[pn].kids j == 1) = false by rw [beq_eq_false_iff_ne]; exact k5, Bool.false_and] at at1
                have E := hide (BAD at1)
                have HCt := hide (fun u (bu : Below w.heap.size w u) => refCount_any vkp l[pn].kids (j : Int) u (HNp.out.below bu).ks ksp)
                have C4 := hide (fun u (bu : Below w.heap.size w u) => (HNp.out.below bu).kids)
                clear at1 k1 k2 k3 k4 k5 epn hNp HNp ksp BAD hd HN
                generalize cntI l[pn].kids j = cn at *
                generalize l[j].name = y1 at *
                generalize l[j].text = y2 at *
                go_wp2_with fail
                refine HAl.out.mono ?_
                rintro e u1 ⟨rfl, b1⟩
                have bb := chain hb b1
                have c4p := C4.out u1 bb
                clear HAl n0 n1 n2 n3 n4 b1 C4
                go_wp2_with fail
                refine (HCt.out u1 bb).mono ?_
                rintro e u2 ⟨rfl, rfl⟩
                go_wp2_with fail
                go_ret
                exact ⟨ret_bool E.out.symm, bb⟩
    · obtain rfl : j = l.length := by omega
      have ALL := hide (fun m hm => hd.out m hm)
      clear hd h NO
      go_wp2_with fail
      go_loop [7] (fun iv => ∃ j : Nat, j ≤ l.length ∧ iv = .int .i64 j ∧ Hid (∀ m : Nat, m < j → climb l (l.length + 1) (m : Int) < 0)) (fun iv => l.length - (intOf iv).toNat)
      case atStart => exact ⟨0, Nat.zero_le _, rfl, fun m q => by omega⟩
      case round =>
        obtain ⟨j, hj, rfl, hd⟩ := hrel
        by_cases h : j < l.length
        · have j1 : (j : Int) < (l.length : Int) := by omega
          have NX : climb l (l.length + 1) (j : Int) < 0 → Hid (∀ m : Nat, m < j + 1 → climb l (l.length + 1) (m : Int) < 0) := by
            intro q m hm
            rcases Nat.lt_or_ge m j with r | r
            · exact hd.out m r
            · obtain rfl : m = j := by omega
              exact q
          replace NX := hide NX
          have BAD := hide (NC.out j h)
          clear hd NC YES
          go_wp2_with fail
          go_loop [8, 9] (fun kv nv => ∃ (t : Nat) (z : Int), t ≤ l.length + 1 ∧ nv = .int .i64 t ∧ kv = .int .i64 z ∧ -1 ≤ z ∧ z < (l.length : Int) ∧ Hid (climb l (l.length + 1 - t) z = climb l (l.length + 1) (j : Int))) (fun _ nv => l.length + 2 - (intOf nv).toNat)
          case atStart => exact ⟨0, (j : Int), Nat.zero_le _, rfl, rfl, by omega, by omega, rfl⟩
          case round =>
            obtain ⟨t, z, ht, rfl, rfl, z1, z2, hc⟩ := hrel
            by_cases q1 : z < 0
            · have z3 : ¬ (0 : Int) ≤ z := by omega
              have E := NX.out (by rw [← hc.out, climb_done _ q1]; exact q1)
              clear NX BAD hc ALL
              go_wp2_with fail
              go_round
              case rel => exact ⟨j + 1, by omega, by go_num, E⟩
              case measure => simp [intOf]; omega
            · obtain ⟨m, rfl⟩ : ∃ m : Nat, z = (m : Int) := ⟨z.toNat, by omega⟩
              have hm : m < l.length := by omega
              by_cases q2 : t ≤ l.length
              · have t1 : (t : Int) ≤ (l.length : Int) := by omega
                obtain ⟨vam, vkm, hNm⟩ := HV.out m hm
                have cm := cell_below hNm.parent hb
                have ok := ALL.out m hm
                rw [nodeOk_at hm, Bool.and_eq_true, Bool.and_eq_true] at ok
                have pb := of_decide_eq_true ok.2.1
                have hc' : Hid (climb l (l.length + 1 - (t + 1)) l[m].parent = climb l (l.length + 1) (j : Int)) := by
                  show _ = _
                  rw [← hc.out, show l.length + 1 - t = (l.length + 1 - (t + 1)) + 1 by omega, climb_up hm]
                have pb1 := pb.1
                have pb2 := pb.2
                clear NX BAD hc ALL ok pb hNm q1
                generalize l[m].parent = pm at *
                go_wp2_with fail
                go_round
                case rel => exact ⟨t + 1, pm, by omega, by go_num, rfl, pb1, pb2, hc'⟩
                case measure => simp [intOf]; omega
              · have t1 : ¬ (t : Int) ≤ (l.length : Int) := by omega
                have t2 : decide ((t : Int) ≤ (l.length : Int)) = false := decide_eq_false t1
                have E : Hid (rightB l = false) := by
                  refine BAD.out ?_
                  rw [← hc.out, show l.length + 1 - t = 0 by omega]
                  first | (show ¬ (m : Int) < 0; omega) | (show (0 : Int) ≤ (m : Int); omega)
                clear NX BAD hc ALL
                go_wp2_with fail
                go_ret
                exact ⟨ret_bool E.out.symm, hb⟩
        · obtain rfl : j = l.length := by omega
          have E := hide (YES.out (fun m hm => ALL.out m hm) (fun m hm => hd.out m hm))
          clear hd NC YES ALL h
          go_wp2_with fail
          go_ret
          exact ⟨ret_bool E.out.symm, hb⟩
end Go.Proofs.YtldbaoolddlacaaDoor

namespace Go.Proofs.YtldbaoolddlacaaDoor
open Go.RowKit
set_option maxRecDepth 100000
set_option maxHeartbeats 1000000 in
theorem refHas_any (v : Value) (l : List Nd) (id : Int) (w : World) (hv : NodesV w v l) (hz : DocSz l) :
    Calls Tryd.prog 28 #[v, .int .i64 id] w fun e w' => e = .returned (.bool (hasN l id)) ∧ Below w.heap.size w w' := by
  have HR := hide (refDocRight_any v l w hv hz)
  obtain ⟨p, c, rfl, hv⟩ := hv
  have hlen := hz.len
  clear hv hz
  unfold hasN
  by_cases h1 : 0 ≤ id
  · by_cases h2 : id < (l.length : Int)
    · rw [decide_eq_true ⟨h1, h2⟩, Bool.true_and]
      generalize rightB l = r at *
      go_enter Tryd.func28, Tryd.ntmps28
      go_wp2_with fail
      refine HR.out.mono ?_
      rintro e w1 ⟨rfl, b1⟩
      go_wp2_with fail
      go_ret
      exact ⟨rfl, b1⟩
    · rw [decide_eq_false (fun q => h2 q.2), Bool.false_and]
      have d : decide (id < (l.length : Int)) = false := decide_eq_false h2
      go_enter Tryd.func28, Tryd.ntmps28
      go_wp2_with fail
      go_ret
      exact ⟨rfl, Below.refl _ _⟩
  · rw [decide_eq_false (fun q => h1 q.1), Bool.false_and]
    go_enter Tryd.func28, Tryd.ntmps28
    go_wp2_with fail
    go_ret
    exact ⟨rfl, Below.refl _ _⟩
/-- A node that is there, in a right document. -/
structure Is (l : List Nd) (id : Int) (m : Nat) : Prop where
  right : Right l
  eq : id = (m : Int)
  lt : m < l.length
theorem Is.of {l : List Nd} {id : Int} (h : hasN l id = true) : ∃ m, Is l id m := by
  unfold hasN at h
  rw [Bool.and_eq_true, decide_eq_true_eq] at h
  exact ⟨id.toNat, right_is.1 h.2, by omega, by omega⟩
theorem parI_at {l : List Nd} {m : Nat} (h : m < l.length) : parI l (m : Int) = l[m].parent := by unfold parI; rw [Int.toNat_natCast, nd_at h]
set_option maxHeartbeats 2000000 in
theorem refTop_any (v : Value) (l : List Nd) (id : Int) (m0 : Nat) (w : World) (hv : NodesV w v l) (hI : Is l id m0) :
    Calls Tryd.prog 20 #[v, .int .i64 id] w fun e w' => e = .returned (.int .i64 (topP l id)) ∧ w' = w := by
  have hR := hI.right
  obtain ⟨rfl, h0⟩ := (⟨hI.eq, hI.lt⟩ : id = (m0 : Int) ∧ m0 < l.length)
  clear hI
  have hlen := hR.len.2
  obtain ⟨p, c, rfl, hv⟩ := hv
  rcases hv with hv | ⟨b, o, rfl, hv⟩
  · rw [hv] at h0; simp at h0
  have HV := hide hv
  have HRt := hide hR
  clear hv hR
  generalize hW : topP l (m0 : Int) = W
  have HW := hide hW
  clear hW
  go_enter Tryd.func20, Tryd.ntmps20
  go_wp2_with fail
  go_loop [1] (fun kv => ∃ m : Nat, kv = .int .i64 (m : Int) ∧ m < l.length ∧ Hid (topP l (m : Int) = W)) (fun kv => hgt l (intOf kv))
  case atStart => exact ⟨m0, rfl, h0, HW.out⟩
  case round =>
    obtain ⟨m, rfl, hm, hc⟩ := hrel
    clear HW
    have he := HRt.out.ende (show (m : Int) < (l.length : Int) by omega)
    have hu := anc_up he (by omega)
    have hh := hgt_up he (by omega)
    have pb := HRt.out.par m hm
    rw [nd_at hm] at pb
    rw [parI_at hm] at hu hh
    obtain ⟨vam, vkm, hNm⟩ := HV.out m hm
    have cm := hNm.parent
    have m1 : (m : Int) < (l.length : Int) := by omega
    by_cases q1 : l[m].parent < 0
    · have q2 : ¬ 0 ≤ l[m].parent := by omega
      have E : Hid (W = (m : Int)) := by
        show _ = _
        rw [← hc.out]
        unfold topP
        rw [hu, anc_neg q1]; rfl
      clear hc hu hh pb he hNm
      generalize l[m].parent = pm at *
      go_wp2_with fail
      go_ret
      exact ⟨ret_int E.out.symm, rfl⟩
    · obtain ⟨n, en⟩ : ∃ n : Nat, l[m].parent = (n : Int) := ⟨l[m].parent.toNat, by omega⟩
      have hn : n < l.length := by omega
      rw [en] at hu hh cm
      have he2 := HRt.out.ende (show (n : Int) < (l.length : Int) by omega)
      have hu2 := anc_up he2 (by omega)
      have HC1 : Hid (topP l (n : Int) = W) := by
        show _ = _
        rw [← hc.out]
        unfold topP
        rw [hu, hu2]; rfl
      have HH := hide hh
      have n1 : 0 ≤ (n : Int) := by omega
      clear hc hu hh pb he hNm he2 hu2 q1 en
      go_wp2_with fail
      go_round
      case rel => exact ⟨n, rfl, hn, HC1.out⟩
      case measure => have := HH.out; show hgt l (n : Int) < hgt l (m : Int); omega
theorem up_cons {l : List Nd} {m : Nat} (hm : m < l.length) {t : List Int} {name : ByteArray} : (((m : Int) :: t).find? fun k => decide ((nd l k.toNat).name = name)) = if l[m].name = name then some (m : Int) else (t.find? fun k => decide ((nd l k.toNat).name = name)) := by
  rw [List.find?_cons, Int.toNat_natCast, nd_at hm]
  by_cases h : l[m].name = name
  · rw [if_pos h, decide_eq_true h]
  · rw [if_neg h, decide_eq_false h]
set_option maxHeartbeats 2000000 in
theorem refUp_any (v : Value) (l : List Nd) (id : Int) (m0 : Nat) (name : ByteArray) (w : World) (hv : NodesV w v l) (hI : Is l id m0) :
    Calls Tryd.prog 60 #[v, .int .i64 id, .string name] w fun e w' => e = .returned (.int .i64 (upP l id name)) ∧ w' = w := by
  have hR := hI.right
  obtain ⟨rfl, h0⟩ := (⟨hI.eq, hI.lt⟩ : id = (m0 : Int) ∧ m0 < l.length)
  clear hI
  have hlen := hR.len.2
  obtain ⟨p, c, rfl, hv⟩ := hv
  rcases hv with hv | ⟨b, o, rfl, hv⟩
  · rw [hv] at h0; simp at h0
  have HV := hide hv
  clear hv
  obtain ⟨va0, vk0, hN0⟩ := HV.out m0 h0
  have c0 := hN0.parent
  have i0 : (m0 : Int) < (l.length : Int) := by omega
  unfold upP
  rw [parI_at h0]
  have pb := hR.par m0 h0
  rw [nd_at h0] at pb
  have pb1 := pb.1
  have pb2 := pb.2
  have HRt := hide hR
  clear pb hN0 hR
  generalize l[m0].parent = z0 at *
  generalize hW : ((anc l z0).find? fun k => decide ((nd l k.toNat).name = name)).getD (-1) = W
  have HW := hide hW
  clear hW
  go_enter Tryd.func60, Tryd.ntmps60
  go_wp2_with fail
  go_loop [7] (fun kv => ∃ z : Int, kv = .int .i64 z ∧ -1 ≤ z ∧ z < (l.length : Int) ∧ Hid (((anc l z).find? fun k => decide ((nd l k.toNat).name = name)).getD (-1) = W)) (fun kv => hgt l (intOf kv))
  case atStart => exact ⟨z0, rfl, pb1, pb2, HW.out⟩
  case round =>
    obtain ⟨z, rfl, z1, z2, hc⟩ := hrel
    clear HW
    by_cases q1 : z < 0
    · have q2 : ¬ 0 ≤ z := by omega
      have E : Hid (W = z) := by
        show _ = _
        rw [← hc.out, anc_neg q1]
        show (-1 : Int) = z
        omega
      clear hc
      go_wp2_with fail
      go_ret
      exact ⟨ret_int E.out.symm, rfl⟩
    · obtain ⟨m, rfl⟩ : ∃ m : Nat, z = (m : Int) := ⟨z.toNat, by omega⟩
      have hm : m < l.length := by omega
      have he := HRt.out.ende z2
      have hu := anc_up he q1
      have hh := hgt_up he q1
      have pb := HRt.out.par m hm
      rw [nd_at hm] at pb
      rw [parI_at hm] at hu hh
      obtain ⟨vam, vkm, hNm⟩ := HV.out m hm
      have cm := hNm.parent
      have cn := hNm.name
      have q2 : 0 ≤ (m : Int) := by omega
      have hc1 := hc.out
      rw [hu, up_cons hm] at hc1
      by_cases q3 : l[m].name = name
      · have e3 : (l[m].name.toList != name.toList) = false := by unfold bne; rw [txt_beq, decide_eq_true q3]; rfl
        have e3' : (l[m].name.toList == name.toList) = true := by rw [txt_beq, decide_eq_true q3]
        rw [if_pos q3] at hc1
        have E : Hid (W = (m : Int)) := hc1.symm
        clear hc hc1 hu hh pb he q3 hNm
        generalize l[m].parent = pm at *
        generalize l[m].name = nm at *
        go_wp2_with fail
        go_ret
        exact ⟨ret_int E.out.symm, rfl⟩
      · have e3 : (l[m].name.toList != name.toList) = true := by unfold bne; rw [txt_beq, decide_eq_false q3]; rfl
        have e3' : (l[m].name.toList == name.toList) = false := by rw [txt_beq, decide_eq_false q3]
        rw [if_neg q3] at hc1
        have HC1 := hide hc1
        have HH := hide hh
        have pb1 := pb.1
        have pb2 := pb.2
        clear hc hc1 hu hh pb he q3 hNm
        generalize l[m].parent = pm at *
        generalize l[m].name = nm at *
        go_wp2_with fail
        go_round
        case rel => exact ⟨pm, rfl, pb1, pb2, HC1.out⟩
        case measure => have := HH.out; show hgt l pm < hgt l (m : Int); omega
def attrV (o : Option ByteArray) : Value := .tuple #[.string (o.getD ⟨#[]⟩), .bool o.isSome]
set_option maxHeartbeats 2000000 in
theorem refAttr_any (v : Value) (l : List Nd) (id : Int) (m0 : Nat) (name : ByteArray) (w : World) (hv : NodesV w v l) (hI : id = (m0 : Int) ∧ m0 < l.length) (hz : DocSz l) :
    Calls Tryd.prog 79 #[v, .int .i64 id, .string name] w fun e w' => e = .returned (attrV (attrP l id name)) ∧ w' = w := by
  obtain ⟨rfl, h0⟩ := hI
  have hlen := hz.len
  have sz := hz.nds l[m0] (List.getElem_mem _)
  obtain ⟨p, c, rfl, hv⟩ := hv
  rcases hv with hv | ⟨b, o, rfl, hv⟩
  · rw [hv] at h0; simp at h0
  obtain ⟨va, vk, hN⟩ := hv m0 h0
  have c2 := hN.attrs
  have HF := hide (fun (w : World) (hA : AttrsV w va l[m0].attrs) => refFind_any va l[m0].attrs name w hA sz.attrs)
  have i0 : (m0 : Int) < (l.length : Int) := by omega
  have hA := hide hN.at_
  obtain ⟨pa, ca, rfl, ha⟩ := hN.at_
  have asz := sz.attrs
  unfold attrP
  rw [Int.toNat_natCast, nd_at h0]
  clear hv hN sz hz
  generalize l[m0].attrs = ax at *
  cases hf : findA ax name with
  | none =>
    rw [hf] at HF
    have fv : findV none < 0 := by show (-1 : Int) < 0; omega
    clear hf ha
    generalize findV none = z at *
    show Calls _ _ _ _ fun e w' => e = .returned (.tuple #[.string ⟨#[]⟩, .bool false]) ∧ w' = w
    go_enter Tryd.func79, Tryd.ntmps79
    go_wp2_with fail
    refine (HF.out _ hA.out).mono ?_
    rintro e u ⟨rfl, rfl⟩
    go_wp2_with fail
    go_ret2
    exact ⟨rfl, rfl⟩
  | some k =>
    rw [hf] at HF
    have hk : k < ax.length := by
      unfold findA at hf
      obtain ⟨q, _⟩ := List.findIdx?_eq_some_iff_getElem.1 hf
      exact q
    rcases ha with ha | ⟨ab, ao, rfl, ha⟩
    · rw [ha] at hk; simp at hk
    have cv := (ha k hk).2
    have fv : findV (some k) = (k : Int) := rfl
    rw [fv] at HF
    have k1 : (k : Int) < (ax.length : Int) := by omega
    have k2 : ¬ (k : Int) < 0 := by omega
    clear hf ha fv
    show Calls _ _ _ _ fun e w' => e = .returned (.tuple #[.string (ax.getD k at0).2, .bool true]) ∧ w' = w
    rw [show ax.getD k at0 = ax[k] by simp [List.getD, hk]]
    generalize ax[k].2 = x2 at *
    go_enter Tryd.func79, Tryd.ntmps79
    go_wp2_with fail
    refine (HF.out _ hA.out).mono ?_
    rintro e u ⟨rfl, rfl⟩
    go_wp2_with fail
    go_ret2
    exact ⟨rfl, rfl⟩
end Go.Proofs.YtldbaoolddlacaaDoor

namespace Go.Proofs.YtldbaoolddlacaaDoor
open Go.RowKit
set_option maxRecDepth 100000
theorem kids_lit (w : World) (base : Nat) (hb : base ≤ w.heap.size) (ks : List Int) (hl : ks.length ≤ maxLen) : KidsO base (w.alloc (.cells (cellsI ks).toArray 3)) (.slice (some ⟨w.heap.size, 0, none⟩) ks.length ks.length) ks :=
  ⟨by rw [cellsI_len, Nat.mul_one], .inr ⟨w.heap.size, ks.length, _, rfl, hb, heap_alloc_new w _, Nat.le_refl _, hl, by simp [cellsI_len], by rw [Nat.mul_one]; exact List.take_of_length_le (by rw [cellsI_len]; exact Nat.le_refl _)⟩⟩
/-- A row of the call's own, cut. -/
theorem kids_cut {w : World} {base : Nat} {p : Option Addr} {n c : Nat} {ks : List Int} (h : KidsO base w (.slice p n c) ks) {m : Nat} (hm : m ≤ ks.length) (h0 : 0 < ks.length) : KidsO base w (.slice p m c) (ks.take m) := by
  refine ⟨by rw [cellsI_len, Nat.mul_one], ?_⟩
  rcases h.2 with ⟨_, q⟩ | ⟨g, cap, cur, e, hb, hg, h1, h2, h3, h4⟩
  · omega
  · cases e
    refine .inr ⟨g, c, cur, by rw [List.length_take, Nat.min_eq_left hm], hb, hg, by rw [List.length_take]; omega, h2, h3, ?_⟩
    rw [List.length_take, Nat.min_eq_left hm, Nat.mul_one]
    rw [Nat.mul_one] at h4
    have : cellsI (ks.take m) = (cellsI ks).take m := by simp [cellsI, List.map_take]
    rw [this, ← h4, List.take_take, Nat.min_eq_left hm]
theorem kids_form {w : World} {base : Nat} {v : Value} {ks : List Int} (h : KidsO base w v ks) : ∃ p c, v = .slice p ks.length c ∧ ks.length ≤ c := by
  rcases h.2 with ⟨rfl, q⟩ | ⟨g, cap, cur, e, hb, hg, h1, h2, h3, h4⟩
  · exact ⟨none, 0, by rw [q], by omega⟩
  · exact ⟨_, cap, e, h1⟩
def lenV : Value → Nat
  | .slice _ n _ => n
  | _ => 0
theorem kids_len {w : World} {base : Nat} {v : Value} {ks : List Int} (h : KidsO base w v ks) : lenV v = ks.length := by
  obtain ⟨p, c, e, _⟩ := kids_form h
  rw [e]; rfl
/-- What is gone to, what is to be gone to, and what comes of it. -/
structure OInv (l : List Nd) (id : Int) (xs st : List Int) (R : List Int) : Prop where
  inv : Inv l id xs st
  go : ∃ N, l.length + 1 ≤ N + xs.length ∧ xs ++ orderF l N st = R
theorem OInv.few {l : List Nd} {id : Int} {xs st R : List Int} (h : OInv l id xs st R) : xs.length + st.length ≤ l.length := by
  have := nodup_len l.length (xs ++ st) h.inv.once (fun x hx => by have := h.inv.rng x hx; exact ⟨this.1, this.2.1⟩)
  rwa [List.length_append] at this
theorem OInv.step {l : List Nd} (hR : Right l) {id : Int} {xs st R : List Int} {k : Int} (h : OInv l id xs (k :: st) R) : OInv l id (xs ++ [k]) ((nd l k.toNat).kids ++ st) R := by
  refine ⟨inv_step hR h.inv, ?_⟩
  obtain ⟨N, h1, h2⟩ := h.go
  have := h.few
  rw [List.length_cons] at this
  obtain ⟨M, rfl⟩ : ∃ M, N = M + 1 := ⟨N - 1, by omega⟩
  refine ⟨M, by rw [List.length_append, List.length_singleton]; omega, ?_⟩
  rw [← h2, List.append_assoc]; rfl
theorem OInv.done {l : List Nd} {id : Int} {xs R : List Int} (h : OInv l id xs [] R) : xs = R := by
  obtain ⟨N, _, h2⟩ := h.go
  rw [← h2]
  have : orderF l N [] = [] := by cases N <;> rfl
  rw [this, List.append_nil]
set_option maxHeartbeats 8000000 in
set_option maxRecDepth 100000 in
theorem refOrder_any (v : Value) (l : List Nd) (m0 : Nat) (w : World) (hv : NodesV w v l) (hR : Right l) (h0 : m0 < l.length) :
    Calls Tryd.prog 19 #[v, .int .i64 (m0 : Int)] w fun e w' => ∃ v', e = .returned v' ∧ KidsO w.heap.size w' v' (orderP l (m0 : Int)) ∧ Below w.heap.size w w' := by
  have hlen := hR.len.2
  obtain ⟨p, c, rfl, hv⟩ := hv
  rcases hv with hv | ⟨b, o, rfl, hv⟩
  · rw [hv] at h0; simp at h0
  have HC := hide hv
  have HRt := hide hR
  have I0 : Hid (OInv l (m0 : Int) [] [(m0 : Int)] (orderP l (m0 : Int))) := ⟨inv_zero hR (by omega) (by omega), l.length + 1, by simp, rfl⟩
  obtain ⟨iI, hI0, hI1, hI2, hI3⟩ := info_parts infoI
  obtain ⟨R, hRR⟩ : ∃ R, Hid (orderP l (m0 : Int) = R) := ⟨_, show orderP l (m0 : Int) = _ from rfl⟩
  rw [hRR.out] at I0
  have RF : Hid (∀ xs, xs = R → xs = orderP l (m0 : Int)) := fun xs e => e.trans hRR.out.symm
  clear hv hR hRR
  go_enter Tryd.func19, Tryd.ntmps19
  go_wp2_with fail
  generalize hw1 : w.alloc (.cells #[Value.int .i64 (m0 : Int)] 3) = w1
  have K1 : Hid (KidsO w.heap.size w1 (.slice (some ⟨w.heap.size, 0, none⟩) 1 1) [(m0 : Int)]) := by rw [← hw1]; exact kids_lit w _ (Nat.le_refl _) [(m0 : Int)] (show 1 ≤ maxLen by decide)
  have B1 : Hid (Below w.heap.size w w1) := by rw [← hw1]; exact (Below.refl _ w).alloc (Nat.le_refl _) _
  clear hw1
  go_loopw [5, 6] (fun ov nv wr => ∃ (xs st : List Int), Hid (OInv l (m0 : Int) xs st R) ∧ Hid (KidsO w.heap.size wr ov xs) ∧ Hid (KidsO w.heap.size wr nv st.reverse) ∧ Hid (∀ k, ov.ownBlock = some k → nv.ownBlock ≠ some k) ∧ Hid (Below w.heap.size w wr)) (fun ov _ _ => l.length - lenV ov)
  case atStart => exact ⟨[], [(m0 : Int)], I0, World.ownsRow_nil _ _ _ _, K1, (fun k q => by cases q), B1⟩
  case round =>
    rename World => wr
    obtain ⟨xs, st, OI, KX, KS, SP, BW⟩ := hrel
    clear I0 K1 B1
    obtain ⟨px, cx, ex, hcx⟩ := kids_form KX.out
    have hfew := OI.out.few
    cases st with
    | nil =>
      obtain ⟨ps, cs, es, hcs⟩ := kids_form KS.out
      have E := hide (RF.out xs OI.out.done)
      rw [List.reverse_nil, List.length_nil] at es
      clear RF OI hcs hcx hfew
      subst es
      go_wp2_with fail
      go_ret
      exact ⟨_, rfl, by rw [← E.out]; exact KX.out, BW.out⟩
    | cons k st =>
      have hk := OI.out.inv.rng k (List.mem_append_right _ (List.mem_cons_self ..))
      obtain ⟨m, rfl⟩ : ∃ m : Nat, k = (m : Int) := ⟨k.toNat, by have := hk.1; omega⟩
      have hm : m < l.length := by have := hk.2.1; omega
      have ST := hide (OI.out.step HRt.out)
      rw [Int.toNat_natCast, nd_at hm] at ST
      have F2 := hide ST.out.few
      rw [List.reverse_cons] at KS
      have el : (st.reverse ++ [(m : Int)]).length = st.length + 1 := by simp
      obtain ⟨g, cs, es, eb, g0, g1, hcs, _⟩ := owns_at KS.out (by rw [el]; omega)
      rw [el] at es hcs
      have c0 : wr.cell? ⟨g, st.length, none⟩ = some (.int .i64 (m : Int)) := by
        refine owns_cell KS.out eb ?_
        rw [cellsI_at (by rw [el]; omega)]
        simp
      have KC : Hid (KidsO w.heap.size wr (.slice (some ⟨g, 0, none⟩) st.length cs) st.reverse) := by
        have := KS.out
        rw [es] at this
        have := kids_cut this (m := st.length) (by rw [el]; omega) (by rw [el]; omega)
        rw [List.take_left' (by simp)] at this
        exact this
      have SPg : Hid (u5.ownBlock ≠ some g) := fun q => SP.out g q (by rw [eb])
      obtain ⟨va, vk, N0⟩ := HC.out m hm
      obtain ⟨pk, ck, rfl, hks⟩ := N0.ks
      have NW : Hid (∀ W, Below w.heap.size w W → NodeAt W b (o + m * 5) l[m] va (.slice pk l[m].kids.length ck)) := fun W hb => N0.below hb
      have xl : xs.length ≤ 400 := by omega
      have kl : l[m].kids.length ≤ 400 := by have := F2.out; rw [List.length_append, List.length_append] at this; omega
      have ksl : l[m].kids.length + st.length ≤ 400 := by have := F2.out; rw [List.length_append, List.length_append] at this; omega
      have sl : st.length + 1 ≤ 400 := by rw [List.length_cons] at hfew; omega
      have Bw : w.heap.size ≤ wr.heap.size := BW.out.size
      have OW := hide (World.ownsRow.alloc KX.out (.cells #[.int .i64 (m : Int)] 3))
      have RW := hide ((NB.new wr [.int .i64 (m : Int)] 3).raw 1 1 rfl 1)
      have hBa : Hid (w.heap.size ≤ (wr.alloc (.cells #[.int .i64 (m : Int)] 3)).heap.size) := by show _ ≤ _; simp; omega
      have XL : Hid (lenV u5 = xs.length) := kids_len KX.out
      have i0 : (0 : Int) ≤ (m : Int) := by omega
      have i1 : (m : Int) < (l.length : Int) := by omega
      have j0 : (0 : Int) ≤ (st.length : Int) := by omega
      have j2 : (st.length : Int) ≤ (cs : Int) := by omega
      clear hk el SP hfew eb g0 OI ex hcx
      subst es
      clear KS
      go_wp2_with (at_builtin; refine wpList_append_raw rfl _ _ _ rfl w.heap.size 3 iI _ 1 8 Tryd.underlying25 hI0 hI1 hI2 hI3 rfl (by omega) u5 xs.length (cellsI xs) rfl OW.out _ 1 _ rfl RW.out (by simp [Value.oneCell']) (by unfold maxLen; omega) (by omega) hBa.out ?_; intro q1 c1 w1 own1 gr1 at1; have B1 : Hid (Below w.heap.size w w1) := BW.out.trans (((Chg.alloc wr _).nil.trans (Chg.of_grown gr1)).below Bw (fun k hk => (OW.out.lt k (opt_mem.1 hk)).1)); have a4 := (NW.out w1 B1.out).kids)
      have KX1 : Hid (KidsO w.heap.size w1 (.slice q1 (xs.length + 1) c1) (xs ++ [(m : Int)])) := by
        show w1.ownsRow _ _ 1 _ (xs ++ [(m : Int)]).length (cellsI (xs ++ [(m : Int)]))
        rw [List.length_append, cellsI_app]
        exact own1
      have KN1 : Hid (KidsO w.heap.size w1 (.slice (some ⟨g, 0, none⟩) st.length cs) st.reverse) := owns_kept KC.out ((Chg.alloc wr _).nil.trans (Chg.of_grown gr1)) (fun k hk q => SPg.out (by rw [opt_mem.1 q]; exact hk.symm))
      have SP1 : Hid (∀ k, (Value.slice q1 (xs.length + 1) c1).ownBlock = some k → (Value.slice (some ⟨g, 0, none⟩) st.length cs).ownBlock ≠ some k) := by
        intro k hk e
        have e : g = k := Option.some.inj e
        subst e
        rcases at1 with t | t
        · rw [t] at hk; exact SPg.out hk
        · rw [t] at hk
          have := Option.some.inj hk
          simp at this
          omega
      have AK : Hid (∀ W, Below w.heap.size w W → ∀ i (h : i < l[m].kids.length), ∃ bk ok, pk = some ⟨bk, ok, none⟩ ∧ W.cell? ⟨bk, ok + i, none⟩ = some (.int .i64 l[m].kids[i])) := fun W hb i h => by
        obtain ⟨pk', ck', evk', hks'⟩ := (NW.out W hb).ks
        cases evk'
        rcases hks' with t | ⟨bk, ok, e, t⟩
        · rw [t] at h; simp at h
        · exact ⟨bk, ok, e, t i h⟩
      clear own1 gr1 at1 OW RW hBa KC SPg BW KX hks c0
      go_loopw [6, 8] (fun nv iv wq => ∃ t : Nat, t ≤ l[m].kids.length ∧ iv = .int .i64 ((t : Int) - 1) ∧ Hid (KidsO w.heap.size wq nv (l[m].kids.drop t ++ st).reverse) ∧ Hid (KidsO w.heap.size wq (.slice q1 (xs.length + 1) c1) (xs ++ [(m : Int)])) ∧ Hid (∀ k, (Value.slice q1 (xs.length + 1) c1).ownBlock = some k → nv.ownBlock ≠ some k) ∧ Hid (Below w.heap.size w wq)) (fun _ iv _ => (intOf iv + 1).toNat)
      case atStart => exact ⟨l[m].kids.length, Nat.le_refl _, rfl, by show KidsO _ _ _ _; rw [List.drop_length, List.nil_append]; exact KN1.out, KX1, SP1, B1⟩
      case round =>
        rename World => wq
        obtain ⟨t, ht, rfl, KQ, KX2, SP2, BW2⟩ := hrel
        clear KN1 KX1 SP1 B1 a4
        cases t with
        | zero =>
          have f1 : ¬ (0 : Int) ≤ ((0 : Nat) : Int) - 1 := by omega
          have KQ' := hide KQ.out
          rw [List.drop_zero] at KQ'
          clear KQ
          go_wp2_with fail
          go_roundw
          case rel => exact ⟨xs ++ [(m : Int)], l[m].kids ++ st, ST, KX2, KQ', SP2, BW2⟩
          case measure =>
            have e1 := XL.out
            have e2 := kids_len KX2.out
            rw [List.length_append, List.length_singleton] at e2
            have := F2.out
            rw [List.length_append, List.length_append, List.length_singleton] at this
            show l.length - lenV _ < l.length - lenV _
            rw [e1, e2]
            omega
        | succ t =>
          have f1 : (0 : Int) ≤ ((t + 1 : Nat) : Int) - 1 := by omega
          have f2 : ((t + 1 : Nat) : Int) - 1 = (t : Int) := by omega
          have htl : t < l[m].kids.length := by omega
          obtain ⟨bk, ok, rfl, a5⟩ := AK.out wq BW2.out t htl
          have a4 := (NW.out wq BW2.out).kids
          have e5 : (l[m].kids.drop t ++ st).reverse = (l[m].kids.drop (t + 1) ++ st).reverse ++ [l[m].kids[t]] := by
            rw [List.drop_eq_getElem_cons htl, List.cons_append, List.reverse_cons]
          have el5 : (l[m].kids.drop (t + 1) ++ st).reverse.length ≤ 400 := by
            rw [List.length_reverse, List.length_append, List.length_drop]; omega
          have EL5 := hide el5
          have E5 := hide e5
          have KQn : Hid (KidsO w.heap.size wq u6 (l[m].kids.drop (t + 1) ++ st).reverse) := KQ.out
          generalize (l[m].kids.drop (t + 1) ++ st).reverse = ys at *
          generalize l[m].kids[t] = kt at *
          have OW := hide (World.ownsRow.alloc KQn.out (.cells #[.int .i64 kt] 3))
          have RW := hide ((NB.new wq [.int .i64 kt] 3).raw 1 1 rfl 1)
          have Bq : w.heap.size ≤ wq.heap.size := BW2.out.size
          have hBa : Hid (w.heap.size ≤ (wq.alloc (.cells #[.int .i64 kt] 3)).heap.size) := by show _ ≤ _; simp; omega
          have S6 : Hid (∀ k, u6.ownBlock = some k → k < wq.heap.size) := fun k hk => (KQn.out.lt k hk).2
          have S1 : Hid (∀ k, (Value.slice q1 (xs.length + 1) c1).ownBlock = some k → k < wq.heap.size) := fun k hk => (KX2.out.lt k hk).2
          have t0 : (0 : Int) ≤ (t : Int) := by omega
          have t1 : (t : Int) < (l[m].kids.length : Int) := by omega
          clear e5 KQ f2
          go_wp2_with (at_builtin; refine wpList_append_raw rfl _ _ _ rfl w.heap.size 3 iI _ 1 8 Tryd.underlying25 hI0 hI1 hI2 hI3 rfl (by omega) u6 ys.length (cellsI ys) rfl OW.out _ 1 _ rfl RW.out (by simp [Value.oneCell']) (by unfold maxLen; omega) (by omega) hBa.out ?_; intro q3 c3 w3 own3 gr3 at3)
          have C3 : Hid (Chg u6.ownBlock.toList wq w3) := (Chg.alloc wq _).nil.trans (Chg.of_grown gr3)
          have A3 : Hid ((Value.slice q3 (ys.length + 1) c3).ownBlock = u6.ownBlock ∨ (Value.slice q3 (ys.length + 1) c3).ownBlock = some (wq.heap.size + 1)) := by
            rcases at3 with q | q
            · exact .inl q
            · exact .inr (by rw [q]; simp)
          have K3 : Hid (KidsO w.heap.size w3 (.slice q3 (ys.length + 1) c3) (ys ++ [kt])) := by
            show w3.ownsRow _ _ 1 _ (ys ++ [kt]).length (cellsI (ys ++ [kt]))
            rw [List.length_append, cellsI_app]
            exact own3
          clear own3 gr3 at3
          go_roundw
          case rel =>
            refine ⟨t, by omega, by go_num, ?_, owns_kept KX2.out C3.out (fun k hk q => SP2.out k hk (opt_mem.1 q)), (fun k hk e => ?_), BW2.out.trans (C3.out.below Bq (fun k hk => (KQn.out.lt k (opt_mem.1 hk)).1))⟩
            · show KidsO _ _ _ _
              rw [E5.out]; exact K3.out
            · rcases A3.out with q | q
              · rw [q] at e; exact SP2.out k hk e
              · rw [q] at e; have := Option.some.inj e; have := S1.out k hk; omega
          case measure => simp [intOf]
end Go.Proofs.YtldbaoolddlacaaDoor

namespace Go.Proofs.YtldbaoolddlacaaDoor
open Go.RowKit
set_option maxRecDepth 100000
def idT : ByteArray := ⟨#[105, 100]⟩
def hasId (l : List Nd) (x : ByteArray) (k : Int) : Bool := decide (attrP l k idT = some x)
def namedP (l : List Nd) (x : ByteArray) : Int := if noName x = true then -1 else ((orderP l 0).find? (hasId l x)).getD (-1)
theorem down_fewR {l : List Nd} (h : Right l) {k : Int} (hk : inR l k) : (downF l l.length k).length ≤ 400 := by
  obtain ⟨d, g⟩ := right_dep h hk
  have := nodup_len l.length (downF l l.length k) (down_nodup (right_linked h) g) (fun x hx => down_range (right_sub h hk) hx)
  have := h.len
  omega
set_option maxHeartbeats 4000000 in
set_option maxRecDepth 100000 in
theorem refByID_any (v : Value) (l : List Nd) (x : ByteArray) (w : World) (hv : NodesV w v l) (hz : DocSz l) (hR : Right l) (hx : x.size ≤ maxLen) :
    Calls Tryd.prog 59 #[v, .string x] w fun e w' => e = .returned (.int .i64 (namedP l x)) ∧ Below w.heap.size w w' := by
  have h0 : 0 < l.length := by have := hR.len.1; omega
  have r0 : inR l 0 := ⟨by omega, by omega⟩
  have HO := hide (refOrder_any v l 0 w hv hR h0)
  have RG : Hid (∀ k ∈ orderP l 0, inR l k) := fun k hk => by rw [order_down hR r0] at hk; exact down_range (right_sub hR r0) hk
  have DF : Hid ((orderP l 0).length ≤ 400) := by show _ ≤ _; rw [order_down hR r0]; exact down_fewR hR r0
  have HA := hide (fun (m : Nat) (hm : m < l.length) W (hb : Below w.heap.size w W) => refAttr_any v l (m : Int) m idT W (hv.below hb) ⟨rfl, hm⟩ hz)
  have hlen := hR.len.2
  unfold maxLen at hx
  obtain ⟨D, hD⟩ : ∃ D, Hid (orderP l 0 = D) := ⟨_, show orderP l 0 = _ from rfl⟩
  have NP : Hid (noName x = false → (D.find? (hasId l x)).getD (-1) = namedP l x) := fun q => by unfold namedP; rw [q, hD.out]; rfl
  have NE : Hid (noName x = true → namedP l x = -1) := fun q => by unfold namedP; rw [q]; rfl
  have NS : Hid (noName x = (x.size == 0)) := show noName x = _ from rfl
  have e0 : ((0 : Nat) : Int) = 0 := rfl
  rw [e0] at HO
  rw [hD.out] at HO RG DF
  clear hv hz hR r0 hD e0
  have dl := DF.out
  have HA' := hide (fun m hm W hb => HA.out m hm W hb)
  unfold attrV idT at HA'
  clear HA
  go_enter Tryd.func59, Tryd.ntmps59
  go_wp2_with fail
  refine HO.out.mono ?_
  rintro e w1 ⟨v1, rfl, k1, b1⟩
  obtain ⟨p2, c2, ev2, h2⟩ := k1.ints
  have H2 := hide h2
  have B1 := hide b1
  clear k1 h2 b1 HO
  subst ev2
  go_wp2_with fail
  go_loop [6] (fun iv => ∃ j : Nat, j ≤ D.length ∧ iv = .int .i64 j ∧ Hid ((if noName x = true then -1 else ((D.drop j).find? (hasId l x)).getD (-1)) = namedP l x)) (fun iv => D.length - (intOf iv).toNat)
  case atStart =>
    refine ⟨0, Nat.zero_le _, rfl, ?_⟩
    show _ = _
    rw [List.drop_zero]
    cases q : noName x with
    | true => exact (NE.out q).symm
    | false => exact NP.out q
  case round =>
    obtain ⟨j, hj, rfl, hc⟩ := hrel
    clear NP NE
    by_cases h : j < D.length
    · have j1 : (j : Int) < (D.length : Int) := by omega
      have j0 : (0 : Int) ≤ (j : Int) := by omega
      obtain ⟨b2, o2, rfl, hk⟩ : ∃ b2 o2, p2 = some ⟨b2, o2, none⟩ ∧ ∀ i (h : i < D.length), w1.cell? ⟨b2, o2 + i, none⟩ = some (.int .i64 D[i]) := by
        rcases H2.out with t | t
        · rw [t] at h; simp at h
        · exact t
      have a5 := hk j h
      have rk := RG.out D[j] (List.getElem_mem _)
      obtain ⟨m, em⟩ : ∃ m : Nat, D[j] = (m : Int) := ⟨D[j].toNat, by have := rk.1; omega⟩
      have hm : m < l.length := by have := rk.2; omega
      rw [em] at a5
      have HF := hide (HA'.out m hm w1 B1.out)
      have hc1 := hc.out
      rw [List.drop_eq_getElem_cons h, em, List.find?_cons] at hc1
      have hh : hasId l x (m : Int) = ((attrP l (m : Int) idT).isSome && ((attrP l (m : Int) idT).getD ⟨#[]⟩).toList == x.toList) := by
        unfold hasId
        cases attrP l (m : Int) idT with
        | none => rfl
        | some s =>
          show decide (some s = some x) = (true && s.toList == x.toList)
          rw [Bool.true_and, txt_beq]
          congr 1
          exact propext ⟨fun e => Option.some.inj e, fun e => by rw [e]⟩
      rw [hh] at hc1
      unfold idT at hc1
      generalize (attrP l (m : Int) ⟨#[105, 100]⟩).getD ⟨#[]⟩ = As at *
      generalize (attrP l (m : Int) ⟨#[105, 100]⟩).isSome = Ab at *
      have HC1 := hide hc1
      clear hk rk em hc hc1 hh
      cases Ab with
      | false =>
        have HC2 : Hid ((if noName x = true then -1 else ((D.drop (j + 1)).find? (hasId l x)).getD (-1)) = namedP l x) := HC1.out
        clear HC1
        go_wp2_with fail
        refine HF.out.mono ?_
        rintro e w3 ⟨rfl, hw⟩
        obtain rfl : w1 = w3 := hw.symm
        go_wp2_with fail
        go_round
        case rel => exact ⟨j + 1, by omega, by go_num, HC2⟩
        case measure => simp [intOf]; omega
      | true =>
        cases q : (As.toList == x.toList) with
        | false =>
          have HC2 : Hid ((if noName x = true then -1 else ((D.drop (j + 1)).find? (hasId l x)).getD (-1)) = namedP l x) := by have := HC1.out; rw [q] at this; exact this
          clear HC1
          go_wp2_with fail
          refine HF.out.mono ?_
          rintro e w3 ⟨rfl, hw⟩
          obtain rfl : w1 = w3 := hw.symm
          go_wp2_with fail
          go_round
          case rel => exact ⟨j + 1, by omega, by go_num, HC2⟩
          case measure => simp [intOf]; omega
        | true =>
          cases q2 : noName x with
          | true =>
            have z0 : x.size ≤ 0 := by have := NS.out; rw [q2] at this; have := beq_iff_eq.1 this.symm; omega
            have f1 : decide ((0 : Int) < (x.size : Int)) = false := decide_eq_false (by omega)
            have HC2 : Hid ((-1 : Int) = namedP l x) := by
              have := HC1.out
              show _ = _
              rw [q2, if_pos rfl] at this
              exact this
            clear HC1 q2
            go_wp2_with fail
            refine HF.out.mono ?_
            rintro e w3 ⟨rfl, hw⟩
            obtain rfl : w1 = w3 := hw.symm
            go_wp2_with fail
            go_round
            case rel => exact ⟨j + 1, by omega, by go_num, HC2⟩
            case measure => simp [intOf]; omega
          | false =>
            have z0 : (0 : Int) < (x.size : Int) := by have := NS.out; rw [q2] at this; have := beq_eq_false_iff_ne.1 this.symm; omega
            have E2 : Hid (namedP l x = (m : Int)) := by
              have := HC1.out
              show _ = _
              rw [q2, q] at this
              exact this.symm
            clear HC1 q2
            go_wp2_with fail
            refine HF.out.mono ?_
            rintro e w3 ⟨rfl, hw⟩
            obtain rfl : w1 = w3 := hw.symm
            go_wp2_with fail
            go_ret
            exact ⟨ret_int E2.out.symm, B1.out⟩
    · obtain rfl : j = D.length := by omega
      have E2 : Hid (namedP l x = -1) := by
        show _ = _
        rw [← hc.out, List.drop_length]
        split <;> rfl
      clear hc h
      go_wp2_with fail
      go_ret
      exact ⟨ret_int E2.out.symm, B1.out⟩
end Go.Proofs.YtldbaoolddlacaaDoor

namespace Go.Proofs.YtldbaoolddlacaaDoor
open Go.RowKit
def oForm : ByteArray := ⟨#[102, 111, 114, 109]⟩
/-- A node's kind by its number. -/
def kI (l : List Nd) (i : Int) : Int := kN (nd l i.toNat)
/-- Its form: told by an attribute, or the nearest above. -/
def saidF (l : List Nd) (s : ByteArray) : Int := if 0 ≤ namedP l s ∧ nmI l (namedP l s) = oForm then namedP l s else -1
def belongs (l : List Nd) (i : Int) : Bool := listB (kI l i) || decide (kI l i = 20)
def formC (l : List Nd) (i : Int) : Int := if hasA (nd l i.toNat) oForm = true ∧ topP l i = 0 then saidF l (fndS (nd l i.toNat).attrs oForm) else upP l i oForm
def formP (l : List Nd) (i : Int) : Int := if hasN l i = true ∧ belongs l i = true then formC l i else -1
def elB (l : List Nd) (f i : Int) : Bool := listB (kI l i) && decide (formP l i = f)
def elementsP (l : List Nd) (f : Int) : List Int := if isK l f 30 = true then (orderP l (topP l f)).filter (elB l f) else []

end Go.Proofs.YtldbaoolddlacaaDoor
