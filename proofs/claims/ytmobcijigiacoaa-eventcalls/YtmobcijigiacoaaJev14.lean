/- The document's Right of layer 10. The program's areAttrs, isFormed of layer 10. The program's isFormed of layer 10. The program's downwards of layer 10. The program's areLinked of layer 10. The program's areReached, Right, isThere of layer 10. The program's isThere, Order, upwards of layer 10. The program's Top, Up, Attr of layer 10. -/
import Derived.Test.YtmobcijigiacoaaJev11
import Derived.Deep.RegionHeld3
import Derived.Deep.RegionWith
import Derived.BigRegion
import Derived.Laws.MakeOwn

namespace Go.Proofs.Ytmobcijigiacoaa
open Go.RowKit
set_option maxRecDepth 100000
/-- Lengths that a machine has. -/
structure NdSz (n : Nd) : Prop where
  name : n.name.size ≤ maxLen
  text : n.text.size ≤ maxLen
  attr : ∀ a ∈ n.attrs, a.1.size ≤ maxLen ∧ a.2.size ≤ maxLen
  attrs : n.attrs.length ≤ 4398046511104
  kids : n.kids.length ≤ 17592186044416
  tx : ∀ a ∈ n.attrs, a.2.size ≤ 140737488351232
structure DocSz (l : List Nd) : Prop where
  len : l.length ≤ 1599289640354
  nds : ∀ n ∈ l, NdSz n
theorem nd_at {l : List Nd} {i : Nat} (h : i < l.length) : nd l i = l[i] := by unfold nd; simp [List.getD, h]
end Go.Proofs.Ytmobcijigiacoaa

namespace Go.Proofs.Ytmobcijigiacoaa
open Go.RowKit
def attrsB (ax : List (ByteArray × ByteArray)) : Bool := decide (ax.length ≤ 40) && (List.range ax.length).all (attrOk ax)
theorem attrs_long {ax : List (ByteArray × ByteArray)} (h : 40 < ax.length) : attrsB ax = false := by unfold attrsB; rw [decide_eq_false (by omega)]; rfl
theorem attrs_bad {ax : List (ByteArray × ByteArray)} {k : Nat} (hk : k < ax.length) (h : attrOk ax k = false) : attrsB ax = false := by
  unfold attrsB
  have : (List.range ax.length).all (attrOk ax) = false := by
    rw [List.all_eq_false]
    exact ⟨k, List.mem_range.2 hk, by rw [h]; decide⟩
  rw [this, Bool.and_false]
theorem attrs_good {ax : List (ByteArray × ByteArray)} (h0 : ax.length ≤ 40) (h : ∀ k, k < ax.length → attrOk ax k = true) : attrsB ax = true := by
  unfold attrsB
  rw [decide_eq_true h0, Bool.true_and, List.all_eq_true]
  exact fun k hk => h k (List.mem_range.1 hk)
theorem take_idx {ax : List (ByteArray × ByteArray)} {k : Nat} (hk : k < ax.length) : (findA ax ax[k].1 == some k) = !((ax.take k).findIdx? (isN ax[k].1)).isSome := by
  by_cases h : ∀ j (hj : j < k), ¬ ax[j].1 = ax[k].1
  · rw [(find_first hk).2 h]
    have : (ax.take k).findIdx? (isN ax[k].1) = none := by
      rw [List.findIdx?_eq_none_iff]
      intro x hx
      obtain ⟨j, hj, rfl⟩ := List.getElem_of_mem hx
      rw [List.length_take] at hj
      rw [List.getElem_take]
      exact decide_eq_false (h j (by omega))
    rw [this]; simp
  · have h1 : (findA ax ax[k].1 == some k) = false := by
      rw [beq_eq_false_iff_ne]
      exact fun q => h ((find_first hk).1 q)
    rw [h1]
    have : ((ax.take k).findIdx? (isN ax[k].1)).isSome = true := by
      rw [List.findIdx?_isSome, List.any_eq_true]
      have ⟨j, hj⟩ : ∃ j, ∃ hj : j < k, ax[j].1 = ax[k].1 := by
        refine Classical.byContradiction fun q => h fun j hj e => q ⟨j, hj, e⟩
      obtain ⟨hj, e⟩ := hj
      exact ⟨ax[j], List.mem_take_iff_getElem.2 ⟨j, by omega, rfl⟩, decide_eq_true e⟩
    rw [this]; rfl
theorem attrOk_tk {ax : List (ByteArray × ByteArray)} {k : Nat} (hk : k < ax.length) : attrOk ax k = (nameOk ax[k].1 && (decide (ax[k].2.size ≤ 4000) && !((ax.take k).findIdx? (isN ax[k].1)).isSome)) := by
  unfold attrOk
  have : ax.getD k at0 = ax[k] := by simp [List.getD, hk]
  rw [this, take_idx hk]
theorem AttrsV.take {w : World} {p : Option Addr} {c : Nat} {ax : List (ByteArray × ByteArray)} (h : AttrsV w (.slice p ax.length c) ax) {k : Nat} (hk : k ≤ ax.length) (c' : Nat) : AttrsV w (.slice p k c') (ax.take k) := by
  obtain ⟨p', c2, e, h⟩ := h
  cases e
  refine ⟨p, c', by rw [List.length_take, Nat.min_eq_left hk], ?_⟩
  rcases h with h | ⟨b, o, rfl, h⟩
  · exact .inl (by rw [h, List.take_nil])
  · refine .inr ⟨b, o, rfl, fun i hi => ?_⟩
    rw [List.length_take] at hi
    rw [List.getElem_take]
    exact h i (by omega)
set_option maxHeartbeats 4000000 in
set_option maxRecDepth 100000 in
theorem areAttrs_any (p : Option Addr) (c : Nat) (ax : List (ByteArray × ByteArray)) (w : World) (hv : AttrsV w (.slice p ax.length c) ax) (hl : ax.length ≤ 4398046511104) (hc : ax.length ≤ c) (hs : ∀ a ∈ ax, a.1.size ≤ maxLen ∧ a.2.size ≤ maxLen) :
    Calls Try.prog 46 #[.slice p ax.length c] w fun e w' => e = .returned (.bool (attrsB ax)) ∧ Below w.heap.size w w' := by
  by_cases h40 : 40 < ax.length
  · have E := hide (attrs_long h40)
    have i1 : (40 : Int) < (ax.length : Int) := by omega
    clear hv hs h40
    go_enter Try.func46, Try.ntmps46
    go_wp2_with fail
    go_ret
    exact ⟨ret_bool E.out.symm, Below.refl _ _⟩
  have i40 : ¬ (40 : Int) < (ax.length : Int) := by omega
  have n40 : ax.length ≤ 40 := by omega
  have BAD := hide (fun k hk h => attrs_bad (ax := ax) (k := k) hk h)
  have GOOD := hide (fun h => attrs_good (ax := ax) n40 h)
  have HV := hide hv
  have HS := hide hs
  clear hv hs h40
  generalize attrsB ax = R at *
  go_enter Try.func46, Try.ntmps46
  go_wp2_with fail
  go_loopw [10] (fun iv wr => ∃ k : Nat, k ≤ ax.length ∧ iv = .int .i64 k ∧ Hid (∀ j, j < k → attrOk ax j = true) ∧ Hid (Below w.heap.size w wr)) (fun iv _ => ax.length - (intOf iv).toNat)
  case atStart => exact ⟨0, Nat.zero_le _, rfl, fun j q => by omega, Below.refl _ _⟩
  case round =>
    rename World => wr
    obtain ⟨k, hk, rfl, hd, BW⟩ := hrel
    by_cases h : k < ax.length
    · have i1 : (k : Int) < (ax.length : Int) := by omega
      have i0 : (0 : Int) ≤ (k : Int) := by omega
      have i2 : (k : Int) ≤ (c : Int) := by omega
      obtain ⟨b, o, rfl, hcell⟩ : ∃ b o, p = some ⟨b, o, none⟩ ∧ ∀ i (h : i < ax.length), w.cell? ⟨b, o + i * 2, none⟩ = some (.string ax[i].1) ∧ w.cell? ⟨b, o + i * 2 + 1, none⟩ = some (.string ax[i].2) := by
        obtain ⟨p', c', e, hv⟩ := HV.out
        cases e
        rcases hv with hv | hv
        · rw [hv] at h; simp at h
        · exact hv
      have c0 := cell_below (hcell k h).1 BW.out
      have c1 := cell_below (hcell k h).2 BW.out
      have OK := hide (attrOk_tk h)
      have Z := HS.out ax[k] (List.getElem_mem _)
      have z1 := Z.1
      have z2 := Z.2
      have BK := hide (BAD.out k h)
      have NX := hide (fun q : attrOk ax k = true => (fun j (r : j < k + 1) => by
        rcases Nat.lt_or_ge j k with t | t
        · exact hd.out j t
        · obtain rfl : j = k := by omega
          exact q : ∀ j, j < k + 1 → attrOk ax j = true))
      have HT : Hid (AttrsV w (.slice (some ⟨b, o, none⟩) k c) (ax.take k)) := HV.out.take hk c
      have tl : (ax.take k).length ≤ 4398046511104 := by rw [List.length_take]; omega
      have TL := hide tl
      clear hcell Z HV HS BAD GOOD hd tl
      generalize ax.take k = tk at *
      obtain ⟨n, hn⟩ : ∃ n, Hid (ax[k].1 = n) := ⟨ax[k].1, show _ = _ from rfl⟩
      obtain ⟨u, hu⟩ : ∃ u, Hid (ax[k].2 = u) := ⟨ax[k].2, show _ = _ from rfl⟩
      rw [hn.out] at c0 OK z1
      rw [hu.out] at c1 OK z2
      have HN := hide (fun w => isName_any n w z1)
      clear hn hu z1
      unfold maxLen at z2
      have bn : b < wr.heap.size := World.block_lt_of_cell? _ _ c0
      have bn2 : b ≠ wr.heap.size := by omega
      cases q1 : nameOk n with
      | false =>
        rw [q1] at HN OK
        have E := hide (BK.out (by rw [OK.out]; rfl))
        clear OK BK NX q1 HT
        go_wp2_with fail
        generalize hw1 : wr.alloc (.cells #[.string n, .string u] 68) = w1
        have N1 : Hid (NB w1 wr.heap.size [.string n, .string u] 68) := by rw [← hw1]; exact NB.new wr _ _
        have b1 : Hid (Below w.heap.size w w1) := by rw [← hw1]; exact chain BW.out ((Below.refl _ wr).alloc (Nat.le_refl _) _)
        have d0 := N1.out.cell 0 rfl
        have d1 := N1.out.cell 1 rfl
        clear hw1
        go_quiet (exact Calls.quiet_of_same (HN.out _))
        go_wp2_with fail
        go_ret
        exact ⟨ret_bool E.out.symm, bel_drewN b1.out _⟩
      | true =>
        rw [q1, Bool.true_and] at OK
        rw [q1] at HN
        clear q1
        by_cases q2 : u.size ≤ 4000
        · rw [decide_eq_true q2, Bool.true_and] at OK
          have j1 : ¬ (4000 : Int) < (u.size : Int) := by omega
          have j2 : decide ((4000 : Int) < (u.size : Int)) = false := decide_eq_false j1
          go_wp2_with fail
          generalize hw1 : wr.alloc (.cells #[.string n, .string u] 68) = w1
          have N1 : Hid (NB w1 wr.heap.size [.string n, .string u] 68) := by rw [← hw1]; exact NB.new wr _ _
          have b1 : Hid (Below w.heap.size w w1) := by rw [← hw1]; exact chain BW.out ((Below.refl _ wr).alloc (Nat.le_refl _) _)
          have d0 := N1.out.cell 0 rfl
          have d1 := N1.out.cell 1 rfl
          have ln := N1.out.lt
          have ne : wr.heap.size ≠ w1.heap.size := by omega
          have AB : Hid (∀ m, Below w1.heap.size w1 ((w1.alloc (.cells #[.string n] 9)).drewN m)) := fun m => bel_drewN ((Below.refl _ w1).alloc (Nat.le_refl _) _) m
          have HCF := hide (fun m => containsFuncA_any (.slice (some ⟨b, o, none⟩) k c) tk (isN n) 52 #[.pointer (some ⟨w1.heap.size, 0, none⟩)] entersCalled ((w1.alloc (.cells #[.string n] 9)).drewN m) (HT.out.below (chain b1.out (AB.out m))) ((called_pred n w1).later (bel_drewN (Below.refl _ _) m)) TL.out)
          clear hw1 c0 c1 HT
          generalize (tk.findIdx? (isN n)).isSome = r at *
          go_region_held3 (fun w' => w'.cell? ⟨wr.heap.size, 0, none⟩ = some (.string n) ∧ w'.cell? ⟨wr.heap.size, 1, none⟩ = some (.string u)) (first | go_keep | exact ⟨cell_below d0 (chain (AB.out 1) bb), cell_below d1 (chain (AB.out 1) bb)⟩)
            (first | (go_at_call 45; refine (HN.out _).mono ?_; rintro e w' ⟨rfl, rfl⟩) | (go_at_call 50; refine (called_any n _).mono ?_; rintro e w' ⟨rfl, rfl⟩) | (go_at_call 49; refine (HCF.out 1).mono ?_; rintro e w2 ⟨rfl, bb⟩))
          have b2 : Hid (Below w.heap.size w w2) := chain b1.out (chain (AB.out 1) bb)
          cases r with
          | true =>
            have E := hide (BK.out (by rw [OK.out]; rfl))
            clear OK BK NX
            go_wp2_with fail
            go_ret
            exact ⟨ret_bool E.out.symm, b2.out⟩
          | false =>
            have E := hide (NX.out (by rw [OK.out]; rfl))
            clear OK BK NX
            go_wp2_with fail
            go_roundw
            case rel => exact ⟨k + 1, by omega, by go_num, E, b2⟩
            case measure => simp [intOf]; omega
        · rw [decide_eq_false q2, Bool.false_and] at OK
          have E := hide (BK.out OK.out)
          have j1 : (4000 : Int) < (u.size : Int) := by omega
          have j2 : decide ((4000 : Int) < (u.size : Int)) = true := decide_eq_true j1
          clear OK BK NX q2 HT
          go_wp2_with fail
          generalize hw1 : wr.alloc (.cells #[.string n, .string u] 68) = w1
          have N1 : Hid (NB w1 wr.heap.size [.string n, .string u] 68) := by rw [← hw1]; exact NB.new wr _ _
          have b1 : Hid (Below w.heap.size w w1) := by rw [← hw1]; exact chain BW.out ((Below.refl _ wr).alloc (Nat.le_refl _) _)
          have d0 := N1.out.cell 0 rfl
          have d1 := N1.out.cell 1 rfl
          clear hw1
          go_quiet (exact Calls.quiet_of_same (HN.out _))
          go_wp2_with fail
          go_ret
          exact ⟨ret_bool E.out.symm, bel_drewN b1.out _⟩
    · obtain rfl : k = ax.length := by omega
      have E := hide (GOOD.out (fun j hj => hd.out j hj))
      clear BAD GOOD hd HV HS h
      go_wp2_with fail
      go_ret
      exact ⟨ret_bool E.out.symm, BW.out⟩
end Go.Proofs.Ytmobcijigiacoaa

namespace Go.Proofs.Ytmobcijigiacoaa
open Go.RowKit
theorem alone_tx {n : Nd} (h : noName n.name = true) : aloneB n = (n.attrs.isEmpty && (n.kids.isEmpty && decide (n.text.size ≤ 4000))) := by
  unfold aloneB
  have : n.name.size = 0 := by unfold noName at h; exact beq_iff_eq.1 h
  rw [if_pos this]
theorem alone_elem {n : Nd} (h : noName n.name = false) : aloneB n = (nameOk n.name && (n.text.size == 0 && attrsB n.attrs)) := by
  unfold aloneB attrsB
  have : ¬ n.name.size = 0 := by unfold noName at h; rw [beq_eq_false_iff_ne] at h; exact h
  rw [if_neg this]
theorem len_nil {α : Type} (l : List α) : ((l.length : Int) == 0) = l.isEmpty := by
  cases l with
  | nil => rfl
  | cons a t => show (((t.length + 1 : Nat) : Int) == 0) = false; rw [beq_eq_false_iff_ne]; omega
theorem noName_list (n : ByteArray) : (n.toList == []) = noName n := by
  cases q : noName n with
  | true => rw [noName_true q, ByteArray.toList_eq]; rfl
  | false => rw [beq_eq_false_iff_ne]; exact noName_false q
set_option maxHeartbeats 2000000 in
theorem isFormed_any (b o : Nat) (n : Nd) (va vk : Value) (w : World) (hn : NodeAt w b o n va vk) (hz : NdSz n) :
    Calls Try.prog 40 #[.pointer (some ⟨b, o, none⟩)] w fun e w' => e = .returned (.bool (aloneB n)) ∧ Below w.heap.size w w' := by
  have c0 := hn.name
  have c1 := hn.text
  have c2 := hn.attrs
  have c3 := hn.parent
  have c4 := hn.kids
  have z0 := hz.name
  have z1 := hz.text
  have HT := hide (fun w => isText_any n.name n.text va n.parent vk w)
  obtain ⟨pa, ca, ea, ha⟩ := hn.at_
  obtain ⟨pk, ck, ek, hk⟩ := hn.ks
  have hcap := hn.cap _ _ _ ea
  subst ea ek
  have za := hz.attrs
  have zk := hz.kids
  have HA := hide (fun W (hb : Below w.heap.size w W) => areAttrs_any pa ca n.attrs W (hn.at_.below hb) hz.attrs hcap hz.attr)
  have HN := hide (fun W => isName_any n.name W hz.name)
  unfold maxLen at z0 z1
  have CB : Hid (∀ W, Below w.heap.size w W → NodeAt W b o n _ _) := fun W hb => hn.below hb
  have LA := hide (len_nil n.attrs)
  have LK := hide (len_nil n.kids)
  have AT := hide (fun h => alone_tx (n := n) h)
  have AE := hide (fun h => alone_elem (n := n) h)
  clear ha hk hn hz hcap
  cases q : noName n.name with
  | true =>
    have E := AT.out q
    rw [q] at HT
    have EE := hide E
    clear E AT AE HN HA
    by_cases r1 : n.text.size ≤ 4000
    · rw [decide_eq_true r1, Bool.and_true] at EE
      have i1 : (n.text.size : Int) ≤ 4000 := by omega
      have i2 : decide ((n.text.size : Int) ≤ 4000) = true := decide_eq_true i1
      cases r2 : n.attrs.isEmpty with
      | true =>
        rw [r2] at EE LA
        have la := LA.out
        cases r3 : n.kids.isEmpty with
        | true =>
          rw [r3] at EE LK
          have lk := LK.out
          clear r2 r3 LA LK
          go_enter Try.func40, Try.ntmps40
          go_wp2_with fail
          refine (HT.out _).mono ?_
          rintro e w1 ⟨rfl, b1⟩
          have C := CB.out w1 b1
          have c0 := C.name
          have c1 := C.text
          have c2 := C.attrs
          have c4 := C.kids
          clear C CB
          go_wp2_with fail
          go_ret
          exact ⟨ret_bool EE.out.symm, b1⟩
        | false =>
          rw [r3] at EE LK
          have lk := LK.out
          clear r2 r3 LA LK
          go_enter Try.func40, Try.ntmps40
          go_wp2_with fail
          refine (HT.out _).mono ?_
          rintro e w1 ⟨rfl, b1⟩
          have C := CB.out w1 b1
          have c0 := C.name
          have c1 := C.text
          have c2 := C.attrs
          have c4 := C.kids
          clear C CB
          go_wp2_with fail
          go_ret
          exact ⟨ret_bool EE.out.symm, b1⟩
      | false =>
        rw [r2, Bool.false_and] at EE
        rw [r2] at LA
        have la := LA.out
        clear r2 LA LK
        go_enter Try.func40, Try.ntmps40
        go_wp2_with fail
        refine (HT.out _).mono ?_
        rintro e w1 ⟨rfl, b1⟩
        have C := CB.out w1 b1
        have c0 := C.name
        have c1 := C.text
        have c2 := C.attrs
        have c4 := C.kids
        clear C CB
        go_wp2_with fail
        go_ret
        exact ⟨ret_bool EE.out.symm, b1⟩
    · rw [decide_eq_false r1, Bool.and_false, Bool.and_false] at EE
      have i1 : ¬ (n.text.size : Int) ≤ 4000 := by omega
      have i2 : decide ((n.text.size : Int) ≤ 4000) = false := decide_eq_false i1
      clear r1 LA LK
      go_enter Try.func40, Try.ntmps40
      go_wp2_with fail
      refine (HT.out _).mono ?_
      rintro e w1 ⟨rfl, b1⟩
      have C := CB.out w1 b1
      have c0 := C.name
      have c1 := C.text
      have c2 := C.attrs
      have c4 := C.kids
      clear C CB
      go_wp2_with fail
      go_ret
      exact ⟨ret_bool EE.out.symm, b1⟩
  | false =>
    have EE := hide (AE.out q)
    rw [q] at HT
    clear AT AE LA LK
    cases r1 : nameOk n.name with
    | false =>
      rw [r1, Bool.false_and] at EE
      rw [r1] at HN
      clear r1 HA
      go_enter Try.func40, Try.ntmps40
      go_wp2_with fail
      refine (HT.out _).mono ?_
      rintro e w1 ⟨rfl, b1⟩
      have C := CB.out w1 b1
      have c0 := C.name
      have c1 := C.text
      have c2 := C.attrs
      have c4 := C.kids
      clear C CB
      go_wp2_with fail
      refine (HN.out _).mono ?_
      rintro e w2 ⟨rfl, hw⟩
      obtain rfl : w1 = w2 := hw.symm
      go_wp2_with fail
      go_ret
      exact ⟨ret_bool EE.out.symm, b1⟩
    | true =>
      rw [r1, Bool.true_and] at EE
      rw [r1] at HN
      clear r1
      have T1 := hide (noName_list n.text)
      cases r2 : noName n.text with
      | false =>
        have e5 : (n.text.size == 0) = false := r2
        rw [e5, Bool.false_and] at EE
        have e1 := noName_false r2
        have e2 : n.text.toList.isEmpty = false := by cases h : n.text.toList with
          | nil => exact absurd h e1
          | cons => rfl
        rw [r2] at T1
        have e3 := T1.out
        clear r2 e5 T1 HA
        go_enter Try.func40, Try.ntmps40
        go_wp2_with fail
        refine (HT.out _).mono ?_
        rintro e w1 ⟨rfl, b1⟩
        have C := CB.out w1 b1
        have c0 := C.name
        have c1 := C.text
        have c2 := C.attrs
        have c4 := C.kids
        clear C CB
        go_wp2_with fail
        refine (HN.out _).mono ?_
        rintro e w2 ⟨rfl, hw⟩
        obtain rfl : w1 = w2 := hw.symm
        go_wp2_with fail
        go_ret
        exact ⟨ret_bool EE.out.symm, b1⟩
      | true =>
        have e5 : (n.text.size == 0) = true := r2
        rw [e5, Bool.true_and] at EE
        have et := noName_true r2
        rw [et] at c1 HT
        have ET := hide et
        clear r2 e5 T1 et z1
        go_enter Try.func40, Try.ntmps40
        go_wp2_with fail
        refine (HT.out _).mono ?_
        rintro e w1 ⟨rfl, b1⟩
        have C := CB.out w1 b1
        have c0 := C.name
        have c1 := C.text
        rw [ET.out] at c1
        have c2 := C.attrs
        have c4 := C.kids
        clear C CB
        go_wp2_with fail
        refine (HN.out _).mono ?_
        rintro e w2 ⟨rfl, hw⟩
        obtain rfl : w1 = w2 := hw.symm
        go_wp2_with fail
        refine (HA.out _ b1).mono ?_
        rintro e w3 ⟨rfl, b3⟩
        go_wp2_with fail
        go_ret
        exact ⟨ret_bool EE.out.symm, chain b1 b3⟩
end Go.Proofs.Ytmobcijigiacoaa

namespace Go.Proofs.Ytmobcijigiacoaa
open Go.RowKit
theorem kidsI_at {l : List Nd} {m : Nat} (h : m < l.length) : kidsI l (m : Int) = l[m].kids := by unfold kidsI; rw [Int.toNat_natCast, nd_at h]
set_option maxHeartbeats 4000000 in
set_option maxRecDepth 100000 in
theorem down_any (w0 : World) (v : Value) (l : List Nd) (hv : NodesV w0 v l) : ∀ (f : Nat) (k : Int) (xs : List Int) (lv : Value) (w : World), Below w0.heap.size w0 w → KidsO w0.heap.size w lv xs → Sub l f k → xs.length + (downF l f k).length ≤ 17592186044416 →
    Calls Try.prog 47 #[lv, v, .int .i64 k] w fun e w' => ∃ v', e = .returned v' ∧ KidsO w0.heap.size w' v' (xs ++ downF l f k) ∧ Below w0.heap.size w0 w' := by
  intro f
  induction f with
  | zero => intro k xs lv w _ _ h _; exact h.elim
  | succ f ih =>
    intro k xs lv w hb hown hs hsz
    obtain ⟨m, rfl⟩ : ∃ m : Nat, k = (m : Int) := ⟨k.toNat, by have := hs.1.1; omega⟩
    have hm : m < l.length := by have := hs.1.2; omega
    have IH := hide ih
    have KD := hide hs.2
    rw [kidsI_at hm] at KD
    have e1 : downF l (f + 1) (m : Int) = (m : Int) :: l[m].kids.flatMap (downF l f) := by show _ :: (kidsI l (m : Int)).flatMap _ = _; rw [kidsI_at hm]
    rw [e1] at hsz ⊢
    rw [List.length_cons] at hsz
    clear ih hs e1
    obtain ⟨p, c, rfl, hv⟩ := hv
    rcases hv with hv | ⟨b, o, rfl, hv⟩
    · rw [hv] at hm; simp at hm
    obtain ⟨va, vk, N0⟩ := hv m hm
    have NW : Hid (∀ W, Below w0.heap.size w0 W → NodeAt W b (o + m * 5) l[m] va vk) := fun W hW => N0.below hW
    obtain ⟨pk, ck, rfl, hk⟩ := N0.ks
    have HK := hide hk
    have i0 : (0 : Int) ≤ (m : Int) := by omega
    have i1 : (m : Int) < (l.length : Int) := by omega
    obtain ⟨iI, hI0, hI1, hI2, hI3⟩ := info_parts infoI
    generalize hB : w0.heap.size = B at *
    have Bw : B ≤ w.heap.size := by have := hb.size; omega
    have OW := hide (World.ownsRow.alloc hown (.cells #[.int .i64 (m : Int)] 3))
    have RW := hide ((NB.new w [.int .i64 (m : Int)] 3).raw 1 1 rfl 1)
    have SZ := hide hsz
    have HB := hide hb
    have h1 : xs.length + 1 ≤ 17592186044416 := by omega
    have hBa : Hid (B ≤ (w.alloc (.cells #[.int .i64 (m : Int)] 3)).heap.size) := by show _ ≤ _; simp; omega
    have ksz : l[m].kids.length ≤ 17592186044416 := by
      have F : ∀ L : List Int, (∀ x ∈ L, Sub l f x) → L.length ≤ (L.flatMap (downF l f)).length := by
        intro L
        induction L with
        | nil => intro _; exact Nat.zero_le _
        | cons a t iht =>
          intro hL
          rw [List.flatMap_cons, List.length_append, List.length_cons]
          have := iht (fun x hx => hL x (List.mem_cons_of_mem _ hx))
          have := List.length_pos_of_mem (down_self (hL a (List.mem_cons_self ..)))
          omega
      have := F l[m].kids KD.out
      omega
    clear hv N0 hk hown hb hsz
    go_enter Try.func47, Try.ntmps47
    go_wp2_with (at_builtin; refine wpList_append_raw rfl _ _ _ rfl B 3 iI _ 1 8 Try.underlying25 hI0 hI1 hI2 hI3 rfl (by omega) _ xs.length (cellsI xs) rfl OW.out _ 1 _ rfl RW.out (by simp [Value.oneCell']) (by unfold maxLen; omega) (by omega) hBa.out ?_; intro q1 c1 w1 own1 gr1 at1; have B1 : Hid (Below B w0 w1) := HB.out.trans (((Chg.alloc w _).nil.trans (Chg.of_grown gr1)).below Bw (fun k hk => (OW.out.lt k (opt_mem.1 hk)).1)); have a4 := (NW.out w1 B1.out).kids)
    have K1 : Hid (KidsO B w1 (.slice q1 (xs.length + 1) c1) (xs ++ [(m : Int)])) := by
      have := own1
      show w1.ownsRow B _ 1 _ (xs ++ [(m : Int)]).length (cellsI (xs ++ [(m : Int)]))
      rw [List.length_append, cellsI_app]
      exact own1
    clear own1 gr1 at1 OW RW hBa HB
    go_loopw [0, 19] (fun sv iv wr => ∃ j : Nat, j ≤ l[m].kids.length ∧ iv = .int .i64 j ∧ Hid (KidsO B wr sv (xs ++ (m : Int) :: (l[m].kids.take j).flatMap (downF l f))) ∧ Hid (Below B w0 wr)) (fun _ iv _ => l[m].kids.length - (intOf iv).toNat)
    case atStart => exact ⟨0, Nat.zero_le _, rfl, by show KidsO _ _ _ _; rw [List.take_zero]; exact K1.out, B1.out⟩
    case round =>
      rename World => wr
      obtain ⟨j, hj, rfl, KO, BW⟩ := hrel
      clear a4 K1 B1
      by_cases h : j < l[m].kids.length
      · have j1 : (j : Int) < (l[m].kids.length : Int) := by omega
        have j0 : (0 : Int) ≤ (j : Int) := by omega
        obtain ⟨bk, ok, rfl, hk⟩ : ∃ bk ok, pk = some ⟨bk, ok, none⟩ ∧ ∀ i (h : i < l[m].kids.length), w0.cell? ⟨bk, ok + i, none⟩ = some (.int .i64 l[m].kids[i]) := by
          rcases HK.out with q | q
          · rw [q] at h; simp at h
          · exact q
        have a5 := cell_below (hk j h) (by rw [hB]; exact BW.out)
        have SK := KD.out l[m].kids[j] (List.getElem_mem _)
        have e2 : l[m].kids.take (j + 1) = l[m].kids.take j ++ [l[m].kids[j]] := List.take_succ_eq_append_getElem h
        have e3 : (l[m].kids.take (j + 1)).flatMap (downF l f) = (l[m].kids.take j).flatMap (downF l f) ++ downF l f l[m].kids[j] := by rw [e2, List.flatMap_append, List.flatMap_singleton]
        have L1 : ((l[m].kids.take (j + 1)).flatMap (downF l f)).length ≤ (l[m].kids.flatMap (downF l f)).length := by
          have : l[m].kids = l[m].kids.take (j + 1) ++ l[m].kids.drop (j + 1) := (List.take_append_drop _ _).symm
          have e4 := congrArg (fun L => (L.flatMap (downF l f)).length) this
          simp only [List.flatMap_append, List.length_append] at e4
          omega
        have HC := IH.out l[m].kids[j] _ _ wr BW.out KO.out SK (by
          rw [e3, List.length_append] at L1
          rw [List.length_append, List.length_cons]
          have := SZ.out
          omega)
        rw [List.append_assoc, List.cons_append, ← e3] at HC
        have HC := hide HC
        clear hk SK e2 e3 L1 KO
        generalize l[m].kids[j] = kc at *
        go_wp2_with fail
        refine HC.out.mono ?_
        rintro e w2 ⟨v2, rfl, k2, b2⟩
        go_wp2_with fail
        go_roundw
        case rel => exact ⟨j + 1, by omega, by go_num, k2, b2⟩
        case measure => simp [intOf]; omega
      · obtain rfl : j = l[m].kids.length := by omega
        go_wp2_with fail
        go_ret
        refine ⟨_, rfl, ?_, BW.out⟩
        have := KO.out
        rw [List.take_length] at this
        exact this
end Go.Proofs.Ytmobcijigiacoaa

namespace Go.Proofs.Ytmobcijigiacoaa
open Go.RowKit
/-- A bool is answered, of which P holds. -/
def AnsB (P : Bool → Prop) (e : Ending) : Prop := ∃ r : Bool, e = .returned (.bool r) ∧ P r
/-- A row of marks in a block of the call's own. -/
structure Lst (w : World) (n : Nat) (L : Nat → Bool) : Prop where
  cell : ∀ x, x < 400 → w.cell? ⟨n, x, none⟩ = some (.bool (L x))
  free : ∀ x, w.frozen? ⟨n, x, none⟩ = false
def Try.zeroCells71 : Array Value := Array.replicate 400 (.bool false)
theorem marksInfo : (Try.prog.info? 71).map (fun i => i.zero) = some (some (.agg (Array.replicate 400 (.bool false)))) := by kernel_rfl
theorem Try.zeroValue71 (w : World) : (zeroValue 71).run Try.prog w = .ok (.agg Try.zeroCells71) w := by
  obtain ⟨i, hi, hz⟩ := Option.map_eq_some_iff.1 marksInfo
  simp [zeroValue, typeInfo, hi, hz]
  rfl
/-- The row as it begins (marksInfo). -/
theorem marks_zero : Try.zeroCells71 = Array.replicate 400 (.bool false) := by kernel_rfl
theorem Lst.new (w : World) : Lst (w.alloc (.cells Try.zeroCells71 71)) w.heap.size (fun _ => false) := by
  refine ⟨fun x hx => ?_, fun x => ?_⟩
  · rw [cell_of_row _ _ _ _ _ _ (heap_alloc_new w _), marks_zero]
    simp [hx]
  · simp only [World.frozen?]
    rw [heap_alloc_new]
    simp
theorem Lst.set {w : World} {n : Nat} {L : Nat → Bool} (h : Lst w n L) {y : Nat} (hy : y < 400) : Lst (w.setCell ⟨n, y, none⟩ (.bool true)) n (fun x => if x = y then true else L x) := by
  refine ⟨fun x hx => ?_, fun x => ?_⟩
  · by_cases e : x = y
    · subst e
      rw [if_pos rfl]
      exact World.cell?_setCell_same _ _ _ (by rw [h.cell x hx])
    · rw [if_neg e, World.cell?_setCell_other _ _ _ _ (fun q => e (by cases q; rfl))]
      exact h.cell x hx
  · have := h.free x
    rw [← this]
    exact World.frozen?_setCell ..
theorem parI_nat {l : List Nd} {m : Nat} (h : m < l.length) : parI l (m : Int) = l[m].parent := by unfold parI; rw [Int.toNat_natCast, nd_at h]
/-- So far all is linked. -/
structure LinkTo (l : List Nd) (i : Nat) : Prop where
  kid : ∀ i', i' < i → ∀ c ∈ (nd l i').kids, inR l c ∧ parI l c = (i' : Int)
  once : ∀ i', i' < i → (nd l i').kids.Nodup
theorem link_more {l : List Nd} {i : Nat} (h : LinkTo l i) (h1 : ∀ c ∈ (nd l i).kids, inR l c ∧ parI l c = (i : Int)) (h2 : (nd l i).kids.Nodup) : LinkTo l (i + 1) := by
  refine ⟨fun i' hi => ?_, fun i' hi => ?_⟩
  · rcases Nat.lt_or_ge i' i with q | q
    · exact h.kid i' q
    · obtain rfl : i' = i := by omega
      exact h1
  · rcases Nat.lt_or_ge i' i with q | q
    · exact h.once i' q
    · obtain rfl : i' = i := by omega
      exact h2
def seenB (l : List Nd) (i : Nat) (x : Int) : Prop := ∃ i', i' < i ∧ x ∈ (nd l i').kids
theorem seen_more {l : List Nd} {i : Nat} {x : Int} : seenB l (i + 1) x ↔ seenB l i x ∨ x ∈ (nd l i).kids := by
  constructor
  · rintro ⟨i', h1, h2⟩
    rcases Nat.lt_or_ge i' i with q | q
    · exact .inl ⟨i', q, h2⟩
    · obtain rfl : i' = i := by omega
      exact .inr h2
  · rintro (⟨i', h1, h2⟩ | h)
    · exact ⟨i', by omega, h2⟩
    · exact ⟨i, by omega, h⟩
set_option maxHeartbeats 4000000 in
set_option maxRecDepth 100000 in
theorem areLinked_any (v : Value) (l : List Nd) (w : World) (hv : NodesV w v l) (hz : DocSz l) (h4 : l.length ≤ 400) :
    Calls Try.prog 41 #[v] w fun e w' => AnsB (fun r => r = true ↔ Linked l) e ∧ Below w.heap.size w w' := by
  obtain ⟨p, c, rfl, hv⟩ := hv
  have HV := hide hv
  have HZ := hide hz
  have zm := Try.zeroValue71
  clear hv hz
  go_enter Try.func41, Try.ntmps41
  go_wp2_with fail
  generalize hw1 : w.alloc (.cells Try.zeroCells71 71) = w1
  have L1 : Hid (Lst w1 w.heap.size (fun _ => false)) := by rw [← hw1]; exact Lst.new w
  have B1 : Hid (Below w.heap.size w w1) := by rw [← hw1]; exact (Below.refl _ w).alloc (Nat.le_refl _) _
  have S1 : Hid (w.heap.size < w1.heap.size) := by rw [← hw1]; show _ < _; simp
  clear hw1 zm
  go_loopw [9] (fun iv wr => ∃ (i : Nat) (L : Nat → Bool), i ≤ l.length ∧ iv = .int .i64 i ∧ Hid (Lst wr w.heap.size L) ∧ Hid (∀ x : Nat, L x = true ↔ seenB l i (x : Int)) ∧ Hid (LinkTo l i) ∧ Hid (Below w.heap.size w wr)) (fun iv _ => l.length - (intOf iv).toNat)
  case atStart => exact ⟨0, _, Nat.zero_le _, rfl, L1, (fun x => ⟨(fun q => by cases q), fun ⟨i', q, _⟩ => by omega⟩), ⟨fun i' q => by omega, fun i' q => by omega⟩, B1⟩
  case round =>
    rename World => wr
    obtain ⟨i, L, hi, rfl, HL, HS, LT, BW⟩ := hrel
    clear L1 B1 S1
    by_cases h : i < l.length
    · have i1 : (i : Int) < (l.length : Int) := by omega
      have i0 : (0 : Int) ≤ (i : Int) := by omega
      obtain ⟨b, o, rfl, hcell⟩ : ∃ b o, p = some ⟨b, o, none⟩ ∧ ∀ i (h : i < l.length), ∃ va vk, NodeAt w b (o + i * 5) l[i] va vk := by
        rcases HV.out with q | q
        · rw [q] at h; simp at h
        · exact q
      have HC := hide hcell
      obtain ⟨va, vk, N0⟩ := hcell i h
      have a4 := (N0.below BW.out).kids
      obtain ⟨pk, ck, rfl, hk⟩ := N0.ks
      have HK := hide hk
      have kz := (HZ.out.nds l[i] (List.getElem_mem _)).kids
      have KN : Hid ((nd l i).kids = l[i].kids) := by show _ = _; rw [nd_at h]
      clear hk N0 hcell
      go_wp2_with fail
      go_loopw [18] (fun jv wq => ∃ (j : Nat) (L : Nat → Bool), j ≤ l[i].kids.length ∧ jv = .int .i64 j ∧ Hid (Lst wq w.heap.size L) ∧ Hid (∀ x : Nat, L x = true ↔ seenB l i (x : Int) ∨ (x : Int) ∈ l[i].kids.take j) ∧ Hid (∀ c ∈ l[i].kids.take j, inR l c ∧ parI l c = (i : Int)) ∧ Hid ((l[i].kids.take j).Nodup) ∧ Hid (Below w.heap.size w wq)) (fun jv _ => l[i].kids.length - (intOf jv).toNat)
      case atStart => exact ⟨0, L, Nat.zero_le _, rfl, HL, (fun x => by rw [List.take_zero]; simpa using HS.out x), (fun c q => by rw [List.take_zero] at q; cases q), by show List.Nodup _; rw [List.take_zero]; exact List.nodup_nil, BW⟩
      case round =>
        rename World => wq
        obtain ⟨j, L2, hj, rfl, HL2, HS2, HK2, HD2, BW2⟩ := hrel
        clear HL HS BW a4
        by_cases hjj : j < l[i].kids.length
        · have j1 : (j : Int) < (l[i].kids.length : Int) := by omega
          have j0 : (0 : Int) ≤ (j : Int) := by omega
          obtain ⟨bk, ok, rfl, hk⟩ : ∃ bk ok, pk = some ⟨bk, ok, none⟩ ∧ ∀ t (h : t < l[i].kids.length), w.cell? ⟨bk, ok + t, none⟩ = some (.int .i64 l[i].kids[t]) := by
            rcases HK.out with q | q
            · rw [q] at hjj; simp at hjj
            · exact q
          have a5 := cell_below (hk j hjj) BW2.out
          have NO : Hid (¬ (inR l l[i].kids[j] ∧ parI l l[i].kids[j] = (i : Int)) → (false = true ↔ Linked l)) := fun q => ⟨(fun r => by cases r), fun r => absurd (r.kid i h l[i].kids[j] (by rw [KN.out]; exact List.getElem_mem _)) q⟩
          have e2 : l[i].kids.take (j + 1) = l[i].kids.take j ++ [l[i].kids[j]] := List.take_succ_eq_append_getElem hjj
          have TW : Hid (l[i].kids[j] ∈ l[i].kids.take j → (false = true ↔ Linked l)) := fun q => ⟨(fun r => by cases r), fun r => by
            have := r.once i h
            rw [KN.out, ← List.take_append_drop (j + 1) l[i].kids, e2, List.append_assoc, List.nodup_append] at this
            exact absurd rfl (this.2.2 _ q _ (List.mem_append_left _ (List.mem_singleton.2 rfl)))⟩
          have E2 := hide e2
          clear hk e2
          generalize l[i].kids[j] = kc at *
          by_cases q1 : kc < 0
          · have E := hide (NO.out (fun r => by have := r.1.1; omega))
            clear NO TW E2
            go_wp2_with fail
            go_ret
            exact ⟨⟨false, rfl, E.out⟩, BW2.out⟩
          · by_cases q2 : (l.length : Int) ≤ kc
            · have E := hide (NO.out (fun r => by have := r.1.2; omega))
              have d1 : decide (kc < 0) = false := decide_eq_false q1
              clear NO TW E2
              go_wp2_with fail
              go_ret
              exact ⟨⟨false, rfl, E.out⟩, BW2.out⟩
            · obtain ⟨m, rfl⟩ : ∃ m : Nat, kc = (m : Int) := ⟨kc.toNat, by omega⟩
              have hm : m < l.length := by omega
              have d2 : decide ((l.length : Int) ≤ (m : Int)) = false := decide_eq_false q2
              obtain ⟨vm, km, NM⟩ := HC.out m hm
              have a6 := (NM.below BW2.out).parent
              have m0 : (0 : Int) ≤ (m : Int) := by omega
              have m1 : (m : Int) < (l.length : Int) := by omega
              have m4 : (m : Int) < 400 := by omega
              have PM := hide (parI_nat hm)
              have a7 := HL2.out.cell m (by omega)
              have a8 := HL2.out.free m
              have HM2 := hide (HS2.out m)
              clear NM
              by_cases q3 : l[m].parent = (i : Int)
              · have f1 : (l[m].parent != (i : Int)) = false := by rw [q3]; simp
                have f2 : (l[m].parent == (i : Int)) = true := by rw [q3]; simp
                have PE : Hid (inR l (m : Int) ∧ parI l (m : Int) = (i : Int)) := ⟨⟨m0, m1⟩, by rw [PM.out, q3]⟩
                clear q3
                generalize l[m].parent = pm at *
                cases q4 : L2 m with
                | true =>
                  rw [q4] at a7
                  have E : Hid (false = true ↔ Linked l) := by
                    rcases HM2.out.1 q4 with ⟨i', r1, r2⟩ | r
                    · have := (LT.out.kid i' r1 _ r2).2
                      rw [PE.out.2] at this
                      omega
                    · exact TW.out r
                  clear NO TW E2 HM2 PM q4
                  go_wp2_with fail
                  go_ret
                  exact ⟨⟨false, rfl, E.out⟩, BW2.out⟩
                | false =>
                  rw [q4] at a7
                  have NM : Hid (¬ (m : Int) ∈ l[i].kids.take j) := fun r => by
                    have := HM2.out.2 (.inr r)
                    rw [q4] at this; cases this
                  clear NO TW HM2 PM q4
                  go_wp2_with fail
                  go_roundw
                  case rel =>
                    refine ⟨j + 1, _, by omega, by go_num, HL2.out.set (y := m) (by omega), (fun x => ?_), (fun c hc => ?_), ?_, BW2.out.setCell (Nat.le_refl _) _⟩
                    · rw [E2.out, List.mem_append, List.mem_singleton]
                      by_cases e : x = m
                      · subst e; rw [if_pos rfl]; exact ⟨fun _ => .inr (.inr rfl), fun _ => rfl⟩
                      · rw [if_neg e, HS2.out x]
                        constructor
                        · rintro (r | r)
                          · exact .inl r
                          · exact .inr (.inl r)
                        · rintro (r | r | r)
                          · exact .inl r
                          · exact .inr r
                          · omega
                    · rw [E2.out] at hc
                      rcases List.mem_append.1 hc with r | r
                      · exact HK2.out c r
                      · rw [List.mem_singleton.1 r]; exact PE.out
                    · show List.Nodup _
                      rw [E2.out, List.nodup_append]
                      exact ⟨HD2.out, by simp, fun a ha b hb e => by rw [List.mem_singleton.1 hb] at e; rw [e] at ha; exact NM.out ha⟩
                  case measure => simp [intOf]; omega
              · have f1 : (l[m].parent != (i : Int)) = true := by rw [bne_iff_ne]; exact q3
                have f2 : (l[m].parent == (i : Int)) = false := by rw [beq_eq_false_iff_ne]; exact q3
                have E := hide (NO.out (fun r => q3 (by rw [← PM.out]; exact r.2)))
                clear NO TW E2 PM q3 HM2
                generalize l[m].parent = pm at *
                go_wp2_with fail
                go_ret
                exact ⟨⟨false, rfl, E.out⟩, BW2.out⟩
        · obtain rfl : j = l[i].kids.length := by omega
          have F1 := HS2.out
          have F2 := HK2.out
          have F3 := HD2.out
          rw [List.take_length, ← KN.out] at F1 F2 F3
          have G1 : Hid (∀ x : Nat, L2 x = true ↔ seenB l (i + 1) (x : Int)) := fun x => by rw [seen_more]; exact F1 x
          have G2 : Hid (LinkTo l (i + 1)) := link_more LT.out F2 F3
          clear F1 F2 F3 hjj
          go_wp2_with fail
          go_roundw
          case rel => exact ⟨i + 1, L2, by omega, by go_num, HL2, G1, G2, BW2⟩
          case measure => simp [intOf]; omega
    · obtain rfl : i = l.length := by omega
      clear h
      go_wp2_with fail
      go_ret
      exact ⟨⟨true, rfl, ⟨fun _ => ⟨LT.out.kid, LT.out.once⟩, fun _ => rfl⟩⟩, BW.out⟩
end Go.Proofs.Ytmobcijigiacoaa

namespace Go.Proofs.Ytmobcijigiacoaa
open Go.RowKit
def rootsTo (l : List Nd) (i : Nat) : List Int := ((List.range i).filter fun i => (nd l i).parent == -1).map fun i : Nat => (i : Int)
theorem rootsTo_succ (l : List Nd) (i : Nat) : rootsTo l (i + 1) = rootsTo l i ++ (if (nd l i).parent = -1 then [(i : Int)] else []) := by
  unfold rootsTo
  rw [List.range_succ, List.filter_append, List.map_append]
  congr 1
  by_cases h : (nd l i).parent = -1
  · rw [if_pos h, List.filter_cons, if_pos (by rw [h]; rfl)]; rfl
  · rw [if_neg h, List.filter_cons, if_neg (by rw [beq_iff_eq]; exact h)]; rfl
theorem rootsTo_sub {l : List Nd} {i : Nat} (h : i ≤ l.length) : ((rootsTo l i).flatMap (downF l l.length)).length ≤ (allL l).length := by
  obtain ⟨k, hk⟩ : ∃ k, l.length = i + k := ⟨l.length - i, by omega⟩
  unfold allL rootsL rootsTo
  rw [show List.range l.length = List.range (i + k) by rw [hk], List.range_add, List.filter_append, List.map_append, List.flatMap_append, List.length_append]
  omega
theorem all_len {l : List Nd} (h : Linked l) : (allL l).length ≤ l.length := nodup_len _ _ (all_nodup h) fun _ hx => all_range h hx
set_option maxHeartbeats 4000000 in
set_option maxRecDepth 100000 in
theorem areReached_any (v : Value) (l : List Nd) (w : World) (hv : NodesV w v l) (h4 : l.length ≤ 400) (hl : Linked l) :
    Calls Try.prog 42 #[v] w fun e w' => e = .returned (.bool (decide ((allL l).length = l.length))) ∧ Below w.heap.size w w' := by
  have HV := hide hv
  obtain ⟨p, c, rfl, hv⟩ := hv
  have HP := hide hv
  obtain ⟨iI, hI0, hI1, hI2, hI3⟩ := info_parts infoI
  have MK := hide (fun w => run_make (P := Try.prog) w 25 3 iI (.int .i64 0) Try.underlying25 hI0 hI1 .i64 .i64 (0 : Int) (l.length : Int) (by omega) (by omega) (by rw [hI3]; omega) (by omega))
  rw [hI2] at MK
  have HLk := hide hl
  have HD := hide (fun (k : Int) (xs : List Int) (lv : Value) (W : World) => down_any w _ l HV.out l.length k xs lv W)
  have mk := fun w => MK.out w
  clear hv hl hI0 hI1 hI2 hI3
  go_enter Try.func42, Try.ntmps42
  go_wp2_with fail
  generalize hw1 : w.alloc (.cells (madeCells #[Value.int .i64 0] l.length) 3) = w1
  have K1 : Hid (KidsO w.heap.size w1 (.slice (some ⟨w.heap.size, 0, none⟩) 0 l.length) []) := by
    rw [← hw1]
    exact World.ownsRow_made w _ _ (Nat.le_refl _) (by unfold maxLen; omega) (by rw [size_madeCells]; simp)
  have B1 : Hid (Below w.heap.size w w1) := by rw [← hw1]; exact (Below.refl _ w).alloc (Nat.le_refl _) _
  clear hw1 mk MK
  go_loopw [3, 10] (fun sv iv wr => ∃ i : Nat, i ≤ l.length ∧ iv = .int .i64 i ∧ Hid (KidsO w.heap.size wr sv ((rootsTo l i).flatMap (downF l l.length))) ∧ Hid (Below w.heap.size w wr)) (fun _ iv _ => l.length - (intOf iv).toNat)
  case atStart => exact ⟨0, Nat.zero_le _, rfl, K1, B1⟩
  case round =>
    rename World => wr
    obtain ⟨i, hi, rfl, KO, BW⟩ := hrel
    clear K1 B1
    by_cases h : i < l.length
    · have i1 : (i : Int) < (l.length : Int) := by omega
      have i0 : (0 : Int) ≤ (i : Int) := by omega
      obtain ⟨b, o, rfl, hcell⟩ : ∃ b o, p = some ⟨b, o, none⟩ ∧ ∀ i (h : i < l.length), ∃ va vk, NodeAt w b (o + i * 5) l[i] va vk := by
        rcases HP.out with q | q
        · rw [q] at h; simp at h
        · exact q
      obtain ⟨va, vk, N0⟩ := hcell i h
      have a3 := (N0.below BW.out).parent
      have E := rootsTo_succ l i
      rw [nd_at h] at E
      have PI := hide (parI_nat h)
      have ER := hide E
      clear N0 hcell E
      by_cases q : l[i].parent = -1
      · have f1 : (l[i].parent == -1) = true := by rw [q]; rfl
        have f2 : (l[i].parent != -1) = false := by rw [q]; rfl
        have e1 : rootsTo l (i + 1) = rootsTo l i ++ [(i : Int)] := by rw [ER.out, if_pos q]
        have hs : Sub l l.length (i : Int) := root_sub HLk.out (mem_roots.2 ⟨⟨i0, i1⟩, by rw [PI.out, q]⟩)
        have e2 : (rootsTo l (i + 1)).flatMap (downF l l.length) = (rootsTo l i).flatMap (downF l l.length) ++ downF l l.length (i : Int) := by rw [e1, List.flatMap_append, List.flatMap_singleton]
        have L1 := rootsTo_sub (l := l) (i := i + 1) (by omega)
        have L2 := all_len HLk.out
        have HC := hide (HD.out (i : Int) _ _ wr BW.out KO.out hs (by rw [e2, List.length_append] at L1; omega))
        rw [← e2] at HC
        clear q e1 hs e2 L1 L2 ER PI KO HD
        generalize l[i].parent = pm at *
        go_wp2_with fail
        refine HC.out.mono ?_
        rintro e w2 ⟨v2, rfl, k2, b2⟩
        go_wp2_with fail
        go_roundw
        case rel => exact ⟨i + 1, by omega, by go_num, k2, b2⟩
        case measure => simp [intOf]; omega
      · have f1 : (l[i].parent == -1) = false := by rw [beq_eq_false_iff_ne]; exact q
        have f2 : (l[i].parent != -1) = true := by rw [bne_iff_ne]; exact q
        have e1 : rootsTo l (i + 1) = rootsTo l i := by rw [ER.out, if_neg q, List.append_nil]
        have KO' := hide KO.out
        rw [← e1] at KO'
        clear q e1 ER PI KO HD
        generalize l[i].parent = pm at *
        go_wp2_with fail
        go_roundw
        case rel => exact ⟨i + 1, by omega, by go_num, KO', BW⟩
        case measure => simp [intOf]; omega
    · obtain rfl : i = l.length := by omega
      have KF := KO.out
      have e1 : (rootsTo l l.length).flatMap (downF l l.length) = allL l := rfl
      rw [e1] at KF
      obtain ⟨pp, cc, ev, _⟩ := KF.ints
      have E : Hid ((((allL l).length : Int) == (l.length : Int)) = decide ((allL l).length = l.length)) := by
        show _ = _
        by_cases t : (allL l).length = l.length
        · rw [decide_eq_true t, t]; simp
        · rw [decide_eq_false t, beq_eq_false_iff_ne]; omega
      clear KF e1 KO h HD
      subst ev
      go_wp2_with fail
      go_ret
      exact ⟨ret_bool E.out, BW.out⟩
theorem not_right {l : List Nd} (h : ¬ Right l) : rightB l = false := by
  cases q : rightB l with
  | false => rfl
  | true => exact absurd (right_is.1 q) h
set_option maxHeartbeats 4000000 in
set_option maxRecDepth 100000 in
theorem right_any (v : Value) (l : List Nd) (w : World) (hv : NodesV w v l) (hz : DocSz l) :
    Calls Try.prog 35 #[v] w fun e w' => e = .returned (.bool (rightB l)) ∧ Below w.heap.size w w' := by
  have HV := hide hv
  obtain ⟨p, c, rfl, hv⟩ := hv
  have HP := hide hv
  have hlen := hz.len
  have HZ := hide hz
  clear hv hz
  by_cases h1 : l.length < 1
  · have E := hide (not_right (l := l) (fun r => by have := r.len; omega))
    have i1 : (l.length : Int) < 1 := by omega
    clear h1
    go_enter Try.func35, Try.ntmps35
    go_wp2_with fail
    go_ret
    exact ⟨ret_bool E.out.symm, Below.refl _ _⟩
  by_cases h2 : 400 < l.length
  · have E := hide (not_right (l := l) (fun r => by have := r.len; omega))
    have i1 : ¬ (l.length : Int) < 1 := by omega
    have i2 : (400 : Int) < (l.length : Int) := by omega
    clear h1 h2
    go_enter Try.func35, Try.ntmps35
    go_wp2_with fail
    go_ret
    exact ⟨ret_bool E.out.symm, Below.refl _ _⟩
  have i1 : ¬ (l.length : Int) < 1 := by omega
  have i2 : ¬ (400 : Int) < (l.length : Int) := by omega
  have i3 : decide ((400 : Int) < (l.length : Int)) = false := decide_eq_false i2
  have n4 : l.length ≤ 400 := by omega
  have p0 : 0 < l.length := by omega
  have i4 : (0 : Int) < (l.length : Int) := by omega
  obtain ⟨b, o, rfl, hcell⟩ : ∃ b o, p = some ⟨b, o, none⟩ ∧ ∀ i (h : i < l.length), ∃ va vk, NodeAt w b (o + i * 5) l[i] va vk := by
    rcases HP.out with q | q
    · rw [q] at p0; simp at p0
    · exact q
  have HC := hide hcell
  obtain ⟨va, vk, N0⟩ := hcell 0 p0
  rw [Nat.zero_mul, Nat.add_zero] at N0
  have a0 := N0.name
  have a1 := N0.text
  have a2 := N0.attrs
  have a3 := N0.parent
  have a4 := N0.kids
  have NW : Hid (∀ W, Below w.heap.size w W → NodeAt W b o l[0] va vk) := fun W hb => N0.below hb
  have HT := hide (fun W => isText_any l[0].name l[0].text va l[0].parent vk W)
  have e0 : nd l 0 = l[0] := nd_at p0
  clear hcell N0 HP h1 h2
  cases q1 : noName l[0].name with
  | true =>
    have E := hide (not_right (l := l) (fun r => r.head (by rw [e0]; unfold noName at q1; exact beq_iff_eq.1 q1)))
    rw [q1] at HT
    clear q1 e0
    go_enter Try.func35, Try.ntmps35
    go_wp2_with fail
    refine (HT.out _).mono ?_
    rintro e w1 ⟨rfl, b1⟩
    go_wp2_with fail
    go_ret
    exact ⟨ret_bool E.out.symm, b1⟩
  | false =>
    rw [q1] at HT
    have NH : Hid (¬ (nd l 0).name.size = 0) := by rw [e0]; intro t; unfold noName at q1; rw [t] at q1; cases q1
    clear q1
    by_cases q2 : l[0].parent = -1
    rotate_left
    · have E := hide (not_right (l := l) (fun r => q2 (by rw [← e0]; exact r.root)))
      have f1 : (l[0].parent != -1) = true := by rw [bne_iff_ne]; exact q2
      have f2 : (l[0].parent == -1) = false := by rw [beq_eq_false_iff_ne]; exact q2
      clear q2 e0
      go_enter Try.func35, Try.ntmps35
      go_wp2_with fail
      refine (HT.out _).mono ?_
      rintro e w1 ⟨rfl, b1⟩
      have d3 := (NW.out w1 b1).parent
      go_wp2_with fail
      go_ret
      exact ⟨ret_bool E.out.symm, b1⟩
    have f1 : (l[0].parent != -1) = false := by rw [q2]; rfl
    have f2 : (l[0].parent == -1) = true := by rw [q2]; rfl
    have RT : Hid ((nd l 0).parent = -1) := by rw [e0]; exact q2
    clear e0 q2
    go_enter Try.func35, Try.ntmps35
    go_wp2_with fail
    refine (HT.out _).mono ?_
    rintro e w1 ⟨rfl, b1⟩
    have d3 := (NW.out w1 b1).parent
    go_wp2_with fail
    have B1 := hide b1
    clear b1 d3 a0 a1 a2 a3 a4 NW HT f1 f2
    go_loopw [27] (fun iv wr => ∃ i : Nat, i ≤ l.length ∧ iv = .int .i64 i ∧ Hid (∀ j, j < i → aloneB (nd l j) = true) ∧ Hid (Below w.heap.size w wr)) (fun iv _ => l.length - (intOf iv).toNat)
    case atStart => exact ⟨0, Nat.zero_le _, rfl, fun j q => by omega, B1⟩
    case round =>
      rename World => wr
      obtain ⟨i, hi, rfl, AL, BW⟩ := hrel
      clear B1
      by_cases h : i < l.length
      · have j1 : (i : Int) < (l.length : Int) := by omega
        have j0 : (0 : Int) ≤ (i : Int) := by omega
        obtain ⟨va, vk, N0⟩ := HC.out i h
        have HF := hide (isFormed_any b (o + i * 5) l[i] va vk wr (N0.below BW.out) (HZ.out.nds l[i] (List.getElem_mem _)))
        have e0 : nd l i = l[i] := nd_at h
        clear N0
        cases q : aloneB l[i] with
        | false =>
          have E := hide (not_right (l := l) (fun r => by have := r.alone i h; rw [e0, q] at this; cases this))
          rw [q] at HF
          clear q e0
          go_wp2_with fail
          refine HF.out.mono ?_
          rintro e w2 ⟨rfl, b2⟩
          go_wp2_with fail
          go_ret
          exact ⟨ret_bool E.out.symm, chain BW.out b2⟩
        | true =>
          have E : Hid (∀ j, j < i + 1 → aloneB (nd l j) = true) := fun j hj => by
            rcases Nat.lt_or_ge j i with t | t
            · exact AL.out j t
            · obtain rfl : j = i := by omega
              rw [e0]; exact q
          rw [q] at HF
          clear q e0 AL
          go_wp2_with fail
          refine HF.out.mono ?_
          rintro e w2 ⟨rfl, b2⟩
          go_wp2_with fail
          go_roundw
          case rel => exact ⟨i + 1, by omega, by go_num, E, chain BW.out b2⟩
          case measure => simp [intOf]; omega
      · obtain rfl : i = l.length := by omega
        have HL := hide (areLinked_any _ l wr (HV.out.below BW.out) HZ.out n4)
        have HR := hide (fun (hl : Linked l) W (hb : Below w.heap.size w W) => areReached_any _ l W (HV.out.below hb) n4 hl)
        clear h
        go_wp2_with fail
        refine HL.out.mono ?_
        rintro e w2 ⟨⟨r, rfl, hr⟩, b2⟩
        have HR2 := hide hr
        clear hr
        cases r with
        | false =>
          have E := hide (not_right (l := l) (fun r => by have := HR2.out.2 (right_linked r); cases this))
          clear HL HR HR2
          go_wp2_with fail
          go_ret
          exact ⟨ret_bool E.out.symm, chain BW.out b2⟩
        | true =>
          have LK := HR2.out.1 rfl
          have HR' := hide (HR.out LK w2 (chain BW.out b2))
          by_cases t : (allL l).length = l.length
          · have E := hide (right_is.2 (right_of (l := l) ⟨p0, n4⟩ NH.out RT.out (fun i hi => AL.out i hi) LK t))
            rw [decide_eq_true t] at HR'
            clear HL HR HR2 t LK
            go_wp2_with fail
            refine HR'.out.mono ?_
            rintro e w3 ⟨rfl, b3⟩
            go_wp2_with fail
            go_ret
            exact ⟨ret_bool E.out.symm, chain (chain BW.out b2) b3⟩
          · have E := hide (not_right (l := l) (fun r => t (right_reached r)))
            rw [decide_eq_false t] at HR'
            clear HL HR HR2 t LK
            go_wp2_with fail
            refine HR'.out.mono ?_
            rintro e w3 ⟨rfl, b3⟩
            go_wp2_with fail
            go_ret
            exact ⟨ret_bool E.out.symm, chain (chain BW.out b2) b3⟩
end Go.Proofs.Ytmobcijigiacoaa

namespace Go.Proofs.Ytmobcijigiacoaa
open Go.RowKit
set_option maxHeartbeats 1000000 in
theorem isThere_any (v : Value) (l : List Nd) (id : Int) (w : World) (hv : NodesV w v l) (hz : DocSz l) :
    Calls Try.prog 31 #[v, .int .i64 id] w fun e w' => e = .returned (.bool (hasN l id)) ∧ Below w.heap.size w w' := by
  have HR := hide (right_any v l w hv hz)
  obtain ⟨p, c, rfl, hv⟩ := hv
  have hlen := hz.len
  clear hv hz
  unfold hasN
  by_cases h1 : 0 ≤ id
  · by_cases h2 : id < (l.length : Int)
    · rw [decide_eq_true ⟨h1, h2⟩, Bool.true_and]
      generalize rightB l = r at *
      go_enter Try.func31, Try.ntmps31
      go_wp2_with fail
      refine HR.out.mono ?_
      rintro e w1 ⟨rfl, b1⟩
      go_wp2_with fail
      go_ret
      exact ⟨rfl, b1⟩
    · rw [decide_eq_false (fun q => h2 q.2), Bool.false_and]
      have d : decide (id < (l.length : Int)) = false := decide_eq_false h2
      go_enter Try.func31, Try.ntmps31
      go_wp2_with fail
      go_ret
      exact ⟨rfl, Below.refl _ _⟩
  · rw [decide_eq_false (fun q => h1 q.1), Bool.false_and]
    go_enter Try.func31, Try.ntmps31
    go_wp2_with fail
    go_ret
    exact ⟨rfl, Below.refl _ _⟩
theorem has_is {l : List Nd} {id : Int} (h : hasN l id = true) : Right l ∧ inR l id := by
  unfold hasN at h
  rw [Bool.and_eq_true, decide_eq_true_eq] at h
  exact ⟨right_is.1 h.2, h.1⟩
end Go.Proofs.Ytmobcijigiacoaa

namespace Go.Proofs.Ytmobcijigiacoaa
open Go.RowKit
def topQ (l : List Nd) (id : Int) : Int := if hasN l id = true then topP l id else -1
theorem topP_root {l : List Nd} (h : Right l) {m : Nat} (hm : m < l.length) (hp : l[m].parent = -1) : topP l (m : Int) = (m : Int) := by
  have hu := anc_up (h.ende (k := (m : Int)) (by omega)) (by omega)
  rw [parI_nat hm] at hu
  unfold topP
  rw [hu, anc_neg (by omega)]; rfl
theorem topP_up {l : List Nd} (h : Right l) {m n : Nat} (hm : m < l.length) (hp : l[m].parent = (n : Int)) : topP l (n : Int) = topP l (m : Int) := by
  have hu := anc_up (h.ende (k := (m : Int)) (by omega)) (by omega)
  have pb := h.par m hm
  rw [nd_at hm, hp] at pb
  have hu2 := anc_up (h.ende (k := (n : Int)) (by omega)) (by omega)
  rw [parI_nat hm, hp] at hu
  unfold topP
  rw [hu, hu2]; rfl
set_option maxHeartbeats 2000000 in
theorem top_any (v : Value) (l : List Nd) (id : Int) (w : World) (hv : NodesV w v l) (hz : DocSz l) :
    Calls Try.prog 21 #[v, .int .i64 id] w fun e w' => e = .returned (.int .i64 (topQ l id)) ∧ Below w.heap.size w w' := by
  have HH := hide (isThere_any v l id w hv hz)
  obtain ⟨p, c, rfl, hv⟩ := hv
  have HV := hide hv
  clear hv hz
  cases q : hasN l id with
  | false =>
    rw [q] at HH
    have E : Hid (topQ l id = -1) := by show _ = _; unfold topQ; rw [q]; rfl
    clear q
    go_enter Try.func21, Try.ntmps21
    go_wp2_with fail
    refine HH.out.mono ?_
    rintro e w1 ⟨rfl, b1⟩
    go_wp2_with fail
    go_ret
    exact ⟨ret_int E.out.symm, b1⟩
  | true =>
    rw [q] at HH
    obtain ⟨hR, hi⟩ := has_is q
    obtain ⟨m0, rfl⟩ : ∃ m : Nat, id = (m : Int) := ⟨id.toNat, by have := hi.1; omega⟩
    have h0 : m0 < l.length := by have := hi.2; omega
    obtain ⟨T, hT⟩ : ∃ T, Hid (topP l (m0 : Int) = T) := ⟨_, show topP l (m0 : Int) = _ from rfl⟩
    have E : Hid (topQ l (m0 : Int) = T) := by show _ = _; unfold topQ; rw [q]; exact hT.out
    have HRt := hide hR
    have hlen := hR.len.2
    obtain ⟨b, o, rfl, hcell⟩ : ∃ b o, p = some ⟨b, o, none⟩ ∧ ∀ i (h : i < l.length), ∃ va vk, NodeAt w b (o + i * 5) l[i] va vk := by
      rcases HV.out with t | t
      · rw [t] at h0; simp at h0
      · exact t
    have HC := hide hcell
    clear q hi hR hcell HV
    go_enter Try.func21, Try.ntmps21
    go_wp2_with fail
    refine HH.out.mono ?_
    rintro e w1 ⟨rfl, b1⟩
    go_wp2_with fail
    have B1 := hide b1
    clear b1 HH
    go_loop [1] (fun kv => ∃ m : Nat, kv = .int .i64 (m : Int) ∧ m < l.length ∧ Hid (topP l (m : Int) = T)) (fun kv => hgt l (intOf kv))
    case atStart => exact ⟨m0, rfl, h0, hT⟩
    case round =>
      obtain ⟨m, rfl, hm, hc⟩ := hrel
      clear hT
      have he := HRt.out.ende (show (m : Int) < (l.length : Int) by omega)
      have HH := hide (hgt_up he (by omega))
      have pb := HRt.out.par m hm
      rw [nd_at hm] at pb
      rw [parI_nat hm] at HH
      obtain ⟨va, vk, N0⟩ := HC.out m hm
      have a3 := (N0.below B1.out).parent
      have m1 : (m : Int) < (l.length : Int) := by omega
      have m0' : (0 : Int) ≤ (m : Int) := by omega
      by_cases q1 : l[m].parent = -1
      · have f1 : (l[m].parent != -1) = false := by rw [q1]; rfl
        have f2 : (l[m].parent == -1) = true := by rw [q1]; rfl
        have E2 : Hid (topQ l (m0 : Int) = (m : Int)) := by show _ = _; rw [E.out, ← hc.out]; exact topP_root HRt.out hm q1
        clear q1 hc he HH pb N0
        generalize l[m].parent = pm at *
        go_wp2_with fail
        go_ret
        exact ⟨ret_int E2.out.symm, B1.out⟩
      · have f1 : (l[m].parent != -1) = true := by rw [bne_iff_ne]; exact q1
        have f2 : (l[m].parent == -1) = false := by rw [beq_eq_false_iff_ne]; exact q1
        obtain ⟨n, en⟩ : ∃ n : Nat, l[m].parent = (n : Int) := ⟨l[m].parent.toNat, by omega⟩
        have hn : n < l.length := by omega
        have HC1 : Hid (topP l (n : Int) = T) := by show _ = _; rw [topP_up HRt.out hm en]; exact hc.out
        rw [en] at a3 f1 f2 HH
        clear q1 hc he pb N0 en
        go_wp2_with fail
        go_round
        case rel => exact ⟨n, rfl, hn, HC1⟩
        case measure => have := HH.out; show hgt l (n : Int) < hgt l (m : Int); omega

end Go.Proofs.Ytmobcijigiacoaa
