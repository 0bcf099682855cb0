/- The program's isFormed of layer 10: a node by itself; what lay in the world lies there still. Conditions: rows that lie in the world, of at most 2^47 bytes. -/
import Derived.Test.YtkloahpkjbohoaaDocS3
namespace Go.Proofs.Ytkloahpkjbohoaa
open Go.RowKit

theorem alone_tx {n : Nd} (h : noName n.name = true) : aloneB n = (n.attrs.isEmpty && (n.kids.isEmpty && decide (n.text.size ≤ 4000))) := by
  unfold aloneB
  have : n.name.size = 0 := by unfold noName at h; exact beq_iff_eq.1 h
  rw [if_pos this]
theorem alone_elem {n : Nd} (h : noName n.name = false) : aloneB n = (nameOk n.name && (n.text.size == 0 && attrsB n.attrs)) := by
  unfold aloneB attrsB
  have : ¬ n.name.size = 0 := by unfold noName at h; rw [beq_eq_false_iff_ne] at h; exact h
  rw [if_neg this]
theorem len_nil {α : Type} (l : List α) : ((l.length : Int) == 0) = l.isEmpty := by
  cases l with
  | nil => rfl
  | cons a t => show (((t.length + 1 : Nat) : Int) == 0) = false; rw [beq_eq_false_iff_ne]; omega
theorem noName_list (n : ByteArray) : (n.toList == []) = noName n := by
  cases q : noName n with
  | true => rw [noName_true q, ByteArray.toList_eq]; rfl
  | false => rw [beq_eq_false_iff_ne]; exact noName_false q
set_option maxHeartbeats 2000000 in
theorem isFormed_any (b o : Nat) (n : Nd) (va vk : Value) (w : World) (hn : NodeAt w b o n va vk) (hz : NdSz n) :
    Calls Try.prog 38 #[.pointer (some ⟨b, o, none⟩)] w fun e w' => e = .returned (.bool (aloneB n)) ∧ Below w.heap.size w w' := by
  have c0 := hn.name
  have c1 := hn.text
  have c2 := hn.attrs
  have c3 := hn.parent
  have c4 := hn.kids
  have z0 := hz.name
  have z1 := hz.text
  have HT := hide (fun w => isText_any n.name n.text va n.parent vk w)
  obtain ⟨pa, ca, ea, ha⟩ := hn.at_
  obtain ⟨pk, ck, ek, hk⟩ := hn.ks
  have hcap := hn.cap _ _ _ ea
  subst ea ek
  have za := hz.attrs
  have zk := hz.kids
  have HA := hide (fun W (hb : Below w.heap.size w W) => areAttrs_any pa ca n.attrs W (hn.at_.below hb) hz.attrs hcap hz.attr)
  have HN := hide (fun W => isName_any n.name W hz.name)
  unfold maxLen at z0 z1
  have CB : Hid (∀ W, Below w.heap.size w W → NodeAt W b o n _ _) := fun W hb => hn.below hb
  have LA := hide (len_nil n.attrs)
  have LK := hide (len_nil n.kids)
  have AT := hide (fun h => alone_tx (n := n) h)
  have AE := hide (fun h => alone_elem (n := n) h)
  clear ha hk hn hz hcap
  cases q : noName n.name with
  | true =>
    have E := AT.out q
    rw [q] at HT
    have EE := hide E
    clear E AT AE HN HA
    by_cases r1 : n.text.size ≤ 4000
    · rw [decide_eq_true r1, Bool.and_true] at EE
      have i1 : (n.text.size : Int) ≤ 4000 := by omega
      have i2 : decide ((n.text.size : Int) ≤ 4000) = true := decide_eq_true i1
      cases r2 : n.attrs.isEmpty with
      | true =>
        rw [r2] at EE LA
        have la := LA.out
        cases r3 : n.kids.isEmpty with
        | true =>
          rw [r3] at EE LK
          have lk := LK.out
          clear r2 r3 LA LK
          go_enter Try.func38, Try.ntmps38
          go_wp2_with fail
          refine (HT.out _).mono ?_
          rintro e w1 ⟨rfl, b1⟩
          have C := CB.out w1 b1
          have c0 := C.name
          have c1 := C.text
          have c2 := C.attrs
          have c4 := C.kids
          clear C CB
          go_wp2_with fail
          go_ret
          exact ⟨ret_bool EE.out.symm, b1⟩
        | false =>
          rw [r3] at EE LK
          have lk := LK.out
          clear r2 r3 LA LK
          go_enter Try.func38, Try.ntmps38
          go_wp2_with fail
          refine (HT.out _).mono ?_
          rintro e w1 ⟨rfl, b1⟩
          have C := CB.out w1 b1
          have c0 := C.name
          have c1 := C.text
          have c2 := C.attrs
          have c4 := C.kids
          clear C CB
          go_wp2_with fail
          go_ret
          exact ⟨ret_bool EE.out.symm, b1⟩
      | false =>
        rw [r2, Bool.false_and] at EE
        rw [r2] at LA
        have la := LA.out
        clear r2 LA LK
        go_enter Try.func38, Try.ntmps38
        go_wp2_with fail
        refine (HT.out _).mono ?_
        rintro e w1 ⟨rfl, b1⟩
        have C := CB.out w1 b1
        have c0 := C.name
        have c1 := C.text
        have c2 := C.attrs
        have c4 := C.kids
        clear C CB
        go_wp2_with fail
        go_ret
        exact ⟨ret_bool EE.out.symm, b1⟩
    · rw [decide_eq_false r1, Bool.and_false, Bool.and_false] at EE
      have i1 : ¬ (n.text.size : Int) ≤ 4000 := by omega
      have i2 : decide ((n.text.size : Int) ≤ 4000) = false := decide_eq_false i1
      clear r1 LA LK
      go_enter Try.func38, Try.ntmps38
      go_wp2_with fail
      refine (HT.out _).mono ?_
      rintro e w1 ⟨rfl, b1⟩
      have C := CB.out w1 b1
      have c0 := C.name
      have c1 := C.text
      have c2 := C.attrs
      have c4 := C.kids
      clear C CB
      go_wp2_with fail
      go_ret
      exact ⟨ret_bool EE.out.symm, b1⟩
  | false =>
    have EE := hide (AE.out q)
    rw [q] at HT
    clear AT AE LA LK
    cases r1 : nameOk n.name with
    | false =>
      rw [r1, Bool.false_and] at EE
      rw [r1] at HN
      clear r1 HA
      go_enter Try.func38, Try.ntmps38
      go_wp2_with fail
      refine (HT.out _).mono ?_
      rintro e w1 ⟨rfl, b1⟩
      have C := CB.out w1 b1
      have c0 := C.name
      have c1 := C.text
      have c2 := C.attrs
      have c4 := C.kids
      clear C CB
      go_wp2_with fail
      refine (HN.out _).mono ?_
      rintro e w2 ⟨rfl, hw⟩
      obtain rfl : w1 = w2 := hw.symm
      go_wp2_with fail
      go_ret
      exact ⟨ret_bool EE.out.symm, b1⟩
    | true =>
      rw [r1, Bool.true_and] at EE
      rw [r1] at HN
      clear r1
      have T1 := hide (noName_list n.text)
      cases r2 : noName n.text with
      | false =>
        have e5 : (n.text.size == 0) = false := r2
        rw [e5, Bool.false_and] at EE
        have e1 := noName_false r2
        have e2 : n.text.toList.isEmpty = false := by cases h : n.text.toList with
          | nil => exact absurd h e1
          | cons => rfl
        rw [r2] at T1
        have e3 := T1.out
        clear r2 e5 T1 HA
        go_enter Try.func38, Try.ntmps38
        go_wp2_with fail
        refine (HT.out _).mono ?_
        rintro e w1 ⟨rfl, b1⟩
        have C := CB.out w1 b1
        have c0 := C.name
        have c1 := C.text
        have c2 := C.attrs
        have c4 := C.kids
        clear C CB
        go_wp2_with fail
        refine (HN.out _).mono ?_
        rintro e w2 ⟨rfl, hw⟩
        obtain rfl : w1 = w2 := hw.symm
        go_wp2_with fail
        go_ret
        exact ⟨ret_bool EE.out.symm, b1⟩
      | true =>
        have e5 : (n.text.size == 0) = true := r2
        rw [e5, Bool.true_and] at EE
        have et := noName_true r2
        rw [et] at c1 HT
        have ET := hide et
        clear r2 e5 T1 et z1
        go_enter Try.func38, Try.ntmps38
        go_wp2_with fail
        refine (HT.out _).mono ?_
        rintro e w1 ⟨rfl, b1⟩
        have C := CB.out w1 b1
        have c0 := C.name
        have c1 := C.text
        rw [ET.out] at c1
        have c2 := C.attrs
        have c4 := C.kids
        clear C CB
        go_wp2_with fail
        refine (HN.out _).mono ?_
        rintro e w2 ⟨rfl, hw⟩
        obtain rfl : w1 = w2 := hw.symm
        go_wp2_with fail
        refine (HA.out _ b1).mono ?_
        rintro e w3 ⟨rfl, b3⟩
        go_wp2_with fail
        go_ret
        exact ⟨ret_bool EE.out.symm, chain b1 b3⟩

end Go.Proofs.Ytkloahpkjbohoaa
