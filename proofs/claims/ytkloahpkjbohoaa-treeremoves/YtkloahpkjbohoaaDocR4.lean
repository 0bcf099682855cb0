/- The document's Has, Within, Attr, Top, Up of layer 10: they answer by the functions of 'DocA'; what lay in the world lies there still. Conditions: a document as it lies in the world, right but for Has; rows of at most 2^47 bytes. -/
import Derived.Test.YtkloahpkjbohoaaDocR3
import Derived.Test.YtkloahpkjbohoaaDocA
namespace Go.Proofs.Ytkloahpkjbohoaa
open Go.RowKit

set_option maxHeartbeats 1000000 in
theorem refHas_any (v : Value) (l : List Nd) (id : Int) (w : World) (hv : NodesV w v l) (hz : DocSz l) :
    Calls Try.prog 25 #[v, .int .i64 id] w fun e w' => e = .returned (.bool (hasN l id)) ∧ Below w.heap.size w w' := by
  have HR := hide (refDocRight_any v l w hv hz)
  obtain ⟨p, c, rfl, hv⟩ := hv
  have hlen := hz.len
  clear hv hz
  unfold hasN
  by_cases h1 : 0 ≤ id
  · by_cases h2 : id < (l.length : Int)
    · rw [decide_eq_true ⟨h1, h2⟩, Bool.true_and]
      generalize rightB l = r at *
      go_enter Try.func25, Try.ntmps25
      go_wp2_with fail
      refine HR.out.mono ?_
      rintro e w1 ⟨rfl, b1⟩
      go_wp2_with fail
      go_ret
      exact ⟨rfl, b1⟩
    · rw [decide_eq_false (fun q => h2 q.2), Bool.false_and]
      have d : decide (id < (l.length : Int)) = false := decide_eq_false h2
      go_enter Try.func25, Try.ntmps25
      go_wp2_with fail
      go_ret
      exact ⟨rfl, Below.refl _ _⟩
  · rw [decide_eq_false (fun q => h1 q.1), Bool.false_and]
    go_enter Try.func25, Try.ntmps25
    go_wp2_with fail
    go_ret
    exact ⟨rfl, Below.refl _ _⟩

/-- A node that is there, in a right document. -/
structure Is (l : List Nd) (id : Int) (m : Nat) : Prop where
  right : Right l
  eq : id = (m : Int)
  lt : m < l.length
theorem Is.of {l : List Nd} {id : Int} (h : hasN l id = true) : ∃ m, Is l id m := by
  unfold hasN at h
  rw [Bool.and_eq_true, decide_eq_true_eq] at h
  exact ⟨id.toNat, right_is.1 h.2, by omega, by omega⟩
theorem parI_at {l : List Nd} {m : Nat} (h : m < l.length) : parI l (m : Int) = l[m].parent := by unfold parI; rw [Int.toNat_natCast, nd_at h]
theorem has_cons (k x : Int) (t : List Int) : (k :: t).contains x = (x == k || t.contains x) := List.contains_cons
set_option maxHeartbeats 2000000 in
theorem refWithin_any (v : Value) (l : List Nd) (id : Int) (m0 : Nat) (other : Int) (w : World) (hv : NodesV w v l) (hI : Is l id m0) :
    Calls Try.prog 54 #[v, .int .i64 id, .int .i64 other] w fun e w' => e = .returned (.bool (withinB l id other)) ∧ w' = w := by
  have hR := hI.right
  obtain ⟨rfl, h0⟩ := (⟨hI.eq, hI.lt⟩ : id = (m0 : Int) ∧ m0 < l.length)
  clear hI
  have hlen := hR.len.2
  obtain ⟨p, c, rfl, hv⟩ := hv
  rcases hv with hv | ⟨b, o, rfl, hv⟩
  · rw [hv] at h0; simp at h0
  have HV := hide hv
  clear hv
  obtain ⟨va0, vk0, hN0⟩ := HV.out m0 h0
  have c0 := hN0.parent
  have i0 : (m0 : Int) < (l.length : Int) := by omega
  unfold withinB
  rw [parI_at h0]
  have pb := hR.par m0 h0
  rw [nd_at h0] at pb
  have pb1 := pb.1
  have pb2 := pb.2
  have HRt := hide hR
  clear pb hN0 hR
  generalize l[m0].parent = z0 at *
  generalize hW : (anc l z0).contains other = W
  have HW := hide hW
  clear hW
  go_enter Try.func54, Try.ntmps54
  go_wp2_with fail
  go_loop [7] (fun kv => ∃ z : Int, kv = .int .i64 z ∧ -1 ≤ z ∧ z < (l.length : Int) ∧ Hid ((anc l z).contains other = W)) (fun kv => hgt l (intOf kv))
  case atStart => exact ⟨z0, rfl, pb1, pb2, HW.out⟩
  case round =>
    obtain ⟨z, rfl, z1, z2, hc⟩ := hrel
    clear HW
    by_cases q1 : z < 0
    · have q2 : ¬ 0 ≤ z := by omega
      have E : Hid (W = false) := by
        show _ = _
        rw [← hc.out, anc_neg q1]; rfl
      clear hc
      go_wp2_with fail
      go_ret
      exact ⟨ret_bool E.out.symm, rfl⟩
    · obtain ⟨m, rfl⟩ : ∃ m : Nat, z = (m : Int) := ⟨z.toNat, by omega⟩
      have hm : m < l.length := by omega
      have he := HRt.out.ende z2
      have hu := anc_up he q1
      have hh := hgt_up he q1
      have pb := HRt.out.par m hm
      rw [nd_at hm] at pb
      rw [parI_at hm] at hu hh
      obtain ⟨vam, vkm, hNm⟩ := HV.out m hm
      have cm := hNm.parent
      have q2 : 0 ≤ (m : Int) := by omega
      have hc1 := hc.out
      rw [hu, has_cons] at hc1
      by_cases q3 : (m : Int) = other
      · have e3 : ((m : Int) == other) = true := by rw [q3]; simp
        have E : Hid (W = true) := by
          show _ = _
          rw [← hc1, q3]; simp
        clear hc hc1 hu hh pb he q3 hNm
        generalize l[m].parent = pm at *
        go_wp2_with fail
        go_ret
        exact ⟨ret_bool E.out.symm, rfl⟩
      · have e3 : ((m : Int) == other) = false := by rw [beq_eq_false_iff_ne]; exact q3
        rw [show (other == (m : Int)) = false by rw [beq_eq_false_iff_ne]; exact fun q => q3 q.symm, Bool.false_or] at hc1
        have HC1 := hide hc1
        have HH := hide hh
        have pb1 := pb.1
        have pb2 := pb.2
        clear hc hc1 hu hh pb he q3 hNm
        generalize l[m].parent = pm at *
        go_wp2_with fail
        go_round
        case rel => exact ⟨pm, rfl, pb1, pb2, HC1.out⟩
        case measure => have := HH.out; show hgt l pm < hgt l (m : Int); omega

set_option maxHeartbeats 2000000 in
theorem refTop_any (v : Value) (l : List Nd) (id : Int) (m0 : Nat) (w : World) (hv : NodesV w v l) (hI : Is l id m0) :
    Calls Try.prog 33 #[v, .int .i64 id] w fun e w' => e = .returned (.int .i64 (topP l id)) ∧ w' = w := by
  have hR := hI.right
  obtain ⟨rfl, h0⟩ := (⟨hI.eq, hI.lt⟩ : id = (m0 : Int) ∧ m0 < l.length)
  clear hI
  have hlen := hR.len.2
  obtain ⟨p, c, rfl, hv⟩ := hv
  rcases hv with hv | ⟨b, o, rfl, hv⟩
  · rw [hv] at h0; simp at h0
  have HV := hide hv
  have HRt := hide hR
  clear hv hR
  generalize hW : topP l (m0 : Int) = W
  have HW := hide hW
  clear hW
  go_enter Try.func33, Try.ntmps33
  go_wp2_with fail
  go_loop [1] (fun kv => ∃ m : Nat, kv = .int .i64 (m : Int) ∧ m < l.length ∧ Hid (topP l (m : Int) = W)) (fun kv => hgt l (intOf kv))
  case atStart => exact ⟨m0, rfl, h0, HW.out⟩
  case round =>
    obtain ⟨m, rfl, hm, hc⟩ := hrel
    clear HW
    have he := HRt.out.ende (show (m : Int) < (l.length : Int) by omega)
    have hu := anc_up he (by omega)
    have hh := hgt_up he (by omega)
    have pb := HRt.out.par m hm
    rw [nd_at hm] at pb
    rw [parI_at hm] at hu hh
    obtain ⟨vam, vkm, hNm⟩ := HV.out m hm
    have cm := hNm.parent
    have m1 : (m : Int) < (l.length : Int) := by omega
    by_cases q1 : l[m].parent < 0
    · have q2 : ¬ 0 ≤ l[m].parent := by omega
      have E : Hid (W = (m : Int)) := by
        show _ = _
        rw [← hc.out]
        unfold topP
        rw [hu, anc_neg q1]; rfl
      clear hc hu hh pb he hNm
      generalize l[m].parent = pm at *
      go_wp2_with fail
      go_ret
      exact ⟨ret_int E.out.symm, rfl⟩
    · obtain ⟨n, en⟩ : ∃ n : Nat, l[m].parent = (n : Int) := ⟨l[m].parent.toNat, by omega⟩
      have hn : n < l.length := by omega
      rw [en] at hu hh cm
      have he2 := HRt.out.ende (show (n : Int) < (l.length : Int) by omega)
      have hu2 := anc_up he2 (by omega)
      have HC1 : Hid (topP l (n : Int) = W) := by
        show _ = _
        rw [← hc.out]
        unfold topP
        rw [hu, hu2]; rfl
      have HH := hide hh
      have n1 : 0 ≤ (n : Int) := by omega
      clear hc hu hh pb he hNm he2 hu2 q1 en
      go_wp2_with fail
      go_round
      case rel => exact ⟨n, rfl, hn, HC1.out⟩
      case measure => have := HH.out; show hgt l (n : Int) < hgt l (m : Int); omega

theorem up_cons {l : List Nd} {m : Nat} (hm : m < l.length) {t : List Int} {name : ByteArray} : (((m : Int) :: t).find? fun k => decide ((nd l k.toNat).name = name)) = if l[m].name = name then some (m : Int) else (t.find? fun k => decide ((nd l k.toNat).name = name)) := by
  rw [List.find?_cons, Int.toNat_natCast, nd_at hm]
  by_cases h : l[m].name = name
  · rw [if_pos h, decide_eq_true h]
  · rw [if_neg h, decide_eq_false h]
set_option maxHeartbeats 2000000 in
theorem refUp_any (v : Value) (l : List Nd) (id : Int) (m0 : Nat) (name : ByteArray) (w : World) (hv : NodesV w v l) (hI : Is l id m0) :
    Calls Try.prog 34 #[v, .int .i64 id, .string name] w fun e w' => e = .returned (.int .i64 (upP l id name)) ∧ w' = w := by
  have hR := hI.right
  obtain ⟨rfl, h0⟩ := (⟨hI.eq, hI.lt⟩ : id = (m0 : Int) ∧ m0 < l.length)
  clear hI
  have hlen := hR.len.2
  obtain ⟨p, c, rfl, hv⟩ := hv
  rcases hv with hv | ⟨b, o, rfl, hv⟩
  · rw [hv] at h0; simp at h0
  have HV := hide hv
  clear hv
  obtain ⟨va0, vk0, hN0⟩ := HV.out m0 h0
  have c0 := hN0.parent
  have i0 : (m0 : Int) < (l.length : Int) := by omega
  unfold upP
  rw [parI_at h0]
  have pb := hR.par m0 h0
  rw [nd_at h0] at pb
  have pb1 := pb.1
  have pb2 := pb.2
  have HRt := hide hR
  clear pb hN0 hR
  generalize l[m0].parent = z0 at *
  generalize hW : ((anc l z0).find? fun k => decide ((nd l k.toNat).name = name)).getD (-1) = W
  have HW := hide hW
  clear hW
  go_enter Try.func34, Try.ntmps34
  go_wp2_with fail
  go_loop [7] (fun kv => ∃ z : Int, kv = .int .i64 z ∧ -1 ≤ z ∧ z < (l.length : Int) ∧ Hid (((anc l z).find? fun k => decide ((nd l k.toNat).name = name)).getD (-1) = W)) (fun kv => hgt l (intOf kv))
  case atStart => exact ⟨z0, rfl, pb1, pb2, HW.out⟩
  case round =>
    obtain ⟨z, rfl, z1, z2, hc⟩ := hrel
    clear HW
    by_cases q1 : z < 0
    · have q2 : ¬ 0 ≤ z := by omega
      have E : Hid (W = z) := by
        show _ = _
        rw [← hc.out, anc_neg q1]
        show (-1 : Int) = z
        omega
      clear hc
      go_wp2_with fail
      go_ret
      exact ⟨ret_int E.out.symm, rfl⟩
    · obtain ⟨m, rfl⟩ : ∃ m : Nat, z = (m : Int) := ⟨z.toNat, by omega⟩
      have hm : m < l.length := by omega
      have he := HRt.out.ende z2
      have hu := anc_up he q1
      have hh := hgt_up he q1
      have pb := HRt.out.par m hm
      rw [nd_at hm] at pb
      rw [parI_at hm] at hu hh
      obtain ⟨vam, vkm, hNm⟩ := HV.out m hm
      have cm := hNm.parent
      have cn := hNm.name
      have q2 : 0 ≤ (m : Int) := by omega
      have hc1 := hc.out
      rw [hu, up_cons hm] at hc1
      by_cases q3 : l[m].name = name
      · have e3 : (l[m].name.toList != name.toList) = false := by unfold bne; rw [txt_beq, decide_eq_true q3]; rfl
        have e3' : (l[m].name.toList == name.toList) = true := by rw [txt_beq, decide_eq_true q3]
        rw [if_pos q3] at hc1
        have E : Hid (W = (m : Int)) := hc1.symm
        clear hc hc1 hu hh pb he q3 hNm
        generalize l[m].parent = pm at *
        generalize l[m].name = nm at *
        go_wp2_with fail
        go_ret
        exact ⟨ret_int E.out.symm, rfl⟩
      · have e3 : (l[m].name.toList != name.toList) = true := by unfold bne; rw [txt_beq, decide_eq_false q3]; rfl
        have e3' : (l[m].name.toList == name.toList) = false := by rw [txt_beq, decide_eq_false q3]
        rw [if_neg q3] at hc1
        have HC1 := hide hc1
        have HH := hide hh
        have pb1 := pb.1
        have pb2 := pb.2
        clear hc hc1 hu hh pb he q3 hNm
        generalize l[m].parent = pm at *
        generalize l[m].name = nm at *
        go_wp2_with fail
        go_round
        case rel => exact ⟨pm, rfl, pb1, pb2, HC1.out⟩
        case measure => have := HH.out; show hgt l pm < hgt l (m : Int); omega

def attrV (o : Option ByteArray) : Value := .tuple #[.string (o.getD ⟨#[]⟩), .bool o.isSome]
set_option maxHeartbeats 2000000 in
theorem refAttr_any (v : Value) (l : List Nd) (id : Int) (m0 : Nat) (name : ByteArray) (w : World) (hv : NodesV w v l) (hI : id = (m0 : Int) ∧ m0 < l.length) (hz : DocSz l) :
    Calls Try.prog 30 #[v, .int .i64 id, .string name] w fun e w' => e = .returned (attrV (attrP l id name)) ∧ w' = w := by
  obtain ⟨rfl, h0⟩ := hI
  have hlen := hz.len
  have sz := hz.nds l[m0] (List.getElem_mem _)
  obtain ⟨p, c, rfl, hv⟩ := hv
  rcases hv with hv | ⟨b, o, rfl, hv⟩
  · rw [hv] at h0; simp at h0
  obtain ⟨va, vk, hN⟩ := hv m0 h0
  have c2 := hN.attrs
  have HF := hide (fun (w : World) (hA : AttrsV w va l[m0].attrs) => refFind_any va l[m0].attrs name w hA sz.attrs)
  have i0 : (m0 : Int) < (l.length : Int) := by omega
  have hA := hide hN.at_
  obtain ⟨pa, ca, rfl, ha⟩ := hN.at_
  have asz := sz.attrs
  unfold attrP
  rw [Int.toNat_natCast, nd_at h0]
  clear hv hN sz hz
  generalize l[m0].attrs = ax at *
  cases hf : findA ax name with
  | none =>
    rw [hf] at HF
    have fv : findV none < 0 := by show (-1 : Int) < 0; omega
    clear hf ha
    generalize findV none = z at *
    show Calls _ _ _ _ fun e w' => e = .returned (.tuple #[.string ⟨#[]⟩, .bool false]) ∧ w' = w
    go_enter Try.func30, Try.ntmps30
    go_wp2_with fail
    refine (HF.out _ hA.out).mono ?_
    rintro e u ⟨rfl, rfl⟩
    go_wp2_with fail
    go_ret2
    exact ⟨rfl, rfl⟩
  | some k =>
    rw [hf] at HF
    have hk : k < ax.length := by
      unfold findA at hf
      obtain ⟨q, _⟩ := List.findIdx?_eq_some_iff_getElem.1 hf
      exact q
    rcases ha with ha | ⟨ab, ao, rfl, ha⟩
    · rw [ha] at hk; simp at hk
    have cv := (ha k hk).2
    have fv : findV (some k) = (k : Int) := rfl
    rw [fv] at HF
    have k1 : (k : Int) < (ax.length : Int) := by omega
    have k2 : ¬ (k : Int) < 0 := by omega
    clear hf ha fv
    show Calls _ _ _ _ fun e w' => e = .returned (.tuple #[.string (ax.getD k at0).2, .bool true]) ∧ w' = w
    rw [show ax.getD k at0 = ax[k] by simp [List.getD, hk]]
    generalize ax[k].2 = x2 at *
    go_enter Try.func30, Try.ntmps30
    go_wp2_with fail
    refine (HF.out _ hA.out).mono ?_
    rintro e u ⟨rfl, rfl⟩
    go_wp2_with fail
    go_ret2
    exact ⟨rfl, rfl⟩

end Go.Proofs.Ytkloahpkjbohoaa
