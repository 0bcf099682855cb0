/- Ways up in a right document. The document's Has, Within, Attr, Top, Up of layer 10. The document's ByID of layer 10. Which form a control belongs to, a form's elements, a label's control, what is disabled, as functions of documents. Each control that is listed and has a form is an element of just that one. The program's way of asking for forms, elements, labels and what is disabled, told by the document's functions. -/
import Derived.Test.YtnojgejcmaajmaaGreatDoorJsb11
import Derived.Test.YtnojgejcmaajmaaGreatDoorJsb54
import Derived.Test.YtnojgejcmaajmaaGreatDoorJsb55

namespace Go.Proofs.YtnojgejcmaajmaaGreatDoor
open Go.RowKit
/-- Within, the top, the nearest above of a name. -/
def withinB (l : List Nd) (id other : Int) : Bool := (anc l (parI l id)).contains other
def topP (l : List Nd) (id : Int) : Int := (anc l id).getLastD id
def upP (l : List Nd) (id : Int) (name : ByteArray) : Int := ((anc l (parI l id)).find? fun k => decide ((nd l k.toNat).name = name)).getD (-1)
def attrP (l : List Nd) (id : Int) (name : ByteArray) : Option ByteArray := (findA (nd l id.toNat).attrs name).map fun i => ((nd l id.toNat).attrs.getD i at0).2
end Go.Proofs.YtnojgejcmaajmaaGreatDoor

namespace Go.Proofs.YtnojgejcmaajmaaGreatDoor
open Go.RowKit
set_option maxRecDepth 100000
theorem has_cons (k x : Int) (t : List Int) : (k :: t).contains x = (x == k || t.contains x) := List.contains_cons
set_option maxHeartbeats 2000000 in
theorem refWithin_any (v : Value) (l : List Nd) (id : Int) (m0 : Nat) (other : Int) (w : World) (hv : NodesV w v l) (hI : Is l id m0) :
    Calls Tryz.prog 130 #[v, .int .i64 id, .int .i64 other] w fun e w' => e = .returned (.bool (withinB l id other)) ∧ w' = w := by
  have hR := hI.right
  obtain ⟨rfl, h0⟩ := (⟨hI.eq, hI.lt⟩ : id = (m0 : Int) ∧ m0 < l.length)
  clear hI
  have hlen := hR.len.2
  obtain ⟨p, c, rfl, hv⟩ := hv
  rcases hv with hv | ⟨b, o, rfl, hv⟩
  · rw [hv] at h0; simp at h0
  have HV := hide hv
  clear hv
  obtain ⟨va0, vk0, hN0⟩ := HV.out m0 h0
  have c0 := hN0.parent
  have i0 : (m0 : Int) < (l.length : Int) := by omega
  unfold withinB
  rw [parI_at h0]
  have pb := hR.par m0 h0
  rw [nd_at h0] at pb
  have pb1 := pb.1
  have pb2 := pb.2
  have HRt := hide hR
  clear pb hN0 hR
  generalize l[m0].parent = z0 at *
  generalize hW : (anc l z0).contains other = W
  have HW := hide hW
  clear hW
  go_enter Tryz.func130, Tryz.ntmps130
  go_wp2_with fail
  go_loop [7] (fun kv => ∃ z : Int, kv = .int .i64 z ∧ -1 ≤ z ∧ z < (l.length : Int) ∧ Hid ((anc l z).contains other = W)) (fun kv => hgt l (intOf kv))
  case atStart => exact ⟨z0, rfl, pb1, pb2, HW.out⟩
  case round =>
    obtain ⟨z, rfl, z1, z2, hc⟩ := hrel
    clear HW
    by_cases q1 : z < 0
    · have q2 : ¬ 0 ≤ z := by omega
      have E : Hid (W = false) := by
        show _ = _
        rw [← hc.out, anc_neg q1]; rfl
      clear hc
      go_wp2_with fail
      go_ret
      exact ⟨ret_bool E.out.symm, rfl⟩
    · obtain ⟨m, rfl⟩ : ∃ m : Nat, z = (m : Int) := ⟨z.toNat, by omega⟩
      have hm : m < l.length := by omega
      have he := HRt.out.ende z2
      have hu := anc_up he q1
      have hh := hgt_up he q1
      have pb := HRt.out.par m hm
      rw [nd_at hm] at pb
      rw [parI_at hm] at hu hh
      obtain ⟨vam, vkm, hNm⟩ := HV.out m hm
      have cm := hNm.parent
      have q2 : 0 ≤ (m : Int) := by omega
      have hc1 := hc.out
      rw [hu, has_cons] at hc1
      by_cases q3 : (m : Int) = other
      · have e3 : ((m : Int) == other) = true := by rw [q3]; simp
        have E : Hid (W = true) := by
          show _ = _
          rw [← hc1, q3]; simp
        clear hc hc1 hu hh pb he q3 hNm
        generalize l[m].parent = pm at *
        go_wp2_with fail
        go_ret
        exact ⟨ret_bool E.out.symm, rfl⟩
      · have e3 : ((m : Int) == other) = false := by rw [beq_eq_false_iff_ne]; exact q3
        rw [show (other == (m : Int)) = false by rw [beq_eq_false_iff_ne]; exact fun q => q3 q.symm, Bool.false_or] at hc1
        have HC1 := hide hc1
        have HH := hide hh
        have pb1 := pb.1
        have pb2 := pb.2
        clear hc hc1 hu hh pb he q3 hNm
        generalize l[m].parent = pm at *
        go_wp2_with fail
        go_round
        case rel => exact ⟨pm, rfl, pb1, pb2, HC1.out⟩
        case measure => have := HH.out; show hgt l pm < hgt l (m : Int); omega
set_option maxHeartbeats 2000000 in
theorem refTop_any (v : Value) (l : List Nd) (id : Int) (m0 : Nat) (w : World) (hv : NodesV w v l) (hI : Is l id m0) :
    Calls Tryz.prog 125 #[v, .int .i64 id] w fun e w' => e = .returned (.int .i64 (topP l id)) ∧ w' = w := by
  have hR := hI.right
  obtain ⟨rfl, h0⟩ := (⟨hI.eq, hI.lt⟩ : id = (m0 : Int) ∧ m0 < l.length)
  clear hI
  have hlen := hR.len.2
  obtain ⟨p, c, rfl, hv⟩ := hv
  rcases hv with hv | ⟨b, o, rfl, hv⟩
  · rw [hv] at h0; simp at h0
  have HV := hide hv
  have HRt := hide hR
  clear hv hR
  generalize hW : topP l (m0 : Int) = W
  have HW := hide hW
  clear hW
  go_enter Tryz.func125, Tryz.ntmps125
  go_wp2_with fail
  go_loop [1] (fun kv => ∃ m : Nat, kv = .int .i64 (m : Int) ∧ m < l.length ∧ Hid (topP l (m : Int) = W)) (fun kv => hgt l (intOf kv))
  case atStart => exact ⟨m0, rfl, h0, HW.out⟩
  case round =>
    obtain ⟨m, rfl, hm, hc⟩ := hrel
    clear HW
    have he := HRt.out.ende (show (m : Int) < (l.length : Int) by omega)
    have hu := anc_up he (by omega)
    have hh := hgt_up he (by omega)
    have pb := HRt.out.par m hm
    rw [nd_at hm] at pb
    rw [parI_at hm] at hu hh
    obtain ⟨vam, vkm, hNm⟩ := HV.out m hm
    have cm := hNm.parent
    have m1 : (m : Int) < (l.length : Int) := by omega
    by_cases q1 : l[m].parent < 0
    · have q2 : ¬ 0 ≤ l[m].parent := by omega
      have E : Hid (W = (m : Int)) := by
        show _ = _
        rw [← hc.out]
        unfold topP
        rw [hu, anc_neg q1]; rfl
      clear hc hu hh pb he hNm
      generalize l[m].parent = pm at *
      go_wp2_with fail
      go_ret
      exact ⟨ret_int E.out.symm, rfl⟩
    · obtain ⟨n, en⟩ : ∃ n : Nat, l[m].parent = (n : Int) := ⟨l[m].parent.toNat, by omega⟩
      have hn : n < l.length := by omega
      rw [en] at hu hh cm
      have he2 := HRt.out.ende (show (n : Int) < (l.length : Int) by omega)
      have hu2 := anc_up he2 (by omega)
      have HC1 : Hid (topP l (n : Int) = W) := by
        show _ = _
        rw [← hc.out]
        unfold topP
        rw [hu, hu2]; rfl
      have HH := hide hh
      have n1 : 0 ≤ (n : Int) := by omega
      clear hc hu hh pb he hNm he2 hu2 q1 en
      go_wp2_with fail
      go_round
      case rel => exact ⟨n, rfl, hn, HC1.out⟩
      case measure => have := HH.out; show hgt l (n : Int) < hgt l (m : Int); omega
theorem up_cons {l : List Nd} {m : Nat} (hm : m < l.length) {t : List Int} {name : ByteArray} : (((m : Int) :: t).find? fun k => decide ((nd l k.toNat).name = name)) = if l[m].name = name then some (m : Int) else (t.find? fun k => decide ((nd l k.toNat).name = name)) := by
  rw [List.find?_cons, Int.toNat_natCast, nd_at hm]
  by_cases h : l[m].name = name
  · rw [if_pos h, decide_eq_true h]
  · rw [if_neg h, decide_eq_false h]
set_option maxHeartbeats 2000000 in
theorem refUp_any (v : Value) (l : List Nd) (id : Int) (m0 : Nat) (name : ByteArray) (w : World) (hv : NodesV w v l) (hI : Is l id m0) :
    Calls Tryz.prog 127 #[v, .int .i64 id, .string name] w fun e w' => e = .returned (.int .i64 (upP l id name)) ∧ w' = w := by
  have hR := hI.right
  obtain ⟨rfl, h0⟩ := (⟨hI.eq, hI.lt⟩ : id = (m0 : Int) ∧ m0 < l.length)
  clear hI
  have hlen := hR.len.2
  obtain ⟨p, c, rfl, hv⟩ := hv
  rcases hv with hv | ⟨b, o, rfl, hv⟩
  · rw [hv] at h0; simp at h0
  have HV := hide hv
  clear hv
  obtain ⟨va0, vk0, hN0⟩ := HV.out m0 h0
  have c0 := hN0.parent
  have i0 : (m0 : Int) < (l.length : Int) := by omega
  unfold upP
  rw [parI_at h0]
  have pb := hR.par m0 h0
  rw [nd_at h0] at pb
  have pb1 := pb.1
  have pb2 := pb.2
  have HRt := hide hR
  clear pb hN0 hR
  generalize l[m0].parent = z0 at *
  generalize hW : ((anc l z0).find? fun k => decide ((nd l k.toNat).name = name)).getD (-1) = W
  have HW := hide hW
  clear hW
  go_enter Tryz.func127, Tryz.ntmps127
  go_wp2_with fail
  go_loop [7] (fun kv => ∃ z : Int, kv = .int .i64 z ∧ -1 ≤ z ∧ z < (l.length : Int) ∧ Hid (((anc l z).find? fun k => decide ((nd l k.toNat).name = name)).getD (-1) = W)) (fun kv => hgt l (intOf kv))
  case atStart => exact ⟨z0, rfl, pb1, pb2, HW.out⟩
  case round =>
    obtain ⟨z, rfl, z1, z2, hc⟩ := hrel
    clear HW
    by_cases q1 : z < 0
    · have q2 : ¬ 0 ≤ z := by omega
      have E : Hid (W = z) := by
        show _ = _
        rw [← hc.out, anc_neg q1]
        show (-1 : Int) = z
        omega
      clear hc
      go_wp2_with fail
      go_ret
      exact ⟨ret_int E.out.symm, rfl⟩
    · obtain ⟨m, rfl⟩ : ∃ m : Nat, z = (m : Int) := ⟨z.toNat, by omega⟩
      have hm : m < l.length := by omega
      have he := HRt.out.ende z2
      have hu := anc_up he q1
      have hh := hgt_up he q1
      have pb := HRt.out.par m hm
      rw [nd_at hm] at pb
      rw [parI_at hm] at hu hh
      obtain ⟨vam, vkm, hNm⟩ := HV.out m hm
      have cm := hNm.parent
      have cn := hNm.name
      have q2 : 0 ≤ (m : Int) := by omega
      have hc1 := hc.out
      rw [hu, up_cons hm] at hc1
      by_cases q3 : l[m].name = name
      · have e3 : (l[m].name.toList != name.toList) = false := by unfold bne; rw [txt_beq, decide_eq_true q3]; rfl
        have e3' : (l[m].name.toList == name.toList) = true := by rw [txt_beq, decide_eq_true q3]
        rw [if_pos q3] at hc1
        have E : Hid (W = (m : Int)) := hc1.symm
        clear hc hc1 hu hh pb he q3 hNm
        generalize l[m].parent = pm at *
        generalize l[m].name = nm at *
        go_wp2_with fail
        go_ret
        exact ⟨ret_int E.out.symm, rfl⟩
      · have e3 : (l[m].name.toList != name.toList) = true := by unfold bne; rw [txt_beq, decide_eq_false q3]; rfl
        have e3' : (l[m].name.toList == name.toList) = false := by rw [txt_beq, decide_eq_false q3]
        rw [if_neg q3] at hc1
        have HC1 := hide hc1
        have HH := hide hh
        have pb1 := pb.1
        have pb2 := pb.2
        clear hc hc1 hu hh pb he q3 hNm
        generalize l[m].parent = pm at *
        generalize l[m].name = nm at *
        go_wp2_with fail
        go_round
        case rel => exact ⟨pm, rfl, pb1, pb2, HC1.out⟩
        case measure => have := HH.out; show hgt l pm < hgt l (m : Int); omega
def attrV (o : Option ByteArray) : Value := .tuple #[.string (o.getD ⟨#[]⟩), .bool o.isSome]
set_option maxHeartbeats 2000000 in
theorem refAttr_any (v : Value) (l : List Nd) (id : Int) (m0 : Nat) (name : ByteArray) (w : World) (hv : NodesV w v l) (hI : id = (m0 : Int) ∧ m0 < l.length) (hz : DocSz l) :
    Calls Tryz.prog 183 #[v, .int .i64 id, .string name] w fun e w' => e = .returned (attrV (attrP l id name)) ∧ w' = w := by
  obtain ⟨rfl, h0⟩ := hI
  have hlen := hz.len
  have sz := hz.nds l[m0] (List.getElem_mem _)
  obtain ⟨p, c, rfl, hv⟩ := hv
  rcases hv with hv | ⟨b, o, rfl, hv⟩
  · rw [hv] at h0; simp at h0
  obtain ⟨va, vk, hN⟩ := hv m0 h0
  have c2 := hN.attrs
  have HF := hide (fun (w : World) (hA : AttrsV w va l[m0].attrs) => refFind_any va l[m0].attrs name w hA sz.attrs)
  have i0 : (m0 : Int) < (l.length : Int) := by omega
  have hA := hide hN.at_
  obtain ⟨pa, ca, rfl, ha⟩ := hN.at_
  have asz := sz.attrs
  unfold attrP
  rw [Int.toNat_natCast, nd_at h0]
  clear hv hN sz hz
  generalize l[m0].attrs = ax at *
  cases hf : findA ax name with
  | none =>
    rw [hf] at HF
    have fv : findV none < 0 := by show (-1 : Int) < 0; omega
    clear hf ha
    generalize findV none = z at *
    show Calls _ _ _ _ fun e w' => e = .returned (.tuple #[.string ⟨#[]⟩, .bool false]) ∧ w' = w
    go_enter Tryz.func183, Tryz.ntmps183
    go_wp2_with fail
    refine (HF.out _ hA.out).mono ?_
    rintro e u ⟨rfl, rfl⟩
    go_wp2_with fail
    go_ret2
    exact ⟨rfl, rfl⟩
  | some k =>
    rw [hf] at HF
    have hk : k < ax.length := by
      unfold findA at hf
      obtain ⟨q, _⟩ := List.findIdx?_eq_some_iff_getElem.1 hf
      exact q
    rcases ha with ha | ⟨ab, ao, rfl, ha⟩
    · rw [ha] at hk; simp at hk
    have cv := (ha k hk).2
    have fv : findV (some k) = (k : Int) := rfl
    rw [fv] at HF
    have k1 : (k : Int) < (ax.length : Int) := by omega
    have k2 : ¬ (k : Int) < 0 := by omega
    clear hf ha fv
    show Calls _ _ _ _ fun e w' => e = .returned (.tuple #[.string (ax.getD k at0).2, .bool true]) ∧ w' = w
    rw [show ax.getD k at0 = ax[k] by simp [List.getD, hk]]
    generalize ax[k].2 = x2 at *
    go_enter Tryz.func183, Tryz.ntmps183
    go_wp2_with fail
    refine (HF.out _ hA.out).mono ?_
    rintro e u ⟨rfl, rfl⟩
    go_wp2_with fail
    go_ret2
    exact ⟨rfl, rfl⟩
end Go.Proofs.YtnojgejcmaajmaaGreatDoor

namespace Go.Proofs.YtnojgejcmaajmaaGreatDoor
open Go.RowKit
set_option maxRecDepth 100000
def idT : ByteArray := ⟨#[105, 100]⟩
def hasId (l : List Nd) (x : ByteArray) (k : Int) : Bool := decide (attrP l k idT = some x)
def namedP (l : List Nd) (x : ByteArray) : Int := if noName x = true then -1 else ((orderP l 0).find? (hasId l x)).getD (-1)
theorem down_fewR {l : List Nd} (h : Right l) {k : Int} (hk : inR l k) : (downF l l.length k).length ≤ 400 := by
  obtain ⟨d, g⟩ := right_dep h hk
  have := nodup_len l.length (downF l l.length k) (down_nodup (right_linked h) g) (fun x hx => down_range (right_sub h hk) hx)
  have := h.len
  omega
set_option maxHeartbeats 4000000 in
set_option maxRecDepth 100000 in
theorem refByID_any (v : Value) (l : List Nd) (x : ByteArray) (w : World) (hv : NodesV w v l) (hz : DocSz l) (hR : Right l) (hx : x.size ≤ maxLen) :
    Calls Tryz.prog 126 #[v, .string x] w fun e w' => e = .returned (.int .i64 (namedP l x)) ∧ Below w.heap.size w w' := by
  have h0 : 0 < l.length := by have := hR.len.1; omega
  have r0 : inR l 0 := ⟨by omega, by omega⟩
  have HO := hide (refOrder_any v l 0 w hv hR h0)
  have RG : Hid (∀ k ∈ orderP l 0, inR l k) := fun k hk => by rw [order_down hR r0] at hk; exact down_range (right_sub hR r0) hk
  have DF : Hid ((orderP l 0).length ≤ 400) := by show _ ≤ _; rw [order_down hR r0]; exact down_fewR hR r0
  have HA := hide (fun (m : Nat) (hm : m < l.length) W (hb : Below w.heap.size w W) => refAttr_any v l (m : Int) m idT W (hv.below hb) ⟨rfl, hm⟩ hz)
  have hlen := hR.len.2
  unfold maxLen at hx
  obtain ⟨D, hD⟩ : ∃ D, Hid (orderP l 0 = D) := ⟨_, show orderP l 0 = _ from rfl⟩
  have NP : Hid (noName x = false → (D.find? (hasId l x)).getD (-1) = namedP l x) := fun q => by unfold namedP; rw [q, hD.out]; rfl
  have NE : Hid (noName x = true → namedP l x = -1) := fun q => by unfold namedP; rw [q]; rfl
  have NS : Hid (noName x = (x.size == 0)) := show noName x = _ from rfl
  have e0 : ((0 : Nat) : Int) = 0 := rfl
  rw [e0] at HO
  rw [hD.out] at HO RG DF
  clear hv hz hR r0 hD e0
  have dl := DF.out
  have HA' := hide (fun m hm W hb => HA.out m hm W hb)
  unfold attrV idT at HA'
  clear HA
  go_enter Tryz.func126, Tryz.ntmps126
  go_wp2_with fail
  refine HO.out.mono ?_
  rintro e w1 ⟨v1, rfl, k1, b1⟩
  obtain ⟨p2, c2, ev2, h2⟩ := k1.ints
  have H2 := hide h2
  have B1 := hide b1
  clear k1 h2 b1 HO
  subst ev2
  go_wp2_with fail
  go_loop [6] (fun iv => ∃ j : Nat, j ≤ D.length ∧ iv = .int .i64 j ∧ Hid ((if noName x = true then -1 else ((D.drop j).find? (hasId l x)).getD (-1)) = namedP l x)) (fun iv => D.length - (intOf iv).toNat)
  case atStart =>
    refine ⟨0, Nat.zero_le _, rfl, ?_⟩
    show _ = _
    rw [List.drop_zero]
    cases q : noName x with
    | true => exact (NE.out q).symm
    | false => exact NP.out q
  case round =>
    obtain ⟨j, hj, rfl, hc⟩ := hrel
    clear NP NE
    by_cases h : j < D.length
    · have j1 : (j : Int) < (D.length : Int) := by omega
      have j0 : (0 : Int) ≤ (j : Int) := by omega
      obtain ⟨b2, o2, rfl, hk⟩ : ∃ b2 o2, p2 = some ⟨b2, o2, none⟩ ∧ ∀ i (h : i < D.length), w1.cell? ⟨b2, o2 + i, none⟩ = some (.int .i64 D[i]) := by
        rcases H2.out with t | t
        · rw [t] at h; simp at h
        · exact t
      have a5 := hk j h
      have rk := RG.out D[j] (List.getElem_mem _)
      obtain ⟨m, em⟩ : ∃ m : Nat, D[j] = (m : Int) := ⟨D[j].toNat, by have := rk.1; omega⟩
      have hm : m < l.length := by have := rk.2; omega
      rw [em] at a5
      have HF := hide (HA'.out m hm w1 B1.out)
      have hc1 := hc.out
      rw [List.drop_eq_getElem_cons h, em, List.find?_cons] at hc1
      have hh : hasId l x (m : Int) = ((attrP l (m : Int) idT).isSome && ((attrP l (m : Int) idT).getD ⟨#[]⟩).toList == x.toList) := by
        unfold hasId
        cases attrP l (m : Int) idT with
        | none => rfl
        | some s =>
          show decide (some s = some x) = (true && s.toList == x.toList)
          rw [Bool.true_and, txt_beq]
          congr 1
          exact propext ⟨fun e => Option.some.inj e, fun e => by rw [e]⟩
      rw [hh] at hc1
      unfold idT at hc1
      generalize (attrP l (m : Int) ⟨#[105, 100]⟩).getD ⟨#[]⟩ = As at *
      generalize (attrP l (m : Int) ⟨#[105, 100]⟩).isSome = Ab at *
      have HC1 := hide hc1
      clear hk rk em hc hc1 hh
      cases Ab with
      | false =>
        have HC2 : Hid ((if noName x = true then -1 else ((D.drop (j + 1)).find? (hasId l x)).getD (-1)) = namedP l x) := HC1.out
        clear HC1
        go_wp2_with fail
        refine HF.out.mono ?_
        rintro e w3 ⟨rfl, hw⟩
        obtain rfl : w1 = w3 := hw.symm
        go_wp2_with fail
        go_round
        case rel => exact ⟨j + 1, by omega, by go_num, HC2⟩
        case measure => simp [intOf]; omega
      | true =>
        cases q : (As.toList == x.toList) with
        | false =>
          have HC2 : Hid ((if noName x = true then -1 else ((D.drop (j + 1)).find? (hasId l x)).getD (-1)) = namedP l x) := by have := HC1.out; rw [q] at this; exact this
          clear HC1
          go_wp2_with fail
          refine HF.out.mono ?_
          rintro e w3 ⟨rfl, hw⟩
          obtain rfl : w1 = w3 := hw.symm
          go_wp2_with fail
          go_round
          case rel => exact ⟨j + 1, by omega, by go_num, HC2⟩
          case measure => simp [intOf]; omega
        | true =>
          cases q2 : noName x with
          | true =>
            have z0 : x.size ≤ 0 := by have := NS.out; rw [q2] at this; have := beq_iff_eq.1 this.symm; omega
            have f1 : decide ((0 : Int) < (x.size : Int)) = false := decide_eq_false (by omega)
            have HC2 : Hid ((-1 : Int) = namedP l x) := by
              have := HC1.out
              show _ = _
              rw [q2, if_pos rfl] at this
              exact this
            clear HC1 q2
            go_wp2_with fail
            refine HF.out.mono ?_
            rintro e w3 ⟨rfl, hw⟩
            obtain rfl : w1 = w3 := hw.symm
            go_wp2_with fail
            go_round
            case rel => exact ⟨j + 1, by omega, by go_num, HC2⟩
            case measure => simp [intOf]; omega
          | false =>
            have z0 : (0 : Int) < (x.size : Int) := by have := NS.out; rw [q2] at this; have := beq_eq_false_iff_ne.1 this.symm; omega
            have E2 : Hid (namedP l x = (m : Int)) := by
              have := HC1.out
              show _ = _
              rw [q2, q] at this
              exact this.symm
            clear HC1 q2
            go_wp2_with fail
            refine HF.out.mono ?_
            rintro e w3 ⟨rfl, hw⟩
            obtain rfl : w1 = w3 := hw.symm
            go_wp2_with fail
            go_ret
            exact ⟨ret_int E2.out.symm, B1.out⟩
    · obtain rfl : j = D.length := by omega
      have E2 : Hid (namedP l x = -1) := by
        show _ = _
        rw [← hc.out, List.drop_length]
        split <;> rfl
      clear hc h
      go_wp2_with fail
      go_ret
      exact ⟨ret_int E2.out.symm, B1.out⟩
end Go.Proofs.YtnojgejcmaajmaaGreatDoor

namespace Go.Proofs.YtnojgejcmaajmaaGreatDoor
open Go.RowKit
def oSet : ByteArray := ⟨#[102, 105, 101, 108, 100, 115, 101, 116]⟩
def oLeg : ByteArray := ⟨#[108, 101, 103, 101, 110, 100]⟩
/-- Its form: told by an attribute, or the nearest above. -/
def saidF (l : List Nd) (s : ByteArray) : Int := if 0 ≤ namedP l s ∧ nmI l (namedP l s) = oForm then namedP l s else -1
def belongs (l : List Nd) (i : Int) : Bool := listB (kI l i) || decide (kI l i = 20)
def formC (l : List Nd) (i : Int) : Int := if hasA (nd l i.toNat) oForm = true ∧ topP l i = 0 then saidF l (fndS (nd l i.toNat).attrs oForm) else upP l i oForm
def formP (l : List Nd) (i : Int) : Int := if hasN l i = true ∧ belongs l i = true then formC l i else -1
def elB (l : List Nd) (f i : Int) : Bool := listB (kI l i) && decide (formP l i = f)
def elementsP (l : List Nd) (f : Int) : List Int := if isK l f 30 = true then (orderP l (topP l f)).filter (elB l f) else []
def fireF (l : List Nd) (f i : Int) : Bool := fireB (kI l i) && decide (formP l i = f)
def defaultP (l : List Nd) (f : Int) : Int := if isK l f 30 = true then ((orderP l (topP l f)).find? (fireF l f)).getD (-1) else -1
/-- A fieldset's first legend. -/
def legP (l : List Nd) (set : Int) : Option Int := (nd l set.toNat).kids.find? fun k => decide (nmI l k = oLeg)
def spareP (l : List Nd) (i set : Int) : Bool := match legP l set with
  | none => false
  | some k => decide (k = i) || withinB l i k
def barsB (l : List Nd) (i : Int) (f : Nat) : Bool := decide ((nd l f).name = oSet) && (hasA (nd l f) oDis && (withinB l i (f : Int) && !spareP l i (f : Int)))
def disabledP (l : List Nd) (i : Int) : Bool := hasN l i && ((subB (kI l i) || decide (kI l i = 29)) && (hasA (nd l i.toNat) oDis || (List.range l.length).any (barsB l i)))
end Go.Proofs.YtnojgejcmaajmaaGreatDoor

namespace Go.Proofs.YtnojgejcmaajmaaGreatDoor
open Go.RowKit
/-- The top of a node is a root, and what the node is within. -/
theorem top_root {l : List Nd} (h : Right l) : ∀ (d : Nat) {k : Int}, 0 ≤ k → k < (l.length : Int) → hgt l k ≤ d → topP l k ∈ anc l k ∧ parI l (topP l k) < 0
  | 0, k, h0, hk, hd => by
    have := hgt_up (h.ende hk) (by omega)
    omega
  | d + 1, k, h0, hk, hd => by
    have hu := anc_up (h.ende hk) (by omega)
    have hh := hgt_up (h.ende hk) (by omega)
    have pr := h.up (by omega) hk
    by_cases q : parI l k < 0
    · have e : topP l k = k := by unfold topP; rw [hu, anc_neg q]; rfl
      rw [e]
      exact ⟨by rw [hu]; exact List.mem_cons_self, q⟩
    · have hu2 := anc_up (h.ende pr.2) q
      have e : topP l k = topP l (parI l k) := by unfold topP; rw [hu, hu2]; rfl
      have ih := top_root h d (k := parI l k) (by omega) pr.2 (by omega)
      rw [e]
      exact ⟨by rw [hu]; exact List.mem_cons_of_mem _ ih.1, ih.2⟩
theorem top_rng {l : List Nd} (h : Right l) {k : Int} (h0 : 0 ≤ k) (hk : k < (l.length : Int)) : 0 ≤ topP l k ∧ topP l k < (l.length : Int) :=
  anc_range l (fun i hi => (h.par i hi).2) _ _ hk _ (top_root h _ h0 hk (Nat.le_refl _)).1
theorem kOf_form {o : Option ByteArray} : kOf oForm o = 30 := rfl
theorem isK_form {l : List Nd} (h : Right l) {f : Int} (f0 : 0 ≤ f) (hf : f < (l.length : Int)) (hn : nmI l f = oForm) : isK l f 30 = true := by
  unfold isK hasN kN
  rw [decide_eq_true (⟨f0, hf⟩ : 0 ≤ f ∧ f < (l.length : Int)), right_is.2 h, Bool.true_and, Bool.true_and]
  have e : (nd l f.toNat).name = oForm := hn
  rw [e]
  exact decide_eq_true kOf_form
/-- What is a control's form is a form. -/
theorem form_in {l : List Nd} (h : Right l) {k : Int} (hf : 0 ≤ formP l k) : formP l k < (l.length : Int) ∧ isK l (formP l k) 30 = true := by
  unfold formP at hf ⊢
  by_cases q : hasN l k = true ∧ belongs l k = true
  · rw [if_pos q] at hf ⊢
    have hk : 0 ≤ k ∧ k < (l.length : Int) := by
      have := q.1
      unfold hasN at this
      rw [Bool.and_eq_true, decide_eq_true_eq] at this
      exact this.1
    unfold formC at hf ⊢
    by_cases g : hasA (nd l k.toNat) oForm = true ∧ topP l k = 0
    · rw [if_pos g] at hf ⊢
      unfold saidF at hf ⊢
      by_cases t : 0 ≤ namedP l (fndS (nd l k.toNat).attrs oForm) ∧ nmI l (namedP l (fndS (nd l k.toNat).attrs oForm)) = oForm
      · rw [if_pos t]
        have r : namedP l (fndS (nd l k.toNat).attrs oForm) < (l.length : Int) := by
          have t0 := t.1
          unfold namedP at t0 ⊢
          split at t0
          · omega
          · rename_i e
            rw [if_neg e]
            cases e2 : (orderP l 0).find? (hasId l (fndS (nd l k.toNat).attrs oForm)) with
            | none => rw [e2] at t0; simp at t0
            | some x =>
              have := (order_mem h (by omega) (by have := h.len.1; omega) x).1 (List.mem_of_find?_eq_some e2)
              exact this.2.1
        exact ⟨r, isK_form h t.1 r t.2⟩
      · rw [if_neg t] at hf
        omega
    · rw [if_neg g] at hf ⊢
      unfold upP at hf ⊢
      cases e2 : (anc l (parI l k)).find? (fun k => decide ((nd l k.toNat).name = oForm)) with
      | none => rw [e2] at hf; simp at hf
      | some x =>
        have m := List.mem_of_find?_eq_some e2
        have n := List.find?_some e2
        have pr := h.up (k := k) (by omega) hk.2
        have r := anc_range l (fun i hi => (h.par i hi).2) _ _ pr.2 x m
        exact ⟨r.2, isK_form h r.1 r.2 (of_decide_eq_true n)⟩
  · rw [if_neg q] at hf
    omega
end Go.Proofs.YtnojgejcmaajmaaGreatDoor

namespace Go.Proofs.YtnojgejcmaajmaaGreatDoor
open Go.RowKit
theorem kOf_set {name : ByteArray} {o : Option ByteArray} : kOf name o = 29 ↔ name = oSet :=
  ⟨fun h => by have := kOf_last (i := 1) (o := o) (name := name) (by rw [h]; rfl); rw [← this]; rfl, fun h => by subst h; rfl⟩
theorem kOf_leg {name : ByteArray} {o : Option ByteArray} : kOf name o = 34 ↔ name = oLeg :=
  ⟨fun h => by have := kOf_last (i := 6) (o := o) (name := name) (by rw [h]; rfl); rw [← this]; rfl, fun h => by subst h; rfl⟩
/-- Is there a node of that number, of a kind that q takes? -/
def okB (l : List Nd) (q : Int → Bool) (id : Int) : Bool := decide (0 ≤ id ∧ id < (l.length : Int)) && q (kI l id)
theorem ok_out {l : List Nd} {q : Int → Bool} {id : Int} (h : ¬ (0 ≤ id ∧ id < (l.length : Int))) : okB l q id = false := by unfold okB; rw [decide_eq_false h]; rfl
theorem ok_at {l : List Nd} {q : Int → Bool} {m : Nat} (h : m < l.length) : okB l q (m : Int) = q (kN l[m]) := by
  unfold okB kI; rw [decide_eq_true (by omega), Int.toNat_natCast, nd_at h, Bool.true_and]
theorem ok_in {l : List Nd} {q : Int → Bool} {id : Int} (h : 0 ≤ id ∧ id < (l.length : Int)) : okB l q id = q (kI l id) := by unfold okB; rw [decide_eq_true h, Bool.true_and]
def is30 (k : Int) : Bool := k == 30
def is29 (k : Int) : Bool := k == 29
def is34 (k : Int) : Bool := k == 34
def belK (k : Int) : Bool := listB k || k == 20
def disK (k : Int) : Bool := subB k || k == 29
def firB (l : List Nd) (q : Int → Bool) (xs : List Int) : Int := (xs.find? (okB l q)).getD (-1)
theorem dec_beq (a b : Int) : decide (a = b) = (a == b) := by
  cases h : (a == b) with
  | true => exact decide_eq_true (by simpa using h)
  | false => exact decide_eq_false (by simpa using h)
theorem ok_right {l : List Nd} {k id : Int} : (okB l (fun x => x == k) id && rightB l) = isK l id k := by
  unfold okB isK hasN kI
  rw [dec_beq (kN (nd l id.toNat)) k]
  show (decide (0 ≤ id ∧ id < (l.length : Int)) && (kN (nd l id.toNat) == k) && rightB l) = _
  cases decide (0 ≤ id ∧ id < (l.length : Int)) <;> cases rightB l <;> cases (kN (nd l id.toNat) == k) <;> rfl
/-- What is above a node, of such a kind, and holds the child that leads to it. -/
def abvP (l : List Nd) (q : Int → Bool) (h : Int → Int → Bool) (k : Int) : Int := (((anc l k).find? (fun x => okB l q (parI l x) && h (parI l x) x)).map (parI l)).getD (-1)
theorem abv_hit {l : List Nd} {q : Int → Bool} {h : Int → Int → Bool} {k : Int} (hE : Ends l k) (hk : ¬ k < 0) (g : okB l q (parI l k) = true) (g2 : h (parI l k) k = true) : abvP l q h k = parI l k := by
  unfold abvP
  rw [anc_up hE hk, List.find?_cons_of_pos (by rw [g, g2]; rfl)]; rfl
theorem abv_top {l : List Nd} {q : Int → Bool} {h : Int → Int → Bool} {k : Int} (hE : Ends l k) (hk : ¬ k < 0) (g : parI l k < 0) : abvP l q h k = -1 := by
  unfold abvP
  rw [anc_up hE hk, List.find?_cons_of_neg (by rw [ok_out (by omega)]; simp), anc_neg g]; rfl
theorem abv_up {l : List Nd} {q : Int → Bool} {h : Int → Int → Bool} {k : Int} (hE : Ends l k) (hk : ¬ k < 0) (g : (okB l q (parI l k) && h (parI l k) k) = false) : abvP l q h (parI l k) = abvP l q h k := by
  unfold abvP
  rw [anc_up hE hk, List.find?_cons_of_neg (by rw [g]; simp)]
theorem abv_form {l : List Nd} (hR : Right l) : ∀ (d : Nat) {k : Int}, 0 ≤ k → k < (l.length : Int) → hgt l k ≤ d → abvP l is30 (fun _ _ => true) k = upP l k oForm
  | 0, k, h0, hk, hd => by
    have := hgt_up (hR.ende hk) (by omega)
    omega
  | d + 1, k, h0, hk, hd => by
    have hE := hR.ende hk
    have hh := hgt_up hE (by omega)
    have pr := hR.up (by omega) hk
    by_cases q : parI l k < 0
    · rw [abv_top hE (by omega) q]
      unfold upP
      rw [anc_neg q]; rfl
    · have hE2 := hR.ende pr.2
      have hok : okB l is30 (parI l k) = decide ((nd l (parI l k).toNat).name = oForm) := by
        rw [ok_in ⟨by omega, pr.2⟩]
        unfold is30 kI kN
        rw [← dec_beq, Bool.eq_iff_iff, decide_eq_true_iff, decide_eq_true_iff]
        exact kOf_frm
      by_cases g : (nd l (parI l k).toNat).name = oForm
      · rw [abv_hit hE (by omega) (by rw [hok, decide_eq_true g]) rfl]
        unfold upP
        rw [anc_up hE2 q, List.find?_cons_of_pos (by rw [decide_eq_true g])]; rfl
      · rw [← abv_up hE (by omega) (by rw [hok, decide_eq_false g]; rfl), abv_form hR d (by omega) pr.2 (by omega)]
        unfold upP
        rw [anc_up hE2 q, List.find?_cons_of_neg (by rw [decide_eq_false g]; simp)]
/-- A form that is named. -/
theorem said_is {l : List Nd} (hR : Right l) (s : ByteArray) : firB l is30 [namedP l s] = saidF l s := by
  unfold firB saidF
  have hn : 0 ≤ namedP l s → namedP l s < (l.length : Int) := by
    intro h
    have h0 : 0 < l.length := by have := hR.len.1; omega
    unfold namedP at h ⊢
    split at h
    · omega
    · rename_i q
      rw [if_neg q]
      cases e : (orderP l 0).find? (hasId l s) with
      | none => rw [e] at h; have h : (0 : Int) ≤ -1 := h; omega
      | some x => exact ((order_mem hR (by omega) (by omega) x).1 (List.mem_of_find?_eq_some e)).2.1
  generalize namedP l s = f at *
  by_cases h0 : 0 ≤ f
  · have hok : okB l is30 f = decide (nmI l f = oForm) := by
      rw [ok_in ⟨h0, hn h0⟩]
      unfold is30 kI kN nmI
      rw [← dec_beq, Bool.eq_iff_iff, decide_eq_true_iff, decide_eq_true_iff]
      exact kOf_frm
    by_cases g : nmI l f = oForm
    · rw [if_pos ⟨h0, g⟩, List.find?_cons_of_pos (by rw [hok, decide_eq_true g])]; rfl
    · rw [if_neg (fun t => g t.2), List.find?_cons_of_neg (by rw [hok, decide_eq_false g]; simp)]; rfl
  · rw [if_neg (fun t => h0 t.1), List.find?_cons_of_neg (by rw [ok_out (fun t => h0 t.1)]; simp)]; rfl
/-- A control's form, as the program asks: by any function of names. -/
def frmP (l : List Nd) (f : ByteArray → Int) (k : Int) : Int := if hasA (nd l k.toNat) oForm = true ∧ topP l k = 0 then firB l is30 [f (fndS (nd l k.toNat).attrs oForm)] else abvP l is30 (fun _ _ => true) k
theorem frm_is {l : List Nd} (hR : Right l) {k : Int} (h0 : 0 ≤ k) (hk : k < (l.length : Int)) : frmP l (namedP l) k = formC l k := by
  unfold frmP formC
  rw [said_is hR, abv_form hR _ h0 hk (Nat.le_refl _)]
theorem form_pos {l : List Nd} (hR : Right l) {k : Int} (h0 : 0 ≤ k) (hk : k < (l.length : Int)) (hb : belK (kI l k) = true) : formP l k = formC l k := by
  unfold formP
  rw [if_pos]
  refine ⟨?_, ?_⟩
  · unfold hasN; rw [decide_eq_true ⟨h0, hk⟩, right_is.2 hR]; rfl
  · unfold belongs; rw [dec_beq]; exact hb
/-- What the form's own id tells, and no other one. -/
def ownId (l : List Nd) (f : Int) : ByteArray := fndS (nd l f.toNat).attrs idT
def nmdP (l : List Nd) (f : Int) (s : ByteArray) : Int := if s = ownId l f then namedP l (ownId l f) else -1
theorem named_id {l : List Nd} {s : ByteArray} {f : Int} (e : namedP l s = f) (h : 0 ≤ f) : ownId l f = s := by
  unfold namedP at e
  split at e
  · omega
  · cases q : (orderP l 0).find? (hasId l s) with
    | none => rw [q] at e; have e : (-1 : Int) = f := e; omega
    | some x =>
      rw [q] at e
      have e : x = f := e
      subst e
      have := List.find?_some q
      unfold hasId at this
      have := of_decide_eq_true this
      unfold attrP at this
      unfold ownId fndS
      cases g : findA (nd l x.toNat).attrs idT with
      | none => rw [g] at this; cases this
      | some i => rw [g] at this; exact Option.some.inj this
theorem frm_own {l : List Nd} (hR : Right l) {f k : Int} (hf : 0 ≤ f) (h0 : 0 ≤ k) (hk : k < (l.length : Int)) : (frmP l (nmdP l f) k = f) ↔ formC l k = f := by
  rw [← frm_is hR h0 hk]
  unfold frmP
  by_cases g : hasA (nd l k.toNat) oForm = true ∧ topP l k = 0
  · rw [if_pos g, if_pos g]
    generalize fndS (nd l k.toNat).attrs oForm = s
    unfold nmdP
    by_cases e : s = ownId l f
    · rw [if_pos e, ← e]
    · rw [if_neg e]
      constructor
      · intro t
        have : firB l is30 [-1] = -1 := by unfold firB; rw [List.find?_cons_of_neg (by rw [ok_out (by omega)]; simp)]; rfl
        omega
      · intro t
        exfalso
        apply e
        unfold firB at t
        by_cases q : okB l is30 (namedP l s) = true
        · rw [List.find?_cons_of_pos q] at t
          have t : namedP l s = f := t
          exact (named_id t hf).symm
        · rw [List.find?_cons_of_neg q] at t
          have t : (-1 : Int) = f := t
          omega
  · rw [if_neg g, if_neg g]
/-- Which nodes the program takes away from a form's. -/
def goneB (l : List Nd) (q : Int → Bool) (f k : Int) : Bool := !okB l q k || (frmP l (nmdP l f) k != f)
def ownedP (l : List Nd) (q : Int → Bool) (f : Int) : List Int := (orderP l (topP l f)).filter fun k => !goneB l q f k
theorem gone_is {l : List Nd} (hR : Right l) {q : Int → Bool} {f k : Int} (hf : 0 ≤ f) (h0 : 0 ≤ k) (hk : k < (l.length : Int)) (hq : ∀ k, q k = true → belK k = true) : (!goneB l q f k) = (q (kI l k) && decide (formP l k = f)) := by
  unfold goneB
  rw [ok_in ⟨h0, hk⟩]
  cases e : q (kI l k) with
  | false => rfl
  | true =>
    rw [form_pos hR h0 hk (hq _ e)]
    have := frm_own hR hf h0 hk
    by_cases g : formC l k = f
    · rw [decide_eq_true g, this.2 g]; simp
    · rw [decide_eq_false g]
      have h2 : ¬ frmP l (nmdP l f) k = f := fun t => g (this.1 t)
      have h3 : (frmP l (nmdP l f) k != f) = true := by rw [bne_iff_ne]; exact h2
      rw [h3]; rfl
theorem filter_in {α : Type} {p q : α → Bool} : ∀ {xs : List α}, (∀ x ∈ xs, p x = q x) → xs.filter p = xs.filter q
  | [], _ => rfl
  | x :: xs, h => by
    rw [List.filter_cons, List.filter_cons, h x List.mem_cons_self, filter_in (fun y hy => h y (List.mem_cons_of_mem _ hy))]
theorem isK_in {l : List Nd} {f k : Int} (h : isK l f k = true) : Right l ∧ 0 ≤ f ∧ f < (l.length : Int) := by
  unfold isK at h
  rw [Bool.and_eq_true] at h
  have h := h.1
  unfold hasN at h
  rw [Bool.and_eq_true, decide_eq_true_eq] at h
  exact ⟨right_is.1 h.2, h.1⟩
theorem owned_in {l : List Nd} {q : Int → Bool} {f : Int} (h : isK l f 30 = true) (hq : ∀ k, q k = true → belK k = true) : ownedP l q f = (orderP l (topP l f)).filter fun k => q (kI l k) && decide (formP l k = f) := by
  obtain ⟨hR, f0, f1⟩ := isK_in h
  have tr := top_rng hR f0 f1
  exact filter_in (fun x hx => by
    have := (order_mem hR tr.1 tr.2 x).1 hx
    exact gone_is hR f0 this.1 this.2.1 hq)
theorem list_bel {k : Int} (h : listB k = true) : belK k = true := by unfold belK; rw [h]; rfl
theorem fire_bel {k : Int} (h : fireB k = true) : belK k = true := by
  unfold fireB at h
  have h := of_decide_eq_true h
  unfold belK listB
  rcases h with rfl | rfl | rfl <;> rfl
theorem elements_is {l : List Nd} {f : Int} : elementsP l f = if isK l f 30 = true then ownedP l listB f else [] := by
  unfold elementsP
  by_cases h : isK l f 30 = true
  · rw [if_pos h, if_pos h, owned_in h (fun k => list_bel)]; rfl
  · rw [if_neg h, if_neg h]
theorem find_filter {α : Type} {p q : α → Bool} : ∀ {xs : List α}, (∀ x ∈ xs, p x = true → q x = true) → (xs.filter p).find? q = xs.find? p
  | [], _ => rfl
  | x :: xs, h => by
    have ih := find_filter (p := p) (q := q) (xs := xs) (fun y hy => h y (List.mem_cons_of_mem _ hy))
    by_cases e : p x = true
    · rw [List.filter_cons_of_pos e, List.find?_cons_of_pos (h x List.mem_cons_self e), List.find?_cons_of_pos e]
    · rw [List.filter_cons_of_neg e, List.find?_cons_of_neg e, ih]
theorem default_is {l : List Nd} {f : Int} : defaultP l f = if isK l f 30 = true then firB l fireB (ownedP l fireB f) else -1 := by
  unfold defaultP
  by_cases h : isK l f 30 = true
  · rw [if_pos h, if_pos h, owned_in h (fun k => fire_bel)]
    obtain ⟨hR, f0, f1⟩ := isK_in h
    have tr := top_rng hR f0 f1
    unfold firB
    rw [find_filter]
    · rfl
    · intro x hx hp
      have := (order_mem hR tr.1 tr.2 x).1 hx
      rw [Bool.and_eq_true] at hp
      rw [ok_in ⟨this.1, this.2.1⟩]
      exact hp.1
  · rw [if_neg h, if_neg h]
theorem find_same {α : Type} {p q : α → Bool} : ∀ {xs : List α}, (∀ x ∈ xs, p x = q x) → xs.find? p = xs.find? q
  | [], _ => rfl
  | x :: xs, h => by
    have ih := find_same (p := p) (q := q) (xs := xs) (fun y hy => h y (List.mem_cons_of_mem _ hy))
    have e := h x List.mem_cons_self
    by_cases g : p x = true
    · rw [List.find?_cons_of_pos g, List.find?_cons_of_pos (by rw [← e]; exact g)]
    · rw [List.find?_cons_of_neg g, List.find?_cons_of_neg (by rw [← e]; exact g), ih]
/-- In a node's way up each height is met once. -/
theorem anc_once {l : List Nd} (hR : Right l) : ∀ (d : Nat) {k a b : Int}, 0 ≤ k → k < (l.length : Int) → hgt l k ≤ d → a ∈ anc l k → b ∈ anc l k → hgt l a = hgt l b → a = b
  | 0, k, a, b, h0, hk, hd, _, _, _ => by
    have := hgt_up (hR.ende hk) (by omega)
    omega
  | d + 1, k, a, b, h0, hk, hd, ha, hb, e => by
    have hE := hR.ende hk
    have hh := hgt_up hE (by omega)
    have pr := hR.up (by omega) hk
    rw [anc_up hE (by omega), List.mem_cons] at ha hb
    have low : ∀ x, x ∈ anc l (parI l k) → hgt l x < hgt l k := by
      intro x hx
      have := anc_hgt hR _ pr.2 (Nat.le_refl _) hx
      omega
    rcases ha with rfl | ha
    · rcases hb with rfl | hb
      · rfl
      · have := low b hb; omega
    · rcases hb with rfl | hb
      · have := low a ha; omega
      · by_cases q : parI l k < 0
        · rw [anc_neg q] at ha; cases ha
        · exact anc_once hR d (by omega) pr.2 (by omega) ha hb e
theorem anc_par {l : List Nd} (hR : Right l) : ∀ (d : Nat) {k : Int}, 0 ≤ k → k < (l.length : Int) → hgt l k ≤ d → ∀ f : Int, 0 ≤ f → (f ∈ anc l (parI l k) ↔ ∃ x ∈ anc l k, parI l x = f)
  | 0, k, h0, hk, hd => by
    have := hgt_up (hR.ende hk) (by omega)
    omega
  | d + 1, k, h0, hk, hd => fun f hf => by
    have hE := hR.ende hk
    have hh := hgt_up hE (by omega)
    have pr := hR.up (by omega) hk
    rw [anc_up hE (by omega)]
    by_cases q : parI l k < 0
    · rw [anc_neg q]
      constructor
      · intro t; cases t
      · rintro ⟨x, hx, e⟩
        rw [List.mem_singleton] at hx
        subst hx; omega
    · have ih := anc_par hR d (k := parI l k) (by omega) pr.2 (by omega) f hf
      rw [anc_up (hR.ende pr.2) q, List.mem_cons, ih, ← anc_up (hR.ende pr.2) q]
      constructor
      · rintro (t | ⟨x, hx, e⟩)
        · exact ⟨k, List.mem_cons_self, t.symm⟩
        · exact ⟨x, List.mem_cons_of_mem _ hx, e⟩
      · rintro ⟨x, hx, e⟩
        rcases List.mem_cons.1 hx with rfl | hx
        · exact .inl e.symm
        · exact .inr ⟨x, hx, e⟩
/-- Whether a fieldset holds a child to be disabled. -/
def hldB (l : List Nd) (set b : Int) : Bool := hasA (nd l set.toNat) oDis && (b != firB l is34 (nd l set.toNat).kids)
theorem leg_is {l : List Nd} (hR : Right l) {f : Int} (h0 : 0 ≤ f) (hf : f < (l.length : Int)) : firB l is34 (nd l f.toNat).kids = (legP l f).getD (-1) := by
  unfold firB legP
  rw [find_same]
  intro x hx
  have := hR.kid f.toNat (by omega) x hx
  rw [ok_in ⟨this.1, this.2.1⟩]
  unfold is34 kI kN nmI
  rw [← dec_beq, Bool.eq_iff_iff, decide_eq_true_iff, decide_eq_true_iff]
  exact kOf_leg
theorem abv_some {l : List Nd} {q : Int → Bool} {h : Int → Int → Bool} {k : Int} : (abvP l q h k != -1) = (anc l k).any (fun x => okB l q (parI l x) && h (parI l x) x) := by
  unfold abvP
  cases e : (anc l k).find? (fun x => okB l q (parI l x) && h (parI l x) x) with
  | none =>
    have := List.find?_eq_none.1 e
    symm
    rw [List.any_eq_false.2 this]; rfl
  | some x =>
    have h1 := List.find?_some e
    have h2 := List.mem_of_find?_eq_some e
    rw [List.any_eq_true.2 ⟨x, h2, h1⟩]
    show (parI l x != -1) = true
    rw [Bool.and_eq_true] at h1
    have : 0 ≤ parI l x := by
      apply Classical.byContradiction
      intro t
      rw [ok_out (fun s => t s.1)] at h1
      cases h1.1
    rw [bne_iff_ne]; omega
def disQ (l : List Nd) (i : Int) : Bool := hasA (nd l i.toNat) oDis || (abvP l is29 (hldB l) i != -1)
theorem disabled_is {l : List Nd} {i : Int} : disabledP l i = (okB l disK i && rightB l && disQ l i) := by
  unfold disabledP
  by_cases hN : hasN l i = true
  · have hN2 := hN
    unfold hasN at hN2
    rw [Bool.and_eq_true, decide_eq_true_eq] at hN2
    have hR := right_is.1 hN2.2
    have h0 := hN2.1.1
    have hi := hN2.1.2
    rw [hN, ok_in hN2.1, hN2.2, Bool.true_and, Bool.and_true]
    have e1 : (subB (kI l i) || decide (kI l i = 29)) = disK (kI l i) := by unfold disK; rw [dec_beq]
    rw [e1]
    congr 1
    unfold disQ
    congr 1
    rw [abv_some, Bool.eq_iff_iff, List.any_eq_true, List.any_eq_true]
    constructor
    · rintro ⟨f, hf, hb⟩
      have hf : f < l.length := List.mem_range.1 hf
      unfold barsB at hb
      rw [Bool.and_eq_true, Bool.and_eq_true, Bool.and_eq_true, decide_eq_true_eq] at hb
      obtain ⟨b1, b2, b3, b4⟩ := hb
      unfold withinB at b3
      rw [List.contains_iff_mem] at b3
      obtain ⟨x, hx, ex⟩ := (anc_par hR _ h0 hi (Nat.le_refl _) (f : Int) (by omega)).1 b3
      refine ⟨x, hx, ?_⟩
      rw [ex, Bool.and_eq_true]
      refine ⟨?_, ?_⟩
      · rw [ok_in ⟨by omega, by omega⟩]
        unfold is29 kI kN
        rw [← dec_beq, decide_eq_true_iff, Int.toNat_natCast]
        exact kOf_set.2 b1
      · unfold hldB
        rw [Int.toNat_natCast, b2, Bool.true_and]
        have lg := leg_is hR (f := (f : Int)) (by omega) (by omega)
        rw [Int.toNat_natCast] at lg
        rw [lg, bne_iff_ne]
        have xr : 0 ≤ x ∧ x < (l.length : Int) := anc_range l (fun i hi => (hR.par i hi).2) _ _ hi x hx
        cases el : legP l (f : Int) with
        | none => show x ≠ -1; omega
        | some k =>
          show x ≠ k
          intro t
          subst t
          unfold spareP at b4
          rw [el] at b4
          have : (decide (x = i) || withinB l i x) = true := by
            rw [anc_up (hR.ende hi) (by omega), List.mem_cons] at hx
            rw [Bool.or_eq_true, decide_eq_true_eq]
            unfold withinB
            rw [List.contains_iff_mem]
            exact hx
          have b4 : (!(decide (x = i) || withinB l i x)) = true := b4
          rw [this] at b4; cases b4
    · rintro ⟨x, hx, hb⟩
      rw [Bool.and_eq_true] at hb
      have xr : 0 ≤ x ∧ x < (l.length : Int) := anc_range l (fun i hi => (hR.par i hi).2) _ _ hi x hx
      have fr : 0 ≤ parI l x ∧ parI l x < (l.length : Int) := by
        apply Classical.byContradiction
        intro t
        rw [ok_out t] at hb
        cases hb.1
      obtain ⟨f, ef⟩ : ∃ f : Nat, parI l x = (f : Int) := ⟨(parI l x).toNat, by omega⟩
      rw [ef] at hb fr
      have hf : f < l.length := by omega
      refine ⟨f, List.mem_range.2 hf, ?_⟩
      obtain ⟨b1, b2⟩ := hb
      rw [ok_in fr] at b1
      unfold is29 kI kN at b1
      rw [← dec_beq, decide_eq_true_iff, Int.toNat_natCast] at b1
      unfold hldB at b2
      rw [Bool.and_eq_true] at b2
      obtain ⟨b2, b3⟩ := b2
      have lg := leg_is hR (f := (f : Int)) (by omega) (by omega)
      rw [lg, bne_iff_ne] at b3
      rw [Int.toNat_natCast] at b2
      unfold barsB
      rw [Bool.and_eq_true, Bool.and_eq_true, Bool.and_eq_true, decide_eq_true_eq]
      refine ⟨kOf_set.1 b1, b2, ?_, ?_⟩
      · unfold withinB
        rw [List.contains_iff_mem]
        exact (anc_par hR _ h0 hi (Nat.le_refl _) (f : Int) (by omega)).2 ⟨x, hx, ef⟩
      · unfold spareP
        cases el : legP l (f : Int) with
        | none => rfl
        | some k =>
          rw [el] at b3
          have b3 : x ≠ k := b3
          show (!(decide (k = i) || withinB l i k)) = true
          have : ¬ ((decide (k = i) || withinB l i k) = true) := by
            rw [Bool.or_eq_true, decide_eq_true_eq]
            intro t
            have ki : k ∈ anc l i := by
              rw [anc_up (hR.ende hi) (by omega), List.mem_cons]
              unfold withinB at t
              rw [List.contains_iff_mem] at t
              exact t
            have kk := List.mem_of_find?_eq_some (by unfold legP at el; exact el)
            rw [Int.toNat_natCast] at kk
            have kp := hR.kid f hf k kk
            have kr : 0 ≤ k ∧ k < (l.length : Int) := ⟨kp.1, kp.2.1⟩
            have e1 := hgt_up (hR.ende kr.2) (by omega)
            have e2 := hgt_up (hR.ende xr.2) (by omega)
            have kp3 : parI l k = (f : Int) := kp.2.2
            rw [kp3] at e1
            rw [ef] at e2
            exact b3 (anc_once hR _ h0 hi (Nat.le_refl _) hx ki (by omega))
          cases g : (decide (k = i) || withinB l i k) with
          | true => exact absurd g this
          | false => rfl
  · have : (okB l disK i && rightB l) = false := by
      unfold hasN at hN
      unfold okB
      revert hN
      cases decide (0 ≤ i ∧ i < (l.length : Int)) <;> cases rightB l <;> simp
    rw [this]
    have hF : hasN l i = false := by revert hN; cases hasN l i <;> simp
    rw [hF]; rfl

end Go.Proofs.YtnojgejcmaajmaaGreatDoor
