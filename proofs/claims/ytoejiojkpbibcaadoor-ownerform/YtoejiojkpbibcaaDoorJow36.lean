/- The document's Has, Within, Attr, Top, Up of layer 10. The document's kind and Form of layer 16. -/
import Derived.Test.YtoejiojkpbibcaaDoorJow16
import Derived.Test.YtoejiojkpbibcaaDoorJow26
import Derived.Test.YtoejiojkpbibcaaDoorJow27
import Derived.Test.YtoejiojkpbibcaaDoorJow29
import Derived.Test.YtoejiojkpbibcaaDoorJow30
import Derived.Test.YtoejiojkpbibcaaDoorJow32
import Derived.Test.YtoejiojkpbibcaaDoorJow33

namespace Go.Proofs.YtoejiojkpbibcaaDoor
open Go.RowKit
set_option maxRecDepth 100000
theorem up_cons {l : List Nd} {m : Nat} (hm : m < l.length) {t : List Int} {name : ByteArray} : (((m : Int) :: t).find? fun k => decide ((nd l k.toNat).name = name)) = if l[m].name = name then some (m : Int) else (t.find? fun k => decide ((nd l k.toNat).name = name)) := by
  rw [List.find?_cons, Int.toNat_natCast, nd_at hm]
  by_cases h : l[m].name = name
  · rw [if_pos h, decide_eq_true h]
  · rw [if_neg h, decide_eq_false h]
set_option maxHeartbeats 2000000 in
theorem refUp_any (v : Value) (l : List Nd) (id : Int) (m0 : Nat) (name : ByteArray) (w : World) (hv : NodesV w v l) (hI : Is l id m0) :
    Calls Tryd.prog 35 #[v, .int .i64 id, .string name] w fun e w' => e = .returned (.int .i64 (upP l id name)) ∧ w' = w := by
  have hR := hI.right
  obtain ⟨rfl, h0⟩ := (⟨hI.eq, hI.lt⟩ : id = (m0 : Int) ∧ m0 < l.length)
  clear hI
  have hlen := hR.len.2
  obtain ⟨p, c, rfl, hv⟩ := hv
  rcases hv with hv | ⟨b, o, rfl, hv⟩
  · rw [hv] at h0; simp at h0
  have HV := hide hv
  clear hv
  obtain ⟨va0, vk0, hN0⟩ := HV.out m0 h0
  have c0 := hN0.parent
  have i0 : (m0 : Int) < (l.length : Int) := by omega
  unfold upP
  rw [parI_at h0]
  have pb := hR.par m0 h0
  rw [nd_at h0] at pb
  have pb1 := pb.1
  have pb2 := pb.2
  have HRt := hide hR
  clear pb hN0 hR
  generalize l[m0].parent = z0 at *
  generalize hW : ((anc l z0).find? fun k => decide ((nd l k.toNat).name = name)).getD (-1) = W
  have HW := hide hW
  clear hW
  go_enter Tryd.func35, Tryd.ntmps35
  go_wp2_with fail
  go_loop [7] (fun kv => ∃ z : Int, kv = .int .i64 z ∧ -1 ≤ z ∧ z < (l.length : Int) ∧ Hid (((anc l z).find? fun k => decide ((nd l k.toNat).name = name)).getD (-1) = W)) (fun kv => hgt l (intOf kv))
  case atStart => exact ⟨z0, rfl, pb1, pb2, HW.out⟩
  case round =>
    obtain ⟨z, rfl, z1, z2, hc⟩ := hrel
    clear HW
    by_cases q1 : z < 0
    · have q2 : ¬ 0 ≤ z := by omega
      have E : Hid (W = z) := by
        show _ = _
        rw [← hc.out, anc_neg q1]
        show (-1 : Int) = z
        omega
      clear hc
      go_wp2_with fail
      go_ret
      exact ⟨ret_int E.out.symm, rfl⟩
    · obtain ⟨m, rfl⟩ : ∃ m : Nat, z = (m : Int) := ⟨z.toNat, by omega⟩
      have hm : m < l.length := by omega
      have he := HRt.out.ende z2
      have hu := anc_up he q1
      have hh := hgt_up he q1
      have pb := HRt.out.par m hm
      rw [nd_at hm] at pb
      rw [parI_at hm] at hu hh
      obtain ⟨vam, vkm, hNm⟩ := HV.out m hm
      have cm := hNm.parent
      have cn := hNm.name
      have q2 : 0 ≤ (m : Int) := by omega
      have hc1 := hc.out
      rw [hu, up_cons hm] at hc1
      by_cases q3 : l[m].name = name
      · have e3 : (l[m].name.toList != name.toList) = false := by unfold bne; rw [txt_beq, decide_eq_true q3]; rfl
        have e3' : (l[m].name.toList == name.toList) = true := by rw [txt_beq, decide_eq_true q3]
        rw [if_pos q3] at hc1
        have E : Hid (W = (m : Int)) := hc1.symm
        clear hc hc1 hu hh pb he q3 hNm
        generalize l[m].parent = pm at *
        generalize l[m].name = nm at *
        go_wp2_with fail
        go_ret
        exact ⟨ret_int E.out.symm, rfl⟩
      · have e3 : (l[m].name.toList != name.toList) = true := by unfold bne; rw [txt_beq, decide_eq_false q3]; rfl
        have e3' : (l[m].name.toList == name.toList) = false := by rw [txt_beq, decide_eq_false q3]
        rw [if_neg q3] at hc1
        have HC1 := hide hc1
        have HH := hide hh
        have pb1 := pb.1
        have pb2 := pb.2
        clear hc hc1 hu hh pb he q3 hNm
        generalize l[m].parent = pm at *
        generalize l[m].name = nm at *
        go_wp2_with fail
        go_round
        case rel => exact ⟨pm, rfl, pb1, pb2, HC1.out⟩
        case measure => have := HH.out; show hgt l pm < hgt l (m : Int); omega
end Go.Proofs.YtoejiojkpbibcaaDoor

namespace Go.Proofs.YtoejiojkpbibcaaDoor
open Go.RowKit
set_option maxRecDepth 100000
theorem lit_decW (a : ByteArray) (l : List UInt8) : (a.toList == l) = decide (a = ⟨l.toArray⟩) := by
  rw [Bool.eq_iff_iff, beq_iff_eq, decide_eq_true_eq, ByteArray.toList_eq]
  constructor
  · intro e
    apply ByteArray.ext
    exact Array.ext' e
  · intro e; rw [e]
set_option maxHeartbeats 8000000 in
theorem refForm_any (v : Value) (l : List Nd) (id : Int) (w : World) (hv : NodesV w v l) (hz : DocSz l) :
    Calls Tryd.prog 11 #[v, .int .i64 id] w fun e w' => e = .returned (.int .i64 (formP l id)) ∧ Below w.heap.size w w' := by
  have HH := hide (refHas_any v l id w hv hz)
  cases h : hasN l id with
  | false =>
    have E : Hid (formP l id = -1) := by show _ = _; unfold formP; rw [h, if_neg (fun q => by cases q.1)]
    rw [h] at HH
    obtain ⟨p, c, rfl, _⟩ := hv
    clear h hz
    go_enter Tryd.func11, Tryd.ntmps11
    go_wp2_with fail
    refine HH.out.mono ?_
    rintro e w1 ⟨rfl, b1⟩
    go_wp2_with fail
    go_ret
    exact ⟨ret_int E.out.symm, b1⟩
  | true =>
    obtain ⟨m, hI⟩ := Is.of h
    obtain ⟨rfl, h0⟩ := (⟨hI.eq, hI.lt⟩ : id = (m : Int) ∧ m < l.length)
    have hR := hI.right
    have sz := right_attrsO hR h0
    rw [nd_at h0] at sz
    have hlen := hR.len.2
    have HK := hide (fun W (hb : Below w.heap.size w W) => refKind_any v l m W (hv.below hb) hR h0)
    have HL := hide (fun W => refIs_1 (kI l (m : Int)) W)
    rw [h] at HH
    cases hb : belongs l (m : Int) with
    | false =>
      have E : Hid (formP l (m : Int) = -1) := by show _ = _; unfold formP; rw [hb, if_neg (fun q => by cases q.2)]
      have lb : listB (kI l (m : Int)) = false := by unfold belongs at hb; rw [Bool.or_eq_false_iff] at hb; exact hb.1
      have k20 : ¬ kI l (m : Int) = 20 := by unfold belongs at hb; rw [Bool.or_eq_false_iff] at hb; exact of_decide_eq_false hb.2
      have b20 : (kI l (m : Int) == 20) = false := beq_eq_false_iff_ne.2 k20
      rw [lb] at HL
      obtain ⟨p, c, rfl, _⟩ := hv
      clear hz hI hR h sz hlen hb lb
      generalize kI l (m : Int) = kq at *
      go_enter Tryd.func11, Tryd.ntmps11
      go_wp2_with fail
      refine HH.out.mono ?_
      rintro e w1 ⟨rfl, b1⟩
      go_wp2_with fail
      refine (HK.out _ b1).mono ?_
      rintro e w2 ⟨rfl, b2⟩
      have B2 := hide (chain b1 b2)
      go_wp2_with fail
      refine (HL.out _).mono ?_
      rintro e u ⟨rfl, hu⟩
      obtain rfl : w2 = u := hu.symm
      go_wp2_with fail
      go_ret
      exact ⟨ret_int E.out.symm, B2.out⟩
    | true =>
      have EF : Hid (formP l (m : Int) = formC l (m : Int)) := by show _ = _; unfold formP; rw [if_pos ⟨h, hb⟩]
      have HT := hide (fun W (hb : Below w.heap.size w W) => refTop_any v l (m : Int) m W (hv.below hb) hI)
      have HU := hide (fun W (hb : Below w.heap.size w W) => refUp_any v l (m : Int) m oForm W (hv.below hb) hI)
      have HB := hide (fun x (hx : x.size ≤ maxLen) W (hb : Below w.heap.size w W) => refByID_any v l x W (hv.below hb) hz hR hx)
      rw [show oForm = ⟨#[102, 111, 114, 109]⟩ from rfl] at HU
      obtain ⟨p, c, rfl⟩ : ∃ p c, v = .slice p l.length c := by obtain ⟨p, c, e, _⟩ := hv; exact ⟨p, c, e⟩
      obtain ⟨b, o, rfl, va, vk, N0⟩ := nd_open hv h0
      have HA := hide (fun W (hb : Below w.heap.size w W) => refAttrS_any va l[m].attrs ⟨#[102, 111, 114, 109]⟩ W (N0.at_.below hb) (by omega))
      have N1 := hide N0
      obtain ⟨pa, ka, rfl, _⟩ := N0.at_
      have i0 : (0 : Int) ≤ (m : Int) := by omega
      have i1 : (m : Int) < (l.length : Int) := by omega
      have fz : (fndS l[m].attrs ⟨#[102, 111, 114, 109]⟩).size ≤ maxLen := by
        unfold fndS
        split
        · decide
        · rename_i j e
          obtain ⟨hj, _, _⟩ := List.findIdx?_eq_some_iff_getElem.1 (show l[m].attrs.findIdx? (isN ⟨#[102, 111, 114, 109]⟩) = some j from e)
          rw [show l[m].attrs.getD j at0 = l[m].attrs[j] by simp [List.getD, hj]]
          have := sz.2 _ (List.getElem_mem hj)
          unfold maxLen
          omega
      have HBs := hide (HB.out (fndS l[m].attrs ⟨#[102, 111, 114, 109]⟩) fz)
      have EC : Hid (formC l (m : Int) = if (findA l[m].attrs ⟨#[102, 111, 114, 109]⟩).isSome = true ∧ topP l (m : Int) = 0 then saidF l (fndS l[m].attrs ⟨#[102, 111, 114, 109]⟩) else upP l (m : Int) ⟨#[102, 111, 114, 109]⟩) := by
        show _ = _
        unfold formC hasA
        rw [Int.toNat_natCast, nd_at h0]
        rfl
      have NR : Hid (∀ f : Int, namedP l (fndS l[m].attrs ⟨#[102, 111, 114, 109]⟩) = f → 0 ≤ f → f < (l.length : Int)) := fun f e q => named_in hR e q
      have HN := hide hv
      have LB : (listB (kI l (m : Int)) = true) ∨ (listB (kI l (m : Int)) = false ∧ kI l (m : Int) = 20) := by
        unfold belongs at hb
        rw [Bool.or_eq_true, decide_eq_true_eq] at hb
        cases q : listB (kI l (m : Int)) with
        | true => exact .inl rfl
        | false =>
          rw [q] at hb
          rcases hb with t | t
          · cases t
          · exact .inr ⟨rfl, t⟩
      have SF : Hid (saidF l (fndS l[m].attrs ⟨#[102, 111, 114, 109]⟩) = if 0 ≤ namedP l (fndS l[m].attrs ⟨#[102, 111, 114, 109]⟩) ∧ nmI l (namedP l (fndS l[m].attrs ⟨#[102, 111, 114, 109]⟩)) = oForm then namedP l (fndS l[m].attrs ⟨#[102, 111, 114, 109]⟩) else -1) := rfl
      clear hz hI hR h sz hlen hb HB fz N0 hv
      generalize formP l (m : Int) = FP at *
      generalize formC l (m : Int) = FC at *
      generalize saidF l (fndS l[m].attrs ⟨#[102, 111, 114, 109]⟩) = SD at *
      generalize fndS l[m].attrs ⟨#[102, 111, 114, 109]⟩ = fs at *
      generalize (findA l[m].attrs ⟨#[102, 111, 114, 109]⟩).isSome = fb at *
      generalize topP l (m : Int) = tp at *
      generalize upP l (m : Int) ⟨#[102, 111, 114, 109]⟩ = up at *
      generalize namedP l fs = nm at *
      rcases LB with lb | ⟨lb, k20⟩
      · rw [lb] at HL
        generalize kI l (m : Int) = kq at *
        cases fb with
        | false =>
          have E : Hid (FP = up) := by show _ = _; rw [EF.out, EC.out, if_neg (fun q => by cases q.1)]
          go_enter Tryd.func11, Tryd.ntmps11
          go_wp2_with fail
          refine HH.out.mono ?_
          rintro e w1 ⟨rfl, b1⟩
          go_wp2_with fail
          refine (HK.out _ b1).mono ?_
          rintro e w2 ⟨rfl, b2⟩
          have B2 := hide (chain b1 b2)
          go_wp2_with fail
          refine (HL.out _).mono ?_
          rintro e u ⟨rfl, hu⟩
          obtain rfl : w2 = u := hu.symm
          have a2 := cell_below N1.out.attrs B2.out
          go_wp2_with fail
          refine (HA.out _ B2.out).mono ?_
          rintro e u ⟨rfl, hu⟩
          obtain rfl : w2 = u := hu.symm
          go_wp2_with fail
          refine (HU.out _ B2.out).mono ?_
          rintro e u ⟨rfl, hu⟩
          obtain rfl : w2 = u := hu.symm
          go_wp2_with fail
          go_ret
          exact ⟨ret_int E.out.symm, B2.out⟩
        | true =>
          by_cases t0 : tp = 0
          · subst t0
            by_cases n0 : 0 ≤ nm
            · obtain ⟨q, rfl, hq⟩ : ∃ q : Nat, nm = (q : Int) ∧ q < l.length := ⟨nm.toNat, by omega, by have := NR.out nm rfl n0; omega⟩
              obtain ⟨b', o', e', va', vk', M0⟩ := nd_open HN.out hq
              cases e'
              have M1 := hide M0
              have q0 : (0 : Int) ≤ (q : Int) := by omega
              have q1 : (q : Int) < (l.length : Int) := by omega
              have en : nmI l (q : Int) = l[q].name := by unfold nmI; rw [Int.toNat_natCast, nd_at hq]
              have q3 : ¬ (q : Int) < 0 := by omega
              clear M0
              by_cases ff : l[q].name = oForm
              · have E : Hid (FP = (q : Int)) := by show _ = _; rw [EF.out, EC.out, if_pos ⟨rfl, rfl⟩, SF.out, if_pos ⟨n0, by rw [en]; exact ff⟩]
                have fd : (l[q].name.toList == [102, 111, 114, 109]) = true := by rw [lit_decW]; exact decide_eq_true ff
                clear ff en
                go_enter Tryd.func11, Tryd.ntmps11
                go_wp2_with fail
                refine HH.out.mono ?_
                rintro e w1 ⟨rfl, b1⟩
                go_wp2_with fail
                refine (HK.out _ b1).mono ?_
                rintro e w2 ⟨rfl, b2⟩
                have B2 := hide (chain b1 b2)
                go_wp2_with fail
                refine (HL.out _).mono ?_
                rintro e u ⟨rfl, hu⟩
                obtain rfl : w2 = u := hu.symm
                have a2 := cell_below N1.out.attrs B2.out
                go_wp2_with fail
                refine (HA.out _ B2.out).mono ?_
                rintro e u ⟨rfl, hu⟩
                obtain rfl : w2 = u := hu.symm
                go_wp2_with fail
                refine (HT.out _ B2.out).mono ?_
                rintro e u ⟨rfl, hu⟩
                obtain rfl : w2 = u := hu.symm
                go_wp2_with fail
                refine (HBs.out _ B2.out).mono ?_
                rintro e w3 ⟨rfl, b3⟩
                have B3 := hide (chain B2.out b3)
                have a5 := cell_below M1.out.name B3.out
                go_wp2_with fail
                go_ret
                exact ⟨ret_int E.out.symm, B3.out⟩
              · have E : Hid (FP = -1) := by show _ = _; rw [EF.out, EC.out, if_pos ⟨rfl, rfl⟩, SF.out, if_neg (fun t => ff (by rw [← en]; exact t.2))]
                have fd : (l[q].name.toList == [102, 111, 114, 109]) = false := by rw [lit_decW]; exact decide_eq_false ff
                clear ff en
                go_enter Tryd.func11, Tryd.ntmps11
                go_wp2_with fail
                refine HH.out.mono ?_
                rintro e w1 ⟨rfl, b1⟩
                go_wp2_with fail
                refine (HK.out _ b1).mono ?_
                rintro e w2 ⟨rfl, b2⟩
                have B2 := hide (chain b1 b2)
                go_wp2_with fail
                refine (HL.out _).mono ?_
                rintro e u ⟨rfl, hu⟩
                obtain rfl : w2 = u := hu.symm
                have a2 := cell_below N1.out.attrs B2.out
                go_wp2_with fail
                refine (HA.out _ B2.out).mono ?_
                rintro e u ⟨rfl, hu⟩
                obtain rfl : w2 = u := hu.symm
                go_wp2_with fail
                refine (HT.out _ B2.out).mono ?_
                rintro e u ⟨rfl, hu⟩
                obtain rfl : w2 = u := hu.symm
                go_wp2_with fail
                refine (HBs.out _ B2.out).mono ?_
                rintro e w3 ⟨rfl, b3⟩
                have B3 := hide (chain B2.out b3)
                have a5 := cell_below M1.out.name B3.out
                go_wp2_with fail
                go_ret
                exact ⟨ret_int E.out.symm, B3.out⟩
            · have E : Hid (FP = -1) := by show _ = _; rw [EF.out, EC.out, if_pos ⟨rfl, rfl⟩, SF.out, if_neg (fun t => n0 t.1)]
              have d0 : decide (0 ≤ nm) = false := decide_eq_false n0
              go_enter Tryd.func11, Tryd.ntmps11
              go_wp2_with fail
              refine HH.out.mono ?_
              rintro e w1 ⟨rfl, b1⟩
              go_wp2_with fail
              refine (HK.out _ b1).mono ?_
              rintro e w2 ⟨rfl, b2⟩
              have B2 := hide (chain b1 b2)
              go_wp2_with fail
              refine (HL.out _).mono ?_
              rintro e u ⟨rfl, hu⟩
              obtain rfl : w2 = u := hu.symm
              have a2 := cell_below N1.out.attrs B2.out
              go_wp2_with fail
              refine (HA.out _ B2.out).mono ?_
              rintro e u ⟨rfl, hu⟩
              obtain rfl : w2 = u := hu.symm
              go_wp2_with fail
              refine (HT.out _ B2.out).mono ?_
              rintro e u ⟨rfl, hu⟩
              obtain rfl : w2 = u := hu.symm
              go_wp2_with fail
              refine (HBs.out _ B2.out).mono ?_
              rintro e w3 ⟨rfl, b3⟩
              have B3 := hide (chain B2.out b3)
              go_wp2_with fail
              go_ret
              exact ⟨ret_int E.out.symm, B3.out⟩
          · have E : Hid (FP = up) := by show _ = _; rw [EF.out, EC.out, if_neg (fun q => t0 q.2)]
            have tb : (tp == 0) = false := beq_eq_false_iff_ne.2 t0
            go_enter Tryd.func11, Tryd.ntmps11
            go_wp2_with fail
            refine HH.out.mono ?_
            rintro e w1 ⟨rfl, b1⟩
            go_wp2_with fail
            refine (HK.out _ b1).mono ?_
            rintro e w2 ⟨rfl, b2⟩
            have B2 := hide (chain b1 b2)
            go_wp2_with fail
            refine (HL.out _).mono ?_
            rintro e u ⟨rfl, hu⟩
            obtain rfl : w2 = u := hu.symm
            have a2 := cell_below N1.out.attrs B2.out
            go_wp2_with fail
            refine (HA.out _ B2.out).mono ?_
            rintro e u ⟨rfl, hu⟩
            obtain rfl : w2 = u := hu.symm
            go_wp2_with fail
            refine (HT.out _ B2.out).mono ?_
            rintro e u ⟨rfl, hu⟩
            obtain rfl : w2 = u := hu.symm
            go_wp2_with fail
            refine (HU.out _ B2.out).mono ?_
            rintro e u ⟨rfl, hu⟩
            obtain rfl : w2 = u := hu.symm
            go_wp2_with fail
            go_ret
            exact ⟨ret_int E.out.symm, B2.out⟩
      · rw [lb] at HL
        rw [k20] at HL HK
        cases fb with
        | false =>
          have E : Hid (FP = up) := by show _ = _; rw [EF.out, EC.out, if_neg (fun q => by cases q.1)]
          go_enter Tryd.func11, Tryd.ntmps11
          go_wp2_with fail
          refine HH.out.mono ?_
          rintro e w1 ⟨rfl, b1⟩
          go_wp2_with fail
          refine (HK.out _ b1).mono ?_
          rintro e w2 ⟨rfl, b2⟩
          have B2 := hide (chain b1 b2)
          go_wp2_with fail
          refine (HL.out _).mono ?_
          rintro e u ⟨rfl, hu⟩
          obtain rfl : w2 = u := hu.symm
          have a2 := cell_below N1.out.attrs B2.out
          go_wp2_with fail
          refine (HA.out _ B2.out).mono ?_
          rintro e u ⟨rfl, hu⟩
          obtain rfl : w2 = u := hu.symm
          go_wp2_with fail
          refine (HU.out _ B2.out).mono ?_
          rintro e u ⟨rfl, hu⟩
          obtain rfl : w2 = u := hu.symm
          go_wp2_with fail
          go_ret
          exact ⟨ret_int E.out.symm, B2.out⟩
        | true =>
          by_cases t0 : tp = 0
          · subst t0
            by_cases n0 : 0 ≤ nm
            · obtain ⟨q, rfl, hq⟩ : ∃ q : Nat, nm = (q : Int) ∧ q < l.length := ⟨nm.toNat, by omega, by have := NR.out nm rfl n0; omega⟩
              obtain ⟨b', o', e', va', vk', M0⟩ := nd_open HN.out hq
              cases e'
              have M1 := hide M0
              have q0 : (0 : Int) ≤ (q : Int) := by omega
              have q1 : (q : Int) < (l.length : Int) := by omega
              have en : nmI l (q : Int) = l[q].name := by unfold nmI; rw [Int.toNat_natCast, nd_at hq]
              have q3 : ¬ (q : Int) < 0 := by omega
              clear M0
              by_cases ff : l[q].name = oForm
              · have E : Hid (FP = (q : Int)) := by show _ = _; rw [EF.out, EC.out, if_pos ⟨rfl, rfl⟩, SF.out, if_pos ⟨n0, by rw [en]; exact ff⟩]
                have fd : (l[q].name.toList == [102, 111, 114, 109]) = true := by rw [lit_decW]; exact decide_eq_true ff
                clear ff en
                go_enter Tryd.func11, Tryd.ntmps11
                go_wp2_with fail
                refine HH.out.mono ?_
                rintro e w1 ⟨rfl, b1⟩
                go_wp2_with fail
                refine (HK.out _ b1).mono ?_
                rintro e w2 ⟨rfl, b2⟩
                have B2 := hide (chain b1 b2)
                go_wp2_with fail
                refine (HL.out _).mono ?_
                rintro e u ⟨rfl, hu⟩
                obtain rfl : w2 = u := hu.symm
                have a2 := cell_below N1.out.attrs B2.out
                go_wp2_with fail
                refine (HA.out _ B2.out).mono ?_
                rintro e u ⟨rfl, hu⟩
                obtain rfl : w2 = u := hu.symm
                go_wp2_with fail
                refine (HT.out _ B2.out).mono ?_
                rintro e u ⟨rfl, hu⟩
                obtain rfl : w2 = u := hu.symm
                go_wp2_with fail
                refine (HBs.out _ B2.out).mono ?_
                rintro e w3 ⟨rfl, b3⟩
                have B3 := hide (chain B2.out b3)
                have a5 := cell_below M1.out.name B3.out
                go_wp2_with fail
                go_ret
                exact ⟨ret_int E.out.symm, B3.out⟩
              · have E : Hid (FP = -1) := by show _ = _; rw [EF.out, EC.out, if_pos ⟨rfl, rfl⟩, SF.out, if_neg (fun t => ff (by rw [← en]; exact t.2))]
                have fd : (l[q].name.toList == [102, 111, 114, 109]) = false := by rw [lit_decW]; exact decide_eq_false ff
                clear ff en
                go_enter Tryd.func11, Tryd.ntmps11
                go_wp2_with fail
                refine HH.out.mono ?_
                rintro e w1 ⟨rfl, b1⟩
                go_wp2_with fail
                refine (HK.out _ b1).mono ?_
                rintro e w2 ⟨rfl, b2⟩
                have B2 := hide (chain b1 b2)
                go_wp2_with fail
                refine (HL.out _).mono ?_
                rintro e u ⟨rfl, hu⟩
                obtain rfl : w2 = u := hu.symm
                have a2 := cell_below N1.out.attrs B2.out
                go_wp2_with fail
                refine (HA.out _ B2.out).mono ?_
                rintro e u ⟨rfl, hu⟩
                obtain rfl : w2 = u := hu.symm
                go_wp2_with fail
                refine (HT.out _ B2.out).mono ?_
                rintro e u ⟨rfl, hu⟩
                obtain rfl : w2 = u := hu.symm
                go_wp2_with fail
                refine (HBs.out _ B2.out).mono ?_
                rintro e w3 ⟨rfl, b3⟩
                have B3 := hide (chain B2.out b3)
                have a5 := cell_below M1.out.name B3.out
                go_wp2_with fail
                go_ret
                exact ⟨ret_int E.out.symm, B3.out⟩
            · have E : Hid (FP = -1) := by show _ = _; rw [EF.out, EC.out, if_pos ⟨rfl, rfl⟩, SF.out, if_neg (fun t => n0 t.1)]
              have d0 : decide (0 ≤ nm) = false := decide_eq_false n0
              go_enter Tryd.func11, Tryd.ntmps11
              go_wp2_with fail
              refine HH.out.mono ?_
              rintro e w1 ⟨rfl, b1⟩
              go_wp2_with fail
              refine (HK.out _ b1).mono ?_
              rintro e w2 ⟨rfl, b2⟩
              have B2 := hide (chain b1 b2)
              go_wp2_with fail
              refine (HL.out _).mono ?_
              rintro e u ⟨rfl, hu⟩
              obtain rfl : w2 = u := hu.symm
              have a2 := cell_below N1.out.attrs B2.out
              go_wp2_with fail
              refine (HA.out _ B2.out).mono ?_
              rintro e u ⟨rfl, hu⟩
              obtain rfl : w2 = u := hu.symm
              go_wp2_with fail
              refine (HT.out _ B2.out).mono ?_
              rintro e u ⟨rfl, hu⟩
              obtain rfl : w2 = u := hu.symm
              go_wp2_with fail
              refine (HBs.out _ B2.out).mono ?_
              rintro e w3 ⟨rfl, b3⟩
              have B3 := hide (chain B2.out b3)
              go_wp2_with fail
              go_ret
              exact ⟨ret_int E.out.symm, B3.out⟩
          · have E : Hid (FP = up) := by show _ = _; rw [EF.out, EC.out, if_neg (fun q => t0 q.2)]
            have tb : (tp == 0) = false := beq_eq_false_iff_ne.2 t0
            go_enter Tryd.func11, Tryd.ntmps11
            go_wp2_with fail
            refine HH.out.mono ?_
            rintro e w1 ⟨rfl, b1⟩
            go_wp2_with fail
            refine (HK.out _ b1).mono ?_
            rintro e w2 ⟨rfl, b2⟩
            have B2 := hide (chain b1 b2)
            go_wp2_with fail
            refine (HL.out _).mono ?_
            rintro e u ⟨rfl, hu⟩
            obtain rfl : w2 = u := hu.symm
            have a2 := cell_below N1.out.attrs B2.out
            go_wp2_with fail
            refine (HA.out _ B2.out).mono ?_
            rintro e u ⟨rfl, hu⟩
            obtain rfl : w2 = u := hu.symm
            go_wp2_with fail
            refine (HT.out _ B2.out).mono ?_
            rintro e u ⟨rfl, hu⟩
            obtain rfl : w2 = u := hu.symm
            go_wp2_with fail
            refine (HU.out _ B2.out).mono ?_
            rintro e u ⟨rfl, hu⟩
            obtain rfl : w2 = u := hu.symm
            go_wp2_with fail
            go_ret
            exact ⟨ret_int E.out.symm, B2.out⟩

end Go.Proofs.YtoejiojkpbibcaaDoor
