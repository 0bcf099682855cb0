/- The document's Server and Absolute of layer 8: they answer by the functions of 'Link'; what lay in the world lies there still. Condition: texts of at most 2^20 bytes. -/
import Derived.Test.YtkllknfgojjphaaDoorLinkRef5
namespace Go.Proofs.YtkllknfgojjphaaDoor
open Go.RowKit

theorem port_yes {l : List UInt8} {k : Nat} (h : lastL 58 l = k) (h2 : lastL 93 l < lastL 58 l) : portL l = (portOk (l.drop (k + 1)) && hostL (l.take k)) := by
  unfold portL
  rw [if_pos h2, h]; rfl
theorem port_no {l : List UInt8} (h2 : ¬ lastL 93 l < lastL 58 l) : portL l = hostL l := by
  unfold portL
  rw [if_neg h2]
theorem srv_no {l : List UInt8} (h : ¬ 0 ≤ lastL 64 l) : serverL l = portL l := by unfold serverL; rw [if_neg h]
theorem srv_yes {l : List UInt8} {k : Nat} (h : lastL 64 l = k) : serverL l = (fineL (l.take k) && (decide ((firstL 64 l : Int) = k) && portL (l.drop (k + 1)))) := by
  unfold serverL
  rw [if_pos (by omega), h]; rfl
theorem portOk_parts (p : List UInt8) : portOk p = (p.isEmpty || (digitsL p && decide (valueL p ≤ 65535))) := rfl
theorem empty_size (t : ByteArray) : t.data.toList.isEmpty = decide (t.size = 0) := by
  have hl : t.data.toList.length = t.size := by simp
  cases e : t.data.toList with
  | nil => rw [e] at hl; rw [decide_eq_true (by simpa using hl.symm)]; rfl
  | cons => rw [e] at hl; rw [decide_eq_false (by simp at hl; omega)]; rfl
theorem sub_end (s : ByteArray) (k : Nat) : (s.extract k s.size).data.toList = s.data.toList.drop k := by rw [slice_cut, List.take_of_length_le (by simp)]
theorem sub_head (s : ByteArray) (k : Nat) : (s.extract 0 k).data.toList = s.data.toList.take k := by rw [slice_cut, List.drop_zero]

set_option maxHeartbeats 2000000 in
set_option maxRecDepth 100000 in
theorem refServer_any (t : ByteArray) (w : World) (ht : t.size ≤ 1048576) :
    Calls Tryd.prog 43 #[.string t] w fun e w' => e = .returned (.bool (serverL t.data.toList)) ∧ Below w.heap.size w w' := by
  have L64 := hide (fun w => refLast_any t 64 w ht)
  have g64 := last_ge 64 t.data.toList
  have l64 := last_lt 64 t.data.toList
  have htl0 : t.data.toList.length = t.size := by simp
  rw [htl0] at l64
  clear htl0
  by_cases h64 : 0 ≤ lastL 64 t.data.toList
  · obtain ⟨m, hm⟩ : ∃ m : Nat, lastL 64 t.data.toList = m := ⟨(lastL 64 t.data.toList).toNat, by omega⟩
    have E0 := srv_yes hm
    rw [hm] at L64 l64
    have hmt : m < t.size := by omega
    rw [← sub_head] at E0
    have HF := hide (fun w => refFine_any (t.extract 0 m) w (by rw [ByteArray.size_extract]; omega))
    have HI := hide (fun w => refFirst_any t 64 w ht)
    clear g64 h64 hm
    generalize serverL t.data.toList = R at *
    cases hf : fineL (t.extract 0 m).data.toList with
    | false =>
      rw [hf] at HF
      rw [hf, Bool.false_and] at E0
      replace E0 := hide E0
      clear hf HI
      go_enter Tryd.func43, Tryd.ntmps43
      go_wp2_with fail
      refine (L64.out _).mono ?_
      rintro e uu ⟨rfl, rfl⟩
      go_wp2_with fail
      refine (HF.out _).mono ?_
      rintro e w1 ⟨rfl, b1⟩
      go_wp2_with fail
      go_ret
      exact ⟨ret_bool E0.out.symm, b1⟩
    | true =>
      rw [hf] at HF
      rw [hf, Bool.true_and] at E0
      clear hf
      by_cases hi : ((firstL 64 t.data.toList : Nat) : Int) = m
      · rw [decide_eq_true hi, Bool.true_and] at E0
        have hii : (((firstL 64 t.data.toList : Nat) : Int) != (m : Int)) = false := by rw [hi]; simp
        generalize ((firstL 64 t.data.toList : Nat) : Int) = fi at *
        obtain ⟨x, et⟩ : ∃ x, t.extract (m + 1) t.size = x := ⟨_, rfl⟩
        have hx : x.size ≤ 1048576 := by rw [← et, ByteArray.size_extract]; omega
        rw [← sub_end, et] at E0
        clear hi
        have L58 := hide (fun w => refLast_any x 58 w hx)
        have L93 := hide (fun w => refLast_any x 93 w hx)
        have g58 := last_ge 58 x.data.toList
        have l58 := last_lt 58 x.data.toList
        have g93 := last_ge 93 x.data.toList
        have l93 := last_lt 93 x.data.toList
        have hxl : x.data.toList.length = x.size := by simp
        rw [hxl] at l58 l93
        have HH := hide (fun w => refHost_any x w hx)
        by_cases hp : lastL 93 x.data.toList < lastL 58 x.data.toList
        · obtain ⟨k, hk⟩ : ∃ k : Nat, lastL 58 x.data.toList = k := ⟨(lastL 58 x.data.toList).toNat, by omega⟩
          have E2 := E0.trans (port_yes hk hp)
          rw [hk] at L58 hp l58 g58
          have hkt : k < x.size := by omega
          rw [← sub_end, ← sub_head] at E2
          have HHk := hide (fun w => refHost_any (x.extract 0 k) w (by rw [ByteArray.size_extract]; omega))
          obtain ⟨p, ep⟩ : ∃ p, x.extract (k + 1) x.size = p := ⟨_, rfl⟩
          have hps : p.size ≤ 1048576 := by rw [← ep, ByteArray.size_extract]; omega
          have hpz : p.size = x.size - (k + 1) := by rw [← ep, ByteArray.size_extract]; omega
          rw [ep, portOk_parts, empty_size] at E2
          have HG := hide (fun w => refDigs_any p w hps)
          generalize lastL 93 x.data.toList = q93 at *
          have hgt : q93 < (k : Int) := by omega
          clear E0 hk HH
          by_cases pz : p.size = 0
          · have pzi : ¬ (0 : Int) < (p.size : Int) := by omega
            rw [decide_eq_true pz, Bool.true_or, Bool.true_and] at E2
            replace E2 := hide E2
            generalize hostL (x.extract 0 k).data.toList = r at *
            clear HG pz hpz
            go_enter Tryd.func43, Tryd.ntmps43
            go_wp2_with fail
            refine (L64.out _).mono ?_
            rintro e uu ⟨rfl, rfl⟩
            go_wp2_with fail
            refine (HF.out _).mono ?_
            rintro e w1 ⟨rfl, b1⟩
            go_wp2_with fail
            refine (HI.out _).mono ?_
            rintro e uu ⟨rfl, rfl⟩
            go_wp2_with fail
            refine (L58.out _).mono ?_
            rintro e uu ⟨rfl, rfl⟩
            go_wp2_with fail
            refine (L93.out _).mono ?_
            rintro e uu ⟨rfl, rfl⟩
            skip
            go_wp2_with fail
            refine (HHk.out _).mono ?_
            rintro e w9 ⟨rfl, b9⟩
            go_wp2_with fail
            go_ret
            exact ⟨ret_bool E2.out.symm, chain b1 b9⟩
          · have pzi : (0 : Int) < (p.size : Int) := by omega
            rw [decide_eq_false pz, Bool.false_or] at E2
            clear pz hpz
            cases hdg : digitsL p.data.toList with
            | false =>
              rw [hdg] at HG
              rw [hdg, Bool.false_and, Bool.false_and] at E2
              replace E2 := hide E2
              clear hdg HHk
              go_enter Tryd.func43, Tryd.ntmps43
              go_wp2_with fail
              refine (L64.out _).mono ?_
              rintro e uu ⟨rfl, rfl⟩
              go_wp2_with fail
              refine (HF.out _).mono ?_
              rintro e w1 ⟨rfl, b1⟩
              go_wp2_with fail
              refine (HI.out _).mono ?_
              rintro e uu ⟨rfl, rfl⟩
              go_wp2_with fail
              refine (L58.out _).mono ?_
              rintro e uu ⟨rfl, rfl⟩
              go_wp2_with fail
              refine (L93.out _).mono ?_
              rintro e uu ⟨rfl, rfl⟩
              skip
              go_wp2_with fail
              refine (HG.out _).mono ?_
              rintro e uu ⟨rfl, rfl⟩
              go_wp2_with fail
              go_ret
              exact ⟨ret_bool E2.out.symm, b1⟩
            | true =>
              have HVl := hide (fun w => refValue_any p w hps (digits_all hdg))
              rw [hdg] at HG
              rw [hdg, Bool.true_and] at E2
              generalize valueL p.data.toList = vv at *
              clear hdg
              by_cases q5 : vv ≤ 65535
              · have q5i : ¬ (65535 : Int) < (vv : Int) := by omega
                rw [decide_eq_true q5, Bool.true_and] at E2
                replace E2 := hide E2
                generalize hostL (x.extract 0 k).data.toList = r at *
                clear q5
                go_enter Tryd.func43, Tryd.ntmps43
                go_wp2_with fail
                refine (L64.out _).mono ?_
                rintro e uu ⟨rfl, rfl⟩
                go_wp2_with fail
                refine (HF.out _).mono ?_
                rintro e w1 ⟨rfl, b1⟩
                go_wp2_with fail
                refine (HI.out _).mono ?_
                rintro e uu ⟨rfl, rfl⟩
                go_wp2_with fail
                refine (L58.out _).mono ?_
                rintro e uu ⟨rfl, rfl⟩
                go_wp2_with fail
                refine (L93.out _).mono ?_
                rintro e uu ⟨rfl, rfl⟩
                skip
                go_wp2_with fail
                refine (HG.out _).mono ?_
                rintro e uu ⟨rfl, rfl⟩
                go_wp2_with fail
                refine (HVl.out _).mono ?_
                rintro e uu ⟨rfl, rfl⟩
                go_wp2_with fail
                refine (HHk.out _).mono ?_
                rintro e w9 ⟨rfl, b9⟩
                go_wp2_with fail
                go_ret
                exact ⟨ret_bool E2.out.symm, chain b1 b9⟩
              · have q5i : (65535 : Int) < (vv : Int) := by omega
                rw [decide_eq_false q5, Bool.false_and] at E2
                replace E2 := hide E2
                clear q5 HHk
                go_enter Tryd.func43, Tryd.ntmps43
                go_wp2_with fail
                refine (L64.out _).mono ?_
                rintro e uu ⟨rfl, rfl⟩
                go_wp2_with fail
                refine (HF.out _).mono ?_
                rintro e w1 ⟨rfl, b1⟩
                go_wp2_with fail
                refine (HI.out _).mono ?_
                rintro e uu ⟨rfl, rfl⟩
                go_wp2_with fail
                refine (L58.out _).mono ?_
                rintro e uu ⟨rfl, rfl⟩
                go_wp2_with fail
                refine (L93.out _).mono ?_
                rintro e uu ⟨rfl, rfl⟩
                skip
                go_wp2_with fail
                refine (HG.out _).mono ?_
                rintro e uu ⟨rfl, rfl⟩
                go_wp2_with fail
                refine (HVl.out _).mono ?_
                rintro e uu ⟨rfl, rfl⟩
                go_wp2_with fail
                go_ret
                exact ⟨ret_bool E2.out.symm, b1⟩
        · have E2 := hide (E0.trans (port_no hp))
          generalize lastL 93 x.data.toList = q93 at *
          generalize lastL 58 x.data.toList = q58 at *
          have hgt : ¬ q93 < q58 := hp
          have hge : q58 ≤ q93 := by omega
          generalize hostL x.data.toList = r at *
          clear E0 hp
          go_enter Tryd.func43, Tryd.ntmps43
          go_wp2_with fail
          refine (L64.out _).mono ?_
          rintro e uu ⟨rfl, rfl⟩
          go_wp2_with fail
          refine (HF.out _).mono ?_
          rintro e w1 ⟨rfl, b1⟩
          go_wp2_with fail
          refine (HI.out _).mono ?_
          rintro e uu ⟨rfl, rfl⟩
          go_wp2_with fail
          refine (L58.out _).mono ?_
          rintro e uu ⟨rfl, rfl⟩
          go_wp2_with fail
          refine (L93.out _).mono ?_
          rintro e uu ⟨rfl, rfl⟩
          go_wp2_with fail
          refine (HH.out _).mono ?_
          rintro e w9 ⟨rfl, b9⟩
          go_wp2_with fail
          go_ret
          exact ⟨ret_bool E2.out.symm, chain b1 b9⟩
      · rw [decide_eq_false hi, Bool.false_and] at E0
        have hii : (((firstL 64 t.data.toList : Nat) : Int) != (m : Int)) = true := by rw [bne_iff_ne]; exact hi
        replace E0 := hide E0
        generalize ((firstL 64 t.data.toList : Nat) : Int) = fi at *
        clear hi
        go_enter Tryd.func43, Tryd.ntmps43
        go_wp2_with fail
        refine (L64.out _).mono ?_
        rintro e uu ⟨rfl, rfl⟩
        go_wp2_with fail
        refine (HF.out _).mono ?_
        rintro e w1 ⟨rfl, b1⟩
        go_wp2_with fail
        refine (HI.out _).mono ?_
        rintro e uu ⟨rfl, rfl⟩
        go_wp2_with fail
        go_ret
        exact ⟨ret_bool E0.out.symm, b1⟩
  · have E := srv_no h64
    generalize serverL t.data.toList = R at *
    generalize lastL 64 t.data.toList = q64 at *
    have h64i : q64 < 0 := by omega
    clear h64 g64
    have L58 := hide (fun w => refLast_any t 58 w ht)
    have L93 := hide (fun w => refLast_any t 93 w ht)
    have g58 := last_ge 58 t.data.toList
    have l58 := last_lt 58 t.data.toList
    have g93 := last_ge 93 t.data.toList
    have l93 := last_lt 93 t.data.toList
    have htl : t.data.toList.length = t.size := by simp
    rw [htl] at l58 l93
    have HH := hide (fun w => refHost_any t w ht)
    by_cases hp : lastL 93 t.data.toList < lastL 58 t.data.toList
    · obtain ⟨k, hk⟩ : ∃ k : Nat, lastL 58 t.data.toList = k := ⟨(lastL 58 t.data.toList).toNat, by omega⟩
      have E2 := E.trans (port_yes hk hp)
      rw [hk] at L58 hp l58 g58
      have hkt : k < t.size := by omega
      rw [← sub_end, ← sub_head] at E2
      have HHk := hide (fun w => refHost_any (t.extract 0 k) w (by rw [ByteArray.size_extract]; omega))
      obtain ⟨p, ep⟩ : ∃ p, t.extract (k + 1) t.size = p := ⟨_, rfl⟩
      have hps : p.size ≤ 1048576 := by rw [← ep, ByteArray.size_extract]; omega
      have hpz : p.size = t.size - (k + 1) := by rw [← ep, ByteArray.size_extract]; omega
      rw [ep, portOk_parts, empty_size] at E2
      have HG := hide (fun w => refDigs_any p w hps)
      generalize lastL 93 t.data.toList = q93 at *
      have hgt : q93 < (k : Int) := by omega
      clear E hk HH
      by_cases pz : p.size = 0
      · have pzi : ¬ (0 : Int) < (p.size : Int) := by omega
        rw [decide_eq_true pz, Bool.true_or, Bool.true_and] at E2
        replace E2 := hide E2
        generalize hostL (t.extract 0 k).data.toList = r at *
        clear HG pz hpz
        go_enter Tryd.func43, Tryd.ntmps43
        go_wp2_with fail
        refine (L64.out _).mono ?_
        rintro e uu ⟨rfl, rfl⟩
        go_wp2_with fail
        refine (L58.out _).mono ?_
        rintro e uu ⟨rfl, rfl⟩
        go_wp2_with fail
        refine (L93.out _).mono ?_
        rintro e uu ⟨rfl, rfl⟩
        skip
        go_wp2_with fail
        refine (HHk.out _).mono ?_
        rintro e w9 ⟨rfl, b9⟩
        go_wp2_with fail
        go_ret
        exact ⟨ret_bool E2.out.symm, b9⟩
      · have pzi : (0 : Int) < (p.size : Int) := by omega
        rw [decide_eq_false pz, Bool.false_or] at E2
        clear pz hpz
        cases hdg : digitsL p.data.toList with
        | false =>
          rw [hdg] at HG
          rw [hdg, Bool.false_and, Bool.false_and] at E2
          replace E2 := hide E2
          clear hdg HHk
          go_enter Tryd.func43, Tryd.ntmps43
          go_wp2_with fail
          refine (L64.out _).mono ?_
          rintro e uu ⟨rfl, rfl⟩
          go_wp2_with fail
          refine (L58.out _).mono ?_
          rintro e uu ⟨rfl, rfl⟩
          go_wp2_with fail
          refine (L93.out _).mono ?_
          rintro e uu ⟨rfl, rfl⟩
          skip
          go_wp2_with fail
          refine (HG.out _).mono ?_
          rintro e uu ⟨rfl, rfl⟩
          go_wp2_with fail
          go_ret
          exact ⟨ret_bool E2.out.symm, Below.refl _ _⟩
        | true =>
          have HVl := hide (fun w => refValue_any p w hps (digits_all hdg))
          rw [hdg] at HG
          rw [hdg, Bool.true_and] at E2
          generalize valueL p.data.toList = vv at *
          clear hdg
          by_cases q5 : vv ≤ 65535
          · have q5i : ¬ (65535 : Int) < (vv : Int) := by omega
            rw [decide_eq_true q5, Bool.true_and] at E2
            replace E2 := hide E2
            generalize hostL (t.extract 0 k).data.toList = r at *
            clear q5
            go_enter Tryd.func43, Tryd.ntmps43
            go_wp2_with fail
            refine (L64.out _).mono ?_
            rintro e uu ⟨rfl, rfl⟩
            go_wp2_with fail
            refine (L58.out _).mono ?_
            rintro e uu ⟨rfl, rfl⟩
            go_wp2_with fail
            refine (L93.out _).mono ?_
            rintro e uu ⟨rfl, rfl⟩
            skip
            go_wp2_with fail
            refine (HG.out _).mono ?_
            rintro e uu ⟨rfl, rfl⟩
            go_wp2_with fail
            refine (HVl.out _).mono ?_
            rintro e uu ⟨rfl, rfl⟩
            go_wp2_with fail
            refine (HHk.out _).mono ?_
            rintro e w9 ⟨rfl, b9⟩
            go_wp2_with fail
            go_ret
            exact ⟨ret_bool E2.out.symm, b9⟩
          · have q5i : (65535 : Int) < (vv : Int) := by omega
            rw [decide_eq_false q5, Bool.false_and] at E2
            replace E2 := hide E2
            clear q5 HHk
            go_enter Tryd.func43, Tryd.ntmps43
            go_wp2_with fail
            refine (L64.out _).mono ?_
            rintro e uu ⟨rfl, rfl⟩
            go_wp2_with fail
            refine (L58.out _).mono ?_
            rintro e uu ⟨rfl, rfl⟩
            go_wp2_with fail
            refine (L93.out _).mono ?_
            rintro e uu ⟨rfl, rfl⟩
            skip
            go_wp2_with fail
            refine (HG.out _).mono ?_
            rintro e uu ⟨rfl, rfl⟩
            go_wp2_with fail
            refine (HVl.out _).mono ?_
            rintro e uu ⟨rfl, rfl⟩
            go_wp2_with fail
            go_ret
            exact ⟨ret_bool E2.out.symm, Below.refl _ _⟩
    · have E2 := hide (E.trans (port_no hp))
      generalize lastL 93 t.data.toList = q93 at *
      generalize lastL 58 t.data.toList = q58 at *
      have hgt : ¬ q93 < q58 := hp
      have hge : q58 ≤ q93 := by omega
      generalize hostL t.data.toList = r at *
      clear E hp
      go_enter Tryd.func43, Tryd.ntmps43
      go_wp2_with fail
      refine (L64.out _).mono ?_
      rintro e uu ⟨rfl, rfl⟩
      go_wp2_with fail
      refine (L58.out _).mono ?_
      rintro e uu ⟨rfl, rfl⟩
      go_wp2_with fail
      refine (L93.out _).mono ?_
      rintro e uu ⟨rfl, rfl⟩
      go_wp2_with fail
      refine (HH.out _).mono ?_
      rintro e w9 ⟨rfl, b9⟩
      go_wp2_with fail
      go_ret
      exact ⟨ret_bool E2.out.symm, b9⟩
end Go.Proofs.YtkllknfgojjphaaDoor
