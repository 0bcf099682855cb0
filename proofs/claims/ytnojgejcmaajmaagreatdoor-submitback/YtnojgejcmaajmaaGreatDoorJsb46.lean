/- The document's Fit, Name, Unname, Type of layer 20. What strings.Contains, Cut, Split, CutPrefix, CutSuffix, ReplaceAll answer. -/
import Derived.Test.YtnojgejcmaajmaaGreatDoorJsb45

namespace Go.Proofs.YtnojgejcmaajmaaGreatDoor
open Go.RowKit
set_option maxRecDepth 100000
theorem ext3 (s : ByteArray) (k : Nat) (h : k + 2 < s.size) : (s.extract k (k + 3)).toList = [s[k], s[k + 1], s[k + 2]] := by
  rw [ByteArray.toList_eq]
  have := drop3 s k h
  simp only [ByteArray.data_extract, Array.toList_extract]
  rw [List.extract_eq_take_drop, this]
  have e : k + 3 - k = 3 := by omega
  rw [e]; rfl
set_option maxHeartbeats 4000000 in
theorem refUnname_any (s : ByteArray) (w : World) (hs : s.size ≤ 1099511627776) :
    Calls Tryz.prog 54 #[.string s] w fun e w' => e = .returned (.string (txt (unL (bL s)))) ∧ Below w.heap.size w w' := by
  go_enter Tryz.func54, Tryz.ntmps54
  go_wp2_with fail
  go_loopw [3, 4] (fun ov iv wr => ∃ (k : Nat) (U : List UInt8), k ≤ s.size ∧ iv = .int .i64 k ∧ OwnsB 5 w.heap.size wr ov U ∧ Hid (U ++ unL ((bL s).drop k) = unL (bL s)) ∧ U.length ≤ k ∧ Hid (Below w.heap.size w wr)) (fun _ iv _ => s.size - (intOf iv).toNat)
  case atStart => exact ⟨0, [], Nat.zero_le _, rfl, OwnsB.nil _ _ _, rfl, Nat.le_refl _, Below.refl _ _⟩
  case round =>
    rename World => wr
    obtain ⟨k, U, hk, rfl, OW, HU, lu, BW⟩ := hrel
    have sw := BW.out.size
    by_cases g : k < s.size
    · have k1 : (k : Int) < (s.size : Int) := by omega
      have k0 : (0 : Int) ≤ (k : Int) := by omega
      have D1 := hide (drop1 s k g)
      by_cases g3 : k + 2 < s.size
      · have d2 : decide (2 < (s.size : Int) - (k : Int)) = true := decide_eq_true (by omega)
        have D3 := hide (drop3 s k g3)
        have ET := hide (ext3 s k g3)
        have k3 : (k : Int) + 3 ≤ (s.size : Int) := by omega
        by_cases h0 : [s[k], s[k + 1], s[k + 2]] = [37, 48, 65]
        · have q0 : ((s.extract k (k + 3)).toList == [37, 48, 65]) = true := by rw [ET.out, h0]; rfl
          have UH : Hid (unL ((bL s).drop k) = 10 :: unL ((bL s).drop (k + 3))) := by
            show _ = _
            rw [D3.out]
            rw [unL_some (v := 10) (by
              show escU s[k] s[k + 1] s[k + 2] = _
              injection h0 with a1 a2
              injection a2 with a2 a3
              injection a3 with a3 _
              rw [a1, a2, a3]; rfl)]
            rfl
          clear ET D3 D1
          go_wp2_with (at_builtin; refine wpList_append_byte byteTypesE wr _ rfl _ _ rfl w.heap.size _ U (10 : UInt8) rfl rfl OW rfl (by omega) (by omega) ?_; intro v' w' o' b')
          go_roundw
          case rel => exact ⟨k + 3, U ++ [(10 : UInt8)], by omega, by go_num, o', by show _ = _; rw [← HU.out, UH.out]; simp, by simp only [List.length_append, List.length_cons, List.length_nil]; omega, BW.out.trans b'⟩
          case measure => simp [intOf]; omega
        · have n0 := h0
          clear h0
          by_cases h1 : [s[k], s[k + 1], s[k + 2]] = [37, 48, 68]
          · have q0 : ((s.extract k (k + 3)).toList == [37, 48, 65]) = false := by rw [ET.out, beq_eq_false_iff_ne]; exact n0
            have q1 : ((s.extract k (k + 3)).toList == [37, 48, 68]) = true := by rw [ET.out, h1]; rfl
            have UH : Hid (unL ((bL s).drop k) = 13 :: unL ((bL s).drop (k + 3))) := by
              show _ = _
              rw [D3.out]
              rw [unL_some (v := 13) (by
                show escU s[k] s[k + 1] s[k + 2] = _
                injection h1 with a1 a2
                injection a2 with a2 a3
                injection a3 with a3 _
                rw [a1, a2, a3]; rfl)]
              rfl
            clear ET D3 D1
            go_wp2_with (at_builtin; refine wpList_append_byte byteTypesE wr _ rfl _ _ rfl w.heap.size _ U (13 : UInt8) rfl rfl OW rfl (by omega) (by omega) ?_; intro v' w' o' b')
            go_roundw
            case rel => exact ⟨k + 3, U ++ [(13 : UInt8)], by omega, by go_num, o', by show _ = _; rw [← HU.out, UH.out]; simp, by simp only [List.length_append, List.length_cons, List.length_nil]; omega, BW.out.trans b'⟩
            case measure => simp [intOf]; omega
          · have n1 := h1
            clear h1
            by_cases h2 : [s[k], s[k + 1], s[k + 2]] = [37, 50, 50]
            · have q0 : ((s.extract k (k + 3)).toList == [37, 48, 65]) = false := by rw [ET.out, beq_eq_false_iff_ne]; exact n0
              have q1 : ((s.extract k (k + 3)).toList == [37, 48, 68]) = false := by rw [ET.out, beq_eq_false_iff_ne]; exact n1
              have q2 : ((s.extract k (k + 3)).toList == [37, 50, 50]) = true := by rw [ET.out, h2]; rfl
              have UH : Hid (unL ((bL s).drop k) = 34 :: unL ((bL s).drop (k + 3))) := by
                show _ = _
                rw [D3.out]
                rw [unL_some (v := 34) (by
                  show escU s[k] s[k + 1] s[k + 2] = _
                  injection h2 with a1 a2
                  injection a2 with a2 a3
                  injection a3 with a3 _
                  rw [a1, a2, a3]; rfl)]
                rfl
              clear ET D3 D1
              go_wp2_with (at_builtin; refine wpList_append_byte byteTypesE wr _ rfl _ _ rfl w.heap.size _ U (34 : UInt8) rfl rfl OW rfl (by omega) (by omega) ?_; intro v' w' o' b')
              go_roundw
              case rel => exact ⟨k + 3, U ++ [(34 : UInt8)], by omega, by go_num, o', by show _ = _; rw [← HU.out, UH.out]; simp, by simp only [List.length_append, List.length_cons, List.length_nil]; omega, BW.out.trans b'⟩
              case measure => simp [intOf]; omega
            · have n2 := h2
              clear h2
              have q0 : ((s.extract k (k + 3)).toList == [37, 48, 65]) = false := by rw [ET.out, beq_eq_false_iff_ne]; exact n0
              have q1 : ((s.extract k (k + 3)).toList == [37, 48, 68]) = false := by rw [ET.out, beq_eq_false_iff_ne]; exact n1
              have q2 : ((s.extract k (k + 3)).toList == [37, 50, 50]) = false := by rw [ET.out, beq_eq_false_iff_ne]; exact n2
              have UH : Hid (unL ((bL s).drop k) = s[k] :: unL ((bL s).drop (k + 1))) := by
                show _ = _
                rw [D1.out]
                rw [unL_none (by
                  rw [← D1.out, D3.out]
                  show escU s[k] s[k + 1] s[k + 2] = none
                  unfold escU
                  rw [if_neg (fun t => n0 (by rw [t.1, t.2.1, t.2.2])), if_neg (fun t => n1 (by rw [t.1, t.2.1, t.2.2])), if_neg (fun t => n2 (by rw [t.1, t.2.1, t.2.2]))])]
              clear ET D3 D1
              go_wp2_with (at_builtin; refine wpList_append_byte byteTypesE wr _ rfl _ _ rfl w.heap.size _ U s[k] rfl rfl OW rfl (by omega) (by omega) ?_; intro v' w' o' b')
              go_roundw
              case rel => exact ⟨k + 1, U ++ [s[k]], by omega, by go_num, o', by show _ = _; rw [← HU.out, UH.out]; simp, by simp only [List.length_append, List.length_cons, List.length_nil]; omega, BW.out.trans b'⟩
              case measure => simp [intOf]; omega
      · have d2 : decide (2 < (s.size : Int) - (k : Int)) = false := decide_eq_false (by omega)
        have UH : Hid (unL ((bL s).drop k) = s[k] :: unL ((bL s).drop (k + 1))) := by
          show _ = _
          rw [D1.out, unL_none (headU_short (by rw [List.length_drop, len_bL]; omega))]
        have ET := hide (rfl : k = k)
        have D3 := hide (rfl : k = k)
        clear ET D3 D1
        go_wp2_with (at_builtin; refine wpList_append_byte byteTypesE wr _ rfl _ _ rfl w.heap.size _ U s[k] rfl rfl OW rfl (by omega) (by omega) ?_; intro v' w' o' b')
        go_roundw
        case rel => exact ⟨k + 1, U ++ [s[k]], by omega, by go_num, o', by show _ = _; rw [← HU.out, UH.out]; simp, by simp only [List.length_append, List.length_cons, List.length_nil]; omega, BW.out.trans b'⟩
        case measure => simp [intOf]; omega
    · obtain rfl : k = s.size := by omega
      rw [List.drop_of_length_le (by rw [len_bL]; omega), unL_nil, List.append_nil] at HU
      rw [HU.out] at OW
      have hend := OW.text byteTypesE
      clear HU
      go_wp2_with fail
      go_ret
      exact ⟨rfl, BW.out⟩
end Go.Proofs.YtnojgejcmaajmaaGreatDoor

namespace Go.Proofs.YtnojgejcmaajmaaGreatDoor
open Go.Shelf Go.RowKit
set_option maxRecDepth 100000
theorem split_list (s t : ByteArray) (ht : 0 < t.size) : (Lib.splitB t 0 (Lib.countB s t) s).map (·.data.toList) = splC (bL t) s.size (bL s) := by
  rw [Lib.splitB_data]
  have : bL t ≠ [] := bL_ne ht
  have h := split_c (bL t) this s.size (bL s) (by rw [Lib.size_eq]; exact Nat.le_refl _)
  exact h
theorem splitP_any (s t : ByteArray) (w : World) (hs : s.size ≤ 1073741824) (ht : 0 < t.size) (hm : SomeMax w) :
    Calls Tryz.prog 52 #[.string s, .string t] w fun e w' => ∃ g, e = .returned (.slice (some ⟨g, 0, none⟩) (splC (bL t) s.size (bL s)).length (splC (bL t) s.size (bL s)).length) ∧ w.heap.size ≤ g ∧ PcsAt w' g (splC (bL t) s.size (bL s)) ∧ Below w.heap.size w w' := by
  obtain ⟨m, hm⟩ := hm
  have := Any.strings_Split lays146 (by kernel_rfl) s t m w (by omega) hm ht
  have SL := split_list s t ht
  have LN : (splC (bL t) s.size (bL s)).length = Lib.countB s t + 1 := by
    rw [← SL, List.length_map]
    exact Lib.splitB_all t ht 0 _ s rfl
  rw [← LN] at this
  refine this.mono ?_
  rintro e w' ⟨rfl, rfl⟩
  refine ⟨w.heap.size, rfl, Nat.le_refl _, fun i hi => ?_, (Below.refl _ w).alloc (Nat.le_refl _) _⟩
  refine Lib.pieces_cell_at w _ _ i _ ?_
  have h2 := congrArg (fun l => l[i]?) SL
  simp only [List.getElem?_map] at h2
  rw [List.getElem?_eq_getElem hi] at h2
  cases q : (Lib.splitB t 0 (Lib.countB s t) s)[i]? with
  | none => rw [q] at h2; cases h2
  | some x =>
    rw [q] at h2
    have h2 : some x.data.toList = some (splC (bL t) s.size (bL s))[i] := h2
    rw [← Option.some.inj h2]
    simp [txt]
theorem cutPreP_any (l p : List UInt8) (w : World) :
    Calls Tryz.prog 48 #[.string (txt l), .string (txt p)] w fun e w' => e = .returned (.tuple #[.string (txt (if p.isPrefixOf l then l.drop p.length else l)), .bool (p.isPrefixOf l)]) ∧ w' = w :=
  Any.strings_CutPrefix lays103 (txt l) (txt p) w
theorem cutSufP_any (l p : List UInt8) (w : World) (hs : l.length ≤ 9223372036854775807) :
    Calls Tryz.prog 49 #[.string (txt l), .string (txt p)] w fun e w' => e = .returned (.tuple #[.string (txt (if p.isSuffixOf l then l.take (l.length - p.length) else l)), .bool (p.isSuffixOf l)]) ∧ w' = w :=
  Any.strings_CutSuffix lays104 (txt l) (txt p) w hs

end Go.Proofs.YtnojgejcmaajmaaGreatDoor
