/- The document's Fit, Name, Unname, Type of layer 20. The document's Encode, Split of layer 21. Stage 21's law PlainSplits, walked, and the statements' own same. -/
import Derived.Test.YtmnpnpmopbkabaaJpn17
import Derived.Test.YtmnpnpmopbkabaaJpn20
import Derived.Test.YtmnpnpmopbkabaaJpn22

namespace Go.Proofs.Ytmnpnpmopbkabaa
open Go.RowKit
set_option maxRecDepth 100000
theorem at_bL {s : ByteArray} {k : Nat} (h : k < s.size) : (bL s)[k]'(by simpa using h) = s[k] := by
  show s.data.toList[k]'(by simpa using h) = s[k]
  simp; rfl
theorem byte_is {c : UInt8} {n : Nat} (hn : n < 256) (h : (c.toNat : Int) = n) : c = UInt8.ofNat n := by
  apply UInt8.toNat_inj.1
  rw [UInt8.toNat_ofNat']
  omega
end Go.Proofs.Ytmnpnpmopbkabaa

namespace Go.Proofs.Ytmnpnpmopbkabaa
open Go.RowKit
set_option maxRecDepth 100000
/-- The way through a text's lines. -/
def LnAt (s : ByteArray) (q k : Nat) (done : List (List UInt8)) : Prop := done ++ lnA (((bL s).drop q).take (k - q)) ((bL s).drop k) = linN (bL s)
theorem sub_next {s : ByteArray} {q k : Nat} (h : q ≤ k) (hk : k < s.size) : ((bL s).drop q).take (k + 1 - q) = ((bL s).drop q).take (k - q) ++ [s[k]] := by
  have hl : k - q < ((bL s).drop q).length := by rw [List.length_drop, len_bL]; omega
  rw [show k + 1 - q = (k - q) + 1 by omega, List.take_succ_eq_append_getElem hl]
  congr 2
  rw [List.getElem_drop]
  have : (bL s)[q + (k - q)]'(by rw [len_bL]; omega) = (bL s)[k]'(by rw [len_bL]; exact hk) := by congr 1; omega
  rw [this]; exact at_bL hk
theorem sub_self {s : ByteArray} (k : Nat) : ((bL s).drop k).take (k - k) = [] := by rw [Nat.sub_self, List.take_zero]
theorem ext_txtN (s : ByteArray) (k j : Nat) : s.extract k j = txt (((bL s).drop k).take (j - k)) := by
  apply ByteArray.ext
  show _ = (((bL s).drop k).take (j - k)).toArray
  apply Array.ext'
  simp only [ByteArray.data_extract, Array.toList_extract]
set_option maxHeartbeats 8000000 in
theorem refSplit21_any (s : ByteArray) (w : World) (hs : s.size ≤ 1099511627776) :
    Calls Try.prog 12 #[.string s] w fun e w' => ∃ v', e = .returned v' ∧ OwnsT 9 w.heap.size w' v' (linN (bL s)) ∧ Below w.heap.size w w' := by
  go_enter Try.func12, Try.ntmps12
  go_wp2_with fail
  go_loopw [3, 4, 5] (fun ov qv kv wr => ∃ (q k : Nat) (done : List (List UInt8)), q ≤ k ∧ k ≤ s.size ∧ qv = .int .i64 q ∧ kv = .int .i64 k ∧ Hid (LnAt s q k done) ∧ done.length ≤ k ∧ OwnsT 9 w.heap.size wr ov done ∧ Hid (Below w.heap.size w wr)) (fun _ _ kv _ => s.size - (intOf kv).toNat)
  case atStart => exact ⟨0, 0, [], Nat.le_refl _, Nat.zero_le _, rfl, rfl, rfl, Nat.le_refl _, OwnsT.nil _ _ _, Below.refl _ _⟩
  case round =>
    rename World => wr
    obtain ⟨q, k, done, qk, hk, rfl, rfl, HL, dk, OW, BW⟩ := hrel
    have sw := BW.out.size
    have q0 : (0 : Int) ≤ (q : Int) := by omega
    have k0 : (0 : Int) ≤ (k : Int) := by omega
    have qk1 : (q : Int) ≤ (k : Int) := by omega
    have kz : (k : Int) ≤ (s.size : Int) := by omega
    have HX := hide (ext_txtN s q k)
    by_cases g : k < s.size
    · have k1 : (k : Int) < (s.size : Int) := by omega
      have D : Hid ((bL s).drop k = s[k] :: (bL s).drop (k + 1)) := drop1 s k g
      by_cases a : (s[k].toNat : Int) = 10
      · have e1 : ((s[k].toNat : Int) != 10) = false := by rw [a]; rfl
        have e2 : ((s[k].toNat : Int) == 13) = false := by rw [a]; rfl
        have hc : s[k] = 10 := byte_is (n := 10) (by omega) a
        have HN : Hid (LnAt s (k + 1) (k + 1) (done ++ [((bL s).drop q).take (k - q)])) := by
          have h := HL.out
          unfold LnAt at h
          rw [D.out, hc, ln_10] at h
          show LnAt _ _ _ _
          unfold LnAt
          rw [sub_self, ← h]
          simp
        clear HL D a hc
        go_wp2_with (at_builtin; refine wpList_append_item textTypesN _ _ rfl _ _ rfl w.heap.size _ _ (((bL s).drop q).take (k - q)) HX.out rfl OW rfl (by omega) (by omega) ?_; intro v' w' o' b')
        go_roundw
        case rel => exact ⟨k + 1, k + 1, done ++ [((bL s).drop q).take (k - q)], by omega, by omega, by go_num, by go_num, HN, by rw [List.length_append]; show _ + 1 ≤ _; omega, o', BW.out.trans b'⟩
        case measure => simp [intOf]; omega
      · have e1 : ((s[k].toNat : Int) != 10) = true := bne_iff_ne.2 a
        by_cases b : (s[k].toNat : Int) = 13
        · have e2 : ((s[k].toNat : Int) != 13) = false := by rw [b]; rfl
          have e3 : ((s[k].toNat : Int) == 13) = true := by rw [b]; rfl
          have hc : s[k] = 13 := byte_is (n := 13) (by omega) b
          by_cases g2 : k + 1 < s.size
          · have d1 : decide ((k : Int) + 1 < (s.size : Int)) = true := decide_eq_true (by omega)
            have k2 : (k : Int) + 1 < (s.size : Int) := by omega
            have D2 : Hid ((bL s).drop (k + 1) = s[k + 1] :: (bL s).drop (k + 2)) := drop1 s (k + 1) g2
            by_cases f : (s[k + 1].toNat : Int) = 10
            · have e4 : ((s[k + 1].toNat : Int) == 10) = true := by rw [f]; rfl
              have hf : s[k + 1] = 10 := byte_is (n := 10) (by omega) f
              have HN : Hid (LnAt s (k + 1 + 1) (k + 1 + 1) (done ++ [((bL s).drop q).take (k - q)])) := by
                have h := HL.out
                unfold LnAt at h
                rw [D.out, D2.out, hc, hf, ln_1310] at h
                show LnAt _ _ _ _
                unfold LnAt
                rw [sub_self, ← h]
                simp
              clear HL D D2 a b hc f hf
              go_wp2_with (at_builtin; refine wpList_append_item textTypesN _ _ rfl _ _ rfl w.heap.size _ _ (((bL s).drop q).take (k - q)) HX.out rfl OW rfl (by omega) (by omega) ?_; intro v' w' o' b')
              go_roundw
              case rel => exact ⟨k + 1 + 1, k + 1 + 1, done ++ [((bL s).drop q).take (k - q)], by omega, by omega, by go_num, by go_num, HN, by rw [List.length_append]; show _ + 1 ≤ _; omega, o', BW.out.trans b'⟩
              case measure => simp [intOf]; omega
            · have e4 : ((s[k + 1].toNat : Int) == 10) = false := beq_eq_false_iff_ne.2 f
              have HN : Hid (LnAt s (k + 1) (k + 1) (done ++ [((bL s).drop q).take (k - q)])) := by
                have h := HL.out
                unfold LnAt at h
                have nh : ((bL s).drop (k + 1)).head? ≠ some 10 := by
                  rw [D2.out]
                  intro t
                  have t2 : s[k + 1] = 10 := by simpa using t
                  exact f (by rw [t2]; rfl)
                rw [D.out, hc, ln_13 nh] at h
                show LnAt _ _ _ _
                unfold LnAt
                rw [sub_self, ← h]
                simp
              clear HL D D2 a b hc f
              go_wp2_with (at_builtin; refine wpList_append_item textTypesN _ _ rfl _ _ rfl w.heap.size _ _ (((bL s).drop q).take (k - q)) HX.out rfl OW rfl (by omega) (by omega) ?_; intro v' w' o' b')
              go_roundw
              case rel => exact ⟨k + 1, k + 1, done ++ [((bL s).drop q).take (k - q)], by omega, by omega, by go_num, by go_num, HN, by rw [List.length_append]; show _ + 1 ≤ _; omega, o', BW.out.trans b'⟩
              case measure => simp [intOf]; omega
          · have d1 : decide ((k : Int) + 1 < (s.size : Int)) = false := decide_eq_false (by omega)
            have HN : Hid (LnAt s (k + 1) (k + 1) (done ++ [((bL s).drop q).take (k - q)])) := by
              have h := HL.out
              unfold LnAt at h
              rw [D.out, hc, ln_13 (by rw [List.drop_of_length_le (by rw [len_bL]; omega)]; simp)] at h
              show LnAt _ _ _ _
              unfold LnAt
              rw [sub_self, ← h]
              simp
            clear HL D a b hc
            go_wp2_with (at_builtin; refine wpList_append_item textTypesN _ _ rfl _ _ rfl w.heap.size _ _ (((bL s).drop q).take (k - q)) HX.out rfl OW rfl (by omega) (by omega) ?_; intro v' w' o' b')
            go_roundw
            case rel => exact ⟨k + 1, k + 1, done ++ [((bL s).drop q).take (k - q)], by omega, by omega, by go_num, by go_num, HN, by rw [List.length_append]; show _ + 1 ≤ _; omega, o', BW.out.trans b'⟩
            case measure => simp [intOf]; omega
        · have e2 : ((s[k].toNat : Int) != 13) = true := bne_iff_ne.2 b
          have HN : Hid (LnAt s q (k + 1) done) := by
            have h := HL.out
            unfold LnAt at h
            rw [D.out, ln_byte (fun t => a (by rw [t]; rfl)) (fun t => b (by rw [t]; rfl)), ← sub_next qk g] at h
            exact h
          clear HL D a b
          go_wp2_with fail
          go_roundw
          case rel => exact ⟨q, k + 1, done, by omega, by omega, rfl, by go_num, HN, by omega, OW, BW⟩
          case measure => simp [intOf]; omega
    · obtain rfl : k = s.size := by omega
      have h := HL.out
      unfold LnAt at h
      rw [List.drop_of_length_le (l := bL s) (i := s.size) (by rw [len_bL]; omega), ln_nil] at h
      have sl : (((bL s).drop q).take (s.size - q)).length = s.size - q := by rw [List.length_take, List.length_drop, len_bL]; omega
      by_cases gq : q < s.size
      · have d1 : decide ((q : Int) < (s.size : Int)) = true := decide_eq_true (by omega)
        rw [if_neg (fun t => by rw [t] at sl; simp at sl; omega)] at h
        have HN := hide h
        clear HL h sl
        go_wp2_with (at_builtin; refine wpList_append_item textTypesN _ _ rfl _ _ rfl w.heap.size _ _ (((bL s).drop q).take (s.size - q)) HX.out rfl OW rfl (by omega) (by omega) ?_; intro v' w' o' b')
        go_ret
        exact ⟨_, rfl, by rw [← HN.out]; exact o', BW.out.trans b'⟩
      · have d1 : decide ((q : Int) < (s.size : Int)) = false := decide_eq_false (by omega)
        rw [if_pos (List.eq_nil_of_length_eq_zero (by rw [sl]; omega)), List.append_nil] at h
        have HN := hide h
        clear HL h sl
        go_wp2_with fail
        go_ret
        exact ⟨_, rfl, by rw [← HN.out]; exact OW, BW.out⟩
end Go.Proofs.Ytmnpnpmopbkabaa

namespace Go.Proofs.Ytmnpnpmopbkabaa
open Go.RowKit
set_option maxRecDepth 100000
theorem refSplit21_draws (s : ByteArray) (w : World) (hs : s.size ≤ 1099511627776) :
    Calls Try.prog 12 #[.string s] w fun e w' => ∃ v', e = .returned v' ∧ DrawsV w' v' ((linN (bL s)).map txt) ∧ Below w.heap.size w w' :=
  (refSplit21_any s w hs).mono fun _ _ ⟨v', h1, h2, h3⟩ => ⟨v', h1, draws_ownN h2, h3⟩
set_option maxHeartbeats 8000000 in
theorem plainSplits_walk (s : ByteArray) (w : World) (hz : s.size ≤ maxLen) (hT : PlTabs w) :
    Calls Try.prog 4 #[.string s] w fun e w' => e = .returned (.bool true) ∧ Below w.heap.size w w' := by
  have HW := hide (plWakes_any w hT)
  have hz' : s.size ≤ 9223372036854775807 := hz
  clear hz
  by_cases hb : 8192 < s.size
  · have d : decide (8192 < (s.size : Int)) = true := decide_eq_true (by omega)
    clear hT hb
    go_enter Try.func4, Try.ntmps4
    go_wp2_with fail
    refine HW.out.mono ?_
    rintro e w1 ⟨rfl, b1⟩
    go_wp2_with fail
    go_ret
    exact ⟨rfl, b1⟩
  · have d : decide (8192 < (s.size : Int)) = false := decide_eq_false (by omega)
    have HS := hide (fun W (hb' : Below w.heap.size w W) => plSplit_any s W (by omega) (hT.below hb'))
    have HR := hide (fun W => refSplit21_draws s W (by omega))
    have LN := hide (lin_count (s := s) (by omega))
    generalize (linN (bL s)).map txt = ds at *
    clear hT hb
    go_enter Try.func4, Try.ntmps4
    go_wp2_with fail
    refine HW.out.mono ?_
    rintro e w1 ⟨rfl, b1⟩
    go_wp2_with fail
    refine (HS.out _ b1).mono ?_
    rintro e w2 ⟨v2, rfl, d2, b2⟩
    have D2 := hide d2
    have B2 := hide (chain b1 b2)
    obtain ⟨p2, c2, rfl⟩ := draws_formN d2
    clear d2 b2 b1
    go_wp2_with fail
    refine (HR.out _).mono ?_
    rintro e w3 ⟨v3, rfl, o3, b3⟩
    have D3 := hide o3
    have E2 := hide (D2.out.below b3)
    have B3 := hide (chain B2.out b3)
    have D3' := D3.out
    obtain ⟨p3, c3, rfl⟩ := draws_formN D3'
    clear o3 b3 B2 D3' D2
    have HQ := hide (plSame_yes _ _ _ w3 E2.out D3.out LN.out)
    go_wp2_with fail
    refine HQ.out.mono ?_
    rintro e w4 ⟨rfl, b4⟩
    have B4 := hide (chain B3.out b4)
    go_wp2_with fail
    go_ret
    exact ⟨rfl, B4.out⟩

end Go.Proofs.Ytmnpnpmopbkabaa
