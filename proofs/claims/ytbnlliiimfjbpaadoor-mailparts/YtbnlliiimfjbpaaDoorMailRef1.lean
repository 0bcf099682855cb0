/- The document's Split, Label, Address: they answer by the functions of 'Mail'; what lay in the world lies there still. Condition: texts of at most 2^20 bytes. -/
import Derived.Test.YtbnlliiimfjbpaaDoorMail
import Derived.Test.YtbnlliiimfjbpaaDoorSetRef
namespace Go.Proofs.YtbnlliiimfjbpaaDoor
open Go.RowKit

theorem textTypes : TextTypes Tryd.prog 24 9 := ⟨Tryd.underlying24, Tryd.underlying9, by kernel_rfl⟩
/-- A piece of a text. -/
def subL (s : ByteArray) (j k : Nat) : List UInt8 := (s.data.toList.drop j).take (k - j)
theorem subL_txt (s : ByteArray) (j k : Nat) : s.extract j k = txt (subL s j k) := by
  apply ByteArray.ext
  apply Array.ext'
  show (s.extract j k).data.toList = (s.data.toList.drop j).take (k - j)
  simp
theorem drop_cons {s : ByteArray} {k : Nat} (hk : k < s.size) : s.data.toList.drop k = s[k] :: s.data.toList.drop (k + 1) := by
  have : s[k] = s.data.toList[k]'(by simpa using hk) := by simp; rfl
  rw [this]; exact List.drop_eq_getElem_cons _
theorem subL_same (s : ByteArray) (k : Nat) : subL s k k = [] := by unfold subL; rw [Nat.sub_self, List.take_zero]
theorem subL_next {s : ByteArray} {j k : Nat} (h : j ≤ k) (hk : k < s.size) : subL s j (k + 1) = subL s j k ++ [s[k]] := by
  unfold subL
  rw [show k + 1 - j = (k - j) + 1 by omega, List.take_add_one, List.getElem?_drop, show j + (k - j) = k by omega]
  have : s.data.toList[k]? = some s[k] := by
    have e : s[k] = s.data.toList[k]'(by simpa using hk) := by simp; rfl
    rw [e]; exact List.getElem?_eq_getElem _
  rw [this]; rfl
structure SpAt (s : ByteArray) (c : UInt8) (k q : Nat) (done : List (List UInt8)) : Prop where
  le : q ≤ k
  is : k ≤ s.size → splitL c s.data.toList = done ++ prep (subL s q k) (splitL c (s.data.toList.drop k))
  all : s.size < k → splitL c s.data.toList = done
  len : done.length ≤ k
theorem sp_zero (s : ByteArray) (c : UInt8) : SpAt s c 0 0 [] := ⟨Nat.le_refl _, fun _ => by rw [subL_same, List.drop_zero, prep_nil, List.nil_append], fun h => by omega, Nat.le_refl _⟩
theorem sp_miss {s : ByteArray} {c : UInt8} {k q : Nat} {done : List (List UInt8)} (h : SpAt s c k q done) (hk : k < s.size) (hc : ¬ s[k] = c) : SpAt s c (k + 1) q done :=
  ⟨by have := h.le; omega, fun _ => by rw [h.is (by omega), drop_cons hk, split_miss _ hc, prep_prep, subL_next h.le hk], fun g => by omega, by have := h.len; omega⟩
theorem sp_hit {s : ByteArray} {c : UInt8} {k q : Nat} {done : List (List UInt8)} (h : SpAt s c k q done) (hk : k < s.size) (hc : s[k] = c) : SpAt s c (k + 1) (k + 1) (done ++ [subL s q k]) :=
  ⟨Nat.le_refl _, fun _ => by rw [h.is (by omega), drop_cons hk, hc, split_hit, subL_same, prep_nil, List.append_assoc]; show done ++ ((subL s q k ++ []) :: _) = _; rw [List.append_nil]; rfl, fun g => by omega, by have := h.len; simp; omega⟩
theorem sp_last {s : ByteArray} {c : UInt8} {q : Nat} {done : List (List UInt8)} (h : SpAt s c s.size q done) : SpAt s c (s.size + 1) (s.size + 1) (done ++ [subL s q s.size]) :=
  ⟨Nat.le_refl _, fun g => by omega, fun _ => by rw [h.is (Nat.le_refl _), List.drop_of_length_le (by simp)]; show done ++ [subL s q s.size ++ []] = _; rw [List.append_nil], by have := h.len; simp; omega⟩
theorem byte_eq {a b : UInt8} (h : (a.toNat : Int) = (b.toNat : Int)) : a = b := UInt8.toNat_inj.1 (by omega)

set_option maxHeartbeats 2000000 in
set_option maxRecDepth 100000 in
theorem refSplit_any (s : ByteArray) (c : UInt8) (w : World) (hs : s.size ≤ 1048576) :
    Calls Tryd.prog 16 #[.string s, .int .u8 (c.toNat : Int)] w fun e w' => ∃ v, e = .returned v ∧ OwnsT 9 w.heap.size w' v (splitL c s.data.toList) ∧ Below w.heap.size w w' := by
  go_enter Tryd.func16, Tryd.ntmps16
  go_wp2_with fail
  go_loopw [5, 6, 7] (fun v f i wr => ∃ (k q : Nat) (done : List (List UInt8)), k ≤ s.size + 1 ∧ i = .int .i64 k ∧ f = .int .i64 q ∧ SpAt s c k q done ∧ OwnsT 9 w.heap.size wr v done ∧ Below w.heap.size w wr) (fun _ _ i _ => s.size + 1 - (intOf i).toNat)
  case atStart => exact ⟨0, 0, [], Nat.zero_le _, rfl, rfl, sp_zero s c, OwnsT.nil _ _ _, Below.refl _ _⟩
  case round =>
    obtain ⟨k, q, done, hk, rfl, rfl, hw, hown, hb⟩ := hrel
    have hlen := hw.len
    have hq := hw.le
    have hsz := hb.size
    by_cases hle : k ≤ s.size
    · by_cases hlt : k < s.size
      · by_cases hc : s[k] = c
        · have HW := hide (sp_hit hw hlt hc)
          have HX := hide (subL_txt s q k)
          have i1 : (k : Int) < (s.size : Int) := by omega
          have i2 : ((k : Int) == (s.size : Int)) = false := by simp; omega
          have i3 : ((s[k].toNat : Int) == (c.toNat : Int)) = true := by rw [hc]; simp
          clear hw hc
          go_wp2_with (at_builtin; refine wpList_append_item textTypes _ _ rfl _ _ rfl w.heap.size _ _ (subL s q k) HX.out rfl hown rfl (by omega) (by omega) ?_; intro v' w' hown' hb')
          go_roundw
          case rel => exact ⟨k + 1, k + 1, done ++ [subL s q k], by omega, by go_num, by go_num, HW.out, hown', hb.trans hb'⟩
          case measure => simp [intOf]; omega
        · have HW := hide (sp_miss hw hlt hc)
          have i1 : (k : Int) < (s.size : Int) := by omega
          have i2 : ((k : Int) == (s.size : Int)) = false := by simp; omega
          have i3 : ((s[k].toNat : Int) == (c.toNat : Int)) = false := by
            rw [beq_eq_false_iff_ne]
            exact fun e => hc (byte_eq e)
          clear hw hc
          go_wp2_with fail
          go_roundw
          case rel => exact ⟨k + 1, q, done, by omega, by go_num, rfl, HW.out, hown, hb⟩
          case measure => simp [intOf]; omega
      · obtain rfl : k = s.size := by omega
        have HW := hide (sp_last hw)
        have HX := hide (subL_txt s q s.size)
        clear hw hlt
        go_wp2_with (at_builtin; refine wpList_append_item textTypes _ _ rfl _ _ rfl w.heap.size _ _ (subL s q s.size) HX.out rfl hown rfl (by omega) (by omega) ?_; intro v' w' hown' hb')
        go_roundw
        case rel => exact ⟨s.size + 1, s.size + 1, done ++ [subL s q s.size], by omega, by go_num, by go_num, HW.out, hown', hb.trans hb'⟩
        case measure => simp [intOf]
    · have HE := hide (hw.all (by omega))
      have hi : ¬ (k : Int) ≤ (s.size : Int) := by omega
      go_wp2_with fail
      go_ret
      exact ⟨_, rfl, by rw [HE.out]; exact hown, hb⟩

theorem lab_plain {l : List UInt8} {k : Nat} (h : plainB (l.getD k 0) = true) : labAt l k = true := by unfold labAt; rw [h]; rfl
theorem lab_mid {l : List UInt8} {k : Nat} (h1 : l.getD k 0 = 45) (h2 : k ≠ 0) (h3 : k + 1 ≠ l.length) : labAt l k = true := by
  unfold labAt
  rw [h1, decide_eq_true h2, decide_eq_true h3]
  simp
theorem lab_not {l : List UInt8} {k : Nat} (h0 : plainB (l.getD k 0) = false) (h : ¬ l.getD k 0 = 45 ∨ k = 0 ∨ k + 1 = l.length) : labAt l k = false := by
  unfold labAt
  rw [h0]
  rcases h with h | h | h
  · rw [show (l.getD k 0 == 45) = false by rw [beq_eq_false_iff_ne]; exact h]; rfl
  · simp [h]
  · simp [h]
theorem label_no {l : List UInt8} {k : Nat} (hk : k < l.length) (h : labAt l k = false) : labelL l = false := by
  cases e : labelL l with
  | false => rfl
  | true =>
    have := ((label_iff l).1 e).2 k hk
    rw [h] at this; cases this
theorem label_size {l : List UInt8} (h : ¬ (1 ≤ l.length ∧ l.length ≤ 63)) : labelL l = false := by
  cases e : labelL l with
  | false => rfl
  | true => exact absurd ((label_iff l).1 e).1 h

set_option maxHeartbeats 2000000 in
set_option maxRecDepth 100000 in
theorem refLabel_any (s : ByteArray) (w : World) (hs : s.size ≤ 1048576) :
    Calls Tryd.prog 22 #[.string s] w fun e w' => e = .returned (.bool (labelL s.data.toList)) ∧ w' = w := by
  have hl : s.data.toList.length = s.size := by simp
  rcases (show s.size < 1 ∨ (1 ≤ s.size ∧ 63 < s.size) ∨ (1 ≤ s.size ∧ s.size ≤ 63) by omega) with g | ⟨g, g'⟩ | ⟨g, g'⟩
  · have E := hide (label_size (l := s.data.toList) (by omega))
    have i1 : (s.size : Int) < 1 := by omega
    clear g
    go_enter Tryd.func22, Tryd.ntmps22
    go_wp2_with fail
    go_ret
    exact ⟨ret_bool E.out.symm, rfl⟩
  · have E := hide (label_size (l := s.data.toList) (by omega))
    have i1 : (1 : Int) ≤ (s.size : Int) := by omega
    have i2 : (63 : Int) < (s.size : Int) := by omega
    clear g g'
    go_enter Tryd.func22, Tryd.ntmps22
    go_wp2_with fail
    go_ret
    exact ⟨ret_bool E.out.symm, rfl⟩
  · have i1 : (1 : Int) ≤ (s.size : Int) := by omega
    have i2 : (s.size : Int) ≤ 63 := by omega
    have AL := hide (fun (h : ∀ k, k < s.data.toList.length → labAt s.data.toList k = true) => (label_iff s.data.toList).2 ⟨by omega, h⟩)
    have NO := hide (fun (k : Nat) (hk : k < s.size) (h : labAt s.data.toList k = false) => label_no (by omega) h)
    clear g g'
    go_enter Tryd.func22, Tryd.ntmps22
    go_wp2_with fail
    go_loop [3] (fun i => ∃ k : Nat, k ≤ s.size ∧ i = .int .i64 k ∧ Hid (∀ j, j < k → labAt s.data.toList j = true)) (fun i => s.size - (intOf i).toNat)
    case atStart => exact ⟨0, Nat.zero_le _, rfl, fun j h => by omega⟩
    case round =>
      obtain ⟨k, hk, rfl, hd⟩ := hrel
      by_cases hlt : k < s.size
      · have HP := hide (refPlain_any s[k] w)
        have eb : s.data.toList.getD k 0 = s[k] := (byteAt_eq s k hlt).symm
        have NX : labAt s.data.toList k = true → Hid (∀ j, j < k + 1 → labAt s.data.toList j = true) := by
          intro h j hj
          rcases Nat.lt_or_ge j k with q | q
          · exact hd.out j q
          · obtain rfl : j = k := by omega
            exact h
        have LP := fun h => lab_plain (l := s.data.toList) (k := k) h
        have LM := fun a b c => lab_mid (l := s.data.toList) (k := k) a b c
        have LN := fun a b => lab_not (l := s.data.toList) (k := k) a b
        rw [eb] at LP LM LN
        clear hd eb
        cases hp : plainB s[k] with
        | true =>
          have E := NX (LP hp)
          rw [hp] at HP
          clear NX LP LM LN hp AL NO
          go_wp2_with fail
          refine HP.out.mono ?_
          rintro e u ⟨rfl, rfl⟩
          go_wp2_with fail
          go_round
          case rel => exact ⟨k + 1, by omega, by go_num, E⟩
          case measure => simp [intOf]; omega
        | false =>
          rw [hp] at HP
          by_cases h45 : s[k] = 45
          · have n1 : ((s[k].toNat : Int) != 45) = false := by rw [h45]; rfl
            have n1' : ((s[k].toNat : Int) == 45) = true := by rw [h45]; rfl
            by_cases h0 : k = 0
            · have E := hide (NO.out k hlt (LN hp (.inr (.inl h0))))
              subst h0
              clear NX LP LM LN hp AL NO h45
              go_wp2_with fail
              refine HP.out.mono ?_
              rintro e u ⟨rfl, rfl⟩
              go_wp2_with fail
              go_ret
              exact ⟨ret_bool E.out.symm, rfl⟩
            · have k0 : ((k : Int) == 0) = false := by simp; omega
              by_cases hz : k + 1 = s.size
              · have E := hide (NO.out k hlt (LN hp (.inr (.inr (by omega)))))
                have k1 : ((k : Int) == (s.size : Int) - 1) = true := by simp; omega
                clear NX LP LM LN hp AL NO h45 h0 hz
                go_wp2_with fail
                refine HP.out.mono ?_
                rintro e u ⟨rfl, rfl⟩
                go_wp2_with fail
                go_ret
                exact ⟨ret_bool E.out.symm, rfl⟩
              · have E := NX (LM h45 h0 (by omega))
                have k1 : ((k : Int) == (s.size : Int) - 1) = false := by simp; omega
                clear NX LP LM LN hp AL NO h45 h0 hz
                go_wp2_with fail
                refine HP.out.mono ?_
                rintro e u ⟨rfl, rfl⟩
                go_wp2_with fail
                go_round
                case rel => exact ⟨k + 1, by omega, by go_num, E⟩
                case measure => simp [intOf]; omega
          · have E := hide (NO.out k hlt (LN hp (.inl h45)))
            have n0 : ¬ (s[k].toNat : Int) = 45 := fun e => h45 (byte_eq (b := 45) e)
            have n1 : ((s[k].toNat : Int) != 45) = true := by simpa using n0
            have n1' : ((s[k].toNat : Int) == 45) = false := by simpa using n0
            clear NX LP LM LN hp AL NO h45 n0
            go_wp2_with fail
            refine HP.out.mono ?_
            rintro e u ⟨rfl, rfl⟩
            go_wp2_with fail
            go_ret
            exact ⟨ret_bool E.out.symm, rfl⟩
      · obtain rfl : k = s.size := by omega
        have E := hide (AL.out (fun j hj => hd.out j (by omega)))
        clear AL NO hd
        go_wp2_with fail
        go_ret
        exact ⟨ret_bool E.out.symm, rfl⟩

end Go.Proofs.YtbnlliiimfjbpaaDoor
