/- The document's Split, and what a row of texts is: it answers by the function of 'Mail'; what lay in the world lies there still. Condition: texts of at most 2^20 bytes. -/
import Derived.Test.YtkllknfgojjphaaDoorRows
import Derived.Test.YtkllknfgojjphaaDoorMail
namespace Go.Proofs.YtkllknfgojjphaaDoor
open Go.RowKit

theorem textTypes : TextTypes Tryd.prog 35 9 := ⟨Tryd.underlying35, Tryd.underlying9, by kernel_rfl⟩
/-- A piece of a text. -/
def subL (s : ByteArray) (j k : Nat) : List UInt8 := (s.data.toList.drop j).take (k - j)
theorem subL_txt (s : ByteArray) (j k : Nat) : s.extract j k = txt (subL s j k) := by
  apply ByteArray.ext
  apply Array.ext'
  show (s.extract j k).data.toList = (s.data.toList.drop j).take (k - j)
  simp
theorem drop_cons {s : ByteArray} {k : Nat} (hk : k < s.size) : s.data.toList.drop k = s[k] :: s.data.toList.drop (k + 1) := by
  have : s[k] = s.data.toList[k]'(by simpa using hk) := by simp; rfl
  rw [this]; exact List.drop_eq_getElem_cons _
theorem subL_same (s : ByteArray) (k : Nat) : subL s k k = [] := by unfold subL; rw [Nat.sub_self, List.take_zero]
theorem subL_next {s : ByteArray} {j k : Nat} (h : j ≤ k) (hk : k < s.size) : subL s j (k + 1) = subL s j k ++ [s[k]] := by
  unfold subL
  rw [show k + 1 - j = (k - j) + 1 by omega, List.take_add_one, List.getElem?_drop, show j + (k - j) = k by omega]
  have : s.data.toList[k]? = some s[k] := by
    have e : s[k] = s.data.toList[k]'(by simpa using hk) := by simp; rfl
    rw [e]; exact List.getElem?_eq_getElem _
  rw [this]; rfl
structure SpAt (s : ByteArray) (c : UInt8) (k q : Nat) (done : List (List UInt8)) : Prop where
  le : q ≤ k
  is : k ≤ s.size → splitL c s.data.toList = done ++ prep (subL s q k) (splitL c (s.data.toList.drop k))
  all : s.size < k → splitL c s.data.toList = done
  len : done.length ≤ k
theorem sp_zero (s : ByteArray) (c : UInt8) : SpAt s c 0 0 [] := ⟨Nat.le_refl _, fun _ => by rw [subL_same, List.drop_zero, prep_nil, List.nil_append], fun h => by omega, Nat.le_refl _⟩
theorem sp_miss {s : ByteArray} {c : UInt8} {k q : Nat} {done : List (List UInt8)} (h : SpAt s c k q done) (hk : k < s.size) (hc : ¬ s[k] = c) : SpAt s c (k + 1) q done :=
  ⟨by have := h.le; omega, fun _ => by rw [h.is (by omega), drop_cons hk, split_miss _ hc, prep_prep, subL_next h.le hk], fun g => by omega, by have := h.len; omega⟩
theorem sp_hit {s : ByteArray} {c : UInt8} {k q : Nat} {done : List (List UInt8)} (h : SpAt s c k q done) (hk : k < s.size) (hc : s[k] = c) : SpAt s c (k + 1) (k + 1) (done ++ [subL s q k]) :=
  ⟨Nat.le_refl _, fun _ => by rw [h.is (by omega), drop_cons hk, hc, split_hit, subL_same, prep_nil, List.append_assoc]; show done ++ ((subL s q k ++ []) :: _) = _; rw [List.append_nil]; rfl, fun g => by omega, by have := h.len; simp; omega⟩
theorem sp_last {s : ByteArray} {c : UInt8} {q : Nat} {done : List (List UInt8)} (h : SpAt s c s.size q done) : SpAt s c (s.size + 1) (s.size + 1) (done ++ [subL s q s.size]) :=
  ⟨Nat.le_refl _, fun g => by omega, fun _ => by rw [h.is (Nat.le_refl _), List.drop_of_length_le (by simp)]; show done ++ [subL s q s.size ++ []] = _; rw [List.append_nil], by have := h.len; simp; omega⟩
theorem byte_eq {a b : UInt8} (h : (a.toNat : Int) = (b.toNat : Int)) : a = b := UInt8.toNat_inj.1 (by omega)

set_option maxHeartbeats 2000000 in
set_option maxRecDepth 100000 in
theorem refSplit_any (s : ByteArray) (c : UInt8) (w : World) (hs : s.size ≤ 1048576) :
    Calls Tryd.prog 32 #[.string s, .int .u8 (c.toNat : Int)] w fun e w' => ∃ v, e = .returned v ∧ OwnsT 9 w.heap.size w' v (splitL c s.data.toList) ∧ Below w.heap.size w w' := by
  go_enter Tryd.func32, Tryd.ntmps32
  go_wp2_with fail
  go_loopw [5, 6, 7] (fun v f i wr => ∃ (k q : Nat) (done : List (List UInt8)), k ≤ s.size + 1 ∧ i = .int .i64 k ∧ f = .int .i64 q ∧ SpAt s c k q done ∧ OwnsT 9 w.heap.size wr v done ∧ Below w.heap.size w wr) (fun _ _ i _ => s.size + 1 - (intOf i).toNat)
  case atStart => exact ⟨0, 0, [], Nat.zero_le _, rfl, rfl, sp_zero s c, OwnsT.nil _ _ _, Below.refl _ _⟩
  case round =>
    obtain ⟨k, q, done, hk, rfl, rfl, hw, hown, hb⟩ := hrel
    have hlen := hw.len
    have hq := hw.le
    have hsz := hb.size
    by_cases hle : k ≤ s.size
    · by_cases hlt : k < s.size
      · by_cases hc : s[k] = c
        · have HW := hide (sp_hit hw hlt hc)
          have HX := hide (subL_txt s q k)
          have i1 : (k : Int) < (s.size : Int) := by omega
          have i2 : ((k : Int) == (s.size : Int)) = false := by simp; omega
          have i3 : ((s[k].toNat : Int) == (c.toNat : Int)) = true := by rw [hc]; simp
          clear hw hc
          go_wp2_with (at_builtin; refine wpList_append_item textTypes _ _ rfl _ _ rfl w.heap.size _ _ (subL s q k) HX.out rfl hown rfl (by omega) (by omega) ?_; intro v' w' hown' hb')
          go_roundw
          case rel => exact ⟨k + 1, k + 1, done ++ [subL s q k], by omega, by go_num, by go_num, HW.out, hown', hb.trans hb'⟩
          case measure => simp [intOf]; omega
        · have HW := hide (sp_miss hw hlt hc)
          have i1 : (k : Int) < (s.size : Int) := by omega
          have i2 : ((k : Int) == (s.size : Int)) = false := by simp; omega
          have i3 : ((s[k].toNat : Int) == (c.toNat : Int)) = false := by
            rw [beq_eq_false_iff_ne]
            exact fun e => hc (byte_eq e)
          clear hw hc
          go_wp2_with fail
          go_roundw
          case rel => exact ⟨k + 1, q, done, by omega, by go_num, rfl, HW.out, hown, hb⟩
          case measure => simp [intOf]; omega
      · obtain rfl : k = s.size := by omega
        have HW := hide (sp_last hw)
        have HX := hide (subL_txt s q s.size)
        clear hw hlt
        go_wp2_with (at_builtin; refine wpList_append_item textTypes _ _ rfl _ _ rfl w.heap.size _ _ (subL s q s.size) HX.out rfl hown rfl (by omega) (by omega) ?_; intro v' w' hown' hb')
        go_roundw
        case rel => exact ⟨s.size + 1, s.size + 1, done ++ [subL s q s.size], by omega, by go_num, by go_num, HW.out, hown', hb.trans hb'⟩
        case measure => simp [intOf]
    · have HE := hide (hw.all (by omega))
      have hi : ¬ (k : Int) ≤ (s.size : Int) := by omega
      go_wp2_with fail
      go_ret
      exact ⟨_, rfl, by rw [HE.out]; exact hown, hb⟩

theorem drop_txt (s : ByteArray) (k : Nat) : s.extract k s.size = txt (s.data.toList.drop k) := by
  rw [subL_txt]
  unfold subL
  rw [List.take_of_length_le (by simp)]
/-- What a row of texts is, for a loop over it. -/
theorem row_form {w1 : World} {base : Nat} {v : Value} {ws : List (List UInt8)} (hv : OwnsT 9 base w1 v ws) (hn : ws ≠ []) : ∃ g cap, v = .slice (some ⟨g, 0, none⟩) ws.length cap ∧ g < w1.heap.size ∧ ∀ i (h : i < ws.length), w1.cell? ⟨g, i, none⟩ = some (.string (txt ws[i])) := by
  rcases hv.2 with ⟨h1, h2⟩ | ⟨g, cap, cur, h1, h2, h3, h4⟩
  · exact absurd (List.eq_nil_of_length_eq_zero h2) hn
  · refine ⟨g, cap, h1, ?_, fun i h => ?_⟩
    · rcases Nat.lt_or_ge g w1.heap.size with h' | h'
      · exact h'
      · simp [Array.getElem?_eq_none h'] at h3
    · subst h1
      rw [World.ownsRow.cellAt hv i (by omega)]
      simp [cellT, h]
theorem prep_sum (a : List UInt8) (m : List (List UInt8)) : ((prep a m).map List.length).sum = a.length + (m.map List.length).sum := by
  cases m with
  | nil => simp [prep]
  | cons h t => simp [prep]; omega
theorem split_sum (c : UInt8) : ∀ l : List UInt8, ((splitL c l).map List.length).sum ≤ l.length
  | [] => by simp [splitL]
  | x :: l => by
    have ih := split_sum c l
    by_cases h : x = c
    · subst h
      rw [split_hit]
      simp only [List.map_cons, List.length_nil, List.sum_cons, List.length_cons]
      omega
    · rw [split_miss l h, prep_sum]
      simp only [List.length_cons, List.length_nil]
      omega
theorem split_count (c : UInt8) : ∀ l : List UInt8, (splitL c l).length ≤ l.length + 1
  | [] => by simp [splitL]
  | x :: l => by
    have ih := split_count c l
    by_cases h : x = c
    · subst h
      rw [split_hit]
      simp only [List.length_cons]
      omega
    · rw [split_miss l h]
      have : (prep [x] (splitL c l)).length ≤ (splitL c l).length + 1 := by
        cases splitL c l with
        | nil => simp [prep]
        | cons => simp [prep]
      have h2 : (prep [x] (splitL c l)).length = (splitL c l).length := by
        cases e : splitL c l with
        | nil => exact absurd e (split_ne c l)
        | cons => rfl
      rw [h2, List.length_cons]; omega
theorem mem_sum {p : List UInt8} : ∀ {ps : List (List UInt8)}, p ∈ ps → p.length ≤ (ps.map List.length).sum
  | q :: ps, h => by
    rcases List.mem_cons.1 h with e | e
    · subst e; simp
    · have := mem_sum e
      simp only [List.map_cons, List.sum_cons]; omega
theorem split_mem {c : UInt8} {l p : List UInt8} (h : p ∈ splitL c l) : p.length ≤ l.length := Nat.le_trans (mem_sum h) (split_sum c l)
theorem all_at {α : Type} {f : α → Bool} {l : List α} {k : Nat} (hk : k < l.length) (h : f l[k] = false) : l.all f = false := List.all_eq_false.2 ⟨l[k], List.getElem_mem _, by rw [h]; decide⟩

end Go.Proofs.YtkllknfgojjphaaDoor
