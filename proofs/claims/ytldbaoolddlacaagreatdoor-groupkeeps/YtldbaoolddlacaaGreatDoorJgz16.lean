/- The program's isSmall, isName, isText, called of layer 10. slices.DeleteFunc of a row of numbers, or of attributes, of the call's own. slices.IndexFunc, slices.DeleteFunc of numbers, with a function that answers for the list's own numbers alone. The program's byType and Of of layer 11. -/
import Derived.Test.YtldbaoolddlacaaGreatDoorJgz5
import Derived.Test.YtldbaoolddlacaaGreatDoorJgz12
import Derived.Test.YtldbaoolddlacaaGreatDoorJgz13
import Derived.Test.YtldbaoolddlacaaGreatDoorJgz18
import Derived.Laws.CopyRow
import Derived.OwnWalk

namespace Go.Proofs.YtldbaoolddlacaaGreatDoor
open Go.RowKit
def smI (z : Int) : Bool := decide (97 ≤ z ∧ z ≤ 122)
set_option maxHeartbeats 1000000 in
theorem isSmall_any (z : Int) (w : World) :
    Calls Tryz.prog 87 #[.int .u8 z] w fun e w' => e = .returned (.bool (smI z)) ∧ w' = w := by
  by_cases a : 97 ≤ z
  · by_cases b : z ≤ 122
    · have E := hide (show smI z = true from decide_eq_true ⟨a, b⟩)
      go_enter Tryz.func87, Tryz.ntmps87
      go_wp2_with fail
      go_ret
      exact ⟨ret_bool E.out.symm, rfl⟩
    · have E := hide (show smI z = false from decide_eq_false (fun q => b q.2))
      have d : decide (z ≤ 122) = false := decide_eq_false b
      go_enter Tryz.func87, Tryz.ntmps87
      go_wp2_with fail
      go_ret
      exact ⟨ret_bool E.out.symm, rfl⟩
  · have E := hide (show smI z = false from decide_eq_false (fun q => a q.1))
    go_enter Tryz.func87, Tryz.ntmps87
    go_wp2_with fail
    go_ret
    exact ⟨ret_bool E.out.symm, rfl⟩
theorem name_short {s : ByteArray} (h : ¬ (0 < s.size ∧ s.size ≤ 20)) : nameOk s = false := by unfold nameOk; rw [decide_eq_false h]; rfl
set_option maxHeartbeats 2000000 in
theorem isName_any (s : ByteArray) (w : World) (hs : s.size ≤ maxLen) :
    Calls Tryz.prog 68 #[.string s] w fun e w' => e = .returned (.bool (nameOk s)) ∧ w' = w := by
  unfold maxLen at hs
  by_cases h1 : s.size < 1
  · have E := hide (name_short (s := s) (by omega))
    have i1 : (s.size : Int) < 1 := by omega
    clear h1
    go_enter Tryz.func68, Tryz.ntmps68
    go_wp2_with fail
    go_ret
    exact ⟨ret_bool E.out.symm, rfl⟩
  by_cases h2 : 20 < s.size
  · have E := hide (name_short (s := s) (by omega))
    have i1 : ¬ (s.size : Int) < 1 := by omega
    have i2 : (20 : Int) < (s.size : Int) := by omega
    clear h1 h2
    go_enter Tryz.func68, Tryz.ntmps68
    go_wp2_with fail
    go_ret
    exact ⟨ret_bool E.out.symm, rfl⟩
  have i1 : ¬ (s.size : Int) < 1 := by omega
  have i2 : ¬ (20 : Int) < (s.size : Int) := by omega
  have i3 : decide ((20 : Int) < (s.size : Int)) = false := decide_eq_false i2
  have p0 : 0 < s.size := by omega
  have i4 : (0 : Int) < (s.size : Int) := by omega
  have b0 : (0 : Int) ≤ (s[0].toNat : Int) := by omega
  have b1 : (s[0].toNat : Int) ≤ 255 := by have := s[0].toNat_lt; omega
  have HS0 := hide (fun w => isSmall_any (s[0].toNat : Int) w)
  have NO := hide (fun k hk h => name_no (s := s) (k := k) hk h)
  have END := hide (fun h => (name_end (s := s) h).trans (decide_eq_true ⟨p0, by omega⟩))
  cases q0 : smI (s[0].toNat : Int) with
  | false =>
    rw [q0] at HS0
    have E := hide (NO.out 0 p0 (nm_not (by unfold smI at q0; have := of_decide_eq_false q0; omega) (.inl rfl)))
    clear NO END q0
    go_enter Tryz.func68, Tryz.ntmps68
    go_wp2_with fail
    refine (HS0.out _).mono ?_
    rintro e w1 ⟨rfl, hw⟩
    obtain rfl : w = w1 := hw.symm
    go_wp2_with fail
    go_ret
    exact ⟨ret_bool E.out.symm, rfl⟩
  | true =>
    rw [q0] at HS0
    have SM0 : Hid (97 ≤ s[0].toNat ∧ s[0].toNat ≤ 122) := by unfold smI at q0; have := of_decide_eq_true q0; show _ ∧ _; omega
    clear q0
    go_enter Tryz.func68, Tryz.ntmps68
    go_wp2_with fail
    refine (HS0.out _).mono ?_
    rintro e w1 ⟨rfl, hw⟩
    obtain rfl : w = w1 := hw.symm
    go_wp2_with fail
    go_loop [21] (fun iv => ∃ k : Nat, k ≤ s.size ∧ iv = .int .i64 k ∧ Hid (∀ j (_ : j < s.size), j < k → nmAt j s[j] = true)) (fun iv => s.size - (intOf iv).toNat)
    case atStart => exact ⟨0, Nat.zero_le _, rfl, fun j _ h => by omega⟩
    case round =>
      obtain ⟨k, hk, rfl, hd⟩ := hrel
      clear HS0 b0 b1
      by_cases hlt : k < s.size
      · have hI : (k : Int) < (s.size : Int) := by omega
        have hI0 : (0 : Int) ≤ (k : Int) := by omega
        have NX : nmAt k s[k] = true → Hid (∀ j (_ : j < s.size), j < k + 1 → nmAt j s[j] = true) := by
          intro h j hj hjk
          rcases Nat.lt_or_ge j k with q | q
          · exact hd.out j hj q
          · obtain rfl : j = k := by omega
            exact h
        have K0 : Hid (k = 0 → 97 ≤ s[k].toNat ∧ s[k].toNat ≤ 122) := by intro q; subst q; exact SM0.out
        have BAD := hide (NO.out k hlt)
        have h255 : (s[k].toNat : Int) ≤ 255 := by have := s[k].toNat_lt; omega
        have h000 : (0 : Int) ≤ (s[k].toNat : Int) := by omega
        have HS := hide (fun w => isSmall_any (s[k].toNat : Int) w)
        have NX' := hide NX
        clear hd NO END NX SM0
        cases q : smI (s[k].toNat : Int) with
        | true =>
          rw [q] at HS
          have E := NX'.out (nm_small (by unfold smI at q; have := of_decide_eq_true q; omega))
          clear q NX' BAD K0
          go_wp2_with fail
          refine (HS.out _).mono ?_
          rintro e w1 ⟨rfl, hw⟩
          obtain rfl : w = w1 := hw.symm
          go_wp2_with fail
          go_round
          case rel => exact ⟨k + 1, by omega, by go_num, E⟩
          case measure => simp [intOf]; omega
        | false =>
          rw [q] at HS
          have q2 : ¬ (97 ≤ s[k].toNat ∧ s[k].toNat ≤ 122) := by unfold smI at q; have := of_decide_eq_false q; omega
          have k0 : ¬ k = 0 := fun r => q2 (K0.out r)
          have Q2 := hide q2
          have K1 := hide k0
          clear q q2 k0 K0
          rcases (show s[k].toNat < 48 ∨ (48 ≤ s[k].toNat ∧ s[k].toNat ≤ 57) ∨ 57 < s[k].toNat by omega) with r | r | r
          · have d48 : decide ((48 : Int) ≤ (s[k].toNat : Int)) = false := decide_eq_false (by omega)
            by_cases e45 : s[k].toNat = 45
            · have d45 : ((s[k].toNat : Int) != 45) = false := by rw [e45]; rfl
              have d45' : ((s[k].toNat : Int) == 45) = true := by rw [e45]; rfl
              have E := NX'.out (nm_other K1.out (by omega))
              clear NX' BAD e45 r
              go_wp2_with fail
              refine (HS.out _).mono ?_
              rintro e w1 ⟨rfl, hw⟩
              obtain rfl : w = w1 := hw.symm
              go_wp2_with fail
              go_round
              case rel => exact ⟨k + 1, by omega, by go_num, E⟩
              case measure => simp [intOf]; omega
            · have d45 : ((s[k].toNat : Int) != 45) = true := by rw [bne_iff_ne]; omega
              have d45' : ((s[k].toNat : Int) == 45) = false := by rw [beq_eq_false_iff_ne]; omega
              have E := hide (BAD.out (nm_not Q2.out (.inr (by omega))))
              clear NX' BAD e45 r
              go_wp2_with fail
              refine (HS.out _).mono ?_
              rintro e w1 ⟨rfl, hw⟩
              obtain rfl : w = w1 := hw.symm
              go_wp2_with fail
              go_ret
              exact ⟨ret_bool E.out.symm, rfl⟩
          · have d48 : (48 : Int) ≤ (s[k].toNat : Int) := by omega
            have d57 : (s[k].toNat : Int) ≤ 57 := by omega
            have E := NX'.out (nm_other K1.out (by omega))
            clear NX' BAD r
            go_wp2_with fail
            refine (HS.out _).mono ?_
            rintro e w1 ⟨rfl, hw⟩
            obtain rfl : w = w1 := hw.symm
            go_wp2_with fail
            go_round
            case rel => exact ⟨k + 1, by omega, by go_num, E⟩
            case measure => simp [intOf]; omega
          · have d48 : (48 : Int) ≤ (s[k].toNat : Int) := by omega
            have d57 : decide ((s[k].toNat : Int) ≤ 57) = false := decide_eq_false (by omega)
            have d45 : ((s[k].toNat : Int) != 45) = true := by rw [bne_iff_ne]; omega
            have d45' : ((s[k].toNat : Int) == 45) = false := by rw [beq_eq_false_iff_ne]; omega
            have E := hide (BAD.out (nm_not Q2.out (.inr (by omega))))
            clear NX' BAD r
            go_wp2_with fail
            refine (HS.out _).mono ?_
            rintro e w1 ⟨rfl, hw⟩
            obtain rfl : w = w1 := hw.symm
            go_wp2_with fail
            go_ret
            exact ⟨ret_bool E.out.symm, rfl⟩
      · obtain rfl : k = s.size := by omega
        have E := hide (END.out (fun j hj => hd.out j hj hj))
        clear NO END hd SM0 hlt
        go_wp2_with fail
        go_ret
        exact ⟨ret_bool E.out.symm, rfl⟩
theorem noName_true {n : ByteArray} (h : noName n = true) : n = ⟨#[]⟩ := by
  unfold noName at h
  have h : n.size = 0 := beq_iff_eq.1 h
  have h2 : n.data.size = 0 := h
  cases n with
  | mk d =>
    have h2 : d.size = 0 := h2
    obtain rfl : d = #[] := Array.eq_empty_of_size_eq_zero h2
    rfl
theorem noName_false {n : ByteArray} (h : noName n = false) : ¬ n.toList = [] := by
  rw [ByteArray.toList_eq]
  intro q
  have : n.data = #[] := by cases hd : n.data with | mk d => rw [hd] at q; have q : d = [] := q; rw [q]
  have h2 : n.size = 0 := by show n.data.size = 0; rw [this]; rfl
  unfold noName at h
  rw [h2] at h
  cases h
set_option maxHeartbeats 1000000 in
theorem isText_any (a0 a1 : ByteArray) (va : Value) (p : Int) (vk : Value) (w : World) :
    Calls Tryz.prog 48 #[.agg #[.string a0, .string a1, va, .int .i64 p, vk]] w fun e w' => e = .returned (.bool (noName a0)) ∧ Below w.heap.size w w' := by
  cases q : noName a0 with
  | true =>
    obtain rfl := noName_true q
    go_enter Tryz.func48, Tryz.ntmps48
    go_wp2_with fail
    go_ret
    exact ⟨rfl, (Below.refl _ w).alloc (Nat.le_refl _) _⟩
  | false =>
    have e1 := noName_false q
    have e2 : a0.toList.isEmpty = false := by cases h : a0.toList with
      | nil => exact absurd h e1
      | cons => rfl
    have e3 : (a0.toList == []) = false := by rw [beq_eq_false_iff_ne]; exact e1
    clear q
    go_enter Tryz.func48, Tryz.ntmps48
    go_wp2_with fail
    go_ret
    exact ⟨rfl, (Below.refl _ w).alloc (Nat.le_refl _) _⟩
end Go.Proofs.YtldbaoolddlacaaGreatDoor

namespace Go.Proofs.YtldbaoolddlacaaGreatDoor
open Go.RowKit
theorem cellsI_set (ks : List Int) (i : Nat) (z : Int) : (cellsI ks).set i (.int .i64 z) = cellsI (ks.set i z) := by unfold cellsI; rw [List.map_set]
/-- A function value that answers p, in every world that differs from w in blocks of S and new ones. -/
def PredX (g : Nat) (lb : Array Value) {α : Type} (enc : α → Value) (p : α → Bool) (S : List Nat) (w : World) : Prop :=
  ∀ (W : World) (x : α), Chg S w W → Calls Tryz.prog g (#[enc x] ++ lb) W fun e w' => e = .returned (.bool (p x)) ∧ Below W.heap.size W w'
/-- A row, its tail made nought. -/
theorem run_clear_own {P : Program} (w : World) (t e ty : TypeId) (z : Value) (ht : P.underlying t = some (.slice e)) (hv : ∀ w, (zeroValue e).run P w = .ok z w) (size : Nat) (hz : z.cells.size = size) (hs : 0 < size) (h1 : ∀ u ∈ z.cells, u.oneCell' = true)
    {base : Nat} {g n c : Nat} {ys : List Value} (hown : w.ownsRow base e size (.slice (some ⟨g, 0, none⟩) n c) n ys) (i c' : Nat) (hi : i < n) :
    ∃ w' ys', (Builtin.clear_ #[t] ty #[.slice (some ⟨g, i * size, none⟩) (n - i) c']).run P w = .ok (.tuple #[]) w' ∧ w'.ownsRow base e size (.slice (some ⟨g, 0, none⟩) n c) n ys' ∧ ys'.take (i * size) = ys.take (i * size) ∧ Chg [g] w w' := by
  obtain ⟨hl, hown⟩ := hown
  rcases hown with ⟨q, _⟩ | ⟨g', cap, cur, e0, hb, hg, k1, k2, k3, k4⟩
  · cases q
  · cases e0
    have zl : (Builtin.zeroCells z.cells (n - i)).toList.length = (n - i) * size := by rw [Array.length_toList, size_zeroCells, hz]
    have fit : i * size + (n - i) * size = n * size := by rw [← Nat.add_mul]; congr 1; omega
    have fit2 : n * size ≤ c * size := Nat.mul_le_mul_right _ k1
    have hst := run_storeCells_at P g (i * size) e (Builtin.zeroCells z.cells (n - i)).toList 0 cur w hg (by rw [zl, k3]; omega) (fun u hu => by
      rw [Array.mem_toList_iff] at hu
      unfold Builtin.zeroCells at hu
      obtain ⟨k, hk, rfl⟩ := Array.mem_map.1 hu
      have hlt : k % z.cells.size < z.cells.size := Nat.mod_lt _ (by omega)
      rw [getElem!_pos z.cells _ hlt]
      exact h1 _ (Array.getElem_mem _))
    rw [Nat.add_zero] at hst
    have hn : ¬ n - i = 0 := by omega
    refine ⟨w.setRow g (cur.toList.take (i * size) ++ (Builtin.zeroCells z.cells (n - i)).toList ++ cur.toList.drop (i * size + (Builtin.zeroCells z.cells (n - i)).toList.length)).toArray, _, ?_, ⟨?_, .inr ⟨g, c, _, rfl, hb, setRow_heap w g cur _ e _ hg, k1, k2, ?_, rfl⟩⟩, ?_, ?_⟩
    · obtain ⟨m, hm⟩ : ∃ m, n - i = m + 1 := ⟨n - i - 1, by omega⟩
      rw [hm] at hst ⊢
      simp [Builtin.clear_, run_underlying ht, hv, hst]
    · simp only [List.length_take, List.length_append, List.length_drop, Array.length_toList, zl, k3]
      omega
    · simp only [List.size_toArray, List.length_append, List.length_take, List.length_drop, Array.length_toList, zl, k3]
      omega
    · rw [List.take_take, Nat.min_eq_left (by omega), List.append_assoc, List.take_append_of_le_length (by rw [List.length_take, Array.length_toList, k3]; omega), List.take_take, Nat.min_self, ← k4, List.take_take, Nat.min_eq_left (by omega)]
    · exact ⟨rfl, rfl, rfl, by simp [World.setRow], fun k _ hn => setRow_other _ _ _ _ (fun e => hn (by rw [e]; simp))⟩
/-- How far deleting has come. -/
structure Del {α : Type} (p : α → Bool) (xs ys : List α) (i j : Nat) : Prop where
  len : ys.length = xs.length
  lt : i < j
  le : j ≤ xs.length
  ahead : ys.take i = (xs.take j).filter fun x => !p x
  rest : ys.drop j = xs.drop j
theorem Del.start {α : Type} {p : α → Bool} {xs : List α} {k : Nat} (hk : k < xs.length) (h1 : p xs[k] = true) (h2 : ∀ j (hj : j < xs.length), j < k → p xs[j] = false) : Del p xs xs k (k + 1) := by
  refine ⟨rfl, by omega, by omega, ?_, rfl⟩
  rw [List.take_succ_eq_append_getElem hk, List.filter_append]
  have : (xs.take k).filter (fun x => !p x) = xs.take k := by
    rw [List.filter_eq_self]
    intro x hx
    obtain ⟨j, hj, rfl⟩ := List.getElem_of_mem hx
    rw [List.length_take] at hj
    rw [List.getElem_take, h2 j (by omega) (by omega)]; rfl
  rw [this]
  simp [h1]
theorem Del.at {α : Type} {p : α → Bool} {xs ys : List α} {i j : Nat} (h : Del p xs ys i j) (hj : j < xs.length) : ys[j]'(by rw [h.len]; exact hj) = xs[j] := by
  have h1 : ys.drop j = ys[j]'(by rw [h.len]; exact hj) :: ys.drop (j + 1) := List.drop_eq_getElem_cons _
  have h2 : xs.drop j = xs[j] :: xs.drop (j + 1) := List.drop_eq_getElem_cons hj
  have := h.rest
  rw [h1, h2] at this
  exact (List.cons.inj this).1
theorem Del.gone {α : Type} {p : α → Bool} {xs ys : List α} {i j : Nat} (h : Del p xs ys i j) (hj : j < xs.length) (hp : p xs[j] = true) : Del p xs ys i (j + 1) := by
  refine ⟨h.len, by have := h.lt; omega, by omega, ?_, ?_⟩
  · rw [List.take_succ_eq_append_getElem hj, List.filter_append, ← h.ahead]
    simp [hp]
  · have h1 : ys.drop (j + 1) = (ys.drop j).tail := by rw [List.tail_drop]
    have h2 : xs.drop (j + 1) = (xs.drop j).tail := by rw [List.tail_drop]
    rw [h1, h2, h.rest]
theorem Del.keep {α : Type} {p : α → Bool} {xs ys : List α} {i j : Nat} (h : Del p xs ys i j) (hj : j < xs.length) (hp : p xs[j] = false) : Del p xs (ys.set i xs[j]) (i + 1) (j + 1) := by
  have hlt := h.lt
  have hl := h.len
  refine ⟨by rw [List.length_set]; exact h.len, by omega, by omega, ?_, ?_⟩
  · rw [List.take_succ_eq_append_getElem hj, List.filter_append, ← h.ahead, List.take_succ_eq_append_getElem (by rw [List.length_set]; omega), List.take_set, List.getElem_set_self]
    have : (ys.take i).set i xs[j] = ys.take i := List.set_eq_of_length_le (by rw [List.length_take]; omega)
    rw [this]
    simp [hp]
  · rw [List.drop_set_of_lt (by omega)]
    have h1 : ys.drop (j + 1) = (ys.drop j).tail := by rw [List.tail_drop]
    have h2 : xs.drop (j + 1) = (xs.drop j).tail := by rw [List.tail_drop]
    rw [h1, h2, h.rest]
theorem Del.count {α : Type} {p : α → Bool} {xs ys : List α} {i j : Nat} (h : Del p xs ys i j) : ((xs.take j).filter fun x => !p x).length = i := by
  rw [← h.ahead, List.length_take]
  have := h.lt; have := h.le; have := h.len
  omega
theorem idxp_hit {ks : List Int} {p : Int → Bool} {k : Nat} (h : k < ks.length) (hp : p ks[k] = true) (hd : ∀ j (hj : j < ks.length), j < k → p ks[j] = false) : ks.findIdx? p = some k := by
  rw [List.findIdx?_eq_some_iff_getElem]
  exact ⟨h, hp, fun j hj => by rw [hd j (by omega) hj]; decide⟩
theorem idxp_miss {ks : List Int} {p : Int → Bool} (hd : ∀ j (hj : j < ks.length), p ks[j] = false) : ks.findIdx? p = none := by
  rw [List.findIdx?_eq_none_iff]
  intro x hx
  obtain ⟨j, hj, rfl⟩ := List.getElem_of_mem hx
  exact hd j hj
set_option maxHeartbeats 2000000 in
theorem indexFuncI_any (v : Value) (ks : List Int) (p : Int → Bool) (g : Nat) (lb : Array Value) (eg : ∀ args w, (callFunc g args).run Tryz.prog w = .ok (.enter g args) w) (S : List Nat) (w : World) (hv : IntsV w v ks) (hp : PredX g lb (Value.int .i64) p S w) (hl : ks.length ≤ 17592186044416) :
    Calls Tryz.prog 59 #[v, .func (.func g) #[] lb] w fun e w' => e = .returned (.int .i64 (findV (ks.findIdx? p))) ∧ Below w.heap.size w w' := by
  obtain ⟨pp, c, rfl, hv⟩ := hv
  have HIT := hide (fun k h h1 h2 => idxp_hit (ks := ks) (p := p) (k := k) h h1 h2)
  have MISS := hide (fun h => idxp_miss (ks := ks) (p := p) h)
  generalize ks.findIdx? p = R at *
  have HP := hide hp
  clear hp
  go_enter Tryz.func59, Tryz.ntmps59
  go_wp2_with fail
  go_loopw [8] (fun iv wr => ∃ k : Nat, k ≤ ks.length ∧ iv = .int .i64 k ∧ Hid (∀ j (hj : j < ks.length), j < k → p ks[j] = false) ∧ Hid (Below w.heap.size w wr)) (fun iv _ => ks.length - (intOf iv).toNat)
  case atStart => exact ⟨0, Nat.zero_le _, rfl, fun j _ q => by omega, Below.refl _ _⟩
  case round =>
    rename World => wr
    obtain ⟨k, hk, rfl, hd, BW⟩ := hrel
    by_cases h : k < ks.length
    · have i1 : (k : Int) < (ks.length : Int) := by omega
      rcases hv with hv | ⟨b, o, rfl, hv⟩
      · rw [hv] at h; simp at h
      have c0 := cell_below (hv k h) BW.out
      have HC := hide (HP.out wr ks[k] (Chg.of_below BW.out).nil)
      have HK := hide (HIT.out k h)
      have ND := hide (fun q : p ks[k] = false => (fun j (hj : j < ks.length) (r : j < k + 1) => by
        rcases Nat.lt_or_ge j k with t | t
        · exact hd.out j hj t
        · obtain rfl : j = k := by omega
          exact q : ∀ j (hj : j < ks.length), j < k + 1 → p ks[j] = false))
      clear hv HP HIT MISS
      cases q : p ks[k] with
      | true =>
        have E := hide (HK.out q (fun j hj r => hd.out j hj r))
        rw [q] at HC
        clear HK ND q hd
        generalize ks[k] = x1 at *
        go_wp2_with fail
        refine HC.out.mono ?_
        rintro e w' ⟨rfl, hb'⟩
        go_wp2_with fail
        go_ret
        exact ⟨by rw [E.out]; rfl, chain BW.out hb'⟩
      | false =>
        have E := hide (ND.out q)
        rw [q] at HC
        clear HK ND q hd
        generalize ks[k] = x1 at *
        go_wp2_with fail
        refine HC.out.mono ?_
        rintro e w' ⟨rfl, hb'⟩
        go_wp2_with fail
        go_roundw
        case rel => exact ⟨k + 1, by omega, by go_num, E, chain BW.out hb'⟩
        case measure => simp [intOf]; omega
    · obtain rfl : k = ks.length := by omega
      have E := hide (MISS.out (fun j hj => hd.out j hj hj))
      clear HIT MISS hd hv h
      go_wp2_with fail
      go_ret
      exact ⟨by rw [E.out]; rfl, BW.out⟩
set_option maxHeartbeats 4000000 in
set_option maxRecDepth 100000 in
theorem deleteFuncI_any (base : Nat) (v : Value) (xs : List Int) (p : Int → Bool) (g : Nat) (lb : Array Value) (eg : ∀ args w, (callFunc g args).run Tryz.prog w = .ok (.enter g args) w) (w : World) (hown : KidsO base w v xs) (hp : PredX g lb (Value.int .i64) p (v.ownBlock.toList) w) (hl : xs.length ≤ 17592186044416) :
    Calls Tryz.prog 35 #[v, .func (.func g) #[] lb] w fun e w' => ∃ q n c, e = .returned (.slice q n c) ∧ KidsO base w' (.slice q n c) (xs.filter fun x => !p x) ∧ Chg (v.ownBlock.toList) w w' ∧ (Value.slice q n c).ownBlock = v.ownBlock := by
  have HI := hide (indexFuncI_any v xs p g lb eg (v.ownBlock.toList) w hown.ints hp hl)
  have HO := hide hown
  have HP := hide hp
  obtain ⟨pv, nv, cv, ev⟩ : ∃ a n c, v = .slice a n c := by
    rcases hown.2 with ⟨e, _⟩ | ⟨g', cap, cur, e, _⟩
    · exact ⟨_, _, _, e⟩
    · exact ⟨_, _, _, e⟩
  obtain ⟨F, hF⟩ : ∃ F, Hid (xs.findIdx? p = F) := ⟨_, show _ = _ from rfl⟩
  rw [hF.out] at HI
  clear hown hp
  cases F with
  | none =>
    have E : Hid (xs.filter (fun x => !p x) = xs) := by
      show _ = _
      rw [List.filter_eq_self]
      intro x hx
      rw [List.findIdx?_eq_none_iff.1 hF.out x hx]; rfl
    have f1 : findV none = -1 := rfl
    subst ev
    clear hF HP
    go_enter Tryz.func35, Tryz.ntmps35
    go_wp2_with fail
    refine HI.out.mono ?_
    rintro e w1 ⟨rfl, b1⟩
    go_wp2_with fail
    go_ret
    exact ⟨pv, nv, cv, rfl, by rw [E.out]; exact owns_kept HO.out (Chg.of_below b1) (fun _ _ q => by cases q), (Chg.of_below b1).nil, rfl⟩
  | some k =>
    obtain ⟨hk, hk1, hk2⟩ := List.findIdx?_eq_some_iff_getElem.1 hF.out
    have D0 : Hid (Del p xs xs k (k + 1)) := Del.start hk hk1 (fun j hj r => by have := hk2 j r; simpa using this)
    obtain ⟨G, cp, ev2, eb, g0, g1, gc, gm⟩ := owns_at HO.out (by omega)
    rw [ev] at ev2
    obtain ⟨rfl, rfl, rfl⟩ : pv = some ⟨G, 0, none⟩ ∧ nv = xs.length ∧ cv = cp := by cases ev2; exact ⟨rfl, rfl, rfl⟩
    subst ev
    have f1 : ((k : Int) == -1) = false := by rw [beq_eq_false_iff_ne]; omega
    have VB : (Value.slice (some ⟨G, 0, none⟩) xs.length cv).ownBlock = some G := rfl
    have f2 : findV (some k) = (k : Int) := rfl
    have gm' : cv ≤ 9223372036854775807 := by unfold maxLen at gm; omega
    clear hF hk1 hk2 ev2 eb gm
    go_enter Tryz.func35, Tryz.ntmps35
    go_wp2_with fail
    refine HI.out.mono ?_
    rintro e w1 ⟨rfl, b1⟩
    have O1 := hide (owns_kept HO.out (Chg.of_below b1) (fun _ _ q => by cases q))
    have C1 : Hid (Chg [G] w w1) := (Chg.of_below b1).nil
    clear b1 HI HO
    go_wp2_with fail
    go_loopw [5, 6] (fun iv jv wr => ∃ (i j : Nat) (ys : List Int), iv = .int .i64 i ∧ jv = .int .i64 j ∧ Hid (Del p xs ys i j) ∧ Hid (KidsO base wr (.slice (some ⟨G, 0, none⟩) xs.length cv) ys) ∧ Hid (Chg [G] w wr)) (fun _ jv _ => xs.length - (intOf jv).toNat)
    case atStart => exact ⟨k, k + 1, xs, rfl, by go_num, D0, O1, C1⟩
    case round =>
      rename World => wr
      obtain ⟨i, j, ys, rfl, rfl, DD, OO, CC⟩ := hrel
      clear D0 O1 C1
      have ij := DD.out.lt
      have jl := DD.out.le
      have yl := DD.out.len
      have i0 : (0 : Int) ≤ (i : Int) := by omega
      have j0 : (0 : Int) ≤ (j : Int) := by omega
      have i1 : (i : Int) < (xs.length : Int) := by omega
      have i2 : (i : Int) ≤ (xs.length : Int) := by omega
      have i3 : (xs.length : Int) ≤ (cv : Int) := by omega
      have i4 : (i : Int) ≤ (cv : Int) := by omega
      have Glt : G < wr.heap.size := (OO.out.lt G rfl).2
      by_cases h : j < xs.length
      · have j1 : (j : Int) < (xs.length : Int) := by omega
        have hjy : j < ys.length := by omega
        have ey := DD.out.at h
        have cj := cellsI_at (ks := ys) hjy
        have c0 := owns_cell OO.out VB cj
        rw [ey] at c0
        have f0 := owns_free OO.out VB i
        have e0 := owns_cell OO.out VB (cellsI_at (ks := ys) (i := i) (by omega))
        have GN := hide (DD.out.gone h)
        have KP := hide (DD.out.keep h)
        clear cj ey
        obtain ⟨y, hy⟩ : ∃ y, Hid (xs[j] = y) := ⟨xs[j], show _ = _ from rfl⟩
        rw [hy.out] at c0 GN KP
        have HC := hide (HP.out wr y CC.out)
        cases q : p y with
        | true =>
          have D2 := hide (GN.out q)
          rw [q] at HC
          clear GN KP hy q
          go_wp2_with fail
          refine HC.out.mono ?_
          rintro e w3 ⟨rfl, b3⟩
          go_wp2_with fail
          go_roundw
          case rel => exact ⟨i, j + 1, ys, rfl, by go_num, D2, owns_kept OO.out (Chg.of_below b3) (fun _ _ q => by cases q), CC.out.trans (Chg.of_below b3).nil⟩
          case measure => simp [intOf]; omega
        | false =>
          have D2 := hide (KP.out q)
          rw [q] at HC
          clear GN KP hy q
          go_wp2_with fail
          refine HC.out.mono ?_
          rintro e w3 ⟨rfl, b3⟩
          have O3 := hide (owns_kept OO.out (Chg.of_below b3) (fun _ _ q => by cases q))
          have g0' := cell_below e0 b3
          have h0 := owns_free O3.out VB i
          have C3 := hide (Chg.of_below b3)
          clear c0 e0 f0 b3
          go_wp2_with fail
          go_roundw
          case rel =>
            refine ⟨i + 1, j + 1, ys.set i y, by go_num, by go_num, D2, ?_, (CC.out.trans C3.out.nil).trans (Chg.setB _ _ _ _)⟩
            have r := owns_set O3.out VB i (.int .i64 y)
            rw [cellsI_set] at r
            show World.ownsRow _ _ _ _ _ (ys.set i y).length _
            rw [List.length_set]
            exact r
          case measure => simp [intOf]; omega
      · obtain rfl : j = xs.length := by omega
        obtain ⟨wz, zs, CL, OZ, TZ, CZ⟩ := run_clear_own (P := Tryz.prog) wr 38 3 0 (.int .i64 0) Tryz.underlying38 Tryz.zeroValue3 1 rfl (by omega) (fun u hu => by simp [Value.cells] at hu; subst hu; rfl) (by have := OO.out; unfold KidsO at this; rw [yl] at this; exact this) i (cv - i) (by omega)
        have E : Hid (KidsO base wz (.slice (some ⟨G, 0, none⟩) i cv) (xs.filter fun x => !p x)) := by
          have e1 := DD.out.ahead
          have e2 := DD.out.count
          rw [List.take_length] at e1 e2
          refine ⟨?_, ?_⟩
          · rw [e2]; first | rw [cellsI_len, e2, Nat.mul_one] | rw [cellsA_len, e2]
          · obtain ⟨_, q⟩ := OZ
            rcases q with ⟨q, _⟩ | ⟨g', cap, cur, q, h1, h2, h3, h4, h5, h6⟩
            · cases q
            · cases q
              refine .inr ⟨G, cv, cur, by rw [e2], h1, h2, by rw [e2]; omega, h4, h5, ?_⟩
              rw [e2]
              have t1 : cur.toList.take (i * 1) = zs.take (i * 1) := by rw [← h6, List.take_take, Nat.min_eq_left (Nat.mul_le_mul_right _ (by omega))]
              rw [t1, TZ, ← e1]
              simp [cellsI, List.map_take]
        have cl := CL
        first | rw [Nat.mul_one] at cl | skip
        have CF : Hid (Chg [G] w wz) := CC.out.trans CZ
        clear CL OZ TZ CZ h DD
        go_wp2_with fail
        go_ret
        exact ⟨_, _, _, rfl, E.out, CF.out, rfl⟩
end Go.Proofs.YtldbaoolddlacaaGreatDoor

namespace Go.Proofs.YtldbaoolddlacaaGreatDoor
open Go.RowKit
set_option maxRecDepth 100000
def PredM (g : Nat) (lb : Array Value) (p : Int → Bool) (xs : List Int) (S : List Nat) (w : World) : Prop :=
  ∀ (W : World) (x : Int), x ∈ xs → Chg S w W → Calls Tryz.prog g (#[.int .i64 x] ++ lb) W fun e w' => e = .returned (.bool (p x)) ∧ Below W.heap.size W w'
set_option maxHeartbeats 2000000 in
theorem indexFuncM_any (v : Value) (ks : List Int) (p : Int → Bool) (g : Nat) (lb : Array Value) (eg : ∀ args w, (callFunc g args).run Tryz.prog w = .ok (.enter g args) w) (S : List Nat) (w : World) (hv : IntsV w v ks) (hp : PredM g lb p ks S w) (hl : ks.length ≤ 17592186044416) :
    Calls Tryz.prog 59 #[v, .func (.func g) #[] lb] w fun e w' => e = .returned (.int .i64 (findV (ks.findIdx? p))) ∧ Below w.heap.size w w' := by
  obtain ⟨pp, c, rfl, hv⟩ := hv
  have HIT := hide (fun k h h1 h2 => idxp_hit (ks := ks) (p := p) (k := k) h h1 h2)
  have MISS := hide (fun h => idxp_miss (ks := ks) (p := p) h)
  generalize ks.findIdx? p = R at *
  have HP := hide hp
  clear hp
  go_enter Tryz.func59, Tryz.ntmps59
  go_wp2_with fail
  go_loopw [8] (fun iv wr => ∃ k : Nat, k ≤ ks.length ∧ iv = .int .i64 k ∧ Hid (∀ j (hj : j < ks.length), j < k → p ks[j] = false) ∧ Hid (Below w.heap.size w wr)) (fun iv _ => ks.length - (intOf iv).toNat)
  case atStart => exact ⟨0, Nat.zero_le _, rfl, fun j _ q => by omega, Below.refl _ _⟩
  case round =>
    rename World => wr
    obtain ⟨k, hk, rfl, hd, BW⟩ := hrel
    by_cases h : k < ks.length
    · have i1 : (k : Int) < (ks.length : Int) := by omega
      rcases hv with hv | ⟨b, o, rfl, hv⟩
      · rw [hv] at h; simp at h
      have c0 := cell_below (hv k h) BW.out
      have HC := hide (HP.out wr ks[k] (List.getElem_mem h) (Chg.of_below BW.out).nil)
      have HK := hide (HIT.out k h)
      have ND := hide (fun q : p ks[k] = false => (fun j (hj : j < ks.length) (r : j < k + 1) => by
        rcases Nat.lt_or_ge j k with t | t
        · exact hd.out j hj t
        · obtain rfl : j = k := by omega
          exact q : ∀ j (hj : j < ks.length), j < k + 1 → p ks[j] = false))
      clear hv HP HIT MISS
      cases q : p ks[k] with
      | true =>
        have E := hide (HK.out q (fun j hj r => hd.out j hj r))
        rw [q] at HC
        clear HK ND q hd
        generalize ks[k] = x1 at *
        go_wp2_with fail
        refine HC.out.mono ?_
        rintro e w' ⟨rfl, hb'⟩
        go_wp2_with fail
        go_ret
        exact ⟨by rw [E.out]; rfl, chain BW.out hb'⟩
      | false =>
        have E := hide (ND.out q)
        rw [q] at HC
        clear HK ND q hd
        generalize ks[k] = x1 at *
        go_wp2_with fail
        refine HC.out.mono ?_
        rintro e w' ⟨rfl, hb'⟩
        go_wp2_with fail
        go_roundw
        case rel => exact ⟨k + 1, by omega, by go_num, E, chain BW.out hb'⟩
        case measure => simp [intOf]; omega
    · obtain rfl : k = ks.length := by omega
      have E := hide (MISS.out (fun j hj => hd.out j hj hj))
      clear HIT MISS hd hv h
      go_wp2_with fail
      go_ret
      exact ⟨by rw [E.out]; rfl, BW.out⟩
set_option maxHeartbeats 4000000 in
set_option maxRecDepth 100000 in
theorem deleteFuncM_any (base : Nat) (v : Value) (xs : List Int) (p : Int → Bool) (g : Nat) (lb : Array Value) (eg : ∀ args w, (callFunc g args).run Tryz.prog w = .ok (.enter g args) w) (w : World) (hown : KidsO base w v xs) (hp : PredM g lb p xs (v.ownBlock.toList) w) (hl : xs.length ≤ 17592186044416) :
    Calls Tryz.prog 35 #[v, .func (.func g) #[] lb] w fun e w' => ∃ q n c, e = .returned (.slice q n c) ∧ KidsO base w' (.slice q n c) (xs.filter fun x => !p x) ∧ Chg (v.ownBlock.toList) w w' ∧ (Value.slice q n c).ownBlock = v.ownBlock := by
  have HI := hide (indexFuncM_any v xs p g lb eg (v.ownBlock.toList) w hown.ints hp hl)
  have HO := hide hown
  have HP := hide hp
  obtain ⟨pv, nv, cv, ev⟩ : ∃ a n c, v = .slice a n c := by
    rcases hown.2 with ⟨e, _⟩ | ⟨g', cap, cur, e, _⟩
    · exact ⟨_, _, _, e⟩
    · exact ⟨_, _, _, e⟩
  obtain ⟨F, hF⟩ : ∃ F, Hid (xs.findIdx? p = F) := ⟨_, show _ = _ from rfl⟩
  rw [hF.out] at HI
  clear hown hp
  cases F with
  | none =>
    have E : Hid (xs.filter (fun x => !p x) = xs) := by
      show _ = _
      rw [List.filter_eq_self]
      intro x hx
      rw [List.findIdx?_eq_none_iff.1 hF.out x hx]; rfl
    have f1 : findV none = -1 := rfl
    subst ev
    clear hF HP
    go_enter Tryz.func35, Tryz.ntmps35
    go_wp2_with fail
    refine HI.out.mono ?_
    rintro e w1 ⟨rfl, b1⟩
    go_wp2_with fail
    go_ret
    exact ⟨pv, nv, cv, rfl, by rw [E.out]; exact owns_kept HO.out (Chg.of_below b1) (fun _ _ q => by cases q), (Chg.of_below b1).nil, rfl⟩
  | some k =>
    obtain ⟨hk, hk1, hk2⟩ := List.findIdx?_eq_some_iff_getElem.1 hF.out
    have D0 : Hid (Del p xs xs k (k + 1)) := Del.start hk hk1 (fun j hj r => by have := hk2 j r; simpa using this)
    obtain ⟨G, cp, ev2, eb, g0, g1, gc, gm⟩ := owns_at HO.out (by omega)
    rw [ev] at ev2
    obtain ⟨rfl, rfl, rfl⟩ : pv = some ⟨G, 0, none⟩ ∧ nv = xs.length ∧ cv = cp := by cases ev2; exact ⟨rfl, rfl, rfl⟩
    subst ev
    have f1 : ((k : Int) == -1) = false := by rw [beq_eq_false_iff_ne]; omega
    have VB : (Value.slice (some ⟨G, 0, none⟩) xs.length cv).ownBlock = some G := rfl
    have f2 : findV (some k) = (k : Int) := rfl
    have gm' : cv ≤ 9223372036854775807 := by unfold maxLen at gm; omega
    clear hF hk1 hk2 ev2 eb gm
    go_enter Tryz.func35, Tryz.ntmps35
    go_wp2_with fail
    refine HI.out.mono ?_
    rintro e w1 ⟨rfl, b1⟩
    have O1 := hide (owns_kept HO.out (Chg.of_below b1) (fun _ _ q => by cases q))
    have C1 : Hid (Chg [G] w w1) := (Chg.of_below b1).nil
    clear b1 HI HO
    go_wp2_with fail
    go_loopw [5, 6] (fun iv jv wr => ∃ (i j : Nat) (ys : List Int), iv = .int .i64 i ∧ jv = .int .i64 j ∧ Hid (Del p xs ys i j) ∧ Hid (KidsO base wr (.slice (some ⟨G, 0, none⟩) xs.length cv) ys) ∧ Hid (Chg [G] w wr)) (fun _ jv _ => xs.length - (intOf jv).toNat)
    case atStart => exact ⟨k, k + 1, xs, rfl, by go_num, D0, O1, C1⟩
    case round =>
      rename World => wr
      obtain ⟨i, j, ys, rfl, rfl, DD, OO, CC⟩ := hrel
      clear D0 O1 C1
      have ij := DD.out.lt
      have jl := DD.out.le
      have yl := DD.out.len
      have i0 : (0 : Int) ≤ (i : Int) := by omega
      have j0 : (0 : Int) ≤ (j : Int) := by omega
      have i1 : (i : Int) < (xs.length : Int) := by omega
      have i2 : (i : Int) ≤ (xs.length : Int) := by omega
      have i3 : (xs.length : Int) ≤ (cv : Int) := by omega
      have i4 : (i : Int) ≤ (cv : Int) := by omega
      have Glt : G < wr.heap.size := (OO.out.lt G rfl).2
      by_cases h : j < xs.length
      · have j1 : (j : Int) < (xs.length : Int) := by omega
        have hjy : j < ys.length := by omega
        have ey := DD.out.at h
        have cj := cellsI_at (ks := ys) hjy
        have c0 := owns_cell OO.out VB cj
        rw [ey] at c0
        have f0 := owns_free OO.out VB i
        have e0 := owns_cell OO.out VB (cellsI_at (ks := ys) (i := i) (by omega))
        have GN := hide (DD.out.gone h)
        have KP := hide (DD.out.keep h)
        clear cj ey
        obtain ⟨y, hy⟩ : ∃ y, Hid (xs[j] = y) := ⟨xs[j], show _ = _ from rfl⟩
        rw [hy.out] at c0 GN KP
        have HC := hide (HP.out wr y (hy.out ▸ List.getElem_mem h) CC.out)
        cases q : p y with
        | true =>
          have D2 := hide (GN.out q)
          rw [q] at HC
          clear GN KP hy q
          go_wp2_with fail
          refine HC.out.mono ?_
          rintro e w3 ⟨rfl, b3⟩
          go_wp2_with fail
          go_roundw
          case rel => exact ⟨i, j + 1, ys, rfl, by go_num, D2, owns_kept OO.out (Chg.of_below b3) (fun _ _ q => by cases q), CC.out.trans (Chg.of_below b3).nil⟩
          case measure => simp [intOf]; omega
        | false =>
          have D2 := hide (KP.out q)
          rw [q] at HC
          clear GN KP hy q
          go_wp2_with fail
          refine HC.out.mono ?_
          rintro e w3 ⟨rfl, b3⟩
          have O3 := hide (owns_kept OO.out (Chg.of_below b3) (fun _ _ q => by cases q))
          have g0' := cell_below e0 b3
          have h0 := owns_free O3.out VB i
          have C3 := hide (Chg.of_below b3)
          clear c0 e0 f0 b3
          go_wp2_with fail
          go_roundw
          case rel =>
            refine ⟨i + 1, j + 1, ys.set i y, by go_num, by go_num, D2, ?_, (CC.out.trans C3.out.nil).trans (Chg.setB _ _ _ _)⟩
            have r := owns_set O3.out VB i (.int .i64 y)
            rw [cellsI_set] at r
            show World.ownsRow _ _ _ _ _ (ys.set i y).length _
            rw [List.length_set]
            exact r
          case measure => simp [intOf]; omega
      · obtain rfl : j = xs.length := by omega
        obtain ⟨wz, zs, CL, OZ, TZ, CZ⟩ := run_clear_own (P := Tryz.prog) wr 38 3 0 (.int .i64 0) Tryz.underlying38 Tryz.zeroValue3 1 rfl (by omega) (fun u hu => by simp [Value.cells] at hu; subst hu; rfl) (by have := OO.out; unfold KidsO at this; rw [yl] at this; exact this) i (cv - i) (by omega)
        have E : Hid (KidsO base wz (.slice (some ⟨G, 0, none⟩) i cv) (xs.filter fun x => !p x)) := by
          have e1 := DD.out.ahead
          have e2 := DD.out.count
          rw [List.take_length] at e1 e2
          refine ⟨?_, ?_⟩
          · rw [e2]; first | rw [cellsI_len, e2, Nat.mul_one] | rw [cellsA_len, e2]
          · obtain ⟨_, q⟩ := OZ
            rcases q with ⟨q, _⟩ | ⟨g', cap, cur, q, h1, h2, h3, h4, h5, h6⟩
            · cases q
            · cases q
              refine .inr ⟨G, cv, cur, by rw [e2], h1, h2, by rw [e2]; omega, h4, h5, ?_⟩
              rw [e2]
              have t1 : cur.toList.take (i * 1) = zs.take (i * 1) := by rw [← h6, List.take_take, Nat.min_eq_left (Nat.mul_le_mul_right _ (by omega))]
              rw [t1, TZ, ← e1]
              simp [cellsI, List.map_take]
        have cl := CL
        first | rw [Nat.mul_one] at cl | skip
        have CF : Hid (Chg [G] w wz) := CC.out.trans CZ
        clear CL OZ TZ CZ h DD
        go_wp2_with fail
        go_ret
        exact ⟨_, _, _, rfl, E.out, CF.out, rfl⟩
end Go.Proofs.YtldbaoolddlacaaGreatDoor

namespace Go.Proofs.YtldbaoolddlacaaGreatDoor
open Go.RowKit
set_option maxHeartbeats 4000000 in
set_option maxRecDepth 100000 in
theorem byType1_any (x : ByteArray × ByteArray) (W : World) :
    Calls Tryz.prog 84 #[.agg #[.string x.1, .string x.2]] W fun e w' => e = .returned (.bool (isN tyS x)) ∧ Below W.heap.size W w' := by
  have E : Hid ((x.1.toList == [116, 121, 112, 101]) = isN tyS x) := lit_dec x.1 [116, 121, 112, 101]
  generalize isN tyS x = r at *
  generalize x.1 = a at *
  generalize x.2 = b at *
  go_enter Tryz.func84, Tryz.ntmps84
  go_wp2_with fail
  go_ret
  exact ⟨ret_bool E.out, (Below.refl _ W).alloc (Nat.le_refl _) _⟩
theorem entersBy : ∀ args w, (callFunc 84 args).run Tryz.prog w = .ok (.enter 84 args) w := Go.Proofs.enters_of Tryz.func84 (by kernel_rfl) rfl
theorem by_pred (w : World) : PredA 84 #[] (isN tyS) w := fun W x _ => byType1_any x W
set_option maxHeartbeats 4000000 in
set_option maxRecDepth 100000 in
theorem byType_any (n : Nd) (va vk : Value) (f l : Nat) (z : Int) (w : World) (hT : KTabs w) (ha : AttrsV w va n.attrs) (hl : n.attrs.length ≤ 4398046511104) (hs : ∀ a ∈ n.attrs, a.2.size ≤ 140737488351232) :
    Calls Tryz.prog 67 #[.agg #[.string n.name, .string n.text, va, .int .i64 n.parent, vk], .int .i64 (f : Int), .int .i64 (l : Int), .int .i64 z] w fun e w' => e = .returned (.int .i64 (byT (tyOf n.attrs) f l z)) ∧ Below w.heap.size w w' := by
  have B0 : Hid (Below w.heap.size w (w.alloc (.cells #[.string n.name, .string n.text, va, .int .i64 n.parent, vk] 40))) := (Below.refl _ w).alloc (Nat.le_refl _) _
  have k0 : (w.alloc (.cells #[.string n.name, .string n.text, va, .int .i64 n.parent, vk] 40)).cell? ⟨w.heap.size, 0, none⟩ = some (.string n.name) := by simp
  have k1 : (w.alloc (.cells #[.string n.name, .string n.text, va, .int .i64 n.parent, vk] 40)).cell? ⟨w.heap.size, 1, none⟩ = some (.string n.text) := by simp
  have k2 : (w.alloc (.cells #[.string n.name, .string n.text, va, .int .i64 n.parent, vk] 40)).cell? ⟨w.heap.size, 2, none⟩ = some (va) := by simp
  have k3 : (w.alloc (.cells #[.string n.name, .string n.text, va, .int .i64 n.parent, vk] 40)).cell? ⟨w.heap.size, 3, none⟩ = some (.int .i64 n.parent) := by simp
  have k4 : (w.alloc (.cells #[.string n.name, .string n.text, va, .int .i64 n.parent, vk] 40)).cell? ⟨w.heap.size, 4, none⟩ = some (vk) := by simp
  have HI := hide (indexFuncA_any va n.attrs (isN tyS) 84 #[] entersBy (w.alloc (.cells #[.string n.name, .string n.text, va, .int .i64 n.parent, vk] 40)) (ha.below B0.out) (by_pred _) hl)
  have HTW := hide hT
  have AV := hide (ha.below B0.out)
  have FE : Hid (n.attrs.findIdx? (isN tyS) = findA n.attrs tyS) := rfl
  rw [FE.out] at HI
  obtain ⟨p, c, rfl, hv⟩ := ha
  cases hf : findA n.attrs tyS with
  | none =>
    have E : Hid (byT (tyOf n.attrs) f l z = z) := by show _ = _; unfold tyOf; rw [hf]; rfl
    rw [hf] at HI
    have ev : findV none = -1 := rfl
    rw [ev] at HI
    clear hf hv hs hl hT FE ev
    go_enter Tryz.func67, Tryz.ntmps67
    go_wp2_with fail
    generalize w.alloc (.cells #[.string n.name, .string n.text, .slice p n.attrs.length c, .int .i64 n.parent, vk] 40) = w0 at *
    obtain ⟨nb, hnb⟩ : ∃ nb, Hid (w.heap.size = nb) := ⟨_, show _ = _ from rfl⟩
    refine HI.out.mono ?_
    rintro e w1 ⟨rfl, b1⟩
    go_wp2_with fail
    go_ret
    exact ⟨ret_int E.out.symm, chain B0.out b1⟩
  | some i =>
    obtain ⟨hi, _, _⟩ := List.findIdx?_eq_some_iff_getElem.1 (show n.attrs.findIdx? (isN tyS) = some i from hf)
    obtain ⟨t, ht⟩ : ∃ t, Hid (n.attrs[i].2 = t) := ⟨_, show _ = _ from rfl⟩
    have E : Hid (byT (tyOf n.attrs) f l z = kInt (seekR (lowS t) f l 30 0) z) := by
      show _ = _
      unfold tyOf
      rw [hf, ← ht.out]
      show kInt (seekR (lowS (n.attrs.getD i at0).2) f l 30 0) z = _
      rw [show n.attrs.getD i at0 = n.attrs[i] by simp [List.getD, hi]]
    rw [hf] at HI
    have ev : findV (some i) = (i : Int) := rfl
    rw [ev] at HI
    have i0 : (0 : Int) ≤ (i : Int) := by omega
    have i1 : (i : Int) < (n.attrs.length : Int) := by omega
    have i2 : ¬ (i : Int) < 0 := by omega
    have ts := hs _ (List.getElem_mem hi)
    rw [ht.out] at ts
    have HL := hide (fun W => lower_any t W (by unfold maxLen; omega))
    obtain ⟨b, o, rfl, hv2⟩ : ∃ b o, p = some ⟨b, o, none⟩ ∧ ∀ i (h : i < n.attrs.length), w.cell? ⟨b, o + i * 2, none⟩ = some (.string n.attrs[i].1) ∧ w.cell? ⟨b, o + i * 2 + 1, none⟩ = some (.string n.attrs[i].2) := by
      rcases hv with t | t
      · rw [t] at hi; simp at hi
      · exact t
    have c1 := cell_below (hv2 i hi).2 B0.out
    rw [ht.out] at c1
    obtain ⟨A, hA⟩ : ∃ A, Hid (seekR (lowS t) f l 30 0 = A) := ⟨_, show _ = _ from rfl⟩
    rw [hA.out] at E
    clear hf hv hv2 hs hT FE ev
    go_enter Tryz.func67, Tryz.ntmps67
    go_wp2_with fail
    generalize w.alloc (.cells #[.string n.name, .string n.text, .slice (some ⟨b, o, none⟩) n.attrs.length c, .int .i64 n.parent, vk] 40) = w0 at *
    obtain ⟨nb, hnb⟩ : ∃ nb, Hid (w.heap.size = nb) := ⟨_, show _ = _ from rfl⟩
    refine HI.out.mono ?_
    rintro e w1 ⟨rfl, b1⟩
    have B1 := hide (chain B0.out b1)
    have m2 := cell_below k2 b1
    have c1' := cell_below c1 b1
    clear b1 k0 k1 k2 k3 k4 c1
    go_wp2_with fail
    refine (HL.out _).mono ?_
    rintro e w2 ⟨rfl, b2⟩
    have B2 := hide (chain B1.out b2)
    have T2 := HTW.out.below B2.out
    obtain ⟨CS, hld, hin, hix⟩ := load_types w2 T2
    have HIX := hide hix
    have HLD := hide hld
    have HIN := hide hin
    clear hix hld hin
    clear T2 m2 c1' b2
    generalize lowS t = s at *
    go_upto_region 5 with fail
    refine wp_region_lit ?_
    refine wpList_load_mid rfl 104 _ rfl 1 0 rfl CS _ HLD.out Tryz.underlying104 rfl HIN.out ?_
    generalize CS.toArray = CA at *
    go_wp2_with fail
    go_loop [27] (fun iv => ∃ k : Nat, k ≤ 30 ∧ iv = .int .i64 k ∧ Hid (seekR s f l (30 - k) k = A)) (fun iv => 30 - (intOf iv).toNat)
    case atStart => exact ⟨0, Nat.zero_le _, rfl, hA⟩
    case round =>
      obtain ⟨k, hk, rfl, hn⟩ := hrel
      clear hA
      by_cases hlt : k < 30
      · have hix := HIX.out k hlt w2
        have HB := hide (between_any (k : Int) (f : Int) (l : Int))
        have HIT := hide (fun q1 q2 => seek_hit hlt hn.out q1 q2)
        have MISS := hide (fun q => seek_miss hlt hn.out q)
        have kk : (k : Int) < 30 := by omega
        have TB := hide (txt_beq (typeN k) s)
        cases hb : btwB (k : Int) (f : Int) (l : Int) with
        | false =>
          rw [hb] at HB
          have N := hide (MISS.out (.inl hb))
          clear hb HIT MISS hn
          generalize typeN k = x at *
          go_wp2_with fail
          refine (HB.out _).mono ?_
          rintro e u ⟨rfl, hu⟩
          obtain rfl : w2 = u := hu.symm
          go_wp2_with fail
          go_round
          case rel => exact ⟨k + 1, by omega, by go_num, N⟩
          case measure => simp [intOf]; omega
        | true =>
          rw [hb] at HB
          by_cases he : typeN k = s
          · have q : ((typeN k).toList == s.toList) = true := by rw [TB.out]; exact decide_eq_true he
            have N := hide (HIT.out hb he)
            clear hb HIT MISS hn he
            generalize typeN k = x at *
            go_wp2_with fail
            refine (HB.out _).mono ?_
            rintro e u ⟨rfl, hu⟩
            obtain rfl : w2 = u := hu.symm
            go_wp2_with fail
            go_ret
            exact ⟨by rw [E.out, N.out]; rfl, B2.out⟩
          · have q : ((typeN k).toList == s.toList) = false := by rw [TB.out]; exact decide_eq_false he
            have N := hide (MISS.out (.inr he))
            clear hb HIT MISS hn he
            generalize typeN k = x at *
            go_wp2_with fail
            refine (HB.out _).mono ?_
            rintro e u ⟨rfl, hu⟩
            obtain rfl : w2 = u := hu.symm
            go_wp2_with fail
            go_round
            case rel => exact ⟨k + 1, by omega, by go_num, N⟩
            case measure => simp [intOf]; omega
      · obtain rfl : k = 30 := by omega
        have N : Hid (A = none) := hn.out.symm
        clear hn hlt
        go_wp2_with fail
        go_ret
        exact ⟨by rw [E.out, N.out]; rfl, B2.out⟩

end Go.Proofs.YtldbaoolddlacaaGreatDoor
