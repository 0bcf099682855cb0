/- A block of the call's own. The text of the first attribute of a name. The program's finder and what it answers, numberOf, Least, Most, Base of layer 12. The program's multiply and Step of layer 12. -/
import Derived.Test.YtfjfkkbgkjmghaaGreatDoorJct14

namespace Go.Proofs.YtfjfkkbgkjmghaaGreatDoor
open Go.RowKit
structure Bk (w : World) (n : Nat) (cs : List Value) (t : TypeId) : Prop where
  lies : w.heap[n]? = some (.cells cs.toArray t (0, 0))
theorem Bk.new (w : World) (cs : List Value) (t : TypeId) : Bk (w.alloc (.cells cs.toArray t)) w.heap.size cs t := ⟨by
  show (w.heap.push (.cells cs.toArray t (0, 0)))[w.heap.size]? = _
  simp⟩
theorem Bk.lt {w : World} {n : Nat} {cs : List Value} {t : TypeId} (h : Bk w n cs t) : n < w.heap.size := (Array.getElem?_eq_some_iff.1 h.lies).1
theorem Bk.cell {w : World} {n : Nat} {cs : List Value} {t : TypeId} (h : Bk w n cs t) (k : Nat) {u : Value} (hu : cs[k]? = some u) : w.cell? ⟨n, k, none⟩ = some u := by
  simp only [World.cell?, h.lies]
  simpa using hu
theorem Bk.free {w : World} {n : Nat} {cs : List Value} {t : TypeId} (h : Bk w n cs t) (k : Nat) : w.frozen? ⟨n, k, none⟩ = false := by
  simp only [World.frozen?, h.lies]; simp
theorem Bk.below {w w' : World} {n : Nat} {cs : List Value} {t : TypeId} (h : Bk w n cs t) (hb : Below w.heap.size w w') : Bk w' n cs t := ⟨(hb.block n h.lt).trans h.lies⟩
theorem Bk.set {w : World} {n : Nat} {cs : List Value} {t : TypeId} (h : Bk w n cs t) (k : Nat) (u : Value) : Bk (w.setCell ⟨n, k, none⟩ u) n (cs.set k u) t := by
  refine ⟨?_⟩
  simp only [World.setCell, Array.getElem?_modify, if_true, h.lies]
  simp
theorem Bk.other {w : World} {n m : Nat} {cs : List Value} {t : TypeId} (h : Bk w n cs t) (hm : m ≠ n) (k : Nat) (u : Value) : Bk (w.setCell ⟨m, k, none⟩ u) n cs t := ⟨(Below.heap_setCell _ _ _ _ (fun e => hm e.symm)).trans h.lies⟩
end Go.Proofs.YtfjfkkbgkjmghaaGreatDoor

namespace Go.Proofs.YtfjfkkbgkjmghaaGreatDoor
open Go.RowKit
/-- The text of the first attribute of a name. -/
def fndS (ax : List (ByteArray × ByteArray)) (name : ByteArray) : ByteArray := match findA ax name with
  | none => ⟨#[]⟩
  | some i => (ax.getD i at0).2
theorem fnd_hit {ax : List (ByteArray × ByteArray)} {n : ByteArray} {k : Nat} (hk : k < ax.length) (h : findA ax n = some k) : fndS ax n = ax[k].2 ∧ (findA ax n).isSome = true := by
  unfold fndS
  rw [h]
  exact ⟨by show (ax.getD k at0).2 = _; rw [show ax.getD k at0 = ax[k] by simp [List.getD, hk]], rfl⟩
theorem fnd_miss {ax : List (ByteArray × ByteArray)} {n : ByteArray} (h : findA ax n = none) : fndS ax n = ⟨#[]⟩ ∧ (findA ax n).isSome = false := by
  unfold fndS
  rw [h]
  exact ⟨rfl, rfl⟩
end Go.Proofs.YtfjfkkbgkjmghaaGreatDoor

namespace Go.Proofs.YtfjfkkbgkjmghaaGreatDoor
open Go.RowKit
set_option maxRecDepth 100000 in
theorem index_two (x y : Value) : (∀ w, (Instr.index 160 (.agg #[x, y]) (.int .i64 0)).run Tryz.prog w = .ok x w) ∧ (∀ w, (Instr.index 160 (.agg #[x, y]) (.int .i64 1)).run Tryz.prog w = .ok y w) := ⟨fun _ => rfl, fun _ => rfl⟩
theorem opt_some' (n : Int) : optV (some n) = .tuple #[.int .i64 n, .bool true] := rfl
theorem opt_none' : optV none = .tuple #[.int .i64 0, .bool false] := rfl
theorem ret_fnd {a b : ByteArray} {c d : Bool} (h : a = b) (g : c = d) : Ending.returned (.tuple #[.string a, .bool c]) = .returned (.tuple #[.string b, .bool d]) := by rw [h, g]
set_option maxHeartbeats 4000000 in
set_option maxRecDepth 100000 in
theorem finder_any (v : Value) (hv : ∃ p n c, v = .slice p n c) (w : World) :
    Calls Tryz.prog 163 #[v] w fun e w' => e = .returned (.func (.func 203) #[] #[.pointer (some ⟨w.heap.size, 0, none⟩)]) ∧ w' = w.alloc (.cells #[v] 25) := by
  obtain ⟨p, n, c, rfl⟩ := hv
  go_enter Tryz.func163, Tryz.ntmps163
  go_wp2_with fail
  go_ret
  exact ⟨rfl, rfl⟩
set_option maxHeartbeats 4000000 in
set_option maxRecDepth 100000 in
theorem finder1_any (B : Nat) (v : Value) (ax : List (ByteArray × ByteArray)) (n : ByteArray) (w : World) (hB : w.cell? ⟨B, 0, none⟩ = some v) (hv : AttrsV w v ax) (hl : ax.length ≤ 4398046511104) :
    Calls Tryz.prog 203 #[.string n, .pointer (some ⟨B, 0, none⟩)] w fun e w' => e = .returned (.tuple #[.string (fndS ax n), .bool (findA ax n).isSome]) ∧ Below w.heap.size w w' := by
  obtain ⟨p, c, rfl, hk⟩ := hv
  have HIT := hide (fun k hk h e => fnd_hit (ax := ax) (n := n) (k := k) hk (find_hit (ax := ax) (n := n) (k := k) hk h e))
  have END := hide (fun h => fnd_miss (find_none (ax := ax) (n := n) h))
  generalize fndS ax n = R1 at *
  generalize (findA ax n).isSome = R2 at *
  go_enter Tryz.func203, Tryz.ntmps203
  go_wp2_with fail
  go_loopw [9] (fun iv wr => ∃ j : Nat, j ≤ ax.length ∧ iv = .int .i64 j ∧ Hid (∀ m (_ : m < ax.length), m < j → ¬ ax[m].1 = n) ∧ Hid (Below w.heap.size w wr)) (fun iv _ => ax.length - (intOf iv).toNat)
  case atStart => exact ⟨0, Nat.zero_le _, rfl, fun m _ h => by omega, Below.refl _ _⟩
  case round =>
    rename World => wr
    obtain ⟨j, hj, rfl, hd, BW⟩ := hrel
    by_cases h : j < ax.length
    · have i1 : (j : Int) < (ax.length : Int) := by omega
      rcases hk with hk | ⟨b, o, rfl, hk⟩
      · subst hk; simp at h
      have c0 := cell_below (hk j h).1 BW.out
      have c1 := cell_below (hk j h).2 BW.out
      have hlt : b < wr.heap.size := World.block_lt_of_cell? _ _ c0
      have hne : b ≠ wr.heap.size := by omega
      have NB := hide (BW.out.alloc BW.out.size (.cells #[.string ax[j].1, .string ax[j].2] 49))
      by_cases e : ax[j].1 = n
      · have E := hide (HIT.out j h hd.out e)
        have d : (ax[j].1.toList == n.toList) = true := by rw [txt_beq]; exact decide_eq_true e
        clear e hd HIT END hk
        generalize ax[j].1 = aj at *
        generalize ax[j].2 = bj at *
        go_wp2_with fail
        go_ret2
        exact ⟨ret_fnd E.out.1.symm E.out.2.symm, NB.out⟩
      · have d : (ax[j].1.toList == n.toList) = false := by rw [txt_beq]; exact decide_eq_false e
        have hd' : Hid (∀ m (_ : m < ax.length), m < j + 1 → ¬ ax[m].1 = n) := by
          intro m hm hmj
          rcases Nat.lt_or_ge m j with q | q
          · exact hd.out m hm q
          · obtain rfl : m = j := by omega
            exact e
        clear e hd HIT END hk
        generalize ax[j].1 = aj at *
        generalize ax[j].2 = bj at *
        go_wp2_with fail
        go_roundw
        case rel => exact ⟨j + 1, by omega, by go_num, hd', NB⟩
        case measure => simp [intOf]; omega
    · obtain rfl : j = ax.length := by omega
      have E := hide (END.out (fun m hm => hd.out m hm hm))
      clear hd HIT END hk
      go_wp2_with fail
      go_ret2
      exact ⟨ret_fnd E.out.1.symm E.out.2.symm, BW.out⟩
theorem attr_some {k : Int} {ax : List (ByteArray × ByteArray)} {n : ByteArray} (h : (findA ax n).isSome = true) : attrK k ax n = numK k (fndS ax n).data.toList := by
  unfold attrK fndS
  cases e : findA ax n with
  | none => rw [e] at h; cases h
  | some i => rfl
theorem attr_none {k : Int} {ax : List (ByteArray × ByteArray)} {n : ByteArray} (h : (findA ax n).isSome = false) : attrK k ax n = none := by
  unfold attrK
  cases e : findA ax n with
  | none => rfl
  | some i => rw [e] at h; cases h
theorem fnd_small {ax : List (ByteArray × ByteArray)} (hz : AxOK ax) (n : ByteArray) : (fndS ax n).size ≤ 100000 := by
  unfold fndS
  split
  · decide
  · rename_i i e
    obtain ⟨hi, _, _⟩ := List.findIdx?_eq_some_iff_getElem.1 (show ax.findIdx? (isN n) = some i from e)
    rw [show ax.getD i at0 = ax[i] by simp [List.getD, hi]]
    exact hz.val _ (List.getElem_mem hi)
set_option maxHeartbeats 4000000 in
set_option maxRecDepth 100000 in
theorem numberOf_any (k : Int) (B : Nat) (v : Value) (ax : List (ByteArray × ByteArray)) (n : ByteArray) (w : World) (hB : w.cell? ⟨B, 0, none⟩ = some v) (hv : AttrsV w v ax) (hz : AxOK ax) (hT : StTabs w) :
    Calls Tryz.prog 166 #[.int .i64 k, (.func (.func 203) #[] #[.pointer (some ⟨B, 0, none⟩)]), .string n] w fun e w' => e = .returned (optV (attrK k ax n)) ∧ Below w.heap.size w w' := by
  have HF := hide (finder1_any B v ax n w hB hv hz.len)
  cases hf : (findA ax n).isSome with
  | true =>
    have E := hide (attr_some (k := k) hf)
    have HV := hide (fun W (hb : Below w.heap.size w W) => stValue_any k (fndS ax n) W (fnd_small hz n) (hT.below hb))
    rw [← E.out] at HV
    rw [hf] at HF
    generalize attrK k ax n = r at *
    generalize fndS ax n = t at *
    unfold optV at *
    clear E hf hT hv hz hB
    go_enter Tryz.func166, Tryz.ntmps166
    go_wp2_with fail
    refine HF.out.mono ?_
    rintro e u1 ⟨rfl, b1⟩
    go_wp2_with fail
    refine (HV.out _ b1).mono ?_
    rintro e u2 ⟨rfl, b2⟩
    go_wp2_with fail
    go_ret2
    exact ⟨rfl, chain b1 b2⟩
  | false =>
    have E := hide (attr_none (k := k) hf)
    rw [hf] at HF
    generalize fndS ax n = t at *
    clear hf hT hv hz hB
    go_enter Tryz.func166, Tryz.ntmps166
    go_wp2_with fail
    refine HF.out.mono ?_
    rintro e u1 ⟨rfl, b1⟩
    go_wp2_with fail
    go_ret2
    exact ⟨by rw [E.out]; rfl, b1⟩
/-- A function that looks for attributes, in a later world. -/
structure FndAt (w : World) (B : Nat) (v : Value) (ax : List (ByteArray × ByteArray)) : Prop where
  cell : w.cell? ⟨B, 0, none⟩ = some v
  row : AttrsV w v ax
theorem FndAt.below {w w' : World} {B : Nat} {v : Value} {ax : List (ByteArray × ByteArray)} (h : FndAt w B v ax) (hb : Below w.heap.size w w') : FndAt w' B v ax := ⟨cell_below h.cell hb, h.row.below hb⟩
theorem fnd_new {w : World} {v : Value} {ax : List (ByteArray × ByteArray)} (hv : AttrsV w v ax) : FndAt (w.alloc (.cells #[v] 25)) w.heap.size v ax :=
  ⟨(Bk.new w [v] 25).cell 0 rfl, hv.below ((Below.refl _ w).alloc (Nat.le_refl _) _)⟩
set_option maxHeartbeats 4000000 in
set_option maxRecDepth 100000 in
theorem stLeast_any (k : Int) (v : Value) (ax : List (ByteArray × ByteArray)) (w : World) (hv : AttrsV w v ax) (hz : AxOK ax) (hT : StTabs w) :
    Calls Tryz.prog 161 #[.int .i64 k, v] w fun e w' => e = .returned (optV (leastK k ax)) ∧ Below w.heap.size w w' := by
  have HF := hide (finder_any v (by obtain ⟨p, c, e, _⟩ := hv; exact ⟨p, _, c, e⟩) w)
  have B0 : Hid (Below w.heap.size w (w.alloc (.cells #[v] 25))) := (Below.refl _ w).alloc (Nat.le_refl _) _
  have HN := hide (fun n W (hb : Below w.heap.size w W) (h : FndAt W w.heap.size v ax) => numberOf_any k w.heap.size v ax n W h.cell h.row hz (hT.below hb))
  have F0 := hide (fnd_new hv)
  have E : Hid (leastK k ax = if (attrK k ax minS).isSome then attrK k ax minS else if k = 14 then some 0 else none) := rfl
  replace HN := hide (HN.out minS)
  rw [show minS = ⟨#[109, 105, 110]⟩ from rfl] at HN E
  generalize leastK k ax = L at *
  generalize attrK k ax ⟨#[109, 105, 110]⟩ = A at *
  obtain ⟨p, c, rfl, _⟩ := hv
  clear hz hT
  cases A with
  | some n =>
    have e : L = some n := E.out
    subst e
    clear E
    unfold optV at *
    go_enter Tryz.func161, Tryz.ntmps161
    go_wp2_with fail
    refine HF.out.mono ?_
    rintro e w0 ⟨rfl, e0⟩
    rw [← e0] at B0 F0
    clear e0 HF
    go_wp2_with fail
    refine (HN.out _ B0.out F0.out).mono ?_
    rintro e u1 ⟨rfl, b1⟩
    have B1 := hide (chain B0.out b1)
    go_wp2_with fail
    go_ret2
    exact ⟨rfl, B1.out⟩
  | none =>
    by_cases h : k = 14
    · have e : L = some 0 := by rw [E.out]; exact if_pos h
      subst e h
      clear E
      unfold optV at *
      go_enter Tryz.func161, Tryz.ntmps161
      go_wp2_with fail
      refine HF.out.mono ?_
      rintro e w0 ⟨rfl, e0⟩
      rw [← e0] at B0 F0
      clear e0 HF
      go_wp2_with fail
      refine (HN.out _ B0.out F0.out).mono ?_
      rintro e u1 ⟨rfl, b1⟩
      have B1 := hide (chain B0.out b1)
      go_wp2_with fail
      go_ret2
      exact ⟨rfl, B1.out⟩
    · have e : L = none := by rw [E.out]; exact if_neg h
      have b14 : (k == 14) = false := beq_eq_false_iff_ne.2 h
      subst e
      clear E
      unfold optV at *
      go_enter Tryz.func161, Tryz.ntmps161
      go_wp2_with fail
      refine HF.out.mono ?_
      rintro e w0 ⟨rfl, e0⟩
      rw [← e0] at B0 F0
      clear e0 HF
      go_wp2_with fail
      refine (HN.out _ B0.out F0.out).mono ?_
      rintro e u1 ⟨rfl, b1⟩
      have B1 := hide (chain B0.out b1)
      go_wp2_with fail
      go_ret2
      exact ⟨rfl, B1.out⟩
set_option maxHeartbeats 4000000 in
set_option maxRecDepth 100000 in
theorem stMost_any (k : Int) (v : Value) (ax : List (ByteArray × ByteArray)) (w : World) (hv : AttrsV w v ax) (hz : AxOK ax) (hT : StTabs w) :
    Calls Tryz.prog 162 #[.int .i64 k, v] w fun e w' => e = .returned (optV (mostK k ax)) ∧ Below w.heap.size w w' := by
  have HF := hide (finder_any v (by obtain ⟨p, c, e, _⟩ := hv; exact ⟨p, _, c, e⟩) w)
  have B0 : Hid (Below w.heap.size w (w.alloc (.cells #[v] 25))) := (Below.refl _ w).alloc (Nat.le_refl _) _
  have HN := hide (fun n W (hb : Below w.heap.size w W) (h : FndAt W w.heap.size v ax) => numberOf_any k w.heap.size v ax n W h.cell h.row hz (hT.below hb))
  have F0 := hide (fnd_new hv)
  have HL := hide (fun W (hb : Below w.heap.size w W) => stLeast_any k v ax W (hv.below hb) hz (hT.below hb))
  have E : Hid (mostK k ax = if (attrK k ax maxS).isSome then attrK k ax maxS else if k = 14 then some (if 100000000 < optI (leastK k ax) then optI (leastK k ax) else 100000000) else none) := rfl
  replace HN := hide (HN.out maxS)
  rw [show maxS = ⟨#[109, 97, 120]⟩ from rfl] at HN E
  generalize mostK k ax = L at *
  generalize attrK k ax ⟨#[109, 97, 120]⟩ = A at *
  generalize leastK k ax = Lo at *
  obtain ⟨p, c, rfl, _⟩ := hv
  clear hz hT
  cases A with
  | some n =>
    have e : L = some n := E.out
    subst e
    clear E HL
    unfold optV at *
    go_enter Tryz.func162, Tryz.ntmps162
    go_wp2_with fail
    refine HF.out.mono ?_
    rintro e w0 ⟨rfl, e0⟩
    rw [← e0] at B0 F0
    clear e0 HF
    go_wp2_with fail
    refine (HN.out _ B0.out F0.out).mono ?_
    rintro e u1 ⟨rfl, b1⟩
    have B1 := hide (chain B0.out b1)
    go_wp2_with fail
    go_ret2
    exact ⟨rfl, B1.out⟩
  | none =>
    by_cases h : k = 14
    · have e : L = some (if 100000000 < optI Lo then optI Lo else 100000000) := by rw [E.out]; exact if_pos h
      subst h
      clear E
      unfold optV at *
      generalize optI Lo = lo at *
      generalize Lo.isSome = is at *
      have M : Hid (L = some (max 100000000 lo)) := by show _ = _; rw [e]; congr 1; split <;> omega
      clear e
      go_enter Tryz.func162, Tryz.ntmps162
      go_wp2_with fail
      refine HF.out.mono ?_
      rintro e w0 ⟨rfl, e0⟩
      rw [← e0] at B0 F0
      clear e0 HF
      go_wp2_with fail
      refine (HN.out _ B0.out F0.out).mono ?_
      rintro e u1 ⟨rfl, b1⟩
      have B1 := hide (chain B0.out b1)
      go_wp2_with fail
      refine (HL.out _ B1.out).mono ?_
      rintro e u2 ⟨rfl, b2⟩
      go_wp2_with fail
      go_ret2
      exact ⟨by rw [M.out]; rfl, chain B1.out b2⟩
    · have e : L = none := by rw [E.out]; exact if_neg h
      have b14 : (k == 14) = false := beq_eq_false_iff_ne.2 h
      subst e
      clear E HL
      unfold optV at *
      go_enter Tryz.func162, Tryz.ntmps162
      go_wp2_with fail
      refine HF.out.mono ?_
      rintro e w0 ⟨rfl, e0⟩
      rw [← e0] at B0 F0
      clear e0 HF
      go_wp2_with fail
      refine (HN.out _ B0.out F0.out).mono ?_
      rintro e u1 ⟨rfl, b1⟩
      have B1 := hide (chain B0.out b1)
      go_wp2_with fail
      go_ret2
      exact ⟨rfl, B1.out⟩
set_option maxHeartbeats 4000000 in
set_option maxRecDepth 100000 in
theorem stBase_any (k : Int) (v : Value) (ax : List (ByteArray × ByteArray)) (w : World) (hv : AttrsV w v ax) (hz : AxOK ax) (hT : StTabs w) :
    Calls Tryz.prog 122 #[.int .i64 k, v] w fun e w' => e = .returned (.int .i64 (baseK k ax)) ∧ Below w.heap.size w w' := by
  have HF := hide (finder_any v (by obtain ⟨p, c, e, _⟩ := hv; exact ⟨p, _, c, e⟩) w)
  have B0 : Hid (Below w.heap.size w (w.alloc (.cells #[v] 25))) := (Below.refl _ w).alloc (Nat.le_refl _) _
  have HN := hide (fun n W (hb : Below w.heap.size w W) (h : FndAt W w.heap.size v ax) => numberOf_any k w.heap.size v ax n W h.cell h.row hz (hT.below hb))
  have F0 := hide (fnd_new hv)
  have E : Hid (baseK k ax = if (attrK k ax minS).isSome then optI (attrK k ax minS) else if (attrK k ax valS).isSome then optI (attrK k ax valS) else if k = 10 then -259200000 else 0) := rfl
  have H1 := hide (HN.out minS)
  have H2 := hide (HN.out valS)
  rw [show minS = ⟨#[109, 105, 110]⟩ from rfl] at H1 E
  rw [show valS = ⟨#[118, 97, 108, 117, 101]⟩ from rfl] at H2 E
  generalize baseK k ax = L at *
  generalize attrK k ax ⟨#[109, 105, 110]⟩ = A at *
  generalize attrK k ax ⟨#[118, 97, 108, 117, 101]⟩ = C at *
  obtain ⟨p, c, rfl, _⟩ := hv
  clear hz hT HN
  have x0 := (index_two (.string ⟨#[109, 105, 110]⟩) (.string ⟨#[118, 97, 108, 117, 101]⟩)).1
  have x1 := (index_two (.string ⟨#[109, 105, 110]⟩) (.string ⟨#[118, 97, 108, 117, 101]⟩)).2
  go_enter Tryz.func122, Tryz.ntmps122
  go_wp2_with fail
  refine HF.out.mono ?_
  rintro e w0 ⟨rfl, e0⟩
  rw [← e0] at B0 F0
  clear e0 HF
  go_wp2_with fail
  go_loopw [13] (fun iv wr => ∃ j : Nat, j ≤ 2 ∧ iv = .int .i64 j ∧ Hid (1 ≤ j → A = none) ∧ Hid (j = 2 → C = none) ∧ Hid (Below w.heap.size w wr) ∧ Hid (FndAt wr w.heap.size (.slice p ax.length c) ax)) (fun iv _ => 2 - (intOf iv).toNat)
  case atStart => exact ⟨0, by decide, rfl, fun q => by omega, fun q => by omega, B0, F0⟩
  case round =>
    rename World => wr
    obtain ⟨j, hj, rfl, a1, a2, BW, FW⟩ := hrel
    clear B0 F0
    rcases (show j = 0 ∨ j = 1 ∨ j = 2 by omega) with rfl | rfl | rfl
    · cases A with
      | some n =>
        have e : L = n := by rw [E.out]; rfl
        rw [opt_some'] at H1
        clear E
        go_wp2_with fail
        refine (H1.out _ BW.out FW.out).mono ?_
        rintro e1 u1 ⟨rfl, b1⟩
        go_wp2_with fail
        go_ret
        exact ⟨ret_int e.symm, chain BW.out b1⟩
      | none =>
        rw [opt_none'] at H1
        go_wp2_with fail
        refine (H1.out _ BW.out FW.out).mono ?_
        rintro e1 u1 ⟨rfl, b1⟩
        go_wp2_with fail
        go_roundw
        case rel => exact ⟨1, by decide, rfl, fun _ => by trivial, fun q => absurd q (by decide), chain BW.out b1, FW.out.below b1⟩
        case measure => simp [intOf]
    · obtain rfl : A = none := a1.out (Nat.le_refl _)
      cases C with
      | some n =>
        have e : L = n := by rw [E.out]; rfl
        rw [opt_some'] at H2
        clear E
        go_wp2_with fail
        refine (H2.out _ BW.out FW.out).mono ?_
        rintro e1 u1 ⟨rfl, b1⟩
        go_wp2_with fail
        go_ret
        exact ⟨ret_int e.symm, chain BW.out b1⟩
      | none =>
        rw [opt_none'] at H2
        go_wp2_with fail
        refine (H2.out _ BW.out FW.out).mono ?_
        rintro e1 u1 ⟨rfl, b1⟩
        go_wp2_with fail
        go_roundw
        case rel => exact ⟨2, by decide, rfl, fun _ => by trivial, fun _ => by trivial, chain BW.out b1, FW.out.below b1⟩
        case measure => simp [intOf]
    · obtain rfl : A = none := a1.out (by decide)
      obtain rfl : C = none := a2.out rfl
      by_cases h : k = 10
      · have e : Hid (L = -259200000) := by show _ = _; rw [E.out]; exact if_pos h
        subst h
        clear E
        go_wp2_with fail
        go_ret
        exact ⟨ret_int e.out.symm, BW.out⟩
      · have e : Hid (L = 0) := by show _ = _; rw [E.out]; exact if_neg h
        have b10 : (k == 10) = false := beq_eq_false_iff_ne.2 h
        clear E
        go_wp2_with fail
        go_ret
        exact ⟨ret_int e.out.symm, BW.out⟩
end Go.Proofs.YtfjfkkbgkjmghaaGreatDoor

namespace Go.Proofs.YtfjfkkbgkjmghaaGreatDoor
open Go.RowKit
set_option maxRecDepth 100000
set_option maxHeartbeats 4000000 in
set_option maxRecDepth 100000 in
theorem mul_86400000_no (n : Int) (h2 : n ≤ 1000000000000000000) (h : n ≤ 0 ∨ (0 < n ∧ 11574074074 < n / 1000000) ∨ (0 < n ∧ ¬ 11574074074 < n / 1000000 ∧ ((n / 1000000 * 86400000 + n % 1000000 * 86400000 / 1000000) = 0 ∨ 1000000000000000000 < (n / 1000000 * 86400000 + n % 1000000 * 86400000 / 1000000)))) :
    ∃ z, ∀ w, Calls Tryz.prog 165 #[.int .i64 n, .int .i64 86400000] w fun e w' => e = .returned (.tuple #[.int .i64 z, .bool false]) ∧ w' = w := by
  rcases h with h | ⟨h1, h⟩ | ⟨h1, h, h3⟩
  · refine ⟨0, fun w => ?_⟩
    first
    | (exfalso; omega)
    | go_enter Tryz.func165, Tryz.ntmps165
      go_wp2_with fail
      go_ret2
      exact ⟨by rfl, rfl⟩
  · have h0 : ¬ n ≤ 0 := by omega
    refine ⟨0, fun w => ?_⟩
    first
    | (exfalso; omega)
    | go_enter Tryz.func165, Tryz.ntmps165
      go_wp2_with fail
      go_ret2
      exact ⟨by rfl, rfl⟩
  · have h0 : ¬ n ≤ 0 := by omega
    refine ⟨(n / 1000000 * 86400000 + n % 1000000 * 86400000 / 1000000), fun w => ?_⟩
    rcases h3 with h3 | h3
    · have z0 : ¬ 0 < (n / 1000000 * 86400000 + n % 1000000 * 86400000 / 1000000) := by omega
      first
      | (exfalso; omega)
      | go_enter Tryz.func165, Tryz.ntmps165
        go_wp2_with fail
        go_ret2
        exact ⟨by rfl, rfl⟩
    · have z0 : 0 < (n / 1000000 * 86400000 + n % 1000000 * 86400000 / 1000000) := by omega
      have z1 : ¬ (n / 1000000 * 86400000 + n % 1000000 * 86400000 / 1000000) ≤ 1000000000000000000 := by omega
      first
      | (exfalso; omega)
      | go_enter Tryz.func165, Tryz.ntmps165
        go_wp2_with fail
        go_ret2
        exact ⟨by rfl, rfl⟩
set_option maxHeartbeats 4000000 in
set_option maxRecDepth 100000 in
theorem mul_86400000_yes (n : Int) (h1 : 0 < n) (h2 : n ≤ 1000000000000000000) (h : ¬ 11574074074 < n / 1000000) (_h3 : ¬ (n / 1000000 * 86400000 + n % 1000000 * 86400000 / 1000000) = 0) (h4 : ¬ 1000000000000000000 < (n / 1000000 * 86400000 + n % 1000000 * 86400000 / 1000000)) (w : World) :
    Calls Tryz.prog 165 #[.int .i64 n, .int .i64 86400000] w fun e w' => e = .returned (.tuple #[.int .i64 (n / 1000000 * 86400000 + n % 1000000 * 86400000 / 1000000), .bool true]) ∧ w' = w := by
  have h0 : ¬ n ≤ 0 := by omega
  have z0 : 0 < (n / 1000000 * 86400000 + n % 1000000 * 86400000 / 1000000) := by omega
  have z1 : (n / 1000000 * 86400000 + n % 1000000 * 86400000 / 1000000) ≤ 1000000000000000000 := by omega
  go_enter Tryz.func165, Tryz.ntmps165
  go_wp2_with fail
  go_ret2
  exact ⟨by rfl, rfl⟩
set_option maxHeartbeats 4000000 in
set_option maxRecDepth 100000 in
theorem mul_1_no (n : Int) (h2 : n ≤ 1000000000000000000) (h : n ≤ 0 ∨ (0 < n ∧ 1000000000000000000 < n / 1000000) ∨ (0 < n ∧ ¬ 1000000000000000000 < n / 1000000 ∧ ((n / 1000000 + n % 1000000 / 1000000) = 0 ∨ 1000000000000000000 < (n / 1000000 + n % 1000000 / 1000000)))) :
    ∃ z, ∀ w, Calls Tryz.prog 165 #[.int .i64 n, .int .i64 1] w fun e w' => e = .returned (.tuple #[.int .i64 z, .bool false]) ∧ w' = w := by
  rcases h with h | ⟨h1, h⟩ | ⟨h1, h, h3⟩
  · refine ⟨0, fun w => ?_⟩
    first
    | (exfalso; omega)
    | go_enter Tryz.func165, Tryz.ntmps165
      go_wp2_with fail
      go_ret2
      exact ⟨by rfl, rfl⟩
  · have h0 : ¬ n ≤ 0 := by omega
    refine ⟨0, fun w => ?_⟩
    first
    | (exfalso; omega)
    | go_enter Tryz.func165, Tryz.ntmps165
      go_wp2_with fail
      go_ret2
      exact ⟨by rfl, rfl⟩
  · have h0 : ¬ n ≤ 0 := by omega
    refine ⟨(n / 1000000 + n % 1000000 / 1000000), fun w => ?_⟩
    rcases h3 with h3 | h3
    · have z0 : ¬ 0 < (n / 1000000 + n % 1000000 / 1000000) := by omega
      first
      | (exfalso; omega)
      | go_enter Tryz.func165, Tryz.ntmps165
        go_wp2_with fail
        go_ret2
        exact ⟨by rfl, rfl⟩
    · have z0 : 0 < (n / 1000000 + n % 1000000 / 1000000) := by omega
      have z1 : ¬ (n / 1000000 + n % 1000000 / 1000000) ≤ 1000000000000000000 := by omega
      first
      | (exfalso; omega)
      | go_enter Tryz.func165, Tryz.ntmps165
        go_wp2_with fail
        go_ret2
        exact ⟨by rfl, rfl⟩
set_option maxHeartbeats 4000000 in
set_option maxRecDepth 100000 in
theorem mul_1_yes (n : Int) (h1 : 0 < n) (h2 : n ≤ 1000000000000000000) (h : ¬ 1000000000000000000 < n / 1000000) (_h3 : ¬ (n / 1000000 + n % 1000000 / 1000000) = 0) (h4 : ¬ 1000000000000000000 < (n / 1000000 + n % 1000000 / 1000000)) (w : World) :
    Calls Tryz.prog 165 #[.int .i64 n, .int .i64 1] w fun e w' => e = .returned (.tuple #[.int .i64 (n / 1000000 + n % 1000000 / 1000000), .bool true]) ∧ w' = w := by
  have h0 : ¬ n ≤ 0 := by omega
  have z0 : 0 < (n / 1000000 + n % 1000000 / 1000000) := by omega
  have z1 : (n / 1000000 + n % 1000000 / 1000000) ≤ 1000000000000000000 := by omega
  go_enter Tryz.func165, Tryz.ntmps165
  go_wp2_with fail
  go_ret2
  exact ⟨by rfl, rfl⟩
set_option maxHeartbeats 4000000 in
set_option maxRecDepth 100000 in
theorem mul_604800000_no (n : Int) (h2 : n ≤ 1000000000000000000) (h : n ≤ 0 ∨ (0 < n ∧ 1653439153 < n / 1000000) ∨ (0 < n ∧ ¬ 1653439153 < n / 1000000 ∧ ((n / 1000000 * 604800000 + n % 1000000 * 604800000 / 1000000) = 0 ∨ 1000000000000000000 < (n / 1000000 * 604800000 + n % 1000000 * 604800000 / 1000000)))) :
    ∃ z, ∀ w, Calls Tryz.prog 165 #[.int .i64 n, .int .i64 604800000] w fun e w' => e = .returned (.tuple #[.int .i64 z, .bool false]) ∧ w' = w := by
  rcases h with h | ⟨h1, h⟩ | ⟨h1, h, h3⟩
  · refine ⟨0, fun w => ?_⟩
    first
    | (exfalso; omega)
    | go_enter Tryz.func165, Tryz.ntmps165
      go_wp2_with fail
      go_ret2
      exact ⟨by rfl, rfl⟩
  · have h0 : ¬ n ≤ 0 := by omega
    refine ⟨0, fun w => ?_⟩
    first
    | (exfalso; omega)
    | go_enter Tryz.func165, Tryz.ntmps165
      go_wp2_with fail
      go_ret2
      exact ⟨by rfl, rfl⟩
  · have h0 : ¬ n ≤ 0 := by omega
    refine ⟨(n / 1000000 * 604800000 + n % 1000000 * 604800000 / 1000000), fun w => ?_⟩
    rcases h3 with h3 | h3
    · have z0 : ¬ 0 < (n / 1000000 * 604800000 + n % 1000000 * 604800000 / 1000000) := by omega
      first
      | (exfalso; omega)
      | go_enter Tryz.func165, Tryz.ntmps165
        go_wp2_with fail
        go_ret2
        exact ⟨by rfl, rfl⟩
    · have z0 : 0 < (n / 1000000 * 604800000 + n % 1000000 * 604800000 / 1000000) := by omega
      have z1 : ¬ (n / 1000000 * 604800000 + n % 1000000 * 604800000 / 1000000) ≤ 1000000000000000000 := by omega
      first
      | (exfalso; omega)
      | go_enter Tryz.func165, Tryz.ntmps165
        go_wp2_with fail
        go_ret2
        exact ⟨by rfl, rfl⟩
set_option maxHeartbeats 4000000 in
set_option maxRecDepth 100000 in
theorem mul_604800000_yes (n : Int) (h1 : 0 < n) (h2 : n ≤ 1000000000000000000) (h : ¬ 1653439153 < n / 1000000) (_h3 : ¬ (n / 1000000 * 604800000 + n % 1000000 * 604800000 / 1000000) = 0) (h4 : ¬ 1000000000000000000 < (n / 1000000 * 604800000 + n % 1000000 * 604800000 / 1000000)) (w : World) :
    Calls Tryz.prog 165 #[.int .i64 n, .int .i64 604800000] w fun e w' => e = .returned (.tuple #[.int .i64 (n / 1000000 * 604800000 + n % 1000000 * 604800000 / 1000000), .bool true]) ∧ w' = w := by
  have h0 : ¬ n ≤ 0 := by omega
  have z0 : 0 < (n / 1000000 * 604800000 + n % 1000000 * 604800000 / 1000000) := by omega
  have z1 : (n / 1000000 * 604800000 + n % 1000000 * 604800000 / 1000000) ≤ 1000000000000000000 := by omega
  go_enter Tryz.func165, Tryz.ntmps165
  go_wp2_with fail
  go_ret2
  exact ⟨by rfl, rfl⟩
set_option maxHeartbeats 4000000 in
set_option maxRecDepth 100000 in
theorem mul_1000_no (n : Int) (h2 : n ≤ 1000000000000000000) (h : n ≤ 0 ∨ (0 < n ∧ 1000000000000000 < n / 1000000) ∨ (0 < n ∧ ¬ 1000000000000000 < n / 1000000 ∧ ((n / 1000000 * 1000 + n % 1000000 * 1000 / 1000000) = 0 ∨ 1000000000000000000 < (n / 1000000 * 1000 + n % 1000000 * 1000 / 1000000)))) :
    ∃ z, ∀ w, Calls Tryz.prog 165 #[.int .i64 n, .int .i64 1000] w fun e w' => e = .returned (.tuple #[.int .i64 z, .bool false]) ∧ w' = w := by
  rcases h with h | ⟨h1, h⟩ | ⟨h1, h, h3⟩
  · refine ⟨0, fun w => ?_⟩
    first
    | (exfalso; omega)
    | go_enter Tryz.func165, Tryz.ntmps165
      go_wp2_with fail
      go_ret2
      exact ⟨by rfl, rfl⟩
  · have h0 : ¬ n ≤ 0 := by omega
    refine ⟨0, fun w => ?_⟩
    first
    | (exfalso; omega)
    | go_enter Tryz.func165, Tryz.ntmps165
      go_wp2_with fail
      go_ret2
      exact ⟨by rfl, rfl⟩
  · have h0 : ¬ n ≤ 0 := by omega
    refine ⟨(n / 1000000 * 1000 + n % 1000000 * 1000 / 1000000), fun w => ?_⟩
    rcases h3 with h3 | h3
    · have z0 : ¬ 0 < (n / 1000000 * 1000 + n % 1000000 * 1000 / 1000000) := by omega
      first
      | (exfalso; omega)
      | go_enter Tryz.func165, Tryz.ntmps165
        go_wp2_with fail
        go_ret2
        exact ⟨by rfl, rfl⟩
    · have z0 : 0 < (n / 1000000 * 1000 + n % 1000000 * 1000 / 1000000) := by omega
      have z1 : ¬ (n / 1000000 * 1000 + n % 1000000 * 1000 / 1000000) ≤ 1000000000000000000 := by omega
      first
      | (exfalso; omega)
      | go_enter Tryz.func165, Tryz.ntmps165
        go_wp2_with fail
        go_ret2
        exact ⟨by rfl, rfl⟩
set_option maxHeartbeats 4000000 in
set_option maxRecDepth 100000 in
theorem mul_1000_yes (n : Int) (h1 : 0 < n) (h2 : n ≤ 1000000000000000000) (h : ¬ 1000000000000000 < n / 1000000) (_h3 : ¬ (n / 1000000 * 1000 + n % 1000000 * 1000 / 1000000) = 0) (h4 : ¬ 1000000000000000000 < (n / 1000000 * 1000 + n % 1000000 * 1000 / 1000000)) (w : World) :
    Calls Tryz.prog 165 #[.int .i64 n, .int .i64 1000] w fun e w' => e = .returned (.tuple #[.int .i64 (n / 1000000 * 1000 + n % 1000000 * 1000 / 1000000), .bool true]) ∧ w' = w := by
  have h0 : ¬ n ≤ 0 := by omega
  have z0 : 0 < (n / 1000000 * 1000 + n % 1000000 * 1000 / 1000000) := by omega
  have z1 : (n / 1000000 * 1000 + n % 1000000 * 1000 / 1000000) ≤ 1000000000000000000 := by omega
  go_enter Tryz.func165, Tryz.ntmps165
  go_wp2_with fail
  go_ret2
  exact ⟨by rfl, rfl⟩
set_option maxHeartbeats 4000000 in
set_option maxRecDepth 100000 in
theorem mul_1000000_no (n : Int) (h2 : n ≤ 1000000000000000000) (h : n ≤ 0 ∨ (0 < n ∧ 1000000000000 < n / 1000000) ∨ (0 < n ∧ ¬ 1000000000000 < n / 1000000 ∧ ((n / 1000000 * 1000000 + n % 1000000) = 0 ∨ 1000000000000000000 < (n / 1000000 * 1000000 + n % 1000000)))) :
    ∃ z, ∀ w, Calls Tryz.prog 165 #[.int .i64 n, .int .i64 1000000] w fun e w' => e = .returned (.tuple #[.int .i64 z, .bool false]) ∧ w' = w := by
  rcases h with h | ⟨h1, h⟩ | ⟨h1, h, h3⟩
  · refine ⟨0, fun w => ?_⟩
    first
    | (exfalso; omega)
    | go_enter Tryz.func165, Tryz.ntmps165
      go_wp2_with fail
      go_ret2
      exact ⟨by rfl, rfl⟩
  · have h0 : ¬ n ≤ 0 := by omega
    refine ⟨0, fun w => ?_⟩
    first
    | (exfalso; omega)
    | go_enter Tryz.func165, Tryz.ntmps165
      go_wp2_with fail
      go_ret2
      exact ⟨by rfl, rfl⟩
  · have h0 : ¬ n ≤ 0 := by omega
    refine ⟨(n / 1000000 * 1000000 + n % 1000000), fun w => ?_⟩
    rcases h3 with h3 | h3
    · have z0 : ¬ 0 < (n / 1000000 * 1000000 + n % 1000000) := by omega
      first
      | (exfalso; omega)
      | go_enter Tryz.func165, Tryz.ntmps165
        go_wp2_with fail
        go_ret2
        exact ⟨by rfl, rfl⟩
    · have z0 : 0 < (n / 1000000 * 1000000 + n % 1000000) := by omega
      have z1 : ¬ (n / 1000000 * 1000000 + n % 1000000) ≤ 1000000000000000000 := by omega
      first
      | (exfalso; omega)
      | go_enter Tryz.func165, Tryz.ntmps165
        go_wp2_with fail
        go_ret2
        exact ⟨by rfl, rfl⟩
set_option maxHeartbeats 4000000 in
set_option maxRecDepth 100000 in
theorem mul_1000000_yes (n : Int) (h1 : 0 < n) (h2 : n ≤ 1000000000000000000) (h : ¬ 1000000000000 < n / 1000000) (_h3 : ¬ (n / 1000000 * 1000000 + n % 1000000) = 0) (h4 : ¬ 1000000000000000000 < (n / 1000000 * 1000000 + n % 1000000)) (w : World) :
    Calls Tryz.prog 165 #[.int .i64 n, .int .i64 1000000] w fun e w' => e = .returned (.tuple #[.int .i64 (n / 1000000 * 1000000 + n % 1000000), .bool true]) ∧ w' = w := by
  have h0 : ¬ n ≤ 0 := by omega
  have z0 : 0 < (n / 1000000 * 1000000 + n % 1000000) := by omega
  have z1 : (n / 1000000 * 1000000 + n % 1000000) ≤ 1000000000000000000 := by omega
  go_enter Tryz.func165, Tryz.ntmps165
  go_wp2_with fail
  go_ret2
  exact ⟨by rfl, rfl⟩
/-- What multiply makes of a number, by a kind's unit. -/
theorem mul_any (k n : Int) (hk : 8 ≤ k ∧ k ≤ 14) (h2 : n ≤ 1000000000000000000) :
    (stepN k n = defK k ∧ ∃ z, ∀ w, Calls Tryz.prog 165 #[.int .i64 n, .int .i64 (scaleK k)] w fun e w' => e = .returned (.tuple #[.int .i64 z, .bool false]) ∧ w' = w) ∨
    (∀ w, Calls Tryz.prog 165 #[.int .i64 n, .int .i64 (scaleK k)] w fun e w' => e = .returned (.tuple #[.int .i64 (stepN k n), .bool true]) ∧ w' = w) := by
  have E : stepN k n = if n ≤ 0 then defK k else if 1000000000000000000 / scaleK k < n / 1000000 then defK k else if outN k n = 0 ∨ 1000000000000000000 < outN k n then defK k else outN k n := rfl
  have O : outN k n = n / 1000000 * scaleK k + n % 1000000 * scaleK k / 1000000 := rfl
  rcases (show k = 8 ∨ k = 9 ∨ k = 10 ∨ k = 11 ∨ k = 12 ∨ k = 13 ∨ k = 14 by omega) with rfl | rfl | rfl | rfl | rfl | rfl | rfl
  · rw [show scaleK 8 = 86400000 by decide] at E O ⊢
    rw [show (1000000000000000000 : Int) / 86400000 = 11574074074 by decide, O] at E
    by_cases g1 : n ≤ 0
    · rw [if_pos g1] at E
      exact .inl ⟨E, mul_86400000_no n h2 (.inl g1)⟩
    · rw [if_neg g1] at E
      by_cases g2 : 11574074074 < n / 1000000
      · rw [if_pos g2] at E
        exact .inl ⟨E, mul_86400000_no n h2 (.inr (.inl ⟨by omega, g2⟩))⟩
      · rw [if_neg g2] at E
        by_cases g3 : (n / 1000000 * 86400000 + n % 1000000 * 86400000 / 1000000) = 0 ∨ 1000000000000000000 < (n / 1000000 * 86400000 + n % 1000000 * 86400000 / 1000000)
        · rw [if_pos g3] at E
          exact .inl ⟨E, mul_86400000_no n h2 (.inr (.inr ⟨by omega, g2, g3⟩))⟩
        · rw [if_neg g3] at E
          rw [E]
          exact .inr (mul_86400000_yes n (by omega) h2 g2 (fun q => g3 (.inl q)) (fun q => g3 (.inr q)))
  · rw [show scaleK 9 = 1 by decide] at E O ⊢
    rw [show (1000000000000000000 : Int) / 1 = 1000000000000000000 by decide, O] at E
    rw [Int.mul_one, Int.mul_one] at E
    by_cases g1 : n ≤ 0
    · rw [if_pos g1] at E
      exact .inl ⟨E, mul_1_no n h2 (.inl g1)⟩
    · rw [if_neg g1] at E
      by_cases g2 : 1000000000000000000 < n / 1000000
      · rw [if_pos g2] at E
        exact .inl ⟨E, mul_1_no n h2 (.inr (.inl ⟨by omega, g2⟩))⟩
      · rw [if_neg g2] at E
        by_cases g3 : (n / 1000000 + n % 1000000 / 1000000) = 0 ∨ 1000000000000000000 < (n / 1000000 + n % 1000000 / 1000000)
        · rw [if_pos g3] at E
          exact .inl ⟨E, mul_1_no n h2 (.inr (.inr ⟨by omega, g2, g3⟩))⟩
        · rw [if_neg g3] at E
          rw [E]
          exact .inr (mul_1_yes n (by omega) h2 g2 (fun q => g3 (.inl q)) (fun q => g3 (.inr q)))
  · rw [show scaleK 10 = 604800000 by decide] at E O ⊢
    rw [show (1000000000000000000 : Int) / 604800000 = 1653439153 by decide, O] at E
    by_cases g1 : n ≤ 0
    · rw [if_pos g1] at E
      exact .inl ⟨E, mul_604800000_no n h2 (.inl g1)⟩
    · rw [if_neg g1] at E
      by_cases g2 : 1653439153 < n / 1000000
      · rw [if_pos g2] at E
        exact .inl ⟨E, mul_604800000_no n h2 (.inr (.inl ⟨by omega, g2⟩))⟩
      · rw [if_neg g2] at E
        by_cases g3 : (n / 1000000 * 604800000 + n % 1000000 * 604800000 / 1000000) = 0 ∨ 1000000000000000000 < (n / 1000000 * 604800000 + n % 1000000 * 604800000 / 1000000)
        · rw [if_pos g3] at E
          exact .inl ⟨E, mul_604800000_no n h2 (.inr (.inr ⟨by omega, g2, g3⟩))⟩
        · rw [if_neg g3] at E
          rw [E]
          exact .inr (mul_604800000_yes n (by omega) h2 g2 (fun q => g3 (.inl q)) (fun q => g3 (.inr q)))
  · rw [show scaleK 11 = 1000 by decide] at E O ⊢
    rw [show (1000000000000000000 : Int) / 1000 = 1000000000000000 by decide, O] at E
    by_cases g1 : n ≤ 0
    · rw [if_pos g1] at E
      exact .inl ⟨E, mul_1000_no n h2 (.inl g1)⟩
    · rw [if_neg g1] at E
      by_cases g2 : 1000000000000000 < n / 1000000
      · rw [if_pos g2] at E
        exact .inl ⟨E, mul_1000_no n h2 (.inr (.inl ⟨by omega, g2⟩))⟩
      · rw [if_neg g2] at E
        by_cases g3 : (n / 1000000 * 1000 + n % 1000000 * 1000 / 1000000) = 0 ∨ 1000000000000000000 < (n / 1000000 * 1000 + n % 1000000 * 1000 / 1000000)
        · rw [if_pos g3] at E
          exact .inl ⟨E, mul_1000_no n h2 (.inr (.inr ⟨by omega, g2, g3⟩))⟩
        · rw [if_neg g3] at E
          rw [E]
          exact .inr (mul_1000_yes n (by omega) h2 g2 (fun q => g3 (.inl q)) (fun q => g3 (.inr q)))
  · rw [show scaleK 12 = 1000 by decide] at E O ⊢
    rw [show (1000000000000000000 : Int) / 1000 = 1000000000000000 by decide, O] at E
    by_cases g1 : n ≤ 0
    · rw [if_pos g1] at E
      exact .inl ⟨E, mul_1000_no n h2 (.inl g1)⟩
    · rw [if_neg g1] at E
      by_cases g2 : 1000000000000000 < n / 1000000
      · rw [if_pos g2] at E
        exact .inl ⟨E, mul_1000_no n h2 (.inr (.inl ⟨by omega, g2⟩))⟩
      · rw [if_neg g2] at E
        by_cases g3 : (n / 1000000 * 1000 + n % 1000000 * 1000 / 1000000) = 0 ∨ 1000000000000000000 < (n / 1000000 * 1000 + n % 1000000 * 1000 / 1000000)
        · rw [if_pos g3] at E
          exact .inl ⟨E, mul_1000_no n h2 (.inr (.inr ⟨by omega, g2, g3⟩))⟩
        · rw [if_neg g3] at E
          rw [E]
          exact .inr (mul_1000_yes n (by omega) h2 g2 (fun q => g3 (.inl q)) (fun q => g3 (.inr q)))
  · rw [show scaleK 13 = 1000000 by decide] at E O ⊢
    rw [show (1000000000000000000 : Int) / 1000000 = 1000000000000 by decide, O] at E
    rw [Int.mul_ediv_cancel _ (by decide)] at E
    by_cases g1 : n ≤ 0
    · rw [if_pos g1] at E
      exact .inl ⟨E, mul_1000000_no n h2 (.inl g1)⟩
    · rw [if_neg g1] at E
      by_cases g2 : 1000000000000 < n / 1000000
      · rw [if_pos g2] at E
        exact .inl ⟨E, mul_1000000_no n h2 (.inr (.inl ⟨by omega, g2⟩))⟩
      · rw [if_neg g2] at E
        by_cases g3 : (n / 1000000 * 1000000 + n % 1000000) = 0 ∨ 1000000000000000000 < (n / 1000000 * 1000000 + n % 1000000)
        · rw [if_pos g3] at E
          exact .inl ⟨E, mul_1000000_no n h2 (.inr (.inr ⟨by omega, g2, g3⟩))⟩
        · rw [if_neg g3] at E
          rw [E]
          exact .inr (mul_1000000_yes n (by omega) h2 g2 (fun q => g3 (.inl q)) (fun q => g3 (.inr q)))
  · rw [show scaleK 14 = 1000000 by decide] at E O ⊢
    rw [show (1000000000000000000 : Int) / 1000000 = 1000000000000 by decide, O] at E
    rw [Int.mul_ediv_cancel _ (by decide)] at E
    by_cases g1 : n ≤ 0
    · rw [if_pos g1] at E
      exact .inl ⟨E, mul_1000000_no n h2 (.inl g1)⟩
    · rw [if_neg g1] at E
      by_cases g2 : 1000000000000 < n / 1000000
      · rw [if_pos g2] at E
        exact .inl ⟨E, mul_1000000_no n h2 (.inr (.inl ⟨by omega, g2⟩))⟩
      · rw [if_neg g2] at E
        by_cases g3 : (n / 1000000 * 1000000 + n % 1000000) = 0 ∨ 1000000000000000000 < (n / 1000000 * 1000000 + n % 1000000)
        · rw [if_pos g3] at E
          exact .inl ⟨E, mul_1000000_no n h2 (.inr (.inr ⟨by omega, g2, g3⟩))⟩
        · rw [if_neg g3] at E
          rw [E]
          exact .inr (mul_1000000_yes n (by omega) h2 g2 (fun q => g3 (.inl q)) (fun q => g3 (.inr q)))
theorem low_nil : ¬ lowS ⟨#[]⟩ = anyS := by decide
theorem parse_nil : okP (parseV (⟨#[]⟩ : ByteArray).data.toList) = none := by decide +kernel
/-- The step by the text that is found, if any. -/
theorem step_is {k : Int} (hk : 8 ≤ k ∧ k ≤ 14) (ax : List (ByteArray × ByteArray)) : stepK k ax = if lowS (fndS ax stepS) = anyS then none else some (stepOf k (okP (parseV (fndS ax stepS).data.toList))) := by
  unfold stepK fndS
  rw [if_pos hk]
  cases e : findA ax stepS with
  | none =>
    show some (defK k) = if lowS ⟨#[]⟩ = anyS then none else some (stepOf k (okP (parseV (⟨#[]⟩ : ByteArray).data.toList)))
    rw [if_neg low_nil, parse_nil]; rfl
  | some i => rfl
theorem row_in {k : Int} (h : 8 ≤ k ∧ k ≤ 14) : rowU k = .agg #[.int .i64 (momK k), .int .i64 (scaleK k), .int .i64 (defK k)] := if_pos h
theorem lit_dec3 (a b : ByteArray) (l : List UInt8) (h : b.toList = l) : (a.toList == b.toList) = decide (a = ⟨l.toArray⟩) := by
  rw [Bool.eq_iff_iff, beq_iff_eq, decide_eq_true_eq, h, ByteArray.toList_eq]
  constructor
  · intro e
    apply ByteArray.ext
    exact Array.ext' e
  · intro e; rw [e]
set_option maxHeartbeats 4000000 in
set_option maxRecDepth 100000 in
theorem stStep_out (k : Int) (v : Value) (hv : ∃ p n c, v = .slice p n c) (ax : List (ByteArray × ByteArray)) (w : World) (hT : StTabs w) (hk : ¬ (8 ≤ k ∧ k ≤ 14)) :
    Calls Tryz.prog 121 #[.int .i64 k, v] w fun e w' => e = .returned (optV (stepK k ax)) ∧ Below w.heap.size w w' := by
  have E : Hid (stepK k ax = none) := if_neg hk
  have HU := hide (unitOf_any k w hT.unit)
  rw [row_out hk] at HU
  obtain ⟨p, n, c, rfl⟩ := hv
  clear hT hk
  go_enter Tryz.func121, Tryz.ntmps121
  go_wp2_with fail
  refine HU.out.mono ?_
  rintro e u1 ⟨rfl, b1⟩
  go_wp2_with fail
  go_ret2
  exact ⟨by rw [E.out]; rfl, b1.alloc b1.size _⟩
set_option maxHeartbeats 4000000 in
set_option maxRecDepth 100000 in
theorem stStep_in (k : Int) (v : Value) (ax : List (ByteArray × ByteArray)) (w : World) (hv : AttrsV w v ax) (hz : AxOK ax) (hT : StTabs w) (hk : 8 ≤ k ∧ k ≤ 14) :
    Calls Tryz.prog 121 #[.int .i64 k, v] w fun e w' => e = .returned (optV (stepK k ax)) ∧ Below w.heap.size w w' := by
  have HU := hide (unitOf_any k w hT.unit)
  rw [row_in hk] at HU
  have HF := hide (fun W => finder_any v (by obtain ⟨p, c, e, _⟩ := hv; exact ⟨p, _, c, e⟩) W)
  have HG := hide (fun (B : Nat) W (h : FndAt W B v ax) => finder1_any B v ax stepS W h.cell h.row hz.len)
  have FN := hide (fun W (hb : Below w.heap.size w W) => fnd_new (hv.below hb))
  have E := hide (step_is hk ax)
  have sm := fnd_small hz stepS
  generalize (findA ax stepS).isSome = is at *
  generalize fndS ax stepS = t at *
  have HS := hide (fun W => same_any t ⟨#[97, 110, 121]⟩ W (by unfold maxLen; omega) (by decide))
  have HP := hide (fun W (hb : Below w.heap.size w W) => parse_any t W (by omega) (hT.below hb).max)
  rw [show stepS = ⟨#[115, 116, 101, 112]⟩ from rfl] at HG
  obtain ⟨p, c, rfl, _⟩ := hv
  have d := scale_range k
  have s0 : ¬ scaleK k = 0 := by omega
  have s1 : (scaleK k == 0) = false := beq_eq_false_iff_ne.2 s0
  have PR := hide (fun n => parse_range (l := t.data.toList) (n := n))
  have MU := hide (fun n => mul_any k n hk)
  generalize parseV t.data.toList = r at *
  obtain ⟨n, ec⟩ := r
  have S3 := hide (lit_dec3 (lowS t) (lowS ⟨#[97, 110, 121]⟩) [97, 110, 121] (by rw [ByteArray.toList_eq]; decide))
  generalize stepK k ax = L at *
  generalize momK k = m at *
  have WAY : (Hid (L = none) ∧ ((lowS t).toList == (lowS ⟨#[97, 110, 121]⟩).toList) = true) ∨ (Hid (L = some (defK k)) ∧ ((lowS t).toList == (lowS ⟨#[97, 110, 121]⟩).toList) = false ∧ (ec == 0) = false ∧ ¬ ec = 0) ∨
      (Hid (L = some (defK k)) ∧ ((lowS t).toList == (lowS ⟨#[97, 110, 121]⟩).toList) = false ∧ (ec == 0) = true ∧ Hid (∃ z, ∀ w, Calls Tryz.prog 165 #[.int .i64 n, .int .i64 (scaleK k)] w fun e w' => e = .returned (.tuple #[.int .i64 z, .bool false]) ∧ w' = w)) ∨
      (((lowS t).toList == (lowS ⟨#[97, 110, 121]⟩).toList) = false ∧ (ec == 0) = true ∧ ∃ z, Hid (L = some z) ∧ Hid (∀ w, Calls Tryz.prog 165 #[.int .i64 n, .int .i64 (scaleK k)] w fun e w' => e = .returned (.tuple #[.int .i64 z, .bool true]) ∧ w' = w)) := by
    rw [S3.out]
    by_cases q : lowS t = anyS
    · exact .inl ⟨by show _ = _; rw [E.out, if_pos q], decide_eq_true q⟩
    · have f : decide (lowS t = ⟨[97, 110, 121].toArray⟩) = false := decide_eq_false q
      have E' := E.out
      rw [if_neg q] at E'
      by_cases h0 : ec = 0
      · have ok : okP (n, ec) = some n := if_pos h0
        have eb : (ec == 0) = true := by rw [h0]; rfl
        rw [ok] at E'
        rcases MU.out n (PR.out n ok).2 with ⟨e, hm⟩ | hm
        · exact .inr (.inr (.inl ⟨by show _ = _; rw [E']; exact congrArg some e, f, eb, hm⟩))
        · exact .inr (.inr (.inr ⟨f, eb, stepN k n, E', hm⟩))
      · have ok : okP (n, ec) = none := if_neg h0
        rw [ok] at E'
        exact .inr (.inl ⟨E', f, beq_eq_false_iff_ne.2 h0, h0⟩)
  clear E PR MU S3 hz hk d
  generalize scaleK k = sc at *
  generalize defK k = de at *
  generalize ((lowS t).toList == (lowS ⟨#[97, 110, 121]⟩).toList) = sb at *
  rcases WAY with ⟨E, rfl⟩ | ⟨E, rfl, eb, ne⟩ | ⟨E, rfl, eb, HM⟩ | ⟨rfl, eb, z, E, HM⟩
  · clear HP
    go_enter Tryz.func121, Tryz.ntmps121
    go_wp2_with fail
    refine HU.out.mono ?_
    rintro e u1 ⟨rfl, b1⟩
    have BX : Hid (Below u1.heap.size u1 (u1.alloc (.cells #[.int .i64 m, .int .i64 sc, .int .i64 de] 120))) := (Below.refl _ u1).alloc (Nat.le_refl _) _
    have NX := hide (Bk.new u1 [.int .i64 m, .int .i64 sc, .int .i64 de] 120)
    go_wp2_with fail
    generalize u1.alloc (.cells #[.int .i64 m, .int .i64 sc, .int .i64 de] 120) = x1 at *
    have B1 := hide (chain b1 BX.out)
    refine (HF.out _).mono ?_
    rintro e x2 ⟨rfl, e2⟩
    have F2 := hide (FN.out x1 B1.out)
    have b2 : Below x1.heap.size x1 x2 := by rw [e2]; exact (Below.refl _ x1).alloc (Nat.le_refl _) _
    rw [← e2] at F2
    clear e2
    have B2 := hide (chain B1.out b2)
    go_wp2_with fail
    refine (HG.out _ _ F2.out).mono ?_
    rintro e x3 ⟨rfl, b3⟩
    have B3 := hide (chain B2.out b3)
    go_wp2_with fail
    refine (HS.out _).mono ?_
    rintro e x4 ⟨rfl, b4⟩
    have B4 := hide (chain B3.out b4)
    have N4 := hide (((NX.out.below b2).below b3).below b4)
    clear NX BX F2 B1 B2 B3 b1 b2 b3 b4
    go_wp2_with fail
    go_ret2
    exact ⟨by rw [E.out]; rfl, B4.out⟩
  · go_enter Tryz.func121, Tryz.ntmps121
    go_wp2_with fail
    refine HU.out.mono ?_
    rintro e u1 ⟨rfl, b1⟩
    have BX : Hid (Below u1.heap.size u1 (u1.alloc (.cells #[.int .i64 m, .int .i64 sc, .int .i64 de] 120))) := (Below.refl _ u1).alloc (Nat.le_refl _) _
    have NX := hide (Bk.new u1 [.int .i64 m, .int .i64 sc, .int .i64 de] 120)
    go_wp2_with fail
    generalize u1.alloc (.cells #[.int .i64 m, .int .i64 sc, .int .i64 de] 120) = x1 at *
    have B1 := hide (chain b1 BX.out)
    refine (HF.out _).mono ?_
    rintro e x2 ⟨rfl, e2⟩
    have F2 := hide (FN.out x1 B1.out)
    have b2 : Below x1.heap.size x1 x2 := by rw [e2]; exact (Below.refl _ x1).alloc (Nat.le_refl _) _
    rw [← e2] at F2
    clear e2
    have B2 := hide (chain B1.out b2)
    go_wp2_with fail
    refine (HG.out _ _ F2.out).mono ?_
    rintro e x3 ⟨rfl, b3⟩
    have B3 := hide (chain B2.out b3)
    go_wp2_with fail
    refine (HS.out _).mono ?_
    rintro e x4 ⟨rfl, b4⟩
    have B4 := hide (chain B3.out b4)
    have N4 := hide (((NX.out.below b2).below b3).below b4)
    clear NX BX F2 B1 B2 B3 b1 b2 b3 b4
    go_wp2_with fail
    refine (HP.out _ B4.out).mono ?_
    rintro e x5 ⟨rfl, b5⟩
    have N5 := N4.out.below b5
    have r1 := N5.cell 1 rfl
    have r2 := N5.cell 2 rfl
    clear N4 N5
    go_wp2_with fail
    go_ret2
    exact ⟨by rw [E.out]; rfl, chain B4.out b5⟩
  · obtain ⟨z, HM⟩ := HM.out
    replace HM := hide HM
    go_enter Tryz.func121, Tryz.ntmps121
    go_wp2_with fail
    refine HU.out.mono ?_
    rintro e u1 ⟨rfl, b1⟩
    have BX : Hid (Below u1.heap.size u1 (u1.alloc (.cells #[.int .i64 m, .int .i64 sc, .int .i64 de] 120))) := (Below.refl _ u1).alloc (Nat.le_refl _) _
    have NX := hide (Bk.new u1 [.int .i64 m, .int .i64 sc, .int .i64 de] 120)
    go_wp2_with fail
    generalize u1.alloc (.cells #[.int .i64 m, .int .i64 sc, .int .i64 de] 120) = x1 at *
    have B1 := hide (chain b1 BX.out)
    refine (HF.out _).mono ?_
    rintro e x2 ⟨rfl, e2⟩
    have F2 := hide (FN.out x1 B1.out)
    have b2 : Below x1.heap.size x1 x2 := by rw [e2]; exact (Below.refl _ x1).alloc (Nat.le_refl _) _
    rw [← e2] at F2
    clear e2
    have B2 := hide (chain B1.out b2)
    go_wp2_with fail
    refine (HG.out _ _ F2.out).mono ?_
    rintro e x3 ⟨rfl, b3⟩
    have B3 := hide (chain B2.out b3)
    go_wp2_with fail
    refine (HS.out _).mono ?_
    rintro e x4 ⟨rfl, b4⟩
    have B4 := hide (chain B3.out b4)
    have N4 := hide (((NX.out.below b2).below b3).below b4)
    clear NX BX F2 B1 B2 B3 b1 b2 b3 b4
    go_wp2_with fail
    refine (HP.out _ B4.out).mono ?_
    rintro e x5 ⟨rfl, b5⟩
    have N5 := N4.out.below b5
    have r1 := N5.cell 1 rfl
    have r2 := N5.cell 2 rfl
    clear N4 N5
    go_wp2_with fail
    refine (HM.out _).mono ?_
    rintro e x6 ⟨rfl, e6⟩
    obtain rfl : x5 = x6 := e6.symm
    go_wp2_with fail
    go_ret2
    exact ⟨by rw [E.out]; rfl, chain B4.out b5⟩
  · go_enter Tryz.func121, Tryz.ntmps121
    go_wp2_with fail
    refine HU.out.mono ?_
    rintro e u1 ⟨rfl, b1⟩
    have BX : Hid (Below u1.heap.size u1 (u1.alloc (.cells #[.int .i64 m, .int .i64 sc, .int .i64 de] 120))) := (Below.refl _ u1).alloc (Nat.le_refl _) _
    have NX := hide (Bk.new u1 [.int .i64 m, .int .i64 sc, .int .i64 de] 120)
    go_wp2_with fail
    generalize u1.alloc (.cells #[.int .i64 m, .int .i64 sc, .int .i64 de] 120) = x1 at *
    have B1 := hide (chain b1 BX.out)
    refine (HF.out _).mono ?_
    rintro e x2 ⟨rfl, e2⟩
    have F2 := hide (FN.out x1 B1.out)
    have b2 : Below x1.heap.size x1 x2 := by rw [e2]; exact (Below.refl _ x1).alloc (Nat.le_refl _) _
    rw [← e2] at F2
    clear e2
    have B2 := hide (chain B1.out b2)
    go_wp2_with fail
    refine (HG.out _ _ F2.out).mono ?_
    rintro e x3 ⟨rfl, b3⟩
    have B3 := hide (chain B2.out b3)
    go_wp2_with fail
    refine (HS.out _).mono ?_
    rintro e x4 ⟨rfl, b4⟩
    have B4 := hide (chain B3.out b4)
    have N4 := hide (((NX.out.below b2).below b3).below b4)
    clear NX BX F2 B1 B2 B3 b1 b2 b3 b4
    go_wp2_with fail
    refine (HP.out _ B4.out).mono ?_
    rintro e x5 ⟨rfl, b5⟩
    have N5 := N4.out.below b5
    have r1 := N5.cell 1 rfl
    have r2 := N5.cell 2 rfl
    clear N4 N5
    go_wp2_with fail
    refine (HM.out _).mono ?_
    rintro e x6 ⟨rfl, e6⟩
    obtain rfl : x5 = x6 := e6.symm
    go_wp2_with fail
    go_ret2
    exact ⟨by rw [E.out]; rfl, chain B4.out b5⟩
theorem stStep_any (k : Int) (v : Value) (ax : List (ByteArray × ByteArray)) (w : World) (hv : AttrsV w v ax) (hz : AxOK ax) (hT : StTabs w) :
    Calls Tryz.prog 121 #[.int .i64 k, v] w fun e w' => e = .returned (optV (stepK k ax)) ∧ Below w.heap.size w w' := by
  by_cases hk : 8 ≤ k ∧ k ≤ 14
  · exact stStep_in k v ax w hv hz hT hk
  · exact stStep_out k v (by obtain ⟨p, c, e, _⟩ := hv; exact ⟨p, _, c, e⟩) ax w hT hk

end Go.Proofs.YtfjfkkbgkjmghaaGreatDoor
