/- The program's reader. -/
import Derived.Test.YtfjfkkbgkjmghaaGreatDoorJct19

namespace Go.Proofs.YtfjfkkbgkjmghaaGreatDoor
open Go.RowKit
set_option maxRecDepth 100000
/-- What 'value' tells. -/
def Valued (b : Bool) (ds : List UInt8) (v : Int) (b' : Bool) : Prop := (valV ds = some v ∧ b' = b) ∨ (valV ds = none ∧ b' = true ∧ ((ds = [] ∧ v = 0) ∨ (¬ ds = [] ∧ v = 9223372036854775807)))
theorem Valued.bounds {b b' : Bool} {ds : List UInt8} {v : Int} (h : Valued b ds v b') : 0 ≤ v ∧ v ≤ 9223372036854775807 := by
  rcases h with ⟨h, _⟩ | ⟨_, _, h⟩
  · unfold valV at h
    split at h
    · rename_i g
      have := g.2
      unfold maxI at this
      cases h; omega
    · cases h
  · omega
theorem Valued.small {b b' : Bool} {ds : List UInt8} {v : Int} (h : Valued b ds v b') (hd : ∀ c ∈ ds, isDg c = true) {k : Nat} (hk : ds.length ≤ k) (hk2 : k ≤ 3) : v < 10 ^ k := by
  have h1 := natOf_lt ds hd
  have h2 : (10 : Nat) ^ ds.length ≤ 10 ^ k := Nat.pow_le_pow_right (by decide) hk
  have h3 : (10 : Nat) ^ k ≤ 10 ^ 3 := Nat.pow_le_pow_right (by decide) hk2
  have h4 : ((10 ^ k : Nat) : Int) = (10 : Int) ^ k := by push_cast; rfl
  rw [← h4]
  rcases h with ⟨h, _⟩ | ⟨h, _, h5⟩
  · unfold valV at h
    split at h
    · cases h; omega
    · cases h
  · rcases h5 with ⟨h5, h6⟩ | ⟨h5, h6⟩
    · have : 0 < 10 ^ k := Nat.pow_pos (by decide)
      omega
    · exfalso
      unfold valV maxI at h
      rw [if_pos ⟨h5, by omega⟩] at h
      cases h
set_option maxHeartbeats 1000000 in
set_option maxRecDepth 100000 in
theorem value_any (w0 : World) (R : Nat) (l ds : List UInt8) (b : Bool) (w : World) (h : Rd w0 w R l b) (hd : ∀ c ∈ ds, isDg c = true) (hl : ds.length ≤ 1000000) (hT : Errs w0) :
    Calls Tryz.prog 215 #[.pointer (some ⟨R, 0, none⟩), .string (txt ds)] w fun e w' => ∃ v b', e = .returned (.int .i64 v) ∧ Rd w0 w' R l b' ∧ Hid (Valued b ds v b') := by
  have hT' := hT.below h.below
  have MU := hide (fun (c : Bool) (w' : World) (hb : Below w.heap.size w w') => must_any w0 R l b c w' (h.pass hb))
  rcases atoi_digits hd with ⟨e1, e3⟩ | ⟨e1, e2, e3⟩ | ⟨e1, e2, e3⟩
  · have V : Hid (Valued b ds 0 true) := .inr ⟨e3, rfl, .inl ⟨e1, rfl⟩⟩
    subst e1
    have HA := hide (atoi_empty w hT')
    clear e3 h hT hT' hd
    go_enter Tryz.func215, Tryz.ntmps215
    go_wp2_with fail
    refine HA.out.mono ?_
    rintro e v ⟨N, rfl, hb⟩
    go_wp2_with fail
    refine (MU.out false v hb).mono ?_
    rintro e v2 ⟨rfl, h2⟩
    go_wp2_with fail
    go_ret
    exact ⟨_, _, rfl, h2, by simpa using V⟩
  · have HA := hide (atoi_ok ds _ w hl e1)
    have V : Hid (Valued b ds (natOf ds : Int) b) := .inl ⟨e3, rfl⟩
    unfold maxI at e2
    have n1 : (0 : Int) ≤ (natOf ds : Int) := by omega
    have n2 : (natOf ds : Int) ≤ 9223372036854775807 := by omega
    clear e1 e2 e3 h hT hT' hd
    generalize (natOf ds : Int) = x at *
    go_enter Tryz.func215, Tryz.ntmps215
    go_wp2_with fail
    refine HA.out.mono ?_
    rintro e v ⟨rfl, hb⟩
    go_wp2_with fail
    refine (MU.out true v hb).mono ?_
    rintro e v2 ⟨rfl, h2⟩
    go_wp2_with fail
    go_ret
    exact ⟨_, _, rfl, h2, by simpa using V⟩
  · have hne : ¬ ds = [] := fun x => by rw [x] at e1; cases e1
    have HA := hide (atoi_range ds w hl e1 e2 hT')
    have V : Hid (Valued b ds 9223372036854775807 true) := .inr ⟨e3, rfl, .inr ⟨hne, rfl⟩⟩
    clear e1 e2 e3 h hT hT' hd hne
    go_enter Tryz.func215, Tryz.ntmps215
    go_wp2_with fail
    refine HA.out.mono ?_
    rintro e v ⟨N, rfl, hb⟩
    go_wp2_with fail
    refine (MU.out false v hb).mono ?_
    rintro e v2 ⟨rfl, h2⟩
    go_wp2_with fail
    go_ret
    exact ⟨_, _, rfl, h2, by simpa using V⟩
theorem txt_join (l k : List UInt8) : txt (l ++ k) = txt l ++ txt k := by
  apply ByteArray.ext
  rw [ByteArray.data_append]
  show (l ++ k).toArray = l.toArray ++ k.toArray
  simp
theorem digs_all (l : List UInt8) : digsOf l.length l = l.takeWhile isDg := by unfold digsOf; rw [List.take_length]
theorem drop_digs (l : List UInt8) : l.drop (l.takeWhile isDg).length = l.dropWhile isDg := by
  have := List.takeWhile_append_dropWhile (p := isDg) (l := l)
  have e := congrArg (List.drop (l.takeWhile isDg).length) this
  rw [List.drop_left] at e
  exact e.symm
theorem year_tell {l : List UInt8} {b b' : Bool} {v : Int} {c : Bool} (hc : c = decide (4 ≤ (l.takeWhile isDg).length)) (h : Valued (b || !c) (l.takeWhile isDg) v b') : Tell b (yrP l) v (l.dropWhile isDg) b' := by
  unfold yrP
  subst hc
  by_cases g : 4 ≤ (l.takeWhile isDg).length
  · rw [decide_eq_true g] at h
    simp only [Bool.not_true, Bool.or_false] at h
    rcases h with ⟨h1, h2⟩ | ⟨h1, h2, _⟩
    · unfold valV at h1
      split at h1
      · rename_i x
        cases h1
        rw [if_pos ⟨g, x.2⟩, h2]; exact Tell.pure
      · cases h1
    · unfold valV at h1
      split at h1
      · cases h1
      · rename_i x
        rw [if_neg (fun y => x ⟨fun z => (by rw [z] at g; simp at g), y.2⟩)]
        exact .inr ⟨h2, .inr rfl⟩
  · rw [decide_eq_false g] at h
    rw [if_neg (fun y => g y.1)]
    refine .inr ⟨?_, .inr rfl⟩
    rcases h with ⟨_, h2⟩ | ⟨_, h2, _⟩
    · rw [h2]; simp
    · exact h2
theorem two_tell {l : List UInt8} {b b' : Bool} {v : Int} {c : Bool} (hc : c = decide ((digsOf 2 l).length = 2)) (h : Valued (b || !c) (digsOf 2 l) v b') : Tell b (twoP l) v (l.drop (digsOf 2 l).length) b' := by
  unfold twoP
  subst hc
  by_cases g : (digsOf 2 l).length = 2
  · rw [decide_eq_true g] at h
    simp only [Bool.not_true, Bool.or_false] at h
    rcases h with ⟨h1, h2⟩ | ⟨h1, h2, _⟩
    · unfold valV at h1
      split at h1
      · cases h1
        rw [if_pos g, h2]; exact Tell.pure
      · cases h1
    · exfalso
      have := natOf_lt _ (digs_dg 2 l)
      rw [g] at this
      unfold valV maxI at h1
      rw [if_pos ⟨fun z => (by rw [z] at g; cases g), by omega⟩] at h1
      cases h1
  · rw [decide_eq_false g] at h
    rw [if_neg g]
    refine .inr ⟨?_, .inr rfl⟩
    rcases h with ⟨_, h2⟩ | ⟨_, h2, _⟩
    · rw [h2]; simp
    · exact h2
set_option maxHeartbeats 1000000 in
set_option maxRecDepth 100000 in
theorem rdYear_any (w0 : World) (R : Nat) (l : List UInt8) (b : Bool) (w : World) (h : Rd w0 w R l b) (hl : l.length ≤ 1000000) (hT : Errs w0) :
    Calls Tryz.prog 186 #[.pointer (some ⟨R, 0, none⟩)] w fun e w' => ∃ v k b', e = .returned (.int .i64 v) ∧ Rd w0 w' R k b' ∧ k.length ≤ 1000000 ∧ 0 ≤ v ∧ v ≤ 9223372036854775807 ∧ Hid (Tell b (yrP l) v k b') := by
  have c0 := h.cell0
  have HD := hide (digits_any w0 R l b l.length w h hl hl)
  rw [digs_all, drop_digs] at HD
  have hdg : ∀ c ∈ l.takeWhile isDg, isDg c = true := fun x hx => by
    have := List.all_takeWhile (p := isDg) (l := l)
    rw [List.all_eq_true] at this
    exact this x hx
  have hle := (List.takeWhile_sublist isDg (l := l)).length_le
  have hle2 := (List.dropWhile_sublist isDg (l := l)).length_le
  have Y := hide (fun (b' : Bool) (v : Int) (c : Bool) => year_tell (l := l) (b := b) (b' := b') (v := v) (c := c))
  have HM := hide (fun (c : Bool) (w : World) => must_any w0 R (l.dropWhile isDg) b c w)
  have HV := hide (fun (b : Bool) (w : World) h => value_any w0 R (l.dropWhile isDg) (l.takeWhile isDg) b w h hdg (by omega) hT)
  have hk : (l.dropWhile isDg).length ≤ 1000000 := by omega
  have hz : (txt l).size = l.length := rfl
  have hz2 : (txt (l.takeWhile isDg)).size = (l.takeWhile isDg).length := rfl
  clear h hdg hT
  generalize l.takeWhile isDg = ds at *
  generalize l.dropWhile isDg = k at *
  generalize yrP l = y at *
  by_cases g : 4 ≤ ds.length
  · have Y2 := hide (fun b' v => Y.out b' v true (decide_eq_true g).symm)
    have g' : (4 : Int) ≤ (ds.length : Int) := by omega
    clear Y g
    go_enter Tryz.func186, Tryz.ntmps186
    go_wp2_with fail
    refine HD.out.mono ?_
    rintro e v ⟨rfl, h1⟩
    go_wp2_with fail
    refine (HM.out true v h1).mono ?_
    rintro e v2 ⟨rfl, h2⟩
    go_wp2_with fail
    refine (HV.out _ v2 h2).mono ?_
    rintro e v3 ⟨x, b', rfl, h3, V⟩
    have hb := V.out.bounds
    go_wp2_with fail
    go_ret
    exact ⟨x, k, b', rfl, h3, hk, hb.1, hb.2, Y2.out b' x V⟩
  · have Y2 := hide (fun b' v => Y.out b' v false (decide_eq_false g).symm)
    have g' : (ds.length : Int) < 4 := by omega
    have gd : decide ((4 : Int) ≤ (ds.length : Int)) = false := decide_eq_false (by omega)
    clear Y g
    go_enter Tryz.func186, Tryz.ntmps186
    go_wp2_with fail
    refine HD.out.mono ?_
    rintro e v ⟨rfl, h1⟩
    go_wp2_with fail
    refine (HM.out false v h1).mono ?_
    rintro e v2 ⟨rfl, h2⟩
    go_wp2_with fail
    refine (HV.out _ v2 h2).mono ?_
    rintro e v3 ⟨x, b', rfl, h3, V⟩
    have hb := V.out.bounds
    go_wp2_with fail
    go_ret
    exact ⟨x, k, b', rfl, h3, hk, hb.1, hb.2, Y2.out b' x V⟩
set_option maxHeartbeats 1000000 in
set_option maxRecDepth 100000 in
theorem rdTwo_any (w0 : World) (R : Nat) (l : List UInt8) (b : Bool) (w : World) (h : Rd w0 w R l b) (hl : l.length ≤ 1000000) (hT : Errs w0) :
    Calls Tryz.prog 188 #[.pointer (some ⟨R, 0, none⟩)] w fun e w' => ∃ v k b', e = .returned (.int .i64 v) ∧ Rd w0 w' R k b' ∧ k.length ≤ 1000000 ∧ 0 ≤ v ∧ v < 100 ∧ Hid (Tell b (twoP l) v k b') := by
  have HD := hide (digits_any w0 R l b 2 w h (by omega) hl)
  have hdg := digs_dg 2 l
  have hle := digs_len 2 l
  have Y := hide (fun (b' : Bool) (v : Int) (c : Bool) => two_tell (l := l) (b := b) (b' := b') (v := v) (c := c))
  have hk : (l.drop (digsOf 2 l).length).length ≤ 1000000 := by rw [List.length_drop]; omega
  have HM := hide (fun (c : Bool) (w : World) => must_any w0 R (l.drop (digsOf 2 l).length) b c w)
  have HV := hide (fun (b : Bool) (w : World) h => value_any w0 R (l.drop (digsOf 2 l).length) (digsOf 2 l) b w h hdg (by omega) hT)
  have VS := hide (fun (b b' : Bool) (v : Int) (x : Valued b (digsOf 2 l) v b') => x.small hdg hle.1 (by decide))
  have hz2 : (txt (digsOf 2 l)).size = (digsOf 2 l).length := rfl
  clear h hdg hT hle
  generalize l.drop (digsOf 2 l).length = k at *
  generalize digsOf 2 l = ds at *
  generalize twoP l = y at *
  by_cases g : ds.length = 2
  · have Y2 := hide (fun b' v => Y.out b' v true (decide_eq_true g).symm)
    have g1 : ((ds.length : Int) == 2) = true := by rw [g]; rfl
    have g2 : (ds.length == 2) = true := by rw [g]; rfl
    clear Y
    go_enter Tryz.func188, Tryz.ntmps188
    go_wp2_with fail
    refine HD.out.mono ?_
    rintro e v ⟨rfl, h1⟩
    go_wp2_with fail
    refine (HM.out true v h1).mono ?_
    rintro e v2 ⟨rfl, h2⟩
    go_wp2_with fail
    refine (HV.out _ v2 h2).mono ?_
    rintro e v3 ⟨x, b', rfl, h3, V⟩
    have hb := V.out.bounds
    have hs := VS.out _ _ _ V.out
    go_wp2_with fail
    go_ret
    exact ⟨x, k, b', rfl, h3, hk, hb.1, hs, Y2.out b' x V⟩
  · have Y2 := hide (fun b' v => Y.out b' v false (decide_eq_false g).symm)
    have g1 : ((ds.length : Int) == 2) = false := by rw [beq_eq_false_iff_ne]; omega
    have g2 : (ds.length == 2) = false := by rw [beq_eq_false_iff_ne]; omega
    clear Y
    go_enter Tryz.func188, Tryz.ntmps188
    go_wp2_with fail
    refine HD.out.mono ?_
    rintro e v ⟨rfl, h1⟩
    go_wp2_with fail
    refine (HM.out false v h1).mono ?_
    rintro e v2 ⟨rfl, h2⟩
    go_wp2_with fail
    refine (HV.out _ v2 h2).mono ?_
    rintro e v3 ⟨x, b', rfl, h3, V⟩
    have hb := V.out.bounds
    have hs := VS.out _ _ _ V.out
    go_wp2_with fail
    go_ret
    exact ⟨x, k, b', rfl, h3, hk, hb.1, hs, Y2.out b' x V⟩
theorem below_tell {l k : List UInt8} {b b1 : Bool} {n : Nat} {v : Int} {c : Bool} (h : Tell b (twoP l) v k b1) (hc : c = decide (v < (n : Int))) : Tell b (belowP n l) v k (b1 || !c) := by
  unfold belowP
  refine Tell.bind (f := fun v k => if decide (v < (n : Int)) = true then some (v, k) else none) h ?_
  subst hc
  exact Tell.must
set_option maxHeartbeats 1000000 in
set_option maxRecDepth 100000 in
theorem below_any (w0 : World) (R : Nat) (l : List UInt8) (b : Bool) (n : Nat) (w : World) (h : Rd w0 w R l b) (hl : l.length ≤ 1000000) (hn : n ≤ 100) (hT : Errs w0) :
    Calls Tryz.prog 193 #[.pointer (some ⟨R, 0, none⟩), .int .i64 n] w fun e w' => ∃ v k b', e = .returned (.int .i64 v) ∧ Rd w0 w' R k b' ∧ k.length ≤ 1000000 ∧ 0 ≤ v ∧ v < 100 ∧ Hid (Tell b (belowP n l) v k b') := by
  have H2 := hide (rdTwo_any w0 R l b w h hl hT)
  have Y := hide (fun (k : List UInt8) (b1 : Bool) (v : Int) (c : Bool) => below_tell (l := l) (k := k) (b := b) (b1 := b1) (n := n) (v := v) (c := c))
  clear h hT
  generalize belowP n l = y at *
  have hn2 : (n : Int) ≤ 100 := by omega
  generalize (n : Int) = m at *
  go_enter Tryz.func193, Tryz.ntmps193
  go_wp2_with fail
  refine H2.out.mono ?_
  rintro e v ⟨x, k, b1, rfl, h1, hk, x1, x2, T⟩
  have HM := hide (fun (c : Bool) => must_any w0 R k b1 c v h1)
  clear h1
  by_cases g : x < m
  · have Y2 := hide (Y.out k b1 x true T (decide_eq_true g).symm)
    clear Y H2 T
    go_wp2_with fail
    refine (HM.out true).mono ?_
    rintro e v2 ⟨rfl, h2⟩
    go_wp2_with fail
    go_ret
    exact ⟨x, k, _, rfl, h2, hk, x1, x2, Y2⟩
  · have Y2 := hide (Y.out k b1 x false T (decide_eq_false g).symm)
    have g' : m ≤ x := by omega
    have gd : decide (x < m) = false := decide_eq_false g
    clear Y H2 T g
    go_wp2_with fail
    refine (HM.out false).mono ?_
    rintro e v2 ⟨rfl, h2⟩
    go_wp2_with fail
    go_ret
    exact ⟨x, k, _, rfl, h2, hk, x1, x2, Y2⟩
theorem th_tell {l : List UInt8} {b b' : Bool} {v : Int} {c : Bool} (hc : c = decide (digsOf 3 l ≠ [])) (h : Valued (b || !c) (digsOf 3 l ++ List.replicate (3 - (digsOf 3 l).length) 48) v b') : Tell b (thP l) v (l.drop (digsOf 3 l).length) b' := by
  have hle := digs_len 3 l
  have hdg := digs_dg 3 l
  have e : natOf (digsOf 3 l ++ List.replicate (3 - (digsOf 3 l).length) 48) = fracOf 3 (digsOf 3 l) := by
    have hx := frac_nat 3 0 (digsOf 3 l ++ List.replicate (3 - (digsOf 3 l).length) 48) (by rw [List.length_append, List.length_replicate]; omega)
    rw [fracOf_noughts, List.length_append, List.length_replicate, show 3 - ((digsOf 3 l).length + (3 - (digsOf 3 l).length)) = 0 by omega, Nat.pow_zero, Nat.mul_one, Nat.zero_mul, Nat.zero_add] at hx
    exact hx
  have hlt : fracOf 3 (digsOf 3 l) < 10 ^ 3 := fracOf_lt 3 _ hdg
  unfold thP
  subst hc
  by_cases g : digsOf 3 l ≠ []
  · rw [decide_eq_true g] at h
    simp only [Bool.not_true, Bool.or_false] at h
    have hv : valV (digsOf 3 l ++ List.replicate (3 - (digsOf 3 l).length) 48) = some (fracOf 3 (digsOf 3 l) : Int) := by
      unfold valV maxI
      rw [e, if_pos ⟨by simp [g], by omega⟩]
    rcases h with ⟨h1, h2⟩ | ⟨h1, _, _⟩
    · rw [hv] at h1
      cases h1
      rw [if_pos g, h2]; exact Tell.pure
    · rw [hv] at h1; cases h1
  · rw [decide_eq_false g] at h
    rw [if_neg g]
    refine .inr ⟨?_, .inr rfl⟩
    rcases h with ⟨_, h2⟩ | ⟨_, h2, _⟩
    · rw [h2]; simp
    · exact h2
set_option maxHeartbeats 1000000 in
set_option maxRecDepth 100000 in
theorem thousandths_any (w0 : World) (R : Nat) (l : List UInt8) (b : Bool) (w : World) (h : Rd w0 w R l b) (hl : l.length ≤ 1000000) (hT : Errs w0) :
    Calls Tryz.prog 195 #[.pointer (some ⟨R, 0, none⟩)] w fun e w' => ∃ v k b', e = .returned (.int .i64 v) ∧ Rd w0 w' R k b' ∧ k.length ≤ 1000000 ∧ 0 ≤ v ∧ v < 1000 ∧ Hid (Tell b (thP l) v k b') := by
  have HD := hide (digits_any w0 R l b 3 w h (by omega) hl)
  have hdg := digs_dg 3 l
  have hle := digs_len 3 l
  have Y := hide (fun (b' : Bool) (v : Int) (c : Bool) => th_tell (l := l) (b := b) (b' := b') (v := v) (c := c))
  have hk : (l.drop (digsOf 3 l).length).length ≤ 1000000 := by rw [List.length_drop]; omega
  have HM := hide (fun (c : Bool) (w : World) => must_any w0 R (l.drop (digsOf 3 l).length) b c w)
  have hdg2 : ∀ c ∈ digsOf 3 l ++ List.replicate (3 - (digsOf 3 l).length) 48, isDg c = true := by
    intro c hc
    rcases List.mem_append.1 hc with hc | hc
    · exact hdg c hc
    · rw [List.eq_of_mem_replicate hc]; decide
  have hl2 : (digsOf 3 l ++ List.replicate (3 - (digsOf 3 l).length) 48).length ≤ 3 := by rw [List.length_append, List.length_replicate]; omega
  have HV := hide (fun (b : Bool) (w : World) h => value_any w0 R (l.drop (digsOf 3 l).length) (digsOf 3 l ++ List.replicate (3 - (digsOf 3 l).length) 48) b w h hdg2 (by omega) hT)
  have VS := hide (fun (b b' : Bool) (v : Int) (x : Valued b (digsOf 3 l ++ List.replicate (3 - (digsOf 3 l).length) 48) v b') => x.small hdg2 hl2 (by decide))
  have HR := hide (fun w => repeat_noughts (3 - (digsOf 3 l).length) w (by omega))
  have hz1 : (txt (digsOf 3 l)).size = (digsOf 3 l).length := rfl
  have hz2 : (txt (List.replicate (3 - (digsOf 3 l).length) 48)).size = 3 - (digsOf 3 l).length := by rw [txt_size, List.length_replicate]
  have hj : Hid (txt (digsOf 3 l ++ List.replicate (3 - (digsOf 3 l).length) 48) = txt (digsOf 3 l) ++ txt (List.replicate (3 - (digsOf 3 l).length) 48)) := txt_join _ _
  have ha := fun w => run_string_add_sum (P := Tryz.prog) w (txt (digsOf 3 l)) (txt (List.replicate (3 - (digsOf 3 l).length) 48)) (by omega)
  have hsub : ((3 - (digsOf 3 l).length : Nat) : Int) = 3 - ((digsOf 3 l).length : Int) := by omega
  have hne1 : digsOf 3 l ≠ [] → ¬ (txt (digsOf 3 l)).toList = [] := fun x => by rw [ByteArray.toList_eq]; exact x
  have hne2 : digsOf 3 l ≠ [] → (txt (digsOf 3 l)).toList.isEmpty = false := fun x => by rw [ByteArray.toList_eq, txt_data]; simpa using x
  clear h hdg hdg2 hT hl2
  by_cases g : digsOf 3 l ≠ []
  · have Y2 := hide (fun b' v => Y.out b' v true (decide_eq_true g).symm)
    have g1 := hne1 g
    have g2 := hne2 g
    have g3 : (0 : Int) < ((digsOf 3 l).length : Int) := by have := List.length_pos_iff.2 g; omega
    clear Y g hne1 hne2
    rw [hj.out] at HV
    rw [hsub] at HR
    clear hj hsub
    generalize l.drop (digsOf 3 l).length = k at *
    generalize txt (List.replicate (3 - (digsOf 3 l).length) 48) = zs at *
    generalize digsOf 3 l = ds at *
    generalize thP l = y at *
    go_enter Tryz.func195, Tryz.ntmps195
    go_wp2_with fail
    refine HD.out.mono ?_
    rintro e v ⟨rfl, h1⟩
    go_wp2_with fail
    refine (HM.out true v h1).mono ?_
    rintro e v2 ⟨rfl, h2⟩
    go_wp2_with fail
    refine (HR.out _).mono ?_
    rintro e v3 ⟨rfl, hb⟩
    have h3 := h2.pass hb
    clear h1 h2 hb
    go_wp2_with fail
    refine (HV.out _ v3 h3).mono ?_
    rintro e v4 ⟨x, b', rfl, h4, V⟩
    have hb := V.out.bounds
    have hs := VS.out _ _ _ V.out
    go_wp2_with fail
    go_ret
    exact ⟨x, k, b', rfl, h4, hk, hb.1, hs, Y2.out b' x V⟩
  · have Y2 := hide (fun b' v => Y.out b' v false (decide_eq_false g).symm)
    have g1 : digsOf 3 l = [] := by simpa using g
    clear Y g hne1 hne2 hj ha hz1 hz2 hsub HR
    rw [g1] at HD HV VS Y2 hk HM
    clear g1
    have gd : (txt []).toList.isEmpty = true := by rw [ByteArray.toList_eq]; rfl
    have hz0 : (txt ([] : List UInt8)).size = 0 := rfl
    have ha : ∀ w, (Op.stringOp .add (txt []) (txt (List.replicate 3 48))).run Tryz.prog w = .ok (.string (txt [] ++ txt (List.replicate 3 48))) w := fun w => run_string_add_sum (P := Tryz.prog) w (txt []) (txt (List.replicate 3 48)) (by decide)
    have HR := hide (fun w => repeat_noughts 3 w (by omega))
    rw [show ([] ++ List.replicate (3 - ([] : List UInt8).length) 48 : List UInt8) = [] ++ List.replicate 3 48 from rfl, txt_join] at HV
    have hz3 : (txt (List.replicate 3 48)).size = 3 := rfl
    generalize txt (List.replicate 3 48) = zs at *
    generalize thP l = y at *
    go_enter Tryz.func195, Tryz.ntmps195
    go_wp2_with fail
    refine HD.out.mono ?_
    rintro e v ⟨rfl, h1⟩
    go_wp2_with fail
    refine (HM.out false v h1).mono ?_
    rintro e v2 ⟨rfl, h2⟩
    go_wp2_with fail
    refine (HR.out _).mono ?_
    rintro e v3 ⟨rfl, hb⟩
    have h3 := h2.pass hb
    clear h1 h2 hb
    go_wp2_with fail
    refine (HV.out _ v3 h3).mono ?_
    rintro e v4 ⟨x, b', rfl, h4, V⟩
    have hb := V.out.bounds
    have hs := VS.out _ _ _ V.out
    go_wp2_with fail
    go_ret
    exact ⟨x, _, b', rfl, h4, hk, hb.1, hs, Y2.out b' x V⟩

end Go.Proofs.YtfjfkkbgkjmghaaGreatDoor
