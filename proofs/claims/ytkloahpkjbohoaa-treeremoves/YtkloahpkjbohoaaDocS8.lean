/- The program's isThere, Order, upwards of layer 10; slices.Index and Contains of a row of numbers; what lay in the world lies there still. Conditions: a document as it lies in the world; rows of at most 2^47 bytes. -/
import Derived.Test.YtkloahpkjbohoaaDocS7
namespace Go.Proofs.Ytkloahpkjbohoaa
open Go.RowKit

set_option maxHeartbeats 1000000 in
theorem isThere_any (v : Value) (l : List Nd) (id : Int) (w : World) (hv : NodesV w v l) (hz : DocSz l) :
    Calls Try.prog 48 #[v, .int .i64 id] w fun e w' => e = .returned (.bool (hasN l id)) ∧ Below w.heap.size w w' := by
  have HR := hide (right_any v l w hv hz)
  obtain ⟨p, c, rfl, hv⟩ := hv
  have hlen := hz.len
  clear hv hz
  unfold hasN
  by_cases h1 : 0 ≤ id
  · by_cases h2 : id < (l.length : Int)
    · rw [decide_eq_true ⟨h1, h2⟩, Bool.true_and]
      generalize rightB l = r at *
      go_enter Try.func48, Try.ntmps48
      go_wp2_with fail
      refine HR.out.mono ?_
      rintro e w1 ⟨rfl, b1⟩
      go_wp2_with fail
      go_ret
      exact ⟨rfl, b1⟩
    · rw [decide_eq_false (fun q => h2 q.2), Bool.false_and]
      have d : decide (id < (l.length : Int)) = false := decide_eq_false h2
      go_enter Try.func48, Try.ntmps48
      go_wp2_with fail
      go_ret
      exact ⟨rfl, Below.refl _ _⟩
  · rw [decide_eq_false (fun q => h1 q.1), Bool.false_and]
    go_enter Try.func48, Try.ntmps48
    go_wp2_with fail
    go_ret
    exact ⟨rfl, Below.refl _ _⟩

/-- What Order tells. -/
def ordL (l : List Nd) (id : Int) : List Int := if hasN l id = true then downF l l.length id else []
theorem down_few {l : List Nd} (h : Right l) {k : Int} (hk : inR l k) : (downF l l.length k).length ≤ 400 := by
  obtain ⟨d, g⟩ := right_dep h hk
  have := nodup_len l.length (downF l l.length k) (down_nodup (right_linked h) g) (fun x hx => down_range (right_sub h hk) hx)
  have := h.len
  omega
theorem has_is {l : List Nd} {id : Int} (h : hasN l id = true) : Right l ∧ inR l id := by
  unfold hasN at h
  rw [Bool.and_eq_true, decide_eq_true_eq] at h
  exact ⟨right_is.1 h.2, h.1⟩
set_option maxHeartbeats 1000000 in
theorem order_any (v : Value) (l : List Nd) (id : Int) (w : World) (hv : NodesV w v l) (hz : DocSz l) :
    Calls Try.prog 26 #[v, .int .i64 id] w fun e w' => ∃ v', e = .returned v' ∧ KidsO w.heap.size w' v' (ordL l id) ∧ Below w.heap.size w w' := by
  have HH := hide (isThere_any v l id w hv hz)
  have HV := hide hv
  clear hv hz
  cases q : hasN l id with
  | false =>
    rw [q] at HH
    have E : Hid (ordL l id = []) := by show _ = _; unfold ordL; rw [q]; rfl
    go_enter Try.func26, Try.ntmps26
    go_wp2_with fail
    refine HH.out.mono ?_
    rintro e w1 ⟨rfl, b1⟩
    go_wp2_with fail
    go_ret
    exact ⟨_, rfl, by rw [E.out]; exact World.ownsRow_nil _ _ _ _, b1⟩
  | true =>
    rw [q] at HH
    have E : Hid (ordL l id = downF l l.length id) := by show _ = _; unfold ordL; rw [q]; rfl
    obtain ⟨r1, r2⟩ := has_is q
    have HD := hide (fun W (hb : Below w.heap.size w W) => down_any w v l HV.out l.length id [] (.slice none 0 0) W hb (World.ownsRow_nil _ _ _ _) (right_sub r1 r2) (by have := down_few r1 r2; rw [List.length_nil]; omega))
    rw [List.nil_append] at HD
    clear q r1 r2
    go_enter Try.func26, Try.ntmps26
    go_wp2_with fail
    refine HH.out.mono ?_
    rintro e w1 ⟨rfl, b1⟩
    go_wp2_with fail
    refine (HD.out _ b1).mono ?_
    rintro e w2 ⟨v2, rfl, k2, b2⟩
    go_wp2_with fail
    go_ret
    exact ⟨_, rfl, by rw [E.out]; exact k2, b2⟩

/-- The place of a number. -/
def idxI (ks : List Int) (x : Int) : Option Nat := ks.findIdx? fun y => decide (y = x)
theorem idxI_hit {ks : List Int} {x : Int} {k : Nat} (h : k < ks.length) (hp : ks[k] = x) (hd : ∀ j (hj : j < ks.length), j < k → ¬ ks[j] = x) : idxI ks x = some k := by
  unfold idxI
  rw [List.findIdx?_eq_some_iff_getElem]
  exact ⟨h, decide_eq_true hp, fun j hj => by rw [decide_eq_false (hd j (by omega) hj)]; decide⟩
theorem idxI_miss {ks : List Int} {x : Int} (hd : ∀ j (hj : j < ks.length), ¬ ks[j] = x) : idxI ks x = none := by
  unfold idxI
  rw [List.findIdx?_eq_none_iff]
  intro y hy
  obtain ⟨j, hj, rfl⟩ := List.getElem_of_mem hy
  exact decide_eq_false (hd j hj)
theorem idxI_mem (ks : List Int) (x : Int) : (idxI ks x).isSome = decide (x ∈ ks) := by
  unfold idxI
  rw [List.findIdx?_isSome, Bool.eq_iff_iff, List.any_eq_true, decide_eq_true_eq]
  constructor
  · rintro ⟨y, h1, h2⟩
    rw [← of_decide_eq_true h2]; exact h1
  · exact fun h => ⟨x, h, decide_eq_true rfl⟩
set_option maxHeartbeats 2000000 in
theorem indexI_any (v : Value) (ks : List Int) (x : Int) (w : World) (hv : IntsV w v ks) (hl : ks.length ≤ 17592186044416) :
    Calls Try.prog 52 #[v, .int .i64 x] w fun e w' => e = .returned (.int .i64 (findV (idxI ks x))) ∧ w' = w := by
  obtain ⟨pp, c, rfl, hv⟩ := hv
  have HIT := hide (fun k h h1 h2 => idxI_hit (ks := ks) (x := x) (k := k) h h1 h2)
  have MISS := hide (fun h => idxI_miss (ks := ks) (x := x) h)
  generalize idxI ks x = R at *
  go_enter Try.func52, Try.ntmps52
  go_wp2_with fail
  go_loop [8] (fun iv => ∃ k : Nat, k ≤ ks.length ∧ iv = .int .i64 k ∧ Hid (∀ j (hj : j < ks.length), j < k → ¬ ks[j] = x)) (fun iv => ks.length - (intOf iv).toNat)
  case atStart => exact ⟨0, Nat.zero_le _, rfl, fun j _ q => by omega⟩
  case round =>
    obtain ⟨k, hk, rfl, hd⟩ := hrel
    by_cases h : k < ks.length
    · have i1 : (k : Int) < (ks.length : Int) := by omega
      rcases hv with hv | ⟨b, o, rfl, hv⟩
      · rw [hv] at h; simp at h
      have c0 := hv k h
      by_cases q : ks[k] = x
      · have E := hide (HIT.out k h q (fun j hj r => hd.out j hj r))
        rw [q] at c0
        clear HIT MISS hd hv q
        go_wp2_with fail
        go_ret
        exact ⟨by rw [E.out]; rfl, rfl⟩
      · have q2 : (x == ks[k]) = false := by rw [beq_eq_false_iff_ne]; exact fun r => q r.symm
        have E : Hid (∀ j (hj : j < ks.length), j < k + 1 → ¬ ks[j] = x) := fun j hj r => by
          rcases Nat.lt_or_ge j k with t | t
          · exact hd.out j hj t
          · obtain rfl : j = k := by omega
            exact q
        clear HIT MISS hd hv q
        generalize ks[k] = y at *
        go_wp2_with fail
        go_round
        case rel => exact ⟨k + 1, by omega, by go_num, E⟩
        case measure => simp [intOf]; omega
    · obtain rfl : k = ks.length := by omega
      have E := hide (MISS.out (fun j hj => hd.out j hj hj))
      clear HIT MISS hd hv h
      go_wp2_with fail
      go_ret
      exact ⟨by rw [E.out]; rfl, rfl⟩
theorem findV_pos (o : Option Nat) : decide (0 ≤ findV o) = o.isSome := by
  cases o with
  | none => rfl
  | some k => exact decide_eq_true (by show (0 : Int) ≤ (k : Int); omega)
set_option maxHeartbeats 1000000 in
theorem containsI_any (v : Value) (ks : List Int) (x : Int) (w : World) (hv : IntsV w v ks) (hl : ks.length ≤ 17592186044416) :
    Calls Try.prog 49 #[v, .int .i64 x] w fun e w' => e = .returned (.bool (decide (x ∈ ks))) ∧ w' = w := by
  have HI := hide (indexI_any v ks x w hv hl)
  have E := hide ((findV_pos (idxI ks x)).trans (idxI_mem ks x))
  generalize decide (x ∈ ks) = R at *
  generalize findV (idxI ks x) = z at *
  clear hv
  go_enter Try.func49, Try.ntmps49
  go_wp2_with fail
  refine HI.out.mono ?_
  rintro e w1 ⟨rfl, hw⟩
  obtain rfl : w = w1 := hw.symm
  go_wp2_with fail
  go_ret
  exact ⟨ret_bool E.out, rfl⟩

set_option maxHeartbeats 4000000 in
set_option maxRecDepth 100000 in
theorem upwards_any (v : Value) (l : List Nd) (m0 : Nat) (w : World) (hv : NodesV w v l) (hR : Right l) (h0 : m0 < l.length) :
    Calls Try.prog 50 #[v, .int .i64 (m0 : Int)] w fun e w' => ∃ v', e = .returned v' ∧ KidsO w.heap.size w' v' (anc l (m0 : Int)) ∧ Below w.heap.size w w' := by
  have HV := hide hv
  obtain ⟨p, c, rfl, hv⟩ := hv
  have hlen := hR.len.2
  rcases hv with hv | ⟨b, o, rfl, hv⟩
  · rw [hv] at h0; simp at h0
  have HC := hide hv
  have HRt := hide hR
  have AL : Hid (∀ k : Int, k < l.length → (anc l k).length ≤ 400) := fun k hk => by
    have := nodup_len l.length (anc l k) (anc_nodup l _ k (HRt.out.ende hk)) (anc_range l (fun i hi => (HRt.out.par i hi).2) _ k hk)
    omega
  obtain ⟨iI, hI0, hI1, hI2, hI3⟩ := info_parts infoI
  clear hv hR
  generalize hW : anc l (m0 : Int) = A
  have LA : Hid (A.length ≤ 400) := by rw [← hW]; exact AL.out _ (by omega)
  have HA := hide hW
  clear hW
  go_enter Try.func50, Try.ntmps50
  go_wp2_with fail
  go_loopw [1, 5] (fun iv sv wr => ∃ (z : Int) (xs : List Int), iv = .int .i64 z ∧ -1 ≤ z ∧ z < (l.length : Int) ∧ Hid (xs ++ anc l z = A) ∧ Hid (KidsO w.heap.size wr sv xs) ∧ Hid (Below w.heap.size w wr)) (fun iv _ _ => hgt l (intOf iv))
  case atStart => exact ⟨(m0 : Int), [], rfl, by omega, by omega, by show _ = _; rw [List.nil_append]; exact HA.out, World.ownsRow_nil _ _ _ _, Below.refl _ _⟩
  case round =>
    rename World => wr
    obtain ⟨z, xs, rfl, z1, z2, HX, KO, BW⟩ := hrel
    clear HA
    by_cases q : z = -1
    · have f1 : (z != -1) = false := by rw [q]; rfl
      have f2 : (z == -1) = true := by rw [q]; rfl
      have E : Hid (xs = A) := by
        show _ = _
        have := HX.out
        rw [anc_neg (by omega), List.append_nil] at this
        exact this
      clear q HX
      go_wp2_with fail
      go_ret
      exact ⟨_, rfl, by rw [← E.out]; exact KO.out, BW.out⟩
    · have f1 : (z != -1) = true := by rw [bne_iff_ne]; exact q
      have f2 : (z == -1) = false := by rw [beq_eq_false_iff_ne]; exact q
      obtain ⟨m, rfl⟩ : ∃ m : Nat, z = (m : Int) := ⟨z.toNat, by omega⟩
      have hm : m < l.length := by omega
      have m0' : (0 : Int) ≤ (m : Int) := by omega
      have he := HRt.out.ende z2
      have hu := anc_up he (by omega)
      have HH := hide (hgt_up he (by omega))
      have pb := HRt.out.par m hm
      rw [nd_at hm] at pb
      rw [parI_nat hm] at hu HH
      obtain ⟨va, vk, N0⟩ := HC.out m hm
      have NW : Hid (∀ W, Below w.heap.size w W → NodeAt W b (o + m * 5) l[m] va vk) := fun W hb => N0.below hb
      have HX1 : Hid ((xs ++ [(m : Int)]) ++ anc l l[m].parent = A) := by
        show _ = _
        have := HX.out
        rw [hu] at this
        rw [← this]; simp
      have p1 := pb.1
      have p2 := pb.2
      have xl : xs.length ≤ 400 := by
        have := congrArg List.length HX.out
        rw [List.length_append] at this
        have := LA.out
        omega
      have Bw : w.heap.size ≤ wr.heap.size := BW.out.size
      have OW := hide (World.ownsRow.alloc KO.out (.cells #[.int .i64 (m : Int)] 3))
      have RW := hide ((NB.new wr [.int .i64 (m : Int)] 3).raw 1 1 rfl 1)
      have hBa : Hid (w.heap.size ≤ (wr.alloc (.cells #[.int .i64 (m : Int)] 3)).heap.size) := by show _ ≤ _; simp; omega
      clear q HX he hu pb N0
      go_wp2_with (at_builtin; refine wpList_append_raw rfl _ _ _ rfl w.heap.size 3 iI _ 1 8 Try.underlying43 hI0 hI1 hI2 hI3 rfl (by omega) _ xs.length (cellsI xs) rfl OW.out _ 1 _ rfl RW.out (by simp [Value.oneCell']) (by unfold maxLen; omega) (by omega) hBa.out ?_; intro q1 c1 w1 own1 gr1 at1; have B1 : Hid (Below w.heap.size w w1) := BW.out.trans (((Chg.alloc wr _).nil.trans (Chg.of_grown gr1)).below Bw (fun k hk => (OW.out.lt k (opt_mem.1 hk)).1)); have a3 := (NW.out w1 B1.out).parent)
      have K1 : Hid (KidsO w.heap.size w1 (.slice q1 (xs.length + 1) c1) (xs ++ [(m : Int)])) := by
        show w1.ownsRow _ _ 1 _ (xs ++ [(m : Int)]).length (cellsI (xs ++ [(m : Int)]))
        rw [List.length_append, cellsI_app]
        exact own1
      clear own1 gr1 at1
      go_roundw
      case rel => exact ⟨l[m].parent, xs ++ [(m : Int)], rfl, p1, p2, HX1, K1, B1⟩
      case measure => have := HH.out; show hgt l l[m].parent < hgt l (m : Int); omega

end Go.Proofs.Ytkloahpkjbohoaa
