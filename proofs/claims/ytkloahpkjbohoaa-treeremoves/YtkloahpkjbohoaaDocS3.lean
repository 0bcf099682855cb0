/- The program's areAttrs, isFormed of layer 10: a node by itself; what lay in the world lies there still. Conditions: rows that lie in the world, of at most 2^47 bytes. -/
import Derived.Test.YtkloahpkjbohoaaDocS2
import Derived.Test.YtkloahpkjbohoaaDocR3
import Derived.Test.YtkloahpkjbohoaaDocK
import Derived.Deep.RegionHeld3
import Derived.Deep.RegionWith
import Derived.BigRegion
import Derived.Deep.QuietTactic
import Derived.BigQuiet
namespace Go.Proofs.Ytkloahpkjbohoaa
open Go.RowKit

def attrsB (ax : List (ByteArray × ByteArray)) : Bool := decide (ax.length ≤ 40) && (List.range ax.length).all (attrOk ax)
theorem attrs_long {ax : List (ByteArray × ByteArray)} (h : 40 < ax.length) : attrsB ax = false := by unfold attrsB; rw [decide_eq_false (by omega)]; rfl
theorem attrs_bad {ax : List (ByteArray × ByteArray)} {k : Nat} (hk : k < ax.length) (h : attrOk ax k = false) : attrsB ax = false := by
  unfold attrsB
  have : (List.range ax.length).all (attrOk ax) = false := by
    rw [List.all_eq_false]
    exact ⟨k, List.mem_range.2 hk, by rw [h]; decide⟩
  rw [this, Bool.and_false]
theorem attrs_good {ax : List (ByteArray × ByteArray)} (h0 : ax.length ≤ 40) (h : ∀ k, k < ax.length → attrOk ax k = true) : attrsB ax = true := by
  unfold attrsB
  rw [decide_eq_true h0, Bool.true_and, List.all_eq_true]
  exact fun k hk => h k (List.mem_range.1 hk)
theorem take_idx {ax : List (ByteArray × ByteArray)} {k : Nat} (hk : k < ax.length) : (findA ax ax[k].1 == some k) = !((ax.take k).findIdx? (isN ax[k].1)).isSome := by
  by_cases h : ∀ j (hj : j < k), ¬ ax[j].1 = ax[k].1
  · rw [(find_first hk).2 h]
    have : (ax.take k).findIdx? (isN ax[k].1) = none := by
      rw [List.findIdx?_eq_none_iff]
      intro x hx
      obtain ⟨j, hj, rfl⟩ := List.getElem_of_mem hx
      rw [List.length_take] at hj
      rw [List.getElem_take]
      exact decide_eq_false (h j (by omega))
    rw [this]; simp
  · have h1 : (findA ax ax[k].1 == some k) = false := by
      rw [beq_eq_false_iff_ne]
      exact fun q => h ((find_first hk).1 q)
    rw [h1]
    have : ((ax.take k).findIdx? (isN ax[k].1)).isSome = true := by
      rw [List.findIdx?_isSome, List.any_eq_true]
      have ⟨j, hj⟩ : ∃ j, ∃ hj : j < k, ax[j].1 = ax[k].1 := by
        refine Classical.byContradiction fun q => h fun j hj e => q ⟨j, hj, e⟩
      obtain ⟨hj, e⟩ := hj
      exact ⟨ax[j], List.mem_take_iff_getElem.2 ⟨j, by omega, rfl⟩, decide_eq_true e⟩
    rw [this]; rfl
theorem attrOk_tk {ax : List (ByteArray × ByteArray)} {k : Nat} (hk : k < ax.length) : attrOk ax k = (nameOk ax[k].1 && (decide (ax[k].2.size ≤ 4000) && !((ax.take k).findIdx? (isN ax[k].1)).isSome)) := by
  unfold attrOk
  have : ax.getD k at0 = ax[k] := by simp [List.getD, hk]
  rw [this, take_idx hk]
theorem AttrsV.take {w : World} {p : Option Addr} {c : Nat} {ax : List (ByteArray × ByteArray)} (h : AttrsV w (.slice p ax.length c) ax) {k : Nat} (hk : k ≤ ax.length) (c' : Nat) : AttrsV w (.slice p k c') (ax.take k) := by
  obtain ⟨p', c2, e, h⟩ := h
  cases e
  refine ⟨p, c', by rw [List.length_take, Nat.min_eq_left hk], ?_⟩
  rcases h with h | ⟨b, o, rfl, h⟩
  · exact .inl (by rw [h, List.take_nil])
  · refine .inr ⟨b, o, rfl, fun i hi => ?_⟩
    rw [List.length_take] at hi
    rw [List.getElem_take]
    exact h i (by omega)
theorem attrs_cap {w : World} {v : Value} {ax : List (ByteArray × ByteArray)} (h : AttrsV w v ax) : ∃ p c, v = .slice p ax.length c := by
  obtain ⟨p, c, e, _⟩ := h
  exact ⟨p, c, e⟩
set_option maxHeartbeats 4000000 in
set_option maxRecDepth 100000 in
theorem areAttrs_any (p : Option Addr) (c : Nat) (ax : List (ByteArray × ByteArray)) (w : World) (hv : AttrsV w (.slice p ax.length c) ax) (hl : ax.length ≤ 4398046511104) (hc : ax.length ≤ c) (hs : ∀ a ∈ ax, a.1.size ≤ maxLen ∧ a.2.size ≤ maxLen) :
    Calls Try.prog 63 #[.slice p ax.length c] w fun e w' => e = .returned (.bool (attrsB ax)) ∧ Below w.heap.size w w' := by
  by_cases h40 : 40 < ax.length
  · have E := hide (attrs_long h40)
    have i1 : (40 : Int) < (ax.length : Int) := by omega
    clear hv hs h40
    go_enter Try.func63, Try.ntmps63
    go_wp2_with fail
    go_ret
    exact ⟨ret_bool E.out.symm, Below.refl _ _⟩
  have i40 : ¬ (40 : Int) < (ax.length : Int) := by omega
  have n40 : ax.length ≤ 40 := by omega
  have BAD := hide (fun k hk h => attrs_bad (ax := ax) (k := k) hk h)
  have GOOD := hide (fun h => attrs_good (ax := ax) n40 h)
  have HV := hide hv
  have HS := hide hs
  clear hv hs h40
  generalize attrsB ax = R at *
  go_enter Try.func63, Try.ntmps63
  go_wp2_with fail
  go_loopw [10] (fun iv wr => ∃ k : Nat, k ≤ ax.length ∧ iv = .int .i64 k ∧ Hid (∀ j, j < k → attrOk ax j = true) ∧ Hid (Below w.heap.size w wr)) (fun iv _ => ax.length - (intOf iv).toNat)
  case atStart => exact ⟨0, Nat.zero_le _, rfl, fun j q => by omega, Below.refl _ _⟩
  case round =>
    rename World => wr
    obtain ⟨k, hk, rfl, hd, BW⟩ := hrel
    by_cases h : k < ax.length
    · have i1 : (k : Int) < (ax.length : Int) := by omega
      have i0 : (0 : Int) ≤ (k : Int) := by omega
      have i2 : (k : Int) ≤ (c : Int) := by omega
      obtain ⟨b, o, rfl, hcell⟩ : ∃ b o, p = some ⟨b, o, none⟩ ∧ ∀ i (h : i < ax.length), w.cell? ⟨b, o + i * 2, none⟩ = some (.string ax[i].1) ∧ w.cell? ⟨b, o + i * 2 + 1, none⟩ = some (.string ax[i].2) := by
        obtain ⟨p', c', e, hv⟩ := HV.out
        cases e
        rcases hv with hv | hv
        · rw [hv] at h; simp at h
        · exact hv
      have c0 := cell_below (hcell k h).1 BW.out
      have c1 := cell_below (hcell k h).2 BW.out
      have OK := hide (attrOk_tk h)
      have Z := HS.out ax[k] (List.getElem_mem _)
      have z1 := Z.1
      have z2 := Z.2
      have BK := hide (BAD.out k h)
      have NX := hide (fun q : attrOk ax k = true => (fun j (r : j < k + 1) => by
        rcases Nat.lt_or_ge j k with t | t
        · exact hd.out j t
        · obtain rfl : j = k := by omega
          exact q : ∀ j, j < k + 1 → attrOk ax j = true))
      have HT : Hid (AttrsV w (.slice (some ⟨b, o, none⟩) k c) (ax.take k)) := HV.out.take hk c
      have tl : (ax.take k).length ≤ 4398046511104 := by rw [List.length_take]; omega
      have TL := hide tl
      clear hcell Z HV HS BAD GOOD hd tl
      generalize ax.take k = tk at *
      obtain ⟨n, hn⟩ : ∃ n, Hid (ax[k].1 = n) := ⟨ax[k].1, show _ = _ from rfl⟩
      obtain ⟨u, hu⟩ : ∃ u, Hid (ax[k].2 = u) := ⟨ax[k].2, show _ = _ from rfl⟩
      rw [hn.out] at c0 OK z1
      rw [hu.out] at c1 OK z2
      have HN := hide (fun w => isName_any n w z1)
      clear hn hu z1
      unfold maxLen at z2
      have bn : b < wr.heap.size := World.block_lt_of_cell? _ _ c0
      have bn2 : b ≠ wr.heap.size := by omega
      cases q1 : nameOk n with
      | false =>
        rw [q1] at HN OK
        have E := hide (BK.out (by rw [OK.out]; rfl))
        clear OK BK NX q1 HT
        go_wp2_with fail
        generalize hw1 : wr.alloc (.cells #[.string n, .string u] 48) = w1
        have N1 : Hid (NB w1 wr.heap.size [.string n, .string u] 48) := by rw [← hw1]; exact NB.new wr _ _
        have b1 : Hid (Below w.heap.size w w1) := by rw [← hw1]; exact chain BW.out ((Below.refl _ wr).alloc (Nat.le_refl _) _)
        have d0 := N1.out.cell 0 rfl
        have d1 := N1.out.cell 1 rfl
        clear hw1
        go_quiet (exact Calls.quiet_of_same (HN.out _))
        go_wp2_with fail
        go_ret
        exact ⟨ret_bool E.out.symm, bel_drewN b1.out _⟩
      | true =>
        rw [q1, Bool.true_and] at OK
        rw [q1] at HN
        clear q1
        by_cases q2 : u.size ≤ 4000
        · rw [decide_eq_true q2, Bool.true_and] at OK
          have j1 : ¬ (4000 : Int) < (u.size : Int) := by omega
          have j2 : decide ((4000 : Int) < (u.size : Int)) = false := decide_eq_false j1
          go_wp2_with fail
          generalize hw1 : wr.alloc (.cells #[.string n, .string u] 48) = w1
          have N1 : Hid (NB w1 wr.heap.size [.string n, .string u] 48) := by rw [← hw1]; exact NB.new wr _ _
          have b1 : Hid (Below w.heap.size w w1) := by rw [← hw1]; exact chain BW.out ((Below.refl _ wr).alloc (Nat.le_refl _) _)
          have d0 := N1.out.cell 0 rfl
          have d1 := N1.out.cell 1 rfl
          have ln := N1.out.lt
          have ne : wr.heap.size ≠ w1.heap.size := by omega
          have AB : Hid (∀ m, Below w1.heap.size w1 ((w1.alloc (.cells #[.string n] 9)).drewN m)) := fun m => bel_drewN ((Below.refl _ w1).alloc (Nat.le_refl _) _) m
          have HCF := hide (fun m => containsFuncA_any (.slice (some ⟨b, o, none⟩) k c) tk (isN n) 73 #[.pointer (some ⟨w1.heap.size, 0, none⟩)] entersCalled ((w1.alloc (.cells #[.string n] 9)).drewN m) (HT.out.below (chain b1.out (AB.out m))) ((called_pred n w1).later (bel_drewN (Below.refl _ _) m)) TL.out)
          clear hw1 c0 c1 HT
          generalize (tk.findIdx? (isN n)).isSome = r at *
          go_region_held3 (fun w' => w'.cell? ⟨wr.heap.size, 0, none⟩ = some (.string n) ∧ w'.cell? ⟨wr.heap.size, 1, none⟩ = some (.string u)) (first | go_keep | exact ⟨cell_below d0 (chain (AB.out 1) bb), cell_below d1 (chain (AB.out 1) bb)⟩)
            (first | (go_at_call 43; refine (HN.out _).mono ?_; rintro e w' ⟨rfl, rfl⟩) | (go_at_call 57; refine (called_any n _).mono ?_; rintro e w' ⟨rfl, rfl⟩) | (go_at_call 75; refine (HCF.out 1).mono ?_; rintro e w2 ⟨rfl, bb⟩))
          have b2 : Hid (Below w.heap.size w w2) := chain b1.out (chain (AB.out 1) bb)
          cases r with
          | true =>
            have E := hide (BK.out (by rw [OK.out]; rfl))
            clear OK BK NX
            go_wp2_with fail
            go_ret
            exact ⟨ret_bool E.out.symm, b2.out⟩
          | false =>
            have E := hide (NX.out (by rw [OK.out]; rfl))
            clear OK BK NX
            go_wp2_with fail
            go_roundw
            case rel => exact ⟨k + 1, by omega, by go_num, E, b2⟩
            case measure => simp [intOf]; omega
        · rw [decide_eq_false q2, Bool.false_and] at OK
          have E := hide (BK.out OK.out)
          have j1 : (4000 : Int) < (u.size : Int) := by omega
          have j2 : decide ((4000 : Int) < (u.size : Int)) = true := decide_eq_true j1
          clear OK BK NX q2 HT
          go_wp2_with fail
          generalize hw1 : wr.alloc (.cells #[.string n, .string u] 48) = w1
          have N1 : Hid (NB w1 wr.heap.size [.string n, .string u] 48) := by rw [← hw1]; exact NB.new wr _ _
          have b1 : Hid (Below w.heap.size w w1) := by rw [← hw1]; exact chain BW.out ((Below.refl _ wr).alloc (Nat.le_refl _) _)
          have d0 := N1.out.cell 0 rfl
          have d1 := N1.out.cell 1 rfl
          clear hw1
          go_quiet (exact Calls.quiet_of_same (HN.out _))
          go_wp2_with fail
          go_ret
          exact ⟨ret_bool E.out.symm, bel_drewN b1.out _⟩
    · obtain rfl : k = ax.length := by omega
      have E := hide (GOOD.out (fun j hj => hd.out j hj))
      clear BAD GOOD hd HV HS h
      go_wp2_with fail
      go_ret
      exact ⟨ret_bool E.out.symm, BW.out⟩

end Go.Proofs.Ytkloahpkjbohoaa
