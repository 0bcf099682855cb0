/- The document's List of layer 15. The program's Named of layer 10. Rows of numbers, each in a row of the call's own, behind a row of the call's own. The program's formOf, owned of layer 16 and their closures. -/
import Derived.Test.YtldbaoolddlacaaGreatDoorJgz21

namespace Go.Proofs.YtldbaoolddlacaaGreatDoor
open Go.RowKit
set_option maxRecDepth 100000
theorem filt_no {p : Int → Bool} {xs : List Int} {k : Nat} (h : k < xs.length) (hp : p xs[k] = false) : (xs.take (k + 1)).filter p = (xs.take k).filter p := by
  rw [List.take_succ_eq_append_getElem h, List.filter_append, List.filter_cons_of_neg (by rw [hp]; decide), List.filter_nil, List.append_nil]
theorem filt_yes {p : Int → Bool} {xs : List Int} {k : Nat} (h : k < xs.length) (hp : p xs[k] = true) : (xs.take (k + 1)).filter p = (xs.take k).filter p ++ [xs[k]] := by
  rw [List.take_succ_eq_append_getElem h, List.filter_append, List.filter_cons_of_pos hp, List.filter_nil]
theorem order_few {l : List Nd} (h : Right l) {m : Nat} (hm : m < l.length) : (orderP l (m : Int)).length ≤ 400 := by
  have h1 := nodup_len l.length _ (order_nodup h (id := (m : Int)) (by omega) (by omega)) (fun x hx => by
    have := (order_mem h (by omega) (by omega) x).1 hx
    exact ⟨this.1, this.2.1⟩)
  have := h.len
  omega
end Go.Proofs.YtldbaoolddlacaaGreatDoor

namespace Go.Proofs.YtldbaoolddlacaaGreatDoor
open Go.RowKit
def idIs (x : ByteArray) (a : ByteArray × ByteArray) : Bool := decide (a.1 = idT) && decide (a.2 = x)
theorem id_any {ax : List (ByteArray × ByteArray)} (h : AttrsOk ax) (x : ByteArray) : (ax.findIdx? (idIs x)).isSome = decide ((findA ax idT).map (fun i => (ax.getD i at0).2) = some x) := by
  rw [List.findIdx?_isSome, Bool.eq_iff_iff, List.any_eq_true, decide_eq_true_eq]
  constructor
  · rintro ⟨a, ha, q⟩
    unfold idIs at q
    rw [Bool.and_eq_true, decide_eq_true_eq, decide_eq_true_eq] at q
    obtain ⟨j, hj, rfl⟩ := List.getElem_of_mem ha
    have hf : findA ax idT = some j := by
      rw [← q.1]
      rw [find_first hj]
      intro i hi e
      have hn := List.pairwise_iff_getElem.1 h.once i j (by simp; omega) (by simpa using hj) hi
      exact hn (by simpa using e)
    rw [hf]
    simp [List.getD, hj, q.2]
  · intro q
    cases hf : findA ax idT with
    | none => rw [hf] at q; cases q
    | some j =>
      rw [hf] at q
      obtain ⟨hj, e1, _⟩ := find_some hf
      have e2 : ax[j].2 = x := by
        have := Option.some.inj q
        simpa [List.getD, hj] using this
      exact ⟨ax[j], List.getElem_mem _, by unfold idIs; rw [decide_eq_true e1, decide_eq_true e2]; rfl⟩
theorem id_node {l : List Nd} (h : Right l) {m : Nat} (hm : m < l.length) (x : ByteArray) : (l[m].attrs.findIdx? (idIs x)).isSome = hasId l x (m : Int) := by
  have al := h.alone m hm
  rw [nd_at hm] at al
  unfold hasId attrP
  rw [Int.toNat_natCast, nd_at hm]
  by_cases nn : l[m].name.size = 0
  · unfold aloneB at al
    rw [if_pos nn, Bool.and_eq_true] at al
    have : l[m].attrs = [] := List.isEmpty_iff.1 al.1
    rw [this]
    rfl
  · exact id_any (alone_attrs al nn).2 x
set_option maxHeartbeats 1000000 in
theorem named1_any (x : ByteArray) (B : Nat) (a : ByteArray × ByteArray) (W : World) (hc : W.cell? ⟨B, 0, none⟩ = some (.string x)) :
    Calls Tryz.prog 102 #[.agg #[.string a.1, .string a.2], .pointer (some ⟨B, 0, none⟩)] W fun e w' => e = .returned (.bool (idIs x a)) ∧ Below W.heap.size W w' := by
  have hB := World.block_lt_of_cell? _ _ hc
  have hne : B ≠ W.heap.size := by have : B < W.heap.size := hB; omega
  have E1 := txt_beq a.1 idT
  have E2 := txt_beq a.2 x
  unfold idIs
  have ei : idT.toList = [105, 100] := by rw [ByteArray.toList_eq]; rfl
  rw [ei] at E1
  generalize a.1 = a1 at *
  generalize a.2 = a2 at *
  generalize decide (a1 = idT) = r1 at *
  generalize decide (a2 = x) = r2 at *
  clear ei
  cases r1 with
  | true =>
    cases r2 with
    | true =>
      go_enter Tryz.func102, Tryz.ntmps102
      go_wp2_with fail
      go_ret
      exact ⟨rfl, (Below.refl _ W).alloc (Nat.le_refl _) _⟩
    | false =>
      go_enter Tryz.func102, Tryz.ntmps102
      go_wp2_with fail
      go_ret
      exact ⟨rfl, (Below.refl _ W).alloc (Nat.le_refl _) _⟩
  | false =>
    go_enter Tryz.func102, Tryz.ntmps102
    go_wp2_with fail
    go_ret
    exact ⟨rfl, (Below.refl _ W).alloc (Nat.le_refl _) _⟩
theorem named_pred (x : ByteArray) (B : Nat) (w : World) (hc : w.cell? ⟨B, 0, none⟩ = some (.string x)) : PredA 102 #[.pointer (some ⟨B, 0, none⟩)] (idIs x) w := fun W a hb =>
  named1_any x B a W (cell_below hc hb)
theorem entersNamed : ∀ args w, (callFunc 102 args).run Tryz.prog w = .ok (.enter 102 args) w := Go.Proofs.enters_of Tryz.func102 (by kernel_rfl) rfl
/-- What Named answers. -/
def namedQ (l : List Nd) (x : ByteArray) : Int := if rightB l = true then namedP l x else -1
set_option maxHeartbeats 4000000 in
set_option maxRecDepth 100000 in
theorem named_any (v : Value) (l : List Nd) (x : ByteArray) (w : World) (hv : NodesV w v l) (hz : DocSz l) :
    Calls Tryz.prog 93 #[v, .string x] w fun e w' => e = .returned (.int .i64 (namedQ l x)) ∧ Below w.heap.size w w' := by
  have HR := hide (fun W (hb : Below w.heap.size w W) => right_any v l W (hv.below hb) hz)
  have HV := hide hv
  obtain ⟨p, c, rfl, hv⟩ := hv
  have HP := hide hv
  have HZ := hide hz
  clear hv hz
  cases q0 : noName x with
  | true =>
    have E : Hid (namedQ l x = -1) := by
      show _ = _
      unfold namedQ namedP
      rw [q0]
      split <;> rfl
    obtain rfl := noName_true q0
    clear q0
    go_enter Tryz.func93, Tryz.ntmps93
    go_wp2_with fail
    go_ret
    exact ⟨ret_int E.out.symm, (Below.refl _ w).alloc (Nat.le_refl _) _⟩
  | false =>
    have e1 := noName_false q0
    have e2 : x.toList.isEmpty = false := by cases h : x.toList with
      | nil => exact absurd h e1
      | cons => rfl
    have e3 : (x.toList == []) = false := by rw [beq_eq_false_iff_ne]; exact e1
    have BA : Hid (Below w.heap.size w (w.alloc (.cells #[.string x] 9))) := (Below.refl _ w).alloc (Nat.le_refl _) _
    cases q1 : rightB l with
    | false =>
      have E : Hid (namedQ l x = -1) := by show _ = _; unfold namedQ; rw [q1]; rfl
      have HR' := hide (HR.out _ BA.out)
      rw [q1] at HR'
      clear q0 q1 HR
      go_enter Tryz.func93, Tryz.ntmps93
      go_wp2_with fail
      refine HR'.out.mono ?_
      rintro e w1 ⟨rfl, b1⟩
      go_wp2_with fail
      go_ret
      exact ⟨ret_int E.out.symm, chain BA.out b1⟩
    | true =>
      have hR := right_is.1 q1
      have HR' := hide (HR.out _ BA.out)
      rw [q1] at HR'
      have r0 : inR l 0 := ⟨by omega, by have := hR.len.1; omega⟩
      have E : Hid (namedQ l x = ((downF l l.length 0).find? (hasId l x)).getD (-1)) := by show _ = _; unfold namedQ namedP; rw [q1, q0, order_down hR r0]; rfl
      have HRt := hide hR
      have h0 : 0 < l.length := by have := hR.len.1; omega
      obtain ⟨b, o, rfl, hcell⟩ : ∃ b o, p = some ⟨b, o, none⟩ ∧ ∀ i (h : i < l.length), ∃ va vk, NodeAt w b (o + i * 5) l[i] va vk := by
        rcases HP.out with t | t
        · rw [t] at h0; simp at h0
        · exact t
      have HC := hide hcell
      have hlen := hR.len.2
      have HD := hide (fun W (hb : Below w.heap.size w W) => down_any W _ l (HV.out.below hb) l.length 0 [] (.slice none 0 0) W (Below.refl _ _) (World.ownsRow_nil _ _ _ _) (right_sub hR r0) (by have := down_few hR r0; rw [List.length_nil]; omega))
      rw [List.nil_append] at HD
      have RG : Hid (∀ k ∈ downF l l.length 0, inR l k) := fun k hk => down_range (right_sub hR r0) hk
      have DF := hide (down_few hR r0)
      have C0 : Hid ((w.alloc (.cells #[.string x] 9)).cell? ⟨w.heap.size, 0, none⟩ = some (.string x)) := by show _ = _; simp
      clear q0 q1 hcell HP HR hR r0
      go_enter Tryz.func93, Tryz.ntmps93
      go_wp2_with fail
      refine HR'.out.mono ?_
      rintro e w1 ⟨rfl, b1⟩
      have B1 := hide (chain BA.out b1)
      have C1 : Hid (w1.cell? ⟨w.heap.size, 0, none⟩ = some (.string x)) := cell_below C0.out b1
      clear b1 C0 BA
      go_wp2_with fail
      refine (HD.out _ B1.out).mono ?_
      rintro e w2 ⟨v2, rfl, k2, b2⟩
      have K2 := hide k2.ints
      have B2 := hide (chain B1.out b2)
      have C2 : Hid (w2.cell? ⟨w.heap.size, 0, none⟩ = some (.string x)) := cell_below C1.out b2
      clear b2 C1 B1 k2 HD HR'
      generalize downF l l.length 0 = D at *
      obtain ⟨p2, c2, ev2, h2⟩ := K2.out
      have H2 := hide h2
      have dl := DF.out
      clear h2 K2
      subst ev2
      go_wp2_with fail
      go_loopw [19] (fun iv wr => ∃ j : Nat, j ≤ D.length ∧ iv = .int .i64 j ∧ Hid (((D.drop j).find? (hasId l x)).getD (-1) = namedQ l x) ∧ Hid (Below w2.heap.size w2 wr)) (fun iv _ => D.length - (intOf iv).toNat)
      case atStart => exact ⟨0, Nat.zero_le _, rfl, by show _ = _; rw [List.drop_zero]; exact E.out.symm, Below.refl _ _⟩
      case round =>
        rename World => wr
        obtain ⟨j, hj, rfl, hc, BW⟩ := hrel
        have Bw := hide (chain B2.out BW.out)
        by_cases h : j < D.length
        · have j1 : (j : Int) < (D.length : Int) := by omega
          have j0 : (0 : Int) ≤ (j : Int) := by omega
          obtain ⟨b2, o2, rfl, hk⟩ : ∃ b2 o2, p2 = some ⟨b2, o2, none⟩ ∧ ∀ i (h : i < D.length), w2.cell? ⟨b2, o2 + i, none⟩ = some (.int .i64 D[i]) := by
            rcases H2.out with t | t
            · rw [t] at h; simp at h
            · exact t
          have a5 := cell_below (hk j h) BW.out
          have rk := RG.out D[j] (List.getElem_mem _)
          obtain ⟨m, em⟩ : ∃ m : Nat, D[j] = (m : Int) := ⟨D[j].toNat, by have := rk.1; omega⟩
          have hm : m < l.length := by have := rk.2; omega
          rw [em] at a5
          obtain ⟨va, vk, NM⟩ := HC.out m hm
          have a2 := (NM.below Bw.out).attrs
          have HF := hide (containsFuncA_any va l[m].attrs (idIs x) 102 #[.pointer (some ⟨w.heap.size, 0, none⟩)] entersNamed wr (NM.below Bw.out).at_ (named_pred x _ wr (cell_below C2.out BW.out)) (HZ.out.nds l[m] (List.getElem_mem _)).attrs)
          rw [id_node HRt.out hm] at HF
          have hc1 := hc.out
          rw [List.drop_eq_getElem_cons h, em, List.find?_cons] at hc1
          have m0' : (0 : Int) ≤ (m : Int) := by omega
          have m1 : (m : Int) < (l.length : Int) := by omega
          clear hk rk em NM hc
          cases q : hasId l x (m : Int) with
          | true =>
            rw [q] at HF hc1
            have E2 : Hid (namedQ l x = (m : Int)) := by show _ = _; rw [← hc1]; rfl
            clear hc1 q
            go_wp2_with fail
            refine HF.out.mono ?_
            rintro e w3 ⟨rfl, b3⟩
            go_wp2_with fail
            go_ret
            exact ⟨ret_int E2.out.symm, chain Bw.out b3⟩
          | false =>
            rw [q] at HF hc1
            have HC1 := hide hc1
            clear hc1 q
            go_wp2_with fail
            refine HF.out.mono ?_
            rintro e w3 ⟨rfl, b3⟩
            go_wp2_with fail
            go_roundw
            case rel => exact ⟨j + 1, by omega, by go_num, HC1, chain BW.out b3⟩
            case measure => simp [intOf]; omega
        · obtain rfl : j = D.length := by omega
          have E2 : Hid (namedQ l x = -1) := by show _ = _; rw [← hc.out, List.drop_length]; rfl
          clear hc h
          go_wp2_with fail
          go_ret
          exact ⟨ret_int E2.out.symm, Bw.out⟩
end Go.Proofs.YtldbaoolddlacaaGreatDoor

namespace Go.Proofs.YtldbaoolddlacaaGreatDoor
open Go.RowKit Go.Maps
set_option maxRecDepth 100000
def vAt (V : List Value) (i : Nat) : Value := V.getD i (.slice none 0 0)
theorem vAt_at {V : List Value} {i : Nat} (h : i < V.length) : V[i]? = some (vAt V i) := by unfold vAt; rw [List.getD_eq_getElem?_getD, List.getElem?_eq_getElem h]; rfl
theorem vAt_app {V : List Value} {x : Value} {i : Nat} (h : i < V.length) : vAt (V ++ [x]) i = vAt V i := by
  unfold vAt
  rw [List.getD_eq_getElem?_getD, List.getD_eq_getElem?_getD, List.getElem?_append_left h]
theorem vAt_new {V : List Value} {x : Value} {i : Nat} (h : i = V.length) : vAt (V ++ [x]) i = x := by
  unfold vAt
  rw [List.getD_eq_getElem?_getD, h, List.getElem?_append_right (Nat.le_refl _), Nat.sub_self]; rfl
theorem vAt_set {V : List Value} {x : Value} {p i : Nat} (h : p < V.length) : vAt (V.set p x) i = if i = p then x else vAt V i := by
  unfold vAt
  rw [List.getD_eq_getElem?_getD, List.getD_eq_getElem?_getD, List.getElem?_set]
  by_cases e : p = i
  · subst e
    rw [if_pos rfl, if_pos h, if_pos rfl]; rfl
  · rw [if_neg e, if_neg (fun t => e t.symm)]
structure RowsO (B : Nat) (w : World) (v : Value) (G : List (List Int)) (V : List Value) : Prop where
  len : V.length = G.length
  row : w.ownsRow B 38 1 v G.length V
  at_ : ∀ i (h : i < G.length), KidsO B w (vAt V i) G[i]
  far : ∀ i j b, i < G.length → j < G.length → (vAt V i).ownBlock = some b → (vAt V j).ownBlock = some b → i = j
/-- A row of numbers isn't a row of rows. -/
theorem rows_far {B B' : Nat} {w : World} {v u : Value} {ks : List Int} {n : Nat} {xs : List Value} (h : KidsO B w v ks) (hu : w.ownsRow B' 38 1 u n xs) : ∀ j, v.ownBlock = some j → ¬ u.ownBlock = some j := fun j hj q => by
  rcases h.2 with ⟨rfl, _⟩ | ⟨g, cap, cur, rfl, _, hg, _⟩
  · cases hj
  · rcases hu.2 with ⟨rfl, _⟩ | ⟨g', cap', cur', rfl, _, hg', _⟩
    · cases q
    · obtain rfl : g = j := Option.some.inj hj
      obtain rfl : g' = g := Option.some.inj q
      rw [hg] at hg'
      cases hg'
theorem RowsO.kept {B : Nat} {S : List Nat} {w w' : World} {v : Value} {G : List (List Int)} {V : List Value} (h : RowsO B w v G V) (hc : Chg S w w') (h1 : ∀ k, v.ownBlock = some k → k ∉ S) (h2 : ∀ i k, i < G.length → (vAt V i).ownBlock = some k → k ∉ S) : RowsO B w' v G V :=
  ⟨h.len, owns_kept h.row hc h1, fun i hi => owns_kept (h.at_ i hi) hc (fun k hk => h2 i k hi hk), h.far⟩
theorem RowsO.below {B : Nat} {w w' : World} {v : Value} {G : List (List Int)} {V : List Value} (h : RowsO B w v G V) (hb : Below w.heap.size w w') : RowsO B w' v G V := h.kept (Chg.of_below hb) (fun _ _ q => by cases q) (fun _ _ _ _ q => by cases q)
theorem RowsO.nil (B : Nat) (w : World) : RowsO B w (.slice none 0 0) [] [] := ⟨rfl, World.ownsRow_nil _ _ _ _, fun i h => by simp at h, fun i j b h => by simp at h⟩
theorem RowsO.form {B : Nat} {w : World} {v : Value} {G : List (List Int)} {V : List Value} (h : RowsO B w v G V) : ∃ p k, v = .slice p G.length k := by
  rcases h.row.2 with ⟨rfl, q⟩ | ⟨g, cap, cur, rfl, _⟩
  · exact ⟨none, 0, by rw [q]⟩
  · exact ⟨_, cap, rfl⟩
theorem RowsO.lt {B : Nat} {w : World} {v : Value} {G : List (List Int)} {V : List Value} (h : RowsO B w v G V) {i b : Nat} (hi : i < G.length) (hb : (vAt V i).ownBlock = some b) : B ≤ b ∧ b < w.heap.size := World.ownsRow.lt (h.at_ i hi) b hb
/-- One more, empty. -/
theorem RowsO.push {B : Nat} {w w' : World} {v v' : Value} {G : List (List Int)} {V : List Value} (h : RowsO B w v G V) (hc : Chg v.ownBlock.toList w w') (hr : w'.ownsRow B 38 1 v' (G.length + 1) (V ++ [.slice none 0 0])) : RowsO B w' v' (G ++ [[]]) (V ++ [.slice none 0 0]) := by
  have gl : (G ++ [([] : List Int)]).length = G.length + 1 := by simp
  refine ⟨by rw [gl, List.length_append, h.len]; rfl, by rw [gl]; exact hr, fun i hi => ?_, fun i j b hi hj h1 h2 => ?_⟩
  · by_cases e : i < G.length
    · rw [vAt_app (by rw [h.len]; exact e), List.getElem_append_left e]
      exact owns_kept (h.at_ i e) hc (fun k hk q => rows_far (h.at_ i e) h.row k hk (opt_mem.1 q))
    · have e2 : i = G.length := by rw [gl] at hi; omega
      subst e2
      rw [vAt_new h.len.symm, List.getElem_append_right (Nat.le_refl _)]
      simp only [Nat.sub_self, List.getElem_cons_zero]
      exact World.ownsRow_nil _ _ _ _
  · have no : ∀ i, ¬ i < G.length → i < (G ++ [([] : List Int)]).length → (vAt (V ++ [.slice none 0 0]) i).ownBlock = none := fun i e hi => by
      rw [vAt_new (by rw [h.len]; rw [gl] at hi; omega)]; rfl
    by_cases e1 : i < G.length
    · by_cases e2 : j < G.length
      · rw [vAt_app (by rw [h.len]; exact e1)] at h1
        rw [vAt_app (by rw [h.len]; exact e2)] at h2
        exact h.far i j b e1 e2 h1 h2
      · rw [no j e2 hj] at h2; cases h2
    · rw [no i e1 hi] at h1; cases h1
/-- One of them, with one more number. -/
theorem RowsO.put {B : Nat} {w w1 : World} {v : Value} {G : List (List Int)} {V : List Value} (h : RowsO B w v G V) {p : Nat} (hp : p < G.length) {u : Value} {ks : List Int} (hc : Chg (vAt V p).ownBlock.toList w w1) (hk : KidsO B w1 u ks) (hl : u.ownBlock = (vAt V p).ownBlock ∨ ∀ b, u.ownBlock = some b → w.heap.size ≤ b) {g : Nat} (hg : v.ownBlock = some g) :
    RowsO B (w1.setCell ⟨g, p, none⟩ u) v (G.set p ks) (V.set p u) := by
  have hpv : p < V.length := by rw [h.len]; exact hp
  have r1 : w1.ownsRow B 38 1 v G.length V := owns_kept h.row hc (fun k hk' q => rows_far (h.at_ p hp) h.row k (opt_mem.1 q) hk')
  have r2 := owns_set r1 hg p u
  refine ⟨by rw [List.length_set, List.length_set]; exact h.len, by rw [List.length_set]; exact r2, fun i hi => ?_, fun i j b hi hj h1 h2 => ?_⟩
  · rw [List.length_set] at hi
    rw [vAt_set hpv]
    by_cases e : i = p
    · subst e
      rw [if_pos rfl, List.getElem_set_self]
      exact owns_kept hk (Chg.setB w1 g i u) (fun k hk' q => rows_far hk r1 k hk' (by rw [List.mem_singleton] at q; rw [q]; exact hg))
    · rw [if_neg e, List.getElem_set_ne (fun t => e t.symm)]
      have k1 : KidsO B w1 (vAt V i) G[i] := owns_kept (h.at_ i hi) hc (fun k hk' q => e (h.far i p k hi hp hk' (opt_mem.1 q)))
      exact owns_kept k1 (Chg.setB w1 g p u) (fun k hk' q => rows_far k1 r1 k hk' (by rw [List.mem_singleton] at q; rw [q]; exact hg))
  · rw [List.length_set] at hi hj
    rw [vAt_set hpv] at h1 h2
    have A : ∀ j b, j < G.length → ¬ j = p → u.ownBlock = some b → (vAt V j).ownBlock = some b → False := fun j b hj e a1 a2 => by
      rcases hl with t | t
      · rw [t] at a1; exact e (h.far j p b hj hp a2 a1)
      · have := t b a1
        have := (h.lt hj a2).2
        omega
    by_cases e1 : i = p
    · by_cases e2 : j = p
      · rw [e1, e2]
      · rw [if_pos e1] at h1
        rw [if_neg e2] at h2
        exact (A j b hj e2 h1 h2).elim
    · by_cases e2 : j = p
      · rw [if_neg e1] at h1
        rw [if_pos e2] at h2
        exact (A i b hi e1 h2 h1).elim
      · rw [if_neg e1] at h1
        rw [if_neg e2] at h2
        exact h.far i j b hi hj h1 h2
/-- A map from keys to places. -/
structure PlG (K : List GKey) (D : DataW Unit) : Prop where
  map : IsMap D
  ok : ∀ k ∈ K, KeyOK k
  has_ : ∀ k kl, keyOf Tryz.prog 62 (keyV k) = some kl → Maps.has D kl = memK k K
  at_ : ∀ i (h : i < K.length) kl, keyOf Tryz.prog 62 (keyV K[i]) = some kl → D.atKey kl (.lit (.int .i64 0)) = .lit (.int .i64 (i : Int))
theorem keyV_inj {a b : GKey} (h : keyV a = keyV b) : a = b := by
  unfold keyV at h
  simp only [Value.agg.injEq, Array.mk.injEq, List.cons.injEq, Value.string.injEq, Value.int.injEq, and_true, true_and] at h
  exact Prod.ext h.1 (Prod.ext h.2.1 (Prod.ext h.2.2.1 h.2.2.2))
theorem PlG.nil : PlG [] (.map []) := ⟨⟨[], rfl⟩, fun k h => (by cases h), fun k kl _ => rfl, fun i h => (by simp at h)⟩
theorem PlG.add {K : List GKey} {D : DataW Unit} (h : PlG K D) {k : GKey} {kl : Lit} (hk : keyOf Tryz.prog 62 (keyV k) = some kl) (ho : KeyOK k) (hn : ¬ k ∈ K) : PlG (K ++ [k]) (D.put kl (.lit (.int .i64 (K.length : Int)))) := by
  have hl := gkLaw.key hk
  refine ⟨?_, fun x hx => ?_, fun x xl hx => ?_, fun i hi xl hx => ?_⟩
  · obtain ⟨es, rfl⟩ := h.map
    exact ⟨_, rfl⟩
  · rcases List.mem_append.1 hx with hx | hx
    · exact h.ok x hx
    · rw [List.mem_singleton.1 hx]; exact ho
  · by_cases e : xl = kl
    · subst e
      have ek := keyV_inj (gkLaw.inj hx hk)
      subst ek
      rw [has_put_same h.map hl]
      exact (memK_iff.2 (List.mem_append.2 (.inr (List.mem_singleton.2 rfl)))).symm
    · rw [has_put_other e, h.has_ x xl hx]
      rw [Bool.eq_iff_iff, memK_iff, memK_iff, List.mem_append, List.mem_singleton]
      exact ⟨.inl, fun t => t.elim id (fun t => absurd (by rw [t, hk] at hx; exact (Option.some.inj hx).symm) e)⟩
  · by_cases e : i < K.length
    · rw [List.getElem_append_left e] at hx
      have ne : xl ≠ kl := fun t => by
        subst t
        have ek := keyV_inj (gkLaw.inj hx hk)
        exact hn (ek ▸ List.getElem_mem e)
      rw [atKey_put_other ne]
      exact h.at_ i e xl hx
    · have e2 : i = K.length := by rw [List.length_append] at hi; simp at hi; omega
      subst e2
      rw [List.getElem_append_right (Nat.le_refl _)] at hx
      simp only [Nat.sub_self, List.getElem_cons_zero] at hx
      have : xl = kl := by rw [hk] at hx; exact (Option.some.inj hx).symm
      subst this
      exact atKey_put_same h.map hl _ _
end Go.Proofs.YtldbaoolddlacaaGreatDoor

namespace Go.Proofs.YtldbaoolddlacaaGreatDoor
open Go.RowKit
set_option maxRecDepth 100000
theorem entF1W : ∀ args w, (callFunc 105 args).run Tryz.prog w = .ok (.enter 105 args) w := Go.Proofs.enters_of Tryz.func105 (by kernel_rfl) rfl
set_option maxHeartbeats 8000000 in
theorem owFormOf1_any (a b : Int) (w : World) :
    Calls Tryz.prog 105 #[.int .i64 a, .int .i64 b] w fun e w' => e = .returned (.bool true) ∧ Below w.heap.size w w' := by
  go_enter Tryz.func105, Tryz.ntmps105
  go_wp2_with fail
  go_ret
  exact ⟨rfl, Below.refl _ _⟩
theorem ints_oneW (w : World) (z : Int) : IntsV (w.alloc (.cells #[.int .i64 z] 3)) (.slice (some ⟨w.heap.size, 0, none⟩) 1 1) [z] := ⟨_, 1, rfl, .inr ⟨w.heap.size, 0, rfl, fun j hj => by
  obtain rfl : j = 0 := by have : j < 1 := hj; omega
  exact (Bk.new w [.int .i64 z] 3).cell 0 rfl⟩⟩
set_option maxHeartbeats 8000000 in
theorem owFormOf_any (v : Value) (l : List Nd) (m : Nat) (g : Nat) (lb : Array Value) (eg : ∀ args w, (callFunc g args).run Tryz.prog w = .ok (.enter g args) w) (f : ByteArray → Int) (w : World) (hf : ∀ s W, Below w.heap.size w W → Calls Tryz.prog g (#[.string s] ++ lb) W fun e w' => e = .returned (.int .i64 (f s)) ∧ Below W.heap.size W w') (hv : NodesV w v l) (hz : DocSz l) (hT : KTabs w) (hR : Right l) (hm : m < l.length) :
    Calls Tryz.prog 97 #[v, .int .i64 (m : Int), .func (.func g) #[] lb] w fun e w' => e = .returned (.int .i64 (frmP l f (m : Int))) ∧ Below w.heap.size w w' := by
  have nz := hz.nds _ (List.getElem_mem hm)
  have HA := hide (fun W (hb : Below w.heap.size w W) => owAbove_any v l m _ is30 suisForm 105 #[] entF1W (fun _ _ => true) W (fun a b _ _ W _ => owFormOf1_any a b W) (hv.below hb) hz (hT.below hb) hR hm)
  have HI := hide (fun W (hb : Below w.heap.size w W) => owIsRooted_any v l m W (hv.below hb) hR hm)
  have HF := hide (fun s W (hb : Below w.heap.size w W) => hf s W hb)
  have HO := hide (fun vk z W (hb : Below w.heap.size w W) (hk : IntsV W vk [z]) => owFirstOf_any v vk l [z] _ is30 suisForm W (hv.below hb) hk hz (hT.below hb) (by simp))
  have E : Hid (frmP l f (m : Int) = if hasA l[m] oForm = true ∧ topP l (m : Int) = 0 then firB l is30 [f (fndS l[m].attrs oForm)] else abvP l is30 (fun _ _ => true) (m : Int)) := by
    show _ = _
    unfold frmP
    rw [Int.toNat_natCast, nd_at hm]
  generalize frmP l f (m : Int) = RES at *
  generalize abvP l is30 (fun _ _ => true) (m : Int) = AB at *
  obtain ⟨p, c, rfl⟩ := nds_formW hv
  obtain ⟨b, o, va, pk, nk, ck, rfl, N⟩ := node_ofW hv hm
  have HN := hide (owFind_any l[m] va pk nk ck oForm w N.at_ nz.attrs)
  obtain ⟨pa, ca, rfl, hxx⟩ := N.at_
  clear hxx
  have c0 := N.name
  have c1 := N.text
  have c2 := N.attrs
  have c3 := N.parent
  have c4 := N.kids
  have m0 : (0 : Int) ≤ (m : Int) := by omega
  have m1 : (m : Int) < (l.length : Int) := by omega
  clear N hv hz hT nz hR hf
  generalize fndS l[m].attrs oForm = nm at *
  generalize hasA l[m] oForm = ha at *
  rw [show oForm = ⟨#[102, 111, 114, 109]⟩ from rfl] at HN
  generalize l[m].name = n0 at *
  generalize l[m].text = n1 at *
  generalize l[m].parent = n3 at *
  generalize l[m].attrs.length = n5 at *
  generalize topP l (m : Int) = T at *
  cases ha with
  | false =>
    rw [if_neg (by rintro ⟨t, _⟩; cases t)] at E
    clear HI HF HO
    go_enter Tryz.func97, Tryz.ntmps97
    go_wp2_with fail
    refine HN.out.mono ?_
    rintro e w1 ⟨rfl, b1⟩
    go_wp2_with fail
    refine (HA.out _ b1).mono ?_
    rintro e w2 ⟨rfl, b2⟩
    go_wp2_with fail
    go_ret
    exact ⟨ret_int E.out.symm, chain b1 b2⟩
  | true =>
    by_cases hT0 : T = 0
    · rw [if_pos ⟨rfl, hT0⟩] at E
      have q0 : (T == 0) = true := by rw [hT0]; rfl
      rw [q0] at HI
      clear HA q0 hT0
      go_enter Tryz.func97, Tryz.ntmps97
      go_wp2_with fail
      refine HN.out.mono ?_
      rintro e w1 ⟨rfl, b1⟩
      go_wp2_with fail
      refine (HI.out _ b1).mono ?_
      rintro e w2 ⟨rfl, b2⟩
      have B2 := hide (chain b1 b2)
      go_wp2_with fail
      refine (HF.out _ _ B2.out).mono ?_
      rintro e w3 ⟨rfl, b3⟩
      have B3 := hide (chain (chain B2.out b3) ((Below.refl _ w3).alloc (Nat.le_refl _) (.cells #[.int .i64 (f nm)] 3)))
      have IV := hide (ints_oneW w3 (f nm))
      generalize f nm = z at *
      go_wp2_with fail
      refine (HO.out _ _ _ B3.out IV.out).mono ?_
      rintro e w4 ⟨rfl, b4⟩
      go_wp2_with fail
      go_ret
      exact ⟨ret_int E.out.symm, chain B3.out b4⟩
    · rw [if_neg (fun t => hT0 t.2)] at E
      have q0 : (T == 0) = false := by rw [beq_eq_false_iff_ne]; exact hT0
      rw [q0] at HI
      clear HO HF q0 hT0
      go_enter Tryz.func97, Tryz.ntmps97
      go_wp2_with fail
      refine HN.out.mono ?_
      rintro e w1 ⟨rfl, b1⟩
      go_wp2_with fail
      refine (HI.out _ b1).mono ?_
      rintro e w2 ⟨rfl, b2⟩
      have B2 := hide (chain b1 b2)
      go_wp2_with fail
      refine (HA.out _ B2.out).mono ?_
      rintro e w3 ⟨rfl, b3⟩
      go_wp2_with fail
      go_ret
      exact ⟨ret_int E.out.symm, chain B2.out b3⟩
theorem entO1W : ∀ args w, (callFunc 94 args).run Tryz.prog w = .ok (.enter 94 args) w := Go.Proofs.enters_of Tryz.func94 (by kernel_rfl) rfl
theorem entO2W : ∀ args w, (callFunc 96 args).run Tryz.prog w = .ok (.enter 96 args) w := Go.Proofs.enters_of Tryz.func96 (by kernel_rfl) rfl
set_option maxHeartbeats 8000000 in
theorem owOwned1_any (s own : ByteArray) (pl : Int) (Bo Bp : Nat) (w : World) (ho : w.cell? ⟨Bo, 0, none⟩ = some (.string own)) (hp : w.cell? ⟨Bp, 0, none⟩ = some (.int .i64 pl)) :
    Calls Tryz.prog 94 #[.string s, .pointer (some ⟨Bo, 0, none⟩), .pointer (some ⟨Bp, 0, none⟩)] w fun e w' => e = .returned (.int .i64 (if s = own then pl else -1)) ∧ Below w.heap.size w w' := by
  by_cases h : s = own
  · rw [if_pos h]
    have q1 : (s.toList == own.toList) = true := by rw [txt_beq, decide_eq_true h]
    have q2 : (s.toList != own.toList) = false := by rw [bne, q1]; rfl
    subst h
    go_enter Tryz.func94, Tryz.ntmps94
    go_wp2_with fail
    go_ret
    exact ⟨rfl, Below.refl _ _⟩
  · rw [if_neg h]
    have q1 : (s.toList == own.toList) = false := by rw [txt_beq, decide_eq_false h]
    have q2 : (s.toList != own.toList) = true := by rw [bne, q1]; rfl
    go_enter Tryz.func94, Tryz.ntmps94
    go_wp2_with fail
    go_ret
    exact ⟨rfl, Below.refl _ _⟩
set_option maxHeartbeats 8000000 in
theorem owOwned2_any (v : Value) (l : List Nd) (fm : Nat) (g : Nat) (q : Int → Bool) (hs : SuchF g q) (Bl Bs Bn Bf Bo Bp : Nat) (w : World) (hv : NodesV w v l) (hz : DocSz l) (hT : KTabs w) (hR : Right l)
    (x1 : w.cell? ⟨Bl, 0, none⟩ = some v) (x2 : w.cell? ⟨Bs, 0, none⟩ = some (.func (.func g) #[] #[])) (x3 : w.cell? ⟨Bn, 0, none⟩ = some (.func (.func 94) #[] #[.pointer (some ⟨Bo, 0, none⟩), .pointer (some ⟨Bp, 0, none⟩)])) (x4 : w.cell? ⟨Bf, 0, none⟩ = some (.int .i64 (fm : Int))) (x5 : w.cell? ⟨Bo, 0, none⟩ = some (.string (ownId l (fm : Int)))) (x6 : w.cell? ⟨Bp, 0, none⟩ = some (.int .i64 (namedP l (ownId l (fm : Int)))))
    (id : Int) :
    Calls Tryz.prog 96 (#[.int .i64 id] ++ #[.pointer (some ⟨Bl, 0, none⟩), .pointer (some ⟨Bs, 0, none⟩), .pointer (some ⟨Bn, 0, none⟩), .pointer (some ⟨Bf, 0, none⟩)]) w fun e w' => e = .returned (.bool (goneB l q (fm : Int) id)) ∧ Below w.heap.size w w' := by
  have HI := hide (fun W (hb : Below w.heap.size w W) => owIsOf_any v l id g q hs W (hv.below hb) hz (hT.below hb))
  have BD : Hid (Below w.heap.size w w.drew) := ⟨rfl, rfl, rfl, Nat.le_refl _, fun _ _ => rfl⟩
  cases ok : okB l q id with
  | false =>
    have E : Hid (goneB l q (fm : Int) id = true) := by show _ = _; unfold goneB; rw [ok]; rfl
    obtain ⟨p, c, rfl⟩ := nds_formW hv
    rw [ok] at HI
    have hu : undef = Value.tuple #[] := rfl
    clear hv hz hT hR x5 x6 ok
    go_enter Tryz.func96, Tryz.ntmps96
    go_wp2_with fail
    refine wp_region_held_drew (S := fun X : World => X.cell? ⟨Bl, 0, none⟩ = some (.slice p l.length c) ∧ X.cell? ⟨Bs, 0, none⟩ = some (.func (.func g) #[] #[]) ∧ X.cell? ⟨Bn, 0, none⟩ = some (.func (.func 94) #[] #[.pointer (some ⟨Bo, 0, none⟩), .pointer (some ⟨Bp, 0, none⟩)]) ∧ X.cell? ⟨Bf, 0, none⟩ = some (.int .i64 (fm : Int))) (by kernel_rfl) ?_ (fun hHeld => ?_)
    · exact ⟨x1, x2, x3, x4⟩
    refine wpAnyH_take (i := 0) (oi := { dst := some 7, op := Op.load 22 (Operand.tmp 1), type := 22, pos := "owner.go:72", after := #[], guard := none }) (v := ?_) rfl (by kernel_rfl) (by kernel_rfl) (by kernel_rfl) (fun _ _ _ h => h) (Or.inl ⟨by rfl, ?_⟩) (by assumption) ?_
    rotate_left
    · (intro w hSw; (try dsimp only at hSw); first | (go_simp; done) | (go_simp; with_reducible rfl))
    simp only [Act.put, List.setIfInBounds_toArray, List.set_cons_zero, List.set_cons_succ]
    refine wpAnyH_take (i := 1) (oi := { dst := some 8, op := Op.move (Operand.tmp 0), type := 3, pos := "owner.go:72", after := #[], guard := none }) (v := ?_) rfl (by kernel_rfl) (by kernel_rfl) (by kernel_rfl) (fun _ _ _ h => h) (Or.inl ⟨by rfl, ?_⟩) (by assumption) ?_
    rotate_left
    · (intro w hSw; (try dsimp only at hSw); first | (go_simp; done) | (go_simp; with_reducible rfl))
    simp only [Act.put, List.setIfInBounds_toArray, List.set_cons_zero, List.set_cons_succ]
    refine wpAnyH_take (i := 2) (oi := { dst := some 9, op := Op.load 67 (Operand.tmp 2), type := 67, pos := "owner.go:72", after := #[], guard := none }) (v := ?_) rfl (by kernel_rfl) (by kernel_rfl) (by kernel_rfl) (fun _ _ _ h => h) (Or.inl ⟨by rfl, ?_⟩) (by assumption) ?_
    rotate_left
    · (intro w hSw; (try dsimp only at hSw); first | (go_simp; done) | (go_simp; with_reducible rfl))
    simp only [Act.put, List.setIfInBounds_toArray, List.set_cons_zero, List.set_cons_succ]
    refine wpAnyH_ready (rs := [3]) (by kernel_rfl) (by simp) ?_
    refine AllReadyH.cons (i := 3) (o := { dst := some 10, op := Op.call { callee := Callee.value (Operand.func 73), args := #[Operand.tmp 7, Operand.tmp 8, Operand.tmp 9], argTypes := #[22, 3, 67] }, type := 4, pos := "owner.go:72", after := #[{ on := 0, ground := Ground.data }, { on := 1, ground := Ground.data }, { on := 2, ground := Ground.data }], guard := none }) rfl (fun K hK => ?_) AllReadyH.nil
    go_simp
    refine (HI.out _ BD.out).mono ?_
    rintro e w1 ⟨rfl, b1⟩
    have B1 := hide (chain BD.out b1)
    clear b1
    go_wp2_with fail
    refine hK.out _ _ ?_ (fun hHeld => ?_)
    · exact ⟨cell_below x1 B1.out, cell_below x2 B1.out, cell_below x3 B1.out, cell_below x4 B1.out⟩
    clear hK K
    refine wpAnyH_take (i := 4) (oi := { dst := some 11, op := Op.unOp UnOp.not 4 (Operand.tmp 10), type := 4, pos := "owner.go:72", after := #[{ on := 3, ground := Ground.data }], guard := none }) (v := ?_) rfl (by kernel_rfl) (by kernel_rfl) (by kernel_rfl) (fun _ _ _ h => h) (Or.inl ⟨by rfl, ?_⟩) (by assumption) ?_
    rotate_left
    · (intro w hSw; (try dsimp only at hSw); first | (go_simp; done) | (go_simp; with_reducible rfl))
    simp only [Act.put, List.setIfInBounds_toArray, List.set_cons_zero, List.set_cons_succ]
    refine wpAnyH_take (i := 5) (oi := { dst := some 12, op := Op.move (Operand.tmp 11), type := 4, pos := "owner.go:72", after := #[{ on := 4, ground := Ground.data }, { on := 3, ground := Ground.chain }], guard := none }) (v := ?_) rfl (by kernel_rfl) (by kernel_rfl) (by kernel_rfl) (fun _ _ _ h => h) (Or.inl ⟨by rfl, ?_⟩) (by assumption) ?_
    rotate_left
    · (intro w hSw; (try dsimp only at hSw); first | (go_simp; done) | (go_simp; with_reducible rfl))
    simp only [Act.put, List.setIfInBounds_toArray, List.set_cons_zero, List.set_cons_succ]
    refine wpAnyH_take (i := 6) (oi := { dst := some 13, op := Op.load 22 (Operand.tmp 1), type := 22, pos := "owner.go:72", after := #[{ on := 5, ground := Ground.guard }], guard := some (5, false) }) (v := undef) rfl (by kernel_rfl) (by kernel_rfl) (by kernel_rfl) (fun _ _ _ h => h) (Or.inr ⟨by rfl, rfl⟩) (by assumption) ?_
    simp only [Act.put, List.setIfInBounds_toArray, List.set_cons_zero, List.set_cons_succ]
    refine wpAnyH_take (i := 7) (oi := { dst := some 14, op := Op.move (Operand.tmp 0), type := 3, pos := "owner.go:72", after := #[{ on := 5, ground := Ground.guard }], guard := some (5, false) }) (v := undef) rfl (by kernel_rfl) (by kernel_rfl) (by kernel_rfl) (fun _ _ _ h => h) (Or.inr ⟨by rfl, rfl⟩) (by assumption) ?_
    simp only [Act.put, List.setIfInBounds_toArray, List.set_cons_zero, List.set_cons_succ]
    refine wpAnyH_take (i := 8) (oi := { dst := some 15, op := Op.load 117 (Operand.tmp 3), type := 117, pos := "owner.go:72", after := #[{ on := 5, ground := Ground.guard }], guard := some (5, false) }) (v := undef) rfl (by kernel_rfl) (by kernel_rfl) (by kernel_rfl) (fun _ _ _ h => h) (Or.inr ⟨by rfl, rfl⟩) (by assumption) ?_
    simp only [Act.put, List.setIfInBounds_toArray, List.set_cons_zero, List.set_cons_succ]
    refine wpAnyH_take (i := 9) (oi := { dst := some 16, op := Op.call { callee := Callee.value (Operand.func 97), args := #[Operand.tmp 13, Operand.tmp 14, Operand.tmp 15], argTypes := #[22, 3, 117] }, type := 3, pos := "owner.go:72", after := #[{ on := 6, ground := Ground.data }, { on := 7, ground := Ground.data }, { on := 8, ground := Ground.data }, { on := 5, ground := Ground.chain }, { on := 5, ground := Ground.guard }], guard := some (5, false) }) (v := undef) rfl (by kernel_rfl) (by kernel_rfl) (by kernel_rfl) (fun _ _ _ h => h) (Or.inr ⟨by rfl, rfl⟩) (by assumption) ?_
    simp only [Act.put, List.setIfInBounds_toArray, List.set_cons_zero, List.set_cons_succ]
    refine wpAnyH_take (i := 10) (oi := { dst := some 17, op := Op.load 3 (Operand.tmp 4), type := 3, pos := "owner.go:72", after := #[{ on := 5, ground := Ground.guard }], guard := some (5, false) }) (v := undef) rfl (by kernel_rfl) (by kernel_rfl) (by kernel_rfl) (fun _ _ _ h => h) (Or.inr ⟨by rfl, rfl⟩) (by assumption) ?_
    simp only [Act.put, List.setIfInBounds_toArray, List.set_cons_zero, List.set_cons_succ]
    refine wpAnyH_take (i := 11) (oi := { dst := some 18, op := Op.binOp BinOp.neq 3 (Operand.tmp 16) (Operand.tmp 17) 3, type := 4, pos := "owner.go:72", after := #[{ on := 9, ground := Ground.data }, { on := 10, ground := Ground.data }, { on := 5, ground := Ground.guard }], guard := some (5, false) }) (v := undef) rfl (by kernel_rfl) (by kernel_rfl) (by kernel_rfl) (fun _ _ _ h => h) (Or.inr ⟨by rfl, rfl⟩) (by assumption) ?_
    simp only [Act.put, List.setIfInBounds_toArray, List.set_cons_zero, List.set_cons_succ]
    refine wpAnyH_take (i := 12) (oi := { dst := some 19, op := Op.pick (Operand.tmp 12) (Operand.const (Value.bool true)) (Operand.tmp 18), type := 4, pos := "owner.go:72", after := #[{ on := 5, ground := Ground.data }, { on := 11, ground := Ground.data }], guard := none }) (v := ?_) rfl (by kernel_rfl) (by kernel_rfl) (by kernel_rfl) (fun _ _ _ h => h) (Or.inl ⟨by rfl, ?_⟩) (by assumption) ?_
    rotate_left
    · (intro w hSw; (try dsimp only at hSw); first | (go_simp; done) | (go_simp; with_reducible rfl))
    simp only [Act.put, List.setIfInBounds_toArray, List.set_cons_zero, List.set_cons_succ]
    refine wpAnyH_take (i := 13) (oi := { dst := some 6, op := Op.assign (Operand.tmp 19), type := 4, pos := "owner.go:72", after := #[{ on := 12, ground := Ground.data }, { on := 9, ground := Ground.chain }, { on := 0, ground := Ground.phase }, { on := 1, ground := Ground.phase }, { on := 2, ground := Ground.phase }, { on := 3, ground := Ground.phase }, { on := 4, ground := Ground.phase }, { on := 5, ground := Ground.phase }, { on := 6, ground := Ground.phase }, { on := 7, ground := Ground.phase }, { on := 8, ground := Ground.phase }, { on := 9, ground := Ground.phase }, { on := 10, ground := Ground.phase }, { on := 11, ground := Ground.phase }, { on := 12, ground := Ground.phase }], guard := none }) (v := ?_) rfl (by kernel_rfl) (by kernel_rfl) (by kernel_rfl) (fun _ _ _ h => h) (Or.inl ⟨by rfl, ?_⟩) (by assumption) ?_
    rotate_left
    · (intro w hSw; (try dsimp only at hSw); first | (go_simp; done) | (go_simp; with_reducible rfl))
    simp only [Act.put, List.setIfInBounds_toArray, List.set_cons_zero, List.set_cons_succ]
    refine wpAnyH_done (by kernel_rfl) ?_ _
    go_wp2_with fail
    go_ret
    exact ⟨ret_bool E.out.symm, B1.out⟩
  | true =>
    have rg : 0 ≤ id ∧ id < (l.length : Int) := by
      apply Classical.byContradiction
      intro t
      rw [ok_out t] at ok; cases ok
    obtain ⟨m, rfl⟩ : ∃ m : Nat, id = (m : Int) := ⟨id.toNat, by omega⟩
    have hm : m < l.length := by omega
    have HF := hide (fun W (hb : Below w.heap.size w W) => owFormOf_any v l m 94 #[.pointer (some ⟨Bo, 0, none⟩), .pointer (some ⟨Bp, 0, none⟩)] entO1W (nmdP l (fm : Int)) W (fun s W' hb' => owOwned1_any s (ownId l (fm : Int)) (namedP l (ownId l (fm : Int))) Bo Bp W' (cell_below (cell_below x5 hb) hb') (cell_below (cell_below x6 hb) hb')) (hv.below hb) hz (hT.below hb) hR hm)
    have E : Hid (goneB l q (fm : Int) (m : Int) = (frmP l (nmdP l (fm : Int)) (m : Int) != (fm : Int))) := by show _ = _; unfold goneB; rw [ok]; rfl
    obtain ⟨p, c, rfl⟩ := nds_formW hv
    rw [ok] at HI
    clear hv hz hT hR x5 x6 ok rg
    generalize frmP l (nmdP l (fm : Int)) (m : Int) = z at *
    have gz : (z != (fm : Int)) = goneB l q (fm : Int) (m : Int) := E.out.symm
    generalize goneB l q (fm : Int) (m : Int) = R at *
    clear E
    go_enter Tryz.func96, Tryz.ntmps96
    go_wp2_with fail
    refine wp_region_held_drew (S := fun X : World => X.cell? ⟨Bl, 0, none⟩ = some (.slice p l.length c) ∧ X.cell? ⟨Bs, 0, none⟩ = some (.func (.func g) #[] #[]) ∧ X.cell? ⟨Bn, 0, none⟩ = some (.func (.func 94) #[] #[.pointer (some ⟨Bo, 0, none⟩), .pointer (some ⟨Bp, 0, none⟩)]) ∧ X.cell? ⟨Bf, 0, none⟩ = some (.int .i64 (fm : Int))) (by kernel_rfl) ?_ (fun hHeld => ?_)
    · exact ⟨x1, x2, x3, x4⟩
    refine wpAnyH_take (i := 0) (oi := { dst := some 7, op := Op.load 22 (Operand.tmp 1), type := 22, pos := "owner.go:72", after := #[], guard := none }) (v := ?_) rfl (by kernel_rfl) (by kernel_rfl) (by kernel_rfl) (fun _ _ _ h => h) (Or.inl ⟨by rfl, ?_⟩) (by assumption) ?_
    rotate_left
    · (intro w hSw; (try dsimp only at hSw); first | (go_simp; done) | (go_simp; with_reducible rfl))
    simp only [Act.put, List.setIfInBounds_toArray, List.set_cons_zero, List.set_cons_succ]
    refine wpAnyH_take (i := 1) (oi := { dst := some 8, op := Op.move (Operand.tmp 0), type := 3, pos := "owner.go:72", after := #[], guard := none }) (v := ?_) rfl (by kernel_rfl) (by kernel_rfl) (by kernel_rfl) (fun _ _ _ h => h) (Or.inl ⟨by rfl, ?_⟩) (by assumption) ?_
    rotate_left
    · (intro w hSw; (try dsimp only at hSw); first | (go_simp; done) | (go_simp; with_reducible rfl))
    simp only [Act.put, List.setIfInBounds_toArray, List.set_cons_zero, List.set_cons_succ]
    refine wpAnyH_take (i := 2) (oi := { dst := some 9, op := Op.load 67 (Operand.tmp 2), type := 67, pos := "owner.go:72", after := #[], guard := none }) (v := ?_) rfl (by kernel_rfl) (by kernel_rfl) (by kernel_rfl) (fun _ _ _ h => h) (Or.inl ⟨by rfl, ?_⟩) (by assumption) ?_
    rotate_left
    · (intro w hSw; (try dsimp only at hSw); first | (go_simp; done) | (go_simp; with_reducible rfl))
    simp only [Act.put, List.setIfInBounds_toArray, List.set_cons_zero, List.set_cons_succ]
    refine wpAnyH_ready (rs := [3]) (by kernel_rfl) (by simp) ?_
    refine AllReadyH.cons (i := 3) (o := { dst := some 10, op := Op.call { callee := Callee.value (Operand.func 73), args := #[Operand.tmp 7, Operand.tmp 8, Operand.tmp 9], argTypes := #[22, 3, 67] }, type := 4, pos := "owner.go:72", after := #[{ on := 0, ground := Ground.data }, { on := 1, ground := Ground.data }, { on := 2, ground := Ground.data }], guard := none }) rfl (fun K hK => ?_) AllReadyH.nil
    go_simp
    refine (HI.out _ BD.out).mono ?_
    rintro e w1 ⟨rfl, b1⟩
    have B1 := hide (chain BD.out b1)
    clear b1
    go_wp2_with fail
    refine hK.out _ _ ?_ (fun hHeld => ?_)
    · exact ⟨cell_below x1 B1.out, cell_below x2 B1.out, cell_below x3 B1.out, cell_below x4 B1.out⟩
    clear hK K
    refine wpAnyH_take (i := 4) (oi := { dst := some 11, op := Op.unOp UnOp.not 4 (Operand.tmp 10), type := 4, pos := "owner.go:72", after := #[{ on := 3, ground := Ground.data }], guard := none }) (v := ?_) rfl (by kernel_rfl) (by kernel_rfl) (by kernel_rfl) (fun _ _ _ h => h) (Or.inl ⟨by rfl, ?_⟩) (by assumption) ?_
    rotate_left
    · (intro w hSw; (try dsimp only at hSw); first | (go_simp; done) | (go_simp; with_reducible rfl))
    simp only [Act.put, List.setIfInBounds_toArray, List.set_cons_zero, List.set_cons_succ]
    refine wpAnyH_take (i := 5) (oi := { dst := some 12, op := Op.move (Operand.tmp 11), type := 4, pos := "owner.go:72", after := #[{ on := 4, ground := Ground.data }, { on := 3, ground := Ground.chain }], guard := none }) (v := ?_) rfl (by kernel_rfl) (by kernel_rfl) (by kernel_rfl) (fun _ _ _ h => h) (Or.inl ⟨by rfl, ?_⟩) (by assumption) ?_
    rotate_left
    · (intro w hSw; (try dsimp only at hSw); first | (go_simp; done) | (go_simp; with_reducible rfl))
    simp only [Act.put, List.setIfInBounds_toArray, List.set_cons_zero, List.set_cons_succ]
    refine wpAnyH_take (i := 6) (oi := { dst := some 13, op := Op.load 22 (Operand.tmp 1), type := 22, pos := "owner.go:72", after := #[{ on := 5, ground := Ground.guard }], guard := some (5, false) }) (v := ?_) rfl (by kernel_rfl) (by kernel_rfl) (by kernel_rfl) (fun _ _ _ h => h) (Or.inl ⟨by rfl, ?_⟩) (by assumption) ?_
    rotate_left
    · (intro w hSw; (try dsimp only at hSw); first | (go_simp; done) | (go_simp; with_reducible rfl))
    simp only [Act.put, List.setIfInBounds_toArray, List.set_cons_zero, List.set_cons_succ]
    refine wpAnyH_take (i := 7) (oi := { dst := some 14, op := Op.move (Operand.tmp 0), type := 3, pos := "owner.go:72", after := #[{ on := 5, ground := Ground.guard }], guard := some (5, false) }) (v := ?_) rfl (by kernel_rfl) (by kernel_rfl) (by kernel_rfl) (fun _ _ _ h => h) (Or.inl ⟨by rfl, ?_⟩) (by assumption) ?_
    rotate_left
    · (intro w hSw; (try dsimp only at hSw); first | (go_simp; done) | (go_simp; with_reducible rfl))
    simp only [Act.put, List.setIfInBounds_toArray, List.set_cons_zero, List.set_cons_succ]
    refine wpAnyH_take (i := 8) (oi := { dst := some 15, op := Op.load 117 (Operand.tmp 3), type := 117, pos := "owner.go:72", after := #[{ on := 5, ground := Ground.guard }], guard := some (5, false) }) (v := ?_) rfl (by kernel_rfl) (by kernel_rfl) (by kernel_rfl) (fun _ _ _ h => h) (Or.inl ⟨by rfl, ?_⟩) (by assumption) ?_
    rotate_left
    · (intro w hSw; (try dsimp only at hSw); first | (go_simp; done) | (go_simp; with_reducible rfl))
    simp only [Act.put, List.setIfInBounds_toArray, List.set_cons_zero, List.set_cons_succ]
    refine wpAnyH_take (i := 10) (oi := { dst := some 17, op := Op.load 3 (Operand.tmp 4), type := 3, pos := "owner.go:72", after := #[{ on := 5, ground := Ground.guard }], guard := some (5, false) }) (v := ?_) rfl (by kernel_rfl) (by kernel_rfl) (by kernel_rfl) (fun _ _ _ h => h) (Or.inl ⟨by rfl, ?_⟩) (by assumption) ?_
    rotate_left
    · (intro w hSw; (try dsimp only at hSw); first | (go_simp; done) | (go_simp; with_reducible rfl))
    simp only [Act.put, List.setIfInBounds_toArray, List.set_cons_zero, List.set_cons_succ]
    refine wpAnyH_ready (rs := [9]) (by kernel_rfl) (by simp) ?_
    refine AllReadyH.cons (i := 9) (o := { dst := some 16, op := Op.call { callee := Callee.value (Operand.func 97), args := #[Operand.tmp 13, Operand.tmp 14, Operand.tmp 15], argTypes := #[22, 3, 117] }, type := 3, pos := "owner.go:72", after := #[{ on := 6, ground := Ground.data }, { on := 7, ground := Ground.data }, { on := 8, ground := Ground.data }, { on := 5, ground := Ground.chain }, { on := 5, ground := Ground.guard }], guard := some (5, false) }) rfl (fun K hK => ?_) AllReadyH.nil
    go_simp
    refine (HF.out _ B1.out).mono ?_
    rintro e w2 ⟨rfl, b2⟩
    have B2 := hide (chain B1.out b2)
    clear b2
    go_wp2_with fail
    refine hK.out _ _ ?_ (fun hHeld => ?_)
    · exact ⟨cell_below x1 B2.out, cell_below x2 B2.out, cell_below x3 B2.out, cell_below x4 B2.out⟩
    clear hK K
    refine wpAnyH_take (i := 11) (oi := { dst := some 18, op := Op.binOp BinOp.neq 3 (Operand.tmp 16) (Operand.tmp 17) 3, type := 4, pos := "owner.go:72", after := #[{ on := 9, ground := Ground.data }, { on := 10, ground := Ground.data }, { on := 5, ground := Ground.guard }], guard := some (5, false) }) (v := ?_) rfl (by kernel_rfl) (by kernel_rfl) (by kernel_rfl) (fun _ _ _ h => h) (Or.inl ⟨by rfl, ?_⟩) (by assumption) ?_
    rotate_left
    · (intro w hSw; (try dsimp only at hSw); first | (go_simp; done) | (go_simp; with_reducible rfl))
    simp only [Act.put, List.setIfInBounds_toArray, List.set_cons_zero, List.set_cons_succ]
    refine wpAnyH_take (i := 12) (oi := { dst := some 19, op := Op.pick (Operand.tmp 12) (Operand.const (Value.bool true)) (Operand.tmp 18), type := 4, pos := "owner.go:72", after := #[{ on := 5, ground := Ground.data }, { on := 11, ground := Ground.data }], guard := none }) (v := ?_) rfl (by kernel_rfl) (by kernel_rfl) (by kernel_rfl) (fun _ _ _ h => h) (Or.inl ⟨by rfl, ?_⟩) (by assumption) ?_
    rotate_left
    · (intro w hSw; (try dsimp only at hSw); first | (go_simp; done) | (go_simp; with_reducible rfl))
    simp only [Act.put, List.setIfInBounds_toArray, List.set_cons_zero, List.set_cons_succ]
    refine wpAnyH_take (i := 13) (oi := { dst := some 6, op := Op.assign (Operand.tmp 19), type := 4, pos := "owner.go:72", after := #[{ on := 12, ground := Ground.data }, { on := 9, ground := Ground.chain }, { on := 0, ground := Ground.phase }, { on := 1, ground := Ground.phase }, { on := 2, ground := Ground.phase }, { on := 3, ground := Ground.phase }, { on := 4, ground := Ground.phase }, { on := 5, ground := Ground.phase }, { on := 6, ground := Ground.phase }, { on := 7, ground := Ground.phase }, { on := 8, ground := Ground.phase }, { on := 9, ground := Ground.phase }, { on := 10, ground := Ground.phase }, { on := 11, ground := Ground.phase }, { on := 12, ground := Ground.phase }], guard := none }) (v := ?_) rfl (by kernel_rfl) (by kernel_rfl) (by kernel_rfl) (fun _ _ _ h => h) (Or.inl ⟨by rfl, ?_⟩) (by assumption) ?_
    rotate_left
    · (intro w hSw; (try dsimp only at hSw); first | (go_simp; done) | (go_simp; with_reducible rfl))
    simp only [Act.put, List.setIfInBounds_toArray, List.set_cons_zero, List.set_cons_succ]
    refine wpAnyH_done (by kernel_rfl) ?_ _
    go_wp2_with fail
    go_ret
    exact ⟨rfl, B2.out⟩
set_option maxHeartbeats 8000000 in
theorem owOwned_any (v : Value) (l : List Nd) (fm : Nat) (g : Nat) (q : Int → Bool) (hs : SuchF g q) (w : World) (hv : NodesV w v l) (hz : DocSz l) (hT : KTabs w) (hR : Right l) (hm : fm < l.length) :
    Calls Tryz.prog 75 #[v, .int .i64 (fm : Int), .func (.func g) #[] #[]] w fun e w' => ∃ v', e = .returned v' ∧ KidsO w.heap.size w' v' (ownedP l q (fm : Int)) ∧ Below w.heap.size w w' := by
  have nz := hz.nds _ (List.getElem_mem hm)
  have rb := right_is.2 hR
  have tr := top_rng hR (k := (fm : Int)) (by omega) (by omega)
  have hN : hasN l (fm : Int) = true := by unfold hasN; rw [decide_eq_true ⟨by omega, by omega⟩, rb]; rfl
  have eT : topQ l (fm : Int) = topP l (fm : Int) := if_pos hN
  have hNt : hasN l (topP l (fm : Int)) = true := by unfold hasN; rw [decide_eq_true tr, rb]; rfl
  have eO : ordL l (topP l (fm : Int)) = orderP l (topP l (fm : Int)) := (if_pos hNt).trans (order_down hR tr).symm
  have HNm := hide (fun W (hb : Below w.heap.size w W) => named_any v l (ownId l (fm : Int)) W (hv.below hb) hz)
  have eNm : namedQ l (ownId l (fm : Int)) = namedP l (ownId l (fm : Int)) := if_pos rb
  rw [eNm] at HNm
  have HTp := hide (fun W (hb : Below w.heap.size w W) => top_any v l (fm : Int) W (hv.below hb) hz)
  rw [eT] at HTp
  have HOr := hide (fun W (hb : Below w.heap.size w W) => order_any v l (topP l (fm : Int)) W (hv.below hb) hz)
  rw [eO] at HOr
  have OL : Hid ((orderP l (topP l (fm : Int))).length ≤ 17592186044416) := by
    show _ ≤ _
    rw [order_down hR tr]
    have := down_few hR tr
    omega
  have HDl := hide (fun (vo : Value) (B : Nat) (W : World) (ko : KidsO B W vo (orderP l (topP l (fm : Int)))) (Bl Bs Bn Bf : Nat) (hp : PredX 96 #[.pointer (some ⟨Bl, 0, none⟩), .pointer (some ⟨Bs, 0, none⟩), .pointer (some ⟨Bn, 0, none⟩), .pointer (some ⟨Bf, 0, none⟩)] (Value.int .i64) (goneB l q (fm : Int)) (vo.ownBlock.toList) W) => deleteFuncI_any B vo (orderP l (topP l (fm : Int))) (goneB l q (fm : Int)) 96 #[.pointer (some ⟨Bl, 0, none⟩), .pointer (some ⟨Bs, 0, none⟩), .pointer (some ⟨Bn, 0, none⟩), .pointer (some ⟨Bf, 0, none⟩)] entO2W W ko hp OL.out)
  have H2 := hide (fun Bl Bs Bn Bf Bo Bp W (hb : Below w.heap.size w W) x1 x2 x3 x4 x5 x6 => owOwned2_any v l fm g q hs Bl Bs Bn Bf Bo Bp W (hv.below hb) hz (hT.below hb) hR x1 x2 x3 x4 x5 x6)
  have EF : Hid ((orderP l (topP l (fm : Int))).filter (fun x => !goneB l q (fm : Int) x) = ownedP l q (fm : Int)) := rfl
  obtain ⟨p, c, rfl⟩ := nds_formW hv
  obtain ⟨b, o, va, pk, nk, ck, rfl, N⟩ := node_ofW hv hm
  have HN := hide (fun W (hb : Below w.heap.size w W) => owFind_any l[fm] va pk nk ck idT W (N.at_.below hb) nz.attrs)
  have EI : Hid (fndS l[fm].attrs idT = ownId l (fm : Int)) := by show _ = _; unfold ownId; rw [Int.toNat_natCast, nd_at hm]
  rw [EI.out, show idT = ⟨#[105, 100]⟩ from rfl] at HN
  obtain ⟨pa, ca, rfl, hxx⟩ := N.at_
  clear hxx
  have hlt : b < w.heap.size := World.block_lt_of_cell? _ _ N.name
  have BW3 : Hid (Below w.heap.size w (((w.alloc (.cells #[.slice (some ⟨b, o, none⟩) l.length c] 22)).alloc (.cells #[.int .i64 (fm : Int)] 3)).alloc (.cells #[.func (.func g) #[] #[]] 67))) := (((Below.refl _ w).alloc (Nat.le_refl _) _).alloc (by simp) _).alloc (by simp; omega) _
  have c0 := cell_below N.name BW3.out
  have c1 := cell_below N.text BW3.out
  have c2 := cell_below N.attrs BW3.out
  have c3 := cell_below N.parent BW3.out
  have c4 := cell_below N.kids BW3.out
  have m0 : (0 : Int) ≤ (fm : Int) := by omega
  have m1 : (fm : Int) < (l.length : Int) := by omega
  have K1 : Hid (Bk (((w.alloc (.cells #[.slice (some ⟨b, o, none⟩) l.length c] 22)).alloc (.cells #[.int .i64 (fm : Int)] 3)).alloc (.cells #[.func (.func g) #[] #[]] 67)) w.heap.size [.slice (some ⟨b, o, none⟩) l.length c] 22) := ((Bk.new w _ _).below ((Below.refl _ _).alloc (Nat.le_refl _) _)).below ((Below.refl _ _).alloc (Nat.le_refl _) _)
  have K2 : Hid (Bk (((w.alloc (.cells #[.slice (some ⟨b, o, none⟩) l.length c] 22)).alloc (.cells #[.int .i64 (fm : Int)] 3)).alloc (.cells #[.func (.func g) #[] #[]] 67)) (w.heap.size + 1) [.int .i64 (fm : Int)] 3) := by
    have := Bk.new (w.alloc (.cells #[.slice (some ⟨b, o, none⟩) l.length c] 22)) [.int .i64 (fm : Int)] 3
    rw [World.size_alloc] at this
    exact this.below ((Below.refl _ _).alloc (Nat.le_refl _) _)
  have K3 : Hid (Bk (((w.alloc (.cells #[.slice (some ⟨b, o, none⟩) l.length c] 22)).alloc (.cells #[.int .i64 (fm : Int)] 3)).alloc (.cells #[.func (.func g) #[] #[]] 67)) (w.heap.size + 1 + 1) [.func (.func g) #[] #[]] 67) := by
    have := Bk.new ((w.alloc (.cells #[.slice (some ⟨b, o, none⟩) l.length c] 22)).alloc (.cells #[.int .i64 (fm : Int)] 3)) [.func (.func g) #[] #[]] 67
    rw [World.size_alloc, World.size_alloc] at this
    exact this
  clear N hv hz hT nz hR hs rb tr hN eT hNt eO eNm EI OL
  generalize ownId l (fm : Int) = own at *
  generalize namedP l own = pl at *
  generalize orderP l (topP l (fm : Int)) = ord at *
  generalize topP l (fm : Int) = T at *
  generalize hasA l[fm] ⟨#[105, 100]⟩ = hai at *
  generalize l[fm].name = n0 at *
  generalize l[fm].text = n1 at *
  generalize l[fm].parent = n3 at *
  generalize l[fm].attrs.length = n5 at *
  go_enter Tryz.func75, Tryz.ntmps75
  go_wp2_with fail
  refine (HN.out _ BW3.out).mono ?_
  rintro e w1 ⟨rfl, b1⟩
  have B1 := hide (chain BW3.out b1)
  replace K1 := hide (K1.out.below b1)
  replace K2 := hide (K2.out.below b1)
  replace K3 := hide (K3.out.below b1)
  clear b1 BW3 HN c0 c1 c2 c3 c4
  have A1 : Hid (Below w1.heap.size w1 (w1.alloc (.cells #[.string own] 9))) := (Below.refl _ w1).alloc (Nat.le_refl _) _
  have B2 := hide (chain B1.out A1.out)
  have K4 := hide (Bk.new w1 [.string own] 9)
  replace K1 := hide (K1.out.below A1.out)
  replace K2 := hide (K2.out.below A1.out)
  replace K3 := hide (K3.out.below A1.out)
  have x1 := K1.out.cell 0 rfl
  have x4 := K4.out.cell 0 rfl
  go_wp2_with fail
  refine (HNm.out _ B2.out).mono ?_
  rintro e w2 ⟨rfl, b2⟩
  have B3 := hide (chain B2.out b2)
  replace K1 := hide (K1.out.below b2)
  replace K2 := hide (K2.out.below b2)
  replace K3 := hide (K3.out.below b2)
  replace K4 := hide (K4.out.below b2)
  clear b2 A1 B2 HNm x1 x4 B1
  have A2 : Hid (Below w2.heap.size w2 ((w2.alloc (.cells #[.int .i64 pl] 3)).alloc (.cells #[.func (.func 94) #[] #[.pointer (some ⟨w1.heap.size, 0, none⟩), .pointer (some ⟨w2.heap.size, 0, none⟩)]] 117))) := ((Below.refl _ w2).alloc (Nat.le_refl _) _).alloc (by simp) _
  have B4 := hide (chain B3.out A2.out)
  have K5 : Hid (Bk ((w2.alloc (.cells #[.int .i64 pl] 3)).alloc (.cells #[.func (.func 94) #[] #[.pointer (some ⟨w1.heap.size, 0, none⟩), .pointer (some ⟨w2.heap.size, 0, none⟩)]] 117)) w2.heap.size [.int .i64 pl] 3) := (Bk.new w2 _ _).below ((Below.refl _ _).alloc (Nat.le_refl _) _)
  have K6 : Hid (Bk ((w2.alloc (.cells #[.int .i64 pl] 3)).alloc (.cells #[.func (.func 94) #[] #[.pointer (some ⟨w1.heap.size, 0, none⟩), .pointer (some ⟨w2.heap.size, 0, none⟩)]] 117)) (w2.heap.size + 1) [.func (.func 94) #[] #[.pointer (some ⟨w1.heap.size, 0, none⟩), .pointer (some ⟨w2.heap.size, 0, none⟩)]] 117) := by
    have := Bk.new (w2.alloc (.cells #[.int .i64 pl] 3)) [.func (.func 94) #[] #[.pointer (some ⟨w1.heap.size, 0, none⟩), .pointer (some ⟨w2.heap.size, 0, none⟩)]] 117
    rw [World.size_alloc] at this
    exact this
  replace K1 := hide (K1.out.below A2.out)
  replace K2 := hide (K2.out.below A2.out)
  replace K3 := hide (K3.out.below A2.out)
  replace K4 := hide (K4.out.below A2.out)
  clear A2 B3
  go_wp2_with fail
  generalize ((w2.alloc (.cells #[.int .i64 pl] 3)).alloc (.cells #[.func (.func 94) #[] #[.pointer (some ⟨w1.heap.size, 0, none⟩), .pointer (some ⟨w2.heap.size, 0, none⟩)]] 117)) = w3 at *
  have DR : Below w3.heap.size w3 w3.drew := ⟨rfl, rfl, rfl, Nat.le_refl _, fun _ _ => rfl⟩
  have B5 := hide (chain B4.out DR)
  have x1 := K1.out.cell 0 rfl
  have x2 := K2.out.cell 0 rfl
  replace K1 := hide (K1.out.below DR)
  replace K2 := hide (K2.out.below DR)
  replace K3 := hide (K3.out.below DR)
  replace K4 := hide (K4.out.below DR)
  replace K5 := hide (K5.out.below DR)
  replace K6 := hide (K6.out.below DR)
  clear DR B4
  refine wp_region_held_drew (S := fun X : World => X.cell? ⟨w.heap.size, 0, none⟩ = some (.slice (some ⟨b, o, none⟩) l.length c) ∧ X.cell? ⟨w.heap.size + 1, 0, none⟩ = some (.int .i64 (fm : Int))) (by kernel_rfl) ?_ (fun hHeld => ?_)
  · exact ⟨x1, x2⟩
  refine wpAnyH_take (i := 0) (oi := { dst := some 24, op := Op.load 22 (Operand.tmp 3), type := 22, pos := "owner.go:70", after := #[], guard := none }) (v := ?_) rfl (by kernel_rfl) (by kernel_rfl) (by kernel_rfl) (fun _ _ _ h => h) (Or.inl ⟨by rfl, ?_⟩) (by assumption) ?_
  rotate_left
  · (intro w hSw; (try dsimp only at hSw); first | (go_simp; done) | (go_simp; with_reducible rfl))
  simp only [Act.put, List.setIfInBounds_toArray, List.set_cons_zero, List.set_cons_succ]
  refine wpAnyH_take (i := 1) (oi := { dst := some 25, op := Op.load 22 (Operand.tmp 3), type := 22, pos := "owner.go:70", after := #[], guard := none }) (v := ?_) rfl (by kernel_rfl) (by kernel_rfl) (by kernel_rfl) (fun _ _ _ h => h) (Or.inl ⟨by rfl, ?_⟩) (by assumption) ?_
  rotate_left
  · (intro w hSw; (try dsimp only at hSw); first | (go_simp; done) | (go_simp; with_reducible rfl))
  simp only [Act.put, List.setIfInBounds_toArray, List.set_cons_zero, List.set_cons_succ]
  refine wpAnyH_take (i := 2) (oi := { dst := some 26, op := Op.load 3 (Operand.tmp 4), type := 3, pos := "owner.go:70", after := #[], guard := none }) (v := ?_) rfl (by kernel_rfl) (by kernel_rfl) (by kernel_rfl) (fun _ _ _ h => h) (Or.inl ⟨by rfl, ?_⟩) (by assumption) ?_
  rotate_left
  · (intro w hSw; (try dsimp only at hSw); first | (go_simp; done) | (go_simp; with_reducible rfl))
  simp only [Act.put, List.setIfInBounds_toArray, List.set_cons_zero, List.set_cons_succ]
  refine wpAnyH_ready (rs := [3]) (by kernel_rfl) (by simp) ?_
  refine AllReadyH.cons (i := 3) (o := { dst := some 27, op := Op.call { callee := Callee.value (Operand.func 95), args := #[Operand.tmp 25, Operand.tmp 26], argTypes := #[22, 3] }, type := 3, pos := "owner.go:70", after := #[{ on := 1, ground := Ground.data }, { on := 2, ground := Ground.data }], guard := none }) rfl (fun K hK => ?_) AllReadyH.nil
  go_simp
  refine (HTp.out _ B5.out).mono ?_
  rintro e w4 ⟨rfl, b4⟩
  have B6 := hide (chain B5.out b4)
  replace K1 := hide (K1.out.below b4)
  replace K2 := hide (K2.out.below b4)
  replace K3 := hide (K3.out.below b4)
  replace K4 := hide (K4.out.below b4)
  replace K5 := hide (K5.out.below b4)
  replace K6 := hide (K6.out.below b4)
  clear b4 B5
  go_wp2_with fail
  refine hK.out _ _ ?_ (fun hHeld => ?_)
  · exact ⟨K1.out.cell 0 rfl, K2.out.cell 0 rfl⟩
  clear hK K
  refine wpAnyH_ready (rs := [4]) (by kernel_rfl) (by simp) ?_
  refine AllReadyH.cons (i := 4) (o := { dst := some 28, op := Op.call { callee := Callee.value (Operand.func 56), args := #[Operand.tmp 24, Operand.tmp 27], argTypes := #[22, 3] }, type := 38, pos := "owner.go:70", after := #[{ on := 0, ground := Ground.data }, { on := 3, ground := Ground.data }, { on := 3, ground := Ground.chain }], guard := none }) rfl (fun K hK => ?_) AllReadyH.nil
  go_simp
  refine (HOr.out _ B6.out).mono ?_
  rintro e w5 ⟨vo, rfl, KO, b5⟩
  replace KO := hide KO
  go_wp2_with fail
  refine hK.out _ _ ?_ (fun hHeld => ?_)
  · exact ⟨(K1.out.below b5).cell 0 rfl, (K2.out.below b5).cell 0 rfl⟩
  clear hK K
  refine wpAnyH_take (i := 5) (oi := { dst := some 11, op := Op.assign (Operand.tmp 28), type := 38, pos := "owner.go:70", after := #[{ on := 4, ground := Ground.data }, { on := 4, ground := Ground.chain }, { on := 0, ground := Ground.phase }, { on := 1, ground := Ground.phase }, { on := 2, ground := Ground.phase }, { on := 3, ground := Ground.phase }, { on := 4, ground := Ground.phase }], guard := none }) (v := ?_) rfl (by kernel_rfl) (by kernel_rfl) (by kernel_rfl) (fun _ _ _ h => h) (Or.inl ⟨by rfl, ?_⟩) (by assumption) ?_
  rotate_left
  · (intro w hSw; (try dsimp only at hSw); first | (go_simp; done) | (go_simp; with_reducible rfl))
  simp only [Act.put, List.setIfInBounds_toArray, List.set_cons_zero, List.set_cons_succ]
  refine wpAnyH_done (by kernel_rfl) ?_ _
  have OB : Hid (∀ k ∈ vo.ownBlock.toList, w4.heap.size ≤ k) := fun k hk => (World.ownsRow.lt KO.out k (opt_mem.1 hk)).1
  have PX : Hid (PredX 96 #[.pointer (some ⟨w.heap.size, 0, none⟩), .pointer (some ⟨w.heap.size + 1 + 1, 0, none⟩), .pointer (some ⟨w2.heap.size + 1, 0, none⟩), .pointer (some ⟨w.heap.size + 1, 0, none⟩)] (Value.int .i64) (goneB l q (fm : Int)) (vo.ownBlock.toList) w5) := fun W x hc => by
    have hb : Below w4.heap.size w4 W := b5.trans (hc.below b5.size OB.out)
    exact H2.out _ _ _ _ w1.heap.size w2.heap.size W (chain B6.out hb) ((K1.out.below hb).cell 0 rfl) ((K3.out.below hb).cell 0 rfl) ((K6.out.below hb).cell 0 rfl) ((K2.out.below hb).cell 0 rfl) ((K4.out.below hb).cell 0 rfl) ((K5.out.below hb).cell 0 rfl) x
  have HD := hide (HDl.out vo w4.heap.size w5 KO.out _ _ _ _ PX.out)
  rw [EF.out] at HD
  have B7 := hide (chain B6.out b5)
  have h56 := B6.out.size
  clear HDl H2 PX K1 K2 K3 K4 K5 K6 EF
  obtain ⟨po, ko, eo, _⟩ := KO.out.ints
  subst eo
  go_wp2_with fail
  refine HD.out.mono ?_
  rintro e w6 ⟨q6, n6, c6, rfl, o6, ch6, _⟩
  have B8 : Hid (Below w.heap.size w w6) := B7.out.trans (ch6.below B7.out.size (fun k hk => Nat.le_trans h56 (OB.out k hk)))
  go_wp2_with fail
  go_ret
  exact ⟨_, rfl, owns_mono o6 h56, B8.out⟩

end Go.Proofs.YtldbaoolddlacaaGreatDoor
