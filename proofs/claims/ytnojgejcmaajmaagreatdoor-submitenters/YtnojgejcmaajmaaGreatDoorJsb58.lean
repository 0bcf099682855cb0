/- Attributes that are set, or taken away. The program's isThere, Order, upwards of layer 10. The program's Named of layer 10. The program's Top, Up, Attr of layer 10. The program's find, has, the questions of kinds, isOf, firstOf, isRooted, above of layer 16. The program's find, has, isThere, fires, blocks, Asks of layer 24. -/
import Derived.Test.YtnojgejcmaajmaaGreatDoorJsb5
import Derived.Test.YtnojgejcmaajmaaGreatDoorJsb6
import Derived.Test.YtnojgejcmaajmaaGreatDoorJsb56

namespace Go.Proofs.YtnojgejcmaajmaaGreatDoor
open Go.RowKit
theorem find_some {ax : List (ByteArray × ByteArray)} {n : ByteArray} {k : Nat} (h : findA ax n = some k) : ∃ hk : k < ax.length, ax[k].1 = n ∧ ∀ j (hj : j < k), ¬ ax[j].1 = n := by
  unfold findA at h
  obtain ⟨h1, h2, h3⟩ := List.findIdx?_eq_some_iff_getElem.1 h
  exact ⟨h1, by simpa using h2, fun j hj => by have := h3 j hj; simpa using this⟩
end Go.Proofs.YtnojgejcmaajmaaGreatDoor

namespace Go.Proofs.YtnojgejcmaajmaaGreatDoor
open Go.RowKit
/-- What Order tells. -/
def ordL (l : List Nd) (id : Int) : List Int := if hasN l id = true then downF l l.length id else []
theorem down_few {l : List Nd} (h : Right l) {k : Int} (hk : inR l k) : (downF l l.length k).length ≤ 400 := by
  obtain ⟨d, g⟩ := right_dep h hk
  have := nodup_len l.length (downF l l.length k) (down_nodup (right_linked h) g) (fun x hx => down_range (right_sub h hk) hx)
  have := h.len
  omega
set_option maxHeartbeats 1000000 in
theorem order_any (v : Value) (l : List Nd) (id : Int) (w : World) (hv : NodesV w v l) (hz : DocSz l) :
    Calls Tryz.prog 179 #[v, .int .i64 id] w fun e w' => ∃ v', e = .returned v' ∧ KidsO w.heap.size w' v' (ordL l id) ∧ Below w.heap.size w w' := by
  have HH := hide (isThere_any v l id w hv hz)
  have HV := hide hv
  clear hv hz
  cases q : hasN l id with
  | false =>
    rw [q] at HH
    have E : Hid (ordL l id = []) := by show _ = _; unfold ordL; rw [q]; rfl
    go_enter Tryz.func179, Tryz.ntmps179
    go_wp2_with fail
    refine HH.out.mono ?_
    rintro e w1 ⟨rfl, b1⟩
    go_wp2_with fail
    go_ret
    exact ⟨_, rfl, by rw [E.out]; exact World.ownsRow_nil _ _ _ _, b1⟩
  | true =>
    rw [q] at HH
    have E : Hid (ordL l id = downF l l.length id) := by show _ = _; unfold ordL; rw [q]; rfl
    obtain ⟨r1, r2⟩ := has_is q
    have HD := hide (fun W (hb : Below w.heap.size w W) => down_any w v l HV.out l.length id [] (.slice none 0 0) W hb (World.ownsRow_nil _ _ _ _) (right_sub r1 r2) (by have := down_few r1 r2; rw [List.length_nil]; omega))
    rw [List.nil_append] at HD
    clear q r1 r2
    go_enter Tryz.func179, Tryz.ntmps179
    go_wp2_with fail
    refine HH.out.mono ?_
    rintro e w1 ⟨rfl, b1⟩
    go_wp2_with fail
    refine (HD.out _ b1).mono ?_
    rintro e w2 ⟨v2, rfl, k2, b2⟩
    go_wp2_with fail
    go_ret
    exact ⟨_, rfl, by rw [E.out]; exact k2, b2⟩
end Go.Proofs.YtnojgejcmaajmaaGreatDoor

namespace Go.Proofs.YtnojgejcmaajmaaGreatDoor
open Go.RowKit
def idIs (x : ByteArray) (a : ByteArray × ByteArray) : Bool := decide (a.1 = idT) && decide (a.2 = x)
theorem id_any {ax : List (ByteArray × ByteArray)} (h : AttrsOk ax) (x : ByteArray) : (ax.findIdx? (idIs x)).isSome = decide ((findA ax idT).map (fun i => (ax.getD i at0).2) = some x) := by
  rw [List.findIdx?_isSome, Bool.eq_iff_iff, List.any_eq_true, decide_eq_true_eq]
  constructor
  · rintro ⟨a, ha, q⟩
    unfold idIs at q
    rw [Bool.and_eq_true, decide_eq_true_eq, decide_eq_true_eq] at q
    obtain ⟨j, hj, rfl⟩ := List.getElem_of_mem ha
    have hf : findA ax idT = some j := by
      rw [← q.1]
      rw [find_first hj]
      intro i hi e
      have hn := List.pairwise_iff_getElem.1 h.once i j (by simp; omega) (by simpa using hj) hi
      exact hn (by simpa using e)
    rw [hf]
    simp [List.getD, hj, q.2]
  · intro q
    cases hf : findA ax idT with
    | none => rw [hf] at q; cases q
    | some j =>
      rw [hf] at q
      obtain ⟨hj, e1, _⟩ := find_some hf
      have e2 : ax[j].2 = x := by
        have := Option.some.inj q
        simpa [List.getD, hj] using this
      exact ⟨ax[j], List.getElem_mem _, by unfold idIs; rw [decide_eq_true e1, decide_eq_true e2]; rfl⟩
theorem id_node {l : List Nd} (h : Right l) {m : Nat} (hm : m < l.length) (x : ByteArray) : (l[m].attrs.findIdx? (idIs x)).isSome = hasId l x (m : Int) := by
  have al := h.alone m hm
  rw [nd_at hm] at al
  unfold hasId attrP
  rw [Int.toNat_natCast, nd_at hm]
  by_cases nn : l[m].name.size = 0
  · unfold aloneB at al
    rw [if_pos nn, Bool.and_eq_true] at al
    have : l[m].attrs = [] := List.isEmpty_iff.1 al.1
    rw [this]
    rfl
  · exact id_any (alone_attrs al nn).2 x
set_option maxHeartbeats 1000000 in
theorem named1_any (x : ByteArray) (B : Nat) (a : ByteArray × ByteArray) (W : World) (hc : W.cell? ⟨B, 0, none⟩ = some (.string x)) :
    Calls Tryz.prog 175 #[.agg #[.string a.1, .string a.2], .pointer (some ⟨B, 0, none⟩)] W fun e w' => e = .returned (.bool (idIs x a)) ∧ Below W.heap.size W w' := by
  have hB := World.block_lt_of_cell? _ _ hc
  have hne : B ≠ W.heap.size := by have : B < W.heap.size := hB; omega
  have E1 := txt_beq a.1 idT
  have E2 := txt_beq a.2 x
  unfold idIs
  have ei : idT.toList = [105, 100] := by rw [ByteArray.toList_eq]; rfl
  rw [ei] at E1
  generalize a.1 = a1 at *
  generalize a.2 = a2 at *
  generalize decide (a1 = idT) = r1 at *
  generalize decide (a2 = x) = r2 at *
  clear ei
  cases r1 with
  | true =>
    cases r2 with
    | true =>
      go_enter Tryz.func175, Tryz.ntmps175
      go_wp2_with fail
      go_ret
      exact ⟨rfl, (Below.refl _ W).alloc (Nat.le_refl _) _⟩
    | false =>
      go_enter Tryz.func175, Tryz.ntmps175
      go_wp2_with fail
      go_ret
      exact ⟨rfl, (Below.refl _ W).alloc (Nat.le_refl _) _⟩
  | false =>
    go_enter Tryz.func175, Tryz.ntmps175
    go_wp2_with fail
    go_ret
    exact ⟨rfl, (Below.refl _ W).alloc (Nat.le_refl _) _⟩
theorem named_pred (x : ByteArray) (B : Nat) (w : World) (hc : w.cell? ⟨B, 0, none⟩ = some (.string x)) : PredA 175 #[.pointer (some ⟨B, 0, none⟩)] (idIs x) w := fun W a hb =>
  named1_any x B a W (cell_below hc hb)
theorem entersNamed : ∀ args w, (callFunc 175 args).run Tryz.prog w = .ok (.enter 175 args) w := Go.Proofs.enters_of Tryz.func175 (by kernel_rfl) rfl
/-- What Named answers. -/
def namedQ (l : List Nd) (x : ByteArray) : Int := if rightB l = true then namedP l x else -1
set_option maxHeartbeats 4000000 in
set_option maxRecDepth 100000 in
theorem named_any (v : Value) (l : List Nd) (x : ByteArray) (w : World) (hv : NodesV w v l) (hz : DocSz l) :
    Calls Tryz.prog 119 #[v, .string x] w fun e w' => e = .returned (.int .i64 (namedQ l x)) ∧ Below w.heap.size w w' := by
  have HR := hide (fun W (hb : Below w.heap.size w W) => right_any v l W (hv.below hb) hz)
  have HV := hide hv
  obtain ⟨p, c, rfl, hv⟩ := hv
  have HP := hide hv
  have HZ := hide hz
  clear hv hz
  cases q0 : noName x with
  | true =>
    have E : Hid (namedQ l x = -1) := by
      show _ = _
      unfold namedQ namedP
      rw [q0]
      split <;> rfl
    obtain rfl := noName_true q0
    clear q0
    go_enter Tryz.func119, Tryz.ntmps119
    go_wp2_with fail
    go_ret
    exact ⟨ret_int E.out.symm, (Below.refl _ w).alloc (Nat.le_refl _) _⟩
  | false =>
    have e1 := noName_false q0
    have e2 : x.toList.isEmpty = false := by cases h : x.toList with
      | nil => exact absurd h e1
      | cons => rfl
    have e3 : (x.toList == []) = false := by rw [beq_eq_false_iff_ne]; exact e1
    have BA : Hid (Below w.heap.size w (w.alloc (.cells #[.string x] 9))) := (Below.refl _ w).alloc (Nat.le_refl _) _
    cases q1 : rightB l with
    | false =>
      have E : Hid (namedQ l x = -1) := by show _ = _; unfold namedQ; rw [q1]; rfl
      have HR' := hide (HR.out _ BA.out)
      rw [q1] at HR'
      clear q0 q1 HR
      go_enter Tryz.func119, Tryz.ntmps119
      go_wp2_with fail
      refine HR'.out.mono ?_
      rintro e w1 ⟨rfl, b1⟩
      go_wp2_with fail
      go_ret
      exact ⟨ret_int E.out.symm, chain BA.out b1⟩
    | true =>
      have hR := right_is.1 q1
      have HR' := hide (HR.out _ BA.out)
      rw [q1] at HR'
      have r0 : inR l 0 := ⟨by omega, by have := hR.len.1; omega⟩
      have E : Hid (namedQ l x = ((downF l l.length 0).find? (hasId l x)).getD (-1)) := by show _ = _; unfold namedQ namedP; rw [q1, q0, order_down hR r0]; rfl
      have HRt := hide hR
      have h0 : 0 < l.length := by have := hR.len.1; omega
      obtain ⟨b, o, rfl, hcell⟩ : ∃ b o, p = some ⟨b, o, none⟩ ∧ ∀ i (h : i < l.length), ∃ va vk, NodeAt w b (o + i * 5) l[i] va vk := by
        rcases HP.out with t | t
        · rw [t] at h0; simp at h0
        · exact t
      have HC := hide hcell
      have hlen := hR.len.2
      have HD := hide (fun W (hb : Below w.heap.size w W) => down_any W _ l (HV.out.below hb) l.length 0 [] (.slice none 0 0) W (Below.refl _ _) (World.ownsRow_nil _ _ _ _) (right_sub hR r0) (by have := down_few hR r0; rw [List.length_nil]; omega))
      rw [List.nil_append] at HD
      have RG : Hid (∀ k ∈ downF l l.length 0, inR l k) := fun k hk => down_range (right_sub hR r0) hk
      have DF := hide (down_few hR r0)
      have C0 : Hid ((w.alloc (.cells #[.string x] 9)).cell? ⟨w.heap.size, 0, none⟩ = some (.string x)) := by show _ = _; simp
      clear q0 q1 hcell HP HR hR r0
      go_enter Tryz.func119, Tryz.ntmps119
      go_wp2_with fail
      refine HR'.out.mono ?_
      rintro e w1 ⟨rfl, b1⟩
      have B1 := hide (chain BA.out b1)
      have C1 : Hid (w1.cell? ⟨w.heap.size, 0, none⟩ = some (.string x)) := cell_below C0.out b1
      clear b1 C0 BA
      go_wp2_with fail
      refine (HD.out _ B1.out).mono ?_
      rintro e w2 ⟨v2, rfl, k2, b2⟩
      have K2 := hide k2.ints
      have B2 := hide (chain B1.out b2)
      have C2 : Hid (w2.cell? ⟨w.heap.size, 0, none⟩ = some (.string x)) := cell_below C1.out b2
      clear b2 C1 B1 k2 HD HR'
      generalize downF l l.length 0 = D at *
      obtain ⟨p2, c2, ev2, h2⟩ := K2.out
      have H2 := hide h2
      have dl := DF.out
      clear h2 K2
      subst ev2
      go_wp2_with fail
      go_loopw [19] (fun iv wr => ∃ j : Nat, j ≤ D.length ∧ iv = .int .i64 j ∧ Hid (((D.drop j).find? (hasId l x)).getD (-1) = namedQ l x) ∧ Hid (Below w2.heap.size w2 wr)) (fun iv _ => D.length - (intOf iv).toNat)
      case atStart => exact ⟨0, Nat.zero_le _, rfl, by show _ = _; rw [List.drop_zero]; exact E.out.symm, Below.refl _ _⟩
      case round =>
        rename World => wr
        obtain ⟨j, hj, rfl, hc, BW⟩ := hrel
        have Bw := hide (chain B2.out BW.out)
        by_cases h : j < D.length
        · have j1 : (j : Int) < (D.length : Int) := by omega
          have j0 : (0 : Int) ≤ (j : Int) := by omega
          obtain ⟨b2, o2, rfl, hk⟩ : ∃ b2 o2, p2 = some ⟨b2, o2, none⟩ ∧ ∀ i (h : i < D.length), w2.cell? ⟨b2, o2 + i, none⟩ = some (.int .i64 D[i]) := by
            rcases H2.out with t | t
            · rw [t] at h; simp at h
            · exact t
          have a5 := cell_below (hk j h) BW.out
          have rk := RG.out D[j] (List.getElem_mem _)
          obtain ⟨m, em⟩ : ∃ m : Nat, D[j] = (m : Int) := ⟨D[j].toNat, by have := rk.1; omega⟩
          have hm : m < l.length := by have := rk.2; omega
          rw [em] at a5
          obtain ⟨va, vk, NM⟩ := HC.out m hm
          have a2 := (NM.below Bw.out).attrs
          have HF := hide (containsFuncA_any va l[m].attrs (idIs x) 175 #[.pointer (some ⟨w.heap.size, 0, none⟩)] entersNamed wr (NM.below Bw.out).at_ (named_pred x _ wr (cell_below C2.out BW.out)) (HZ.out.nds l[m] (List.getElem_mem _)).attrs)
          rw [id_node HRt.out hm] at HF
          have hc1 := hc.out
          rw [List.drop_eq_getElem_cons h, em, List.find?_cons] at hc1
          have m0' : (0 : Int) ≤ (m : Int) := by omega
          have m1 : (m : Int) < (l.length : Int) := by omega
          clear hk rk em NM hc
          cases q : hasId l x (m : Int) with
          | true =>
            rw [q] at HF hc1
            have E2 : Hid (namedQ l x = (m : Int)) := by show _ = _; rw [← hc1]; rfl
            clear hc1 q
            go_wp2_with fail
            refine HF.out.mono ?_
            rintro e w3 ⟨rfl, b3⟩
            go_wp2_with fail
            go_ret
            exact ⟨ret_int E2.out.symm, chain Bw.out b3⟩
          | false =>
            rw [q] at HF hc1
            have HC1 := hide hc1
            clear hc1 q
            go_wp2_with fail
            refine HF.out.mono ?_
            rintro e w3 ⟨rfl, b3⟩
            go_wp2_with fail
            go_roundw
            case rel => exact ⟨j + 1, by omega, by go_num, HC1, chain BW.out b3⟩
            case measure => simp [intOf]; omega
        · obtain rfl : j = D.length := by omega
          have E2 : Hid (namedQ l x = -1) := by show _ = _; rw [← hc.out, List.drop_length]; rfl
          clear hc h
          go_wp2_with fail
          go_ret
          exact ⟨ret_int E2.out.symm, Bw.out⟩
end Go.Proofs.YtnojgejcmaajmaaGreatDoor

namespace Go.Proofs.YtnojgejcmaajmaaGreatDoor
open Go.RowKit
def topQ (l : List Nd) (id : Int) : Int := if hasN l id = true then topP l id else -1
theorem topP_root {l : List Nd} (h : Right l) {m : Nat} (hm : m < l.length) (hp : l[m].parent = -1) : topP l (m : Int) = (m : Int) := by
  have hu := anc_up (h.ende (k := (m : Int)) (by omega)) (by omega)
  rw [parI_nat hm] at hu
  unfold topP
  rw [hu, anc_neg (by omega)]; rfl
theorem topP_up {l : List Nd} (h : Right l) {m n : Nat} (hm : m < l.length) (hp : l[m].parent = (n : Int)) : topP l (n : Int) = topP l (m : Int) := by
  have hu := anc_up (h.ende (k := (m : Int)) (by omega)) (by omega)
  have pb := h.par m hm
  rw [nd_at hm, hp] at pb
  have hu2 := anc_up (h.ende (k := (n : Int)) (by omega)) (by omega)
  rw [parI_nat hm, hp] at hu
  unfold topP
  rw [hu, hu2]; rfl
set_option maxHeartbeats 2000000 in
theorem top_any (v : Value) (l : List Nd) (id : Int) (w : World) (hv : NodesV w v l) (hz : DocSz l) :
    Calls Tryz.prog 180 #[v, .int .i64 id] w fun e w' => e = .returned (.int .i64 (topQ l id)) ∧ Below w.heap.size w w' := by
  have HH := hide (isThere_any v l id w hv hz)
  obtain ⟨p, c, rfl, hv⟩ := hv
  have HV := hide hv
  clear hv hz
  cases q : hasN l id with
  | false =>
    rw [q] at HH
    have E : Hid (topQ l id = -1) := by show _ = _; unfold topQ; rw [q]; rfl
    clear q
    go_enter Tryz.func180, Tryz.ntmps180
    go_wp2_with fail
    refine HH.out.mono ?_
    rintro e w1 ⟨rfl, b1⟩
    go_wp2_with fail
    go_ret
    exact ⟨ret_int E.out.symm, b1⟩
  | true =>
    rw [q] at HH
    obtain ⟨hR, hi⟩ := has_is q
    obtain ⟨m0, rfl⟩ : ∃ m : Nat, id = (m : Int) := ⟨id.toNat, by have := hi.1; omega⟩
    have h0 : m0 < l.length := by have := hi.2; omega
    obtain ⟨T, hT⟩ : ∃ T, Hid (topP l (m0 : Int) = T) := ⟨_, show topP l (m0 : Int) = _ from rfl⟩
    have E : Hid (topQ l (m0 : Int) = T) := by show _ = _; unfold topQ; rw [q]; exact hT.out
    have HRt := hide hR
    have hlen := hR.len.2
    obtain ⟨b, o, rfl, hcell⟩ : ∃ b o, p = some ⟨b, o, none⟩ ∧ ∀ i (h : i < l.length), ∃ va vk, NodeAt w b (o + i * 5) l[i] va vk := by
      rcases HV.out with t | t
      · rw [t] at h0; simp at h0
      · exact t
    have HC := hide hcell
    clear q hi hR hcell HV
    go_enter Tryz.func180, Tryz.ntmps180
    go_wp2_with fail
    refine HH.out.mono ?_
    rintro e w1 ⟨rfl, b1⟩
    go_wp2_with fail
    have B1 := hide b1
    clear b1 HH
    go_loop [1] (fun kv => ∃ m : Nat, kv = .int .i64 (m : Int) ∧ m < l.length ∧ Hid (topP l (m : Int) = T)) (fun kv => hgt l (intOf kv))
    case atStart => exact ⟨m0, rfl, h0, hT⟩
    case round =>
      obtain ⟨m, rfl, hm, hc⟩ := hrel
      clear hT
      have he := HRt.out.ende (show (m : Int) < (l.length : Int) by omega)
      have HH := hide (hgt_up he (by omega))
      have pb := HRt.out.par m hm
      rw [nd_at hm] at pb
      rw [parI_nat hm] at HH
      obtain ⟨va, vk, N0⟩ := HC.out m hm
      have a3 := (N0.below B1.out).parent
      have m1 : (m : Int) < (l.length : Int) := by omega
      have m0' : (0 : Int) ≤ (m : Int) := by omega
      by_cases q1 : l[m].parent = -1
      · have f1 : (l[m].parent != -1) = false := by rw [q1]; rfl
        have f2 : (l[m].parent == -1) = true := by rw [q1]; rfl
        have E2 : Hid (topQ l (m0 : Int) = (m : Int)) := by show _ = _; rw [E.out, ← hc.out]; exact topP_root HRt.out hm q1
        clear q1 hc he HH pb N0
        generalize l[m].parent = pm at *
        go_wp2_with fail
        go_ret
        exact ⟨ret_int E2.out.symm, B1.out⟩
      · have f1 : (l[m].parent != -1) = true := by rw [bne_iff_ne]; exact q1
        have f2 : (l[m].parent == -1) = false := by rw [beq_eq_false_iff_ne]; exact q1
        obtain ⟨n, en⟩ : ∃ n : Nat, l[m].parent = (n : Int) := ⟨l[m].parent.toNat, by omega⟩
        have hn : n < l.length := by omega
        have HC1 : Hid (topP l (n : Int) = T) := by show _ = _; rw [topP_up HRt.out hm en]; exact hc.out
        rw [en] at a3 f1 f2 HH
        clear q1 hc he pb N0 en
        go_wp2_with fail
        go_round
        case rel => exact ⟨n, rfl, hn, HC1⟩
        case measure => have := HH.out; show hgt l (n : Int) < hgt l (m : Int); omega
end Go.Proofs.YtnojgejcmaajmaaGreatDoor

namespace Go.Proofs.YtnojgejcmaajmaaGreatDoor
open Go.RowKit
set_option maxRecDepth 100000
theorem ret_fndW {a b : ByteArray} {c d : Bool} (h : a = b) (g : c = d) : Ending.returned (.tuple #[.string a, .bool c]) = .returned (.tuple #[.string b, .bool d]) := by rw [h, g]
set_option maxHeartbeats 4000000 in
theorem owFind1_any (s : ByteArray) (B : Nat) (x : ByteArray × ByteArray) (W : World) (hc : W.cell? ⟨B, 0, none⟩ = some (.string s)) :
    Calls Tryz.prog 220 #[.agg #[.string x.1, .string x.2], .pointer (some ⟨B, 0, none⟩)] W fun e w' => e = .returned (.bool (isN s x)) ∧ Below W.heap.size W w' := by
  have hB := World.block_lt_of_cell? _ _ hc
  have hne : B ≠ W.heap.size := by have : B < W.heap.size := hB; omega
  have E := hide (txt_beq x.1 s)
  unfold isN
  generalize x.1 = a at *
  generalize x.2 = b at *
  generalize hR : decide (a = s) = R at *
  clear hR
  go_enter Tryz.func220, Tryz.ntmps220
  go_wp2_with fail
  go_ret
  exact ⟨ret_bool E.out, (Below.refl _ W).alloc (Nat.le_refl _) _⟩
theorem entersOwFind : ∀ args w, (callFunc 220 args).run Tryz.prog w = .ok (.enter 220 args) w := Go.Proofs.enters_of Tryz.func220 (by kernel_rfl) rfl
set_option maxHeartbeats 4000000 in
theorem owFind_any (n : Nd) (va : Value) (pk : Option Addr) (nk ck : Nat) (s : ByteArray) (w : World) (hv : AttrsV w va n.attrs) (hl : n.attrs.length ≤ 4398046511104) :
    Calls Tryz.prog 172 #[.agg #[.string n.name, .string n.text, va, .int .i64 n.parent, .slice pk nk ck], .string s] w fun e w' => e = .returned (.tuple #[.string (fndS n.attrs s), .bool (hasA n s)]) ∧ Below w.heap.size w w' := by
  have B0 : Hid (Below w.heap.size w ((w.alloc (.cells #[.string n.name, .string n.text, va, .int .i64 n.parent, .slice pk nk ck] 57)).alloc (.cells #[.string s] 9))) := ((Below.refl _ w).alloc (Nat.le_refl _) _).alloc (by simp) _
  have PR : PredA 220 #[.pointer (some ⟨w.heap.size + 1, 0, none⟩)] (isN s) ((w.alloc (.cells #[.string n.name, .string n.text, va, .int .i64 n.parent, .slice pk nk ck] 57)).alloc (.cells #[.string s] 9)) := fun W x hb =>
    owFind1_any s (w.heap.size + 1) x W ((hb.cell (by simp)).trans (by simp))
  have HC := hide (indexFuncA_any va n.attrs (isN s) 220 #[.pointer (some ⟨w.heap.size + 1, 0, none⟩)] entersOwFind ((w.alloc (.cells #[.string n.name, .string n.text, va, .int .i64 n.parent, .slice pk nk ck] 57)).alloc (.cells #[.string s] 9)) (hv.below B0.out) PR hl)
  have HIT := hide (fun k hk (h : n.attrs.findIdx? (isN s) = some k) => fnd_hit (ax := n.attrs) (n := s) (k := k) hk h)
  have MISS := hide (fun (h : n.attrs.findIdx? (isN s) = none) => fnd_miss (ax := n.attrs) (n := s) h)
  clear PR
  unfold hasA
  obtain ⟨p, c, rfl, hk⟩ := hv
  generalize fndS n.attrs s = R1 at *
  generalize (findA n.attrs s).isSome = R2 at *
  generalize n.name = n0 at *
  generalize n.text = n1 at *
  generalize n.parent = n3 at *
  generalize n.attrs = ax at *
  cases h : ax.findIdx? (isN s) with
  | none =>
    have E := hide (MISS.out h)
    rw [h, show findV none = -1 from rfl] at HC
    clear hk HIT MISS h
    go_enter Tryz.func172, Tryz.ntmps172
    go_wp2_with fail
    refine HC.out.mono ?_
    rintro e w1 ⟨rfl, b1⟩
    go_wp2_with fail
    go_ret2
    exact ⟨ret_fndW E.out.1.symm E.out.2.symm, chain B0.out b1⟩
  | some i =>
    obtain ⟨hi, _, _⟩ := List.findIdx?_eq_some_iff_getElem.1 h
    have E := hide (HIT.out i hi h)
    rw [h, show findV (some i) = (i : Int) from rfl] at HC
    have i0 : (0 : Int) ≤ (i : Int) := by omega
    have i1 : (i : Int) < (ax.length : Int) := by omega
    have i2 : ¬ (i : Int) < 0 := by omega
    obtain ⟨b, o, rfl, hc⟩ : ∃ b o, p = some ⟨b, o, none⟩ ∧ ∀ i (h : i < ax.length), w.cell? ⟨b, o + i * 2, none⟩ = some (.string ax[i].1) ∧ w.cell? ⟨b, o + i * 2 + 1, none⟩ = some (.string ax[i].2) := by
      rcases hk with t | t
      · rw [t] at hi; simp at hi
      · exact t
    have c1 := hide (hc i hi).2
    have CN := hide (show ((w.alloc (.cells #[.string n0, .string n1, .slice (some ⟨b, o, none⟩) ax.length c, .int .i64 n3, .slice pk nk ck] 57)).alloc (.cells #[.string s] 9)).cell? ⟨w.heap.size, 2, none⟩ = some (.slice (some ⟨b, o, none⟩) ax.length c) by simp)
    clear hc HIT MISS h
    generalize ax[i].2 = t at *
    go_enter Tryz.func172, Tryz.ntmps172
    go_wp2_with fail
    refine HC.out.mono ?_
    rintro e w1 ⟨rfl, b1⟩
    have y1 := cell_below (cell_below c1.out B0.out) b1
    have y2 := cell_below CN.out b1
    go_wp2_with fail
    go_ret2
    exact ⟨ret_fndW E.out.1.symm E.out.2.symm, chain B0.out b1⟩
set_option maxHeartbeats 4000000 in
theorem owHas_any (n : Nd) (va : Value) (pk : Option Addr) (nk ck : Nat) (s : ByteArray) (w : World) (hv : AttrsV w va n.attrs) (hl : n.attrs.length ≤ 4398046511104) :
    Calls Tryz.prog 111 #[.agg #[.string n.name, .string n.text, va, .int .i64 n.parent, .slice pk nk ck], .string s] w fun e w' => e = .returned (.bool (hasA n s)) ∧ Below w.heap.size w w' := by
  have B0 : Hid (Below w.heap.size w (w.alloc (.cells #[.string n.name, .string n.text, va, .int .i64 n.parent, .slice pk nk ck] 57))) := (Below.refl _ w).alloc (Nat.le_refl _) _
  have HC := hide (owFind_any n va pk nk ck s (w.alloc (.cells #[.string n.name, .string n.text, va, .int .i64 n.parent, .slice pk nk ck] 57)) (hv.below B0.out) hl)
  clear hl
  generalize fndS n.attrs s = R1 at *
  generalize hasA n s = R2 at *
  obtain ⟨p, c, rfl, hxx⟩ := hv
  clear hxx
  generalize n.name = n0 at *
  generalize n.text = n1 at *
  generalize n.parent = n3 at *
  generalize n.attrs.length = n5 at *
  go_enter Tryz.func111, Tryz.ntmps111
  go_wp2_with fail
  refine HC.out.mono ?_
  rintro e w1 ⟨rfl, b1⟩
  go_wp2_with fail
  go_ret
  exact ⟨rfl, chain B0.out b1⟩
/-- A function value that answers a question of kinds. -/
structure SuchF (g : Nat) (q : Int → Bool) : Prop where
  ent : ∀ args w, (callFunc g args).run Tryz.prog w = .ok (.enter g args) w
  ans : ∀ (k : Int) (W : World), Calls Tryz.prog g #[.int .i64 k] W fun e w' => e = .returned (.bool (q k)) ∧ w' = W
theorem suListed : SuchF 123 listB := ⟨Go.Proofs.enters_of Tryz.func123 (by kernel_rfl) rfl, listed_any⟩
theorem suFires : SuchF 81 fireB := ⟨Go.Proofs.enters_of Tryz.func81 (by kernel_rfl) rfl, fires_any⟩
set_option maxHeartbeats 4000000 in
theorem owisForm_any (k : Int) (w : World) :
    Calls Tryz.prog 120 #[.int .i64 k] w fun e w' => e = .returned (.bool (is30 k)) ∧ w' = w := by
  go_enter Tryz.func120, Tryz.ntmps120
  go_wp2_with fail
  go_ret
  exact ⟨rfl, rfl⟩
theorem suisForm : SuchF 120 is30 := ⟨Go.Proofs.enters_of Tryz.func120 (by kernel_rfl) rfl, owisForm_any⟩
set_option maxHeartbeats 4000000 in
theorem owisLegend_any (k : Int) (w : World) :
    Calls Tryz.prog 113 #[.int .i64 k] w fun e w' => e = .returned (.bool (is34 k)) ∧ w' = w := by
  go_enter Tryz.func113, Tryz.ntmps113
  go_wp2_with fail
  go_ret
  exact ⟨rfl, rfl⟩
theorem suisLegend : SuchF 113 is34 := ⟨Go.Proofs.enters_of Tryz.func113 (by kernel_rfl) rfl, owisLegend_any⟩
set_option maxHeartbeats 4000000 in
theorem owisFieldset_any (k : Int) (w : World) :
    Calls Tryz.prog 115 #[.int .i64 k] w fun e w' => e = .returned (.bool (is29 k)) ∧ w' = w := by
  go_enter Tryz.func115, Tryz.ntmps115
  go_wp2_with fail
  go_ret
  exact ⟨rfl, rfl⟩
theorem suisFieldset : SuchF 115 is29 := ⟨Go.Proofs.enters_of Tryz.func115 (by kernel_rfl) rfl, owisFieldset_any⟩
set_option maxHeartbeats 4000000 in
theorem owbelongs_any (k : Int) (w : World) :
    Calls Tryz.prog 116 #[.int .i64 k] w fun e w' => e = .returned (.bool (belK k)) ∧ w' = w := by
  have HC := hide (listed_any k w)
  unfold belK
  generalize listB k = Bk0 at *
  cases Bk0 with
  | true =>
    go_enter Tryz.func116, Tryz.ntmps116
    go_wp2_with fail
    refine HC.out.mono ?_
    rintro e w1 ⟨rfl, hu⟩
    obtain rfl : w = w1 := hu.symm
    go_wp2_with fail
    go_ret
    exact ⟨rfl, rfl⟩
  | false =>
    go_enter Tryz.func116, Tryz.ntmps116
    go_wp2_with fail
    refine HC.out.mono ?_
    rintro e w1 ⟨rfl, hu⟩
    obtain rfl : w = w1 := hu.symm
    go_wp2_with fail
    go_ret
    exact ⟨rfl, rfl⟩
theorem subelongs : SuchF 116 belK := ⟨Go.Proofs.enters_of Tryz.func116 (by kernel_rfl) rfl, owbelongs_any⟩
set_option maxHeartbeats 4000000 in
theorem owcanBeDisabled_any (k : Int) (w : World) :
    Calls Tryz.prog 109 #[.int .i64 k] w fun e w' => e = .returned (.bool (disK k)) ∧ w' = w := by
  have HC := hide (submits_any k w)
  unfold disK
  generalize subB k = Bk0 at *
  cases Bk0 with
  | true =>
    go_enter Tryz.func109, Tryz.ntmps109
    go_wp2_with fail
    refine HC.out.mono ?_
    rintro e w1 ⟨rfl, hu⟩
    obtain rfl : w = w1 := hu.symm
    go_wp2_with fail
    go_ret
    exact ⟨rfl, rfl⟩
  | false =>
    go_enter Tryz.func109, Tryz.ntmps109
    go_wp2_with fail
    refine HC.out.mono ?_
    rintro e w1 ⟨rfl, hu⟩
    obtain rfl : w = w1 := hu.symm
    go_wp2_with fail
    go_ret
    exact ⟨rfl, rfl⟩
theorem sucanBeDisabled : SuchF 109 disK := ⟨Go.Proofs.enters_of Tryz.func109 (by kernel_rfl) rfl, owcanBeDisabled_any⟩
set_option maxHeartbeats 4000000 in
theorem owIsOf_any (v : Value) (l : List Nd) (id : Int) (g : Nat) (q : Int → Bool) (hs : SuchF g q) (w : World) (hv : NodesV w v l) (hz : DocSz l) (hT : KTabs w) :
    Calls Tryz.prog 108 #[v, .int .i64 id, .func (.func g) #[] #[]] w fun e w' => e = .returned (.bool (okB l q id)) ∧ Below w.heap.size w w' := by
  obtain ⟨p, c, rfl⟩ := nds_formW hv
  have eg := hs.ent
  by_cases h0 : 0 ≤ id
  · by_cases h1 : id < (l.length : Int)
    · obtain ⟨m, rfl⟩ : ∃ m : Nat, id = (m : Int) := ⟨id.toNat, by omega⟩
      have hm : m < l.length := by omega
      obtain ⟨b, o, va, pk, nk, ck, rfl, N⟩ := node_ofW hv hm
      have nz := hz.nds _ (List.getElem_mem hm)
      have HO := hide (of_any l[m] va (.slice pk nk ck) w hT N.at_ nz.attrs nz.tx)
      have HS := hide (fun W => hs.ans (kOf l[m].name (tyOf l[m].attrs)) W)
      have E : Hid (okB l q (m : Int) = q (kOf l[m].name (tyOf l[m].attrs))) := ok_at hm
      obtain ⟨pa, ca, rfl, hxx⟩ := N.at_
      clear hxx
      have c0 := N.name
      have c1 := N.text
      have c2 := N.attrs
      have c3 := N.parent
      have c4 := N.kids
      clear N hv hz hT nz hs
      generalize q (kOf l[m].name (tyOf l[m].attrs)) = R at *
      generalize kOf l[m].name (tyOf l[m].attrs) = kk at *
      generalize l[m].name = n0 at *
      generalize l[m].text = n1 at *
      generalize l[m].parent = n3 at *
      generalize l[m].attrs.length = n5 at *
      go_enter Tryz.func108, Tryz.ntmps108
      go_wp2_with fail
      refine HO.out.mono ?_
      rintro e w1 ⟨rfl, b1⟩
      go_wp2_with fail
      refine (HS.out _).mono ?_
      rintro e w2 ⟨rfl, hu⟩
      obtain rfl : w1 = w2 := hu.symm
      go_wp2_with fail
      go_ret
      exact ⟨ret_bool E.out.symm, b1⟩
    · have E := hide (ok_out (l := l) (q := q) (id := id) (fun t => h1 t.2))
      have d1 : decide (id < (l.length : Int)) = false := decide_eq_false h1
      clear hv hz hT hs
      go_enter Tryz.func108, Tryz.ntmps108
      go_wp2_with fail
      go_ret
      exact ⟨ret_bool E.out.symm, Below.refl _ _⟩
  · have E := hide (ok_out (l := l) (q := q) (id := id) (fun t => h0 t.1))
    have d0 : decide (0 ≤ id) = false := decide_eq_false h0
    clear hv hz hT hs
    go_enter Tryz.func108, Tryz.ntmps108
    go_wp2_with fail
    go_ret
    exact ⟨ret_bool E.out.symm, Below.refl _ _⟩
set_option maxHeartbeats 4000000 in
theorem owFirstOf_any (v vk : Value) (l : List Nd) (ks : List Int) (g : Nat) (q : Int → Bool) (hs : SuchF g q) (w : World) (hv : NodesV w v l) (hk : IntsV w vk ks) (hz : DocSz l) (hT : KTabs w) (hl : ks.length ≤ 17592186044416) :
    Calls Tryz.prog 112 #[v, vk, .func (.func g) #[] #[]] w fun e w' => e = .returned (.int .i64 (firB l q ks)) ∧ Below w.heap.size w w' := by
  have HI := hide (fun id W (hb : Below w.heap.size w W) => owIsOf_any v l id g q hs W (hv.below hb) hz (hT.below hb))
  have IV := hide hk
  obtain ⟨p, c, rfl⟩ := nds_formW hv
  obtain ⟨pk, ck, rfl, _⟩ := hk
  obtain ⟨RES, hRES⟩ : ∃ R : Int, firB l q ks = R := ⟨_, rfl⟩
  have EL : Hid (RES = (ks.find? (okB l q)).getD (-1)) := hRES.symm
  rw [hRES]
  clear hRES hv hz hT hs
  go_enter Tryz.func112, Tryz.ntmps112
  go_wp2_with fail
  go_loopw [11] (fun iv wr => ∃ k : Nat, k ≤ ks.length ∧ iv = .int .i64 k ∧ Hid (RES = ((ks.drop k).find? (okB l q)).getD (-1)) ∧ Hid (Below w.heap.size w wr)) (fun iv _ => ks.length - (intOf iv).toNat)
  case atStart => exact ⟨0, Nat.zero_le _, rfl, by show _ = _; rw [List.drop_zero]; exact EL.out, Below.refl _ _⟩
  case round =>
    rename World => wr
    obtain ⟨k, hk, rfl, HE, BW⟩ := hrel
    by_cases g : k < ks.length
    · have k1 : (k : Int) < (ks.length : Int) := by omega
      have k0 : (0 : Int) ≤ (k : Int) := by omega
      obtain ⟨pa', ca', eva, hav⟩ := IV.out.below BW.out
      cases eva
      rcases hav with hav | ⟨b2, o2, rfl, hav⟩
      · rw [hav] at g; simp at g
      have x0 := hav k g
      have FN := hide (find_noW (p := okB l q) g)
      have FY := hide (find_yesW (p := okB l q) g)
      have HQ := hide (HI.out ks[k] wr BW.out)
      clear hav HI EL
      cases lb : okB l q ks[k] with
      | false =>
        have E1 : Hid (RES = ((ks.drop (k + 1)).find? (okB l q)).getD (-1)) := by show _ = _; rw [HE.out, FN.out lb]
        rw [lb] at HQ
        clear FN FY HE lb
        generalize ks[k] = z at *
        go_wp2_with fail
        refine HQ.out.mono ?_
        rintro e w1 ⟨rfl, b1⟩
        go_wp2_with fail
        go_round
        case rel => exact ⟨k + 1, by omega, by go_num, E1, chain BW.out b1⟩
        case measure => simp [intOf]; omega
      | true =>
        have E1 : Hid (RES = ks[k]) := by show _ = _; rw [HE.out, FY.out lb]; rfl
        rw [lb] at HQ
        clear FN FY HE lb
        generalize ks[k] = z at *
        go_wp2_with fail
        refine HQ.out.mono ?_
        rintro e w1 ⟨rfl, b1⟩
        go_wp2_with fail
        go_ret
        exact ⟨ret_int E1.out.symm, chain BW.out b1⟩
    · obtain rfl : k = ks.length := by omega
      have E1 : Hid (RES = -1) := by show _ = _; rw [HE.out, List.drop_length]; rfl
      clear HI EL HE
      go_wp2_with fail
      go_ret
      exact ⟨ret_int E1.out.symm, BW.out⟩
set_option maxHeartbeats 4000000 in
theorem owIsRooted_any (v : Value) (l : List Nd) (m0 : Nat) (w : World) (hv : NodesV w v l) (hR : Right l) (h0 : m0 < l.length) :
    Calls Tryz.prog 173 #[v, .int .i64 (m0 : Int)] w fun e w' => e = .returned (.bool (topP l (m0 : Int) == 0)) ∧ Below w.heap.size w w' := by
  obtain ⟨p, c, rfl⟩ := nds_formW hv
  obtain ⟨T, hT⟩ : ∃ T, Hid (topP l (m0 : Int) = T) := ⟨_, show topP l (m0 : Int) = _ from rfl⟩
  rw [hT.out]
  have HRt := hide hR
  have HC := hide (fun m hm => node_ofW hv (m := m) hm)
  clear hR hv
  go_enter Tryz.func173, Tryz.ntmps173
  go_wp2_with fail
  go_loop [1] (fun kv => ∃ m : Nat, kv = .int .i64 (m : Int) ∧ m < l.length ∧ Hid (topP l (m : Int) = T)) (fun kv => hgt l (intOf kv))
  case atStart => exact ⟨m0, rfl, h0, hT⟩
  case round =>
    obtain ⟨m, rfl, hm, hc⟩ := hrel
    clear hT
    have he := HRt.out.ende (show (m : Int) < (l.length : Int) by omega)
    have HH := hide (hgt_up he (by omega))
    have pb := HRt.out.par m hm
    rw [nd_at hm] at pb
    rw [parI_nat hm] at HH
    obtain ⟨b, o, va, pk, nk, ck, rfl, N0⟩ := HC.out m hm
    have a3 := N0.parent
    have m1 : (m : Int) < (l.length : Int) := by omega
    have m0' : (0 : Int) ≤ (m : Int) := by omega
    by_cases q1 : l[m].parent = -1
    · have f1 : (l[m].parent != -1) = false := by rw [q1]; rfl
      have f2 : (l[m].parent == -1) = true := by rw [q1]; rfl
      have E2 : Hid (T = (m : Int)) := by show _ = _; rw [← hc.out]; exact topP_root HRt.out hm q1
      clear q1 hc he HH pb N0 HC
      generalize l[m].parent = pm at *
      go_wp2_with fail
      go_ret
      exact ⟨by rw [E2.out]; rfl, Below.refl _ _⟩
    · have f1 : (l[m].parent != -1) = true := by rw [bne_iff_ne]; exact q1
      have f2 : (l[m].parent == -1) = false := by rw [beq_eq_false_iff_ne]; exact q1
      obtain ⟨n, en⟩ : ∃ n : Nat, l[m].parent = (n : Int) := ⟨l[m].parent.toNat, by omega⟩
      have hn : n < l.length := by omega
      have HC1 : Hid (topP l (n : Int) = T) := by show _ = _; rw [topP_up HRt.out hm en]; exact hc.out
      rw [en] at a3 f1 f2 HH
      clear q1 hc he pb N0 en HC
      go_wp2_with fail
      go_round
      case rel => exact ⟨n, rfl, hn, HC1⟩
      case measure => have := HH.out; show hgt l (n : Int) < hgt l (m : Int); omega
set_option maxHeartbeats 4000000 in
theorem owAbove_any (v : Value) (l : List Nd) (m0 : Nat) (g : Nat) (q : Int → Bool) (hs : SuchF g q) (g2 : Nat) (lb : Array Value) (eg2 : ∀ args w, (callFunc g2 args).run Tryz.prog w = .ok (.enter g2 args) w) (h : Int → Int → Bool) (w : World) (hh : ∀ (a b : Nat), a < l.length → b < l.length → ∀ W, Below w.heap.size w W → Calls Tryz.prog g2 (#[.int .i64 (a : Int), .int .i64 (b : Int)] ++ lb) W fun e w' => e = .returned (.bool (h a b)) ∧ Below W.heap.size W w') (hv : NodesV w v l) (hz : DocSz l) (hT : KTabs w) (hR : Right l) (h0 : m0 < l.length) :
    Calls Tryz.prog 114 #[v, .int .i64 (m0 : Int), .func (.func g) #[] #[], .func (.func g2) #[] lb] w fun e w' => e = .returned (.int .i64 (abvP l q h (m0 : Int))) ∧ Below w.heap.size w w' := by
  have HI := hide (fun id W (hb : Below w.heap.size w W) => owIsOf_any v l id g q hs W (hv.below hb) hz (hT.below hb))
  have HH := hide hh
  have HRt := hide hR
  have HC := hide (fun m hm W (hb : Below w.heap.size w W) => by
    obtain ⟨p, c, e⟩ := nds_formW hv
    have := hv.below hb
    rw [e] at this
    exact (⟨p, c, e, node_ofW (m := m) this hm⟩ : ∃ p c, v = .slice p l.length c ∧ ∃ b o va pk nk ck, p = some ⟨b, o, none⟩ ∧ NodeAt W b (o + m * 5) l[m] va (.slice pk nk ck)))
  obtain ⟨p, c, rfl⟩ := nds_formW hv
  obtain ⟨RES, hRES⟩ : ∃ R : Int, abvP l q h (m0 : Int) = R := ⟨_, rfl⟩
  rw [hRES]
  have EL : Hid (abvP l q h (m0 : Int) = RES) := hRES
  obtain ⟨p', c', e', b, o, va, pk, nk, ck, rfl, N0⟩ := HC.out m0 h0 w (Below.refl _ _)
  cases e'
  have a3 := N0.parent
  have m1 : (m0 : Int) < (l.length : Int) := by omega
  have m0' : (0 : Int) ≤ (m0 : Int) := by omega
  have P0 : Hid (parI l (m0 : Int) = l[m0].parent) := parI_nat h0
  clear hh hRES hv hz hT hs hR N0
  generalize l[m0].parent = pr0 at *
  go_enter Tryz.func114, Tryz.ntmps114
  go_wp2_with fail
  go_step3
  go_wp2_with fail
  go_step3
  go_wp2_with fail
  go_loopw [9, 10] (fun av bv wr => ∃ m : Nat, m < l.length ∧ bv = .int .i64 (m : Int) ∧ av = .int .i64 (parI l (m : Int)) ∧ Hid (abvP l q h (m : Int) = RES) ∧ Hid (Below w.heap.size w wr)) (fun av bv _ => hgt l (intOf bv))
  case atStart => exact ⟨m0, h0, rfl, by rw [P0.out], EL, Below.refl _ _⟩
  case round =>
    rename World => wr
    obtain ⟨m, hm, rfl, rfl, HE, BW⟩ := hrel
    have he := HRt.out.ende (show (m : Int) < (l.length : Int) by omega)
    have HHg := hide (hgt_up he (by omega))
    have pb := HRt.out.par m hm
    rw [nd_at hm] at pb
    have pI : parI l (m : Int) = l[m].parent := parI_nat hm
    rw [← pI] at pb
    by_cases q1 : parI l (m : Int) = -1
    · have E1 : Hid (RES = -1) := by show _ = _; rw [← HE.out]; exact abv_top he (by omega) (by omega)
      have f2 : (parI l (m : Int) == -1) = true := by rw [q1]; rfl
      clear HI HH HC HE EL P0 pI pb HHg he
      rw [q1]
      clear q1 f2
      go_wp2_with fail
      try rw [Exit.noGoto_ret]
      go_ret
      exact ⟨ret_int E1.out.symm, BW.out⟩
    · obtain ⟨n, en⟩ : ∃ n : Nat, parI l (m : Int) = (n : Int) := ⟨(parI l (m : Int)).toNat, by omega⟩
      have hn : n < l.length := by omega
      have f2 : ((n : Int) == -1) = false := by rw [beq_eq_false_iff_ne]; omega
      have f3 : ¬ (n : Int) = -1 := by omega
      have HQ := hide (HI.out (n : Int) wr BW.out)
      obtain ⟨p2, c2, e2, b2, o2, va2, pk2, nk2, ck2, ep, N2⟩ := HC.out n hn wr BW.out
      cases e2
      cases ep
      have n0 : (0 : Int) ≤ (n : Int) := by omega
      have n1 : (n : Int) < (l.length : Int) := by omega
      have P2 : Hid (parI l (n : Int) = l[n].parent) := parI_nat hn
      have MS : Hid (hgt l (n : Int) < hgt l (m : Int)) := by have := HHg.out; rw [en] at this; show _ < _; omega
      have HIT : Hid (okB l q (n : Int) = true → h (n : Int) (m : Int) = true → RES = (n : Int)) := fun t1 t2 => by rw [← HE.out, ← en]; exact abv_hit he (by omega) (by rw [en]; exact t1) (by rw [en]; exact t2)
      have UP : Hid ((okB l q (n : Int) && h (n : Int) (m : Int)) = false → abvP l q h (n : Int) = RES) := fun t => by rw [← HE.out, ← en]; exact abv_up he (by omega) (by rw [en]; exact t)
      rw [en]
      have HHn := hide (fun W hb => HH.out n m hn hm W hb)
      clear HI HH HC HE EL P0 pI pb HHg he q1 en
      cases ok : okB l q (n : Int) with
      | false =>
        rw [ok] at HQ
        have UPn := hide (UP.out (by rw [ok]; rfl))
        clear HIT UP ok
        go_wp2_with fail
        refine HQ.out.mono ?_
        rintro e w1 ⟨rfl, b1⟩
        have a5 := (N2.below b1).parent
        go_wp2_with fail
        go_round
        case rel => exact ⟨n, hn, rfl, by rw [P2.out], UPn, chain BW.out b1⟩
        case measure => exact MS.out
      | true =>
        rw [ok] at HQ
        cases hd : h (n : Int) (m : Int) with
        | true =>
          rw [hd] at HHn
          have R1 := hide (HIT.out ok hd)
          clear HIT UP ok hd
          go_wp2_with fail
          refine HQ.out.mono ?_
          rintro e w1 ⟨rfl, b1⟩
          go_wp2_with fail
          refine (HHn.out _ (chain BW.out b1)).mono ?_
          rintro e w2 ⟨rfl, b2⟩
          go_wp2_with fail
          try rw [Exit.noGoto_ret]
          go_ret
          exact ⟨ret_int R1.out.symm, chain (chain BW.out b1) b2⟩
        | false =>
          rw [hd] at HHn
          have UPn := hide (UP.out (by rw [ok, hd]; rfl))
          clear HIT UP ok hd
          go_wp2_with fail
          refine HQ.out.mono ?_
          rintro e w1 ⟨rfl, b1⟩
          go_wp2_with fail
          refine (HHn.out _ (chain BW.out b1)).mono ?_
          rintro e w2 ⟨rfl, b2⟩
          have a5 := ((N2.below b1).below b2).parent
          go_wp2_with fail
          go_round
          case rel => exact ⟨n, hn, rfl, by rw [P2.out], UPn, chain (chain BW.out b1) b2⟩
          case measure => exact MS.out
end Go.Proofs.YtnojgejcmaajmaaGreatDoor

namespace Go.Proofs.YtnojgejcmaajmaaGreatDoor
open Go.RowKit
set_option maxRecDepth 100000
set_option maxHeartbeats 8000000 in
theorem sbBlocks_any (v : Value) (l : List Nd) (m : Nat) (w : World) (hv : NodesV w v l) (hz : DocSz l) (hT : KTabs w) (hm : m < l.length) :
    Calls Tryz.prog 57 #[v, .int .i64 (m : Int)] w fun e w' => e = .returned (.bool (blockB (kI l (m : Int)))) ∧ Below w.heap.size w w' := by
  obtain ⟨p, c, rfl⟩ := nds_formW hv
  obtain ⟨b, o, va, pk, nk, ck, rfl, N⟩ := node_ofW hv hm
  have nz := hz.nds _ (List.getElem_mem hm)
  have HO := hide (fun W (hb : Below w.heap.size w W) => of_any l[m] va (.slice pk nk ck) W (hT.below hb) (N.at_.below hb) nz.attrs nz.tx)
  have EK : kOf l[m].name (tyOf l[m].attrs) = kI l (m : Int) := by unfold kI kN; rw [Int.toNat_natCast, nd_at hm]
  rw [EK] at HO
  clear EK
  obtain ⟨pa, ca, rfl, hxx⟩ := N.at_
  clear hxx
  have c0 := hide N.name
  have c1 := hide N.text
  have c2 := hide N.attrs
  have c3 := hide N.parent
  have c4 := hide N.kids
  have m0 : (0 : Int) ≤ (m : Int) := by omega
  have m1 : (m : Int) < (l.length : Int) := by omega
  clear N nz
  have HS := hide (fun W => blocks_any (kI l (m : Int)) W)
  clear hv hz hT
  generalize blockB (kI l (m : Int)) = R at *
  generalize kI l (m : Int) = kk at *
  generalize l[m].name = n0 at *
  generalize l[m].text = n1 at *
  generalize l[m].parent = n3 at *
  generalize l[m].attrs.length = n5 at *
  have u0 := cell_below c0.out (Below.refl _ w)
  have u1 := cell_below c1.out (Below.refl _ w)
  have u2 := cell_below c2.out (Below.refl _ w)
  have u3 := cell_below c3.out (Below.refl _ w)
  have u4 := cell_below c4.out (Below.refl _ w)
  go_enter Tryz.func57, Tryz.ntmps57
  go_wp2_with fail
  refine (HO.out _ (Below.refl _ _)).mono ?_
  rintro e w2 ⟨rfl, b2⟩
  go_wp2_with fail
  refine (HS.out _).mono ?_
  rintro e w3 ⟨rfl, hu⟩
  obtain rfl : w2 = w3 := hu.symm
  go_wp2_with fail
  go_ret
  exact ⟨rfl, b2⟩

end Go.Proofs.YtnojgejcmaajmaaGreatDoor
