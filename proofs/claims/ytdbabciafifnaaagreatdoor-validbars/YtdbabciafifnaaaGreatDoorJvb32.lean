/- The program's find, has, the questions of kinds, isOf, firstOf, isRooted, above of layer 16. The program's Form, Elements, Default, Control, Disabled of layer 16. -/
import Derived.Test.YtdbabciafifnaaaGreatDoorJvb17
import Derived.Test.YtdbabciafifnaaaGreatDoorJvb23
import Derived.Test.YtdbabciafifnaaaGreatDoorJvb27
import Derived.Test.YtdbabciafifnaaaGreatDoorJvb28
import Derived.WalkMore
import Derived.Laws.CopyRow
import Derived.Laws.EntriesVeiled

namespace Go.Proofs.YtdbabciafifnaaaGreatDoor
open Go.RowKit
set_option maxRecDepth 100000
/-- A node that lies in the world, told by its number. -/
theorem node_ofW {w : World} {p : Option Addr} {c : Nat} {l : List Nd} (hv : NodesV w (.slice p l.length c) l) {m : Nat} (hm : m < l.length) : ∃ b o va pk nk ck, p = some ⟨b, o, none⟩ ∧ NodeAt w b (o + m * 5) l[m] va (.slice pk nk ck) := by
  obtain ⟨p', c', e, h⟩ := hv
  cases e
  rcases h with h | ⟨b, o, rfl, h⟩
  · rw [h] at hm; cases hm
  · obtain ⟨va, vk, N⟩ := h m hm
    obtain ⟨pk, ck, rfl, _⟩ := N.ks
    exact ⟨b, o, va, pk, _, ck, rfl, N⟩
theorem nds_formW {w : World} {v : Value} {l : List Nd} (h : NodesV w v l) : ∃ p c, v = .slice p l.length c := by
  obtain ⟨p, c, e, _⟩ := h; exact ⟨p, c, e⟩
theorem ret_fndW {a b : ByteArray} {c d : Bool} (h : a = b) (g : c = d) : Ending.returned (.tuple #[.string a, .bool c]) = .returned (.tuple #[.string b, .bool d]) := by rw [h, g]
set_option maxHeartbeats 4000000 in
theorem owFind1_any (s : ByteArray) (B : Nat) (x : ByteArray × ByteArray) (W : World) (hc : W.cell? ⟨B, 0, none⟩ = some (.string s)) :
    Calls Tryz.prog 187 #[.agg #[.string x.1, .string x.2], .pointer (some ⟨B, 0, none⟩)] W fun e w' => e = .returned (.bool (isN s x)) ∧ Below W.heap.size W w' := by
  have hB := World.block_lt_of_cell? _ _ hc
  have hne : B ≠ W.heap.size := by have : B < W.heap.size := hB; omega
  have E := hide (txt_beq x.1 s)
  unfold isN
  generalize x.1 = a at *
  generalize x.2 = b at *
  generalize hR : decide (a = s) = R at *
  clear hR
  go_enter Tryz.func187, Tryz.ntmps187
  go_wp2_with fail
  go_ret
  exact ⟨ret_bool E.out, (Below.refl _ W).alloc (Nat.le_refl _) _⟩
theorem entersOwFind : ∀ args w, (callFunc 187 args).run Tryz.prog w = .ok (.enter 187 args) w := Go.Proofs.enters_of Tryz.func187 (by kernel_rfl) rfl
set_option maxHeartbeats 4000000 in
theorem owFind_any (n : Nd) (va : Value) (pk : Option Addr) (nk ck : Nat) (s : ByteArray) (w : World) (hv : AttrsV w va n.attrs) (hl : n.attrs.length ≤ 4398046511104) :
    Calls Tryz.prog 141 #[.agg #[.string n.name, .string n.text, va, .int .i64 n.parent, .slice pk nk ck], .string s] w fun e w' => e = .returned (.tuple #[.string (fndS n.attrs s), .bool (hasA n s)]) ∧ Below w.heap.size w w' := by
  have B0 : Hid (Below w.heap.size w ((w.alloc (.cells #[.string n.name, .string n.text, va, .int .i64 n.parent, .slice pk nk ck] 38)).alloc (.cells #[.string s] 9))) := ((Below.refl _ w).alloc (Nat.le_refl _) _).alloc (by simp) _
  have PR : PredA 187 #[.pointer (some ⟨w.heap.size + 1, 0, none⟩)] (isN s) ((w.alloc (.cells #[.string n.name, .string n.text, va, .int .i64 n.parent, .slice pk nk ck] 38)).alloc (.cells #[.string s] 9)) := fun W x hb =>
    owFind1_any s (w.heap.size + 1) x W ((hb.cell (by simp)).trans (by simp))
  have HC := hide (indexFuncA_any va n.attrs (isN s) 187 #[.pointer (some ⟨w.heap.size + 1, 0, none⟩)] entersOwFind ((w.alloc (.cells #[.string n.name, .string n.text, va, .int .i64 n.parent, .slice pk nk ck] 38)).alloc (.cells #[.string s] 9)) (hv.below B0.out) PR hl)
  have HIT := hide (fun k hk (h : n.attrs.findIdx? (isN s) = some k) => fnd_hit (ax := n.attrs) (n := s) (k := k) hk h)
  have MISS := hide (fun (h : n.attrs.findIdx? (isN s) = none) => fnd_miss (ax := n.attrs) (n := s) h)
  clear PR
  unfold hasA
  obtain ⟨p, c, rfl, hk⟩ := hv
  generalize fndS n.attrs s = R1 at *
  generalize (findA n.attrs s).isSome = R2 at *
  generalize n.name = n0 at *
  generalize n.text = n1 at *
  generalize n.parent = n3 at *
  generalize n.attrs = ax at *
  cases h : ax.findIdx? (isN s) with
  | none =>
    have E := hide (MISS.out h)
    rw [h, show findV none = -1 from rfl] at HC
    clear hk HIT MISS h
    go_enter Tryz.func141, Tryz.ntmps141
    go_wp2_with fail
    refine HC.out.mono ?_
    rintro e w1 ⟨rfl, b1⟩
    go_wp2_with fail
    go_ret2
    exact ⟨ret_fndW E.out.1.symm E.out.2.symm, chain B0.out b1⟩
  | some i =>
    obtain ⟨hi, _, _⟩ := List.findIdx?_eq_some_iff_getElem.1 h
    have E := hide (HIT.out i hi h)
    rw [h, show findV (some i) = (i : Int) from rfl] at HC
    have i0 : (0 : Int) ≤ (i : Int) := by omega
    have i1 : (i : Int) < (ax.length : Int) := by omega
    have i2 : ¬ (i : Int) < 0 := by omega
    obtain ⟨b, o, rfl, hc⟩ : ∃ b o, p = some ⟨b, o, none⟩ ∧ ∀ i (h : i < ax.length), w.cell? ⟨b, o + i * 2, none⟩ = some (.string ax[i].1) ∧ w.cell? ⟨b, o + i * 2 + 1, none⟩ = some (.string ax[i].2) := by
      rcases hk with t | t
      · rw [t] at hi; simp at hi
      · exact t
    have c1 := hide (hc i hi).2
    have CN := hide (show ((w.alloc (.cells #[.string n0, .string n1, .slice (some ⟨b, o, none⟩) ax.length c, .int .i64 n3, .slice pk nk ck] 38)).alloc (.cells #[.string s] 9)).cell? ⟨w.heap.size, 2, none⟩ = some (.slice (some ⟨b, o, none⟩) ax.length c) by simp)
    clear hc HIT MISS h
    generalize ax[i].2 = t at *
    go_enter Tryz.func141, Tryz.ntmps141
    go_wp2_with fail
    refine HC.out.mono ?_
    rintro e w1 ⟨rfl, b1⟩
    have y1 := cell_below (cell_below c1.out B0.out) b1
    have y2 := cell_below CN.out b1
    go_wp2_with fail
    go_ret2
    exact ⟨ret_fndW E.out.1.symm E.out.2.symm, chain B0.out b1⟩
set_option maxHeartbeats 4000000 in
theorem owHas_any (n : Nd) (va : Value) (pk : Option Addr) (nk ck : Nat) (s : ByteArray) (w : World) (hv : AttrsV w va n.attrs) (hl : n.attrs.length ≤ 4398046511104) :
    Calls Tryz.prog 96 #[.agg #[.string n.name, .string n.text, va, .int .i64 n.parent, .slice pk nk ck], .string s] w fun e w' => e = .returned (.bool (hasA n s)) ∧ Below w.heap.size w w' := by
  have B0 : Hid (Below w.heap.size w (w.alloc (.cells #[.string n.name, .string n.text, va, .int .i64 n.parent, .slice pk nk ck] 38))) := (Below.refl _ w).alloc (Nat.le_refl _) _
  have HC := hide (owFind_any n va pk nk ck s (w.alloc (.cells #[.string n.name, .string n.text, va, .int .i64 n.parent, .slice pk nk ck] 38)) (hv.below B0.out) hl)
  clear hl
  generalize fndS n.attrs s = R1 at *
  generalize hasA n s = R2 at *
  obtain ⟨p, c, rfl, hxx⟩ := hv
  clear hxx
  generalize n.name = n0 at *
  generalize n.text = n1 at *
  generalize n.parent = n3 at *
  generalize n.attrs.length = n5 at *
  go_enter Tryz.func96, Tryz.ntmps96
  go_wp2_with fail
  refine HC.out.mono ?_
  rintro e w1 ⟨rfl, b1⟩
  go_wp2_with fail
  go_ret
  exact ⟨rfl, chain B0.out b1⟩
/-- A function value that answers a question of kinds. -/
structure SuchF (g : Nat) (q : Int → Bool) : Prop where
  ent : ∀ args w, (callFunc g args).run Tryz.prog w = .ok (.enter g args) w
  ans : ∀ (k : Int) (W : World), Calls Tryz.prog g #[.int .i64 k] W fun e w' => e = .returned (.bool (q k)) ∧ w' = W
set_option maxHeartbeats 4000000 in
theorem owisLegend_any (k : Int) (w : World) :
    Calls Tryz.prog 98 #[.int .i64 k] w fun e w' => e = .returned (.bool (is34 k)) ∧ w' = w := by
  go_enter Tryz.func98, Tryz.ntmps98
  go_wp2_with fail
  go_ret
  exact ⟨rfl, rfl⟩
theorem suisLegend : SuchF 98 is34 := ⟨Go.Proofs.enters_of Tryz.func98 (by kernel_rfl) rfl, owisLegend_any⟩
set_option maxHeartbeats 4000000 in
theorem owisFieldset_any (k : Int) (w : World) :
    Calls Tryz.prog 100 #[.int .i64 k] w fun e w' => e = .returned (.bool (is29 k)) ∧ w' = w := by
  go_enter Tryz.func100, Tryz.ntmps100
  go_wp2_with fail
  go_ret
  exact ⟨rfl, rfl⟩
theorem suisFieldset : SuchF 100 is29 := ⟨Go.Proofs.enters_of Tryz.func100 (by kernel_rfl) rfl, owisFieldset_any⟩
set_option maxHeartbeats 4000000 in
theorem owcanBeDisabled_any (k : Int) (w : World) :
    Calls Tryz.prog 94 #[.int .i64 k] w fun e w' => e = .returned (.bool (disK k)) ∧ w' = w := by
  have HC := hide (submits_any k w)
  unfold disK
  generalize subB k = Bk0 at *
  cases Bk0 with
  | true =>
    go_enter Tryz.func94, Tryz.ntmps94
    go_wp2_with fail
    refine HC.out.mono ?_
    rintro e w1 ⟨rfl, hu⟩
    obtain rfl : w = w1 := hu.symm
    go_wp2_with fail
    go_ret
    exact ⟨rfl, rfl⟩
  | false =>
    go_enter Tryz.func94, Tryz.ntmps94
    go_wp2_with fail
    refine HC.out.mono ?_
    rintro e w1 ⟨rfl, hu⟩
    obtain rfl : w = w1 := hu.symm
    go_wp2_with fail
    go_ret
    exact ⟨rfl, rfl⟩
theorem sucanBeDisabled : SuchF 94 disK := ⟨Go.Proofs.enters_of Tryz.func94 (by kernel_rfl) rfl, owcanBeDisabled_any⟩
set_option maxHeartbeats 4000000 in
theorem owIsOf_any (v : Value) (l : List Nd) (id : Int) (g : Nat) (q : Int → Bool) (hs : SuchF g q) (w : World) (hv : NodesV w v l) (hz : DocSz l) (hT : KTabs w) :
    Calls Tryz.prog 93 #[v, .int .i64 id, .func (.func g) #[] #[]] w fun e w' => e = .returned (.bool (okB l q id)) ∧ Below w.heap.size w w' := by
  obtain ⟨p, c, rfl⟩ := nds_formW hv
  have eg := hs.ent
  by_cases h0 : 0 ≤ id
  · by_cases h1 : id < (l.length : Int)
    · obtain ⟨m, rfl⟩ : ∃ m : Nat, id = (m : Int) := ⟨id.toNat, by omega⟩
      have hm : m < l.length := by omega
      obtain ⟨b, o, va, pk, nk, ck, rfl, N⟩ := node_ofW hv hm
      have nz := hz.nds _ (List.getElem_mem hm)
      have HO := hide (of_any l[m] va (.slice pk nk ck) w hT N.at_ nz.attrs nz.tx)
      have HS := hide (fun W => hs.ans (kOf l[m].name (tyOf l[m].attrs)) W)
      have E : Hid (okB l q (m : Int) = q (kOf l[m].name (tyOf l[m].attrs))) := ok_at hm
      obtain ⟨pa, ca, rfl, hxx⟩ := N.at_
      clear hxx
      have c0 := N.name
      have c1 := N.text
      have c2 := N.attrs
      have c3 := N.parent
      have c4 := N.kids
      clear N hv hz hT nz hs
      generalize q (kOf l[m].name (tyOf l[m].attrs)) = R at *
      generalize kOf l[m].name (tyOf l[m].attrs) = kk at *
      generalize l[m].name = n0 at *
      generalize l[m].text = n1 at *
      generalize l[m].parent = n3 at *
      generalize l[m].attrs.length = n5 at *
      go_enter Tryz.func93, Tryz.ntmps93
      go_wp2_with fail
      refine HO.out.mono ?_
      rintro e w1 ⟨rfl, b1⟩
      go_wp2_with fail
      refine (HS.out _).mono ?_
      rintro e w2 ⟨rfl, hu⟩
      obtain rfl : w1 = w2 := hu.symm
      go_wp2_with fail
      go_ret
      exact ⟨ret_bool E.out.symm, b1⟩
    · have E := hide (ok_out (l := l) (q := q) (id := id) (fun t => h1 t.2))
      have d1 : decide (id < (l.length : Int)) = false := decide_eq_false h1
      clear hv hz hT hs
      go_enter Tryz.func93, Tryz.ntmps93
      go_wp2_with fail
      go_ret
      exact ⟨ret_bool E.out.symm, Below.refl _ _⟩
  · have E := hide (ok_out (l := l) (q := q) (id := id) (fun t => h0 t.1))
    have d0 : decide (0 ≤ id) = false := decide_eq_false h0
    clear hv hz hT hs
    go_enter Tryz.func93, Tryz.ntmps93
    go_wp2_with fail
    go_ret
    exact ⟨ret_bool E.out.symm, Below.refl _ _⟩
set_option maxHeartbeats 4000000 in
theorem owFirstOf_any (v vk : Value) (l : List Nd) (ks : List Int) (g : Nat) (q : Int → Bool) (hs : SuchF g q) (w : World) (hv : NodesV w v l) (hk : IntsV w vk ks) (hz : DocSz l) (hT : KTabs w) (hl : ks.length ≤ 17592186044416) :
    Calls Tryz.prog 97 #[v, vk, .func (.func g) #[] #[]] w fun e w' => e = .returned (.int .i64 (firB l q ks)) ∧ Below w.heap.size w w' := by
  have HI := hide (fun id W (hb : Below w.heap.size w W) => owIsOf_any v l id g q hs W (hv.below hb) hz (hT.below hb))
  have IV := hide hk
  obtain ⟨p, c, rfl⟩ := nds_formW hv
  obtain ⟨pk, ck, rfl, _⟩ := hk
  obtain ⟨RES, hRES⟩ : ∃ R : Int, firB l q ks = R := ⟨_, rfl⟩
  have EL : Hid (RES = (ks.find? (okB l q)).getD (-1)) := hRES.symm
  rw [hRES]
  clear hRES hv hz hT hs
  go_enter Tryz.func97, Tryz.ntmps97
  go_wp2_with fail
  go_loopw [11] (fun iv wr => ∃ k : Nat, k ≤ ks.length ∧ iv = .int .i64 k ∧ Hid (RES = ((ks.drop k).find? (okB l q)).getD (-1)) ∧ Hid (Below w.heap.size w wr)) (fun iv _ => ks.length - (intOf iv).toNat)
  case atStart => exact ⟨0, Nat.zero_le _, rfl, by show _ = _; rw [List.drop_zero]; exact EL.out, Below.refl _ _⟩
  case round =>
    rename World => wr
    obtain ⟨k, hk, rfl, HE, BW⟩ := hrel
    by_cases g : k < ks.length
    · have k1 : (k : Int) < (ks.length : Int) := by omega
      have k0 : (0 : Int) ≤ (k : Int) := by omega
      obtain ⟨pa', ca', eva, hav⟩ := IV.out.below BW.out
      cases eva
      rcases hav with hav | ⟨b2, o2, rfl, hav⟩
      · rw [hav] at g; simp at g
      have x0 := hav k g
      have FN := hide (find_noW (p := okB l q) g)
      have FY := hide (find_yesW (p := okB l q) g)
      have HQ := hide (HI.out ks[k] wr BW.out)
      clear hav HI EL
      cases lb : okB l q ks[k] with
      | false =>
        have E1 : Hid (RES = ((ks.drop (k + 1)).find? (okB l q)).getD (-1)) := by show _ = _; rw [HE.out, FN.out lb]
        rw [lb] at HQ
        clear FN FY HE lb
        generalize ks[k] = z at *
        go_wp2_with fail
        refine HQ.out.mono ?_
        rintro e w1 ⟨rfl, b1⟩
        go_wp2_with fail
        go_round
        case rel => exact ⟨k + 1, by omega, by go_num, E1, chain BW.out b1⟩
        case measure => simp [intOf]; omega
      | true =>
        have E1 : Hid (RES = ks[k]) := by show _ = _; rw [HE.out, FY.out lb]; rfl
        rw [lb] at HQ
        clear FN FY HE lb
        generalize ks[k] = z at *
        go_wp2_with fail
        refine HQ.out.mono ?_
        rintro e w1 ⟨rfl, b1⟩
        go_wp2_with fail
        go_ret
        exact ⟨ret_int E1.out.symm, chain BW.out b1⟩
    · obtain rfl : k = ks.length := by omega
      have E1 : Hid (RES = -1) := by show _ = _; rw [HE.out, List.drop_length]; rfl
      clear HI EL HE
      go_wp2_with fail
      go_ret
      exact ⟨ret_int E1.out.symm, BW.out⟩
set_option maxHeartbeats 4000000 in
theorem owAbove_any (v : Value) (l : List Nd) (m0 : Nat) (g : Nat) (q : Int → Bool) (hs : SuchF g q) (g2 : Nat) (lb : Array Value) (eg2 : ∀ args w, (callFunc g2 args).run Tryz.prog w = .ok (.enter g2 args) w) (h : Int → Int → Bool) (w : World) (hh : ∀ (a b : Nat), a < l.length → b < l.length → ∀ W, Below w.heap.size w W → Calls Tryz.prog g2 (#[.int .i64 (a : Int), .int .i64 (b : Int)] ++ lb) W fun e w' => e = .returned (.bool (h a b)) ∧ Below W.heap.size W w') (hv : NodesV w v l) (hz : DocSz l) (hT : KTabs w) (hR : Right l) (h0 : m0 < l.length) :
    Calls Tryz.prog 99 #[v, .int .i64 (m0 : Int), .func (.func g) #[] #[], .func (.func g2) #[] lb] w fun e w' => e = .returned (.int .i64 (abvP l q h (m0 : Int))) ∧ Below w.heap.size w w' := by
  have HI := hide (fun id W (hb : Below w.heap.size w W) => owIsOf_any v l id g q hs W (hv.below hb) hz (hT.below hb))
  have HH := hide hh
  have HRt := hide hR
  have HC := hide (fun m hm W (hb : Below w.heap.size w W) => by
    obtain ⟨p, c, e⟩ := nds_formW hv
    have := hv.below hb
    rw [e] at this
    exact (⟨p, c, e, node_ofW (m := m) this hm⟩ : ∃ p c, v = .slice p l.length c ∧ ∃ b o va pk nk ck, p = some ⟨b, o, none⟩ ∧ NodeAt W b (o + m * 5) l[m] va (.slice pk nk ck)))
  obtain ⟨p, c, rfl⟩ := nds_formW hv
  obtain ⟨RES, hRES⟩ : ∃ R : Int, abvP l q h (m0 : Int) = R := ⟨_, rfl⟩
  rw [hRES]
  have EL : Hid (abvP l q h (m0 : Int) = RES) := hRES
  obtain ⟨p', c', e', b, o, va, pk, nk, ck, rfl, N0⟩ := HC.out m0 h0 w (Below.refl _ _)
  cases e'
  have a3 := N0.parent
  have m1 : (m0 : Int) < (l.length : Int) := by omega
  have m0' : (0 : Int) ≤ (m0 : Int) := by omega
  have P0 : Hid (parI l (m0 : Int) = l[m0].parent) := parI_nat h0
  clear hh hRES hv hz hT hs hR N0
  generalize l[m0].parent = pr0 at *
  go_enter Tryz.func99, Tryz.ntmps99
  go_wp2_with fail
  go_step3
  go_wp2_with fail
  go_step3
  go_wp2_with fail
  go_loopw [9, 10] (fun av bv wr => ∃ m : Nat, m < l.length ∧ bv = .int .i64 (m : Int) ∧ av = .int .i64 (parI l (m : Int)) ∧ Hid (abvP l q h (m : Int) = RES) ∧ Hid (Below w.heap.size w wr)) (fun av bv _ => hgt l (intOf bv))
  case atStart => exact ⟨m0, h0, rfl, by rw [P0.out], EL, Below.refl _ _⟩
  case round =>
    rename World => wr
    obtain ⟨m, hm, rfl, rfl, HE, BW⟩ := hrel
    have he := HRt.out.ende (show (m : Int) < (l.length : Int) by omega)
    have HHg := hide (hgt_up he (by omega))
    have pb := HRt.out.par m hm
    rw [nd_at hm] at pb
    have pI : parI l (m : Int) = l[m].parent := parI_nat hm
    rw [← pI] at pb
    by_cases q1 : parI l (m : Int) = -1
    · have E1 : Hid (RES = -1) := by show _ = _; rw [← HE.out]; exact abv_top he (by omega) (by omega)
      have f2 : (parI l (m : Int) == -1) = true := by rw [q1]; rfl
      clear HI HH HC HE EL P0 pI pb HHg he
      rw [q1]
      clear q1 f2
      go_wp2_with fail
      try rw [Exit.noGoto_ret]
      go_ret
      exact ⟨ret_int E1.out.symm, BW.out⟩
    · obtain ⟨n, en⟩ : ∃ n : Nat, parI l (m : Int) = (n : Int) := ⟨(parI l (m : Int)).toNat, by omega⟩
      have hn : n < l.length := by omega
      have f2 : ((n : Int) == -1) = false := by rw [beq_eq_false_iff_ne]; omega
      have f3 : ¬ (n : Int) = -1 := by omega
      have HQ := hide (HI.out (n : Int) wr BW.out)
      obtain ⟨p2, c2, e2, b2, o2, va2, pk2, nk2, ck2, ep, N2⟩ := HC.out n hn wr BW.out
      cases e2
      cases ep
      have n0 : (0 : Int) ≤ (n : Int) := by omega
      have n1 : (n : Int) < (l.length : Int) := by omega
      have P2 : Hid (parI l (n : Int) = l[n].parent) := parI_nat hn
      have MS : Hid (hgt l (n : Int) < hgt l (m : Int)) := by have := HHg.out; rw [en] at this; show _ < _; omega
      have HIT : Hid (okB l q (n : Int) = true → h (n : Int) (m : Int) = true → RES = (n : Int)) := fun t1 t2 => by rw [← HE.out, ← en]; exact abv_hit he (by omega) (by rw [en]; exact t1) (by rw [en]; exact t2)
      have UP : Hid ((okB l q (n : Int) && h (n : Int) (m : Int)) = false → abvP l q h (n : Int) = RES) := fun t => by rw [← HE.out, ← en]; exact abv_up he (by omega) (by rw [en]; exact t)
      rw [en]
      have HHn := hide (fun W hb => HH.out n m hn hm W hb)
      clear HI HH HC HE EL P0 pI pb HHg he q1 en
      cases ok : okB l q (n : Int) with
      | false =>
        rw [ok] at HQ
        have UPn := hide (UP.out (by rw [ok]; rfl))
        clear HIT UP ok
        go_wp2_with fail
        refine HQ.out.mono ?_
        rintro e w1 ⟨rfl, b1⟩
        have a5 := (N2.below b1).parent
        go_wp2_with fail
        go_round
        case rel => exact ⟨n, hn, rfl, by rw [P2.out], UPn, chain BW.out b1⟩
        case measure => exact MS.out
      | true =>
        rw [ok] at HQ
        cases hd : h (n : Int) (m : Int) with
        | true =>
          rw [hd] at HHn
          have R1 := hide (HIT.out ok hd)
          clear HIT UP ok hd
          go_wp2_with fail
          refine HQ.out.mono ?_
          rintro e w1 ⟨rfl, b1⟩
          go_wp2_with fail
          refine (HHn.out _ (chain BW.out b1)).mono ?_
          rintro e w2 ⟨rfl, b2⟩
          go_wp2_with fail
          try rw [Exit.noGoto_ret]
          go_ret
          exact ⟨ret_int R1.out.symm, chain (chain BW.out b1) b2⟩
        | false =>
          rw [hd] at HHn
          have UPn := hide (UP.out (by rw [ok, hd]; rfl))
          clear HIT UP ok hd
          go_wp2_with fail
          refine HQ.out.mono ?_
          rintro e w1 ⟨rfl, b1⟩
          go_wp2_with fail
          refine (HHn.out _ (chain BW.out b1)).mono ?_
          rintro e w2 ⟨rfl, b2⟩
          have a5 := ((N2.below b1).below b2).parent
          go_wp2_with fail
          go_round
          case rel => exact ⟨n, hn, rfl, by rw [P2.out], UPn, chain (chain BW.out b1) b2⟩
          case measure => exact MS.out
end Go.Proofs.YtdbabciafifnaaaGreatDoor

namespace Go.Proofs.YtdbabciafifnaaaGreatDoor
open Go.RowKit
set_option maxRecDepth 100000
abbrev OwTabs (w : World) : Prop := KTabs w
theorem OwTabs.below {w w' : World} (h : OwTabs w) (hb : Below w.heap.size w w') : OwTabs w' := KTabs.below h hb
theorem ok_rng {l : List Nd} {q : Int → Bool} {id : Int} (h : okB l q id = true) : ∃ m : Nat, id = (m : Int) ∧ m < l.length := by
  have rg : 0 ≤ id ∧ id < (l.length : Int) := by
    apply Classical.byContradiction
    intro t
    rw [ok_out t] at h; cases h
  exact ⟨id.toNat, by omega, by omega⟩
theorem entDs1 : ∀ args w, (callFunc 95 args).run Tryz.prog w = .ok (.enter 95 args) w := Go.Proofs.enters_of Tryz.func95 (by kernel_rfl) rfl
set_option maxHeartbeats 8000000 in
theorem owDisabled1_any (v : Value) (l : List Nd) (a by_ : Nat) (Bl : Nat) (w : World) (hv : NodesV w v l) (hz : DocSz l) (hT : KTabs w) (ha : a < l.length) (x1 : w.cell? ⟨Bl, 0, none⟩ = some v) :
    Calls Tryz.prog 95 #[.int .i64 (a : Int), .int .i64 (by_ : Int), .pointer (some ⟨Bl, 0, none⟩)] w fun e w' => e = .returned (.bool (hldB l (a : Int) (by_ : Int))) ∧ Below w.heap.size w w' := by
  have nz := hz.nds _ (List.getElem_mem ha)
  have KL : l[a].kids.length ≤ 17592186044416 := nz.kids
  have BD : Hid (Below w.heap.size w w.drew) := ⟨rfl, rfl, rfl, Nat.le_refl _, fun _ _ => rfl⟩
  have E : Hid (hldB l (a : Int) (by_ : Int) = (hasA l[a] oDis && ((by_ : Int) != firB l is34 l[a].kids))) := by show _ = _; unfold hldB; rw [Int.toNat_natCast, nd_at ha]
  obtain ⟨p, c, rfl⟩ := nds_formW hv
  obtain ⟨b, o, va, pk, nk, ck, rfl, N⟩ := node_ofW hv ha
  have HF := hide (fun W (hb : Below w.heap.size w W) => owFirstOf_any _ _ l l[a].kids _ is34 suisLegend W (hv.below hb) (N.ks.below hb) hz (hT.below hb) KL)
  have HN := hide (fun W (hb : Below w.heap.size w W) => owHas_any l[a] va pk nk ck oDis W (N.at_.below hb) nz.attrs)
  rw [show oDis = ⟨#[100, 105, 115, 97, 98, 108, 101, 100]⟩ from rfl] at HN E
  obtain ⟨pa, ca, rfl, hxx⟩ := N.at_
  clear hxx
  have c0 := N.name
  have c1 := N.text
  have c2 := N.attrs
  have c3 := N.parent
  have c4 := N.kids
  have m0 : (0 : Int) ≤ (a : Int) := by omega
  have m1 : (a : Int) < (l.length : Int) := by omega
  clear N hv hz hT nz KL
  generalize hldB l (a : Int) (by_ : Int) = R at *
  generalize firB l is34 l[a].kids = z at *
  generalize hasA l[a] ⟨#[100, 105, 115, 97, 98, 108, 101, 100]⟩ = hb at *
  generalize l[a].name = n0 at *
  generalize l[a].text = n1 at *
  generalize l[a].parent = n3 at *
  generalize l[a].attrs.length = n5 at *
  have hu : undef = Value.tuple #[] := rfl
  cases hb with
  | false =>
    rw [Bool.false_and] at E
    clear HF
    go_enter Tryz.func95, Tryz.ntmps95
    go_wp2_with fail
    refine wp_region_held_drew (S := fun X : World => X.cell? ⟨Bl, 0, none⟩ = some (.slice (some ⟨b, o, none⟩) l.length c) ∧ X.cell? ⟨b, o + a * 5, none⟩ = some (.string n0) ∧ X.cell? ⟨b, o + a * 5 + 1, none⟩ = some (.string n1) ∧ X.cell? ⟨b, o + a * 5 + 2, none⟩ = some (.slice pa n5 ca) ∧ X.cell? ⟨b, o + a * 5 + 3, none⟩ = some (.int .i64 n3) ∧ X.cell? ⟨b, o + a * 5 + 4, none⟩ = some (.slice pk nk ck)) (by kernel_rfl) ?_ (fun hHeld => ?_)
    · exact ⟨x1, c0, c1, c2, c3, c4⟩
    refine wpAnyH_take (i := 0) (oi := { dst := some 6, op := Op.load 22 (Operand.tmp 2), type := 22, pos := "owner.go:56", after := #[], guard := none }) (v := ?_) rfl (by kernel_rfl) (by kernel_rfl) (by kernel_rfl) (fun _ _ _ h => h) (Or.inl ⟨by rfl, ?_⟩) (by assumption) ?_
    rotate_left
    · (intro w hSw; (try dsimp only at hSw); first | (go_simp; done) | (go_simp; with_reducible rfl))
    simp only [Act.put, List.setIfInBounds_toArray, List.set_cons_zero, List.set_cons_succ]
    refine wpAnyH_take (i := 1) (oi := { dst := some 7, op := Op.move (Operand.tmp 0), type := 3, pos := "owner.go:56", after := #[], guard := none }) (v := ?_) rfl (by kernel_rfl) (by kernel_rfl) (by kernel_rfl) (fun _ _ _ h => h) (Or.inl ⟨by rfl, ?_⟩) (by assumption) ?_
    rotate_left
    · (intro w hSw; (try dsimp only at hSw); first | (go_simp; done) | (go_simp; with_reducible rfl))
    simp only [Act.put, List.setIfInBounds_toArray, List.set_cons_zero, List.set_cons_succ]
    refine wpAnyH_take (i := 2) (oi := { dst := some 8, op := Op.indexAddr 22 (Operand.tmp 6) (Operand.tmp 7), type := 0, pos := "owner.go:56", after := #[{ on := 0, ground := Ground.data }, { on := 1, ground := Ground.data }], guard := none }) (v := ?_) rfl (by kernel_rfl) (by kernel_rfl) (by kernel_rfl) (fun _ _ _ h => h) (Or.inl ⟨by rfl, ?_⟩) (by assumption) ?_
    rotate_left
    · (intro w hSw; (try dsimp only at hSw); first | (go_simp; done) | (go_simp; with_reducible rfl))
    simp only [Act.put, List.setIfInBounds_toArray, List.set_cons_zero, List.set_cons_succ]
    refine wpAnyH_take (i := 3) (oi := { dst := some 9, op := Op.load 38 (Operand.tmp 8), type := 38, pos := "owner.go:56", after := #[{ on := 2, ground := Ground.data }], guard := none }) (v := ?_) rfl (by kernel_rfl) (by kernel_rfl) (by kernel_rfl) (fun _ _ _ h => h) (Or.inl ⟨by rfl, ?_⟩) (by assumption) ?_
    rotate_left
    · (intro w hSw; (try dsimp only at hSw); first | (go_simp; done) | (go_simp; with_reducible rfl))
    simp only [Act.put, List.setIfInBounds_toArray, List.set_cons_zero, List.set_cons_succ]
    refine wpAnyH_ready (rs := [4]) (by kernel_rfl) (by simp) ?_
    refine AllReadyH.cons (i := 4) (o := { dst := some 10, op := Op.call { callee := Callee.value (Operand.func 96), args := #[Operand.tmp 9, Operand.const (Value.string { data := #[100, 105, 115, 97, 98, 108, 101, 100] })], argTypes := #[38, 9] }, type := 4, pos := "owner.go:56", after := #[{ on := 3, ground := Ground.data }], guard := none }) rfl (fun K hK => ?_) AllReadyH.nil
    go_simp
    refine (HN.out _ BD.out).mono ?_
    rintro e w1 ⟨rfl, b1⟩
    have B1 := hide (chain BD.out b1)
    clear b1
    go_wp2_with fail
    refine hK.out _ _ ?_ (fun hHeld => ?_)
    · exact ⟨cell_below x1 B1.out, cell_below c0 B1.out, cell_below c1 B1.out, cell_below c2 B1.out, cell_below c3 B1.out, cell_below c4 B1.out⟩
    clear hK K
    refine wpAnyH_take (i := 5) (oi := { dst := some 11, op := Op.move (Operand.tmp 10), type := 4, pos := "owner.go:56", after := #[{ on := 4, ground := Ground.data }, { on := 4, ground := Ground.chain }], guard := none }) (v := ?_) rfl (by kernel_rfl) (by kernel_rfl) (by kernel_rfl) (fun _ _ _ h => h) (Or.inl ⟨by rfl, ?_⟩) (by assumption) ?_
    rotate_left
    · (intro w hSw; (try dsimp only at hSw); first | (go_simp; done) | (go_simp; with_reducible rfl))
    simp only [Act.put, List.setIfInBounds_toArray, List.set_cons_zero, List.set_cons_succ]
    refine wpAnyH_take (i := 6) (oi := { dst := some 12, op := Op.move (Operand.tmp 1), type := 3, pos := "owner.go:56", after := #[{ on := 5, ground := Ground.guard }], guard := some (5, true) }) (v := undef) rfl (by kernel_rfl) (by kernel_rfl) (by kernel_rfl) (fun _ _ _ h => h) (Or.inr ⟨by rfl, rfl⟩) (by assumption) ?_
    simp only [Act.put, List.setIfInBounds_toArray, List.set_cons_zero, List.set_cons_succ]
    refine wpAnyH_take (i := 7) (oi := { dst := some 13, op := Op.load 22 (Operand.tmp 2), type := 22, pos := "owner.go:56", after := #[{ on := 5, ground := Ground.guard }], guard := some (5, true) }) (v := undef) rfl (by kernel_rfl) (by kernel_rfl) (by kernel_rfl) (fun _ _ _ h => h) (Or.inr ⟨by rfl, rfl⟩) (by assumption) ?_
    simp only [Act.put, List.setIfInBounds_toArray, List.set_cons_zero, List.set_cons_succ]
    refine wpAnyH_take (i := 8) (oi := { dst := some 14, op := Op.load 22 (Operand.tmp 2), type := 22, pos := "owner.go:56", after := #[{ on := 5, ground := Ground.guard }], guard := some (5, true) }) (v := undef) rfl (by kernel_rfl) (by kernel_rfl) (by kernel_rfl) (fun _ _ _ h => h) (Or.inr ⟨by rfl, rfl⟩) (by assumption) ?_
    simp only [Act.put, List.setIfInBounds_toArray, List.set_cons_zero, List.set_cons_succ]
    refine wpAnyH_take (i := 9) (oi := { dst := some 15, op := Op.move (Operand.tmp 0), type := 3, pos := "owner.go:56", after := #[{ on := 5, ground := Ground.guard }], guard := some (5, true) }) (v := undef) rfl (by kernel_rfl) (by kernel_rfl) (by kernel_rfl) (fun _ _ _ h => h) (Or.inr ⟨by rfl, rfl⟩) (by assumption) ?_
    simp only [Act.put, List.setIfInBounds_toArray, List.set_cons_zero, List.set_cons_succ]
    refine wpAnyH_take (i := 10) (oi := { dst := some 16, op := Op.indexAddr 22 (Operand.tmp 14) (Operand.tmp 15), type := 0, pos := "owner.go:56", after := #[{ on := 8, ground := Ground.data }, { on := 9, ground := Ground.data }, { on := 5, ground := Ground.guard }], guard := some (5, true) }) (v := undef) rfl (by kernel_rfl) (by kernel_rfl) (by kernel_rfl) (fun _ _ _ h => h) (Or.inr ⟨by rfl, rfl⟩) (by assumption) ?_
    simp only [Act.put, List.setIfInBounds_toArray, List.set_cons_zero, List.set_cons_succ]
    refine wpAnyH_take (i := 11) (oi := { dst := some 17, op := Op.fieldAddr 38 (Operand.tmp 16) 4, type := 0, pos := "owner.go:56", after := #[{ on := 10, ground := Ground.data }, { on := 5, ground := Ground.guard }], guard := some (5, true) }) (v := undef) rfl (by kernel_rfl) (by kernel_rfl) (by kernel_rfl) (fun _ _ _ h => h) (Or.inr ⟨by rfl, rfl⟩) (by assumption) ?_
    simp only [Act.put, List.setIfInBounds_toArray, List.set_cons_zero, List.set_cons_succ]
    refine wpAnyH_take (i := 12) (oi := { dst := some 18, op := Op.load 36 (Operand.tmp 17), type := 36, pos := "owner.go:56", after := #[{ on := 11, ground := Ground.data }, { on := 5, ground := Ground.guard }], guard := some (5, true) }) (v := undef) rfl (by kernel_rfl) (by kernel_rfl) (by kernel_rfl) (fun _ _ _ h => h) (Or.inr ⟨by rfl, rfl⟩) (by assumption) ?_
    simp only [Act.put, List.setIfInBounds_toArray, List.set_cons_zero, List.set_cons_succ]
    refine wpAnyH_take (i := 13) (oi := { dst := some 19, op := Op.call { callee := Callee.value (Operand.func 97), args := #[Operand.tmp 13, Operand.tmp 18, Operand.func 98], argTypes := #[22, 36, 43] }, type := 3, pos := "owner.go:56", after := #[{ on := 7, ground := Ground.data }, { on := 12, ground := Ground.data }, { on := 5, ground := Ground.chain }, { on := 5, ground := Ground.guard }], guard := some (5, true) }) (v := undef) rfl (by kernel_rfl) (by kernel_rfl) (by kernel_rfl) (fun _ _ _ h => h) (Or.inr ⟨by rfl, rfl⟩) (by assumption) ?_
    simp only [Act.put, List.setIfInBounds_toArray, List.set_cons_zero, List.set_cons_succ]
    refine wpAnyH_take (i := 14) (oi := { dst := some 20, op := Op.binOp BinOp.neq 3 (Operand.tmp 12) (Operand.tmp 19) 3, type := 4, pos := "owner.go:56", after := #[{ on := 6, ground := Ground.data }, { on := 13, ground := Ground.data }, { on := 5, ground := Ground.guard }], guard := some (5, true) }) (v := undef) rfl (by kernel_rfl) (by kernel_rfl) (by kernel_rfl) (fun _ _ _ h => h) (Or.inr ⟨by rfl, rfl⟩) (by assumption) ?_
    simp only [Act.put, List.setIfInBounds_toArray, List.set_cons_zero, List.set_cons_succ]
    refine wpAnyH_take (i := 15) (oi := { dst := some 21, op := Op.pick (Operand.tmp 11) (Operand.tmp 20) (Operand.const (Value.bool false)), type := 4, pos := "owner.go:56", after := #[{ on := 5, ground := Ground.data }, { on := 14, ground := Ground.data }], guard := none }) (v := ?_) rfl (by kernel_rfl) (by kernel_rfl) (by kernel_rfl) (fun _ _ _ h => h) (Or.inl ⟨by rfl, ?_⟩) (by assumption) ?_
    rotate_left
    · (intro w hSw; (try dsimp only at hSw); first | (go_simp; done) | (go_simp; with_reducible rfl))
    simp only [Act.put, List.setIfInBounds_toArray, List.set_cons_zero, List.set_cons_succ]
    refine wpAnyH_take (i := 16) (oi := { dst := some 5, op := Op.assign (Operand.tmp 21), type := 4, pos := "owner.go:56", after := #[{ on := 15, ground := Ground.data }, { on := 13, ground := Ground.chain }, { on := 0, ground := Ground.phase }, { on := 1, ground := Ground.phase }, { on := 2, ground := Ground.phase }, { on := 3, ground := Ground.phase }, { on := 4, ground := Ground.phase }, { on := 5, ground := Ground.phase }, { on := 6, ground := Ground.phase }, { on := 7, ground := Ground.phase }, { on := 8, ground := Ground.phase }, { on := 9, ground := Ground.phase }, { on := 10, ground := Ground.phase }, { on := 11, ground := Ground.phase }, { on := 12, ground := Ground.phase }, { on := 13, ground := Ground.phase }, { on := 14, ground := Ground.phase }, { on := 15, ground := Ground.phase }], guard := none }) (v := ?_) rfl (by kernel_rfl) (by kernel_rfl) (by kernel_rfl) (fun _ _ _ h => h) (Or.inl ⟨by rfl, ?_⟩) (by assumption) ?_
    rotate_left
    · (intro w hSw; (try dsimp only at hSw); first | (go_simp; done) | (go_simp; with_reducible rfl))
    simp only [Act.put, List.setIfInBounds_toArray, List.set_cons_zero, List.set_cons_succ]
    refine wpAnyH_done (by kernel_rfl) ?_ _
    go_wp2_with fail
    go_ret
    exact ⟨ret_bool E.out.symm, B1.out⟩
  | true =>
    rw [Bool.true_and] at E
    go_enter Tryz.func95, Tryz.ntmps95
    go_wp2_with fail
    refine wp_region_held_drew (S := fun X : World => X.cell? ⟨Bl, 0, none⟩ = some (.slice (some ⟨b, o, none⟩) l.length c) ∧ X.cell? ⟨b, o + a * 5, none⟩ = some (.string n0) ∧ X.cell? ⟨b, o + a * 5 + 1, none⟩ = some (.string n1) ∧ X.cell? ⟨b, o + a * 5 + 2, none⟩ = some (.slice pa n5 ca) ∧ X.cell? ⟨b, o + a * 5 + 3, none⟩ = some (.int .i64 n3) ∧ X.cell? ⟨b, o + a * 5 + 4, none⟩ = some (.slice pk nk ck)) (by kernel_rfl) ?_ (fun hHeld => ?_)
    · exact ⟨x1, c0, c1, c2, c3, c4⟩
    refine wpAnyH_take (i := 0) (oi := { dst := some 6, op := Op.load 22 (Operand.tmp 2), type := 22, pos := "owner.go:56", after := #[], guard := none }) (v := ?_) rfl (by kernel_rfl) (by kernel_rfl) (by kernel_rfl) (fun _ _ _ h => h) (Or.inl ⟨by rfl, ?_⟩) (by assumption) ?_
    rotate_left
    · (intro w hSw; (try dsimp only at hSw); first | (go_simp; done) | (go_simp; with_reducible rfl))
    simp only [Act.put, List.setIfInBounds_toArray, List.set_cons_zero, List.set_cons_succ]
    refine wpAnyH_take (i := 1) (oi := { dst := some 7, op := Op.move (Operand.tmp 0), type := 3, pos := "owner.go:56", after := #[], guard := none }) (v := ?_) rfl (by kernel_rfl) (by kernel_rfl) (by kernel_rfl) (fun _ _ _ h => h) (Or.inl ⟨by rfl, ?_⟩) (by assumption) ?_
    rotate_left
    · (intro w hSw; (try dsimp only at hSw); first | (go_simp; done) | (go_simp; with_reducible rfl))
    simp only [Act.put, List.setIfInBounds_toArray, List.set_cons_zero, List.set_cons_succ]
    refine wpAnyH_take (i := 2) (oi := { dst := some 8, op := Op.indexAddr 22 (Operand.tmp 6) (Operand.tmp 7), type := 0, pos := "owner.go:56", after := #[{ on := 0, ground := Ground.data }, { on := 1, ground := Ground.data }], guard := none }) (v := ?_) rfl (by kernel_rfl) (by kernel_rfl) (by kernel_rfl) (fun _ _ _ h => h) (Or.inl ⟨by rfl, ?_⟩) (by assumption) ?_
    rotate_left
    · (intro w hSw; (try dsimp only at hSw); first | (go_simp; done) | (go_simp; with_reducible rfl))
    simp only [Act.put, List.setIfInBounds_toArray, List.set_cons_zero, List.set_cons_succ]
    refine wpAnyH_take (i := 3) (oi := { dst := some 9, op := Op.load 38 (Operand.tmp 8), type := 38, pos := "owner.go:56", after := #[{ on := 2, ground := Ground.data }], guard := none }) (v := ?_) rfl (by kernel_rfl) (by kernel_rfl) (by kernel_rfl) (fun _ _ _ h => h) (Or.inl ⟨by rfl, ?_⟩) (by assumption) ?_
    rotate_left
    · (intro w hSw; (try dsimp only at hSw); first | (go_simp; done) | (go_simp; with_reducible rfl))
    simp only [Act.put, List.setIfInBounds_toArray, List.set_cons_zero, List.set_cons_succ]
    refine wpAnyH_ready (rs := [4]) (by kernel_rfl) (by simp) ?_
    refine AllReadyH.cons (i := 4) (o := { dst := some 10, op := Op.call { callee := Callee.value (Operand.func 96), args := #[Operand.tmp 9, Operand.const (Value.string { data := #[100, 105, 115, 97, 98, 108, 101, 100] })], argTypes := #[38, 9] }, type := 4, pos := "owner.go:56", after := #[{ on := 3, ground := Ground.data }], guard := none }) rfl (fun K hK => ?_) AllReadyH.nil
    go_simp
    refine (HN.out _ BD.out).mono ?_
    rintro e w1 ⟨rfl, b1⟩
    have B1 := hide (chain BD.out b1)
    clear b1
    go_wp2_with fail
    refine hK.out _ _ ?_ (fun hHeld => ?_)
    · exact ⟨cell_below x1 B1.out, cell_below c0 B1.out, cell_below c1 B1.out, cell_below c2 B1.out, cell_below c3 B1.out, cell_below c4 B1.out⟩
    clear hK K
    refine wpAnyH_take (i := 5) (oi := { dst := some 11, op := Op.move (Operand.tmp 10), type := 4, pos := "owner.go:56", after := #[{ on := 4, ground := Ground.data }, { on := 4, ground := Ground.chain }], guard := none }) (v := ?_) rfl (by kernel_rfl) (by kernel_rfl) (by kernel_rfl) (fun _ _ _ h => h) (Or.inl ⟨by rfl, ?_⟩) (by assumption) ?_
    rotate_left
    · (intro w hSw; (try dsimp only at hSw); first | (go_simp; done) | (go_simp; with_reducible rfl))
    simp only [Act.put, List.setIfInBounds_toArray, List.set_cons_zero, List.set_cons_succ]
    refine wpAnyH_take (i := 6) (oi := { dst := some 12, op := Op.move (Operand.tmp 1), type := 3, pos := "owner.go:56", after := #[{ on := 5, ground := Ground.guard }], guard := some (5, true) }) (v := ?_) rfl (by kernel_rfl) (by kernel_rfl) (by kernel_rfl) (fun _ _ _ h => h) (Or.inl ⟨by rfl, ?_⟩) (by assumption) ?_
    rotate_left
    · (intro w hSw; (try dsimp only at hSw); first | (go_simp; done) | (go_simp; with_reducible rfl))
    simp only [Act.put, List.setIfInBounds_toArray, List.set_cons_zero, List.set_cons_succ]
    refine wpAnyH_take (i := 7) (oi := { dst := some 13, op := Op.load 22 (Operand.tmp 2), type := 22, pos := "owner.go:56", after := #[{ on := 5, ground := Ground.guard }], guard := some (5, true) }) (v := ?_) rfl (by kernel_rfl) (by kernel_rfl) (by kernel_rfl) (fun _ _ _ h => h) (Or.inl ⟨by rfl, ?_⟩) (by assumption) ?_
    rotate_left
    · (intro w hSw; (try dsimp only at hSw); first | (go_simp; done) | (go_simp; with_reducible rfl))
    simp only [Act.put, List.setIfInBounds_toArray, List.set_cons_zero, List.set_cons_succ]
    refine wpAnyH_take (i := 8) (oi := { dst := some 14, op := Op.load 22 (Operand.tmp 2), type := 22, pos := "owner.go:56", after := #[{ on := 5, ground := Ground.guard }], guard := some (5, true) }) (v := ?_) rfl (by kernel_rfl) (by kernel_rfl) (by kernel_rfl) (fun _ _ _ h => h) (Or.inl ⟨by rfl, ?_⟩) (by assumption) ?_
    rotate_left
    · (intro w hSw; (try dsimp only at hSw); first | (go_simp; done) | (go_simp; with_reducible rfl))
    simp only [Act.put, List.setIfInBounds_toArray, List.set_cons_zero, List.set_cons_succ]
    refine wpAnyH_take (i := 9) (oi := { dst := some 15, op := Op.move (Operand.tmp 0), type := 3, pos := "owner.go:56", after := #[{ on := 5, ground := Ground.guard }], guard := some (5, true) }) (v := ?_) rfl (by kernel_rfl) (by kernel_rfl) (by kernel_rfl) (fun _ _ _ h => h) (Or.inl ⟨by rfl, ?_⟩) (by assumption) ?_
    rotate_left
    · (intro w hSw; (try dsimp only at hSw); first | (go_simp; done) | (go_simp; with_reducible rfl))
    simp only [Act.put, List.setIfInBounds_toArray, List.set_cons_zero, List.set_cons_succ]
    refine wpAnyH_take (i := 10) (oi := { dst := some 16, op := Op.indexAddr 22 (Operand.tmp 14) (Operand.tmp 15), type := 0, pos := "owner.go:56", after := #[{ on := 8, ground := Ground.data }, { on := 9, ground := Ground.data }, { on := 5, ground := Ground.guard }], guard := some (5, true) }) (v := ?_) rfl (by kernel_rfl) (by kernel_rfl) (by kernel_rfl) (fun _ _ _ h => h) (Or.inl ⟨by rfl, ?_⟩) (by assumption) ?_
    rotate_left
    · (intro w hSw; (try dsimp only at hSw); first | (go_simp; done) | (go_simp; with_reducible rfl))
    simp only [Act.put, List.setIfInBounds_toArray, List.set_cons_zero, List.set_cons_succ]
    refine wpAnyH_take (i := 11) (oi := { dst := some 17, op := Op.fieldAddr 38 (Operand.tmp 16) 4, type := 0, pos := "owner.go:56", after := #[{ on := 10, ground := Ground.data }, { on := 5, ground := Ground.guard }], guard := some (5, true) }) (v := ?_) rfl (by kernel_rfl) (by kernel_rfl) (by kernel_rfl) (fun _ _ _ h => h) (Or.inl ⟨by rfl, ?_⟩) (by assumption) ?_
    rotate_left
    · (intro w hSw; (try dsimp only at hSw); first | (go_simp; done) | (go_simp; with_reducible rfl))
    simp only [Act.put, List.setIfInBounds_toArray, List.set_cons_zero, List.set_cons_succ]
    refine wpAnyH_take (i := 12) (oi := { dst := some 18, op := Op.load 36 (Operand.tmp 17), type := 36, pos := "owner.go:56", after := #[{ on := 11, ground := Ground.data }, { on := 5, ground := Ground.guard }], guard := some (5, true) }) (v := ?_) rfl (by kernel_rfl) (by kernel_rfl) (by kernel_rfl) (fun _ _ _ h => h) (Or.inl ⟨by rfl, ?_⟩) (by assumption) ?_
    rotate_left
    · (intro w hSw; (try dsimp only at hSw); first | (go_simp; done) | (go_simp; with_reducible rfl))
    simp only [Act.put, List.setIfInBounds_toArray, List.set_cons_zero, List.set_cons_succ]
    refine wpAnyH_ready (rs := [13]) (by kernel_rfl) (by simp) ?_
    refine AllReadyH.cons (i := 13) (o := { dst := some 19, op := Op.call { callee := Callee.value (Operand.func 97), args := #[Operand.tmp 13, Operand.tmp 18, Operand.func 98], argTypes := #[22, 36, 43] }, type := 3, pos := "owner.go:56", after := #[{ on := 7, ground := Ground.data }, { on := 12, ground := Ground.data }, { on := 5, ground := Ground.chain }, { on := 5, ground := Ground.guard }], guard := some (5, true) }) rfl (fun K hK => ?_) AllReadyH.nil
    go_simp
    refine (HF.out _ B1.out).mono ?_
    rintro e w2 ⟨rfl, b2⟩
    have B2 := hide (chain B1.out b2)
    clear b2
    go_wp2_with fail
    refine hK.out _ _ ?_ (fun hHeld => ?_)
    · exact ⟨cell_below x1 B2.out, cell_below c0 B2.out, cell_below c1 B2.out, cell_below c2 B2.out, cell_below c3 B2.out, cell_below c4 B2.out⟩
    clear hK K
    refine wpAnyH_take (i := 14) (oi := { dst := some 20, op := Op.binOp BinOp.neq 3 (Operand.tmp 12) (Operand.tmp 19) 3, type := 4, pos := "owner.go:56", after := #[{ on := 6, ground := Ground.data }, { on := 13, ground := Ground.data }, { on := 5, ground := Ground.guard }], guard := some (5, true) }) (v := ?_) rfl (by kernel_rfl) (by kernel_rfl) (by kernel_rfl) (fun _ _ _ h => h) (Or.inl ⟨by rfl, ?_⟩) (by assumption) ?_
    rotate_left
    · (intro w hSw; (try dsimp only at hSw); first | (go_simp; done) | (go_simp; with_reducible rfl))
    simp only [Act.put, List.setIfInBounds_toArray, List.set_cons_zero, List.set_cons_succ]
    refine wpAnyH_take (i := 15) (oi := { dst := some 21, op := Op.pick (Operand.tmp 11) (Operand.tmp 20) (Operand.const (Value.bool false)), type := 4, pos := "owner.go:56", after := #[{ on := 5, ground := Ground.data }, { on := 14, ground := Ground.data }], guard := none }) (v := ?_) rfl (by kernel_rfl) (by kernel_rfl) (by kernel_rfl) (fun _ _ _ h => h) (Or.inl ⟨by rfl, ?_⟩) (by assumption) ?_
    rotate_left
    · (intro w hSw; (try dsimp only at hSw); first | (go_simp; done) | (go_simp; with_reducible rfl))
    simp only [Act.put, List.setIfInBounds_toArray, List.set_cons_zero, List.set_cons_succ]
    refine wpAnyH_take (i := 16) (oi := { dst := some 5, op := Op.assign (Operand.tmp 21), type := 4, pos := "owner.go:56", after := #[{ on := 15, ground := Ground.data }, { on := 13, ground := Ground.chain }, { on := 0, ground := Ground.phase }, { on := 1, ground := Ground.phase }, { on := 2, ground := Ground.phase }, { on := 3, ground := Ground.phase }, { on := 4, ground := Ground.phase }, { on := 5, ground := Ground.phase }, { on := 6, ground := Ground.phase }, { on := 7, ground := Ground.phase }, { on := 8, ground := Ground.phase }, { on := 9, ground := Ground.phase }, { on := 10, ground := Ground.phase }, { on := 11, ground := Ground.phase }, { on := 12, ground := Ground.phase }, { on := 13, ground := Ground.phase }, { on := 14, ground := Ground.phase }, { on := 15, ground := Ground.phase }], guard := none }) (v := ?_) rfl (by kernel_rfl) (by kernel_rfl) (by kernel_rfl) (fun _ _ _ h => h) (Or.inl ⟨by rfl, ?_⟩) (by assumption) ?_
    rotate_left
    · (intro w hSw; (try dsimp only at hSw); first | (go_simp; done) | (go_simp; with_reducible rfl))
    simp only [Act.put, List.setIfInBounds_toArray, List.set_cons_zero, List.set_cons_succ]
    refine wpAnyH_done (by kernel_rfl) ?_ _
    go_wp2_with fail
    go_ret
    exact ⟨ret_bool E.out.symm, B2.out⟩
set_option maxHeartbeats 8000000 in
theorem owDisabled_any (v : Value) (l : List Nd) (id : Int) (w : World) (hv : NodesV w v l) (hz : DocSz l) (hT : OwTabs w) :
    Calls Tryz.prog 53 #[v, .int .i64 id] w fun e w' => e = .returned (.bool (disabledP l id)) ∧ Below w.heap.size w w' := by
  have HI := hide (fun W (hb : Below w.heap.size w W) => owIsOf_any v l id _ disK sucanBeDisabled W (hv.below hb) hz (hT.below hb))
  have HRt := hide (fun W (hb : Below w.heap.size w W) => right_any v l W (hv.below hb) hz)
  cases ok : okB l disK id with
  | false =>
    have E : Hid (disabledP l id = false) := by show _ = _; rw [disabled_is, ok]; rfl
    rw [ok] at HI
    clear ok
    obtain ⟨p, c, rfl⟩ := nds_formW hv
    have B0 : Hid (Below w.heap.size w (w.alloc (.cells #[.slice p l.length c] 22))) := (Below.refl _ w).alloc (Nat.le_refl _) _
    have KB := hide (Bk.new w [.slice p l.length c] 22)
    have x1 := KB.out.cell 0 rfl
    clear hv hz hT HRt
    go_enter Tryz.func53, Tryz.ntmps53
    go_wp2_with fail
    refine (HI.out _ B0.out).mono ?_
    rintro e w1 ⟨rfl, b1⟩
    go_wp2_with fail
    go_ret
    exact ⟨ret_bool E.out.symm, chain B0.out b1⟩
  | true =>
    rw [ok] at HI
    cases rb : rightB l with
    | false =>
      have E : Hid (disabledP l id = false) := by show _ = _; rw [disabled_is, rb, Bool.and_false]; rfl
      rw [rb] at HRt
      clear ok rb
      obtain ⟨p, c, rfl⟩ := nds_formW hv
      have B0 : Hid (Below w.heap.size w (w.alloc (.cells #[.slice p l.length c] 22))) := (Below.refl _ w).alloc (Nat.le_refl _) _
      have KB := hide (Bk.new w [.slice p l.length c] 22)
      have x1 := KB.out.cell 0 rfl
      clear hv hz hT
      go_enter Tryz.func53, Tryz.ntmps53
      go_wp2_with fail
      refine (HI.out _ B0.out).mono ?_
      rintro e w1 ⟨rfl, b1⟩
      have x1b := cell_below x1 b1
      go_wp2_with fail
      refine (HRt.out _ (chain B0.out b1)).mono ?_
      rintro e w2 ⟨rfl, b2⟩
      go_wp2_with fail
      go_ret
      exact ⟨ret_bool E.out.symm, chain (chain B0.out b1) b2⟩
    | true =>
      rw [rb] at HRt
      have hR := right_is.1 rb
      obtain ⟨m, rfl, hm⟩ := ok_rng ok
      have nz := hz.nds _ (List.getElem_mem hm)
      have HA := hide (fun Bl W (hb : Below w.heap.size w W) (x : W.cell? ⟨Bl, 0, none⟩ = some v) => owAbove_any v l m _ is29 suisFieldset 95 #[.pointer (some ⟨Bl, 0, none⟩)] entDs1 (hldB l) W (fun a b ha _ W' hb' => owDisabled1_any v l a b Bl W' ((hv.below hb).below hb') hz ((hT.below hb).below hb') ha (cell_below x hb')) (hv.below hb) hz (hT.below hb) hR hm)
      have E : Hid (disabledP l (m : Int) = (hasA l[m] oDis || (abvP l is29 (hldB l) (m : Int) != -1))) := by
        show _ = _
        rw [disabled_is, ok, rb]
        unfold disQ
        rw [Int.toNat_natCast, nd_at hm]; rfl
      obtain ⟨p, c, rfl⟩ := nds_formW hv
      obtain ⟨b, o, va, pk, nk, ck, rfl, N⟩ := node_ofW hv hm
      have HN := hide (fun W (hb : Below w.heap.size w W) => owHas_any l[m] va pk nk ck oDis W (N.at_.below hb) nz.attrs)
      rw [show oDis = ⟨#[100, 105, 115, 97, 98, 108, 101, 100]⟩ from rfl] at HN E
      obtain ⟨pa, ca, rfl, hxx⟩ := N.at_
      clear hxx
      have B0 : Hid (Below w.heap.size w (w.alloc (.cells #[.slice (some ⟨b, o, none⟩) l.length c] 22))) := (Below.refl _ w).alloc (Nat.le_refl _) _
      have KB := hide (Bk.new w [.slice (some ⟨b, o, none⟩) l.length c] 22)
      have x1 := KB.out.cell 0 rfl
      have m0 : (0 : Int) ≤ (m : Int) := by omega
      have m1 : (m : Int) < (l.length : Int) := by omega
      have NN := hide N
      clear hv hz hT ok rb hR nz N
      generalize disabledP l (m : Int) = R at *
      generalize abvP l is29 (hldB l) (m : Int) = z at *
      generalize hasA l[m] ⟨#[100, 105, 115, 97, 98, 108, 101, 100]⟩ = ha at *
      cases ha with
      | true =>
        rw [Bool.true_or] at E
        clear HA
        go_enter Tryz.func53, Tryz.ntmps53
        go_wp2_with fail
        refine (HI.out _ B0.out).mono ?_
        rintro e w1 ⟨rfl, b1⟩
        have x1b := cell_below x1 b1
        go_wp2_with fail
        refine (HRt.out _ (chain B0.out b1)).mono ?_
        rintro e w2 ⟨rfl, b2⟩
        have B2 := hide (chain (chain B0.out b1) b2)
        have x1c := cell_below x1b b2
        have KB2 := hide ((KB.out.below b1).below b2)
        have c0 := (NN.out.below B2.out).name
        have c1 := (NN.out.below B2.out).text
        have c2 := (NN.out.below B2.out).attrs
        have c3 := (NN.out.below B2.out).parent
        have c4 := (NN.out.below B2.out).kids
        go_wp2_with fail
        refine (HN.out _ B2.out).mono ?_
        rintro e w3 ⟨rfl, b3⟩
        go_wp2_with fail
        go_ret
        exact ⟨ret_bool E.out.symm, chain B2.out b3⟩
      | false =>
        rw [Bool.false_or] at E
        go_enter Tryz.func53, Tryz.ntmps53
        go_wp2_with fail
        refine (HI.out _ B0.out).mono ?_
        rintro e w1 ⟨rfl, b1⟩
        have x1b := cell_below x1 b1
        go_wp2_with fail
        refine (HRt.out _ (chain B0.out b1)).mono ?_
        rintro e w2 ⟨rfl, b2⟩
        have B2 := hide (chain (chain B0.out b1) b2)
        have x1c := cell_below x1b b2
        have KB2 := hide ((KB.out.below b1).below b2)
        have c0 := (NN.out.below B2.out).name
        have c1 := (NN.out.below B2.out).text
        have c2 := (NN.out.below B2.out).attrs
        have c3 := (NN.out.below B2.out).parent
        have c4 := (NN.out.below B2.out).kids
        go_wp2_with fail
        refine (HN.out _ B2.out).mono ?_
        rintro e w3 ⟨rfl, b3⟩
        have B3 := hide (chain B2.out b3)
        have x1d := (KB2.out.below b3).cell 0 rfl
        clear b3 B2 c0 c1 c2 c3 c4
        go_wp2_with fail
        refine (HA.out _ _ B3.out x1d).mono ?_
        rintro e w4 ⟨rfl, b4⟩
        go_wp2_with fail
        go_ret
        exact ⟨ret_bool E.out.symm, chain B3.out b4⟩

end Go.Proofs.YtdbabciafifnaaaGreatDoor
