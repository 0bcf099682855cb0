/- The program's Top, Up, Attr of layer 10. The program's find, has, the questions of kinds, isOf, firstOf, isRooted, above of layer 16. The program's radios, keyOf, checked of layer 17 and their closures, slices.Clone of numbers. A group's key as the key of a map. Rows of numbers, each in a row of the call's own, behind a row of the call's own. -/
import Derived.Test.YtldbaoolddlacaaDoorJgd27
import Derived.Shelf.Slices.Clone
import Derived.DeepKeys4
import Derived.Maps.OwnSet

namespace Go.Proofs.YtldbaoolddlacaaDoor
open Go.RowKit
def topQ (l : List Nd) (id : Int) : Int := if hasN l id = true then topP l id else -1
theorem topP_root {l : List Nd} (h : Right l) {m : Nat} (hm : m < l.length) (hp : l[m].parent = -1) : topP l (m : Int) = (m : Int) := by
  have hu := anc_up (h.ende (k := (m : Int)) (by omega)) (by omega)
  rw [parI_nat hm] at hu
  unfold topP
  rw [hu, anc_neg (by omega)]; rfl
theorem topP_up {l : List Nd} (h : Right l) {m n : Nat} (hm : m < l.length) (hp : l[m].parent = (n : Int)) : topP l (n : Int) = topP l (m : Int) := by
  have hu := anc_up (h.ende (k := (m : Int)) (by omega)) (by omega)
  have pb := h.par m hm
  rw [nd_at hm, hp] at pb
  have hu2 := anc_up (h.ende (k := (n : Int)) (by omega)) (by omega)
  rw [parI_nat hm, hp] at hu
  unfold topP
  rw [hu, hu2]; rfl
set_option maxHeartbeats 2000000 in
theorem top_any (v : Value) (l : List Nd) (id : Int) (w : World) (hv : NodesV w v l) (hz : DocSz l) :
    Calls Tryd.prog 88 #[v, .int .i64 id] w fun e w' => e = .returned (.int .i64 (topQ l id)) ∧ Below w.heap.size w w' := by
  have HH := hide (isThere_any v l id w hv hz)
  obtain ⟨p, c, rfl, hv⟩ := hv
  have HV := hide hv
  clear hv hz
  cases q : hasN l id with
  | false =>
    rw [q] at HH
    have E : Hid (topQ l id = -1) := by show _ = _; unfold topQ; rw [q]; rfl
    clear q
    go_enter Tryd.func88, Tryd.ntmps88
    go_wp2_with fail
    refine HH.out.mono ?_
    rintro e w1 ⟨rfl, b1⟩
    go_wp2_with fail
    go_ret
    exact ⟨ret_int E.out.symm, b1⟩
  | true =>
    rw [q] at HH
    obtain ⟨hR, hi⟩ := has_is q
    obtain ⟨m0, rfl⟩ : ∃ m : Nat, id = (m : Int) := ⟨id.toNat, by have := hi.1; omega⟩
    have h0 : m0 < l.length := by have := hi.2; omega
    obtain ⟨T, hT⟩ : ∃ T, Hid (topP l (m0 : Int) = T) := ⟨_, show topP l (m0 : Int) = _ from rfl⟩
    have E : Hid (topQ l (m0 : Int) = T) := by show _ = _; unfold topQ; rw [q]; exact hT.out
    have HRt := hide hR
    have hlen := hR.len.2
    obtain ⟨b, o, rfl, hcell⟩ : ∃ b o, p = some ⟨b, o, none⟩ ∧ ∀ i (h : i < l.length), ∃ va vk, NodeAt w b (o + i * 5) l[i] va vk := by
      rcases HV.out with t | t
      · rw [t] at h0; simp at h0
      · exact t
    have HC := hide hcell
    clear q hi hR hcell HV
    go_enter Tryd.func88, Tryd.ntmps88
    go_wp2_with fail
    refine HH.out.mono ?_
    rintro e w1 ⟨rfl, b1⟩
    go_wp2_with fail
    have B1 := hide b1
    clear b1 HH
    go_loop [1] (fun kv => ∃ m : Nat, kv = .int .i64 (m : Int) ∧ m < l.length ∧ Hid (topP l (m : Int) = T)) (fun kv => hgt l (intOf kv))
    case atStart => exact ⟨m0, rfl, h0, hT⟩
    case round =>
      obtain ⟨m, rfl, hm, hc⟩ := hrel
      clear hT
      have he := HRt.out.ende (show (m : Int) < (l.length : Int) by omega)
      have HH := hide (hgt_up he (by omega))
      have pb := HRt.out.par m hm
      rw [nd_at hm] at pb
      rw [parI_nat hm] at HH
      obtain ⟨va, vk, N0⟩ := HC.out m hm
      have a3 := (N0.below B1.out).parent
      have m1 : (m : Int) < (l.length : Int) := by omega
      have m0' : (0 : Int) ≤ (m : Int) := by omega
      by_cases q1 : l[m].parent = -1
      · have f1 : (l[m].parent != -1) = false := by rw [q1]; rfl
        have f2 : (l[m].parent == -1) = true := by rw [q1]; rfl
        have E2 : Hid (topQ l (m0 : Int) = (m : Int)) := by show _ = _; rw [E.out, ← hc.out]; exact topP_root HRt.out hm q1
        clear q1 hc he HH pb N0
        generalize l[m].parent = pm at *
        go_wp2_with fail
        go_ret
        exact ⟨ret_int E2.out.symm, B1.out⟩
      · have f1 : (l[m].parent != -1) = true := by rw [bne_iff_ne]; exact q1
        have f2 : (l[m].parent == -1) = false := by rw [beq_eq_false_iff_ne]; exact q1
        obtain ⟨n, en⟩ : ∃ n : Nat, l[m].parent = (n : Int) := ⟨l[m].parent.toNat, by omega⟩
        have hn : n < l.length := by omega
        have HC1 : Hid (topP l (n : Int) = T) := by show _ = _; rw [topP_up HRt.out hm en]; exact hc.out
        rw [en] at a3 f1 f2 HH
        clear q1 hc he pb N0 en
        go_wp2_with fail
        go_round
        case rel => exact ⟨n, rfl, hn, HC1⟩
        case measure => have := HH.out; show hgt l (n : Int) < hgt l (m : Int); omega
end Go.Proofs.YtldbaoolddlacaaDoor

namespace Go.Proofs.YtldbaoolddlacaaDoor
open Go.RowKit
set_option maxRecDepth 100000
/-- A node that lies in the world, told by its number. -/
theorem node_ofW {w : World} {p : Option Addr} {c : Nat} {l : List Nd} (hv : NodesV w (.slice p l.length c) l) {m : Nat} (hm : m < l.length) : ∃ b o va pk nk ck, p = some ⟨b, o, none⟩ ∧ NodeAt w b (o + m * 5) l[m] va (.slice pk nk ck) := by
  obtain ⟨p', c', e, h⟩ := hv
  cases e
  rcases h with h | ⟨b, o, rfl, h⟩
  · rw [h] at hm; cases hm
  · obtain ⟨va, vk, N⟩ := h m hm
    obtain ⟨pk, ck, rfl, _⟩ := N.ks
    exact ⟨b, o, va, pk, _, ck, rfl, N⟩
theorem nds_formW {w : World} {v : Value} {l : List Nd} (h : NodesV w v l) : ∃ p c, v = .slice p l.length c := by
  obtain ⟨p, c, e, _⟩ := h; exact ⟨p, c, e⟩
theorem ret_fndW {a b : ByteArray} {c d : Bool} (h : a = b) (g : c = d) : Ending.returned (.tuple #[.string a, .bool c]) = .returned (.tuple #[.string b, .bool d]) := by rw [h, g]
set_option maxHeartbeats 4000000 in
theorem owFind1_any (s : ByteArray) (B : Nat) (x : ByteArray × ByteArray) (W : World) (hc : W.cell? ⟨B, 0, none⟩ = some (.string s)) :
    Calls Tryd.prog 92 #[.agg #[.string x.1, .string x.2], .pointer (some ⟨B, 0, none⟩)] W fun e w' => e = .returned (.bool (isN s x)) ∧ Below W.heap.size W w' := by
  have hB := World.block_lt_of_cell? _ _ hc
  have hne : B ≠ W.heap.size := by have : B < W.heap.size := hB; omega
  have E := hide (txt_beq x.1 s)
  unfold isN
  generalize x.1 = a at *
  generalize x.2 = b at *
  generalize hR : decide (a = s) = R at *
  clear hR
  go_enter Tryd.func92, Tryd.ntmps92
  go_wp2_with fail
  go_ret
  exact ⟨ret_bool E.out, (Below.refl _ W).alloc (Nat.le_refl _) _⟩
theorem entersOwFind : ∀ args w, (callFunc 92 args).run Tryd.prog w = .ok (.enter 92 args) w := Go.Proofs.enters_of Tryd.func92 (by kernel_rfl) rfl
set_option maxHeartbeats 4000000 in
theorem owFind_any (n : Nd) (va : Value) (pk : Option Addr) (nk ck : Nat) (s : ByteArray) (w : World) (hv : AttrsV w va n.attrs) (hl : n.attrs.length ≤ 4398046511104) :
    Calls Tryd.prog 85 #[.agg #[.string n.name, .string n.text, va, .int .i64 n.parent, .slice pk nk ck], .string s] w fun e w' => e = .returned (.tuple #[.string (fndS n.attrs s), .bool (hasA n s)]) ∧ Below w.heap.size w w' := by
  have B0 : Hid (Below w.heap.size w ((w.alloc (.cells #[.string n.name, .string n.text, va, .int .i64 n.parent, .slice pk nk ck] 44)).alloc (.cells #[.string s] 9))) := ((Below.refl _ w).alloc (Nat.le_refl _) _).alloc (by simp) _
  have PR : PredA 92 #[.pointer (some ⟨w.heap.size + 1, 0, none⟩)] (isN s) ((w.alloc (.cells #[.string n.name, .string n.text, va, .int .i64 n.parent, .slice pk nk ck] 44)).alloc (.cells #[.string s] 9)) := fun W x hb =>
    owFind1_any s (w.heap.size + 1) x W ((hb.cell (by simp)).trans (by simp))
  have HC := hide (indexFuncA_any va n.attrs (isN s) 92 #[.pointer (some ⟨w.heap.size + 1, 0, none⟩)] entersOwFind ((w.alloc (.cells #[.string n.name, .string n.text, va, .int .i64 n.parent, .slice pk nk ck] 44)).alloc (.cells #[.string s] 9)) (hv.below B0.out) PR hl)
  have HIT := hide (fun k hk (h : n.attrs.findIdx? (isN s) = some k) => fnd_hit (ax := n.attrs) (n := s) (k := k) hk h)
  have MISS := hide (fun (h : n.attrs.findIdx? (isN s) = none) => fnd_miss (ax := n.attrs) (n := s) h)
  clear PR
  unfold hasA
  obtain ⟨p, c, rfl, hk⟩ := hv
  generalize fndS n.attrs s = R1 at *
  generalize (findA n.attrs s).isSome = R2 at *
  generalize n.name = n0 at *
  generalize n.text = n1 at *
  generalize n.parent = n3 at *
  generalize n.attrs = ax at *
  cases h : ax.findIdx? (isN s) with
  | none =>
    have E := hide (MISS.out h)
    rw [h, show findV none = -1 from rfl] at HC
    clear hk HIT MISS h
    go_enter Tryd.func85, Tryd.ntmps85
    go_wp2_with fail
    refine HC.out.mono ?_
    rintro e w1 ⟨rfl, b1⟩
    go_wp2_with fail
    go_ret2
    exact ⟨ret_fndW E.out.1.symm E.out.2.symm, chain B0.out b1⟩
  | some i =>
    obtain ⟨hi, _, _⟩ := List.findIdx?_eq_some_iff_getElem.1 h
    have E := hide (HIT.out i hi h)
    rw [h, show findV (some i) = (i : Int) from rfl] at HC
    have i0 : (0 : Int) ≤ (i : Int) := by omega
    have i1 : (i : Int) < (ax.length : Int) := by omega
    have i2 : ¬ (i : Int) < 0 := by omega
    obtain ⟨b, o, rfl, hc⟩ : ∃ b o, p = some ⟨b, o, none⟩ ∧ ∀ i (h : i < ax.length), w.cell? ⟨b, o + i * 2, none⟩ = some (.string ax[i].1) ∧ w.cell? ⟨b, o + i * 2 + 1, none⟩ = some (.string ax[i].2) := by
      rcases hk with t | t
      · rw [t] at hi; simp at hi
      · exact t
    have c1 := hide (hc i hi).2
    have CN := hide (show ((w.alloc (.cells #[.string n0, .string n1, .slice (some ⟨b, o, none⟩) ax.length c, .int .i64 n3, .slice pk nk ck] 44)).alloc (.cells #[.string s] 9)).cell? ⟨w.heap.size, 2, none⟩ = some (.slice (some ⟨b, o, none⟩) ax.length c) by simp)
    clear hc HIT MISS h
    generalize ax[i].2 = t at *
    go_enter Tryd.func85, Tryd.ntmps85
    go_wp2_with fail
    refine HC.out.mono ?_
    rintro e w1 ⟨rfl, b1⟩
    have y1 := cell_below (cell_below c1.out B0.out) b1
    have y2 := cell_below CN.out b1
    go_wp2_with fail
    go_ret2
    exact ⟨ret_fndW E.out.1.symm E.out.2.symm, chain B0.out b1⟩
/-- A function value that answers a question of kinds. -/
structure SuchF (g : Nat) (q : Int → Bool) : Prop where
  ent : ∀ args w, (callFunc g args).run Tryd.prog w = .ok (.enter g args) w
  ans : ∀ (k : Int) (W : World), Calls Tryd.prog g #[.int .i64 k] W fun e w' => e = .returned (.bool (q k)) ∧ w' = W
theorem suListed : SuchF 75 listB := ⟨Go.Proofs.enters_of Tryd.func75 (by kernel_rfl) rfl, listed_any⟩
set_option maxHeartbeats 4000000 in
theorem owisForm_any (k : Int) (w : World) :
    Calls Tryd.prog 73 #[.int .i64 k] w fun e w' => e = .returned (.bool (is30 k)) ∧ w' = w := by
  go_enter Tryd.func73, Tryd.ntmps73
  go_wp2_with fail
  go_ret
  exact ⟨rfl, rfl⟩
theorem suisForm : SuchF 73 is30 := ⟨Go.Proofs.enters_of Tryd.func73 (by kernel_rfl) rfl, owisForm_any⟩
set_option maxHeartbeats 4000000 in
theorem owIsOf_any (v : Value) (l : List Nd) (id : Int) (g : Nat) (q : Int → Bool) (hs : SuchF g q) (w : World) (hv : NodesV w v l) (hz : DocSz l) (hT : KTabs w) :
    Calls Tryd.prog 72 #[v, .int .i64 id, .func (.func g) #[] #[]] w fun e w' => e = .returned (.bool (okB l q id)) ∧ Below w.heap.size w w' := by
  obtain ⟨p, c, rfl⟩ := nds_formW hv
  have eg := hs.ent
  by_cases h0 : 0 ≤ id
  · by_cases h1 : id < (l.length : Int)
    · obtain ⟨m, rfl⟩ : ∃ m : Nat, id = (m : Int) := ⟨id.toNat, by omega⟩
      have hm : m < l.length := by omega
      obtain ⟨b, o, va, pk, nk, ck, rfl, N⟩ := node_ofW hv hm
      have nz := hz.nds _ (List.getElem_mem hm)
      have HO := hide (of_any l[m] va (.slice pk nk ck) w hT N.at_ nz.attrs nz.tx)
      have HS := hide (fun W => hs.ans (kOf l[m].name (tyOf l[m].attrs)) W)
      have E : Hid (okB l q (m : Int) = q (kOf l[m].name (tyOf l[m].attrs))) := ok_at hm
      obtain ⟨pa, ca, rfl, hxx⟩ := N.at_
      clear hxx
      have c0 := N.name
      have c1 := N.text
      have c2 := N.attrs
      have c3 := N.parent
      have c4 := N.kids
      clear N hv hz hT nz hs
      generalize q (kOf l[m].name (tyOf l[m].attrs)) = R at *
      generalize kOf l[m].name (tyOf l[m].attrs) = kk at *
      generalize l[m].name = n0 at *
      generalize l[m].text = n1 at *
      generalize l[m].parent = n3 at *
      generalize l[m].attrs.length = n5 at *
      go_enter Tryd.func72, Tryd.ntmps72
      go_wp2_with fail
      refine HO.out.mono ?_
      rintro e w1 ⟨rfl, b1⟩
      go_wp2_with fail
      refine (HS.out _).mono ?_
      rintro e w2 ⟨rfl, hu⟩
      obtain rfl : w1 = w2 := hu.symm
      go_wp2_with fail
      go_ret
      exact ⟨ret_bool E.out.symm, b1⟩
    · have E := hide (ok_out (l := l) (q := q) (id := id) (fun t => h1 t.2))
      have d1 : decide (id < (l.length : Int)) = false := decide_eq_false h1
      clear hv hz hT hs
      go_enter Tryd.func72, Tryd.ntmps72
      go_wp2_with fail
      go_ret
      exact ⟨ret_bool E.out.symm, Below.refl _ _⟩
  · have E := hide (ok_out (l := l) (q := q) (id := id) (fun t => h0 t.1))
    have d0 : decide (0 ≤ id) = false := decide_eq_false h0
    clear hv hz hT hs
    go_enter Tryd.func72, Tryd.ntmps72
    go_wp2_with fail
    go_ret
    exact ⟨ret_bool E.out.symm, Below.refl _ _⟩
set_option maxHeartbeats 4000000 in
theorem owFirstOf_any (v vk : Value) (l : List Nd) (ks : List Int) (g : Nat) (q : Int → Bool) (hs : SuchF g q) (w : World) (hv : NodesV w v l) (hk : IntsV w vk ks) (hz : DocSz l) (hT : KTabs w) (hl : ks.length ≤ 17592186044416) :
    Calls Tryd.prog 97 #[v, vk, .func (.func g) #[] #[]] w fun e w' => e = .returned (.int .i64 (firB l q ks)) ∧ Below w.heap.size w w' := by
  have HI := hide (fun id W (hb : Below w.heap.size w W) => owIsOf_any v l id g q hs W (hv.below hb) hz (hT.below hb))
  have IV := hide hk
  obtain ⟨p, c, rfl⟩ := nds_formW hv
  obtain ⟨pk, ck, rfl, _⟩ := hk
  obtain ⟨RES, hRES⟩ : ∃ R : Int, firB l q ks = R := ⟨_, rfl⟩
  have EL : Hid (RES = (ks.find? (okB l q)).getD (-1)) := hRES.symm
  rw [hRES]
  clear hRES hv hz hT hs
  go_enter Tryd.func97, Tryd.ntmps97
  go_wp2_with fail
  go_loopw [11] (fun iv wr => ∃ k : Nat, k ≤ ks.length ∧ iv = .int .i64 k ∧ Hid (RES = ((ks.drop k).find? (okB l q)).getD (-1)) ∧ Hid (Below w.heap.size w wr)) (fun iv _ => ks.length - (intOf iv).toNat)
  case atStart => exact ⟨0, Nat.zero_le _, rfl, by show _ = _; rw [List.drop_zero]; exact EL.out, Below.refl _ _⟩
  case round =>
    rename World => wr
    obtain ⟨k, hk, rfl, HE, BW⟩ := hrel
    by_cases g : k < ks.length
    · have k1 : (k : Int) < (ks.length : Int) := by omega
      have k0 : (0 : Int) ≤ (k : Int) := by omega
      obtain ⟨pa', ca', eva, hav⟩ := IV.out.below BW.out
      cases eva
      rcases hav with hav | ⟨b2, o2, rfl, hav⟩
      · rw [hav] at g; simp at g
      have x0 := hav k g
      have FN := hide (find_noW (p := okB l q) g)
      have FY := hide (find_yesW (p := okB l q) g)
      have HQ := hide (HI.out ks[k] wr BW.out)
      clear hav HI EL
      cases lb : okB l q ks[k] with
      | false =>
        have E1 : Hid (RES = ((ks.drop (k + 1)).find? (okB l q)).getD (-1)) := by show _ = _; rw [HE.out, FN.out lb]
        rw [lb] at HQ
        clear FN FY HE lb
        generalize ks[k] = z at *
        go_wp2_with fail
        refine HQ.out.mono ?_
        rintro e w1 ⟨rfl, b1⟩
        go_wp2_with fail
        go_round
        case rel => exact ⟨k + 1, by omega, by go_num, E1, chain BW.out b1⟩
        case measure => simp [intOf]; omega
      | true =>
        have E1 : Hid (RES = ks[k]) := by show _ = _; rw [HE.out, FY.out lb]; rfl
        rw [lb] at HQ
        clear FN FY HE lb
        generalize ks[k] = z at *
        go_wp2_with fail
        refine HQ.out.mono ?_
        rintro e w1 ⟨rfl, b1⟩
        go_wp2_with fail
        go_ret
        exact ⟨ret_int E1.out.symm, chain BW.out b1⟩
    · obtain rfl : k = ks.length := by omega
      have E1 : Hid (RES = -1) := by show _ = _; rw [HE.out, List.drop_length]; rfl
      clear HI EL HE
      go_wp2_with fail
      go_ret
      exact ⟨ret_int E1.out.symm, BW.out⟩
set_option maxHeartbeats 4000000 in
theorem owIsRooted_any (v : Value) (l : List Nd) (m0 : Nat) (w : World) (hv : NodesV w v l) (hR : Right l) (h0 : m0 < l.length) :
    Calls Tryd.prog 94 #[v, .int .i64 (m0 : Int)] w fun e w' => e = .returned (.bool (topP l (m0 : Int) == 0)) ∧ Below w.heap.size w w' := by
  obtain ⟨p, c, rfl⟩ := nds_formW hv
  obtain ⟨T, hT⟩ : ∃ T, Hid (topP l (m0 : Int) = T) := ⟨_, show topP l (m0 : Int) = _ from rfl⟩
  rw [hT.out]
  have HRt := hide hR
  have HC := hide (fun m hm => node_ofW hv (m := m) hm)
  clear hR hv
  go_enter Tryd.func94, Tryd.ntmps94
  go_wp2_with fail
  go_loop [1] (fun kv => ∃ m : Nat, kv = .int .i64 (m : Int) ∧ m < l.length ∧ Hid (topP l (m : Int) = T)) (fun kv => hgt l (intOf kv))
  case atStart => exact ⟨m0, rfl, h0, hT⟩
  case round =>
    obtain ⟨m, rfl, hm, hc⟩ := hrel
    clear hT
    have he := HRt.out.ende (show (m : Int) < (l.length : Int) by omega)
    have HH := hide (hgt_up he (by omega))
    have pb := HRt.out.par m hm
    rw [nd_at hm] at pb
    rw [parI_nat hm] at HH
    obtain ⟨b, o, va, pk, nk, ck, rfl, N0⟩ := HC.out m hm
    have a3 := N0.parent
    have m1 : (m : Int) < (l.length : Int) := by omega
    have m0' : (0 : Int) ≤ (m : Int) := by omega
    by_cases q1 : l[m].parent = -1
    · have f1 : (l[m].parent != -1) = false := by rw [q1]; rfl
      have f2 : (l[m].parent == -1) = true := by rw [q1]; rfl
      have E2 : Hid (T = (m : Int)) := by show _ = _; rw [← hc.out]; exact topP_root HRt.out hm q1
      clear q1 hc he HH pb N0 HC
      generalize l[m].parent = pm at *
      go_wp2_with fail
      go_ret
      exact ⟨by rw [E2.out]; rfl, Below.refl _ _⟩
    · have f1 : (l[m].parent != -1) = true := by rw [bne_iff_ne]; exact q1
      have f2 : (l[m].parent == -1) = false := by rw [beq_eq_false_iff_ne]; exact q1
      obtain ⟨n, en⟩ : ∃ n : Nat, l[m].parent = (n : Int) := ⟨l[m].parent.toNat, by omega⟩
      have hn : n < l.length := by omega
      have HC1 : Hid (topP l (n : Int) = T) := by show _ = _; rw [topP_up HRt.out hm en]; exact hc.out
      rw [en] at a3 f1 f2 HH
      clear q1 hc he pb N0 en HC
      go_wp2_with fail
      go_round
      case rel => exact ⟨n, rfl, hn, HC1⟩
      case measure => have := HH.out; show hgt l (n : Int) < hgt l (m : Int); omega
set_option maxHeartbeats 4000000 in
theorem owAbove_any (v : Value) (l : List Nd) (m0 : Nat) (g : Nat) (q : Int → Bool) (hs : SuchF g q) (g2 : Nat) (lb : Array Value) (eg2 : ∀ args w, (callFunc g2 args).run Tryd.prog w = .ok (.enter g2 args) w) (h : Int → Int → Bool) (w : World) (hh : ∀ (a b : Nat), a < l.length → b < l.length → ∀ W, Below w.heap.size w W → Calls Tryd.prog g2 (#[.int .i64 (a : Int), .int .i64 (b : Int)] ++ lb) W fun e w' => e = .returned (.bool (h a b)) ∧ Below W.heap.size W w') (hv : NodesV w v l) (hz : DocSz l) (hT : KTabs w) (hR : Right l) (h0 : m0 < l.length) :
    Calls Tryd.prog 95 #[v, .int .i64 (m0 : Int), .func (.func g) #[] #[], .func (.func g2) #[] lb] w fun e w' => e = .returned (.int .i64 (abvP l q h (m0 : Int))) ∧ Below w.heap.size w w' := by
  have HI := hide (fun id W (hb : Below w.heap.size w W) => owIsOf_any v l id g q hs W (hv.below hb) hz (hT.below hb))
  have HH := hide hh
  have HRt := hide hR
  have HC := hide (fun m hm W (hb : Below w.heap.size w W) => by
    obtain ⟨p, c, e⟩ := nds_formW hv
    have := hv.below hb
    rw [e] at this
    exact (⟨p, c, e, node_ofW (m := m) this hm⟩ : ∃ p c, v = .slice p l.length c ∧ ∃ b o va pk nk ck, p = some ⟨b, o, none⟩ ∧ NodeAt W b (o + m * 5) l[m] va (.slice pk nk ck)))
  obtain ⟨p, c, rfl⟩ := nds_formW hv
  obtain ⟨RES, hRES⟩ : ∃ R : Int, abvP l q h (m0 : Int) = R := ⟨_, rfl⟩
  rw [hRES]
  have EL : Hid (abvP l q h (m0 : Int) = RES) := hRES
  obtain ⟨p', c', e', b, o, va, pk, nk, ck, rfl, N0⟩ := HC.out m0 h0 w (Below.refl _ _)
  cases e'
  have a3 := N0.parent
  have m1 : (m0 : Int) < (l.length : Int) := by omega
  have m0' : (0 : Int) ≤ (m0 : Int) := by omega
  have P0 : Hid (parI l (m0 : Int) = l[m0].parent) := parI_nat h0
  clear hh hRES hv hz hT hs hR N0
  generalize l[m0].parent = pr0 at *
  go_enter Tryd.func95, Tryd.ntmps95
  go_wp2_with fail
  go_step3
  go_wp2_with fail
  go_step3
  go_wp2_with fail
  go_loopw [9, 10] (fun av bv wr => ∃ m : Nat, m < l.length ∧ bv = .int .i64 (m : Int) ∧ av = .int .i64 (parI l (m : Int)) ∧ Hid (abvP l q h (m : Int) = RES) ∧ Hid (Below w.heap.size w wr)) (fun av bv _ => hgt l (intOf bv))
  case atStart => exact ⟨m0, h0, rfl, by rw [P0.out], EL, Below.refl _ _⟩
  case round =>
    rename World => wr
    obtain ⟨m, hm, rfl, rfl, HE, BW⟩ := hrel
    have he := HRt.out.ende (show (m : Int) < (l.length : Int) by omega)
    have HHg := hide (hgt_up he (by omega))
    have pb := HRt.out.par m hm
    rw [nd_at hm] at pb
    have pI : parI l (m : Int) = l[m].parent := parI_nat hm
    rw [← pI] at pb
    by_cases q1 : parI l (m : Int) = -1
    · have E1 : Hid (RES = -1) := by show _ = _; rw [← HE.out]; exact abv_top he (by omega) (by omega)
      have f2 : (parI l (m : Int) == -1) = true := by rw [q1]; rfl
      clear HI HH HC HE EL P0 pI pb HHg he
      rw [q1]
      clear q1 f2
      go_wp2_with fail
      try rw [Exit.noGoto_ret]
      go_ret
      exact ⟨ret_int E1.out.symm, BW.out⟩
    · obtain ⟨n, en⟩ : ∃ n : Nat, parI l (m : Int) = (n : Int) := ⟨(parI l (m : Int)).toNat, by omega⟩
      have hn : n < l.length := by omega
      have f2 : ((n : Int) == -1) = false := by rw [beq_eq_false_iff_ne]; omega
      have f3 : ¬ (n : Int) = -1 := by omega
      have HQ := hide (HI.out (n : Int) wr BW.out)
      obtain ⟨p2, c2, e2, b2, o2, va2, pk2, nk2, ck2, ep, N2⟩ := HC.out n hn wr BW.out
      cases e2
      cases ep
      have n0 : (0 : Int) ≤ (n : Int) := by omega
      have n1 : (n : Int) < (l.length : Int) := by omega
      have P2 : Hid (parI l (n : Int) = l[n].parent) := parI_nat hn
      have MS : Hid (hgt l (n : Int) < hgt l (m : Int)) := by have := HHg.out; rw [en] at this; show _ < _; omega
      have HIT : Hid (okB l q (n : Int) = true → h (n : Int) (m : Int) = true → RES = (n : Int)) := fun t1 t2 => by rw [← HE.out, ← en]; exact abv_hit he (by omega) (by rw [en]; exact t1) (by rw [en]; exact t2)
      have UP : Hid ((okB l q (n : Int) && h (n : Int) (m : Int)) = false → abvP l q h (n : Int) = RES) := fun t => by rw [← HE.out, ← en]; exact abv_up he (by omega) (by rw [en]; exact t)
      rw [en]
      have HHn := hide (fun W hb => HH.out n m hn hm W hb)
      clear HI HH HC HE EL P0 pI pb HHg he q1 en
      cases ok : okB l q (n : Int) with
      | false =>
        rw [ok] at HQ
        have UPn := hide (UP.out (by rw [ok]; rfl))
        clear HIT UP ok
        go_wp2_with fail
        refine HQ.out.mono ?_
        rintro e w1 ⟨rfl, b1⟩
        have a5 := (N2.below b1).parent
        go_wp2_with fail
        go_round
        case rel => exact ⟨n, hn, rfl, by rw [P2.out], UPn, chain BW.out b1⟩
        case measure => exact MS.out
      | true =>
        rw [ok] at HQ
        cases hd : h (n : Int) (m : Int) with
        | true =>
          rw [hd] at HHn
          have R1 := hide (HIT.out ok hd)
          clear HIT UP ok hd
          go_wp2_with fail
          refine HQ.out.mono ?_
          rintro e w1 ⟨rfl, b1⟩
          go_wp2_with fail
          refine (HHn.out _ (chain BW.out b1)).mono ?_
          rintro e w2 ⟨rfl, b2⟩
          go_wp2_with fail
          try rw [Exit.noGoto_ret]
          go_ret
          exact ⟨ret_int R1.out.symm, chain (chain BW.out b1) b2⟩
        | false =>
          rw [hd] at HHn
          have UPn := hide (UP.out (by rw [ok, hd]; rfl))
          clear HIT UP ok hd
          go_wp2_with fail
          refine HQ.out.mono ?_
          rintro e w1 ⟨rfl, b1⟩
          go_wp2_with fail
          refine (HHn.out _ (chain BW.out b1)).mono ?_
          rintro e w2 ⟨rfl, b2⟩
          have a5 := ((N2.below b1).below b2).parent
          go_wp2_with fail
          go_round
          case rel => exact ⟨n, hn, rfl, by rw [P2.out], UPn, chain (chain BW.out b1) b2⟩
          case measure => exact MS.out
end Go.Proofs.YtldbaoolddlacaaDoor

namespace Go.Proofs.YtldbaoolddlacaaDoor
open Go.RowKit Go.Shelf
set_option maxRecDepth 100000
set_option maxHeartbeats 8000000 in
theorem gpRadios1_any (v : Value) (l : List Nd) (x : Int) (Bl : Nat) (w : World) (hv : NodesV w v l) (hz : DocSz l) (hT : KTabs w) (x1 : w.cell? ⟨Bl, 0, none⟩ = some v) :
    Calls Tryd.prog 55 #[.int .i64 x, .pointer (some ⟨Bl, 0, none⟩)] w fun e w' => e = .returned (.bool (!isAB l x 17)) ∧ Below w.heap.size w w' := by
  have HI := hide (gpIsA_any v l x 17 w hv hz hT)
  generalize isAB l x 17 = r at *
  obtain ⟨p, c, rfl⟩ := nds_formW hv
  clear hv hz hT
  go_enter Tryd.func55, Tryd.ntmps55
  go_wp2_with fail
  refine HI.out.mono ?_
  rintro e w1 ⟨rfl, b1⟩
  go_wp2_with fail
  go_ret
  exact ⟨rfl, b1⟩
theorem entGpRad : ∀ args w, (callFunc 55 args).run Tryd.prog w = .ok (.enter 55 args) w := Go.Proofs.enters_of Tryd.func55 (by kernel_rfl) rfl
set_option maxHeartbeats 8000000 in
theorem gpRadios_any (v : Value) (l : List Nd) (t : Nat) (w : World) (hv : NodesV w v l) (hz : DocSz l) (hT : KTabs w) (hR : Right l) (ht : t < l.length) :
    Calls Tryd.prog 36 #[v, .int .i64 (t : Int)] w fun e w' => ∃ v', e = .returned v' ∧ KidsO w.heap.size w' v' (radG l t) ∧ Below w.heap.size w w' := by
  have rb := right_is.2 hR
  have hNt : hasN l (t : Int) = true := by unfold hasN; rw [decide_eq_true (by omega), rb]; rfl
  have tr : inR l (t : Int) := ⟨by omega, by omega⟩
  have eO : ordL l (t : Int) = orderP l (t : Int) := (if_pos hNt).trans (order_down hR tr).symm
  have HOr := hide (fun W (hb : Below w.heap.size w W) => order_any v l (t : Int) W (hv.below hb) hz)
  rw [eO] at HOr
  have OL : Hid ((orderP l (t : Int)).length ≤ 17592186044416) := by
    show _ ≤ _
    rw [order_down hR tr]
    have := down_few hR tr
    omega
  have HDl := hide (fun (vo : Value) (B : Nat) (W : World) (ko : KidsO B W vo (orderP l (t : Int))) (Bl : Nat) (hp : PredX 55 #[.pointer (some ⟨Bl, 0, none⟩)] (Value.int .i64) (fun x => !isAB l x 17) (vo.ownBlock.toList) W) => deleteFuncI_any B vo (orderP l (t : Int)) (fun x => !isAB l x 17) 55 #[.pointer (some ⟨Bl, 0, none⟩)] entGpRad W ko hp OL.out)
  have H2 := hide (fun x Bl W (hb : Below w.heap.size w W) x1 => gpRadios1_any v l x Bl W (hv.below hb) hz (hT.below hb) x1)
  have EF : Hid ((nd l t).parent = -1 → (orderP l (t : Int)).filter (fun x => !!isAB l x 17) = radG l t) := fun q => by
    unfold radG
    rw [if_pos q]
    refine filter_in fun x hx => ?_
    have r := (order_mem hR tr.1 tr.2 x).1 hx
    unfold isAB radB kI
    rw [decide_eq_true ⟨r.1, r.2.1⟩, Bool.true_and, Bool.not_not]
  have EN : Hid (¬ (nd l t).parent = -1 → radG l t = []) := fun q => by unfold radG; rw [if_neg q]
  obtain ⟨p, c, rfl⟩ := nds_formW hv
  obtain ⟨b, o, va, pk, nk, ck, rfl, N⟩ := node_ofW hv ht
  have hlt : b < w.heap.size := World.block_lt_of_cell? _ _ N.name
  have BW1 : Hid (Below w.heap.size w (w.alloc (.cells #[.slice (some ⟨b, o, none⟩) l.length c] 22))) := (Below.refl _ w).alloc (Nat.le_refl _) _
  have c3 := cell_below N.parent BW1.out
  have m0 : (0 : Int) ≤ (t : Int) := by omega
  have m1 : (t : Int) < (l.length : Int) := by omega
  have K1 : Hid (Bk (w.alloc (.cells #[.slice (some ⟨b, o, none⟩) l.length c] 22)) w.heap.size [.slice (some ⟨b, o, none⟩) l.length c] 22) := Bk.new w _ _
  rw [nd_at ht] at EF EN
  clear N hv hz hT hR rb hNt tr eO OL
  generalize orderP l (t : Int) = ord at *
  generalize radG l t = RG at *
  generalize l[t].parent = n3 at *
  by_cases q : n3 = -1
  · have E := hide (EF.out q)
    subst q
    have d1 : ((-1 : Int) == -1) = true := by decide
    clear EF EN
    go_enter Tryd.func36, Tryd.ntmps36
    go_wp2_with fail
    refine (HOr.out _ BW1.out).mono ?_
    rintro e w5 ⟨vo, rfl, KO, b5⟩
    replace KO := hide KO
    have OB : Hid (∀ k ∈ vo.ownBlock.toList, (w.alloc (.cells #[.slice (some ⟨b, o, none⟩) l.length c] 22)).heap.size ≤ k) := fun k hk => (World.ownsRow.lt KO.out k (opt_mem.1 hk)).1
    have PX : Hid (PredX 55 #[.pointer (some ⟨w.heap.size, 0, none⟩)] (Value.int .i64) (fun x => !isAB l x 17) (vo.ownBlock.toList) w5) := fun W x hc => by
      have hb : Below (w.alloc (.cells #[.slice (some ⟨b, o, none⟩) l.length c] 22)).heap.size (w.alloc (.cells #[.slice (some ⟨b, o, none⟩) l.length c] 22)) W := b5.trans (hc.below b5.size OB.out)
      exact H2.out x _ W (chain BW1.out hb) ((K1.out.below hb).cell 0 rfl)
    have HD := hide (HDl.out vo _ w5 KO.out _ PX.out)
    rw [E.out] at HD
    have B7 := hide (chain BW1.out b5)
    have h56 := BW1.out.size
    clear HDl H2 PX K1 E HOr BW1 c3
    obtain ⟨po, ko, eo, _⟩ := KO.out.ints
    subst eo
    go_wp2_with fail
    refine HD.out.mono ?_
    rintro e w6 ⟨q6, n6, c6, rfl, o6, ch6, _⟩
    have B8 : Hid (Below w.heap.size w w6) := B7.out.trans (ch6.below B7.out.size (fun k hk => Nat.le_trans h56 (OB.out k hk)))
    go_wp2_with fail
    go_ret
    exact ⟨_, rfl, owns_mono o6 h56, B8.out⟩
  · have E := hide (EN.out q)
    have d1 : (n3 == -1) = false := by rw [beq_eq_false_iff_ne]; exact q
    clear EF EN HDl H2 HOr K1
    go_enter Tryd.func36, Tryd.ntmps36
    go_wp2_with fail
    go_ret
    exact ⟨_, rfl, by rw [E.out]; exact World.ownsRow_nil _ _ _ _, BW1.out⟩
/-- A key as a value. -/
def keyV (k : GKey) : Value := .agg #[.string k.1, .int .i64 k.2.1, .int .i64 k.2.2.1, .int .i64 k.2.2.2]
set_option maxHeartbeats 8000000 in
theorem gpKeyOf_any (v : Value) (l : List Nd) (m : Nat) (w : World) (hv : NodesV w v l) (hz : DocSz l) (hm : m < l.length) :
    Calls Tryd.prog 37 #[v, .int .i64 (m : Int), .int .i64 (formP l (m : Int)), .int .i64 (topP l (m : Int))] w fun e w' => e = .returned (keyV (keyG l (m : Int))) ∧ Below w.heap.size w w' := by
  have nz := hz.nds _ (List.getElem_mem hm)
  obtain ⟨p, c, rfl⟩ := nds_formW hv
  obtain ⟨b, o, va, pk, nk, ck, rfl, N⟩ := node_ofW hv hm
  have BW1 : Hid (Below w.heap.size w (w.alloc (.cells #[.string ⟨#[]⟩, .int .i64 0, .int .i64 0, .int .i64 0] 65))) := (Below.refl _ w).alloc (Nat.le_refl _) _
  have K1 : Hid (Bk (w.alloc (.cells #[.string ⟨#[]⟩, .int .i64 0, .int .i64 0, .int .i64 0] 65)) w.heap.size [.string ⟨#[]⟩, .int .i64 0, .int .i64 0, .int .i64 0] 65) := Bk.new w _ _
  have HN := hide (gpName_any l[m] va pk nk ck _ (N.at_.below BW1.out) nz.attrs)
  have EI : Hid (fndS l[m].attrs oNam = nmA l (m : Int)) := by show _ = _; unfold nmA; rw [Int.toNat_natCast, nd_at hm]
  rw [EI.out] at HN
  have E : Hid (keyG l (m : Int) = if (nmA l (m : Int)).size = 0 then (⟨#[]⟩, 0, 0, (m : Int)) else (nmA l (m : Int), formP l (m : Int), topP l (m : Int), 0)) := rfl
  obtain ⟨pa, ca, rfl, hxx⟩ := N.at_
  clear hxx
  have c0 := cell_below N.name BW1.out
  have c1 := cell_below N.text BW1.out
  have c2 := cell_below N.attrs BW1.out
  have c3 := cell_below N.parent BW1.out
  have c4 := cell_below N.kids BW1.out
  have m0 : (0 : Int) ≤ (m : Int) := by omega
  have m1 : (m : Int) < (l.length : Int) := by omega
  clear N hv hz nz EI
  generalize keyG l (m : Int) = KG at *
  generalize nmA l (m : Int) = nm at *
  generalize formP l (m : Int) = fo at *
  generalize topP l (m : Int) = tp at *
  generalize l[m].name = n0 at *
  generalize l[m].text = n1 at *
  generalize l[m].parent = n3 at *
  generalize l[m].attrs.length = n5 at *
  by_cases q : nm.size = 0
  · rw [if_pos q] at E
    have e1 : nm.toList = [] := by
      rw [ByteArray.toList_eq]
      exact List.eq_nil_of_length_eq_zero (by rw [Array.length_toList]; exact q)
    have e2 : nm.toList.isEmpty = true := by rw [e1]; rfl
    clear q
    go_enter Tryd.func37, Tryd.ntmps37
    go_wp2_with fail
    refine HN.out.mono ?_
    rintro e w1 ⟨rfl, b1⟩
    have K2 := K1.out.below b1
    have k0 := K2.cell 0 rfl
    have k1 := K2.cell 1 rfl
    have k2 := K2.cell 2 rfl
    have k3 := K2.cell 3 rfl
    have f0 := K2.free 0
    have f1 := K2.free 1
    have f2 := K2.free 2
    have f3 := K2.free 3
    have hl1 : w.heap.size < w1.heap.size := K2.lt
    replace K2 := hide K2
    have B1 := hide (chain BW1.out b1)
    clear b1 K1 BW1 c0 c1 c2 c3 c4
    go_wp2_with fail
    have K3 := (((K2.out.set 0 (.string ⟨#[]⟩)).set 1 (.int .i64 0)).set 2 (.int .i64 0)).set 3 (.int .i64 (m : Int))
    have B4 : Below w.heap.size w ((((w1.setCell ⟨w.heap.size, 0, none⟩ (.string ⟨#[]⟩)).setCell ⟨w.heap.size, 1, none⟩ (.int .i64 0)).setCell ⟨w.heap.size, 2, none⟩ (.int .i64 0)).setCell ⟨w.heap.size, 3, none⟩ (.int .i64 (m : Int))) := (((B1.out.setCell (Nat.le_refl _) _).setCell (Nat.le_refl _) _).setCell (Nat.le_refl _) _).setCell (Nat.le_refl _) _
    obtain ⟨w4, hw4⟩ : ∃ w4, ((((w1.setCell ⟨w.heap.size, 0, none⟩ (.string ⟨#[]⟩)).setCell ⟨w.heap.size, 1, none⟩ (.int .i64 0)).setCell ⟨w.heap.size, 2, none⟩ (.int .i64 0)).setCell ⟨w.heap.size, 3, none⟩ (.int .i64 (m : Int))) = w4 := ⟨_, rfl⟩
    rw [hw4] at K3 B4
    rw [hw4]
    have y0 := K3.cell 0 rfl
    have y1 := K3.cell 1 rfl
    have y2 := K3.cell 2 rfl
    have y3 := K3.cell 3 rfl
    clear hw4 k0 k1 k2 k3 f0 f1 f2 f3
    refine bodyPost_ret (v := .agg #[.string ⟨#[]⟩, .int .i64 0, .int .i64 0, .int .i64 (m : Int)]) (by simp [results, go_sem, y0, y1, y2, y3]) rfl ?_
    exact ⟨by rw [E.out]; rfl, B4⟩
  · rw [if_neg q] at E
    have e1 : ¬ nm.toList = [] := fun t => q (by rw [ByteArray.toList_eq] at t; have := congrArg List.length t; rw [Array.length_toList] at this; exact this)
    have e2 : nm.toList.isEmpty = false := by
      cases h : nm.toList with
      | nil => exact absurd h e1
      | cons a b => rfl
    clear q
    go_enter Tryd.func37, Tryd.ntmps37
    go_wp2_with fail
    refine HN.out.mono ?_
    rintro e w1 ⟨rfl, b1⟩
    have K2 := K1.out.below b1
    have k0 := K2.cell 0 rfl
    have k1 := K2.cell 1 rfl
    have k2 := K2.cell 2 rfl
    have k3 := K2.cell 3 rfl
    have f0 := K2.free 0
    have f1 := K2.free 1
    have f2 := K2.free 2
    have f3 := K2.free 3
    have hl1 : w.heap.size < w1.heap.size := K2.lt
    replace K2 := hide K2
    have B1 := hide (chain BW1.out b1)
    clear b1 K1 BW1 c0 c1 c2 c3 c4
    go_wp2_with fail
    have K3 := (((K2.out.set 0 (.string nm)).set 1 (.int .i64 fo)).set 2 (.int .i64 tp)).set 3 (.int .i64 0)
    have B4 : Below w.heap.size w ((((w1.setCell ⟨w.heap.size, 0, none⟩ (.string nm)).setCell ⟨w.heap.size, 1, none⟩ (.int .i64 fo)).setCell ⟨w.heap.size, 2, none⟩ (.int .i64 tp)).setCell ⟨w.heap.size, 3, none⟩ (.int .i64 0)) := (((B1.out.setCell (Nat.le_refl _) _).setCell (Nat.le_refl _) _).setCell (Nat.le_refl _) _).setCell (Nat.le_refl _) _
    obtain ⟨w4, hw4⟩ : ∃ w4, ((((w1.setCell ⟨w.heap.size, 0, none⟩ (.string nm)).setCell ⟨w.heap.size, 1, none⟩ (.int .i64 fo)).setCell ⟨w.heap.size, 2, none⟩ (.int .i64 tp)).setCell ⟨w.heap.size, 3, none⟩ (.int .i64 0)) = w4 := ⟨_, rfl⟩
    rw [hw4] at K3 B4
    rw [hw4]
    have y0 := K3.cell 0 rfl
    have y1 := K3.cell 1 rfl
    have y2 := K3.cell 2 rfl
    have y3 := K3.cell 3 rfl
    clear hw4 k0 k1 k2 k3 f0 f1 f2 f3
    refine bodyPost_ret (v := .agg #[.string nm, .int .i64 fo, .int .i64 tp, .int .i64 0]) (by simp [results, go_sem, y0, y1, y2, y3]) rfl ?_
    exact ⟨by rw [E.out]; rfl, B4⟩
end Go.Proofs.YtldbaoolddlacaaDoor

namespace Go.Proofs.YtldbaoolddlacaaDoor
open Go.RowKit Go.Maps
set_option maxRecDepth 100000
theorem gkLaid : laidOutB Tryd.prog = true := by kernel_rfl
theorem gkRow : (65 : TypeId) < Tryd.prog.types.size := of_decide_eq_true (by kernel_rfl)
theorem gkWide : (match Tryd.prog.underlying 65 with | some (.array _ _) | some (.struct _) => true | _ => false) = true := by kernel_rfl
theorem gkLaw : Keyed Tryd.prog 65 := Keyed.of_law (deep_law_laid gkLaid (m := 2) (by omega) gkRow (by kernel_rfl) gkWide)
theorem gkType : Tryd.prog.keyType 65 = true := by kernel_rfl
theorem gkCells : Tryd.prog.cellsOf 65 = 4 := by kernel_rfl
theorem gkCellsS : Tryd.prog.cellsOf 9 = 1 := by kernel_rfl
theorem gkCellsI : Tryd.prog.cellsOf 3 = 1 := by kernel_rfl
/-- Keys that a document's buttons have. -/
structure KeyOK (k : GKey) : Prop where
  nm : k.1.size ≤ maxLen
  f : (Lit.int .i64 k.2.1).wf = true
  t : (Lit.int .i64 k.2.2.1).wf = true
  s : (Lit.int .i64 k.2.2.2).wf = true
set_option maxHeartbeats 2000000 in
theorem key_some {k : GKey} (h : KeyOK k) : ∃ kl, keyOf Tryd.prog 65 (keyV k) = some kl := by
  obtain ⟨d, hd⟩ : ∃ d, Tryd.prog.types.size = d + 1 := ⟨Tryd.prog.types.size - 1, (Nat.succ_pred_eq_of_pos (Nat.lt_of_le_of_lt (Nat.zero_le _) gkRow)).symm⟩
  have hs : Tryd.prog.keyLits (d + 1) 9 [.string k.1] = some [.string k.1.data.toList] := by simp [Program.keyLits, Tryd.underlying9, h.nm]
  have hi : ∀ n, (Lit.int .i64 n).wf = true → Tryd.prog.keyLits (d + 1) 3 [.int .i64 n] = some [.int .i64 n] := fun n hn => by simp [Program.keyLits, Tryd.underlying3, hn]
  have hf := hi _ h.f
  have ht := hi _ h.t
  have hs2 := hi _ h.s
  have hk : Tryd.prog.keyLits (d + 1 + 1) 65 [.string k.1, .int .i64 k.2.1, .int .i64 k.2.2.1, .int .i64 k.2.2.2] = some [.string k.1.data.toList, .int .i64 k.2.1, .int .i64 k.2.2.1, .int .i64 k.2.2.2] := by
    unfold Program.keyLits
    rw [Tryd.underlying65]
    simp [gkCells, gkCellsS, gkCellsI, hs, hf, ht, hs2]
  unfold keyOf keyV
  rw [Tryd.underlying65, hd]
  simp [gkType, Value.formed, Tryd.underlying65, gkCells, Value.cells, hk]
end Go.Proofs.YtldbaoolddlacaaDoor

namespace Go.Proofs.YtldbaoolddlacaaDoor
open Go.RowKit Go.Maps
set_option maxRecDepth 100000
def vAt (V : List Value) (i : Nat) : Value := V.getD i (.slice none 0 0)
theorem vAt_at {V : List Value} {i : Nat} (h : i < V.length) : V[i]? = some (vAt V i) := by unfold vAt; rw [List.getD_eq_getElem?_getD, List.getElem?_eq_getElem h]; rfl
theorem vAt_app {V : List Value} {x : Value} {i : Nat} (h : i < V.length) : vAt (V ++ [x]) i = vAt V i := by
  unfold vAt
  rw [List.getD_eq_getElem?_getD, List.getD_eq_getElem?_getD, List.getElem?_append_left h]
theorem vAt_new {V : List Value} {x : Value} {i : Nat} (h : i = V.length) : vAt (V ++ [x]) i = x := by
  unfold vAt
  rw [List.getD_eq_getElem?_getD, h, List.getElem?_append_right (Nat.le_refl _), Nat.sub_self]; rfl
theorem vAt_set {V : List Value} {x : Value} {p i : Nat} (h : p < V.length) : vAt (V.set p x) i = if i = p then x else vAt V i := by
  unfold vAt
  rw [List.getD_eq_getElem?_getD, List.getD_eq_getElem?_getD, List.getElem?_set]
  by_cases e : p = i
  · subst e
    rw [if_pos rfl, if_pos h, if_pos rfl]; rfl
  · rw [if_neg e, if_neg (fun t => e t.symm)]
structure RowsO (B : Nat) (w : World) (v : Value) (G : List (List Int)) (V : List Value) : Prop where
  len : V.length = G.length
  row : w.ownsRow B 25 1 v G.length V
  at_ : ∀ i (h : i < G.length), KidsO B w (vAt V i) G[i]
  far : ∀ i j b, i < G.length → j < G.length → (vAt V i).ownBlock = some b → (vAt V j).ownBlock = some b → i = j
/-- A row of numbers isn't a row of rows. -/
theorem rows_far {B B' : Nat} {w : World} {v u : Value} {ks : List Int} {n : Nat} {xs : List Value} (h : KidsO B w v ks) (hu : w.ownsRow B' 25 1 u n xs) : ∀ j, v.ownBlock = some j → ¬ u.ownBlock = some j := fun j hj q => by
  rcases h.2 with ⟨rfl, _⟩ | ⟨g, cap, cur, rfl, _, hg, _⟩
  · cases hj
  · rcases hu.2 with ⟨rfl, _⟩ | ⟨g', cap', cur', rfl, _, hg', _⟩
    · cases q
    · obtain rfl : g = j := Option.some.inj hj
      obtain rfl : g' = g := Option.some.inj q
      rw [hg] at hg'
      cases hg'
theorem RowsO.kept {B : Nat} {S : List Nat} {w w' : World} {v : Value} {G : List (List Int)} {V : List Value} (h : RowsO B w v G V) (hc : Chg S w w') (h1 : ∀ k, v.ownBlock = some k → k ∉ S) (h2 : ∀ i k, i < G.length → (vAt V i).ownBlock = some k → k ∉ S) : RowsO B w' v G V :=
  ⟨h.len, owns_kept h.row hc h1, fun i hi => owns_kept (h.at_ i hi) hc (fun k hk => h2 i k hi hk), h.far⟩
theorem RowsO.below {B : Nat} {w w' : World} {v : Value} {G : List (List Int)} {V : List Value} (h : RowsO B w v G V) (hb : Below w.heap.size w w') : RowsO B w' v G V := h.kept (Chg.of_below hb) (fun _ _ q => by cases q) (fun _ _ _ _ q => by cases q)
theorem RowsO.nil (B : Nat) (w : World) : RowsO B w (.slice none 0 0) [] [] := ⟨rfl, World.ownsRow_nil _ _ _ _, fun i h => by simp at h, fun i j b h => by simp at h⟩
theorem RowsO.lt {B : Nat} {w : World} {v : Value} {G : List (List Int)} {V : List Value} (h : RowsO B w v G V) {i b : Nat} (hi : i < G.length) (hb : (vAt V i).ownBlock = some b) : B ≤ b ∧ b < w.heap.size := World.ownsRow.lt (h.at_ i hi) b hb
/-- One more, empty. -/
theorem RowsO.push {B : Nat} {w w' : World} {v v' : Value} {G : List (List Int)} {V : List Value} (h : RowsO B w v G V) (hc : Chg v.ownBlock.toList w w') (hr : w'.ownsRow B 25 1 v' (G.length + 1) (V ++ [.slice none 0 0])) : RowsO B w' v' (G ++ [[]]) (V ++ [.slice none 0 0]) := by
  have gl : (G ++ [([] : List Int)]).length = G.length + 1 := by simp
  refine ⟨by rw [gl, List.length_append, h.len]; rfl, by rw [gl]; exact hr, fun i hi => ?_, fun i j b hi hj h1 h2 => ?_⟩
  · by_cases e : i < G.length
    · rw [vAt_app (by rw [h.len]; exact e), List.getElem_append_left e]
      exact owns_kept (h.at_ i e) hc (fun k hk q => rows_far (h.at_ i e) h.row k hk (opt_mem.1 q))
    · have e2 : i = G.length := by rw [gl] at hi; omega
      subst e2
      rw [vAt_new h.len.symm, List.getElem_append_right (Nat.le_refl _)]
      simp only [Nat.sub_self, List.getElem_cons_zero]
      exact World.ownsRow_nil _ _ _ _
  · have no : ∀ i, ¬ i < G.length → i < (G ++ [([] : List Int)]).length → (vAt (V ++ [.slice none 0 0]) i).ownBlock = none := fun i e hi => by
      rw [vAt_new (by rw [h.len]; rw [gl] at hi; omega)]; rfl
    by_cases e1 : i < G.length
    · by_cases e2 : j < G.length
      · rw [vAt_app (by rw [h.len]; exact e1)] at h1
        rw [vAt_app (by rw [h.len]; exact e2)] at h2
        exact h.far i j b e1 e2 h1 h2
      · rw [no j e2 hj] at h2; cases h2
    · rw [no i e1 hi] at h1; cases h1
/-- One of them, with one more number. -/
theorem RowsO.put {B : Nat} {w w1 : World} {v : Value} {G : List (List Int)} {V : List Value} (h : RowsO B w v G V) {p : Nat} (hp : p < G.length) {u : Value} {ks : List Int} (hc : Chg (vAt V p).ownBlock.toList w w1) (hk : KidsO B w1 u ks) (hl : u.ownBlock = (vAt V p).ownBlock ∨ ∀ b, u.ownBlock = some b → w.heap.size ≤ b) {g : Nat} (hg : v.ownBlock = some g) :
    RowsO B (w1.setCell ⟨g, p, none⟩ u) v (G.set p ks) (V.set p u) := by
  have hpv : p < V.length := by rw [h.len]; exact hp
  have r1 : w1.ownsRow B 25 1 v G.length V := owns_kept h.row hc (fun k hk' q => rows_far (h.at_ p hp) h.row k (opt_mem.1 q) hk')
  have r2 := owns_set r1 hg p u
  refine ⟨by rw [List.length_set, List.length_set]; exact h.len, by rw [List.length_set]; exact r2, fun i hi => ?_, fun i j b hi hj h1 h2 => ?_⟩
  · rw [List.length_set] at hi
    rw [vAt_set hpv]
    by_cases e : i = p
    · subst e
      rw [if_pos rfl, List.getElem_set_self]
      exact owns_kept hk (Chg.setB w1 g i u) (fun k hk' q => rows_far hk r1 k hk' (by rw [List.mem_singleton] at q; rw [q]; exact hg))
    · rw [if_neg e, List.getElem_set_ne (fun t => e t.symm)]
      have k1 : KidsO B w1 (vAt V i) G[i] := owns_kept (h.at_ i hi) hc (fun k hk' q => e (h.far i p k hi hp hk' (opt_mem.1 q)))
      exact owns_kept k1 (Chg.setB w1 g p u) (fun k hk' q => rows_far k1 r1 k hk' (by rw [List.mem_singleton] at q; rw [q]; exact hg))
  · rw [List.length_set] at hi hj
    rw [vAt_set hpv] at h1 h2
    have A : ∀ j b, j < G.length → ¬ j = p → u.ownBlock = some b → (vAt V j).ownBlock = some b → False := fun j b hj e a1 a2 => by
      rcases hl with t | t
      · rw [t] at a1; exact e (h.far j p b hj hp a2 a1)
      · have := t b a1
        have := (h.lt hj a2).2
        omega
    by_cases e1 : i = p
    · by_cases e2 : j = p
      · rw [e1, e2]
      · rw [if_pos e1] at h1
        rw [if_neg e2] at h2
        exact (A j b hj e2 h1 h2).elim
    · by_cases e2 : j = p
      · rw [if_neg e1] at h1
        rw [if_pos e2] at h2
        exact (A i b hi e1 h2 h1).elim
      · rw [if_neg e1] at h1
        rw [if_neg e2] at h2
        exact h.far i j b hi hj h1 h2
/-- A map from keys to places. -/
structure PlG (K : List GKey) (D : DataW Unit) : Prop where
  map : IsMap D
  ok : ∀ k ∈ K, KeyOK k
  has_ : ∀ k kl, keyOf Tryd.prog 65 (keyV k) = some kl → Maps.has D kl = memK k K
  at_ : ∀ i (h : i < K.length) kl, keyOf Tryd.prog 65 (keyV K[i]) = some kl → D.atKey kl (.lit (.int .i64 0)) = .lit (.int .i64 (i : Int))
theorem keyV_inj {a b : GKey} (h : keyV a = keyV b) : a = b := by
  unfold keyV at h
  simp only [Value.agg.injEq, Array.mk.injEq, List.cons.injEq, Value.string.injEq, Value.int.injEq, and_true, true_and] at h
  exact Prod.ext h.1 (Prod.ext h.2.1 (Prod.ext h.2.2.1 h.2.2.2))
theorem PlG.nil : PlG [] (.map []) := ⟨⟨[], rfl⟩, fun k h => (by cases h), fun k kl _ => rfl, fun i h => (by simp at h)⟩
theorem PlG.add {K : List GKey} {D : DataW Unit} (h : PlG K D) {k : GKey} {kl : Lit} (hk : keyOf Tryd.prog 65 (keyV k) = some kl) (ho : KeyOK k) (hn : ¬ k ∈ K) : PlG (K ++ [k]) (D.put kl (.lit (.int .i64 (K.length : Int)))) := by
  have hl := gkLaw.key hk
  refine ⟨?_, fun x hx => ?_, fun x xl hx => ?_, fun i hi xl hx => ?_⟩
  · obtain ⟨es, rfl⟩ := h.map
    exact ⟨_, rfl⟩
  · rcases List.mem_append.1 hx with hx | hx
    · exact h.ok x hx
    · rw [List.mem_singleton.1 hx]; exact ho
  · by_cases e : xl = kl
    · subst e
      have ek := keyV_inj (gkLaw.inj hx hk)
      subst ek
      rw [has_put_same h.map hl]
      exact (memK_iff.2 (List.mem_append.2 (.inr (List.mem_singleton.2 rfl)))).symm
    · rw [has_put_other e, h.has_ x xl hx]
      rw [Bool.eq_iff_iff, memK_iff, memK_iff, List.mem_append, List.mem_singleton]
      exact ⟨.inl, fun t => t.elim id (fun t => absurd (by rw [t, hk] at hx; exact (Option.some.inj hx).symm) e)⟩
  · by_cases e : i < K.length
    · rw [List.getElem_append_left e] at hx
      have ne : xl ≠ kl := fun t => by
        subst t
        have ek := keyV_inj (gkLaw.inj hx hk)
        exact hn (ek ▸ List.getElem_mem e)
      rw [atKey_put_other ne]
      exact h.at_ i e xl hx
    · have e2 : i = K.length := by rw [List.length_append] at hi; simp at hi; omega
      subst e2
      rw [List.getElem_append_right (Nat.le_refl _)] at hx
      simp only [Nat.sub_self, List.getElem_cons_zero] at hx
      have : xl = kl := by rw [hk] at hx; exact (Option.some.inj hx).symm
      subst this
      exact atKey_put_same h.map hl _ _

end Go.Proofs.YtldbaoolddlacaaDoor
