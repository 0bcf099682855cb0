/- The program's isA, nameOf, checkOnly, radios of layer 17. -/
import Derived.Test.YtldbaoolddlacaaDoorJgd14
import Derived.Test.YtldbaoolddlacaaDoorJgd17
import Derived.Laws.EntriesVeiled
import Derived.WalkMore

namespace Go.Proofs.YtldbaoolddlacaaDoor
open Go.RowKit
set_option maxRecDepth 100000
set_option maxHeartbeats 4000000 in
theorem gpIsA_any (v : Value) (l : List Nd) (id k : Int) (w : World) (hv : NodesV w v l) (hz : DocSz l) (hT : KTabs w) :
    Calls Tryd.prog 14 #[v, .int .i64 id, .int .i64 k] w fun e w' => e = .returned (.bool (isAB l id k)) ∧ Below w.heap.size w w' := by
  obtain ⟨p, c, rfl, hv⟩ := hv
  by_cases h0 : 0 ≤ id
  · by_cases h1 : id < (l.length : Int)
    · obtain ⟨m, rfl⟩ : ∃ m : Nat, id = (m : Int) := ⟨id.toNat, by omega⟩
      have hm : m < l.length := by omega
      rcases hv with hv | ⟨b, o, rfl, hv⟩
      · rw [hv] at hm; simp at hm
      obtain ⟨va, vk, N⟩ := hv m hm
      have nz := hz.nds _ (List.getElem_mem hm)
      have HO := hide (of_any l[m] va vk w hT N.at_ nz.attrs nz.tx)
      have E : Hid (isAB l (m : Int) k = (kOf l[m].name (tyOf l[m].attrs) == k)) := by
        show _ = _
        rw [isA_at hm]
        unfold kN
        cases q : (kOf l[m].name (tyOf l[m].attrs) == k) with
        | true => exact decide_eq_true (by simpa using q)
        | false => exact decide_eq_false (by simpa using q)
      obtain ⟨pa, ca, rfl, hxx⟩ := N.at_
      clear hxx
      obtain ⟨pk, ck, rfl, hxx⟩ := N.ks
      clear hxx
      have c0 := N.name
      have c1 := N.text
      have c2 := N.attrs
      have c3 := N.parent
      have c4 := N.kids
      clear N hv hz hT nz
      generalize kOf l[m].name (tyOf l[m].attrs) = kk at *
      generalize l[m].name = n0 at *
      generalize l[m].text = n1 at *
      generalize l[m].parent = n3 at *
      generalize l[m].attrs.length = n5 at *
      generalize l[m].kids.length = n6 at *
      go_enter Tryd.func14, Tryd.ntmps14
      go_wp2_with fail
      refine HO.out.mono ?_
      rintro e w1 ⟨rfl, b1⟩
      go_wp2_with fail
      go_ret
      exact ⟨ret_bool E.out.symm, b1⟩
    · have E := hide (isA_out (l := l) (id := id) (k := k) (fun t => h1 t.2))
      have d1 : decide (id < (l.length : Int)) = false := decide_eq_false h1
      clear hv hz hT
      go_enter Tryd.func14, Tryd.ntmps14
      go_wp2_with fail
      go_ret
      exact ⟨ret_bool E.out.symm, Below.refl _ _⟩
  · have E := hide (isA_out (l := l) (id := id) (k := k) (fun t => h0 t.1))
    have d0 : decide (0 ≤ id) = false := decide_eq_false h0
    clear hv hz hT
    go_enter Tryd.func14, Tryd.ntmps14
    go_wp2_with fail
    go_ret
    exact ⟨ret_bool E.out.symm, Below.refl _ _⟩
set_option maxHeartbeats 8000000 in
theorem gpName1_any (x : ByteArray × ByteArray) (W : World) :
    Calls Tryd.prog 78 #[.agg #[.string x.1, .string x.2]] W fun e w' => e = .returned (.bool (isN oNam x)) ∧ Below W.heap.size W w' := by
  have E : Hid ((x.1.toList == [110, 97, 109, 101]) = isN oNam x) := by
    show _ = _
    unfold isN
    rw [ByteArray.toList_eq, Bool.eq_iff_iff, beq_iff_eq, decide_eq_true_eq]
    constructor
    · intro h
      exact ByteArray.ext (Array.toList_inj.1 h)
    · intro h; rw [h]; rfl
  generalize isN oNam x = R at *
  generalize x.1 = a at *
  generalize x.2 = b at *
  go_enter Tryd.func78, Tryd.ntmps78
  go_wp2_with fail
  go_ret
  exact ⟨ret_bool E.out, (Below.refl _ W).alloc (Nat.le_refl _) _⟩
theorem entGpName : ∀ args w, (callFunc 78 args).run Tryd.prog w = .ok (.enter 78 args) w := Go.Proofs.enters_of Tryd.func78 (by kernel_rfl) rfl
set_option maxHeartbeats 8000000 in
theorem gpName_any (n : Nd) (va : Value) (pk : Option Addr) (nk ck : Nat) (w : World) (hv : AttrsV w va n.attrs) (hl : n.attrs.length ≤ 4398046511104) :
    Calls Tryd.prog 56 #[.agg #[.string n.name, .string n.text, va, .int .i64 n.parent, .slice pk nk ck]] w fun e w' => e = .returned (.string (fndS n.attrs oNam)) ∧ Below w.heap.size w w' := by
  have B0 : Hid (Below w.heap.size w (w.alloc (.cells #[.string n.name, .string n.text, va, .int .i64 n.parent, .slice pk nk ck] 44))) := (Below.refl _ w).alloc (Nat.le_refl _) _
  have PR : PredA 78 #[] (isN oNam) (w.alloc (.cells #[.string n.name, .string n.text, va, .int .i64 n.parent, .slice pk nk ck] 44)) := fun W x hb => gpName1_any x W
  have HC := hide (indexFuncA_any va n.attrs (isN oNam) 78 #[] entGpName (w.alloc (.cells #[.string n.name, .string n.text, va, .int .i64 n.parent, .slice pk nk ck] 44)) (hv.below B0.out) PR hl)
  have HIT := hide (fun k hk (h : n.attrs.findIdx? (isN oNam) = some k) => fnd_hit (ax := n.attrs) (n := oNam) (k := k) hk h)
  have MISS := hide (fun (h : n.attrs.findIdx? (isN oNam) = none) => fnd_miss (ax := n.attrs) (n := oNam) h)
  clear PR
  obtain ⟨p, c, rfl, hk⟩ := hv
  generalize fndS n.attrs oNam = R1 at *
  generalize (findA n.attrs oNam).isSome = R2 at *
  generalize n.name = n0 at *
  generalize n.text = n1 at *
  generalize n.parent = n3 at *
  generalize n.attrs = ax at *
  cases h : ax.findIdx? (isN oNam) with
  | none =>
    have E := hide (MISS.out h).1
    rw [h, show findV none = -1 from rfl] at HC
    clear hk HIT MISS h
    go_enter Tryd.func56, Tryd.ntmps56
    go_wp2_with fail
    refine HC.out.mono ?_
    rintro e w1 ⟨rfl, b1⟩
    go_wp2_with fail
    go_ret
    exact ⟨ret_str E.out.symm, chain B0.out b1⟩
  | some i =>
    obtain ⟨hi, _, _⟩ := List.findIdx?_eq_some_iff_getElem.1 h
    have E := hide (HIT.out i hi h).1
    rw [h, show findV (some i) = (i : Int) from rfl] at HC
    have i0 : (0 : Int) ≤ (i : Int) := by omega
    have i1 : (i : Int) < (ax.length : Int) := by omega
    have i2 : ¬ (i : Int) < 0 := by omega
    obtain ⟨b, o, rfl, hc⟩ : ∃ b o, p = some ⟨b, o, none⟩ ∧ ∀ i (h : i < ax.length), w.cell? ⟨b, o + i * 2, none⟩ = some (.string ax[i].1) ∧ w.cell? ⟨b, o + i * 2 + 1, none⟩ = some (.string ax[i].2) := by
      rcases hk with t | t
      · rw [t] at hi; simp at hi
      · exact t
    have c1 := hide (hc i hi).2
    have CN := hide (show (w.alloc (.cells #[.string n0, .string n1, .slice (some ⟨b, o, none⟩) ax.length c, .int .i64 n3, .slice pk nk ck] 44)).cell? ⟨w.heap.size, 2, none⟩ = some (.slice (some ⟨b, o, none⟩) ax.length c) by simp)
    clear hc HIT MISS h
    generalize ax[i].2 = t at *
    go_enter Tryd.func56, Tryd.ntmps56
    go_wp2_with fail
    refine HC.out.mono ?_
    rintro e w1 ⟨rfl, b1⟩
    have y1 := cell_below (cell_below c1.out B0.out) b1
    have y2 := cell_below CN.out b1
    go_wp2_with fail
    go_ret
    exact ⟨ret_str E.out.symm, chain B0.out b1⟩
/-- A row of numbers isn't a row of states. -/
theorem kids_far {B B' : Nat} {w : World} {v u : Value} {ks : List Int} {n : Nat} {xs : List Value} (h : KidsO B w v ks) (hu : w.ownsRow B' 47 10 u n xs) : ∀ j, v.ownBlock = some j → j ∉ u.ownBlock.toList := fun j hj q => by
  have q := opt_mem.1 q
  rcases h.2 with ⟨rfl, _⟩ | ⟨g, cap, cur, rfl, _, hg, _⟩
  · cases hj
  · rcases hu.2 with ⟨rfl, _⟩ | ⟨g', cap', cur', rfl, _, hg', _⟩
    · cases q
    · obtain rfl : g = j := Option.some.inj hj
      obtain rfl : g' = g := Option.some.inj q
      rw [hg] at hg'
      cases hg'
theorem CtsO.formG {base : Nat} {w : World} {v : Value} {C : List Ct} {F : List Value} (h : CtsO base w v C F) : ∃ p k, v = .slice p C.length k := by
  rcases h.row.2 with ⟨rfl, q⟩ | ⟨g, cap, cur, rfl, _⟩
  · exact ⟨none, 0, by rw [q]⟩
  · exact ⟨_, cap, rfl⟩
theorem KidsO.formG {base : Nat} {w : World} {v : Value} {ks : List Int} (h : KidsO base w v ks) : ∃ p k, v = .slice p ks.length k := by
  rcases h.2 with ⟨rfl, q⟩ | ⟨g, cap, cur, rfl, _⟩
  · exact ⟨none, 0, by rw [q]⟩
  · exact ⟨_, cap, rfl⟩
theorem ctchk_set (c : Ct) (fv : Value) (b : Bool) : (ctCells c fv).set 3 (.bool b) = ctCells { c with chk := b } fv := rfl
set_option maxHeartbeats 8000000 in
theorem gpCheckOnly_any (base B : Nat) (cv vl : Value) (C : List Ct) (F : List Value) (ks : List Int) (ch : Int) (w : World) (hO : CtsO base w cv C F) (hk : KidsO B w vl ks) (hr : ∀ i ∈ ks, 0 ≤ i ∧ i < (C.length : Int)) (hn : ks.Nodup) (hl : ks.length ≤ 17592186044416) :
    Calls Tryd.prog 26 #[cv, vl, .int .i64 ch] w fun e w' => e = .returned (.tuple #[]) ∧ CtsO base w' cv (updP (chkF ch) ks C) F ∧ Chg cv.ownBlock.toList w w' := by
  have FAR := hide (kids_far hk hO.row)
  have HO := hide hO
  have HK := hide hk
  have HR := hide hr
  have STEP := hide (fun k hk m hm hl => upd_step (f := chkF ch) (all := ks) (C := C) (k := k) hk hn (m := m) hm hl)
  obtain ⟨p, c, rfl⟩ := hO.formG
  obtain ⟨pl, cl, rfl⟩ := hk.formG
  clear hO hk hr hn
  go_enter Tryd.func26, Tryd.ntmps26
  go_wp2_with fail
  go_loopw [10] (fun iv wr => ∃ k : Nat, k ≤ ks.length ∧ iv = .int .i64 k ∧ Hid (CtsO base wr (.slice p C.length c) (updP (chkF ch) (ks.take k) C) F) ∧ Hid (Chg (Value.slice p C.length c).ownBlock.toList w wr)) (fun iv _ => ks.length - (intOf iv).toNat)
  case atStart => exact ⟨0, Nat.zero_le _, rfl, by show CtsO _ _ _ _ _; rw [List.take_zero, upd_nil]; exact HO.out, Chg.refl _ _⟩
  case round =>
    rename World => wr
    obtain ⟨k, hk, rfl, OW, BW⟩ := hrel
    by_cases h : k < ks.length
    · have i1 : (k : Int) < (ks.length : Int) := by omega
      have i0 : (0 : Int) ≤ (k : Int) := by omega
      obtain ⟨gl, cpl, el, eg, _⟩ := owns_at HK.out (by omega)
      obtain ⟨rfl, rfl⟩ : pl = some ⟨gl, 0, none⟩ ∧ cl = cpl := by cases el; exact ⟨rfl, rfl⟩
      have cl0 := BW.out.cell (owns_cell HK.out eg (cellsI_at h)) (FAR.out gl eg)
      have rx := HR.out ks[k] (List.getElem_mem h)
      obtain ⟨q, eq⟩ : ∃ q : Nat, ks[k] = (q : Int) := ⟨ks[k].toNat, by omega⟩
      have hq : q < C.length := by rw [eq] at rx; omega
      have ST := hide (STEP.out k h q eq hq)
      rw [eq] at cl0
      have lq : q < (updP (chkF ch) (ks.take k) C).length := by rw [updC_len]; exact hq
      obtain ⟨g, cp, ev, eb, g0, g1, _⟩ := owns_at OW.out.row (by omega)
      obtain ⟨rfl, rfl⟩ : p = some ⟨g, 0, none⟩ ∧ c = cp := by have t := ev; rw [updC_len] at t; cases t; exact ⟨rfl, rfl⟩
      have eC : (updP (chkF ch) (ks.take k) C)[q] = C[q] := by
        have := ST.out.2
        rw [List.getElem?_eq_getElem lq] at this
        exact Option.some.inj this
      have PUT := hide (OW.out.put (c' := chkF ch (q : Int) C[q]) rfl lq (j := 3) (by omega) (u := .bool ((q : Int) == ch)) (by
        rw [eC, ctchk_set]
        show ctCells _ _ = ctCells { C[q] with chk := decide ((q : Int) = ch) } _
        rw [dec_beq]))
      rw [ST.out.1] at PUT
      have c3 := OW.out.at_ rfl lq 3 _ rfl
      rw [eC] at c3
      have f3 : wr.frozen? ⟨g, q * 10 + 3, none⟩ = false := owns_free OW.out.row rfl _
      have q0 : (0 : Int) ≤ (q : Int) := by omega
      have q1 : (q : Int) < (C.length : Int) := by omega
      have hne : ¬ gl = g := fun e => FAR.out gl eg (by subst e; exact List.mem_singleton.2 rfl)
      have BZ := hide BW.out
      clear rx eC lq el ev eb g0 g1 OW FAR HR STEP HK HO ST BW eq
      generalize C[q].chk = oc at *
      go_wp2_with fail
      go_roundw
      case rel => exact ⟨k + 1, by omega, by go_num, PUT, BZ.out.trans (Chg.setB _ _ _ _)⟩
      case measure => simp [intOf]; omega
    · obtain rfl : k = ks.length := by omega
      rw [List.take_length] at OW
      clear FAR HR STEP HK HO
      go_wp2_with fail
      refine bodyPost_end (results_none rfl _ _ _) rfl ?_
      exact ⟨rfl, OW.out, BW.out⟩

end Go.Proofs.YtldbaoolddlacaaDoor
