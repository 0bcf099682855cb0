/- The program's Set of layer 10: it answers by 'setP', or by its error. Conditions: a document as it lies in the world; rows of at most 2^47 bytes. -/
import Derived.Test.YtkloahpkjbohoaaDocV
import Derived.Test.YtkloahpkjbohoaaDocSA
import Derived.Test.YtkloahpkjbohoaaDocDel
import Derived.Test.YtkloahpkjbohoaaDocAdd
import Derived.Deep.RegionLaw
import Derived.Deep.DrawnRows
import Derived.BigRegion
import Derived.Deep.DeepCutAuto
namespace Go.Proofs.Ytkloahpkjbohoaa
open Go.RowKit

set_option maxHeartbeats 2000000 in
theorem set_gone (v : Value) (l : List Nd) (id : Int) (name value : ByteArray) (w : World) (hv : NodesV w v l) (hz : DocSz l) (hh : hasN l id = false) :
    Calls Try.prog 20 #[v, .int .i64 id, .string name, .string value] w fun e w' => e = .returned (.tuple #[.slice none 0 0, .int .i64 4]) ∧ Below w.heap.size w w' := by
  have HP := hide (isThere_any v l id w hv hz)
  rw [hh] at HP
  clear hv hz hh
  go_enter Try.func20, Try.ntmps20
  go_wp2_with fail
  refine HP.out.mono ?_
  rintro e w1 ⟨rfl, b1⟩
  go_wp2_with fail
  go_ret2
  exact ⟨rfl, b1⟩

set_option maxHeartbeats 2000000 in
theorem set_kind (v : Value) (l : List Nd) (m : Nat) (name value : ByteArray) (w : World) (hv : NodesV w v l) (hz : DocSz l) (_hs : name.size ≤ maxLen) (hR : Right l) (hm : m < l.length) (h1 : noName l[m].name = true) :
    Calls Try.prog 20 #[v, .int .i64 (m : Int), .string name, .string value] w fun e w' => e = .returned (.tuple #[.slice none 0 0, .int .i64 3]) ∧ Below w.heap.size w w' := by
  have HP := hide (isThere_any v l (m : Int) w hv hz)
  have e1 : hasN l (m : Int) = true := by unfold hasN; rw [decide_eq_true ⟨by omega, by omega⟩, right_is.2 hR]; rfl
  rw [e1] at HP
  obtain ⟨pp, cc, rfl, hv⟩ := hv
  rcases hv with hv | ⟨b, o, rfl, hv⟩
  · rw [hv] at hm; simp at hm
  obtain ⟨va, vk, N0⟩ := hv m hm
  have NW : Hid (∀ W, Below w.heap.size w W → NodeAt W b (o + m * 5) l[m] va vk) := fun W hb => N0.below hb
  have HT := hide (fun W => isText_any l[m].name l[m].text va l[m].parent vk W)
  have i0 : (0 : Int) ≤ (m : Int) := by omega
  have i1 : (m : Int) < (l.length : Int) := by omega
  have hlen := hR.len.2
  rw [h1] at HT
  clear hv N0 hz hR e1 h1
  go_enter Try.func20, Try.ntmps20
  go_wp2_with fail
  refine HP.out.mono ?_
  rintro e w1 ⟨rfl, b1⟩
  have a0 := (NW.out w1 b1).name
  have a1 := (NW.out w1 b1).text
  have a2 := (NW.out w1 b1).attrs
  have a3 := (NW.out w1 b1).parent
  have a4 := (NW.out w1 b1).kids
  go_wp2_with fail
  refine (HT.out _).mono ?_
  rintro e w2 ⟨rfl, b2⟩
  have B2 := hide (chain b1 b2)
  clear b1 b2 a0 a1 a2 a3 a4 HP HT
  go_wp2_with fail
  go_ret2
  exact ⟨rfl, B2.out⟩

set_option maxHeartbeats 2000000 in
theorem set_name (v : Value) (l : List Nd) (m : Nat) (name value : ByteArray) (w : World) (hv : NodesV w v l) (hz : DocSz l) (hs : name.size ≤ maxLen) (hR : Right l) (hm : m < l.length) (h1 : noName l[m].name = false) (h2 : nameOk name = false) :
    Calls Try.prog 20 #[v, .int .i64 (m : Int), .string name, .string value] w fun e w' => e = .returned (.tuple #[.slice none 0 0, .int .i64 7]) ∧ Below w.heap.size w w' := by
  have HP := hide (isThere_any v l (m : Int) w hv hz)
  have e1 : hasN l (m : Int) = true := by unfold hasN; rw [decide_eq_true ⟨by omega, by omega⟩, right_is.2 hR]; rfl
  rw [e1] at HP
  obtain ⟨pp, cc, rfl, hv⟩ := hv
  rcases hv with hv | ⟨b, o, rfl, hv⟩
  · rw [hv] at hm; simp at hm
  obtain ⟨va, vk, N0⟩ := hv m hm
  have NW : Hid (∀ W, Below w.heap.size w W → NodeAt W b (o + m * 5) l[m] va vk) := fun W hb => N0.below hb
  have HT := hide (fun W => isText_any l[m].name l[m].text va l[m].parent vk W)
  have i0 : (0 : Int) ≤ (m : Int) := by omega
  have i1 : (m : Int) < (l.length : Int) := by omega
  have hlen := hR.len.2
  have HN := hide (fun W => isName_any name W hs)
  rw [h1] at HT
  rw [h2] at HN
  clear hv N0 hz hR e1 h1 h2
  go_enter Try.func20, Try.ntmps20
  go_wp2_with fail
  refine HP.out.mono ?_
  rintro e w1 ⟨rfl, b1⟩
  have a0 := (NW.out w1 b1).name
  have a1 := (NW.out w1 b1).text
  have a2 := (NW.out w1 b1).attrs
  have a3 := (NW.out w1 b1).parent
  have a4 := (NW.out w1 b1).kids
  go_wp2_with fail
  refine (HT.out _).mono ?_
  rintro e w2 ⟨rfl, b2⟩
  have B2 := hide (chain b1 b2)
  clear b1 b2 a0 a1 a2 a3 a4 HP HT
  go_wp2_with fail
  refine (HN.out _).mono ?_
  rintro e w3 ⟨rfl, hw⟩
  obtain rfl : w2 = w3 := hw.symm
  go_wp2_with fail
  go_ret2
  exact ⟨rfl, B2.out⟩

set_option maxHeartbeats 2000000 in
theorem set_range (v : Value) (l : List Nd) (m : Nat) (name value : ByteArray) (w : World) (hv : NodesV w v l) (hz : DocSz l) (hs : name.size ≤ maxLen) (hR : Right l) (hm : m < l.length) (h1 : noName l[m].name = false) (h2 : nameOk name = true) (h3 : 4000 < value.size) :
    Calls Try.prog 20 #[v, .int .i64 (m : Int), .string name, .string value] w fun e w' => e = .returned (.tuple #[.slice none 0 0, .int .i64 2]) ∧ Below w.heap.size w w' := by
  have HP := hide (isThere_any v l (m : Int) w hv hz)
  have e1 : hasN l (m : Int) = true := by unfold hasN; rw [decide_eq_true ⟨by omega, by omega⟩, right_is.2 hR]; rfl
  rw [e1] at HP
  obtain ⟨pp, cc, rfl, hv⟩ := hv
  rcases hv with hv | ⟨b, o, rfl, hv⟩
  · rw [hv] at hm; simp at hm
  obtain ⟨va, vk, N0⟩ := hv m hm
  have NW : Hid (∀ W, Below w.heap.size w W → NodeAt W b (o + m * 5) l[m] va vk) := fun W hb => N0.below hb
  have HT := hide (fun W => isText_any l[m].name l[m].text va l[m].parent vk W)
  have i0 : (0 : Int) ≤ (m : Int) := by omega
  have i1 : (m : Int) < (l.length : Int) := by omega
  have hlen := hR.len.2
  have HN := hide (fun W => isName_any name W hs)
  rw [h1] at HT
  rw [h2] at HN
  have t1 : (4000 : Int) < (value.size : Int) := by omega
  clear hv N0 hz hR e1 h1 h2
  go_enter Try.func20, Try.ntmps20
  go_wp2_with fail
  refine HP.out.mono ?_
  rintro e w1 ⟨rfl, b1⟩
  have a0 := (NW.out w1 b1).name
  have a1 := (NW.out w1 b1).text
  have a2 := (NW.out w1 b1).attrs
  have a3 := (NW.out w1 b1).parent
  have a4 := (NW.out w1 b1).kids
  go_wp2_with fail
  refine (HT.out _).mono ?_
  rintro e w2 ⟨rfl, b2⟩
  have B2 := hide (chain b1 b2)
  clear b1 b2 a0 a1 a2 a3 a4 HP HT
  go_wp2_with fail
  refine (HN.out _).mono ?_
  rintro e w3 ⟨rfl, hw⟩
  obtain rfl : w2 = w3 := hw.symm
  go_wp2_with fail
  go_ret2
  exact ⟨rfl, B2.out⟩

set_option maxHeartbeats 2000000 in
theorem set_full (v : Value) (l : List Nd) (m : Nat) (name value : ByteArray) (w : World) (hv : NodesV w v l) (hz : DocSz l) (hs : name.size ≤ maxLen) (hR : Right l) (hm : m < l.length) (h1 : noName l[m].name = false) (h2 : nameOk name = true) (h3 : value.size ≤ 4000) (h4 : findA l[m].attrs name = none) (h5 : 40 ≤ l[m].attrs.length) :
    Calls Try.prog 20 #[v, .int .i64 (m : Int), .string name, .string value] w fun e w' => e = .returned (.tuple #[.slice none 0 0, .int .i64 6]) ∧ Below w.heap.size w w' := by
  have HP := hide (isThere_any v l (m : Int) w hv hz)
  have e1 : hasN l (m : Int) = true := by unfold hasN; rw [decide_eq_true ⟨by omega, by omega⟩, right_is.2 hR]; rfl
  rw [e1] at HP
  obtain ⟨pp, cc, rfl, hv⟩ := hv
  rcases hv with hv | ⟨b, o, rfl, hv⟩
  · rw [hv] at hm; simp at hm
  obtain ⟨va, vk, N0⟩ := hv m hm
  have NW : Hid (∀ W, Below w.heap.size w W → NodeAt W b (o + m * 5) l[m] va vk) := fun W hb => N0.below hb
  have HT := hide (fun W => isText_any l[m].name l[m].text va l[m].parent vk W)
  have i0 : (0 : Int) ≤ (m : Int) := by omega
  have i1 : (m : Int) < (l.length : Int) := by omega
  have hlen := hR.len.2
  have HN := hide (fun W => isName_any name W hs)
  have ZA := hide (hz.nds l[m] (List.getElem_mem _)).attrs
  have zz := ZA.out
  rw [h1] at HT
  rw [h2] at HN
  have t1 : ¬ (4000 : Int) < (value.size : Int) := by omega
  have t2 : (40 : Int) ≤ (l[m].attrs.length : Int) := by omega
  have hF : Hid (l[m].attrs.findIdx? (isN name) = none) := h4
  have f1 : findV none < 0 := by decide
  clear hv N0 hz hR e1 h1 h2 h4
  go_enter Try.func20, Try.ntmps20
  go_wp2_with fail
  refine HP.out.mono ?_
  rintro e w1 ⟨rfl, b1⟩
  have a0 := (NW.out w1 b1).name
  have a1 := (NW.out w1 b1).text
  have a2 := (NW.out w1 b1).attrs
  have a3 := (NW.out w1 b1).parent
  have a4 := (NW.out w1 b1).kids
  go_wp2_with fail
  refine (HT.out _).mono ?_
  rintro e w2 ⟨rfl, b2⟩
  have B2 := hide (chain b1 b2)
  clear b1 b2 a0 a1 a2 a3 a4 HP HT
  go_wp2_with fail
  refine (HN.out _).mono ?_
  rintro e w3 ⟨rfl, hw⟩
  obtain rfl : w2 = w3 := hw.symm
  go_wp2_with fail
  have D2 := (NW.out w2 B2.out).attrs
  have HA := hide (NW.out w2 B2.out).at_
  have ln : b < w2.heap.size := World.block_lt_of_cell? _ _ D2
  have lne : b ≠ w2.heap.size := by omega
  have AB : Hid (∀ m, Below w2.heap.size w2 ((w2.alloc (.cells #[.string name] 9)).drewN m)) := fun m => bel_drewN ((Below.refl _ w2).alloc (Nat.le_refl _) _) m
  have HCF := hide (fun t => indexFuncA_any va l[m].attrs (isN name) 73 #[.pointer (some ⟨w2.heap.size, 0, none⟩)] entersCalled ((w2.alloc (.cells #[.string name] 9)).drewN t) (HA.out.below (AB.out t)) ((called_pred name w2).later (bel_drewN (Below.refl _ _) t)) ZA.out)
  rw [hF.out] at HCF
  go_region_held3 (fun w' => w'.cell? ⟨b, o + m * 5 + 2, none⟩ = some va) (first | go_keep | exact cell_below D2 (chain (AB.out 1) bb))
    (first | (go_at_call 57; refine (called_any name _).mono ?_; rintro e w' ⟨rfl, rfl⟩) | (go_at_call 56; refine (HCF.out 1).mono ?_; rintro e w4 ⟨rfl, bb⟩))
  have B4 : Hid (Below w.heap.size w w4) := chain B2.out (chain (AB.out 1) bb)
  have d2 := (NW.out w4 B4.out).attrs
  obtain ⟨pa, ca, eva, _⟩ := (NW.out w4 B4.out).at_
  clear bb AB HCF HA ln lne D2
  subst eva
  go_wp2_with fail
  go_ret2
  exact ⟨rfl, B4.out⟩

set_option maxHeartbeats 4000000 in
set_option maxRecDepth 100000 in
theorem set_new (v : Value) (l : List Nd) (m : Nat) (name value : ByteArray) (w : World) (hv : NodesV w v l) (hz : DocSz l) (hs : name.size ≤ maxLen) (hR : Right l) (hm : m < l.length) (h1 : noName l[m].name = false) (h2 : nameOk name = true) (h3 : value.size ≤ 4000) (h4 : findA l[m].attrs name = none) (h5 : l[m].attrs.length < 40) :
    Calls Try.prog 20 #[v, .int .i64 (m : Int), .string name, .string value] w fun e w' => ∃ v', e = .returned (.tuple #[v', .int .i64 0]) ∧ NodesV w' v' (setP l m name value) ∧ Below w.heap.size w w' := by
  have HC := hide (fun W (hb : Below w.heap.size w W) => copied_any v l W (hv.below hb) hR)
  have HCn := hide (fun W => clone_any name W (by have := nm_of h2; omega))
  have HCt := hide (fun W => clone_any value W (by omega))
  have HP := hide (isThere_any v l (m : Int) w hv hz)
  have e1 : hasN l (m : Int) = true := by unfold hasN; rw [decide_eq_true ⟨by omega, by omega⟩, right_is.2 hR]; rfl
  rw [e1] at HP
  obtain ⟨pp, cc, rfl, hv⟩ := hv
  rcases hv with hv | ⟨b, o, rfl, hv⟩
  · rw [hv] at hm; simp at hm
  obtain ⟨va, vk, N0⟩ := hv m hm
  have NW : Hid (∀ W, Below w.heap.size w W → NodeAt W b (o + m * 5) l[m] va vk) := fun W hb => N0.below hb
  have HT := hide (fun W => isText_any l[m].name l[m].text va l[m].parent vk W)
  have i0 : (0 : Int) ≤ (m : Int) := by omega
  have i1 : (m : Int) < (l.length : Int) := by omega
  have hlen := hR.len.2
  have HN := hide (fun W => isName_any name W hs)
  have ZA := hide (hz.nds l[m] (List.getElem_mem _)).attrs
  have zz := ZA.out
  rw [h1] at HT
  rw [h2] at HN
  have t1 : ¬ (4000 : Int) < (value.size : Int) := by omega
  have t2 : ¬ (40 : Int) ≤ (l[m].attrs.length : Int) := by omega
  have hF : Hid (l[m].attrs.findIdx? (isN name) = none) := h4
  have f1 : findV none < 0 := by decide
  have H4 := hide h4
  obtain ⟨iA, hA0, hA1, hA2, hA3⟩ := info_parts infoA
  clear hv N0 hz hR e1 h1 h2 h4
  go_enter Try.func20, Try.ntmps20
  go_wp2_with fail
  refine HP.out.mono ?_
  rintro e w1 ⟨rfl, b1⟩
  have a0 := (NW.out w1 b1).name
  have a1 := (NW.out w1 b1).text
  have a2 := (NW.out w1 b1).attrs
  have a3 := (NW.out w1 b1).parent
  have a4 := (NW.out w1 b1).kids
  go_wp2_with fail
  refine (HT.out _).mono ?_
  rintro e w2 ⟨rfl, b2⟩
  have B2 := hide (chain b1 b2)
  clear b1 b2 a0 a1 a2 a3 a4 HP HT
  go_wp2_with fail
  refine (HN.out _).mono ?_
  rintro e w3 ⟨rfl, hw⟩
  obtain rfl : w2 = w3 := hw.symm
  go_wp2_with fail
  have D2 := (NW.out w2 B2.out).attrs
  have HA := hide (NW.out w2 B2.out).at_
  have ln : b < w2.heap.size := World.block_lt_of_cell? _ _ D2
  have lne : b ≠ w2.heap.size := by omega
  have AB : Hid (∀ m, Below w2.heap.size w2 ((w2.alloc (.cells #[.string name] 9)).drewN m)) := fun m => bel_drewN ((Below.refl _ w2).alloc (Nat.le_refl _) _) m
  have HCF := hide (fun t => indexFuncA_any va l[m].attrs (isN name) 73 #[.pointer (some ⟨w2.heap.size, 0, none⟩)] entersCalled ((w2.alloc (.cells #[.string name] 9)).drewN t) (HA.out.below (AB.out t)) ((called_pred name w2).later (bel_drewN (Below.refl _ _) t)) ZA.out)
  rw [hF.out] at HCF
  go_region_held3 (fun w' => w'.cell? ⟨b, o + m * 5 + 2, none⟩ = some va) (first | go_keep | exact cell_below D2 (chain (AB.out 1) bb))
    (first | (go_at_call 57; refine (called_any name _).mono ?_; rintro e w' ⟨rfl, rfl⟩) | (go_at_call 56; refine (HCF.out 1).mono ?_; rintro e w4 ⟨rfl, bb⟩))
  have B4 : Hid (Below w.heap.size w w4) := chain B2.out (chain (AB.out 1) bb)
  have d2 := (NW.out w4 B4.out).attrs
  obtain ⟨pa, ca, eva, _⟩ := (NW.out w4 B4.out).at_
  clear bb AB HCF HA ln lne D2
  subst eva
  go_wp2_with fail
  refine (HC.out _ B4.out).mono ?_
  rintro e w5 ⟨v5, L, rfl, o5, l5, b5⟩
  have LL : L.length = l.length := by rw [← ndsOf_len, l5]
  have hmL : m < L.length := by omega
  have O5 := hide (OwnD.mono o5 B4.out.size)
  obtain ⟨G, cp, ev, eb, g0, g1, _⟩ := owns_at O5.out.row (by omega)
  have B5 := hide (chain B4.out b5)
  have NN : Hid (nd l m = L[m].n) := by show _ = _; rw [← l5]; exact ndsOf_at hmL
  have NA := O5.out.nodeAt eb hmL
  have c2 := NA.attrs
  have fz := owns_free O5.out.row eb (m * 5 + 2)
  have j1 : (m : Int) < (L.length : Int) := by omega
  have L5 := hide l5
  have EB := hide eb
  have nab : Hid (G ∉ blks L[m]) := own_ne O5.out hmL eb
  have AO : Hid (AttrsO w.heap.size w5 L[m].a l[m].attrs) := by
    have := O5.out.at_ L[m] (List.getElem_mem _)
    rw [← NN.out, nd_at hm] at this
    exact this
  have LH := hide LL
  clear o5 l5 b5 eb NA LL
  subst ev
  go_wp2_with fail
  have BW : Hid (w.heap.size ≤ w5.heap.size) := B5.out.size
  go_region_law (first
    | (go_simp; go_at_call 44; refine (HCn.out _).mono ?_; rintro e wa ⟨rfl, ba⟩; have bA : Below w5.heap.size w5 wa := undrew ba; have d2 := cell_below c2 bA; have df := (bA.frozen (p := ⟨G, m * 5 + 2, none⟩) g1).trans fz)
    | (go_simp; go_at_call 44; refine (HCt.out _).mono ?_; rintro e wb ⟨rfl, bb⟩; have bB : Below w5.heap.size w5 wb := chain bA bb; have e2 := cell_below c2 bB; have ef := (bB.frozen (p := ⟨G, m * 5 + 2, none⟩) g1).trans fz; have CB : Chg [] w5 (wb.alloc (.cells #[.string name, .string value] 48)) := (Chg.of_below bB).trans (Chg.alloc _ _); have SB : w.heap.size ≤ (wb.alloc (.cells #[.string name, .string value] 48)).heap.size := Nat.le_trans BW.out CB.size; have m2 := CB.cell c2 (by simp); have mf : (wb.alloc (.cells #[.string name, .string value] 48)).frozen? ⟨G, m * 5 + 2, none⟩ = false := owns_free (owns_kept O5.out.row CB (fun _ _ q => by cases q)) EB.out _; have nG6 : some G ≠ L[m].a.ownBlock := (fun t => nab.out (List.mem_append_left _ (opt_mem.2 t.symm))); have lG6 : G < (wb.alloc (.cells #[.string name, .string value] 48)).heap.size := Nat.lt_of_lt_of_le g1 CB.size)
    | (refine step_append_raw (by rfl) _ _ _ (by rfl) w.heap.size 48 iA _ 2 32 Try.underlying42 hA0 hA1 hA2 hA3 rfl (by omega) L[m].a l[m].attrs.length (cellsA l[m].attrs) (by rfl) (owns_kept AO.out CB (fun _ _ q => by cases q)) (.slice (some ⟨wb.heap.size, 0, none⟩) 1 1) 1 [.string name, .string value] (by rfl) ((NB.new wb _ _).raw 1 2 rfl 1) (by simp [Value.oneCell']) (by unfold maxLen; omega) (by omega) SB ?_; intro q6 c6 w6 own6 gr6 at6; have k2 := World.grownBy.cell gr6 (a := ⟨G, m * 5 + 2, none⟩) m2 nG6; have kf := (World.grownBy.frozen_far gr6 ⟨G, m * 5 + 2, none⟩ lG6 nG6).trans mf))
  all_goals
    go_wp2_with fail
    go_ret2
    have C6 : Chg L[m].a.ownBlock.toList w5 w6 := CB.nil.trans (Chg.of_grown gr6)
    have AX : AttrsO w.heap.size w6 (.slice q6 (l[m].attrs.length + 1) c6) (l[m].attrs ++ [(name, value)]) := by
      unfold AttrsO
      rw [List.length_append, cellsA_app]
      exact own6
    have D := OwnD.putA O5.out EB.out hmL C6 AX (by
      rcases at6 with t | t
      · exact .inl t
      · exact .inr (fun k hk => by rw [t] at hk; cases hk; exact CB.size))
    have E : ndsOf (L.set m ⟨{ L[m].n with attrs := l[m].attrs ++ [(name, value)] }, .slice q6 (l[m].attrs.length + 1) c6, L[m].k⟩) = setP l m name value := by
      rw [ndsOf_set, L5.out]
      unfold setP upd setA
      rw [nd_at hm, H4.out, ← NN.out, nd_at hm]
    have D2 := D.nodes
    rw [E] at D2
    refine ⟨_, rfl, D2, B5.out.trans (Chg.below (S := G :: L[m].a.ownBlock.toList) ((C6.mono (fun k q _ => List.mem_cons_of_mem _ q)).trans ((Chg.setB _ _ _ _).mono (fun k q _ => by rw [List.mem_singleton.1 q]; exact List.mem_cons_self ..))) BW.out (fun k q => ?_))⟩
    rcases List.mem_cons.1 q with t | t
    · rw [t]; exact g0
    · exact (World.ownsRow.lt AO.out k (opt_mem.1 t)).1

end Go.Proofs.Ytkloahpkjbohoaa
