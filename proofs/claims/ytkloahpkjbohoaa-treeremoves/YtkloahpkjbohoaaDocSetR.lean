/- The document's Set and Unset of layer 10: 'setP', 'unsetP', or an error. Conditions: a document as it lies in the world; rows of at most 2^47 bytes. -/
import Derived.Test.YtkloahpkjbohoaaDocV
import Derived.Test.YtkloahpkjbohoaaDocSet2
import Derived.Test.YtkloahpkjbohoaaDocC1
import Derived.Test.YtkloahpkjbohoaaDocR4
namespace Go.Proofs.Ytkloahpkjbohoaa
open Go.RowKit

set_option maxHeartbeats 2000000 in
theorem refSet_gone (v : Value) (l : List Nd) (id : Int) (name value : ByteArray) (w : World) (hv : NodesV w v l) (hz : DocSz l) (hh : hasN l id = false) :
    Calls Try.prog 21 #[v, .int .i64 id, .string name, .string value] w fun e w' => e = .returned (.tuple #[.slice none 0 0, .int .i64 4]) ∧ Below w.heap.size w w' := by
  have HP := hide (refHas_any v l id w hv hz)
  rw [hh] at HP
  clear hv hz hh
  go_enter Try.func21, Try.ntmps21
  go_wp2_with fail
  refine HP.out.mono ?_
  rintro e w1 ⟨rfl, b1⟩
  go_wp2_with fail
  go_ret2
  exact ⟨rfl, b1⟩

set_option maxHeartbeats 2000000 in
theorem refSet_kind (v : Value) (l : List Nd) (m : Nat) (name value : ByteArray) (w : World) (hv : NodesV w v l) (hz : DocSz l) (_hs : name.size ≤ maxLen) (hR : Right l) (hm : m < l.length) (h1 : noName l[m].name = true) :
    Calls Try.prog 21 #[v, .int .i64 (m : Int), .string name, .string value] w fun e w' => e = .returned (.tuple #[.slice none 0 0, .int .i64 3]) ∧ Below w.heap.size w w' := by
  have HP := hide (refHas_any v l (m : Int) w hv hz)
  have e1 : hasN l (m : Int) = true := by unfold hasN; rw [decide_eq_true ⟨by omega, by omega⟩, right_is.2 hR]; rfl
  rw [e1] at HP
  obtain ⟨pp, cc, rfl, hv⟩ := hv
  rcases hv with hv | ⟨b, o, rfl, hv⟩
  · rw [hv] at hm; simp at hm
  obtain ⟨va, vk, N0⟩ := hv m hm
  have NW : Hid (∀ W, Below w.heap.size w W → NodeAt W b (o + m * 5) l[m] va vk) := fun W hb => N0.below hb
  have i0 : (0 : Int) ≤ (m : Int) := by omega
  have i1 : (m : Int) < (l.length : Int) := by omega
  have hlen := hR.len.2
  have n1 := noName_size h1
  have n2 : (l[m].name.size : Int) = 0 := by omega
  have n3 : ((l[m].name.size : Int) == 0) = true := by rw [n2]; rfl
  clear hv N0 hz hR e1 h1
  go_enter Try.func21, Try.ntmps21
  go_wp2_with fail
  refine HP.out.mono ?_
  rintro e w1 ⟨rfl, b1⟩
  have a0 := (NW.out w1 b1).name
  have B1 := hide b1
  clear b1
  go_wp2_with fail
  go_ret2
  exact ⟨rfl, B1.out⟩

set_option maxHeartbeats 2000000 in
theorem refSet_name (v : Value) (l : List Nd) (m : Nat) (name value : ByteArray) (w : World) (hv : NodesV w v l) (hz : DocSz l) (hs : name.size ≤ maxLen) (hR : Right l) (hm : m < l.length) (h1 : noName l[m].name = false) (h2 : nameOk name = false) :
    Calls Try.prog 21 #[v, .int .i64 (m : Int), .string name, .string value] w fun e w' => e = .returned (.tuple #[.slice none 0 0, .int .i64 7]) ∧ Below w.heap.size w w' := by
  have HP := hide (refHas_any v l (m : Int) w hv hz)
  have e1 : hasN l (m : Int) = true := by unfold hasN; rw [decide_eq_true ⟨by omega, by omega⟩, right_is.2 hR]; rfl
  rw [e1] at HP
  obtain ⟨pp, cc, rfl, hv⟩ := hv
  rcases hv with hv | ⟨b, o, rfl, hv⟩
  · rw [hv] at hm; simp at hm
  obtain ⟨va, vk, N0⟩ := hv m hm
  have NW : Hid (∀ W, Below w.heap.size w W → NodeAt W b (o + m * 5) l[m] va vk) := fun W hb => N0.below hb
  have i0 : (0 : Int) ≤ (m : Int) := by omega
  have i1 : (m : Int) < (l.length : Int) := by omega
  have hlen := hR.len.2
  have n1 := noName_size' h1
  have n2 : ¬ (l[m].name.size : Int) = 0 := by omega
  have n3 : ((l[m].name.size : Int) == 0) = false := by rw [beq_eq_false_iff_ne]; exact n2
  have HN := hide (fun W => refName_any name W hs)
  rw [h2] at HN
  clear hv N0 hz hR e1 h1 h2
  go_enter Try.func21, Try.ntmps21
  go_wp2_with fail
  refine HP.out.mono ?_
  rintro e w1 ⟨rfl, b1⟩
  have a0 := (NW.out w1 b1).name
  have B1 := hide b1
  clear b1
  go_wp2_with fail
  refine (HN.out _).mono ?_
  rintro e w3 ⟨rfl, hw⟩
  obtain rfl : w1 = w3 := hw.symm
  go_wp2_with fail
  go_ret2
  exact ⟨rfl, B1.out⟩

set_option maxHeartbeats 2000000 in
theorem refSet_range (v : Value) (l : List Nd) (m : Nat) (name value : ByteArray) (w : World) (hv : NodesV w v l) (hz : DocSz l) (hs : name.size ≤ maxLen) (hR : Right l) (hm : m < l.length) (h1 : noName l[m].name = false) (h2 : nameOk name = true) (h3 : 4000 < value.size) :
    Calls Try.prog 21 #[v, .int .i64 (m : Int), .string name, .string value] w fun e w' => e = .returned (.tuple #[.slice none 0 0, .int .i64 2]) ∧ Below w.heap.size w w' := by
  have HP := hide (refHas_any v l (m : Int) w hv hz)
  have e1 : hasN l (m : Int) = true := by unfold hasN; rw [decide_eq_true ⟨by omega, by omega⟩, right_is.2 hR]; rfl
  rw [e1] at HP
  obtain ⟨pp, cc, rfl, hv⟩ := hv
  rcases hv with hv | ⟨b, o, rfl, hv⟩
  · rw [hv] at hm; simp at hm
  obtain ⟨va, vk, N0⟩ := hv m hm
  have NW : Hid (∀ W, Below w.heap.size w W → NodeAt W b (o + m * 5) l[m] va vk) := fun W hb => N0.below hb
  have i0 : (0 : Int) ≤ (m : Int) := by omega
  have i1 : (m : Int) < (l.length : Int) := by omega
  have hlen := hR.len.2
  have n1 := noName_size' h1
  have n2 : ¬ (l[m].name.size : Int) = 0 := by omega
  have n3 : ((l[m].name.size : Int) == 0) = false := by rw [beq_eq_false_iff_ne]; exact n2
  have HN := hide (fun W => refName_any name W hs)
  rw [h2] at HN
  have t1 : (4000 : Int) < (value.size : Int) := by omega
  clear hv N0 hz hR e1 h1 h2
  go_enter Try.func21, Try.ntmps21
  go_wp2_with fail
  refine HP.out.mono ?_
  rintro e w1 ⟨rfl, b1⟩
  have a0 := (NW.out w1 b1).name
  have B1 := hide b1
  clear b1
  go_wp2_with fail
  refine (HN.out _).mono ?_
  rintro e w3 ⟨rfl, hw⟩
  obtain rfl : w1 = w3 := hw.symm
  go_wp2_with fail
  go_ret2
  exact ⟨rfl, B1.out⟩

set_option maxHeartbeats 2000000 in
theorem refSet_full (v : Value) (l : List Nd) (m : Nat) (name value : ByteArray) (w : World) (hv : NodesV w v l) (hz : DocSz l) (hs : name.size ≤ maxLen) (hR : Right l) (hm : m < l.length) (h1 : noName l[m].name = false) (h2 : nameOk name = true) (h3 : value.size ≤ 4000) (h4 : findA l[m].attrs name = none) (h5 : 40 ≤ l[m].attrs.length) :
    Calls Try.prog 21 #[v, .int .i64 (m : Int), .string name, .string value] w fun e w' => e = .returned (.tuple #[.slice none 0 0, .int .i64 6]) ∧ Below w.heap.size w w' := by
  have HC := hide (fun W (hb : Below w.heap.size w W) => refCopied_any v l W (hv.below hb) hz)
  have HP := hide (refHas_any v l (m : Int) w hv hz)
  have e1 : hasN l (m : Int) = true := by unfold hasN; rw [decide_eq_true ⟨by omega, by omega⟩, right_is.2 hR]; rfl
  rw [e1] at HP
  obtain ⟨pp, cc, rfl, hv⟩ := hv
  rcases hv with hv | ⟨b, o, rfl, hv⟩
  · rw [hv] at hm; simp at hm
  obtain ⟨va, vk, N0⟩ := hv m hm
  have NW : Hid (∀ W, Below w.heap.size w W → NodeAt W b (o + m * 5) l[m] va vk) := fun W hb => N0.below hb
  have i0 : (0 : Int) ≤ (m : Int) := by omega
  have i1 : (m : Int) < (l.length : Int) := by omega
  have hlen := hR.len.2
  have n1 := noName_size' h1
  have n2 : ¬ (l[m].name.size : Int) = 0 := by omega
  have n3 : ((l[m].name.size : Int) == 0) = false := by rw [beq_eq_false_iff_ne]; exact n2
  have HN := hide (fun W => refName_any name W hs)
  have ZA := hide (hz.nds l[m] (List.getElem_mem _)).attrs
  have zz := ZA.out
  rw [h2] at HN
  have t1 : ¬ (4000 : Int) < (value.size : Int) := by omega
  have H4 := hide h4
  have t2 : (40 : Int) ≤ (l[m].attrs.length : Int) := by omega
  have f1 : ¬ (0 : Int) ≤ findV none := by decide
  clear hv N0 hz hR e1 h1 h2 h4
  go_enter Try.func21, Try.ntmps21
  go_wp2_with fail
  refine HP.out.mono ?_
  rintro e w1 ⟨rfl, b1⟩
  have a0 := (NW.out w1 b1).name
  have B1 := hide b1
  clear b1
  go_wp2_with fail
  refine (HN.out _).mono ?_
  rintro e w3 ⟨rfl, hw⟩
  obtain rfl : w1 = w3 := hw.symm
  go_wp2_with fail
  refine (HC.out _ B1.out).mono ?_
  rintro e w5 ⟨v5, L, rfl, o5, l5, b5⟩
  have LL : L.length = l.length := by rw [← ndsOf_len, l5]
  have hmL : m < L.length := by omega
  have O5 := hide (OwnD.mono o5 B1.out.size)
  obtain ⟨G, cp, ev, eb, g0, g1, _⟩ := owns_at O5.out.row (by omega)
  have B5 := hide (chain B1.out b5)
  have NN : Hid (nd l m = L[m].n) := by show _ = _; rw [← l5]; exact ndsOf_at hmL
  have NA := O5.out.nodeAt eb hmL
  have c2 := NA.attrs
  have fz := owns_free O5.out.row eb (m * 5 + 2)
  have j1 : (m : Int) < (L.length : Int) := by omega
  have L5 := hide l5
  have EB := hide eb
  have nab : Hid (G ∉ blks L[m]) := own_ne O5.out hmL eb
  have AO : Hid (AttrsO w.heap.size w5 L[m].a l[m].attrs) := by
    have := O5.out.at_ L[m] (List.getElem_mem _)
    rw [← NN.out, nd_at hm] at this
    exact this
  have LH := hide LL
  obtain ⟨qa, ca, ea, _⟩ := AO.out.attrs
  have EA := hide ea
  have BW : Hid (w.heap.size ≤ w5.heap.size) := B5.out.size
  clear o5 l5 b5 eb NA LL a0
  subst ev
  have HF := hide (refFind_any L[m].a l[m].attrs name w5 AO.out.attrs ZA.out)
  rw [H4.out, ea] at HF
  rw [ea] at c2
  clear ea
  go_wp2_with fail
  refine HF.out.mono ?_
  rintro e w6 ⟨rfl, hw⟩
  obtain rfl : w5 = w6 := hw.symm
  clear HF
  go_wp2_with fail
  go_ret2
  exact ⟨rfl, B5.out⟩

set_option maxHeartbeats 4000000 in
set_option maxRecDepth 100000 in
theorem refSet_new (v : Value) (l : List Nd) (m : Nat) (name value : ByteArray) (w : World) (hv : NodesV w v l) (hz : DocSz l) (hs : name.size ≤ maxLen) (hR : Right l) (hm : m < l.length) (h1 : noName l[m].name = false) (h2 : nameOk name = true) (h3 : value.size ≤ 4000) (h4 : findA l[m].attrs name = none) (h5 : l[m].attrs.length < 40) :
    Calls Try.prog 21 #[v, .int .i64 (m : Int), .string name, .string value] w fun e w' => ∃ v', e = .returned (.tuple #[v', .int .i64 0]) ∧ NodesV w' v' (setP l m name value) ∧ Below w.heap.size w w' := by
  have HC := hide (fun W (hb : Below w.heap.size w W) => refCopied_any v l W (hv.below hb) hz)
  have HP := hide (refHas_any v l (m : Int) w hv hz)
  have e1 : hasN l (m : Int) = true := by unfold hasN; rw [decide_eq_true ⟨by omega, by omega⟩, right_is.2 hR]; rfl
  rw [e1] at HP
  obtain ⟨pp, cc, rfl, hv⟩ := hv
  rcases hv with hv | ⟨b, o, rfl, hv⟩
  · rw [hv] at hm; simp at hm
  obtain ⟨va, vk, N0⟩ := hv m hm
  have NW : Hid (∀ W, Below w.heap.size w W → NodeAt W b (o + m * 5) l[m] va vk) := fun W hb => N0.below hb
  have i0 : (0 : Int) ≤ (m : Int) := by omega
  have i1 : (m : Int) < (l.length : Int) := by omega
  have hlen := hR.len.2
  have n1 := noName_size' h1
  have n2 : ¬ (l[m].name.size : Int) = 0 := by omega
  have n3 : ((l[m].name.size : Int) == 0) = false := by rw [beq_eq_false_iff_ne]; exact n2
  have HN := hide (fun W => refName_any name W hs)
  have ZA := hide (hz.nds l[m] (List.getElem_mem _)).attrs
  have zz := ZA.out
  rw [h2] at HN
  have t1 : ¬ (4000 : Int) < (value.size : Int) := by omega
  have H4 := hide h4
  have t2 : ¬ (40 : Int) ≤ (l[m].attrs.length : Int) := by omega
  have f1 : ¬ (0 : Int) ≤ findV none := by decide
  obtain ⟨iA, hA0, hA1, hA2, hA3⟩ := info_parts infoA
  clear hv N0 hz hR e1 h1 h2 h4
  go_enter Try.func21, Try.ntmps21
  go_wp2_with fail
  refine HP.out.mono ?_
  rintro e w1 ⟨rfl, b1⟩
  have a0 := (NW.out w1 b1).name
  have B1 := hide b1
  clear b1
  go_wp2_with fail
  refine (HN.out _).mono ?_
  rintro e w3 ⟨rfl, hw⟩
  obtain rfl : w1 = w3 := hw.symm
  go_wp2_with fail
  refine (HC.out _ B1.out).mono ?_
  rintro e w5 ⟨v5, L, rfl, o5, l5, b5⟩
  have LL : L.length = l.length := by rw [← ndsOf_len, l5]
  have hmL : m < L.length := by omega
  have O5 := hide (OwnD.mono o5 B1.out.size)
  obtain ⟨G, cp, ev, eb, g0, g1, _⟩ := owns_at O5.out.row (by omega)
  have B5 := hide (chain B1.out b5)
  have NN : Hid (nd l m = L[m].n) := by show _ = _; rw [← l5]; exact ndsOf_at hmL
  have NA := O5.out.nodeAt eb hmL
  have c2 := NA.attrs
  have fz := owns_free O5.out.row eb (m * 5 + 2)
  have j1 : (m : Int) < (L.length : Int) := by omega
  have L5 := hide l5
  have EB := hide eb
  have nab : Hid (G ∉ blks L[m]) := own_ne O5.out hmL eb
  have AO : Hid (AttrsO w.heap.size w5 L[m].a l[m].attrs) := by
    have := O5.out.at_ L[m] (List.getElem_mem _)
    rw [← NN.out, nd_at hm] at this
    exact this
  have LH := hide LL
  obtain ⟨qa, ca, ea, _⟩ := AO.out.attrs
  have EA := hide ea
  have BW : Hid (w.heap.size ≤ w5.heap.size) := B5.out.size
  clear o5 l5 b5 eb NA LL a0
  subst ev
  have HF := hide (refFind_any L[m].a l[m].attrs name w5 AO.out.attrs ZA.out)
  rw [H4.out, ea] at HF
  rw [ea] at c2
  clear ea
  go_wp2_with fail
  refine HF.out.mono ?_
  rintro e w6 ⟨rfl, hw⟩
  obtain rfl : w5 = w6 := hw.symm
  have CB : Hid (Chg [] w5 (w5.alloc (.cells #[.string name, .string value] 48))) := Chg.alloc _ _
  have OW := hide (owns_kept AO.out CB.out (fun _ _ q => by cases q))
  rw [EA.out] at OW
  have R6 := hide ((NB.new w5 [.string name, .string value] 48).raw 1 2 rfl 1)
  have W6 : Hid (w.heap.size ≤ (w5.alloc (.cells #[.string name, .string value] 48)).heap.size) := Nat.le_trans BW.out CB.out.size
  have m2 := hide (CB.out.cell c2 (by simp))
  have mf : Hid ((w5.alloc (.cells #[.string name, .string value] 48)).frozen? ⟨G, m * 5 + 2, none⟩ = false) := owns_free (owns_kept O5.out.row CB.out (fun _ _ q => by cases q)) EB.out _
  have nG6 : Hid (some G ≠ L[m].a.ownBlock) := fun t => nab.out (List.mem_append_left _ (opt_mem.2 t.symm))
  have lG6 : Hid (G < (w5.alloc (.cells #[.string name, .string value] 48)).heap.size) := Nat.lt_of_lt_of_le g1 CB.out.size
  rw [EA.out] at nG6
  clear HF
  go_wp2_with (at_builtin; refine wpList_append_raw rfl _ _ _ rfl w.heap.size 48 iA _ 2 32 Try.underlying42 hA0 hA1 hA2 hA3 rfl (by omega) (.slice qa l[m].attrs.length ca) l[m].attrs.length (cellsA l[m].attrs) rfl OW.out (.slice (some ⟨w5.heap.size, 0, none⟩) 1 1) 1 [.string name, .string value] rfl R6.out (by simp [Value.oneCell']) (by unfold maxLen; omega) (by omega) W6.out ?_; intro q6 c6 w6 own6 gr6 at6; have k2 := World.grownBy.cell gr6 (a := ⟨G, m * 5 + 2, none⟩) m2.out nG6.out; have kf := (World.grownBy.frozen_far gr6 ⟨G, m * 5 + 2, none⟩ lG6.out nG6.out).trans mf.out)
  go_ret2
  rw [← EA.out] at gr6 at6
  have C6 : Chg L[m].a.ownBlock.toList w5 w6 := CB.out.nil.trans (Chg.of_grown gr6)
  have AX : AttrsO w.heap.size w6 (.slice q6 (l[m].attrs.length + 1) c6) (l[m].attrs ++ [(name, value)]) := by
    unfold AttrsO
    rw [List.length_append, cellsA_app]
    exact own6
  have D := OwnD.putA O5.out EB.out hmL C6 AX (by
    rcases at6 with t | t
    · exact .inl t
    · exact .inr (fun k hk => by rw [t] at hk; cases hk; exact CB.out.size))
  have E : ndsOf (L.set m ⟨{ L[m].n with attrs := l[m].attrs ++ [(name, value)] }, .slice q6 (l[m].attrs.length + 1) c6, L[m].k⟩) = setP l m name value := by
    rw [ndsOf_set, L5.out]
    unfold setP upd setA
    rw [nd_at hm, H4.out, ← NN.out, nd_at hm]
  have D2 := D.nodes
  rw [E] at D2
  refine ⟨_, rfl, D2, B5.out.trans (Chg.below (S := G :: L[m].a.ownBlock.toList) ((C6.mono (fun k q _ => List.mem_cons_of_mem _ q)).trans ((Chg.setB _ _ _ _).mono (fun k q _ => by rw [List.mem_singleton.1 q]; exact List.mem_cons_self ..))) BW.out (fun k q => ?_))⟩
  rcases List.mem_cons.1 q with t | t
  · rw [t]; exact g0
  · exact (World.ownsRow.lt AO.out k (opt_mem.1 t)).1

set_option maxHeartbeats 4000000 in
set_option maxRecDepth 100000 in
theorem refSet_old (v : Value) (l : List Nd) (m : Nat) (name value : ByteArray) (w : World) (hv : NodesV w v l) (hz : DocSz l) (hs : name.size ≤ maxLen) (hR : Right l) (hm : m < l.length) (h1 : noName l[m].name = false) (h2 : nameOk name = true) (h3 : value.size ≤ 4000) {k : Nat} (h4 : findA l[m].attrs name = some k) :
    Calls Try.prog 21 #[v, .int .i64 (m : Int), .string name, .string value] w fun e w' => ∃ v', e = .returned (.tuple #[v', .int .i64 0]) ∧ NodesV w' v' (setP l m name value) ∧ Below w.heap.size w w' := by
  have HC := hide (fun W (hb : Below w.heap.size w W) => refCopied_any v l W (hv.below hb) hz)
  have HP := hide (refHas_any v l (m : Int) w hv hz)
  have e1 : hasN l (m : Int) = true := by unfold hasN; rw [decide_eq_true ⟨by omega, by omega⟩, right_is.2 hR]; rfl
  rw [e1] at HP
  obtain ⟨pp, cc, rfl, hv⟩ := hv
  rcases hv with hv | ⟨b, o, rfl, hv⟩
  · rw [hv] at hm; simp at hm
  obtain ⟨va, vk, N0⟩ := hv m hm
  have NW : Hid (∀ W, Below w.heap.size w W → NodeAt W b (o + m * 5) l[m] va vk) := fun W hb => N0.below hb
  have i0 : (0 : Int) ≤ (m : Int) := by omega
  have i1 : (m : Int) < (l.length : Int) := by omega
  have hlen := hR.len.2
  have n1 := noName_size' h1
  have n2 : ¬ (l[m].name.size : Int) = 0 := by omega
  have n3 : ((l[m].name.size : Int) == 0) = false := by rw [beq_eq_false_iff_ne]; exact n2
  have HN := hide (fun W => refName_any name W hs)
  have ZA := hide (hz.nds l[m] (List.getElem_mem _)).attrs
  have zz := ZA.out
  rw [h2] at HN
  have t1 : ¬ (4000 : Int) < (value.size : Int) := by omega
  have H4 := hide h4
  obtain ⟨hk, hk1, _⟩ := find_some h4
  have f1 : (0 : Int) ≤ (k : Int) := by omega
  have f2 : findV (some k) = (k : Int) := rfl
  have k1 : (k : Int) < (l[m].attrs.length : Int) := by omega
  have K1 := hide hk1
  clear hv N0 hz hR e1 h1 h2 h4 hk1
  go_enter Try.func21, Try.ntmps21
  go_wp2_with fail
  refine HP.out.mono ?_
  rintro e w1 ⟨rfl, b1⟩
  have a0 := (NW.out w1 b1).name
  have B1 := hide b1
  clear b1
  go_wp2_with fail
  refine (HN.out _).mono ?_
  rintro e w3 ⟨rfl, hw⟩
  obtain rfl : w1 = w3 := hw.symm
  go_wp2_with fail
  refine (HC.out _ B1.out).mono ?_
  rintro e w5 ⟨v5, L, rfl, o5, l5, b5⟩
  have LL : L.length = l.length := by rw [← ndsOf_len, l5]
  have hmL : m < L.length := by omega
  have O5 := hide (OwnD.mono o5 B1.out.size)
  obtain ⟨G, cp, ev, eb, g0, g1, _⟩ := owns_at O5.out.row (by omega)
  have B5 := hide (chain B1.out b5)
  have NN : Hid (nd l m = L[m].n) := by show _ = _; rw [← l5]; exact ndsOf_at hmL
  have NA := O5.out.nodeAt eb hmL
  have c2 := NA.attrs
  have fz := owns_free O5.out.row eb (m * 5 + 2)
  have j1 : (m : Int) < (L.length : Int) := by omega
  have L5 := hide l5
  have EB := hide eb
  have nab : Hid (G ∉ blks L[m]) := own_ne O5.out hmL eb
  have AO : Hid (AttrsO w.heap.size w5 L[m].a l[m].attrs) := by
    have := O5.out.at_ L[m] (List.getElem_mem _)
    rw [← NN.out, nd_at hm] at this
    exact this
  have LH := hide LL
  obtain ⟨qa, ca, ea, _⟩ := AO.out.attrs
  have EA := hide ea
  have BW : Hid (w.heap.size ≤ w5.heap.size) := B5.out.size
  clear o5 l5 b5 eb NA LL a0
  subst ev
  have HF := hide (refFind_any L[m].a l[m].attrs name w5 AO.out.attrs ZA.out)
  rw [H4.out, ea] at HF
  rw [ea] at c2
  clear ea
  go_wp2_with fail
  refine HF.out.mono ?_
  rintro e w6 ⟨rfl, hw⟩
  obtain rfl : w5 = w6 := hw.symm
  obtain ⟨ga, cpa, ea2, eab, ga0, ga1, _⟩ := owns_at AO.out (by omega)
  have EAB := hide eab
  rw [EA.out.symm.trans ea2] at c2
  have x1 := owns_cell AO.out eab (cellsA_at hk).2
  have xf := owns_free AO.out eab (k * 2 + 1)
  clear ea2 eab HF
  go_wp2_with fail
  go_ret2
  have AX : AttrsO w.heap.size (w5.setCell ⟨ga, k * 2 + 1, none⟩ (.string value)) L[m].a (l[m].attrs.set k (name, value)) := by
    have r := owns_set AO.out EAB.out (k * 2 + 1) (.string value)
    rw [cellsA_set2 hk value, K1.out] at r
    unfold AttrsO
    rw [List.length_set]
    exact r
  have C6 : Chg L[m].a.ownBlock.toList w5 (w5.setCell ⟨ga, k * 2 + 1, none⟩ (.string value)) := by
    rw [EAB.out]
    exact Chg.setB _ _ _ _
  have D := OwnD.inA O5.out hmL C6 AX (by rw [EB.out]; simp)
  have E : ndsOf (L.set m ⟨{ L[m].n with attrs := l[m].attrs.set k (name, value) }, L[m].a, L[m].k⟩) = setP l m name value := by
    rw [ndsOf_set, L5.out]
    unfold setP upd setA
    rw [nd_at hm, H4.out, ← NN.out, nd_at hm]
  have D2 := D.nodes
  rw [E] at D2
  exact ⟨_, rfl, D2, B5.out.trans (C6.below BW.out (fun k q => (World.ownsRow.lt AO.out k (opt_mem.1 q)).1))⟩

set_option maxHeartbeats 2000000 in
theorem refUnset_gone (v : Value) (l : List Nd) (id : Int) (name : ByteArray) (w : World) (hv : NodesV w v l) (hz : DocSz l) (hh : hasN l id = false) :
    Calls Try.prog 23 #[v, .int .i64 id, .string name] w fun e w' => e = .returned (.tuple #[.slice none 0 0, .int .i64 4]) ∧ Below w.heap.size w w' := by
  have HP := hide (refHas_any v l id w hv hz)
  rw [hh] at HP
  clear hv hz hh
  go_enter Try.func23, Try.ntmps23
  go_wp2_with fail
  refine HP.out.mono ?_
  rintro e w1 ⟨rfl, b1⟩
  go_wp2_with fail
  go_ret2
  exact ⟨rfl, b1⟩

set_option maxHeartbeats 2000000 in
theorem refUnset_kind (v : Value) (l : List Nd) (m : Nat) (name : ByteArray) (w : World) (hv : NodesV w v l) (hz : DocSz l) (hR : Right l) (hm : m < l.length) (h1 : noName l[m].name = true) :
    Calls Try.prog 23 #[v, .int .i64 (m : Int), .string name] w fun e w' => e = .returned (.tuple #[.slice none 0 0, .int .i64 3]) ∧ Below w.heap.size w w' := by
  have HP := hide (refHas_any v l (m : Int) w hv hz)
  have e1 : hasN l (m : Int) = true := by unfold hasN; rw [decide_eq_true ⟨by omega, by omega⟩, right_is.2 hR]; rfl
  rw [e1] at HP
  obtain ⟨pp, cc, rfl, hv⟩ := hv
  rcases hv with hv | ⟨b, o, rfl, hv⟩
  · rw [hv] at hm; simp at hm
  obtain ⟨va, vk, N0⟩ := hv m hm
  have NW : Hid (∀ W, Below w.heap.size w W → NodeAt W b (o + m * 5) l[m] va vk) := fun W hb => N0.below hb
  have i0 : (0 : Int) ≤ (m : Int) := by omega
  have i1 : (m : Int) < (l.length : Int) := by omega
  have hlen := hR.len.2
  have n1 := noName_size h1
  have n2 : (l[m].name.size : Int) = 0 := by omega
  have n3 : ((l[m].name.size : Int) == 0) = true := by rw [n2]; rfl
  clear hv N0 hz hR e1 h1
  go_enter Try.func23, Try.ntmps23
  go_wp2_with fail
  refine HP.out.mono ?_
  rintro e w1 ⟨rfl, b1⟩
  have a0 := (NW.out w1 b1).name
  have B1 := hide b1
  clear b1
  go_wp2_with fail
  go_ret2
  exact ⟨rfl, B1.out⟩

theorem unset_take {ax : List (ByteArray × ByteArray)} {k : Nat} (h : k < ax.length) (n : ByteArray) : unsetA (ax.take (k + 1)) n = unsetA (ax.take k) n ++ (if ax[k].1 = n then [] else [ax[k]]) := by
  unfold unsetA
  rw [List.take_succ_eq_append_getElem h, List.filter_append]
  congr 1
  by_cases q : ax[k].1 = n
  · rw [if_pos q]; simp [q]
  · rw [if_neg q]; simp [q]
set_option maxHeartbeats 8000000 in
set_option maxRecDepth 100000 in
theorem refUnset_ok (v : Value) (l : List Nd) (m : Nat) (name : ByteArray) (w : World) (hv : NodesV w v l) (hz : DocSz l) (hR : Right l) (hm : m < l.length) (h1 : noName l[m].name = false) :
    Calls Try.prog 23 #[v, .int .i64 (m : Int), .string name] w fun e w' => ∃ v', e = .returned (.tuple #[v', .int .i64 0]) ∧ NodesV w' v' (unsetP l m name) ∧ Below w.heap.size w w' := by
  have HC := hide (fun W (hb : Below w.heap.size w W) => refCopied_any v l W (hv.below hb) hz)
  have HP := hide (refHas_any v l (m : Int) w hv hz)
  have e1 : hasN l (m : Int) = true := by unfold hasN; rw [decide_eq_true ⟨by omega, by omega⟩, right_is.2 hR]; rfl
  rw [e1] at HP
  obtain ⟨pp, cc, rfl, hv⟩ := hv
  rcases hv with hv | ⟨b, o, rfl, hv⟩
  · rw [hv] at hm; simp at hm
  obtain ⟨va, vk, N0⟩ := hv m hm
  have NW : Hid (∀ W, Below w.heap.size w W → NodeAt W b (o + m * 5) l[m] va vk) := fun W hb => N0.below hb
  have i0 : (0 : Int) ≤ (m : Int) := by omega
  have i1 : (m : Int) < (l.length : Int) := by omega
  have hlen := hR.len.2
  have n1 := noName_size' h1
  have n2 : ¬ (l[m].name.size : Int) = 0 := by omega
  have n3 : ((l[m].name.size : Int) == 0) = false := by rw [beq_eq_false_iff_ne]; exact n2
  have ZA := hide (hz.nds l[m] (List.getElem_mem _)).attrs
  have zz := ZA.out
  obtain ⟨iA, hA0, hA1, hA2, hA3⟩ := info_parts infoA
  clear hv N0 hz hR e1 h1
  go_enter Try.func23, Try.ntmps23
  go_wp2_with fail
  refine HP.out.mono ?_
  rintro e w1 ⟨rfl, b1⟩
  have a0 := (NW.out w1 b1).name
  have B1 := hide b1
  clear b1
  go_wp2_with fail
  refine (HC.out _ B1.out).mono ?_
  rintro e w5 ⟨v5, L, rfl, o5, l5, b5⟩
  have LL : L.length = l.length := by rw [← ndsOf_len, l5]
  have hmL : m < L.length := by omega
  have O5 := hide (OwnD.mono o5 B1.out.size)
  obtain ⟨G, cp, ev, eb, g0, g1, _⟩ := owns_at O5.out.row (by omega)
  have B5 := hide (chain B1.out b5)
  have NN : Hid (nd l m = L[m].n) := by show _ = _; rw [← l5]; exact ndsOf_at hmL
  have NA := O5.out.nodeAt eb hmL
  have c2 := NA.attrs
  have fz := owns_free O5.out.row eb (m * 5 + 2)
  have j1 : (m : Int) < (L.length : Int) := by omega
  have L5 := hide l5
  have EB := hide eb
  have nab : Hid (G ∉ blks L[m]) := own_ne O5.out hmL eb
  have AO : Hid (AttrsO w.heap.size w5 L[m].a l[m].attrs) := by
    have := O5.out.at_ L[m] (List.getElem_mem _)
    rw [← NN.out, nd_at hm] at this
    exact this
  have LH := hide LL
  obtain ⟨qa, ca, ea, _⟩ := AO.out.attrs
  have EA := hide ea
  have BW : Hid (w.heap.size ≤ w5.heap.size) := B5.out.size
  clear o5 l5 b5 eb NA LL a0
  subst ev
  rw [ea] at c2
  clear ea
  go_wp2_with fail
  go_loopw [9, 10] (fun ov iv wr => ∃ k : Nat, k ≤ l[m].attrs.length ∧ iv = .int .i64 k ∧ Hid (AttrsO w5.heap.size wr ov (unsetA (l[m].attrs.take k) name)) ∧ Hid (Below w5.heap.size w5 wr)) (fun _ iv _ => l[m].attrs.length - (intOf iv).toNat)
  case atStart => exact ⟨0, Nat.zero_le _, rfl, World.ownsRow_nil _ _ _ _, Below.refl _ _⟩
  case round =>
    rename World => wr
    obtain ⟨k, hk, rfl, OU, BB⟩ := hrel
    have d2 := cell_below c2 BB.out
    by_cases h : k < l[m].attrs.length
    · have k1 : (k : Int) < (l[m].attrs.length : Int) := by omega
      have k0 : (0 : Int) ≤ (k : Int) := by omega
      obtain ⟨ga, cpa, ea2, eab, ga0, ga1, _⟩ := owns_at AO.out (by omega)
      obtain ⟨rfl, rfl⟩ : qa = some ⟨ga, 0, none⟩ ∧ ca = cpa := by rw [EA.out] at ea2; cases ea2; exact ⟨rfl, rfl⟩
      have x0 := cell_below (owns_cell AO.out eab (cellsA_at h).1) BB.out
      have x1 := cell_below (owns_cell AO.out eab (cellsA_at h).2) BB.out
      have UT := hide (unset_take h name)
      have UL : Hid ((unsetA (l[m].attrs.take k) name).length ≤ k) := Nat.le_trans (unsetA_len _ _) (by rw [List.length_take]; omega)
      clear ea2 eab
      obtain ⟨y, hy⟩ : ∃ y, Hid (l[m].attrs[k] = y) := ⟨_, show _ = _ from rfl⟩
      rw [hy.out] at x0 x1 UT
      have tb := txt_beq y.1 name
      by_cases q : y.1 = name
      · rw [decide_eq_true q] at tb
        rw [if_pos q, List.append_nil] at UT
        have tq : y.1.toList = name.toList := by rw [q]
        go_wp2_with fail
        go_roundw
        case rel => exact ⟨k + 1, by omega, by go_num, by show AttrsO _ _ _ _; rw [UT.out]; exact OU.out, BB⟩
        case measure => simp [intOf]; omega
      · rw [decide_eq_false q] at tb
        rw [if_neg q] at UT
        have tq : ¬ y.1.toList = name.toList := by intro t; rw [t] at tb; simp at tb
        have CB : Hid (Chg [] wr (wr.alloc (.cells #[.string y.1, .string y.2] 48))) := Chg.alloc _ _
        have OW := hide (owns_kept OU.out CB.out (fun _ _ q => by cases q))
        have R6 := hide ((NB.new wr [.string y.1, .string y.2] 48).raw 1 2 rfl 1)
        have W6 : Hid (w5.heap.size ≤ (wr.alloc (.cells #[.string y.1, .string y.2] 48)).heap.size) := Nat.le_trans BB.out.size CB.out.size
        have ul := UL.out
        go_wp2_with (at_builtin; refine wpList_append_raw rfl _ _ _ rfl w5.heap.size 48 iA _ 2 32 Try.underlying42 hA0 hA1 hA2 hA3 rfl (by omega) _ (unsetA (l[m].attrs.take k) name).length (cellsA (unsetA (l[m].attrs.take k) name)) rfl OW.out (.slice (some ⟨wr.heap.size, 0, none⟩) 1 1) 1 [.string y.1, .string y.2] rfl R6.out (by simp [Value.oneCell']) (by unfold maxLen; omega) (by omega) W6.out ?_; intro q6 c6 w6 own6 gr6 at6)
        go_roundw
        case rel =>
          refine ⟨k + 1, by omega, by go_num, ?_, ?_⟩
          · show AttrsO _ _ _ _
            rw [UT.out]
            unfold AttrsO
            rw [List.length_append, cellsA_app]
            exact own6
          · exact BB.out.trans (Chg.below (CB.out.nil.trans (Chg.of_grown gr6)) BB.out.size (fun k q => (World.ownsRow.lt OU.out k (opt_mem.1 q)).1))
        case measure => simp [intOf]; omega
    · obtain rfl : k = l[m].attrs.length := by omega
      have OF : Hid (AttrsO w5.heap.size wr u9 (unsetA l[m].attrs name)) := by have := OU.out; rw [List.take_length] at this; exact this
      have ff : wr.frozen? ⟨G, m * 5 + 2, none⟩ = false := (BB.out.frozen (p := ⟨G, m * 5 + 2, none⟩) g1).trans fz
      clear h OU
      obtain ⟨qu, cu, eu, _⟩ := OF.out.attrs
      subst eu
      go_wp2_with fail
      go_ret2
      have C6 : Chg L[m].a.ownBlock.toList w5 wr := (Chg.of_below BB.out).nil
      have D := OwnD.putA O5.out EB.out hmL C6 (owns_mono OF.out BW.out) (.inr (fun k hk => (World.ownsRow.lt OF.out k hk).1))
      have E : ndsOf (L.set m ⟨{ L[m].n with attrs := unsetA l[m].attrs name }, .slice qu (unsetA l[m].attrs name).length cu, L[m].k⟩) = unsetP l m name := by
        rw [ndsOf_set, L5.out]
        unfold unsetP upd
        rw [nd_at hm, ← NN.out, nd_at hm]
      have D2 := D.nodes
      rw [E] at D2
      refine ⟨_, rfl, D2, B5.out.trans (Chg.below (S := G :: L[m].a.ownBlock.toList) ((C6.mono (fun k q _ => List.mem_cons_of_mem _ q)).trans ((Chg.setB _ _ _ _).mono (fun k q _ => by rw [List.mem_singleton.1 q]; exact List.mem_cons_self ..))) BW.out (fun k q => ?_))⟩
      rcases List.mem_cons.1 q with t | t
      · rw [t]; exact g0
      · exact (World.ownsRow.lt AO.out k (opt_mem.1 t)).1

end Go.Proofs.Ytkloahpkjbohoaa
