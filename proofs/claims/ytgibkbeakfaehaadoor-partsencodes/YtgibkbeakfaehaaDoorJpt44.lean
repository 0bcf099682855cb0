/- The document's Clear, Choose, Encode of layer 20. The program's Told of layer 20. Stage 20's wakes and its laws PartsEncodes, PartsDecodes, PartsBack, walked. -/
import Derived.Test.YtgibkbeakfaehaaDoorJpt31
import Derived.Test.YtgibkbeakfaehaaDoorJpt37
import Derived.Test.YtgibkbeakfaehaaDoorJpt38
import Derived.Test.YtgibkbeakfaehaaDoorJpt39
import Derived.Test.YtgibkbeakfaehaaDoorJpt45

namespace Go.Proofs.YtgibkbeakfaehaaDoor
open Go.RowKit
set_option maxRecDepth 100000
set_option maxHeartbeats 8000000 in
theorem refEncode20_any (n : Nat) (v : Value) (l : List En) (b : ByteArray) (w : World) (hv : FilesV w v l) (hn : n ≤ 1000000) (hl : EnsOK n l) (hb : b.size ≤ 1000) :
    Calls Tryd.prog 17 #[v, .string b] w fun e w' => e = .returned (.tuple #[.string (encT20 l b), .int .i64 (encE20 l b)]) ∧ Below w.heap.size w w' := by
  have FV := hide hv
  have HC := hide (refClear_any n v l b w hv hn hl (by omega))
  have HZ := hide (ens_z hl hn)
  have l200 := hl.len
  obtain ⟨p, c, rfl⟩ := files_formP hv
  have PT := hide (fun k => enT_len (b := bL b) HZ.out l200 (by rw [len_bL]; exact hb) k)
  clear hv hl
  cases q : clrL l (bL b) with
  | false =>
    rw [q] at HC
    have E1 : Hid (encT20 l b = ⟨#[]⟩) := by show _ = _; unfold encT20; rw [q]; rfl
    have E2 : Hid (encE20 l b = 10) := by show _ = _; unfold encE20; rw [q]; rfl
    clear q FV HZ PT
    go_enter Tryd.func17, Tryd.ntmps17
    go_wp2_with fail
    refine HC.out.mono ?_
    rintro e w1 ⟨rfl, b1⟩
    go_wp2_with fail
    go_ret2
    exact ⟨ret_chs E1.out.symm E2.out.symm, b1⟩
  | true =>
    rw [q] at HC
    have E1 : Hid (txt (encP l (bL b)) = encT20 l b) := by show _ = _; unfold encT20; rw [q]; rfl
    have E2 : Hid (encE20 l b = 0) := by show _ = _; unfold encE20; rw [q]; rfl
    clear q
    go_enter Tryd.func17, Tryd.ntmps17
    go_wp2_with fail
    refine HC.out.mono ?_
    rintro e w1 ⟨rfl, b1⟩
    have B1 := hide b1
    clear b1 HC
    go_wp2_with fail
    go_loopw [6, 7] (fun ov iv wr => ∃ k : Nat, k ≤ l.length ∧ iv = .int .i64 k ∧ OwnsB 5 w1.heap.size wr ov (enT l (bL b) k) ∧ Hid (Below w1.heap.size w1 wr)) (fun _ iv _ => l.length - (intOf iv).toNat)
    case atStart => exact ⟨0, Nat.zero_le _, rfl, OwnsB.nil _ _ _, Below.refl _ _⟩
    case round =>
      rename World => wr
      obtain ⟨k, hk, rfl, OW, BW⟩ := hrel
      have L0 := PT.out k
      have sw := BW.out.size
      by_cases g : k < l.length
      · have k1 : (k : Int) < (l.length : Int) := by omega
        have k0 : (0 : Int) ≤ (k : Int) := by omega
        obtain ⟨bb, oo, rfl, EA0⟩ := en_of (FV.out.below B1.out) g
        have EA := hide EA0
        have zq := HZ.out _ (List.getElem_mem g)
        have ps := part_size zq
        have HP := hide (fun W => refPart_any l[k] W zq)
        have EX : Hid (enT l (bL b) (k + 1) = ((((enT l (bL b) k ++ [45, 45]) ++ bL b) ++ [13, 10]) ++ bL (txt (partL l[k]))) ++ [13, 10]) := enT_next l (bL b) g
        have zp : (txt (partL l[k])).size ≤ 16000200 := by show (partL l[k]).length ≤ _; omega
        have XC := hide (fun W (hb : Below w1.heap.size w1 W) => EA.out.below hb)
        clear EA0 EA zq ps HZ FV PT E1 E2
        generalize txt (partL l[k]) = pt at *
        generalize enT l (bL b) k = C at *
        generalize l[k] = ek at *
        go_wp2_with (first | (at_builtin; refine wpList_append_text byteTypesE wr rfl _ _ rfl w1.heap.size _ C ⟨#[45, 45]⟩ rfl OW rfl (by show C.length + 2 ≤ _; omega) (by omega) ?_; intro v2 w2 o2 b2; have W2 : Hid (Below w1.heap.size w1 w2) := BW.out.trans b2; have m2 := W2.out.size) | (at_builtin; refine wpList_append_text byteTypesE w2 rfl _ _ rfl w1.heap.size _ (C ++ [45, 45]) b rfl o2 rfl (by simp only [List.length_append, List.length_cons, List.length_nil]; omega) (by omega) ?_; intro v3 w3 o3 b3; have W3 : Hid (Below w1.heap.size w1 w3) := W2.out.trans b3; have m3 := W3.out.size) | (at_builtin; refine wpList_append_text byteTypesE w3 rfl _ _ rfl w1.heap.size _ ((C ++ [45, 45]) ++ bL b) ⟨#[13, 10]⟩ rfl o3 rfl (by simp only [List.length_append, List.length_cons, List.length_nil, len_bL]; show _ + 2 ≤ _; omega) (by omega) ?_; intro v4 w4 o4 b4; have W4 : Hid (Below w1.heap.size w1 w4) := W3.out.trans b4; have m4 := W4.out.size; have EA4 := XC.out _ W4.out; have a0 := EA4.c0; have a1 := EA4.c1; have a2 := EA4.c2; have a3 := EA4.c3; have a4 := EA4.c4))
        refine (HP.out _).mono ?_
        rintro e w5 ⟨rfl, b5⟩
        have o5 := OwnsB.below o4 b5
        have W5 := hide (chain W4.out b5)
        have m5 := W5.out.size
        clear b5 HP
        go_wp2_with (first | (at_builtin; refine wpList_append_text byteTypesE w5 rfl _ _ rfl w1.heap.size _ (((C ++ [45, 45]) ++ bL b) ++ [13, 10]) pt rfl o5 rfl (by simp only [List.length_append, List.length_cons, List.length_nil, len_bL]; omega) (by omega) ?_; intro v6 w6 o6 b6; have W6 : Hid (Below w1.heap.size w1 w6) := W5.out.trans b6; have m6 := W6.out.size) | (at_builtin; refine wpList_append_text byteTypesE w6 rfl _ _ rfl w1.heap.size _ ((((C ++ [45, 45]) ++ bL b) ++ [13, 10]) ++ bL pt) ⟨#[13, 10]⟩ rfl o6 rfl (by simp only [List.length_append, List.length_cons, List.length_nil, len_bL]; show _ + 2 ≤ _; omega) (by omega) ?_; intro v7 w7 o7 b7; have W7 : Hid (Below w1.heap.size w1 w7) := W6.out.trans b7; have m7 := W7.out.size))
        rw [← EX.out] at o7
        go_roundw
        case rel => exact ⟨k + 1, by omega, by go_num, o7, W7⟩
        case measure => simp [intOf]; omega
      · obtain rfl : k = l.length := by omega
        have EA : Hid (((enT l (bL b) l.length ++ [45, 45]) ++ bL b) ++ [45, 45, 13, 10] = encP l (bL b)) := enT_all l (bL b)
        clear FV HZ PT
        generalize enT l (bL b) l.length = C at *
        generalize encP l (bL b) = EP at *
        go_wp2_with (first | (at_builtin; refine wpList_append_text byteTypesE wr rfl _ _ rfl w1.heap.size _ C ⟨#[45, 45]⟩ rfl OW rfl (by show C.length + 2 ≤ _; omega) (by omega) ?_; intro v2 w2 o2 b2; have W2 : Hid (Below w1.heap.size w1 w2) := BW.out.trans b2; have m2 := W2.out.size) | (at_builtin; refine wpList_append_text byteTypesE w2 rfl _ _ rfl w1.heap.size _ (C ++ [45, 45]) b rfl o2 rfl (by simp only [List.length_append, List.length_cons, List.length_nil]; omega) (by omega) ?_; intro v3 w3 o3 b3; have W3 : Hid (Below w1.heap.size w1 w3) := W2.out.trans b3; have m3 := W3.out.size) | (at_builtin; refine wpList_append_text byteTypesE w3 rfl _ _ rfl w1.heap.size _ ((C ++ [45, 45]) ++ bL b) ⟨#[45, 45, 13, 10]⟩ rfl o3 rfl (by simp only [List.length_append, List.length_cons, List.length_nil, len_bL]; show _ + 4 ≤ _; omega) (by omega) ?_; intro v4 w4 o4 b4; rw [EA.out] at o4; have hend := OwnsB.text byteTypesE o4; have W4 : Hid (Below w1.heap.size w1 w4) := W3.out.trans b4; have m4 := W4.out.size))
        go_ret2
        exact ⟨ret_chs E1.out E2.out.symm, chain B1.out W4.out⟩
end Go.Proofs.YtgibkbeakfaehaaDoor

namespace Go.Proofs.YtgibkbeakfaehaaDoor
open Go.RowKit
set_option maxRecDepth 100000
theorem other5 {w : World} {n m : Nat} {cs : List Value} {t : TypeId} (h : Bk w n cs t) (hm : m ≠ n) (u0 u1 u2 u3 u4 : Value) : Bk (((((w.setCell ⟨m, 0, none⟩ u0).setCell ⟨m, 1, none⟩ u1).setCell ⟨m, 2, none⟩ u2).setCell ⟨m, 3, none⟩ u3).setCell ⟨m, 4, none⟩ u4) n cs t :=
  ((((h.other hm 0 u0).other hm 1 u1).other hm 2 u2).other hm 3 u3).other hm 4 u4
set_option maxHeartbeats 8000000 in
theorem ptToldO_any (n : Nat) (v : Value) (l : List En) (w : World) (hv : FilesV w v l) (hn : n ≤ 1000000) (hl : EnsOK n l) (hT : PtTabs w) :
    Calls Tryd.prog 19 #[v] w fun e w' => ∃ v', e = .returned v' ∧ OwnR w.heap.size w' v' (l.map toldE) ∧ Below w.heap.size w w' := by
  have FV := hide hv
  have HZ := hide (ens_z hl hn)
  have HTb := hide hT
  have l200 := hl.len
  obtain ⟨p, c, rfl⟩ := files_formP hv
  clear hv hl hT
  go_enter Tryd.func19, Tryd.ntmps19
  go_wp2_with fail
  go_loopw [3, 9] (fun ov iv wr => ∃ (k : Nat) (q : Option Addr) (cp : Nat), k ≤ l.length ∧ iv = .int .i64 k ∧ ov = .slice q k cp ∧ Hid (OwnR w.heap.size wr (.slice q k cp) ((l.take k).map toldE)) ∧ Hid (Below w.heap.size w wr)) (fun _ iv _ => l.length - (intOf iv).toNat)
  case atStart => exact ⟨0, none, 0, Nat.zero_le _, rfl, rfl, OwnR.nil _ _, Below.refl _ _⟩
  case round =>
    rename World => wr
    obtain ⟨k, q, cp, hk, rfl, rfl, OW, BW⟩ := hrel
    by_cases g : k < l.length
    · have k1 : (k : Int) < (l.length : Int) := by omega
      have k0 : (0 : Int) ≤ (k : Int) := by omega
      obtain ⟨b, o, rfl, EA⟩ := en_of (FV.out.below BW.out) g
      obtain ⟨z0, z1, z2, z3⟩ := HZ.out _ (List.getElem_mem g)
      have TK := hide (told_take l g)
      have PL := hide (told_len l k hk)
      have vz : (txt (valP l[k])).size ≤ 2000000 := by
        have := pairsS_size l[k].val
        cases h : l[k].file with
        | true => rw [val_file h]; omega
        | false => rw [val_text h]; omega
      have ns := name_size (s := l[k].name)
      have ns2 := name_size (s := l[k].fname)
      have ts := type_size (s := l[k].typ)
      have HN := hide (fun W (hb : Below w.heap.size w W) => quote_any l[k].name W (by omega) (HTb.out.below hb))
      have HU := hide (fun W (hb : Below w.heap.size w W) => unquote_any (txt (nameL (bL l[k].name))) W (by omega) (HTb.out.below hb))
      have HCa := hide (fun W => carried_any l[k] W (by omega))
      have HCl := hide (fun W => clone_any (txt (valP l[k])) W (by omega))
      have HN2 := hide (fun W (hb : Below w.heap.size w W) => quote_any l[k].fname W (by omega) (HTb.out.below hb))
      have HU2 := hide (fun W (hb : Below w.heap.size w W) => unquote_any (txt (nameL (bL l[k].fname))) W (by omega) (HTb.out.below hb))
      have HT := hide (fun W => toldType_any l[k].typ W (by omega))
      have HCl2 := hide (fun W => clone_any (txt (typeL (bL l[k].typ))) W (by omega))
      have ET : Hid (toldE l[k] = ⟨txt (unL (bL (txt (nameL (bL l[k].name))))), txt (valP l[k]), l[k].file, if l[k].file = true then txt (unL (bL (txt (nameL (bL l[k].fname))))) else ⟨#[]⟩, if l[k].file = true then txt (typeL (bL l[k].typ)) else ⟨#[]⟩⟩) := rfl
      have a0 := EA.c0
      have a1 := EA.c1
      have a2 := EA.c2
      have a3 := EA.c3
      have a4 := EA.c4
      clear EA z0 z1 z2 z3 ns ns2 ts vz HZ FV HTb
      generalize toldE l[k] = te at *
      generalize txt (unL (bL (txt (nameL (bL l[k].name))))) = u0 at *
      generalize txt (nameL (bL l[k].name)) = m0 at *
      generalize txt (unL (bL (txt (nameL (bL l[k].fname))))) = u2 at *
      generalize txt (nameL (bL l[k].fname)) = m2 at *
      generalize txt (typeL (bL l[k].typ)) = u4 at *
      generalize txt (valP l[k]) = v1 at *
      generalize l[k].name = t0 at *
      generalize l[k].val = t1 at *
      generalize l[k].file = fb at *
      generalize l[k].fname = t2 at *
      generalize l[k].typ = t3 at *
      have KA0 := hide (Bk.new wr [.string t0, .string t1, .bool fb, .string t2, .string t3] 44)
      have BC0 : Hid (Below wr.heap.size wr (wr.alloc (.cells #[.string t0, .string t1, .bool fb, .string t2, .string t3] 44))) := (Below.refl _ _).alloc (Nat.le_refl _) _
      go_upto_region 5 with fail
      generalize wr.alloc (.cells #[.string t0, .string t1, .bool fb, .string t2, .string t3] 44) = wa0 at *
      have KA := hide KA0.out
      have K5 := hide KA0.out.drewC
      have BC := hide (belDC BC0.out)
      clear KA0 BC0 a0 a1 a2 a3 a4
      go_cut [6] (fun sv wx => ∃ E : Nat, sv = .pointer (some ⟨E, 0, none⟩) ∧ Hid (Bk wx E [.string u0, .string v1, .bool fb, .string ⟨#[]⟩, .string ⟨#[]⟩] 44) ∧ Hid (wr.heap.size < E) ∧ Hid (Bk wx wr.heap.size [.string t0, .string t1, .bool fb, .string t2, .string t3] 44) ∧ Hid (Below wr.heap.size wr wx))
      case first =>
        refine wp_region_held_drew (S := fun X : World => X.cell? ⟨wr.heap.size, 0, none⟩ = some (.string t0) ∧ X.cell? ⟨wr.heap.size, 1, none⟩ = some (.string t1) ∧ X.cell? ⟨wr.heap.size, 2, none⟩ = some (.bool fb) ∧ X.cell? ⟨wr.heap.size, 3, none⟩ = some (.string t2) ∧ X.cell? ⟨wr.heap.size, 4, none⟩ = some (.string t3)) (by kernel_rfl) ?_ (fun hHeld => ?_)
        · exact ⟨KA.out.cell 0 rfl, KA.out.cell 1 rfl, KA.out.cell 2 rfl, KA.out.cell 3 rfl, KA.out.cell 4 rfl⟩
        generalize wa0.drew = w0 at *
        refine wpAnyH_take (i := 0) (oi := { dst := some 13, op := Op.fieldAddr 44 (Operand.tmp 5) 0, type := 0, pos := "parts.go:102", after := #[], guard := none }) (v := ?_) rfl (by kernel_rfl) (by kernel_rfl) (by kernel_rfl) (fun _ _ _ h => h) (Or.inl ⟨by rfl, ?_⟩) (by assumption) ?_
        rotate_left
        · (intro w hSw; (try dsimp only at hSw); first | (go_simp; done) | (go_simp; with_reducible rfl))
        simp only [Act.put, List.setIfInBounds_toArray, List.set_cons_zero, List.set_cons_succ]
        refine wpAnyH_take (i := 1) (oi := { dst := some 14, op := Op.load 9 (Operand.tmp 13), type := 9, pos := "parts.go:102", after := #[{ on := 0, ground := Ground.data }], guard := none }) (v := ?_) rfl (by kernel_rfl) (by kernel_rfl) (by kernel_rfl) (fun _ _ _ h => h) (Or.inl ⟨by rfl, ?_⟩) (by assumption) ?_
        rotate_left
        · (intro w hSw; (try dsimp only at hSw); first | (go_simp; done) | (go_simp; with_reducible rfl))
        simp only [Act.put, List.setIfInBounds_toArray, List.set_cons_zero, List.set_cons_succ]
        refine wpAnyH_take (i := 4) (oi := { dst := some 17, op := Op.load 44 (Operand.tmp 5), type := 44, pos := "parts.go:102", after := #[], guard := none }) (v := ?_) rfl (by kernel_rfl) (by kernel_rfl) (by kernel_rfl) (fun _ _ _ h => h) (Or.inl ⟨by rfl, ?_⟩) (by assumption) ?_
        rotate_left
        · (intro w hSw; (try dsimp only at hSw); first | (go_simp; done) | (go_simp; with_reducible rfl))
        simp only [Act.put, List.setIfInBounds_toArray, List.set_cons_zero, List.set_cons_succ]
        refine wpAnyH_take (i := 7) (oi := { dst := some 20, op := Op.fieldAddr 44 (Operand.tmp 5) 2, type := 0, pos := "parts.go:102", after := #[], guard := none }) (v := ?_) rfl (by kernel_rfl) (by kernel_rfl) (by kernel_rfl) (fun _ _ _ h => h) (Or.inl ⟨by rfl, ?_⟩) (by assumption) ?_
        rotate_left
        · (intro w hSw; (try dsimp only at hSw); first | (go_simp; done) | (go_simp; with_reducible rfl))
        simp only [Act.put, List.setIfInBounds_toArray, List.set_cons_zero, List.set_cons_succ]
        refine wpAnyH_take (i := 8) (oi := { dst := some 21, op := Op.load 4 (Operand.tmp 20), type := 4, pos := "parts.go:102", after := #[{ on := 7, ground := Ground.data }], guard := none }) (v := ?_) rfl (by kernel_rfl) (by kernel_rfl) (by kernel_rfl) (fun _ _ _ h => h) (Or.inl ⟨by rfl, ?_⟩) (by assumption) ?_
        rotate_left
        · (intro w hSw; (try dsimp only at hSw); first | (go_simp; done) | (go_simp; with_reducible rfl))
        simp only [Act.put, List.setIfInBounds_toArray, List.set_cons_zero, List.set_cons_succ]
        refine wpAnyH_ready (rs := [2, 10]) (by kernel_rfl) (by simp) ?_
        refine AllReadyH.cons (i := 2) (o := { dst := some 15, op := Op.call { callee := Callee.value (Operand.func 37), args := #[Operand.tmp 14], argTypes := #[9] }, type := 9, pos := "parts.go:102", after := #[{ on := 1, ground := Ground.data }], guard := none }) rfl (fun K hK => ?_) (AllReadyH.cons (i := 10) (o := { dst := some 6, op := Op.alloc 44, type := 0, pos := "parts.go:102", after := #[], guard := none }) rfl (fun K hK => ?_) AllReadyH.nil)
        · go_simp
          refine (HN.out _ (chain BW.out BC.out)).mono ?_
          rintro e wa ⟨rfl, bx⟩
          replace BC := hide (chain BC.out bx)
          replace K5 := hide (K5.out.below bx)
          try replace KE := hide (KE.out.below bx)
          clear bx
          go_wp2_with fail
          refine hK.out _ _ ?_ (fun hHeld => ?_)
          · exact ⟨K5.out.cell 0 rfl, K5.out.cell 1 rfl, K5.out.cell 2 rfl, K5.out.cell 3 rfl, K5.out.cell 4 rfl⟩
          clear hK K
          refine wpAnyH_ready (rs := [3, 10]) (by kernel_rfl) (by simp) ?_
          refine AllReadyH.cons (i := 3) (o := { dst := some 16, op := Op.call { callee := Callee.value (Operand.func 36), args := #[Operand.tmp 15], argTypes := #[9] }, type := 9, pos := "parts.go:102", after := #[{ on := 2, ground := Ground.data }, { on := 2, ground := Ground.chain }], guard := none }) rfl (fun K hK => ?_) (AllReadyH.cons (i := 10) (o := { dst := some 6, op := Op.alloc 44, type := 0, pos := "parts.go:102", after := #[], guard := none }) rfl (fun K hK => ?_) AllReadyH.nil)
          · go_simp
            refine (HU.out _ (chain BW.out BC.out)).mono ?_
            rintro e wb ⟨rfl, bx⟩
            replace BC := hide (chain BC.out bx)
            replace K5 := hide (K5.out.below bx)
            try replace KE := hide (KE.out.below bx)
            clear bx
            go_wp2_with fail
            refine hK.out _ _ ?_ (fun hHeld => ?_)
            · exact ⟨K5.out.cell 0 rfl, K5.out.cell 1 rfl, K5.out.cell 2 rfl, K5.out.cell 3 rfl, K5.out.cell 4 rfl⟩
            clear hK K
            refine wpAnyH_ready (rs := [5, 10]) (by kernel_rfl) (by simp) ?_
            refine AllReadyH.cons (i := 5) (o := { dst := some 18, op := Op.call { callee := Callee.value (Operand.func 38), args := #[Operand.tmp 17], argTypes := #[44] }, type := 9, pos := "parts.go:102", after := #[{ on := 4, ground := Ground.data }, { on := 3, ground := Ground.chain }], guard := none }) rfl (fun K hK => ?_) (AllReadyH.cons (i := 10) (o := { dst := some 6, op := Op.alloc 44, type := 0, pos := "parts.go:102", after := #[], guard := none }) rfl (fun K hK => ?_) AllReadyH.nil)
            · go_simp
              refine (HCa.out _).mono ?_
              rintro e wc ⟨rfl, bx⟩
              replace BC := hide (chain BC.out bx)
              replace K5 := hide (K5.out.below bx)
              try replace KE := hide (KE.out.below bx)
              clear bx
              go_wp2_with fail
              refine hK.out _ _ ?_ (fun hHeld => ?_)
              · exact ⟨K5.out.cell 0 rfl, K5.out.cell 1 rfl, K5.out.cell 2 rfl, K5.out.cell 3 rfl, K5.out.cell 4 rfl⟩
              clear hK K
              refine wpAnyH_ready (rs := [6, 10]) (by kernel_rfl) (by simp) ?_
              refine AllReadyH.cons (i := 6) (o := { dst := some 19, op := Op.call { callee := Callee.value (Operand.func 33), args := #[Operand.tmp 18], argTypes := #[9] }, type := 9, pos := "parts.go:102", after := #[{ on := 5, ground := Ground.data }, { on := 5, ground := Ground.chain }], guard := none }) rfl (fun K hK => ?_) (AllReadyH.cons (i := 10) (o := { dst := some 6, op := Op.alloc 44, type := 0, pos := "parts.go:102", after := #[], guard := none }) rfl (fun K hK => ?_) AllReadyH.nil)
              · go_simp
                refine (HCl.out _).mono ?_
                rintro e wd ⟨rfl, bx⟩
                replace BC := hide (chain BC.out bx)
                replace K5 := hide (K5.out.below bx)
                try replace KE := hide (KE.out.below bx)
                clear bx
                go_wp2_with fail
                refine hK.out _ _ ?_ (fun hHeld => ?_)
                · exact ⟨K5.out.cell 0 rfl, K5.out.cell 1 rfl, K5.out.cell 2 rfl, K5.out.cell 3 rfl, K5.out.cell 4 rfl⟩
                clear hK K
                refine wpAnyH_take (i := 9) (oi := { dst := some 22, op := Op.build 44 #[(0, Operand.tmp 16), (1, Operand.tmp 19), (2, Operand.tmp 21)], type := 44, pos := "parts.go:102", after := #[{ on := 3, ground := Ground.data }, { on := 6, ground := Ground.data }, { on := 8, ground := Ground.data }], guard := none }) (v := ?_) rfl (by kernel_rfl) (by kernel_rfl) (by kernel_rfl) (fun _ _ _ h => h) (Or.inl ⟨by rfl, ?_⟩) (by assumption) ?_
                rotate_left
                · (intro w hSw; (try dsimp only at hSw); first | (go_simp; done) | (go_simp; with_reducible rfl))
                simp only [Act.put, List.setIfInBounds_toArray, List.set_cons_zero, List.set_cons_succ]
                refine wpAnyH_ready (rs := [10]) (by kernel_rfl) (by simp) ?_
                refine AllReadyH.cons (i := 10) (o := { dst := some 6, op := Op.alloc 44, type := 0, pos := "parts.go:102", after := #[], guard := none }) rfl (fun K hK => ?_) AllReadyH.nil
                go_simp
                have KE := hide (Bk.new wd [.string ⟨#[]⟩, .string ⟨#[]⟩, .bool false, .string ⟨#[]⟩, .string ⟨#[]⟩] 44)
                have AZ : Below wd.heap.size wd (wd.alloc (.cells #[.string ⟨#[]⟩, .string ⟨#[]⟩, .bool false, .string ⟨#[]⟩, .string ⟨#[]⟩] 44)) := (Below.refl _ _).alloc (Nat.le_refl _) _
                have GE : Hid (wr.heap.size < wd.heap.size) := K5.out.lt
                replace BC := hide (chain BC.out AZ)
                replace K5 := hide (K5.out.below AZ)
                clear AZ
                generalize wd.alloc (.cells #[.string ⟨#[]⟩, .string ⟨#[]⟩, .bool false, .string ⟨#[]⟩, .string ⟨#[]⟩] 44) = wz at *
                generalize wd.heap.size = E at *
                refine hK.out _ _ ?_ (fun hHeld => ?_)
                · exact ⟨K5.out.cell 0 rfl, K5.out.cell 1 rfl, K5.out.cell 2 rfl, K5.out.cell 3 rfl, K5.out.cell 4 rfl⟩
                clear hK K
                have g0 := KE.out.cell 0 rfl
                have f0 := KE.out.free 0
                have g1 := KE.out.cell 1 rfl
                have f1 := KE.out.free 1
                have g2 := KE.out.cell 2 rfl
                have f2 := KE.out.free 2
                have g3 := KE.out.cell 3 rfl
                have f3 := KE.out.free 3
                have g4 := KE.out.cell 4 rfl
                have f4 := KE.out.free 4
                have KF := hide (((((KE.out.set 0 (.string u0)).set 1 (.string v1)).set 2 (.bool fb)).set 3 (.string ⟨#[]⟩)).set 4 (.string ⟨#[]⟩))
                have B5 := hide (low5 BC.out (Nat.le_of_lt GE.out) (.string u0) (.string v1) (.bool fb) (.string ⟨#[]⟩) (.string ⟨#[]⟩))
                have K6 := hide (other5 K5.out (Nat.ne_of_gt GE.out) (.string u0) (.string v1) (.bool fb) (.string ⟨#[]⟩) (.string ⟨#[]⟩))
                refine wpAnyH_ready (rs := [11]) (by kernel_rfl) (by simp) ?_
                refine AllReadyH.cons (i := 11) (o := { dst := none, op := Op.store 44 (Operand.tmp 6) (Operand.tmp 22), type := 0, pos := "parts.go:102", after := #[{ on := 10, ground := Ground.data }, { on := 9, ground := Ground.data }, { on := 6, ground := Ground.chain }, { on := 0, ground := Ground.phase }, { on := 1, ground := Ground.phase }, { on := 2, ground := Ground.phase }, { on := 3, ground := Ground.phase }, { on := 4, ground := Ground.phase }, { on := 5, ground := Ground.phase }, { on := 6, ground := Ground.phase }, { on := 7, ground := Ground.phase }, { on := 8, ground := Ground.phase }, { on := 9, ground := Ground.phase }, { on := 10, ground := Ground.phase }], guard := none }) rfl (fun K hK => ?_) AllReadyH.nil
                go_simp
                refine hK.out _ _ ?_ (fun hHeld => ?_)
                · exact ⟨K6.out.cell 0 rfl, K6.out.cell 1 rfl, K6.out.cell 2 rfl, K6.out.cell 3 rfl, K6.out.cell 4 rfl⟩
                clear hK K
                refine wpAnyH_done (by kernel_rfl) ?_ _
                go_wp2_with fail
                go_meet
                case rel => exact ⟨_, rfl, KF, GE, K6, B5⟩
              · go_simp
                have KE := hide (Bk.new wc [.string ⟨#[]⟩, .string ⟨#[]⟩, .bool false, .string ⟨#[]⟩, .string ⟨#[]⟩] 44)
                have AZ : Below wc.heap.size wc (wc.alloc (.cells #[.string ⟨#[]⟩, .string ⟨#[]⟩, .bool false, .string ⟨#[]⟩, .string ⟨#[]⟩] 44)) := (Below.refl _ _).alloc (Nat.le_refl _) _
                have GE : Hid (wr.heap.size < wc.heap.size) := K5.out.lt
                replace BC := hide (chain BC.out AZ)
                replace K5 := hide (K5.out.below AZ)
                clear AZ
                generalize wc.alloc (.cells #[.string ⟨#[]⟩, .string ⟨#[]⟩, .bool false, .string ⟨#[]⟩, .string ⟨#[]⟩] 44) = wz at *
                generalize wc.heap.size = E at *
                refine hK.out _ _ ?_ (fun hHeld => ?_)
                · exact ⟨K5.out.cell 0 rfl, K5.out.cell 1 rfl, K5.out.cell 2 rfl, K5.out.cell 3 rfl, K5.out.cell 4 rfl⟩
                clear hK K
                refine wpAnyH_ready (rs := [6]) (by kernel_rfl) (by simp) ?_
                refine AllReadyH.cons (i := 6) (o := { dst := some 19, op := Op.call { callee := Callee.value (Operand.func 33), args := #[Operand.tmp 18], argTypes := #[9] }, type := 9, pos := "parts.go:102", after := #[{ on := 5, ground := Ground.data }, { on := 5, ground := Ground.chain }], guard := none }) rfl (fun K hK => ?_) AllReadyH.nil
                go_simp
                refine (HCl.out _).mono ?_
                rintro e wd ⟨rfl, bx⟩
                replace BC := hide (chain BC.out bx)
                replace K5 := hide (K5.out.below bx)
                try replace KE := hide (KE.out.below bx)
                clear bx
                go_wp2_with fail
                refine hK.out _ _ ?_ (fun hHeld => ?_)
                · exact ⟨K5.out.cell 0 rfl, K5.out.cell 1 rfl, K5.out.cell 2 rfl, K5.out.cell 3 rfl, K5.out.cell 4 rfl⟩
                clear hK K
                refine wpAnyH_take (i := 9) (oi := { dst := some 22, op := Op.build 44 #[(0, Operand.tmp 16), (1, Operand.tmp 19), (2, Operand.tmp 21)], type := 44, pos := "parts.go:102", after := #[{ on := 3, ground := Ground.data }, { on := 6, ground := Ground.data }, { on := 8, ground := Ground.data }], guard := none }) (v := ?_) rfl (by kernel_rfl) (by kernel_rfl) (by kernel_rfl) (fun _ _ _ h => h) (Or.inl ⟨by rfl, ?_⟩) (by assumption) ?_
                rotate_left
                · (intro w hSw; (try dsimp only at hSw); first | (go_simp; done) | (go_simp; with_reducible rfl))
                simp only [Act.put, List.setIfInBounds_toArray, List.set_cons_zero, List.set_cons_succ]
                have g0 := KE.out.cell 0 rfl
                have f0 := KE.out.free 0
                have g1 := KE.out.cell 1 rfl
                have f1 := KE.out.free 1
                have g2 := KE.out.cell 2 rfl
                have f2 := KE.out.free 2
                have g3 := KE.out.cell 3 rfl
                have f3 := KE.out.free 3
                have g4 := KE.out.cell 4 rfl
                have f4 := KE.out.free 4
                have KF := hide (((((KE.out.set 0 (.string u0)).set 1 (.string v1)).set 2 (.bool fb)).set 3 (.string ⟨#[]⟩)).set 4 (.string ⟨#[]⟩))
                have B5 := hide (low5 BC.out (Nat.le_of_lt GE.out) (.string u0) (.string v1) (.bool fb) (.string ⟨#[]⟩) (.string ⟨#[]⟩))
                have K6 := hide (other5 K5.out (Nat.ne_of_gt GE.out) (.string u0) (.string v1) (.bool fb) (.string ⟨#[]⟩) (.string ⟨#[]⟩))
                refine wpAnyH_ready (rs := [11]) (by kernel_rfl) (by simp) ?_
                refine AllReadyH.cons (i := 11) (o := { dst := none, op := Op.store 44 (Operand.tmp 6) (Operand.tmp 22), type := 0, pos := "parts.go:102", after := #[{ on := 10, ground := Ground.data }, { on := 9, ground := Ground.data }, { on := 6, ground := Ground.chain }, { on := 0, ground := Ground.phase }, { on := 1, ground := Ground.phase }, { on := 2, ground := Ground.phase }, { on := 3, ground := Ground.phase }, { on := 4, ground := Ground.phase }, { on := 5, ground := Ground.phase }, { on := 6, ground := Ground.phase }, { on := 7, ground := Ground.phase }, { on := 8, ground := Ground.phase }, { on := 9, ground := Ground.phase }, { on := 10, ground := Ground.phase }], guard := none }) rfl (fun K hK => ?_) AllReadyH.nil
                go_simp
                refine hK.out _ _ ?_ (fun hHeld => ?_)
                · exact ⟨K6.out.cell 0 rfl, K6.out.cell 1 rfl, K6.out.cell 2 rfl, K6.out.cell 3 rfl, K6.out.cell 4 rfl⟩
                clear hK K
                refine wpAnyH_done (by kernel_rfl) ?_ _
                go_wp2_with fail
                go_meet
                case rel => exact ⟨_, rfl, KF, GE, K6, B5⟩
            · go_simp
              have KE := hide (Bk.new wb [.string ⟨#[]⟩, .string ⟨#[]⟩, .bool false, .string ⟨#[]⟩, .string ⟨#[]⟩] 44)
              have AZ : Below wb.heap.size wb (wb.alloc (.cells #[.string ⟨#[]⟩, .string ⟨#[]⟩, .bool false, .string ⟨#[]⟩, .string ⟨#[]⟩] 44)) := (Below.refl _ _).alloc (Nat.le_refl _) _
              have GE : Hid (wr.heap.size < wb.heap.size) := K5.out.lt
              replace BC := hide (chain BC.out AZ)
              replace K5 := hide (K5.out.below AZ)
              clear AZ
              generalize wb.alloc (.cells #[.string ⟨#[]⟩, .string ⟨#[]⟩, .bool false, .string ⟨#[]⟩, .string ⟨#[]⟩] 44) = wz at *
              generalize wb.heap.size = E at *
              refine hK.out _ _ ?_ (fun hHeld => ?_)
              · exact ⟨K5.out.cell 0 rfl, K5.out.cell 1 rfl, K5.out.cell 2 rfl, K5.out.cell 3 rfl, K5.out.cell 4 rfl⟩
              clear hK K
              refine wpAnyH_ready (rs := [5]) (by kernel_rfl) (by simp) ?_
              refine AllReadyH.cons (i := 5) (o := { dst := some 18, op := Op.call { callee := Callee.value (Operand.func 38), args := #[Operand.tmp 17], argTypes := #[44] }, type := 9, pos := "parts.go:102", after := #[{ on := 4, ground := Ground.data }, { on := 3, ground := Ground.chain }], guard := none }) rfl (fun K hK => ?_) AllReadyH.nil
              go_simp
              refine (HCa.out _).mono ?_
              rintro e wc ⟨rfl, bx⟩
              replace BC := hide (chain BC.out bx)
              replace K5 := hide (K5.out.below bx)
              try replace KE := hide (KE.out.below bx)
              clear bx
              go_wp2_with fail
              refine hK.out _ _ ?_ (fun hHeld => ?_)
              · exact ⟨K5.out.cell 0 rfl, K5.out.cell 1 rfl, K5.out.cell 2 rfl, K5.out.cell 3 rfl, K5.out.cell 4 rfl⟩
              clear hK K
              refine wpAnyH_ready (rs := [6]) (by kernel_rfl) (by simp) ?_
              refine AllReadyH.cons (i := 6) (o := { dst := some 19, op := Op.call { callee := Callee.value (Operand.func 33), args := #[Operand.tmp 18], argTypes := #[9] }, type := 9, pos := "parts.go:102", after := #[{ on := 5, ground := Ground.data }, { on := 5, ground := Ground.chain }], guard := none }) rfl (fun K hK => ?_) AllReadyH.nil
              go_simp
              refine (HCl.out _).mono ?_
              rintro e wd ⟨rfl, bx⟩
              replace BC := hide (chain BC.out bx)
              replace K5 := hide (K5.out.below bx)
              try replace KE := hide (KE.out.below bx)
              clear bx
              go_wp2_with fail
              refine hK.out _ _ ?_ (fun hHeld => ?_)
              · exact ⟨K5.out.cell 0 rfl, K5.out.cell 1 rfl, K5.out.cell 2 rfl, K5.out.cell 3 rfl, K5.out.cell 4 rfl⟩
              clear hK K
              refine wpAnyH_take (i := 9) (oi := { dst := some 22, op := Op.build 44 #[(0, Operand.tmp 16), (1, Operand.tmp 19), (2, Operand.tmp 21)], type := 44, pos := "parts.go:102", after := #[{ on := 3, ground := Ground.data }, { on := 6, ground := Ground.data }, { on := 8, ground := Ground.data }], guard := none }) (v := ?_) rfl (by kernel_rfl) (by kernel_rfl) (by kernel_rfl) (fun _ _ _ h => h) (Or.inl ⟨by rfl, ?_⟩) (by assumption) ?_
              rotate_left
              · (intro w hSw; (try dsimp only at hSw); first | (go_simp; done) | (go_simp; with_reducible rfl))
              simp only [Act.put, List.setIfInBounds_toArray, List.set_cons_zero, List.set_cons_succ]
              have g0 := KE.out.cell 0 rfl
              have f0 := KE.out.free 0
              have g1 := KE.out.cell 1 rfl
              have f1 := KE.out.free 1
              have g2 := KE.out.cell 2 rfl
              have f2 := KE.out.free 2
              have g3 := KE.out.cell 3 rfl
              have f3 := KE.out.free 3
              have g4 := KE.out.cell 4 rfl
              have f4 := KE.out.free 4
              have KF := hide (((((KE.out.set 0 (.string u0)).set 1 (.string v1)).set 2 (.bool fb)).set 3 (.string ⟨#[]⟩)).set 4 (.string ⟨#[]⟩))
              have B5 := hide (low5 BC.out (Nat.le_of_lt GE.out) (.string u0) (.string v1) (.bool fb) (.string ⟨#[]⟩) (.string ⟨#[]⟩))
              have K6 := hide (other5 K5.out (Nat.ne_of_gt GE.out) (.string u0) (.string v1) (.bool fb) (.string ⟨#[]⟩) (.string ⟨#[]⟩))
              refine wpAnyH_ready (rs := [11]) (by kernel_rfl) (by simp) ?_
              refine AllReadyH.cons (i := 11) (o := { dst := none, op := Op.store 44 (Operand.tmp 6) (Operand.tmp 22), type := 0, pos := "parts.go:102", after := #[{ on := 10, ground := Ground.data }, { on := 9, ground := Ground.data }, { on := 6, ground := Ground.chain }, { on := 0, ground := Ground.phase }, { on := 1, ground := Ground.phase }, { on := 2, ground := Ground.phase }, { on := 3, ground := Ground.phase }, { on := 4, ground := Ground.phase }, { on := 5, ground := Ground.phase }, { on := 6, ground := Ground.phase }, { on := 7, ground := Ground.phase }, { on := 8, ground := Ground.phase }, { on := 9, ground := Ground.phase }, { on := 10, ground := Ground.phase }], guard := none }) rfl (fun K hK => ?_) AllReadyH.nil
              go_simp
              refine hK.out _ _ ?_ (fun hHeld => ?_)
              · exact ⟨K6.out.cell 0 rfl, K6.out.cell 1 rfl, K6.out.cell 2 rfl, K6.out.cell 3 rfl, K6.out.cell 4 rfl⟩
              clear hK K
              refine wpAnyH_done (by kernel_rfl) ?_ _
              go_wp2_with fail
              go_meet
              case rel => exact ⟨_, rfl, KF, GE, K6, B5⟩
          · go_simp
            have KE := hide (Bk.new wa [.string ⟨#[]⟩, .string ⟨#[]⟩, .bool false, .string ⟨#[]⟩, .string ⟨#[]⟩] 44)
            have AZ : Below wa.heap.size wa (wa.alloc (.cells #[.string ⟨#[]⟩, .string ⟨#[]⟩, .bool false, .string ⟨#[]⟩, .string ⟨#[]⟩] 44)) := (Below.refl _ _).alloc (Nat.le_refl _) _
            have GE : Hid (wr.heap.size < wa.heap.size) := K5.out.lt
            replace BC := hide (chain BC.out AZ)
            replace K5 := hide (K5.out.below AZ)
            clear AZ
            generalize wa.alloc (.cells #[.string ⟨#[]⟩, .string ⟨#[]⟩, .bool false, .string ⟨#[]⟩, .string ⟨#[]⟩] 44) = wz at *
            generalize wa.heap.size = E at *
            refine hK.out _ _ ?_ (fun hHeld => ?_)
            · exact ⟨K5.out.cell 0 rfl, K5.out.cell 1 rfl, K5.out.cell 2 rfl, K5.out.cell 3 rfl, K5.out.cell 4 rfl⟩
            clear hK K
            refine wpAnyH_ready (rs := [3]) (by kernel_rfl) (by simp) ?_
            refine AllReadyH.cons (i := 3) (o := { dst := some 16, op := Op.call { callee := Callee.value (Operand.func 36), args := #[Operand.tmp 15], argTypes := #[9] }, type := 9, pos := "parts.go:102", after := #[{ on := 2, ground := Ground.data }, { on := 2, ground := Ground.chain }], guard := none }) rfl (fun K hK => ?_) AllReadyH.nil
            go_simp
            refine (HU.out _ (chain BW.out BC.out)).mono ?_
            rintro e wb ⟨rfl, bx⟩
            replace BC := hide (chain BC.out bx)
            replace K5 := hide (K5.out.below bx)
            try replace KE := hide (KE.out.below bx)
            clear bx
            go_wp2_with fail
            refine hK.out _ _ ?_ (fun hHeld => ?_)
            · exact ⟨K5.out.cell 0 rfl, K5.out.cell 1 rfl, K5.out.cell 2 rfl, K5.out.cell 3 rfl, K5.out.cell 4 rfl⟩
            clear hK K
            refine wpAnyH_ready (rs := [5]) (by kernel_rfl) (by simp) ?_
            refine AllReadyH.cons (i := 5) (o := { dst := some 18, op := Op.call { callee := Callee.value (Operand.func 38), args := #[Operand.tmp 17], argTypes := #[44] }, type := 9, pos := "parts.go:102", after := #[{ on := 4, ground := Ground.data }, { on := 3, ground := Ground.chain }], guard := none }) rfl (fun K hK => ?_) AllReadyH.nil
            go_simp
            refine (HCa.out _).mono ?_
            rintro e wc ⟨rfl, bx⟩
            replace BC := hide (chain BC.out bx)
            replace K5 := hide (K5.out.below bx)
            try replace KE := hide (KE.out.below bx)
            clear bx
            go_wp2_with fail
            refine hK.out _ _ ?_ (fun hHeld => ?_)
            · exact ⟨K5.out.cell 0 rfl, K5.out.cell 1 rfl, K5.out.cell 2 rfl, K5.out.cell 3 rfl, K5.out.cell 4 rfl⟩
            clear hK K
            refine wpAnyH_ready (rs := [6]) (by kernel_rfl) (by simp) ?_
            refine AllReadyH.cons (i := 6) (o := { dst := some 19, op := Op.call { callee := Callee.value (Operand.func 33), args := #[Operand.tmp 18], argTypes := #[9] }, type := 9, pos := "parts.go:102", after := #[{ on := 5, ground := Ground.data }, { on := 5, ground := Ground.chain }], guard := none }) rfl (fun K hK => ?_) AllReadyH.nil
            go_simp
            refine (HCl.out _).mono ?_
            rintro e wd ⟨rfl, bx⟩
            replace BC := hide (chain BC.out bx)
            replace K5 := hide (K5.out.below bx)
            try replace KE := hide (KE.out.below bx)
            clear bx
            go_wp2_with fail
            refine hK.out _ _ ?_ (fun hHeld => ?_)
            · exact ⟨K5.out.cell 0 rfl, K5.out.cell 1 rfl, K5.out.cell 2 rfl, K5.out.cell 3 rfl, K5.out.cell 4 rfl⟩
            clear hK K
            refine wpAnyH_take (i := 9) (oi := { dst := some 22, op := Op.build 44 #[(0, Operand.tmp 16), (1, Operand.tmp 19), (2, Operand.tmp 21)], type := 44, pos := "parts.go:102", after := #[{ on := 3, ground := Ground.data }, { on := 6, ground := Ground.data }, { on := 8, ground := Ground.data }], guard := none }) (v := ?_) rfl (by kernel_rfl) (by kernel_rfl) (by kernel_rfl) (fun _ _ _ h => h) (Or.inl ⟨by rfl, ?_⟩) (by assumption) ?_
            rotate_left
            · (intro w hSw; (try dsimp only at hSw); first | (go_simp; done) | (go_simp; with_reducible rfl))
            simp only [Act.put, List.setIfInBounds_toArray, List.set_cons_zero, List.set_cons_succ]
            have g0 := KE.out.cell 0 rfl
            have f0 := KE.out.free 0
            have g1 := KE.out.cell 1 rfl
            have f1 := KE.out.free 1
            have g2 := KE.out.cell 2 rfl
            have f2 := KE.out.free 2
            have g3 := KE.out.cell 3 rfl
            have f3 := KE.out.free 3
            have g4 := KE.out.cell 4 rfl
            have f4 := KE.out.free 4
            have KF := hide (((((KE.out.set 0 (.string u0)).set 1 (.string v1)).set 2 (.bool fb)).set 3 (.string ⟨#[]⟩)).set 4 (.string ⟨#[]⟩))
            have B5 := hide (low5 BC.out (Nat.le_of_lt GE.out) (.string u0) (.string v1) (.bool fb) (.string ⟨#[]⟩) (.string ⟨#[]⟩))
            have K6 := hide (other5 K5.out (Nat.ne_of_gt GE.out) (.string u0) (.string v1) (.bool fb) (.string ⟨#[]⟩) (.string ⟨#[]⟩))
            refine wpAnyH_ready (rs := [11]) (by kernel_rfl) (by simp) ?_
            refine AllReadyH.cons (i := 11) (o := { dst := none, op := Op.store 44 (Operand.tmp 6) (Operand.tmp 22), type := 0, pos := "parts.go:102", after := #[{ on := 10, ground := Ground.data }, { on := 9, ground := Ground.data }, { on := 6, ground := Ground.chain }, { on := 0, ground := Ground.phase }, { on := 1, ground := Ground.phase }, { on := 2, ground := Ground.phase }, { on := 3, ground := Ground.phase }, { on := 4, ground := Ground.phase }, { on := 5, ground := Ground.phase }, { on := 6, ground := Ground.phase }, { on := 7, ground := Ground.phase }, { on := 8, ground := Ground.phase }, { on := 9, ground := Ground.phase }, { on := 10, ground := Ground.phase }], guard := none }) rfl (fun K hK => ?_) AllReadyH.nil
            go_simp
            refine hK.out _ _ ?_ (fun hHeld => ?_)
            · exact ⟨K6.out.cell 0 rfl, K6.out.cell 1 rfl, K6.out.cell 2 rfl, K6.out.cell 3 rfl, K6.out.cell 4 rfl⟩
            clear hK K
            refine wpAnyH_done (by kernel_rfl) ?_ _
            go_wp2_with fail
            go_meet
            case rel => exact ⟨_, rfl, KF, GE, K6, B5⟩
        · go_simp
          have KE := hide (Bk.new w0 [.string ⟨#[]⟩, .string ⟨#[]⟩, .bool false, .string ⟨#[]⟩, .string ⟨#[]⟩] 44)
          have AZ : Below w0.heap.size w0 (w0.alloc (.cells #[.string ⟨#[]⟩, .string ⟨#[]⟩, .bool false, .string ⟨#[]⟩, .string ⟨#[]⟩] 44)) := (Below.refl _ _).alloc (Nat.le_refl _) _
          have GE : Hid (wr.heap.size < w0.heap.size) := K5.out.lt
          replace BC := hide (chain BC.out AZ)
          replace K5 := hide (K5.out.below AZ)
          clear AZ
          generalize w0.alloc (.cells #[.string ⟨#[]⟩, .string ⟨#[]⟩, .bool false, .string ⟨#[]⟩, .string ⟨#[]⟩] 44) = wz at *
          generalize w0.heap.size = E at *
          refine hK.out _ _ ?_ (fun hHeld => ?_)
          · exact ⟨K5.out.cell 0 rfl, K5.out.cell 1 rfl, K5.out.cell 2 rfl, K5.out.cell 3 rfl, K5.out.cell 4 rfl⟩
          clear hK K
          refine wpAnyH_ready (rs := [2]) (by kernel_rfl) (by simp) ?_
          refine AllReadyH.cons (i := 2) (o := { dst := some 15, op := Op.call { callee := Callee.value (Operand.func 37), args := #[Operand.tmp 14], argTypes := #[9] }, type := 9, pos := "parts.go:102", after := #[{ on := 1, ground := Ground.data }], guard := none }) rfl (fun K hK => ?_) AllReadyH.nil
          go_simp
          refine (HN.out _ (chain BW.out BC.out)).mono ?_
          rintro e wa ⟨rfl, bx⟩
          replace BC := hide (chain BC.out bx)
          replace K5 := hide (K5.out.below bx)
          try replace KE := hide (KE.out.below bx)
          clear bx
          go_wp2_with fail
          refine hK.out _ _ ?_ (fun hHeld => ?_)
          · exact ⟨K5.out.cell 0 rfl, K5.out.cell 1 rfl, K5.out.cell 2 rfl, K5.out.cell 3 rfl, K5.out.cell 4 rfl⟩
          clear hK K
          refine wpAnyH_ready (rs := [3]) (by kernel_rfl) (by simp) ?_
          refine AllReadyH.cons (i := 3) (o := { dst := some 16, op := Op.call { callee := Callee.value (Operand.func 36), args := #[Operand.tmp 15], argTypes := #[9] }, type := 9, pos := "parts.go:102", after := #[{ on := 2, ground := Ground.data }, { on := 2, ground := Ground.chain }], guard := none }) rfl (fun K hK => ?_) AllReadyH.nil
          go_simp
          refine (HU.out _ (chain BW.out BC.out)).mono ?_
          rintro e wb ⟨rfl, bx⟩
          replace BC := hide (chain BC.out bx)
          replace K5 := hide (K5.out.below bx)
          try replace KE := hide (KE.out.below bx)
          clear bx
          go_wp2_with fail
          refine hK.out _ _ ?_ (fun hHeld => ?_)
          · exact ⟨K5.out.cell 0 rfl, K5.out.cell 1 rfl, K5.out.cell 2 rfl, K5.out.cell 3 rfl, K5.out.cell 4 rfl⟩
          clear hK K
          refine wpAnyH_ready (rs := [5]) (by kernel_rfl) (by simp) ?_
          refine AllReadyH.cons (i := 5) (o := { dst := some 18, op := Op.call { callee := Callee.value (Operand.func 38), args := #[Operand.tmp 17], argTypes := #[44] }, type := 9, pos := "parts.go:102", after := #[{ on := 4, ground := Ground.data }, { on := 3, ground := Ground.chain }], guard := none }) rfl (fun K hK => ?_) AllReadyH.nil
          go_simp
          refine (HCa.out _).mono ?_
          rintro e wc ⟨rfl, bx⟩
          replace BC := hide (chain BC.out bx)
          replace K5 := hide (K5.out.below bx)
          try replace KE := hide (KE.out.below bx)
          clear bx
          go_wp2_with fail
          refine hK.out _ _ ?_ (fun hHeld => ?_)
          · exact ⟨K5.out.cell 0 rfl, K5.out.cell 1 rfl, K5.out.cell 2 rfl, K5.out.cell 3 rfl, K5.out.cell 4 rfl⟩
          clear hK K
          refine wpAnyH_ready (rs := [6]) (by kernel_rfl) (by simp) ?_
          refine AllReadyH.cons (i := 6) (o := { dst := some 19, op := Op.call { callee := Callee.value (Operand.func 33), args := #[Operand.tmp 18], argTypes := #[9] }, type := 9, pos := "parts.go:102", after := #[{ on := 5, ground := Ground.data }, { on := 5, ground := Ground.chain }], guard := none }) rfl (fun K hK => ?_) AllReadyH.nil
          go_simp
          refine (HCl.out _).mono ?_
          rintro e wd ⟨rfl, bx⟩
          replace BC := hide (chain BC.out bx)
          replace K5 := hide (K5.out.below bx)
          try replace KE := hide (KE.out.below bx)
          clear bx
          go_wp2_with fail
          refine hK.out _ _ ?_ (fun hHeld => ?_)
          · exact ⟨K5.out.cell 0 rfl, K5.out.cell 1 rfl, K5.out.cell 2 rfl, K5.out.cell 3 rfl, K5.out.cell 4 rfl⟩
          clear hK K
          refine wpAnyH_take (i := 9) (oi := { dst := some 22, op := Op.build 44 #[(0, Operand.tmp 16), (1, Operand.tmp 19), (2, Operand.tmp 21)], type := 44, pos := "parts.go:102", after := #[{ on := 3, ground := Ground.data }, { on := 6, ground := Ground.data }, { on := 8, ground := Ground.data }], guard := none }) (v := ?_) rfl (by kernel_rfl) (by kernel_rfl) (by kernel_rfl) (fun _ _ _ h => h) (Or.inl ⟨by rfl, ?_⟩) (by assumption) ?_
          rotate_left
          · (intro w hSw; (try dsimp only at hSw); first | (go_simp; done) | (go_simp; with_reducible rfl))
          simp only [Act.put, List.setIfInBounds_toArray, List.set_cons_zero, List.set_cons_succ]
          have g0 := KE.out.cell 0 rfl
          have f0 := KE.out.free 0
          have g1 := KE.out.cell 1 rfl
          have f1 := KE.out.free 1
          have g2 := KE.out.cell 2 rfl
          have f2 := KE.out.free 2
          have g3 := KE.out.cell 3 rfl
          have f3 := KE.out.free 3
          have g4 := KE.out.cell 4 rfl
          have f4 := KE.out.free 4
          have KF := hide (((((KE.out.set 0 (.string u0)).set 1 (.string v1)).set 2 (.bool fb)).set 3 (.string ⟨#[]⟩)).set 4 (.string ⟨#[]⟩))
          have B5 := hide (low5 BC.out (Nat.le_of_lt GE.out) (.string u0) (.string v1) (.bool fb) (.string ⟨#[]⟩) (.string ⟨#[]⟩))
          have K6 := hide (other5 K5.out (Nat.ne_of_gt GE.out) (.string u0) (.string v1) (.bool fb) (.string ⟨#[]⟩) (.string ⟨#[]⟩))
          refine wpAnyH_ready (rs := [11]) (by kernel_rfl) (by simp) ?_
          refine AllReadyH.cons (i := 11) (o := { dst := none, op := Op.store 44 (Operand.tmp 6) (Operand.tmp 22), type := 0, pos := "parts.go:102", after := #[{ on := 10, ground := Ground.data }, { on := 9, ground := Ground.data }, { on := 6, ground := Ground.chain }, { on := 0, ground := Ground.phase }, { on := 1, ground := Ground.phase }, { on := 2, ground := Ground.phase }, { on := 3, ground := Ground.phase }, { on := 4, ground := Ground.phase }, { on := 5, ground := Ground.phase }, { on := 6, ground := Ground.phase }, { on := 7, ground := Ground.phase }, { on := 8, ground := Ground.phase }, { on := 9, ground := Ground.phase }, { on := 10, ground := Ground.phase }], guard := none }) rfl (fun K hK => ?_) AllReadyH.nil
          go_simp
          refine hK.out _ _ ?_ (fun hHeld => ?_)
          · exact ⟨K6.out.cell 0 rfl, K6.out.cell 1 rfl, K6.out.cell 2 rfl, K6.out.cell 3 rfl, K6.out.cell 4 rfl⟩
          clear hK K
          refine wpAnyH_done (by kernel_rfl) ?_ _
          go_wp2_with fail
          go_meet
          case rel => exact ⟨_, rfl, KF, GE, K6, B5⟩
      case rest =>
        obtain ⟨E, rfl, KF, GE, K6, BX⟩ := hcut
        clear BC K5 KA HN HU HCa HCl
        have c2 := K6.out.cell 2 rfl
        cases fb with
        | false =>
          rw [if_neg (by decide), if_neg (by decide)] at ET
          clear HN2 HU2 HT HCl2
          have z0 := KF.out.cell 0 rfl
          have z1 := KF.out.cell 1 rfl
          have z2 := KF.out.cell 2 rfl
          have z3 := KF.out.cell 3 rfl
          have z4 := KF.out.cell 4 rfl
          have OX := hide (OW.out.below BX.out)
          have AL : Hid (Below wc.heap.size wc (wc.alloc (.cells #[.string u0, .string v1, .bool false, .string ⟨#[]⟩, .string ⟨#[]⟩] 44))) := (Below.refl _ _).alloc (Nat.le_refl _) _
          have F1 := hide (files_one wc ⟨u0, v1, false, ⟨#[]⟩, ⟨#[]⟩⟩)
          have O8 := hide (OX.out.below AL.out)
          have B8 := hide (chain (chain BW.out BX.out) AL.out)
          have SZ8 := hide B8.out.size
          have l72 : (((l.take k).map toldE).length + 1) * 72 ≤ 140737488355328 := by rw [PL.out]; omega
          clear OX AL
          go_wp2_with (at_builtin; refine wpList_append_en rfl _ _ rfl w.heap.size _ ((l.take k).map toldE) rfl O8.out _ [⟨u0, v1, false, ⟨#[]⟩, ⟨#[]⟩⟩] rfl F1.out l72 SZ8.out ?_; intro q8 c8 w8 o8 b8)
          have O9 : Hid (OwnR w.heap.size w8 (.slice q8 (k + 1) c8) ((l.take (k + 1)).map toldE)) := by
            show OwnR _ _ _ _
            rw [TK.out, ET.out]
            have := o8
            rw [PL.out] at this
            exact this
          have B9 := hide (B8.out.trans b8)
          clear PL o8 b8
          go_roundw
          case rel => exact ⟨k + 1, q8, c8, by omega, by go_num, rfl, O9, B9⟩
          case measure => simp [intOf]; omega
        | true =>
          rw [if_pos rfl, if_pos rfl] at ET
          have K6d := hide K6.out
          replace K6 := hide K6.out.drewC
          replace KF := hide KF.out.drewC
          replace BX := hide (belDC BX.out)
          go_wp2_with fail
          refine wp_region_held_drew (S := fun X : World => X.cell? ⟨wr.heap.size, 0, none⟩ = some (.string t0) ∧ X.cell? ⟨wr.heap.size, 1, none⟩ = some (.string t1) ∧ X.cell? ⟨wr.heap.size, 2, none⟩ = some (.bool true) ∧ X.cell? ⟨wr.heap.size, 3, none⟩ = some (.string t2) ∧ X.cell? ⟨wr.heap.size, 4, none⟩ = some (.string t3)) (by kernel_rfl) ?_ (fun hHeld => ?_)
          · exact ⟨K6d.out.cell 0 rfl, K6d.out.cell 1 rfl, K6d.out.cell 2 rfl, K6d.out.cell 3 rfl, K6d.out.cell 4 rfl⟩
          clear K6d
          generalize wc.drew = w7 at *
          refine wpAnyH_take (i := 0) (oi := { dst := some 25, op := Op.fieldAddr 44 (Operand.tmp 5) 3, type := 0, pos := "parts.go:104", after := #[], guard := none }) (v := ?_) rfl (by kernel_rfl) (by kernel_rfl) (by kernel_rfl) (fun _ _ _ h => h) (Or.inl ⟨by rfl, ?_⟩) (by assumption) ?_
          rotate_left
          · (intro w hSw; (try dsimp only at hSw); first | (go_simp; done) | (go_simp; with_reducible rfl))
          simp only [Act.put, List.setIfInBounds_toArray, List.set_cons_zero, List.set_cons_succ]
          refine wpAnyH_take (i := 1) (oi := { dst := some 26, op := Op.load 9 (Operand.tmp 25), type := 9, pos := "parts.go:104", after := #[{ on := 0, ground := Ground.data }], guard := none }) (v := ?_) rfl (by kernel_rfl) (by kernel_rfl) (by kernel_rfl) (fun _ _ _ h => h) (Or.inl ⟨by rfl, ?_⟩) (by assumption) ?_
          rotate_left
          · (intro w hSw; (try dsimp only at hSw); first | (go_simp; done) | (go_simp; with_reducible rfl))
          simp only [Act.put, List.setIfInBounds_toArray, List.set_cons_zero, List.set_cons_succ]
          refine wpAnyH_take (i := 4) (oi := { dst := some 29, op := Op.fieldAddr 44 (Operand.tmp 5) 4, type := 0, pos := "parts.go:104", after := #[], guard := none }) (v := ?_) rfl (by kernel_rfl) (by kernel_rfl) (by kernel_rfl) (fun _ _ _ h => h) (Or.inl ⟨by rfl, ?_⟩) (by assumption) ?_
          rotate_left
          · (intro w hSw; (try dsimp only at hSw); first | (go_simp; done) | (go_simp; with_reducible rfl))
          simp only [Act.put, List.setIfInBounds_toArray, List.set_cons_zero, List.set_cons_succ]
          refine wpAnyH_take (i := 5) (oi := { dst := some 30, op := Op.load 9 (Operand.tmp 29), type := 9, pos := "parts.go:104", after := #[{ on := 4, ground := Ground.data }], guard := none }) (v := ?_) rfl (by kernel_rfl) (by kernel_rfl) (by kernel_rfl) (fun _ _ _ h => h) (Or.inl ⟨by rfl, ?_⟩) (by assumption) ?_
          rotate_left
          · (intro w hSw; (try dsimp only at hSw); first | (go_simp; done) | (go_simp; with_reducible rfl))
          simp only [Act.put, List.setIfInBounds_toArray, List.set_cons_zero, List.set_cons_succ]
          refine wpAnyH_ready (rs := [2]) (by kernel_rfl) (by simp) ?_
          refine AllReadyH.cons (i := 2) (o := { dst := some 27, op := Op.call { callee := Callee.value (Operand.func 37), args := #[Operand.tmp 26], argTypes := #[9] }, type := 9, pos := "parts.go:104", after := #[{ on := 1, ground := Ground.data }], guard := none }) rfl (fun K hK => ?_) AllReadyH.nil
          go_simp
          refine (HN2.out _ (chain BW.out BX.out)).mono ?_
          rintro e wa ⟨rfl, bx⟩
          replace BX := hide (chain BX.out bx)
          replace K6 := hide (K6.out.below bx)
          replace KF := hide (KF.out.below bx)
          clear bx
          go_wp2_with fail
          refine hK.out _ _ ?_ (fun hHeld => ?_)
          · exact ⟨K6.out.cell 0 rfl, K6.out.cell 1 rfl, K6.out.cell 2 rfl, K6.out.cell 3 rfl, K6.out.cell 4 rfl⟩
          clear hK K
          refine wpAnyH_ready (rs := [3]) (by kernel_rfl) (by simp) ?_
          refine AllReadyH.cons (i := 3) (o := { dst := some 28, op := Op.call { callee := Callee.value (Operand.func 36), args := #[Operand.tmp 27], argTypes := #[9] }, type := 9, pos := "parts.go:104", after := #[{ on := 2, ground := Ground.data }, { on := 2, ground := Ground.chain }], guard := none }) rfl (fun K hK => ?_) AllReadyH.nil
          go_simp
          refine (HU2.out _ (chain BW.out BX.out)).mono ?_
          rintro e wb ⟨rfl, bx⟩
          replace BX := hide (chain BX.out bx)
          replace K6 := hide (K6.out.below bx)
          replace KF := hide (KF.out.below bx)
          clear bx
          go_wp2_with fail
          refine hK.out _ _ ?_ (fun hHeld => ?_)
          · exact ⟨K6.out.cell 0 rfl, K6.out.cell 1 rfl, K6.out.cell 2 rfl, K6.out.cell 3 rfl, K6.out.cell 4 rfl⟩
          clear hK K
          refine wpAnyH_take (i := 8) (oi := { dst := some 33, op := Op.fieldAddr 44 (Operand.tmp 6) 3, type := 0, pos := "parts.go:104", after := #[{ on := 0, ground := Ground.phase }, { on := 1, ground := Ground.phase }, { on := 2, ground := Ground.phase }, { on := 3, ground := Ground.phase }, { on := 4, ground := Ground.textOnly Departure.lateStores }, { on := 5, ground := Ground.textOnly Departure.lateStores }, { on := 6, ground := Ground.textOnly Departure.lateStoresUnsure }, { on := 7, ground := Ground.textOnly Departure.lateStoresUnsure }], guard := none }) (v := ?_) rfl (by kernel_rfl) (by kernel_rfl) (by kernel_rfl) (fun _ _ _ h => h) (Or.inl ⟨by rfl, ?_⟩) (by assumption) ?_
          rotate_left
          · (intro w hSw; (try dsimp only at hSw); first | (go_simp; done) | (go_simp; with_reducible rfl))
          simp only [Act.put, List.setIfInBounds_toArray, List.set_cons_zero, List.set_cons_succ]
          refine wpAnyH_ready (rs := [6]) (by kernel_rfl) (by simp) ?_
          refine AllReadyH.cons (i := 6) (o := { dst := some 31, op := Op.call { callee := Callee.value (Operand.func 39), args := #[Operand.tmp 30], argTypes := #[9] }, type := 9, pos := "parts.go:104", after := #[{ on := 5, ground := Ground.data }, { on := 3, ground := Ground.chain }], guard := none }) rfl (fun K hK => ?_) AllReadyH.nil
          go_simp
          refine (HT.out _).mono ?_
          rintro e wc ⟨rfl, hu⟩
          obtain rfl : wb = wc := hu.symm
          go_wp2_with fail
          refine hK.out _ _ ?_ (fun hHeld => ?_)
          · exact ⟨K6.out.cell 0 rfl, K6.out.cell 1 rfl, K6.out.cell 2 rfl, K6.out.cell 3 rfl, K6.out.cell 4 rfl⟩
          clear hK K
          refine wpAnyH_ready (rs := [7]) (by kernel_rfl) (by simp) ?_
          refine AllReadyH.cons (i := 7) (o := { dst := some 32, op := Op.call { callee := Callee.value (Operand.func 33), args := #[Operand.tmp 31], argTypes := #[9] }, type := 9, pos := "parts.go:104", after := #[{ on := 6, ground := Ground.data }, { on := 6, ground := Ground.chain }], guard := none }) rfl (fun K hK => ?_) AllReadyH.nil
          go_simp
          refine (HCl2.out _).mono ?_
          rintro e wd ⟨rfl, bx⟩
          replace BX := hide (chain BX.out bx)
          replace K6 := hide (K6.out.below bx)
          replace KF := hide (KF.out.below bx)
          clear bx
          go_wp2_with fail
          refine hK.out _ _ ?_ (fun hHeld => ?_)
          · exact ⟨K6.out.cell 0 rfl, K6.out.cell 1 rfl, K6.out.cell 2 rfl, K6.out.cell 3 rfl, K6.out.cell 4 rfl⟩
          clear hK K
          have s3 := KF.out.cell 3 rfl
          have q3 := KF.out.free 3
          refine wpAnyH_ready (rs := [9]) (by kernel_rfl) (by simp) ?_
          refine AllReadyH.cons (i := 9) (o := { dst := none, op := Op.store 9 (Operand.tmp 33) (Operand.tmp 28), type := 0, pos := "parts.go:104", after := #[{ on := 8, ground := Ground.data }, { on := 3, ground := Ground.data }, { on := 7, ground := Ground.chain }, { on := 0, ground := Ground.phase }, { on := 1, ground := Ground.phase }, { on := 2, ground := Ground.phase }, { on := 3, ground := Ground.phase }, { on := 4, ground := Ground.textOnly Departure.lateStores }, { on := 5, ground := Ground.textOnly Departure.lateStores }, { on := 6, ground := Ground.textOnly Departure.lateStoresUnsure }, { on := 7, ground := Ground.textOnly Departure.lateStoresUnsure }], guard := none }) rfl (fun K hK => ?_) AllReadyH.nil
          go_simp
          have KF' := hide (KF.out.set 3 (.string u2))
          have K6' := hide (K6.out.other (Nat.ne_of_gt GE.out) 3 (.string u2))
          have BX' : Hid (Below wr.heap.size wr (wd.setCell ⟨E, 3, none⟩ (.string u2))) := BX.out.setCell (p := ⟨E, 3, none⟩) (Nat.le_of_lt GE.out) _
          clear KF K6 BX s3 q3
          have KF := KF'
          have K6 := K6'
          have BX := BX'
          clear KF' K6' BX'
          refine hK.out _ _ ?_ (fun hHeld => ?_)
          · exact ⟨K6.out.cell 0 rfl, K6.out.cell 1 rfl, K6.out.cell 2 rfl, K6.out.cell 3 rfl, K6.out.cell 4 rfl⟩
          clear hK K
          generalize wd.setCell ⟨E, 3, none⟩ (.string u2) = we at *
          refine wpAnyH_take (i := 10) (oi := { dst := some 34, op := Op.fieldAddr 44 (Operand.tmp 6) 4, type := 0, pos := "parts.go:104", after := #[{ on := 0, ground := Ground.phase }, { on := 1, ground := Ground.phase }, { on := 2, ground := Ground.phase }, { on := 3, ground := Ground.phase }, { on := 4, ground := Ground.phase }, { on := 5, ground := Ground.phase }, { on := 6, ground := Ground.phase }, { on := 7, ground := Ground.phase }, { on := 8, ground := Ground.phase }, { on := 9, ground := Ground.phase }], guard := none }) (v := ?_) rfl (by kernel_rfl) (by kernel_rfl) (by kernel_rfl) (fun _ _ _ h => h) (Or.inl ⟨by rfl, ?_⟩) (by assumption) ?_
          rotate_left
          · (intro w hSw; (try dsimp only at hSw); first | (go_simp; done) | (go_simp; with_reducible rfl))
          simp only [Act.put, List.setIfInBounds_toArray, List.set_cons_zero, List.set_cons_succ]
          have s4 := KF.out.cell 4 rfl
          have q4 := KF.out.free 4
          refine wpAnyH_ready (rs := [11]) (by kernel_rfl) (by simp) ?_
          refine AllReadyH.cons (i := 11) (o := { dst := none, op := Op.store 9 (Operand.tmp 34) (Operand.tmp 32), type := 0, pos := "parts.go:104", after := #[{ on := 10, ground := Ground.data }, { on := 7, ground := Ground.data }, { on := 9, ground := Ground.chain }, { on := 0, ground := Ground.phase }, { on := 1, ground := Ground.phase }, { on := 2, ground := Ground.phase }, { on := 3, ground := Ground.phase }, { on := 4, ground := Ground.phase }, { on := 5, ground := Ground.phase }, { on := 6, ground := Ground.phase }, { on := 7, ground := Ground.phase }, { on := 8, ground := Ground.phase }, { on := 9, ground := Ground.phase }], guard := none }) rfl (fun K hK => ?_) AllReadyH.nil
          go_simp
          have KF' := hide (KF.out.set 4 (.string u4))
          have K6' := hide (K6.out.other (Nat.ne_of_gt GE.out) 4 (.string u4))
          have BX' : Hid (Below wr.heap.size wr (we.setCell ⟨E, 4, none⟩ (.string u4))) := BX.out.setCell (p := ⟨E, 4, none⟩) (Nat.le_of_lt GE.out) _
          clear KF K6 BX s4 q4
          have KF := KF'
          have K6 := K6'
          have BX := BX'
          clear KF' K6' BX'
          refine hK.out _ _ ?_ (fun hHeld => ?_)
          · exact ⟨K6.out.cell 0 rfl, K6.out.cell 1 rfl, K6.out.cell 2 rfl, K6.out.cell 3 rfl, K6.out.cell 4 rfl⟩
          clear hK K
          generalize we.setCell ⟨E, 4, none⟩ (.string u4) = wf at *
          refine wpAnyH_done (by kernel_rfl) ?_ _
          have z0 := KF.out.cell 0 rfl
          have z1 := KF.out.cell 1 rfl
          have z2 := KF.out.cell 2 rfl
          have z3 := KF.out.cell 3 rfl
          have z4 := KF.out.cell 4 rfl
          have OX := hide (OW.out.below BX.out)
          have AL : Hid (Below wf.heap.size wf (wf.alloc (.cells #[.string u0, .string v1, .bool true, .string u2, .string u4] 44))) := (Below.refl _ _).alloc (Nat.le_refl _) _
          have F1 := hide (files_one wf ⟨u0, v1, true, u2, u4⟩)
          have O8 := hide (OX.out.below AL.out)
          have B8 := hide (chain (chain BW.out BX.out) AL.out)
          have SZ8 := hide B8.out.size
          have l72 : (((l.take k).map toldE).length + 1) * 72 ≤ 140737488355328 := by rw [PL.out]; omega
          clear OX AL
          go_wp2_with (at_builtin; refine wpList_append_en rfl _ _ rfl w.heap.size _ ((l.take k).map toldE) rfl O8.out _ [⟨u0, v1, true, u2, u4⟩] rfl F1.out l72 SZ8.out ?_; intro q8 c8 w8 o8 b8)
          have O9 : Hid (OwnR w.heap.size w8 (.slice q8 (k + 1) c8) ((l.take (k + 1)).map toldE)) := by
            show OwnR _ _ _ _
            rw [TK.out, ET.out]
            have := o8
            rw [PL.out] at this
            exact this
          have B9 := hide (B8.out.trans b8)
          clear PL o8 b8
          go_roundw
          case rel => exact ⟨k + 1, q8, c8, by omega, by go_num, rfl, O9, B9⟩
          case measure => simp [intOf]; omega
    · obtain rfl : k = l.length := by omega
      rw [List.take_length] at OW
      clear FV HZ
      go_wp2_with fail
      go_ret
      exact ⟨_, rfl, OW.out, BW.out⟩
theorem ptTold_any (n : Nat) (v : Value) (l : List En) (w : World) (hv : FilesV w v l) (hn : n ≤ 1000000) (hl : EnsOK n l) (hT : PtTabs w) :
    Calls Tryd.prog 19 #[v] w fun e w' => ∃ v', e = .returned v' ∧ FilesV w' v' (l.map toldE) ∧ Below w.heap.size w w' := by
  refine (ptToldO_any n v l w hv hn hl hT).mono ?_
  rintro e w' ⟨v', h1, h2, h3⟩
  exact ⟨v', h1, h2.files, h3⟩
end Go.Proofs.YtgibkbeakfaehaaDoor

namespace Go.Proofs.YtgibkbeakfaehaaDoor
open Go.RowKit
set_option maxRecDepth 100000
set_option maxHeartbeats 8000000 in
theorem partsEncodes_walk (v : Value) (l : List En) (b : ByteArray) (w : World) (hv : FilesV w v l) (hf : l.length ≤ 4398046511104) (hz : b.size ≤ maxLen) (hT : PtTabs w) :
    Calls Tryd.prog 4 #[v, .string b] w fun e w' => e = .returned (.bool true) ∧ Below w.heap.size w w' := by
  have FV := hide hv
  have HW := hide (ptWakes_any w hT)
  have HLg := hide (fun W (hb : Below w.heap.size w W) => refLong_any v l W (FV.out.below hb) hf)
  have hz' : b.size ≤ 9223372036854775807 := hz
  clear hz
  cases lg : longU l with
  | true =>
    rw [lg] at HLg
    obtain ⟨p, c, rfl⟩ := files_formP hv
    clear hv hf hT lg FV
    go_enter Tryd.func4, Tryd.ntmps4
    go_wp2_with fail
    refine HW.out.mono ?_
    rintro e w1 ⟨rfl, b1⟩
    go_wp2_with fail
    refine (HLg.out _ b1).mono ?_
    rintro e w2 ⟨rfl, hu⟩
    obtain rfl : w1 = w2 := hu.symm
    go_wp2_with fail
    go_ret
    exact ⟨rfl, b1⟩
  | false =>
    obtain ⟨l60, hok⟩ := long_ok lg
    rw [lg] at HLg
    by_cases hb : 1000 < b.size
    · have d : decide (1000 < (b.size : Int)) = true := decide_eq_true (by omega)
      obtain ⟨p, c, rfl⟩ := files_formP hv
      clear hv hf hT lg FV hok hb
      go_enter Tryd.func4, Tryd.ntmps4
      go_wp2_with fail
      refine HW.out.mono ?_
      rintro e w1 ⟨rfl, b1⟩
      go_wp2_with fail
      refine (HLg.out _ b1).mono ?_
      rintro e w2 ⟨rfl, hu⟩
      obtain rfl : w1 = w2 := hu.symm
      go_wp2_with fail
      go_ret
      exact ⟨rfl, b1⟩
    · have d : decide (1000 < (b.size : Int)) = false := decide_eq_false (by omega)
      have hb : b.size ≤ 1000 := by omega
      have HEn := hide (fun u W (hb' : Below w.heap.size w W) (hu : FilesV W u l) => ptEncode_any 2000 u l b W hu (by omega) hok hb (hT.below hb'))
      have HRe := hide (fun W (hb' : Below w.heap.size w W) => refEncode20_any 2000 v l b W (FV.out.below hb') (by omega) hok hb)
      have HTo := hide (fun W (hb' : Below w.heap.size w W) => ptTold_any 2000 v l W (FV.out.below hb') (by omega) hok (hT.below hb'))
      have HRt := hide (fun W (hb' : Below w.heap.size w W) => refTold_any 2000 v l W (FV.out.below hb') (by omega) hok)
      have HSm := hide (fun a b W (ha : FilesV W a (l.map toldE)) (hb : FilesV W b (l.map toldE)) => refSameFiles_yes a b (l.map toldE) W ha hb (by rw [told_n]; omega))
      have BQ := hide (beq_txtP (encT20 l b))
      have EQ : Hid ((encE20 l b == encE20 l b) = true) := by show _ = _; simp
      obtain ⟨p, c, rfl⟩ := files_formP hv
      clear hv hf hT lg hok
      have TN := hide (told_n l)
      generalize l.map toldE = tl at *
      generalize encT20 l b = et at *
      generalize encE20 l b = ee at *
      go_enter Tryd.func4, Tryd.ntmps4
      go_wp2_with fail
      refine HW.out.mono ?_
      rintro e w1 ⟨rfl, b1⟩
      go_wp2_with fail
      refine (HLg.out _ b1).mono ?_
      rintro e w2 ⟨rfl, hu⟩
      obtain rfl : w1 = w2 := hu.symm
      have OE := hide (OwnR.empty w1.heap.size w1 (Nat.le_refl _))
      have A1 : Hid (Below w1.heap.size w1 (w1.alloc (.cells #[] 44))) := (Below.refl _ w1).alloc (Nat.le_refl _) _
      have FA := hide ((FV.out.below b1).below A1.out)
      have SA := hide A1.out.size
      go_wp2_with (at_builtin; refine wpList_append_en0 rfl _ _ rfl w1.heap.size _ rfl OE.out _ l rfl FA.out (by omega) SA.out ?_; intro q2 c2 w2 o2 b2)
      have B2 : Hid (Below w.heap.size w w2) := b1.trans ((A1.out.trans b2).mono b1.size)
      have F2 := hide o2.files
      clear OE A1 FA SA o2 b2 b1
      refine (HEn.out _ _ B2.out F2.out).mono ?_
      rintro e w3 ⟨rfl, b3⟩
      have B3 := hide (chain B2.out b3)
      clear b3 B2 F2
      go_wp2_with fail
      refine (HRe.out _ B3.out).mono ?_
      rintro e w4 ⟨rfl, b4⟩
      have B4 := hide (chain B3.out b4)
      clear b4 B3
      have q1 := BQ.out
      have q2 := EQ.out
      go_wp2_with fail
      refine (HTo.out _ B4.out).mono ?_
      rintro e w5 ⟨v5, rfl, f5, b5⟩
      have F5 := hide f5
      have B5 := hide (chain B4.out b5)
      obtain ⟨p5, c5, rfl⟩ := files_formP f5
      clear f5 b5 B4
      go_wp2_with fail
      refine (HRt.out _ B5.out).mono ?_
      rintro e w6 ⟨v6, rfl, f6, b6⟩
      have F6 := hide f6.files
      have B6 := hide (chain B5.out b6)
      replace F5 := hide (F5.out.below b6)
      obtain ⟨p6, c6, rfl⟩ := files_formP F6.out
      clear f6 b6 B5
      go_wp2_with fail
      refine (HSm.out _ _ _ F5.out F6.out).mono ?_
      rintro e w7 ⟨rfl, b7⟩
      go_wp2_with fail
      go_ret
      exact ⟨rfl, chain B6.out b7⟩

end Go.Proofs.YtgibkbeakfaehaaDoor
