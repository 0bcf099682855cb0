/- States of controls as they lie in the world, behind a slice. The document's Right, Copied, Only of layer 15. The document's Words and Collapse answer by functions of lists of bytes. The document's Size, Text of layer 15. What a call of layer 15's document has about it. The document's Value of layer 15. The document's Value of layer 18. The document's Encode, Split of layer 21. The document's Clear, Choose, Encode of layer 20. -/
import Derived.Test.YtnojgejcmaajmaaGreatDoorJsb17
import Derived.Test.YtnojgejcmaajmaaGreatDoorJsb35
import Derived.Test.YtnojgejcmaajmaaGreatDoorJsb36
import Derived.Test.YtnojgejcmaajmaaGreatDoorJsb39

namespace Go.Proofs.YtnojgejcmaajmaaGreatDoor
open Go.RowKit
set_option maxRecDepth 100000
theorem FilesIn.other {w : World} {C C' : List Ct} {F : List Value} (h : FilesIn w C F) (hl : C'.length = C.length) (he : ∀ i (h1 : i < C.length) (h2 : i < C'.length), C'[i].files = C[i].files) : FilesIn w C' F :=
  ⟨by rw [hl]; exact h.len, fun i hi => by rw [he i (by omega) hi]; exact h.at_ i (by omega)⟩
end Go.Proofs.YtnojgejcmaajmaaGreatDoor

namespace Go.Proofs.YtnojgejcmaajmaaGreatDoor
open Go.RowKit
set_option maxRecDepth 100000
set_option maxHeartbeats 8000000 in
theorem refORight_any (nv cv : Value) (l : List Nd) (C : List Ct) (w : World) (hD : DocV w nv cv l C) (hz : DocSz l) (hC : CsOK C) :
    Calls Tryz.prog 33 #[.agg #[nv, cv]] w fun e w' => e = .returned (.bool (rightD l C)) ∧ Below w.heap.size w w' := by
  have HB : Hid (∀ o : Obj, Below w.heap.size w (w.alloc o)) := fun o => (Below.refl _ w).alloc (Nat.le_refl _) _
  have HR := hide (fun W (hb : Below w.heap.size w W) => refDocRight_any nv l W (hD.nds.below hb) hz)
  obtain ⟨p, c, rfl⟩ := nds_form hD.nds
  obtain ⟨p2, c2, rfl⟩ := cts_form hD.cts
  have hl := hz.len
  have hl2 := hC.len
  have K0 := hide (Bk.new w [.slice p l.length c, .slice p2 C.length c2] 25)
  clear hD hz hC
  cases h : rightB l with
  | false =>
    have E : Hid (rightD l C = false) := by show _ = _; unfold rightD; rw [h]; rfl
    rw [h] at HR
    clear h
    go_enter Tryz.func33, Tryz.ntmps33
    go_wp2_with fail
    refine (HR.out _ (HB.out _)).mono ?_
    rintro e w1 ⟨rfl, b1⟩
    go_wp2_with fail
    go_ret
    exact ⟨ret_bool E.out.symm, chain (HB.out _) b1⟩
  | true =>
    have E : Hid (rightD l C = ((l.length : Int) == (C.length : Int))) := by show _ = _; unfold rightD; rw [h, Bool.true_and]; rfl
    rw [h] at HR
    clear h
    go_enter Tryz.func33, Tryz.ntmps33
    go_wp2_with fail
    refine (HR.out _ (HB.out _)).mono ?_
    rintro e w1 ⟨rfl, b1⟩
    have K1 := K0.out.below b1
    have c0 := K1.cell 0 rfl
    have c1 := K1.cell 1 rfl
    go_wp2_with fail
    go_ret
    exact ⟨ret_bool E.out.symm, chain (HB.out _) b1⟩
end Go.Proofs.YtnojgejcmaajmaaGreatDoor

namespace Go.Proofs.YtnojgejcmaajmaaGreatDoor
open Go.RowKit
set_option maxRecDepth 100000
theorem textTypes : TextTypes Tryz.prog 26 9 := ⟨Tryz.underlying26, Tryz.underlying9, by kernel_rfl⟩
set_option maxHeartbeats 2000000 in
set_option maxRecDepth 100000 in
theorem words_any (s : ByteArray) (w : World) (hs : s.size ≤ 274877906944) :
    Calls Tryz.prog 237 #[.string s] w fun e w' => ∃ v, e = .returned v ∧ OwnsT 9 w.heap.size w' v (wordsG [] s.data.toList) ∧ Below w.heap.size w w' := by
  go_enter Tryz.func237, Tryz.ntmps237
  go_wp2_with fail
  go_loopw [3, 4, 5] (fun v f i wr => ∃ (k : Nat) (q : Int) (done : List (List UInt8)), k ≤ s.size + 1 ∧ i = .int .i64 k ∧ f = .int .i64 q ∧ WS s k q done ∧ OwnsT 9 w.heap.size wr v done ∧ Below w.heap.size w wr) (fun _ _ i _ => s.size + 1 - (intOf i).toNat)
  case atStart => exact ⟨0, -1, [], Nat.zero_le _, rfl, rfl, ws_zero s, OwnsT.nil _ _ _, Below.refl _ _⟩
  case round =>
    obtain ⟨k, q, done, hk, rfl, rfl, hw, hown, hb⟩ := hrel
    have hlen := ws_len hw
    have hsz := hb.size
    by_cases hle : k ≤ s.size
    · by_cases hlt : k < s.size
      · cases hbl : isBl s[k] with
        | false =>
          rcases ws_cases hw with rfl | ⟨j, rfl⟩
          · have HW := hide (ws_begin hw hlt hbl)
            clear hw
            go_wp2_with fail
            refine (refBlank_any s[k] _).mono ?_
            rintro e w1 ⟨rfl, rfl⟩
            go_wp2_with fail
            go_roundw
            case rel => exact ⟨k + 1, k, done, by omega, by go_num, rfl, HW.out, hown, hb⟩
            case measure => simp [intOf]; omega
          · have HW := hide (ws_more hw hlt hbl)
            have hj := (ws_in hw).1
            clear hw
            go_wp2_with fail
            refine (refBlank_any s[k] _).mono ?_
            rintro e w1 ⟨rfl, rfl⟩
            go_wp2_with fail
            go_roundw
            case rel => exact ⟨k + 1, j, done, by omega, by go_num, rfl, HW.out, hown, hb⟩
            case measure => simp [intOf]; omega
        | true =>
          rcases ws_cases hw with rfl | ⟨j, rfl⟩
          · have HW := hide (ws_skip hw hlt hbl)
            clear hw
            go_wp2_with fail
            refine (refBlank_any s[k] _).mono ?_
            rintro e w1 ⟨rfl, rfl⟩
            go_wp2_with fail
            go_roundw
            case rel => exact ⟨k + 1, -1, done, by omega, by go_num, rfl, HW.out, hown, hb⟩
            case measure => simp [intOf]; omega
          · have HW := hide (ws_push hw hlt hbl)
            have hj := (ws_in hw).1
            have HX := hide (sub_txt s j k)
            clear hw
            go_wp2_with fail
            refine (refBlank_any s[k] _).mono ?_
            rintro e w1 ⟨rfl, rfl⟩
            go_wp2_with (at_builtin; refine wpList_append_item textTypes _ _ rfl _ _ rfl w.heap.size _ _ (sub s j k) HX.out rfl hown rfl (by omega) (by omega) ?_; intro v' w' hown' hb')
            go_roundw
            case rel => exact ⟨k + 1, -1, done ++ [sub s j k], by omega, by go_num, rfl, HW.out, hown', hb.trans hb'⟩
            case measure => simp [intOf]; omega
      · obtain rfl : k = s.size := by omega
        have hbl : True := trivial
        rcases ws_cases hw with rfl | ⟨j, rfl⟩
        · have HW := hide (ws_last hw)
          clear hw
          go_wp2_with fail
          go_roundw
          case rel => exact ⟨s.size + 1, -1, done, by omega, by go_num, rfl, HW.out, hown, hb⟩
          case measure => simp [intOf]
        · have HW := hide (ws_final hw)
          have hj := (ws_in hw).1
          have HX := hide (sub_txt s j s.size)
          clear hw
          go_wp2_with (at_builtin; refine wpList_append_item textTypes wr _ rfl _ _ rfl w.heap.size _ _ (sub s j s.size) HX.out rfl hown rfl (by omega) (by omega) ?_; intro v' w' hown' hb')
          go_roundw
          case rel => exact ⟨s.size + 1, -1, done ++ [sub s j s.size], by omega, by go_num, rfl, HW.out, hown', hb.trans hb'⟩
          case measure => simp [intOf]
    · have HE := hide (ws_end hw hle)
      have hi : ¬ (k : Int) ≤ (s.size : Int) := by omega
      go_wp2_with fail
      go_ret
      exact ⟨_, rfl, by rw [← HE.out]; exact hown, hb⟩
set_option maxHeartbeats 2000000 in
set_option maxRecDepth 100000 in
theorem refCollapse_any (s : ByteArray) (w : World) (hs : s.size ≤ 274877906944) :
    Calls Tryz.prog 205 #[.string s] w fun e w' => e = .returned (.string (collapseS s)) ∧ Below w.heap.size w w' := by
  have hW := fun w => words_any s w hs
  have hcnt := wordsG_count s.data.toList []
  have hjl := joinW_take_le s.data.toList
  have hwl := word_le s.data.toList
  have hj : joinW (wordsG [] s.data.toList) = collapseL s.data.toList := join_words _
  unfold collapseS
  rw [← hj]
  clear hj
  have hsl : s.data.toList.length = s.size := by simp
  rw [hsl] at hcnt hjl hwl
  generalize wordsG [] s.data.toList = ws at *
  have HW := hide hW
  have HJ := hide hjl
  have HL := hide hwl
  clear hW hjl hwl hsl
  go_enter Tryz.func205, Tryz.ntmps205
  go_wp2_with fail
  refine (HW.out _).mono ?_
  rintro e w1 ⟨v, rfl, hv, b1⟩
  have hform : (v = .slice none 0 0 ∧ ws = []) ∨ ∃ g cap, v = .slice (some ⟨g, 0, none⟩) ws.length cap ∧ g < w1.heap.size ∧ ∀ i (h : i < ws.length), w1.cell? ⟨g, i, none⟩ = some (.string (txt ws[i])) := by
    rcases hv.2 with ⟨h1, h2⟩ | ⟨g, cap, cur, h1, h2, h3, h4⟩
    · exact .inl ⟨h1, List.eq_nil_of_length_eq_zero h2⟩
    · refine .inr ⟨g, cap, h1, ?_, fun i h => ?_⟩
      · rcases Nat.lt_or_ge g w1.heap.size with h' | h'
        · exact h'
        · simp [Array.getElem?_eq_none h'] at h3
      · subst h1
        rw [World.ownsRow.cellAt hv i (by omega)]
        simp [cellT, h]
  clear hv
  rcases hform with ⟨rfl, rfl⟩ | ⟨g, cap, rfl, hg, hcells⟩
  · go_wp2_with fail
    go_loop [4, 5] (fun o i => o = .slice none 0 0 ∧ i = .int .i64 0) (fun _ _ => 0)
    case atStart => exact ⟨rfl, rfl⟩
    case round =>
      obtain ⟨rfl, rfl⟩ := hrel
      have hend := (OwnsB.nil 5 w1.heap.size w1).text byteTypes
      go_wp2_with fail
      go_ret
      exact ⟨rfl, b1⟩
  · have HC := hide hcells
    clear hcells
    go_wp2_with fail
    go_loopw [4, 5] (fun o i wr => ∃ k : Nat, k ≤ ws.length ∧ i = .int .i64 k ∧ OwnsB 5 w1.heap.size wr o (joinW (ws.take k)) ∧ Below w1.heap.size w1 wr) (fun _ i _ => ws.length - (intOf i).toNat)
    case atStart => exact ⟨0, Nat.zero_le _, rfl, OwnsB.nil _ _ _, Below.refl _ _⟩
    case round =>
      obtain ⟨k, hk, rfl, hown, hb⟩ := hrel
      have hsz := hb.size
      have hl1 := HJ.out k
      by_cases hlt : k < ws.length
      · have hl2 := HL.out k hlt
        have HT := hide (joinW_take ws k hlt)
        have hc : wr.cell? ⟨g, k, none⟩ = some (.string (txt ws[k])) := (hb.cell (p := ⟨g, k, none⟩) hg).trans (HC.out k hlt)
        have hts : (txt ws[k]).size ≤ 2 * s.size := by rw [txt_size]; exact hl2
        have HD : Hid ((txt ws[k]).data.toList = ws[k]) := txt_data _
        generalize txt ws[k] = tk at *
        by_cases h0 : k = 0
        · subst h0
          rw [if_pos rfl, List.append_nil] at HT
          go_wp2_with (at_builtin; refine wpList_append_text byteTypes wr rfl _ _ rfl w1.heap.size _ _ tk rfl hown rfl (by omega) (by omega) ?_; intro v2 w2 hown2 hb2)
          go_roundw
          case rel => exact ⟨0 + 1, by omega, by go_num, by rw [HT.out, ← HD.out]; exact hown2, hb.trans hb2⟩
          case measure => simp [intOf]; omega
        · rw [if_neg h0] at HT
          have h0i : (0 : Int) < (k : Int) := by omega
          have tok : True := trivial
          go_wp2_with (first | (at_builtin; have _t := tok; refine wpList_append_byte byteTypes wr _ rfl _ _ rfl w1.heap.size _ _ 32 rfl rfl hown rfl (by omega) (by omega) ?_; intro v1 w3 hown1 hb3; clear tok; have hc3 : w3.cell? ⟨g, k, none⟩ = some (.string tk) := (hb3.cell (p := ⟨g, k, none⟩) hg).trans hc; have hsz3 := hb3.size; have hl3 : (joinW (ws.take k) ++ [32]).length ≤ 2 * s.size + 1 := by (rw [List.length_append]; simp; exact hl1)) | (at_builtin; refine wpList_append_text byteTypes w3 rfl _ _ rfl w1.heap.size _ _ tk rfl hown1 rfl (by omega) (by omega) ?_; intro v2 w4 hown2 hb4))
          go_roundw
          case rel => exact ⟨k + 1, by omega, by go_num, by rw [HT.out, ← HD.out]; exact hown2, hb.trans (hb3.trans hb4)⟩
          case measure => simp [intOf]; omega
      · obtain rfl : k = ws.length := by omega
        rw [List.take_length] at hown
        have hend := hown.text byteTypes
        go_wp2_with fail
        go_ret
        exact ⟨rfl, chain b1 hb⟩
end Go.Proofs.YtnojgejcmaajmaaGreatDoor

namespace Go.Proofs.YtnojgejcmaajmaaGreatDoor
open Go.RowKit
set_option maxRecDepth 100000
set_option maxHeartbeats 4000000 in
theorem refOText_any (v : Value) (l : List Nd) (id : Int) (w : World) (hv : NodesV w v l) (hz : DocSz l) :
    Calls Tryz.prog 154 #[v, .int .i64 id] w fun e w' => e = .returned (.string (textO l id)) ∧ Below w.heap.size w w' := by
  have HI := hide (refIs_any v l id 32 w hv hz)
  cases h : isK l id 32 with
  | false =>
    have E : Hid (textO l id = ⟨#[]⟩) := by show _ = _; unfold textO; rw [h]; rfl
    rw [h] at HI
    obtain ⟨p, c, rfl, _⟩ := hv
    clear h hz
    go_enter Tryz.func154, Tryz.ntmps154
    go_wp2_with fail
    refine HI.out.mono ?_
    rintro e w1 ⟨rfl, b1⟩
    go_wp2_with fail
    go_ret
    exact ⟨ret_str E.out.symm, b1⟩
  | true =>
    have hh : hasN l id = true := by unfold isK at h; rw [Bool.and_eq_true] at h; exact h.1
    obtain ⟨m, hI⟩ := Is.of hh
    have hI' := hide hI
    obtain ⟨rfl, h0⟩ := (⟨hI.eq, hI.lt⟩ : id = (m : Int) ∧ m < l.length)
    have hR := hI.right
    have sz := right_attrsO hR h0
    have hlen := hR.len.2
    have EQ : Hid (textO l (m : Int) = if hasA l[m] oVal = true then fndS l[m].attrs oVal else collapseS (textP l (m : Int))) := by
      show _ = _
      unfold textO
      rw [if_pos h, Int.toNat_natCast, nd_at h0]
    have ts := textP_small hR h0
    rw [nd_at h0] at sz
    rw [h] at HI
    have hv' := hide hv
    have HT := hide (fun W (hb : Below w.heap.size w W) => refText_any v l (m : Int) m W (hv'.out.below hb) hI'.out)
    have HC := hide (fun W => refCollapse_any (textP l (m : Int)) W (by omega))
    obtain ⟨p, c, rfl, hv⟩ := hv
    rcases hv with hv | ⟨b, o, rfl, hv⟩
    · rw [hv] at h0; simp at h0
    obtain ⟨va, vk, N0⟩ := hv m h0
    have N1 := hide N0
    have HA := hide (fun W (hb : Below w.heap.size w W) => refAttrS_any va l[m].attrs oVal W (N1.out.at_.below hb) (by omega))
    have EH : Hid ((findA l[m].attrs oVal).isSome = hasA l[m] oVal) := rfl
    rw [EH.out] at HA
    rw [show oVal = ⟨#[118, 97, 108, 117, 101]⟩ from rfl] at HA EQ
    have i0 : (0 : Int) ≤ (m : Int) := by omega
    have i1 : (m : Int) < (l.length : Int) := by omega
    clear h hh hI N0 sz hv hz hv' hI' hR EH ts
    generalize fndS l[m].attrs ⟨#[118, 97, 108, 117, 101]⟩ = fs at *
    generalize textP l (m : Int) = tp at *
    cases g : hasA l[m] ⟨#[118, 97, 108, 117, 101]⟩ with
    | true =>
      rw [g, if_pos rfl] at EQ
      rw [g] at HA
      clear g HT HC
      go_enter Tryz.func154, Tryz.ntmps154
      go_wp2_with fail
      refine HI.out.mono ?_
      rintro e w1 ⟨rfl, b1⟩
      have a0 := cell_below N1.out.name b1
      have a1 := cell_below N1.out.text b1
      have a2 := cell_below N1.out.attrs b1
      have a3 := cell_below N1.out.parent b1
      have a4 := cell_below N1.out.kids b1
      go_wp2_with fail
      refine (HA.out _ b1).mono ?_
      rintro e u ⟨rfl, hu⟩
      obtain rfl : w1 = u := hu.symm
      go_wp2_with fail
      go_ret
      exact ⟨ret_str EQ.out.symm, b1⟩
    | false =>
      rw [g, if_neg (by decide)] at EQ
      rw [g] at HA
      clear g
      go_enter Tryz.func154, Tryz.ntmps154
      go_wp2_with fail
      refine HI.out.mono ?_
      rintro e w1 ⟨rfl, b1⟩
      have a0 := cell_below N1.out.name b1
      have a1 := cell_below N1.out.text b1
      have a2 := cell_below N1.out.attrs b1
      have a3 := cell_below N1.out.parent b1
      have a4 := cell_below N1.out.kids b1
      go_wp2_with fail
      refine (HA.out _ b1).mono ?_
      rintro e u ⟨rfl, hu⟩
      obtain rfl : w1 = u := hu.symm
      go_wp2_with fail
      refine (HT.out _ b1).mono ?_
      rintro e u ⟨rfl, hu⟩
      obtain rfl : w1 = u := hu.symm
      go_wp2_with fail
      refine (HC.out _).mono ?_
      rintro e w3 ⟨rfl, b3⟩
      go_wp2_with fail
      go_ret
      exact ⟨ret_str EQ.out.symm, chain b1 b3⟩
end Go.Proofs.YtnojgejcmaajmaaGreatDoor

namespace Go.Proofs.YtnojgejcmaajmaaGreatDoor
open Go.RowKit
set_option maxRecDepth 100000
theorem OEnv.big {w W : World} {nv cv ov av : Value} {C : List Ct} {F : List Value} {all : List Int} (h : OEnv w W nv cv ov C F av all) : w.heap.size + 1 ≤ W.heap.size := h.doc.lt
/-- A list of its own. -/
theorem OEnv.listed {w W W' : World} {nv cv ov av' : Value} {C : List Ct} {F : List Value} {all' : List Int} (h : OEnv w W nv cv ov C F (.slice none 0 0) []) (b : Below W.heap.size W W') (hk : KidsO W.heap.size W' av' all') : OEnv w W' nv cv ov C F av' all' := by
  have k := h.step b
  refine ⟨k.bel, k.doc, k.row, owns_mono hk h.big, fun j q t => ?_⟩
  have h1 := (World.ownsRow.lt hk j q).1
  have h2 := (World.ownsRow.lt h.row.row j t).2
  omega
/-- The states are others now, in their own place. -/
theorem OEnv.other {w W W' : World} {nv cv ov av : Value} {C C' : List Ct} {F : List Value} {all : List Int} (h : OEnv w W nv cv ov C F av all) (c : Chg ov.ownBlock.toList W W') (hr : CtsO (w.heap.size + 1) W' ov C' F) : OEnv w W' nv cv ov C' F av all := by
  have ge : ∀ k ∈ ov.ownBlock.toList, w.heap.size + 1 ≤ k := fun k q => (World.ownsRow.lt h.row.row k (opt_mem.1 q)).1
  refine ⟨h.bel.trans (c.below (by have := h.big; omega) (fun k q => by have := ge k q; omega)), ⟨?_⟩, hr, owns_kept h.kid c (fun k hk q => h.sep k hk (opt_mem.1 q)), h.sep⟩
  have := h.doc.lies
  rw [← this]
  exact c.block _ h.doc.lt (fun q => by have := ge _ q; omega)
theorem own_num {w W : World} {nv cv ov : Value} {pa : Option Addr} {ca : Nat} {C : List Ct} {F : List Value} {all : List Int} (h : OEnv w W nv cv ov C F (.slice pa all.length ca) all) {k : Nat} (hk : k < all.length) :
    ∃ ga, pa = some ⟨ga, 0, none⟩ ∧ W.cell? ⟨ga, k, none⟩ = some (.int .i64 all[k]) ∧ (Value.slice pa all.length ca).ownBlock = some ga := by
  obtain ⟨g, cap, e, eb, _⟩ := owns_at h.kid (by omega)
  cases e
  exact ⟨g, rfl, owns_cell h.kid eb (cellsI_at hk), eb⟩
end Go.Proofs.YtnojgejcmaajmaaGreatDoor

namespace Go.Proofs.YtnojgejcmaajmaaGreatDoor
open Go.RowKit
set_option maxRecDepth 100000
def firstT (l : List Nd) (C : List Ct) (xs : List Int) : ByteArray := match xs.find? (fun i => (st C i).sel) with
  | none => ⟨#[]⟩
  | some i => textO l i
theorem firstT_yes {l : List Nd} {C : List Ct} {all : List Int} {k : Nat} (h : k < all.length) (hs : (st C all[k]).sel = true) : firstT l C (all.drop k) = textO l all[k] := by
  unfold firstT
  rw [List.drop_eq_getElem_cons h, List.find?_cons_of_pos (p := fun i => (st C i).sel) hs]
theorem firstT_no {l : List Nd} {C : List Ct} {all : List Int} {k : Nat} (h : k < all.length) (hs : (st C all[k]).sel = false) : firstT l C (all.drop k) = firstT l C (all.drop (k + 1)) := by
  unfold firstT
  rw [List.drop_eq_getElem_cons h, List.find?_cons_of_neg (p := fun i => (st C i).sel) (by rw [hs]; decide)]
set_option maxHeartbeats 8000000 in
theorem refOValue_any (nv cv : Value) (l : List Nd) (C : List Ct) (sel : Int) (w : World) (hD : DocV w nv cv l C) (hz : DocSz l) (hC : CsOK C) :
    Calls Tryz.prog 91 #[.agg #[nv, cv], .int .i64 sel] w fun e w' => e = .returned (.string (valueO l C sel)) ∧ Below w.heap.size w w' := by
  obtain ⟨F, hF⟩ := hD.cts
  have CF := hide hF
  have E0 := hide (OEnv.new w nv cv)
  have HR := hide (fun W (hb : Below w.heap.size w W) => refORight_any nv cv l C W (hD.below hb) hz hC)
  have HL := hide (fun W (hb : Below w.heap.size w W) => refOList_any nv l sel W (hD.nds.below hb) hz)
  have HTx := hide (fun i W (hb : Below w.heap.size w W) => refOText_any nv l i W (hD.nds.below hb) hz)
  obtain ⟨p, c, ep⟩ := nds_form hD.nds
  obtain ⟨p2, c2, ep2⟩ := cts_form hD.cts
  have hl := hz.len
  have hl2 := hC.len
  subst ep ep2
  clear hD hz hC hF
  cases h : rightD l C with
  | false =>
    have E : Hid (valueO l C sel = ⟨#[]⟩) := if_neg (by rw [h]; decide)
    rw [h] at HR
    clear h HL HTx CF
    go_enter Tryz.func91, Tryz.ntmps91
    go_wp2_with fail
    refine (HR.out _ E0.out.bel).mono ?_
    rintro e w1 ⟨rfl, b1⟩
    have E1 := hide (E0.out.step b1)
    clear b1 E0
    go_wp2_with fail
    go_ret
    exact ⟨ret_str E.out.symm, E1.out.bel⟩
  | true =>
    have HRt := hide (rightD_is h).1
    have HLC := hide (rightD_is h).2
    have hlen := HRt.out.len.2
    have few := list_few HRt.out sel
    have EV : Hid (valueO l C sel = firstT l C (listP l sel)) := if_pos h
    rw [h] at HR
    obtain ⟨_, rng⟩ := list_in (l := l) (sel := sel)
    have RG : Hid (∀ i ∈ listP l sel, 0 ≤ i ∧ i < (C.length : Int)) := fun i hi => by have := rng i hi; have := HLC.out; omega
    clear h rng
    generalize listP l sel = all at *
    generalize valueO l C sel = V at *
    go_enter Tryz.func91, Tryz.ntmps91
    go_wp2_with fail
    refine (HR.out _ E0.out.bel).mono ?_
    rintro e w1 ⟨rfl, b1⟩
    have E1 := hide (E0.out.step b1)
    clear b1 E0
    have c0 := E1.out.doc.cell 0 rfl
    go_wp2_with fail
    refine (HL.out _ E1.out.bel).mono ?_
    rintro e w5 ⟨av, rfl, k5, b5⟩
    have E5 := hide (E1.out.listed b5 k5)
    obtain ⟨pa, ca, rfl, hca⟩ := kids_form k5
    clear b5 c0 HR HL k5 E1
    have EV0 : Hid (V = firstT l C (all.drop 0)) := by show _ = _; rw [List.drop_zero]; exact EV.out
    clear EV
    go_wp2_with fail
    go_loopw [6] (fun iv wr => ∃ k : Nat, k ≤ all.length ∧ iv = .int .i64 k ∧ Hid (V = firstT l C (all.drop k)) ∧ Hid (OEnv w wr (.slice p l.length c) (.slice p2 C.length c2) (.slice none 0 0) [] [] (.slice pa all.length ca) all)) (fun iv _ => all.length - (intOf iv).toNat)
    case atStart => exact ⟨0, Nat.zero_le _, rfl, EV0, E5⟩
    case round =>
      rename World => wr
      obtain ⟨k, hk, rfl, EV, ER⟩ := hrel
      clear EV0 E5
      by_cases g : k < all.length
      · have k1 : (k : Int) < (all.length : Int) := by omega
        have rx := RG.out all[k] (List.getElem_mem g)
        obtain ⟨q, eq, hq⟩ := nat_of (z := all[k]) (n := C.length) (by omega) rx.2
        obtain ⟨ga, rfl, x0, _⟩ := own_num ER.out g
        have c0 := ER.out.doc.cell 0 rfl
        have c1 := ER.out.doc.cell 1 rfl
        have FY := hide (firstT_yes (l := l) (C := C) g)
        have FN := hide (firstT_no (l := l) (C := C) g)
        rw [eq] at x0
        rw [eq, st_nat hq] at FY FN
        obtain ⟨_, p', k', e', hcs⟩ := CF.out
        cases e'
        have hcs' : ∃ b o, p2 = some ⟨b, o, none⟩ ∧ ∀ i (h : i < C.length), CtAt w b (o + i * 10) C[i] (fvAt F i) := by
          rcases hcs with t | t
          · rw [t] at hq; simp at hq
          · exact t
        obtain ⟨bc, oc, rfl, hct⟩ := hcs'
        have y0 := ((hct q hq).below ER.out.bel) 6 _ rfl
        have q0 : (0 : Int) ≤ (q : Int) := by omega
        have q1 : (q : Int) < (C.length : Int) := by omega
        have HTq := hide (fun W hb => HTx.out (q : Int) W hb)
        clear rx eq RG hcs hct CF HRt HLC HTx
        cases hs : C[q].sel with
        | true =>
          have EE := hide (EV.out.trans (FY.out hs))
          replace y0 : wr.cell? ⟨bc, oc + q * 10 + 6, none⟩ = some (.bool true) := by rw [← hs]; exact y0
          clear FY FN hs EV
          generalize textO l (q : Int) = tx at *
          go_wp2_with fail
          go_quiet (fail)
          go_wp2_with fail
          generalize hwq : wr.drewN nq = wq
          have ER2 : Hid (OEnv w wq (.slice p l.length c) (.slice (some ⟨bc, oc, none⟩) C.length c2) (.slice none 0 0) [] [] (.slice (some ⟨ga, 0, none⟩) all.length ca) all) := by rw [← hwq]; exact ER.out.drew nq
          have d0 := ER2.out.doc.cell 0 rfl
          have x2 : wq.cell? ⟨ga, k, none⟩ = some (.int .i64 (q : Int)) := by rw [← hwq]; exact x0
          clear hwq ER c0 c1 x0 y0
          go_region_held3 (fun w' => w'.cell? ⟨w.heap.size, 0, none⟩ = some (.slice p l.length c) ∧ w'.cell? ⟨ga, k, none⟩ = some (.int .i64 (q : Int))) (first | go_keep | exact ⟨cell_below d0 UR.out, cell_below x2 UR.out⟩)
            (first | (go_at_call 154; refine (HTq.out _ (belR ER2.out.bel 1)).mono ?_; rintro e wv ⟨rfl, bv⟩; have UR : Hid (Below wq.heap.size wq wv) := undrewO bv))
          go_wp2_with fail
          go_ret
          exact ⟨ret_str EE.out.symm, chain ER2.out.bel UR.out⟩
        | false =>
          have EN := hide (EV.out.trans (FN.out hs))
          replace y0 : wr.cell? ⟨bc, oc + q * 10 + 6, none⟩ = some (.bool false) := by rw [← hs]; exact y0
          clear FY FN hs EV HTq
          go_wp2_with fail
          go_quiet (fail)
          go_wp2_with fail
          go_roundw
          case rel => exact ⟨k + 1, by omega, by go_num, EN, ER.out.drew _⟩
          case measure => simp [intOf]; omega
      · obtain rfl : k = all.length := by omega
        have EE : Hid (V = ⟨#[]⟩) := by show _ = _; rw [EV.out, List.drop_length]; rfl
        clear RG HTx CF EV
        go_wp2_with fail
        go_ret
        exact ⟨ret_str EE.out.symm, ER.out.bel⟩
end Go.Proofs.YtnojgejcmaajmaaGreatDoor

namespace Go.Proofs.YtnojgejcmaajmaaGreatDoor
open Go.RowKit
set_option maxRecDepth 100000
set_option maxHeartbeats 8000000 in
theorem refVValue_any (nv cv : Value) (l : List Nd) (C : List Ct) (m : Nat) (w : World) (hD : DocV w nv cv l C) (hz : DocSz l) (hC : CsOK C) (hm : m < l.length) (hc : m < C.length) :
    Calls Tryz.prog 40 #[.agg #[nv, cv], .int .i64 (m : Int)] w fun e w' => e = .returned (.string (valE l C (m : Int))) ∧ Below w.heap.size w w' := by
  obtain ⟨F, hF⟩ := hD.cts
  have E0 := hide (OEnv.new w nv cv)
  have HVO := hide (fun W (hb : Below w.heap.size w W) => refOValue_any nv cv l C (m : Int) W (hD.below hb) hz hC)
  have FI := hide (hF.1.at_ m hc)
  have FO := hC.fs _ (List.getElem_mem hc)
  obtain ⟨_, pc, kc, rfl, hcs⟩ := hF
  obtain ⟨bc, oc, rfl, hct⟩ : ∃ b o, pc = some ⟨b, o, none⟩ ∧ ∀ i (h : i < C.length), CtAt w b (o + i * 10) C[i] (fvAt F i) := by
    rcases hcs with t | t
    · rw [t] at hc; simp at hc
    · exact t
  have CT := hide (hct m hc)
  have hv := hD.nds
  have hl := hz.len
  have hl2 := hC.len
  obtain ⟨p, c, rfl, hvv⟩ := hv
  obtain ⟨b, o, rfl, hnn⟩ : ∃ b o, p = some ⟨b, o, none⟩ ∧ ∀ i (h : i < l.length), ∃ va vk, NodeAt w b (o + i * 5) l[i] va vk := by
    rcases hvv with t | t
    · rw [t] at hm; simp at hm
    · exact t
  obtain ⟨va, vk, N⟩ := hnn m hm
  have nz := hz.nds _ (List.getElem_mem hm)
  have HO := hide (fun W (hb : Below w.heap.size w W) => refOf_any l[m] va vk W (N.at_.below hb) nz.attrs nz.tx)
  have EK : Hid (kOf l[m].name (tyOf l[m].attrs) = kI l (m : Int)) := by show _ = _; unfold kI kN; rw [Int.toNat_natCast, nd_at hm]
  rw [EK.out] at HO
  have HV := hide (fun k W (hb : Below w.heap.size w W) => refValueV_any k C[m] (fvAt F m) va l[m].attrs W (FI.out.below hb) FO (N.at_.below hb) nz.attrs)
  have E : Hid (valE l C (m : Int) = if kI l (m : Int) = 23 then valueO l C (m : Int) else valueP (kI l (m : Int)) C[m] l[m].attrs) := by show _ = _; unfold valE; rw [Int.toNat_natCast, nd_at hm, st_nat hc]
  obtain ⟨pva, cva, rfl, hxx⟩ := N.at_
  clear hxx
  obtain ⟨pvk, cvk, rfl, hxx⟩ := N.ks
  clear hxx
  have c0 := hide N.name
  have c1 := hide N.text
  have c2 := hide N.attrs
  have c3 := hide N.parent
  have c4 := hide N.kids
  have m0 : (0 : Int) ≤ (m : Int) := by omega
  have m1 : (m : Int) < (l.length : Int) := by omega
  have HV2 := hide (fun W hb => HV.out (kI l (m : Int)) W hb)
  have m2 : (m : Int) < (C.length : Int) := by omega
  clear N hvv hnn nz hz EK hD hC hcs hct HV FO
  obtain ⟨fp, fc, efv, hxx⟩ := FI.out
  rw [efv] at CT HV2
  unfold ctV ctCells at HV2
  clear hxx FI efv
  generalize valE l C (m : Int) = RES at *
  generalize valueO l C (m : Int) = vo at *
  generalize valueP (kI l (m : Int)) C[m] l[m].attrs = vp at *
  generalize kI l (m : Int) = kk at *
  generalize l[m].name = n0 at *
  generalize l[m].text = n1 at *
  generalize l[m].parent = n3 at *
  generalize l[m].attrs.length = n5 at *
  generalize l[m].kids.length = n6 at *
  by_cases hk : kk = 23
  · rw [if_pos hk] at E
    subst hk
    clear HV2 CT
    have B0 := hide E0.out.bel
    have d0 := E0.out.doc.cell 0 rfl
    have d1 := E0.out.doc.cell 1 rfl
    have u0 := cell_below c0.out B0.out
    have u1 := cell_below c1.out B0.out
    have u2 := cell_below c2.out B0.out
    have u3 := cell_below c3.out B0.out
    have u4 := cell_below c4.out B0.out
    go_enter Tryz.func40, Tryz.ntmps40
    go_wp2_with fail
    refine (HO.out _ B0.out).mono ?_
    rintro e w1 ⟨rfl, b1⟩
    have E1 := hide (E0.out.step b1)
    clear b1 E0 B0 u0 u1 u2 u3 u4 d0 d1
    have d0 := E1.out.doc.cell 0 rfl
    have d1 := E1.out.doc.cell 1 rfl
    go_wp2_with fail
    refine (HVO.out _ E1.out.bel).mono ?_
    rintro e w2 ⟨rfl, b2⟩
    go_wp2_with fail
    go_ret
    exact ⟨ret_str E.out.symm, chain E1.out.bel b2⟩
  · rw [if_neg hk] at E
    have hkb : (kk == 23) = false := beq_eq_false_iff_ne.2 hk
    clear HVO
    have B0 := hide E0.out.bel
    have d0 := E0.out.doc.cell 0 rfl
    have d1 := E0.out.doc.cell 1 rfl
    have u0 := cell_below c0.out B0.out
    have u1 := cell_below c1.out B0.out
    have u2 := cell_below c2.out B0.out
    have u3 := cell_below c3.out B0.out
    have u4 := cell_below c4.out B0.out
    go_enter Tryz.func40, Tryz.ntmps40
    go_wp2_with fail
    refine (HO.out _ B0.out).mono ?_
    rintro e w1 ⟨rfl, b1⟩
    have E1 := hide (E0.out.step b1)
    clear b1 E0 B0 u0 u1 u2 u3 u4 d0 d1
    have d0 := E1.out.doc.cell 0 rfl
    have d1 := E1.out.doc.cell 1 rfl
    have u0 := cell_below c0.out E1.out.bel
    have u1 := cell_below c1.out E1.out.bel
    have u2 := cell_below c2.out E1.out.bel
    have u3 := cell_below c3.out E1.out.bel
    have u4 := cell_below c4.out E1.out.bel
    have y0 := CT.out.below E1.out.bel 0 _ rfl
    have y1 := CT.out.below E1.out.bel 1 _ rfl
    have y2 := CT.out.below E1.out.bel 2 _ rfl
    have y3 := CT.out.below E1.out.bel 3 _ rfl
    have y4 := CT.out.below E1.out.bel 4 _ rfl
    have y5 := CT.out.below E1.out.bel 5 _ rfl
    have y6 := CT.out.below E1.out.bel 6 _ rfl
    have y7 := CT.out.below E1.out.bel 7 _ rfl
    have y8 := CT.out.below E1.out.bel 8 _ rfl
    have y9 := CT.out.below E1.out.bel 9 _ rfl
    rw [Nat.add_zero] at y0
    go_wp2_with fail
    generalize C[m].val = z0 at *
    generalize C[m].dirty = z1 at *
    generalize C[m].typed = z2 at *
    generalize C[m].chk = z3 at *
    generalize C[m].dchk = z4 at *
    generalize C[m].mixed = z5 at *
    generalize C[m].sel = z6 at *
    generalize C[m].dsel = z7 at *
    generalize C[m].custom = z8 at *
    generalize C[m].files.length = z9 at *
    clear CT
    go_region_held3 (fun w' => w'.cell? ⟨w.heap.size, 0, none⟩ = some (.slice (some ⟨b, o, none⟩) l.length c) ∧ w'.cell? ⟨w.heap.size, 1, none⟩ = some (.slice (some ⟨bc, oc, none⟩) C.length kc) ∧ w'.cell? ⟨bc, oc + m * 10, none⟩ = some (.string z0) ∧ w'.cell? ⟨bc, oc + m * 10 + 1, none⟩ = some (.bool z1) ∧ w'.cell? ⟨bc, oc + m * 10 + 2, none⟩ = some (.bool z2) ∧ w'.cell? ⟨bc, oc + m * 10 + 3, none⟩ = some (.bool z3) ∧ w'.cell? ⟨bc, oc + m * 10 + 4, none⟩ = some (.bool z4) ∧ w'.cell? ⟨bc, oc + m * 10 + 5, none⟩ = some (.bool z5) ∧ w'.cell? ⟨bc, oc + m * 10 + 6, none⟩ = some (.bool z6) ∧ w'.cell? ⟨bc, oc + m * 10 + 7, none⟩ = some (.bool z7) ∧ w'.cell? ⟨bc, oc + m * 10 + 8, none⟩ = some (.string z8) ∧ w'.cell? ⟨bc, oc + m * 10 + 9, none⟩ = some (.slice fp z9 fc) ∧ w'.cell? ⟨b, o + m * 5 + 2, none⟩ = some (.slice pva n5 cva)) (first | go_keep | exact ⟨cell_below d0 UR.out, cell_below d1 UR.out, cell_below y0 UR.out, cell_below y1 UR.out, cell_below y2 UR.out, cell_below y3 UR.out, cell_below y4 UR.out, cell_below y5 UR.out, cell_below y6 UR.out, cell_below y7 UR.out, cell_below y8 UR.out, cell_below y9 UR.out, cell_below u2 UR.out⟩)
      (first | (go_at_call 92; refine (HV2.out _ (belR E1.out.bel 1)).mono ?_; rintro e wv ⟨rfl, bv⟩; have UR : Hid (Below w1.heap.size w1 wv) := undrewO bv))
    go_wp2_with fail
    go_ret
    exact ⟨ret_str E.out.symm, chain E1.out.bel UR.out⟩
end Go.Proofs.YtnojgejcmaajmaaGreatDoor

namespace Go.Proofs.YtnojgejcmaajmaaGreatDoor
open Go.RowKit
set_option maxRecDepth 100000
theorem wpList_append_two {P : Program} {t e st : TypeId} (bt : ByteTypes P t e st) {ops : Array Oper} {rest : List Oper} {o : Oper} {a : Act} {Q : Exit → Act → World → Prop} (w : World) (y z : Int)
    (hgd : o.guard = none) (s x : Operand) (ho : o.op = .call { callee := .builtin .append, args := #[s, x], argTypes := #[t, t] })
    (base : Nat) (v : Value) (l : List UInt8) (c d : UInt8) (hy : y = (c.toNat : Int)) (hz : z = (d.toNat : Int)) (hs : a.eval s = v) (hown : OwnsB e base w v l)
    (hx : a.eval x = .slice (some ⟨w.heap.size, 0, none⟩) 2 2) (hlen : l.length ≤ 70368744177664) (hbase : base ≤ w.heap.size)
    (h : ∀ v' w', OwnsB e base w' v' (l ++ [c, d]) → Below base w w' → wpList P ops Q rest (a.put o.dst v') w') : wpList P ops Q (o :: rest) a (w.alloc (.cells #[.int .u8 y, .int .u8 z] e)) := by
  subst hy hz
  obtain ⟨i, hi, hz0, hz1, hz2⟩ := info_parts bt.info
  have hown' : (w.alloc (.cells #[.int .u8 (c.toNat : Int), .int .u8 (d.toNat : Int)] e)).ownsRow base e 1 v l.length (l.map cellB) := World.ownsRow.alloc hown _
  refine wpList_append_own (P := P) _ hgd s x t ho base e i (.int .u8 0) 1 1 bt.sl hi hz0 hz1 hz2 rfl (by decide) v l.length (l.map cellB) hs hown' ⟨w.heap.size, 0, none⟩ 2 2 [cellB c, cellB d] hx rfl (cell_two_new _ _ _ _) (fun u hu => by simp at hu; rcases hu with rfl | rfl <;> rfl) (by unfold maxLen; omega) (by omega) (by simp; omega) ?_
  intro v' w' h1 h2 _
  refine h v' w' ?_ (((Below.refl base w).alloc hbase _).trans (grown_below hown' h2 (by simp; omega)))
  simpa [OwnsB] using h1
set_option maxHeartbeats 8000000 in
theorem refEncode21_any (n : Nat) (v : Value) (l : List En) (w : World) (hv : FilesV w v l) (hn : n ≤ 1000000) (hl : EnsOK n l) :
    Calls Tryz.prog 95 #[v] w fun e w' => e = .returned (.string (txt (encN l))) ∧ Below w.heap.size w w' := by
  have HP := hide (refPlain19_any n v l w hv (by omega) hl)
  have PS := hide (plain_sizesN hl)
  have PN : Hid ((plainU l).length ≤ 200) := by show _ ≤ _; unfold plainU; rw [List.length_map]; exact hl.len
  have PT := hide (fun k => enN_len PS.out PN.out k)
  have EE : Hid (txt (enN (plainU l) (plainU l).length) = txt (encN l)) := by show _ = _; unfold enN; rw [List.take_length]; rfl
  obtain ⟨pl, cl, rfl⟩ : ∃ p c, v = .slice p l.length c := by obtain ⟨p, c, e, _⟩ := hv; exact ⟨p, c, e⟩
  have p200 := PN.out
  generalize plainU l = p at *
  generalize txt (encN l) = RES at *
  clear hv hl PN
  go_enter Tryz.func95, Tryz.ntmps95
  go_wp2_with fail
  refine HP.out.mono ?_
  rintro e wp ⟨vp, rfl, op, bp⟩
  have PF := hide op.files
  obtain ⟨q, cq, rfl⟩ := op.form
  have BP := hide bp
  clear op bp HP
  go_wp2_with fail
  go_loopw [3, 5] (fun ov iv wr => ∃ k : Nat, k ≤ p.length ∧ iv = .int .i64 k ∧ OwnsB 5 wp.heap.size wr ov (enN p k) ∧ Hid (Below wp.heap.size wp wr)) (fun _ iv _ => p.length - (intOf iv).toNat)
  case atStart => exact ⟨0, Nat.zero_le _, rfl, OwnsB.nil _ _ _, Below.refl _ _⟩
  case round =>
    rename World => wr
    obtain ⟨k, hk, rfl, OW, BW⟩ := hrel
    by_cases g : k < p.length
    · have k1 : (k : Int) < (p.length : Int) := by omega
      have k0 : (0 : Int) ≤ (k : Int) := by omega
      obtain ⟨q', c', eq, hq⟩ := PF.out
      cases eq
      obtain ⟨b, o, rfl, hc⟩ : ∃ b o, q = some ⟨b, o, none⟩ ∧ ∀ i (h : i < p.length), EnAt wp b (o + i * 5) p[i] := by
        rcases hq with t | t
        · rw [t] at g; simp at g
        · exact t
      have EA := hide (hc k g)
      have sz := PS.out _ (List.getElem_mem g)
      have L0 := PT.out k
      have EX := hide (enN_next g)
      have sw := BW.out.size
      obtain ⟨sz0, sz1⟩ := sz
      clear hc hq PS PT PF EE
      generalize enN p k = C at *
      generalize p[k] = ek at *
      have a0 := (EA.out.below BW.out).c0
      go_wp2_with (first
        | (at_builtin; refine wpList_append_text byteTypesE wr rfl _ _ rfl wp.heap.size _ C ek.name rfl OW rfl (by omega) (by omega) ?_; intro v2 w2 o2 b2; have W2 : Hid (Below wp.heap.size wp w2) := BW.out.trans b2; have m2 := W2.out.size)
        | (at_builtin; refine wpList_append_byte byteTypesE w2 _ rfl _ _ rfl wp.heap.size _ (C ++ bL ek.name) (61 : UInt8) rfl rfl o2 rfl (by simp only [List.length_append, len_bL]; omega) (by omega) ?_; intro v3 w3 o3 b3; have W3 : Hid (Below wp.heap.size wp w3) := W2.out.trans b3; have m3 := W3.out.size; have a1 := (EA.out.below W3.out).c1)
        | (at_builtin; refine wpList_append_text byteTypesE w3 rfl _ _ rfl wp.heap.size _ ((C ++ bL ek.name) ++ [61]) ek.val rfl o3 rfl (by simp only [List.length_append, List.length_cons, List.length_nil, len_bL]; omega) (by omega) ?_; intro v4 w4 o4 b4; have W4 : Hid (Below wp.heap.size wp w4) := W3.out.trans b4; have m4 := W4.out.size)
        | (at_builtin; refine wpList_append_two byteTypesE w4 _ _ rfl _ _ rfl wp.heap.size _ (((C ++ bL ek.name) ++ [61]) ++ bL ek.val) (13 : UInt8) (10 : UInt8) rfl rfl rfl o4 rfl (by simp only [List.length_append, List.length_cons, List.length_nil, len_bL]; omega) (by omega) ?_; intro v5 w5 o5 b5))
      have W5 : Hid (Below wp.heap.size wp w5) := W4.out.trans b5
      rw [← EX.out] at o5
      go_roundw
      case rel => exact ⟨k + 1, by omega, by go_num, o5, W5⟩
      case measure => simp [intOf]; omega
    · obtain rfl : k = p.length := by omega
      have hend := OW.text byteTypesE
      rw [EE.out] at hend
      clear PF PS PT EE
      go_wp2_with fail
      go_ret
      exact ⟨rfl, chain BP.out BW.out⟩
end Go.Proofs.YtnojgejcmaajmaaGreatDoor

namespace Go.Proofs.YtnojgejcmaajmaaGreatDoor
open Go.RowKit
set_option maxRecDepth 100000
theorem fnd_pos {t l : List UInt8} : decide (0 ≤ fndI t l 0) = !(cutL t l).isNone := by
  unfold fndI
  cases cutL t l with
  | none => rfl
  | some p => exact decide_eq_true (by show (0 : Int) ≤ ((0 + p.1.length : Nat) : Int); omega)
theorem all_takeE (f : En → Bool) (l : List En) {k : Nat} (h : k < l.length) : (l.take (k + 1)).all f = ((l.take k).all f && f l[k]) := by
  rw [List.take_succ_eq_append_getElem h, List.all_append]; simp
set_option maxHeartbeats 8000000 in
theorem refClear_any (n : Nat) (v : Value) (l : List En) (b : ByteArray) (w : World) (hv : FilesV w v l) (hn : n ≤ 1000000) (hl : EnsOK n l) (hb : b.size ≤ 1099511627776) :
    Calls Tryz.prog 93 #[v, .string b] w fun e w' => e = .returned (.bool (clrL l (bL b))) ∧ Below w.heap.size w w' := by
  have FV := hide hv
  have HF := hide (refFit_any b w hb)
  have HZ := hide (ens_z hl hn)
  have l200 := hl.len
  have E : Hid (clrL l (bL b) = (fitL (bL b) && l.all fun e => (cutL (bL b) (partL e)).isNone)) := rfl
  generalize clrL l (bL b) = RES at *
  obtain ⟨p, c, rfl⟩ := files_formP hv
  clear hv hl
  cases ft : fitL (bL b) with
  | false =>
    rw [ft] at HF E
    clear ft
    go_enter Tryz.func93, Tryz.ntmps93
    go_wp2_with fail
    refine HF.out.mono ?_
    rintro e w1 ⟨rfl, b1⟩
    go_wp2_with fail
    go_ret
    exact ⟨ret_bool E.out.symm, b1⟩
  | true =>
    rw [ft, Bool.true_and] at E
    rw [ft] at HF
    clear ft
    go_enter Tryz.func93, Tryz.ntmps93
    go_wp2_with fail
    refine HF.out.mono ?_
    rintro e w1 ⟨rfl, b1⟩
    go_wp2_with fail
    go_loopw [5] (fun iv wr => ∃ k : Nat, k ≤ l.length ∧ iv = .int .i64 k ∧ Hid ((l.take k).all (fun e => (cutL (bL b) (partL e)).isNone) = true) ∧ Hid (Below w.heap.size w wr)) (fun iv _ => l.length - (intOf iv).toNat)
    case atStart => exact ⟨0, Nat.zero_le _, rfl, rfl, b1⟩
    case round =>
      rename World => wr
      obtain ⟨k, hk, rfl, HA, BW⟩ := hrel
      by_cases g : k < l.length
      · have k1 : (k : Int) < (l.length : Int) := by omega
        have k0 : (0 : Int) ≤ (k : Int) := by omega
        obtain ⟨bb, oo, rfl, EA⟩ := en_of (FV.out.below BW.out) g
        have a0 := EA.c0
        have a1 := EA.c1
        have a2 := EA.c2
        have a3 := EA.c3
        have a4 := EA.c4
        have zz := HZ.out _ (List.getElem_mem g)
        have ps := part_size zz
        have HP := hide (fun W => refPart_any l[k] W zz)
        have HI := hide (fun W => refFindP_any (txt (partL l[k])) b 0 W (by show (partL l[k]).length ≤ _; omega) hb (Nat.zero_le _))
        have ER : Hid (fndI (bL b) ((bL (txt (partL l[k]))).drop 0) 0 = fndI (bL b) (partL l[k]) 0) := rfl
        rw [ER.out] at HI
        have FP := hide (fnd_pos (t := bL b) (l := partL l[k]))
        have TK := hide (all_takeE (fun e => (cutL (bL b) (partL e)).isNone) l g)
        rw [HA.out, Bool.true_and] at TK
        have NO : Hid ((cutL (bL b) (partL l[k])).isNone = false → RES = false) := fun t => by
          rw [E.out]
          exact List.all_eq_false.2 ⟨l[k], List.getElem_mem g, by rw [t]; decide⟩
        clear EA zz ps ER HA E HZ FV
        generalize fndI (bL b) (partL l[k]) 0 = z at *
        have TK2 : Hid ((l.take (k + 1)).all (fun e => (cutL (bL b) (partL e)).isNone) = (cutL (bL b) (partL l[k])).isNone) := TK.out
        clear TK
        generalize (cutL (bL b) (partL l[k])).isNone = nn at *
        generalize txt (partL l[k]) = pt at *
        generalize l[k].name = t0 at *
        generalize l[k].val = t1 at *
        generalize l[k].file = t2 at *
        generalize l[k].fname = t3 at *
        generalize l[k].typ = t4 at *
        cases nn with
        | true =>
          have d : decide (0 ≤ z) = false := FP.out
          have TKx : Hid ((l.take (k + 1)).all (fun e => (cutL (bL b) (partL e)).isNone) = true) := TK2.out
          clear NO FP TK2
          go_wp2_with fail
          refine (HP.out _).mono ?_
          rintro e w2 ⟨rfl, b2⟩
          go_wp2_with fail
          refine (HI.out _).mono ?_
          rintro e w3 ⟨rfl, hu⟩
          obtain rfl : w2 = w3 := hu.symm
          go_wp2_with fail
          go_roundw
          case rel => exact ⟨k + 1, by omega, by go_num, TKx, chain BW.out b2⟩
          case measure => simp [intOf]; omega
        | false =>
          have d : decide (0 ≤ z) = true := FP.out
          have R1 := hide (NO.out rfl)
          clear NO FP TK2
          go_wp2_with fail
          refine (HP.out _).mono ?_
          rintro e w2 ⟨rfl, b2⟩
          go_wp2_with fail
          refine (HI.out _).mono ?_
          rintro e w3 ⟨rfl, hu⟩
          obtain rfl : w2 = w3 := hu.symm
          go_wp2_with fail
          go_ret
          exact ⟨ret_bool R1.out.symm, chain BW.out b2⟩
      · obtain rfl : k = l.length := by omega
        rw [List.take_length] at HA
        rw [HA.out] at E
        clear HA FV HZ
        go_wp2_with fail
        go_ret
        exact ⟨ret_bool E.out.symm, BW.out⟩
set_option maxHeartbeats 8000000 in
theorem refChoose_any (n : Nat) (v dv : Value) (l : List En) (ds : List ByteArray) (w : World) (hv : FilesV w v l) (hd : DrawsV w dv ds) (hn : n ≤ 1000000) (hl : EnsOK n l) (hz : ∀ d ∈ ds.take 8, d.size ≤ 1099511627776) :
    Calls Tryz.prog 42 #[v, dv] w fun e w' => e = .returned (.tuple #[.string (chsT (chsP l ds)), .int .i64 (chsE (chsP l ds))]) ∧ Below w.heap.size w w' := by
  have DV := hide hd
  have HC := hide (fun d (hz : d.size ≤ 1099511627776) W (hb : Below w.heap.size w W) => refClear_any n v l d W (hv.below hb) hn hl hz)
  obtain ⟨RES, hRES⟩ : ∃ R, Hid (chsP l ds = R) := ⟨_, show _ = _ from rfl⟩
  rw [hRES.out]
  have T8 : Hid ((ds.take 8).length ≤ 8) := List.length_take_le _ _
  have TL : Hid ((ds.take 8).length = min 8 ds.length) := List.length_take
  obtain ⟨p, c, rfl⟩ := files_formP hv
  obtain ⟨pd, cd, rfl⟩ : ∃ p c, dv = .slice p ds.length c := by obtain ⟨p, c, e, _⟩ := hd; exact ⟨p, c, e⟩
  have HZ := hide hz
  have ST : Hid (((ds.take 8).drop 0).find? (fun d => clrL l (bL d)) = RES) := hRES.out
  clear hv hd hl hz hRES
  go_enter Tryz.func42, Tryz.ntmps42
  go_wp2_with fail
  go_loopw [6] (fun iv wr => ∃ k : Nat, k ≤ (ds.take 8).length ∧ iv = .int .i64 k ∧ Hid (((ds.take 8).drop k).find? (fun d => clrL l (bL d)) = RES) ∧ Hid (Below w.heap.size w wr)) (fun iv _ => 9 - (intOf iv).toNat)
  case atStart => exact ⟨0, Nat.zero_le _, rfl, ST, Below.refl _ _⟩
  case round =>
    rename World => wr
    obtain ⟨k, hk, rfl, HE, BW⟩ := hrel
    clear ST
    have t8 := T8.out
    by_cases g : k < (ds.take 8).length
    · have tl := TL.out
      have gd : k < ds.length := by omega
      have k8 : k < 8 := by omega
      have d0 : decide ((k : Int) < (ds.length : Int)) = true := decide_eq_true (by omega)
      have d1 : decide ((k : Int) < 8) = true := decide_eq_true (by omega)
      have k1 : (k : Int) < (ds.length : Int) := by omega
      have k0 : (0 : Int) ≤ (k : Int) := by omega
      obtain ⟨bb, oo, rfl, x0⟩ := draw_of (DV.out.below BW.out) gd
      have eg : (ds.take 8)[k] = ds[k] := List.getElem_take
      have zz := HZ.out _ (List.getElem_mem g)
      have HQ := hide (HC.out (ds.take 8)[k] zz wr BW.out)
      have FS := hide (find_skip (p := fun d => clrL l (bL d)) g)
      have FH := hide (find_here (p := fun d => clrL l (bL d)) g)
      rw [eg] at HQ FS FH
      have EY : Hid (clrL l (bL ds[k]) = true → RES = some ds[k]) := fun t => by rw [← HE.out]; exact FH.out t
      have EN : Hid (clrL l (bL ds[k]) = false → ((ds.take 8).drop (k + 1)).find? (fun d => clrL l (bL d)) = RES) := fun t => by rw [← HE.out]; exact (FS.out t).symm
      have XB := hide (fun W (hb : Below wr.heap.size wr W) => cell_below x0 hb)
      clear zz FS FH HE HC HZ eg tl
      generalize ds[k] = dk at *
      cases q : clrL l (bL dk) with
      | true =>
        rw [q] at HQ
        have R1 := hide (EY.out q)
        clear EY EN q
        go_wp2_with fail
        refine HQ.out.mono ?_
        rintro e w1 ⟨rfl, b1⟩
        have x1 := XB.out _ b1
        go_wp2_with fail
        go_ret2
        exact ⟨by rw [R1.out]; rfl, chain BW.out b1⟩
      | false =>
        rw [q] at HQ
        have R1 := hide (EN.out q)
        clear EY EN q
        go_wp2_with fail
        refine HQ.out.mono ?_
        rintro e w1 ⟨rfl, b1⟩
        go_wp2_with fail
        go_roundw
        case rel => exact ⟨k + 1, by omega, by go_num, R1, chain BW.out b1⟩
        case measure => simp [intOf]; omega
    · have R1 : Hid (RES = none) := by
        show _ = _
        rw [← HE.out, List.drop_of_length_le (by omega)]; rfl
      have tl := TL.out
      clear HE HC HZ DV TL T8
      by_cases gd : k < ds.length
      · have d0 : decide ((k : Int) < (ds.length : Int)) = true := decide_eq_true (by omega)
        have d1 : decide ((k : Int) < 8) = false := decide_eq_false (by omega)
        clear tl t8 g hk
        go_wp2_with fail
        go_ret2
        exact ⟨by rw [R1.out]; rfl, BW.out⟩
      · have d0 : decide ((k : Int) < (ds.length : Int)) = false := decide_eq_false (by omega)
        clear tl t8 g hk
        go_wp2_with fail
        go_ret2
        exact ⟨by rw [R1.out]; rfl, BW.out⟩
set_option maxHeartbeats 8000000 in
theorem refEncode20_any (n : Nat) (v : Value) (l : List En) (b : ByteArray) (w : World) (hv : FilesV w v l) (hn : n ≤ 1000000) (hl : EnsOK n l) (hb : b.size ≤ 1000) :
    Calls Tryz.prog 94 #[v, .string b] w fun e w' => e = .returned (.tuple #[.string (encT20 l b), .int .i64 (encE20 l b)]) ∧ Below w.heap.size w w' := by
  have FV := hide hv
  have HC := hide (refClear_any n v l b w hv hn hl (by omega))
  have HZ := hide (ens_z hl hn)
  have l200 := hl.len
  obtain ⟨p, c, rfl⟩ := files_formP hv
  have PT := hide (fun k => enT_len (b := bL b) HZ.out l200 (by rw [len_bL]; exact hb) k)
  clear hv hl
  cases q : clrL l (bL b) with
  | false =>
    rw [q] at HC
    have E1 : Hid (encT20 l b = ⟨#[]⟩) := by show _ = _; unfold encT20; rw [q]; rfl
    have E2 : Hid (encE20 l b = 10) := by show _ = _; unfold encE20; rw [q]; rfl
    clear q FV HZ PT
    go_enter Tryz.func94, Tryz.ntmps94
    go_wp2_with fail
    refine HC.out.mono ?_
    rintro e w1 ⟨rfl, b1⟩
    go_wp2_with fail
    go_ret2
    exact ⟨ret_chs E1.out.symm E2.out.symm, b1⟩
  | true =>
    rw [q] at HC
    have E1 : Hid (txt (encP l (bL b)) = encT20 l b) := by show _ = _; unfold encT20; rw [q]; rfl
    have E2 : Hid (encE20 l b = 0) := by show _ = _; unfold encE20; rw [q]; rfl
    clear q
    go_enter Tryz.func94, Tryz.ntmps94
    go_wp2_with fail
    refine HC.out.mono ?_
    rintro e w1 ⟨rfl, b1⟩
    have B1 := hide b1
    clear b1 HC
    go_wp2_with fail
    go_loopw [6, 7] (fun ov iv wr => ∃ k : Nat, k ≤ l.length ∧ iv = .int .i64 k ∧ OwnsB 5 w1.heap.size wr ov (enT l (bL b) k) ∧ Hid (Below w1.heap.size w1 wr)) (fun _ iv _ => l.length - (intOf iv).toNat)
    case atStart => exact ⟨0, Nat.zero_le _, rfl, OwnsB.nil _ _ _, Below.refl _ _⟩
    case round =>
      rename World => wr
      obtain ⟨k, hk, rfl, OW, BW⟩ := hrel
      have L0 := PT.out k
      have sw := BW.out.size
      by_cases g : k < l.length
      · have k1 : (k : Int) < (l.length : Int) := by omega
        have k0 : (0 : Int) ≤ (k : Int) := by omega
        obtain ⟨bb, oo, rfl, EA0⟩ := en_of (FV.out.below B1.out) g
        have EA := hide EA0
        have zq := HZ.out _ (List.getElem_mem g)
        have ps := part_size zq
        have HP := hide (fun W => refPart_any l[k] W zq)
        have EX : Hid (enT l (bL b) (k + 1) = ((((enT l (bL b) k ++ [45, 45]) ++ bL b) ++ [13, 10]) ++ bL (txt (partL l[k]))) ++ [13, 10]) := enT_next l (bL b) g
        have zp : (txt (partL l[k])).size ≤ 16000200 := by show (partL l[k]).length ≤ _; omega
        have XC := hide (fun W (hb : Below w1.heap.size w1 W) => EA.out.below hb)
        clear EA0 EA zq ps HZ FV PT E1 E2
        generalize txt (partL l[k]) = pt at *
        generalize enT l (bL b) k = C at *
        generalize l[k] = ek at *
        go_wp2_with (first | (at_builtin; refine wpList_append_text byteTypesE wr rfl _ _ rfl w1.heap.size _ C ⟨#[45, 45]⟩ rfl OW rfl (by show C.length + 2 ≤ _; omega) (by omega) ?_; intro v2 w2 o2 b2; have W2 : Hid (Below w1.heap.size w1 w2) := BW.out.trans b2; have m2 := W2.out.size) | (at_builtin; refine wpList_append_text byteTypesE w2 rfl _ _ rfl w1.heap.size _ (C ++ [45, 45]) b rfl o2 rfl (by simp only [List.length_append, List.length_cons, List.length_nil]; omega) (by omega) ?_; intro v3 w3 o3 b3; have W3 : Hid (Below w1.heap.size w1 w3) := W2.out.trans b3; have m3 := W3.out.size) | (at_builtin; refine wpList_append_text byteTypesE w3 rfl _ _ rfl w1.heap.size _ ((C ++ [45, 45]) ++ bL b) ⟨#[13, 10]⟩ rfl o3 rfl (by simp only [List.length_append, List.length_cons, List.length_nil, len_bL]; show _ + 2 ≤ _; omega) (by omega) ?_; intro v4 w4 o4 b4; have W4 : Hid (Below w1.heap.size w1 w4) := W3.out.trans b4; have m4 := W4.out.size; have EA4 := XC.out _ W4.out; have a0 := EA4.c0; have a1 := EA4.c1; have a2 := EA4.c2; have a3 := EA4.c3; have a4 := EA4.c4))
        refine (HP.out _).mono ?_
        rintro e w5 ⟨rfl, b5⟩
        have o5 := OwnsB.below o4 b5
        have W5 := hide (chain W4.out b5)
        have m5 := W5.out.size
        clear b5 HP
        go_wp2_with (first | (at_builtin; refine wpList_append_text byteTypesE w5 rfl _ _ rfl w1.heap.size _ (((C ++ [45, 45]) ++ bL b) ++ [13, 10]) pt rfl o5 rfl (by simp only [List.length_append, List.length_cons, List.length_nil, len_bL]; omega) (by omega) ?_; intro v6 w6 o6 b6; have W6 : Hid (Below w1.heap.size w1 w6) := W5.out.trans b6; have m6 := W6.out.size) | (at_builtin; refine wpList_append_text byteTypesE w6 rfl _ _ rfl w1.heap.size _ ((((C ++ [45, 45]) ++ bL b) ++ [13, 10]) ++ bL pt) ⟨#[13, 10]⟩ rfl o6 rfl (by simp only [List.length_append, List.length_cons, List.length_nil, len_bL]; show _ + 2 ≤ _; omega) (by omega) ?_; intro v7 w7 o7 b7; have W7 : Hid (Below w1.heap.size w1 w7) := W6.out.trans b7; have m7 := W7.out.size))
        rw [← EX.out] at o7
        go_roundw
        case rel => exact ⟨k + 1, by omega, by go_num, o7, W7⟩
        case measure => simp [intOf]; omega
      · obtain rfl : k = l.length := by omega
        have EA : Hid (((enT l (bL b) l.length ++ [45, 45]) ++ bL b) ++ [45, 45, 13, 10] = encP l (bL b)) := enT_all l (bL b)
        clear FV HZ PT
        generalize enT l (bL b) l.length = C at *
        generalize encP l (bL b) = EP at *
        go_wp2_with (first | (at_builtin; refine wpList_append_text byteTypesE wr rfl _ _ rfl w1.heap.size _ C ⟨#[45, 45]⟩ rfl OW rfl (by show C.length + 2 ≤ _; omega) (by omega) ?_; intro v2 w2 o2 b2; have W2 : Hid (Below w1.heap.size w1 w2) := BW.out.trans b2; have m2 := W2.out.size) | (at_builtin; refine wpList_append_text byteTypesE w2 rfl _ _ rfl w1.heap.size _ (C ++ [45, 45]) b rfl o2 rfl (by simp only [List.length_append, List.length_cons, List.length_nil]; omega) (by omega) ?_; intro v3 w3 o3 b3; have W3 : Hid (Below w1.heap.size w1 w3) := W2.out.trans b3; have m3 := W3.out.size) | (at_builtin; refine wpList_append_text byteTypesE w3 rfl _ _ rfl w1.heap.size _ ((C ++ [45, 45]) ++ bL b) ⟨#[45, 45, 13, 10]⟩ rfl o3 rfl (by simp only [List.length_append, List.length_cons, List.length_nil, len_bL]; show _ + 4 ≤ _; omega) (by omega) ?_; intro v4 w4 o4 b4; rw [EA.out] at o4; have hend := OwnsB.text byteTypesE o4; have W4 : Hid (Below w1.heap.size w1 w4) := W3.out.trans b4; have m4 := W4.out.size))
        go_ret2
        exact ⟨ret_chs E1.out E2.out.symm, chain B1.out W4.out⟩

end Go.Proofs.YtnojgejcmaajmaaGreatDoor
